/- The contract of Push. Conditions: the queue stands, with at most 2^30 pieces; so does the piece, its data at most 2^40 bytes.
The contracts of reaches and of ended; a row parted in two. Conditions: the queue stands, its numbers go on from its beginning to its end, fewer than 2^31 in all.
A row of pieces parted in two, its front cleared; the contract of Ack. Conditions: the queue stands, its numbers go on from its beginning to its end, at most 2^31 in all; at most 2^30 pieces, with data of at most 2^40 bytes each. -/
import Derived.Test.YtlcegchdkigibaaGreatDoorMg12
import Derived.Test.YtlcegchdkigibaaGreatDoorMg13
import Derived.WalkMore
namespace Go.Proofs.YtlcegchdkigibaaGreatDoor.LF
set_option linter.unusedVariables false
set_option linter.unusedSimpArgs false
open Go.RowKit

theorem sizeU32 : (Tryz.prog.info? 36).map (·.size) = some 1 := by kernel_rfl

/-- The blocks in which a queue lies. -/
def Qb (qb : Nat) (v : Value) (l : List Pc) (g : Nat) : Prop := g = qb ∨ v.ownBlock = some g ∨ ∃ p ∈ l, p.blk = some g
section
variable {t : TypeId} {base : Nat} {w w' : World} {qb : Nat} {v : Value} {l : List Pc} {en : Nat}
theorem Qu.in_ (h : Qu t base w qb v l en) {g : Nat} (hg : Qb qb v l g) : base ≤ g ∧ g < w.heap.size := by
  rcases hg with rfl | hg | ⟨p, hp, hg⟩
  · exact ⟨h.lo, h.lt⟩
  · exact h.row.in_ hg
  · exact (h.ok p hp).lt hg
theorem Qu.frame (h : Qu t base w qb v l en) {m : Nat → Prop} (c : Ch w w' m) (hm : ∀ g, Qb qb v l g → ¬ m g) : Qu t base w' qb v l en :=
  h.ch c (hm qb (.inl rfl)) (fun g hg => hm g (.inr (.inl hg))) (fun p hp g hg => hm g (.inr (.inr ⟨p, hp, hg⟩)))
end
def Pc.at (p : Pc) (s : Nat) : Pc := { p with seq := s }
def Ky.at (k : Ky) (s : Nat) : Ky := { k with seq := s }
theorem key_at (p : Pc) (s : Nat) : (p.at s).key = p.key.at s := rfl
theorem len_at (k : Ky) (s : Nat) : (k.at s).len = k.len := rfl
theorem vals_at (p : Pc) (s : Nat) : p.vals.set 0 (.int .u32 (s : Int)) = (p.at s).vals := rfl
theorem PG.at_ {w : World} {p : Pc} (h : PG w p) {s : Nat} (hs : s < 4294967296) : PG w (p.at s) := ⟨hs, h.dsn, h.data⟩
/-- What Push leaves. -/
def PushP (t : TypeId) (base : Nat) (w : World) (qb : Nat) (v : Value) (l : List Pc) (en : Nat) (k : Ky) (e : Ending) (w' : World) : Prop :=
  ∃ (q : Pc) (v' : Value) (l' : List Pc) (m : Nat), e = .returned (.agg q.vals.toArray) ∧ q.key = k.at en ∧ PO m w' q ∧ w.heap.size ≤ m ∧ Qu t base w' qb v' l' (on en (k.len : Int)) ∧
    l'.map Pc.key = l.map Pc.key ++ (if 0 < k.len then [k.at en] else []) ∧ (∀ g, Qb qb v' l' g → g < m) ∧ (∀ g, Qb qb v' l' g → Qb qb v l g ∨ w.heap.size ≤ g) ∧ Ch w w' (fun k => k = qb ∨ v.ownBlock = some k)

theorem _root_.Go.Proofs.YtlcegchdkigibaaGreatDoor.RB.ch {w w' : World} {A : Option Addr} {n c : Nat} {l : List UInt8} {m : Nat → Prop} (h : RB w A n c l) (k : Ch w w' m) (hm : ∀ g o s, A = some ⟨g, o, s⟩ → 0 < n → ¬ m g) : RB w' A n c l :=
  ⟨h.1, h.2.1, h.2.2.1, fun hn => by
    obtain ⟨b, o, e, hc⟩ := h.2.2.2 hn
    exact ⟨b, o, e, fun j hj => k.cell (hc j hj) (hm b o none e hn)⟩⟩
/-- Both ways of Push, at their end. -/
theorem push_done {t : TypeId} {base : Nat} {w w12 w13 w14 : World} {qb : Nat} {v v9 : Value} {l l' : List Pc} {en e2 : Nat} {k : Ky} {q : Pc} (H : Qu t base w qb v l en) (HQ : Qu t base w12 qb v9 l' e2) (he : on en (k.len : Int) = e2)
    (hk : l'.map Pc.key = l.map Pc.key ++ (if 0 < k.len then [k.at en] else [])) (hl : ∀ p ∈ l', p ∈ l ∨ ∀ g, p.blk = some g → w.heap.size + 2 ≤ g) (O : v9.ownBlock = v.ownBlock ∨ ∃ g, v9.ownBlock = some g ∧ w.heap.size + 2 ≤ g)
    (C : Ch w w12 (fun k => k = qb ∨ v.ownBlock = some k)) (hs : w.heap.size + 2 ≤ w12.heap.size) (hq : q.key = k.at en) (ho : PO w12.heap.size w13 q) (b13 : Below w12.heap.size w12 w13) (g14 : w13.grownBy w14 (some (w.heap.size + 1))) : PushP t base w qb v l en k (.returned (.agg q.vals.toArray)) w14 := by
  have hold : ∀ g, Qb qb v9 l' g → Qb qb v l g ∨ w.heap.size + 2 ≤ g := by
    rintro g (rfl | hg | ⟨p, hp, hg⟩)
    · exact .inl (.inl rfl)
    · rcases O with e | ⟨g', e, hlt⟩
      · exact .inl (.inr (.inl (e ▸ hg)))
      · rw [e] at hg
        injection hg with hg
        subst hg
        exact .inr hlt
    · rcases hl p hp with h | h
      · exact .inl (.inr (.inr ⟨p, h, hg⟩))
      · exact .inr (h g hg)
  have c14 : Ch w13 w14 (fun k => k = w.heap.size + 1) := Ch.grown (m := fun k => k = w.heap.size + 1) (Ch.refl w13 _) g14 (fun k e _ => by injection e with e; exact e.symm)
  have hs13 := b13.size
  refine ⟨q, v9, l', w12.heap.size, rfl, hq, ho.kept g14 ?_, by omega, ?_, hk, fun g hg => (HQ.in_ hg).2, fun g hg => ?_, ?_⟩
  · cases hb : q.blk with
    | none => exact .inl rfl
    | some g => exact .inr fun e => by injection e with e; have := (ho.lt hb).1; omega
  · rw [he]
    refine (HQ.below b13).frame c14 fun g hg e => ?_
    rcases hold g hg with h | h
    · have := (H.in_ h).2
      omega
    · omega
  · rcases hold g hg with h | h
    · exact .inl h
    · exact .inr (by omega)
  · exact (C.then_ (Ch.mono (m := fun _ => False) ((Ch.of_below _ (b13.mono (Nat.le_refl _)))) (fun _ _ e => e.elim))).trans (m' := fun k => k = w.heap.size + 1) c14 (fun _ _ h => h) (fun x hx e => by omega)

/-- One cell stored, wherever it lies. -/
theorem wpList_setC {P : Program} {ops : Array Oper} {rest : List Oper} {o : Oper} {a : Act} {w : World} {Q : Exit → Act → World → Prop} (hgd : Region.wanted o (yielded ops a.tmps) = true) (ty : TypeId) (x y : Operand) (ho : o.op = .store ty x y) (b k : Nat) (u v : Value) (hx : a.eval x = .pointer (some ⟨b, k, none⟩)) (hy : a.eval y = v) (hc : w.cell? ⟨b, k, none⟩ = some u) (hf : w.frozen? ⟨b, k, none⟩ = false)
    (h1 : v.oneCell' = true) (hi : (P.info? ty).map (·.size) = some 1) (h : wpList P ops Q rest (a.put o.dst undef) (w.setCell ⟨b, k, none⟩ v)) : wpList P ops Q (o :: rest) a w := by
  refine wpList_want hgd fun K hK => ?_
  have := run_storeCells_cells (P := P) b k [v] 0 w (fun j hj => by simp at hj; subst hj; simp [hc]) (fun j hj => by simp at hj; subst hj; simpa using hf) (fun u hu => by simp at hu; subst hu; exact h1)
  simp only [Nat.add_zero] at this
  have hvc : v.cells = #[v] := by cases v <;> first | rfl | cases h1
  have hrun : (storeVar ty ⟨b, k, none⟩ v).run P w = .ok () (w.setCells b k [v]) := by
    cases hq : P.info? ty with
    | none => simp [hq] at hi
    | some i =>
      have hs : i.size = 1 := by simpa [hq] using hi
      simp [storeVar, sizeOf, typeInfo, hq, hvc, hs, this]
  unfold Oper.wp execOp
  simp only [ho, hx, hy, Instr.storeAt, Instr.sureAddr, Sem.run_bind, Sem.run_pure, Result.andThen_ok, hrun]
  exact hK _ _ h

/-- append of one piece, as a step of a region that draws. -/
theorem step_appR {ops : Array Oper} {o : Oper} {a : Act} {w : World} {K : Act → World → Prop} {Q : Exit → Act → World → Prop} {E : Prop} (hgd : o.guard = none) (s x : Operand)
    (ho : o.op = .call { callee := .builtin .append, args := #[s, x], argTypes := #[228, 228] })
    (base : Nat) (v : Value) (l : List Pc) (hs : a.eval s = v) (h0 : Row w base v l) (b xc : Nat) (y : Pc) (hx : a.eval x = .slice (some ⟨b, 0, none⟩) 1 xc) (hy : w.rangeAt b 0 y.vals) (hn : l.length ≤ 1099511627776) (hb : base ≤ w.heap.size)
    (h : ∀ v' w', Row w' base v' (l ++ [y]) → w.grownBy w' v.ownBlock → (v'.ownBlock = v.ownBlock ∨ v'.ownBlock = some w.heap.size) → K (a.put o.dst v') w') :
    if Region.wanted o (yielded ops a.tmps) = true then Oper.wp Tryz.prog o a w K Q else E := by
  have hw : Region.wanted o (yielded ops a.tmps) = true := by simp [Region.wanted, hgd]
  rw [if_pos hw]
  obtain ⟨v', w', hrun, h1, h2, h3⟩ := app_row (P := Tryz.prog) w 228 o.type Tryz.underlying228 infoPcF base v l h0 b xc y hy hn hb
  exact Lib.wp_append_run w s x 228 228 ho _ _ hs hx v' w' hrun (h v' w' h1 h2 h3)

/-- A queue of which the first cell still holds u, while its row lies ready. -/
structure Qx (t : TypeId) (base : Nat) (w : World) (qb : Nat) (u v : Value) (l : List Pc) (en : Nat) : Prop where
  obj : w.heap[qb]? = some (.cells #[u, .int .u32 (en : Int)] t (0, 0))
  lo : base ≤ qb
  row : Row w base v l
  ok : ∀ p ∈ l, PO base w p
  num : en < 4294967296
theorem Qx.c0 {t : TypeId} {base : Nat} {w : World} {qb : Nat} {u v : Value} {l : List Pc} {en : Nat} (h : Qx t base w qb u v l en) : w.cell? ⟨qb, 0, none⟩ = some u := by rw [cell_of_row w qb 0 _ t (0, 0) h.obj]; rfl
theorem Qx.f {t : TypeId} {base : Nat} {w : World} {qb : Nat} {u v : Value} {l : List Pc} {en : Nat} (h : Qx t base w qb u v l en) (j : Nat) : w.frozen? ⟨qb, j, none⟩ = false := frozen_of h.obj j
theorem Qx.store {t : TypeId} {base : Nat} {w : World} {qb : Nat} {u v : Value} {l : List Pc} {en : Nat} (h : Qx t base w qb u v l en) (ht : t ≠ 5) (hp : t ≠ 209) : Qu t base (w.setCell ⟨qb, 0, none⟩ v) qb v l en := by
  have c : Ch w (w.setCell ⟨qb, 0, none⟩ v) (fun k => k = qb) := Ch.setCell (m := fun k => k = qb) (Ch.refl w _) (fun _ => rfl) v
  refine ⟨by simp [World.setCell, Array.getElem?_modify, h.obj], h.lo, h.row.ch c (fun g hg e => ?_), fun p hp2 => (h.ok p hp2).ch c (fun g hg e => ?_), h.num⟩
  · obtain ⟨cs, h1⟩ := h.row.obj hg
    rw [e, h.obj] at h1
    injection h1 with h1
    injection h1 with _ h1
    exact hp h1
  · obtain ⟨cs, h1⟩ := (h.ok p hp2).obj hg
    rw [e, h.obj] at h1
    injection h1 with h1
    injection h1 with _ h1
    exact ht h1
theorem row_blk {w : World} {base base' : Nat} {v : Value} {l : List Pc} {q : Pc} (h : Row w base v l) (hq : PO base' w q) {g : Nat} (hg : q.blk = some g) : v.ownBlock ≠ some g := fun e => by
  obtain ⟨cs, h1⟩ := hq.obj hg
  obtain ⟨cs', h2⟩ := h.obj e
  rw [h2] at h1
  injection h1 with h1
  injection h1 with _ h1
  exact absurd h1 (by decide)
theorem PO.past {b k : Nat} {w w' : World} {p : Pc} (h : PO b w p) (hg : w.grownBy w' (some k)) (hk : k < b) : PO b w' p := h.kept hg (by
  cases hb : p.blk with
  | none => exact .inl rfl
  | some g => exact .inr fun e => by injection e with e; have := (h.lt hb).1; omega)
theorem PO.beside {b base : Nat} {w w' : World} {p : Pc} {v : Value} {l : List Pc} (h : PO b w p) (hr : Row w base v l) (hg : w.grownBy w' v.ownBlock) : PO b w' p := h.kept hg (by
  cases hb : p.blk with
  | none => exact .inl rfl
  | some g => exact .inr fun e => row_blk hr h hb e.symm)
theorem app_frame {t : TypeId} {base : Nat} {w w' : World} {qb : Nat} {v v' : Value} {l : List Pc} {en : Nat} {q : Pc} (h : Qu t base w qb v l en) (ht : t ≠ 209) (r : Row w' base v' (l ++ [q])) (g : w.grownBy w' v.ownBlock) (hq : PO base w q) : Qx t base w' qb v v' (l ++ [q]) en := by
  refine ⟨(g.block qb h.lt (fun e => h.apart2 ht e.symm)).trans h.obj, h.lo, r, fun p hp => ?_, h.num⟩
  have : PO base w p := by
    rcases List.mem_append.1 hp with hp | hp
    · exact h.ok p hp
    · simp at hp
      subst hp
      exact hq
  refine this.kept g ?_
  cases hb : p.blk with
  | none => exact .inl rfl
  | some k => exact .inr fun e => row_blk h.row this hb e.symm

/-- A literal of one piece. -/
theorem run_litP {a : Act} {op : Oper} {w : World} (x : Operand) (ho : op.op = .buildSlice 228 1 #[(0, x)]) (p : Pc) (hx : a.eval x = .agg p.vals.toArray) :
    (execOp a.eval op).run Tryz.prog w = .ok (.value (.slice (some ⟨w.heap.size, 0, none⟩) 1 1)) (w.alloc (.cells p.vals.toArray 209)) := by
  have hrun : (Instr.buildSlice 228 1 #[(0, .agg p.vals.toArray)]).run Tryz.prog w = .ok (.slice (some ⟨w.heap.size, 0, none⟩) 1 1) (w.alloc (.cells p.vals.toArray 209)) := by kernel_rfl
  simp [execOp, ho, hx, hrun]
theorem step_litP {ops : Array Oper} {op : Oper} {a : Act} {w : World} {K : Act → World → Prop} {Q : Exit → Act → World → Prop} {E : Prop} (hgd : Region.wanted op (yielded ops a.tmps) = true) (x : Operand) (ho : op.op = .buildSlice 228 1 #[(0, x)]) (p : Pc) (hx : a.eval x = .agg p.vals.toArray) (g : Nat) (hg : w.heap.size = g)
    (h : ∀ w', Own w' g p.vals → Below w.heap.size w w' → w'.heap.size = g + 1 → K (a.put op.dst (.slice (some ⟨g, 0, none⟩) 1 1)) w') : if Region.wanted op (yielded ops a.tmps) = true then Oper.wp Tryz.prog op a w K Q else E := by
  subst hg
  rw [if_pos hgd]
  unfold Oper.wp
  rw [run_litP x ho p hx, Oper.upon_value]
  exact h _ (Own.new w p.vals _) (below_a w _) (by simp)
theorem wpList_litP {ops : Array Oper} {rest : List Oper} {op : Oper} {a : Act} {w : World} {Q : Exit → Act → World → Prop} (hgd : Region.wanted op (yielded ops a.tmps) = true) (x : Operand) (ho : op.op = .buildSlice 228 1 #[(0, x)]) (p : Pc) (hx : a.eval x = .agg p.vals.toArray) (g : Nat) (hg : w.heap.size = g)
    (h : ∀ w', Own w' g p.vals → Below w.heap.size w w' → w'.heap.size = g + 1 → wpList Tryz.prog ops Q rest (a.put op.dst (.slice (some ⟨g, 0, none⟩) 1 1)) w') : wpList Tryz.prog ops Q (op :: rest) a w := by
  subst hg
  refine wpList_want hgd fun K hK => ?_
  unfold Oper.wp
  rw [run_litP x ho p hx, Oper.upon_value]
  exact hK _ _ (h _ (Own.new w p.vals _) (below_a w _) (by simp))

section
variable {base : Nat} {w : World} {qb : Nat} {v : Value} {l : List Pc} {en : Nat}
set_option maxRecDepth 20000 in
set_option maxHeartbeats 3200000 in
theorem Push_any (h : Qu 268 base w qb v l en) (p : Pc) (hp : PG w p) (hap : ∀ g o s, p.dA = some ⟨g, o, s⟩ → 0 < p.dn → g ≠ qb ∧ v.ownBlock ≠ some g) (hd : p.dn ≤ 1099511627776) (hl : l.length ≤ 1073741824) :
    Calls Tryz.prog 246 #[ptr qb, .agg p.vals.toArray] w (PushP 268 base w qb v l en p.key) := by
  have H := Lib.hid h
  have HP := Lib.hid hp
  have HAP := Lib.hid hap
  clear hap
  have HD := Lib.hid hd
  have HL := Lib.hid hl
  have hlt := h.lt
  have c1 := h.c1
  have f1 := h.f 1
  have hln := len_pc hp
  have hcp := hp.data.cap
  have hmx := hp.data.max
  have HLEN : Hid (p.key.len ≤ 1099511627778) := Lib.hid (by rw [hln]; unfold bn; split <;> split <;> omega)
  clear h hp hd hl hln
  unfold ptr
  go_enter Tryz.func246, Tryz.ntmps246
  go_wp2_with (first
    | ((with_reducible refine wpList_here ?_); refine wpList_boxV (o := ⟨some 3, _, _, _, _, _⟩) rfl 209 (.tmp 1) rfl p.vals rfl _ rfl ?_; intro w1 z1 b1 s1)
    | ((with_reducible refine wpList_here ?_); refine wpList_allocV (o := ⟨some 4, _, _, _, _, _⟩) rfl 209 rfl zP.vals zeroPc _ s1 ?_; intro w2 z2 b2 s2; have z3 := z1.below b2; have b3 := below_trans b1 b2; have d1 : w2.cell? ⟨qb, 1, none⟩ = some (.int .u32 (en : Int)) := (b3.cell hlt).trans c1)
    | ((with_reducible refine wpList_here ?_); refine wpList_setV rfl 36 (.tmp 14) (.tmp 13) rfl _ 0 p.vals (.int .u32 (en : Int)) rfl rfl z3 (by rw [p.vals_length]; omega) rfl sizeU32 ?_; intro w4 z4 g4 s4; have z5 : Own w4 w.heap.size (p.at en).vals := z4; have y5 := z2.far g4 (by intro e; injection e with e; omega); have b5 := v_below_g b3 g4 b3.size (Nat.le_refl _); have HQ5 := Lib.hid (H.out.below b5); have HG5 := Lib.hid ((HP.out.below b5).at_ H.out.num); clear z4 g4 z2 z3)
    | ((with_reducible refine wpList_here ?_); refine wpList_loadV (o := ⟨some 15, _, _, _, _, _⟩) rfl 209 (.tmp 3) rfl _ _ _ rfl z5.range _ Tryz.underlying209 rfl infoPc ?_)
    | fail)
  refine (long_any (p.at en) _ HG5.out HD.out).mono ?_
  rintro e w6 ⟨rfl, b6⟩
  rw [key_at, len_at]
  have z6 := z5.below b6
  have y6 := y5.below b6
  have HQ6 := Lib.hid (HQ5.out.below b6)
  have HG6 := Lib.hid (HG5.out.below b6)
  have s6 := b6.size
  have hs6 : w.heap.size + 2 ≤ w6.heap.size := by omega
  have HB6 := Lib.hid (b5.trans (b6.mono b5.size))
  clear z5 y5 HQ5 HG5 z1 b1 b2 d1 c1 f1 b3 b5 b6
  by_cases hpos : 0 < p.key.len
  · have hpi : (0 : Int) < (p.key.len : Int) := by omega
    have d6 : Below w6.heap.size w6 w6.drew := (Below.refl _ _).drew
    have HQ6 := Lib.hid (HQ6.out.below d6)
    have HG6 := Lib.hid (HG6.out.below d6)
    have HB6 := Lib.hid HB6.out.drew
    have hs6 : w.heap.size + 2 ≤ w6.drew.heap.size := hs6
    have z6 := z6.below d6
    have y6 := y6.below d6
    have c0 := HQ6.out.c0
    have r6 := z6.range
    have HC := Lib.hid (copied_any (p.at en) w6.drew HG6.out (by have := HD.out; show p.dn ≤ _; omega))
    go_wp2_with fail
    refine wp_region_noPanic ?_
    refine until_start (fun W => W.cell? ⟨qb, 0, none⟩ = some v ∧ W.rangeAt w.heap.size 0 (p.at en).vals) 11 (by kernel_rfl) ⟨c0, r6⟩ (fun _ => ?_)
    refine until_take (i := 0) (v := .pointer (some ⟨qb, 0, none⟩)) (some 19) [11] rfl rfl (by kernel_rfl) (by kernel_rfl) (by kernel_rfl) (by kernel_rfl) rfl rfl (fun _ _ _ h => h) (Or.inl ⟨by rfl, fun W hW => by go_simp⟩) ⟨c0, r6⟩ ?_
    simp only [Act.put, List.setIfInBounds_toArray, List.set_cons_zero, List.set_cons_succ]
    refine until_take (i := 1) (v := .pointer (some ⟨qb, 0, none⟩)) (some 20) [11] rfl rfl (by kernel_rfl) (by kernel_rfl) (by kernel_rfl) (by kernel_rfl) rfl rfl (fun _ _ _ h => h) (Or.inl ⟨by rfl, fun W hW => by go_simp⟩) ⟨c0, r6⟩ ?_
    simp only [Act.put, List.setIfInBounds_toArray, List.set_cons_zero, List.set_cons_succ]
    refine until_take (i := 5) (v := .agg (p.at en).vals.toArray) (some 24) [11] rfl rfl (by kernel_rfl) (by kernel_rfl) (by kernel_rfl) (by kernel_rfl) rfl rfl (fun _ _ _ h => h) (yieldsIf_load_mid (by rfl) 209 (.tmp 3) rfl _ _ rfl _ _ (fun W hW => hW.2) Tryz.underlying209 rfl infoPc) ⟨c0, r6⟩ ?_
    simp only [Act.put, List.setIfInBounds_toArray, List.set_cons_zero, List.set_cons_succ]
    refine until_take (i := 2) (v := .pointer (some ⟨qb, 0, none⟩)) (some 21) [11] rfl rfl (by kernel_rfl) (by kernel_rfl) (by kernel_rfl) (by kernel_rfl) rfl rfl (fun _ _ _ h => h) (Or.inl ⟨by rfl, fun W hW => by go_simp⟩) ⟨c0, r6⟩ ?_
    simp only [Act.put, List.setIfInBounds_toArray, List.set_cons_zero, List.set_cons_succ]
    refine until_take (i := 3) (v := .pointer (some ⟨qb, 0, none⟩)) (some 22) [11] rfl rfl (by kernel_rfl) (by kernel_rfl) (by kernel_rfl) (by kernel_rfl) rfl rfl (fun _ _ _ h => h) (Or.inl ⟨by rfl, fun W hW => by go_simp⟩) ⟨c0, r6⟩ ?_
    simp only [Act.put, List.setIfInBounds_toArray, List.set_cons_zero, List.set_cons_succ]
    refine until_take (i := 4) (v := v) (some 23) [11] rfl rfl (by kernel_rfl) (by kernel_rfl) (by kernel_rfl) (by kernel_rfl) rfl rfl (fun _ _ _ h => h) (Or.inl ⟨by rfl, fun W hW => by have hc := hW.1; go_simp⟩) ⟨c0, r6⟩ ?_
    simp only [Act.put, List.setIfInBounds_toArray, List.set_cons_zero, List.set_cons_succ]
    refine until_step (i := 6) (by kernel_rfl) rfl rfl (fun K hK => ?_)
    go_simp
    refine (HC.out).mono ?_
    rintro e w7 ⟨q0, rfl, hk7, ho7, b7⟩
    have HK7 := Lib.hid hk7
    have HO7 := Lib.hid ho7
    have HQ7 := Lib.hid (HQ6.out.below b7)
    have z7 := z6.below b7
    have y7 := y6.below b7
    have HB7 := Lib.hid (And.intro (HB6.out.trans (b7.mono (show w.heap.size ≤ w6.drew.heap.size by omega))) b7.size)
    have e7 : w7.cell? ⟨qb, 0, none⟩ = some v ∧ w7.rangeAt w.heap.size 0 (p.at en).vals := ⟨HQ7.out.c0, z7.range⟩
    clear hk7 ho7 b7 z6 y6 HQ6 HC c0 r6
    dsimp only
    refine hK.out _ _ e7 (fun _ => ?_)
    clear hK
    try simp only [Act.put, List.setIfInBounds_toArray, List.set_cons_zero, List.set_cons_succ]
    refine until_step (i := 7) (by kernel_rfl) rfl rfl (fun K hK => ?_)
    refine step_litP (by rfl) (.tmp 25) rfl q0 rfl _ rfl ?_
    intro w8 x8 b8 t8
    have e8 : w8.cell? ⟨qb, 0, none⟩ = some v ∧ w8.rangeAt w.heap.size 0 (p.at en).vals := ⟨(HQ7.out.below b8).c0, (z7.below b8).range⟩
    show K (Act.put _ (some 26) _) _
    refine hK.out _ _ e8 (fun _ => ?_)
    clear hK
    try simp only [Act.put, List.setIfInBounds_toArray, List.set_cons_zero, List.set_cons_succ]
    refine until_step (i := 8) (by kernel_rfl) rfl rfl (fun K hK => ?_)
    refine step_appR rfl (.tmp 23) (.tmp 26) rfl base v l rfl (HQ7.out.row.below b8) w7.heap.size 1 q0 rfl x8.range (by have := HL.out; omega) (by have := (HQ7.out.in_ (.inl rfl)); have := b8.size; omega) ?_
    intro v9 w9 r9 g9 o9
    have HA9 := Lib.hid (app_frame (HQ7.out.below b8) (by decide) r9 g9 ((HO7.out.below b8).mono (show base ≤ w6.drew.heap.size by have := HQ7.out.lo; omega)))
    have z9 := (z7.below b8).far g9 (fun e => by have := (H.out.row.in_ e.symm).2; omega)
    have e9 : w9.cell? ⟨qb, 0, none⟩ = some v ∧ w9.rangeAt w.heap.size 0 (p.at en).vals := ⟨HA9.out.c0, z9.range⟩
    have y9 := (y7.below b8).far g9 (fun e => by have := (H.out.row.in_ e.symm).2; omega)
    have C9 := Lib.hid (Ch.grown (m := fun k => k = qb ∨ v.ownBlock = some k) (Ch.of_below _ (HB7.out.1.trans (b8.mono (show w.heap.size ≤ w7.heap.size by have := HB7.out.2; omega)))) g9 (fun k e _ => .inr e))
    have S9 := Lib.hid (And.intro b8.size g9.size)
    obtain ⟨A9, k9, rfl, _, _⟩ := r9.slice
    generalize (l ++ [q0]).length = n9 at *
    have c9 := HA9.out.c0
    have f9 := HA9.out.f 0
    have O9 := Lib.hid o9
    clear r9 g9 o9 x8 e8 z7 y7
    show K (Act.put _ (some 27) _) _
    refine hK.out _ _ e9 (fun _ => ?_)
    clear hK
    try simp only [Act.put, List.setIfInBounds_toArray, List.set_cons_zero, List.set_cons_succ]
    refine until_take (i := 9) (v := .pointer (some ⟨qb, 0, none⟩)) (some 28) [10, 11] rfl rfl (by kernel_rfl) (by kernel_rfl) (by kernel_rfl) (by kernel_rfl) rfl rfl (fun _ _ _ h => h) (Or.inl ⟨by rfl, fun W hW => by go_simp⟩) e9 ?_
    simp only [Act.put, List.setIfInBounds_toArray, List.set_cons_zero, List.set_cons_succ]
    refine until_take (i := 10) (v := .pointer (some ⟨qb, 0, none⟩)) (some 29) [11] rfl rfl (by kernel_rfl) (by kernel_rfl) (by kernel_rfl) (by kernel_rfl) rfl rfl (fun _ _ _ h => h) (Or.inl ⟨by rfl, fun W hW => by go_simp⟩) e9 ?_
    simp only [Act.put, List.setIfInBounds_toArray, List.set_cons_zero, List.set_cons_succ]
    refine until_last (by kernel_rfl) rfl (fun K hK => ?_)
    go_simp
    have HQX := Lib.hid (HA9.out.store (by decide) (by decide))
    have g10 : w9.grownBy (w9.setCell ⟨qb, 0, none⟩ (.slice A9 n9 k9)) (some qb) := v_g_set _ _ _ _
    have z10 := z9.far g10 (fun e => by injection e with e; omega)
    have y10 := y9.far g10 (fun e => by injection e with e; omega)
    have C10 := Lib.hid (Ch.setCell (m := fun k => k = qb ∨ v.ownBlock = some k) C9.out (p := ⟨qb, 0, none⟩) (fun _ => .inl rfl) (.slice A9 n9 k9))
    have S10 := Lib.hid g10.size
    have c10 := HQX.out.c1
    have f10 := HQX.out.f 1
    clear g10 z9 y9 C9 HA9 c9 f9 e9
    generalize w9.setCell ⟨qb, 0, none⟩ (.slice A9 n9 k9) = w10 at *
    refine hK.out _ _ ?_
    clear hK
    try simp only [Act.put, List.setIfInBounds_toArray, List.set_cons_zero, List.set_cons_succ]
    refine wpAnyH_done (by kernel_rfl) ?_ _
    refine NoPanic.normal ?_
    have HON := Lib.hid (fun W => On_any en (p.key.len : Int) W HQX.out.num (by have := HLEN.out; omega))
    have HG10 := Lib.hid (HG6.out)
    generalize hon : on en (p.key.len : Int) = e2 at *
    have HE2 : Hid (e2 < 4294967296) := Lib.hid (by rw [← hon]; exact on_lt _ _)
    have HEQ := Lib.hid hon
    clear hon
    go_wp2_with (first
      | (go_at_call 266; refine (HON.out _).mono ?_; rintro e w11 ⟨rfl, b11⟩; have HQ11 := Lib.hid (HQX.out.below b11); have c11 := HQ11.out.c1; have f11 := HQ11.out.f 1; have z11 := z10.below b11; have y11 := y10.below b11; clear c10 f10 z10 y10)
      | ((with_reducible refine wpList_here ?_); refine wpList_setC rfl 36 (.tmp 38) (.tmp 36) rfl qb 1 _ (.int .u32 (e2 : Int)) rfl rfl c11 f11 rfl sizeU32 ?_; have HQ12 := Lib.hid (HQ11.out.store1 (by decide) (by decide) HE2.out); have g12 : w11.grownBy (w11.setCell ⟨qb, 1, none⟩ (.int .u32 (e2 : Int))) (some qb) := v_g_set _ _ _ _; have z12 := z11.far g12 (fun e => by injection e with e; omega); have y12 := y11.far g12 (fun e => by injection e with e; omega); have S12 := Lib.hid (And.intro b11 g12); clear z11 y11 c11 f11 HQ11 g12 b11; generalize w11.setCell ⟨qb, 1, none⟩ (.int .u32 (e2 : Int)) = w12 at *)
      | ((with_reducible refine wpList_here ?_); refine wpList_loadV (o := ⟨some 39, _, _, _, _, _⟩) rfl 209 (.tmp 3) rfl _ _ _ rfl z12.range _ Tryz.underlying209 rfl infoPc ?_))
    have C12 : Hid (Ch w w12 (fun k => k = qb ∨ v.ownBlock = some k)) := Lib.hid (Ch.grown (m := fun k => k = qb ∨ v.ownBlock = some k) (C10.out.then_ (Ch.of_below _ S12.out.1)) S12.out.2 (fun k e _ => by injection e with e; exact .inl e.symm))
    have HG12 : Hid (PG w12 (p.at en)) := Lib.hid ⟨H.out.num, HP.out.dsn, HP.out.data.ch C12.out (fun g o s e hn => by rintro (e2 | e2); exact (HAP.out g o s e hn).1 e2; exact (HAP.out g o s e hn).2 e2)⟩
    have HC := Lib.hid (copied_any (p.at en) w12 HG12.out (by have := HD.out; show p.dn ≤ _; omega))
    refine (HC.out).mono ?_
    rintro e w13 ⟨q, rfl, hk13, ho13, b13⟩
    have y13 := y12.below b13
    have HK13 := Lib.hid hk13
    have HO13 := Lib.hid ho13
    clear hk13 ho13 HON
    go_wp2_with (first
      | ((with_reducible refine wpList_here ?_); refine wpList_storeV rfl 209 (.tmp 4) (.tmp 40) rfl _ _ q.vals rfl rfl y13 rfl (pc_one _) infoPc ?_; intro w14 z14 g14 s14))
    refine bodyPost_ret (results_c0 rfl _ _ (w.heap.size + 1) _ _ rfl z14.range Tryz.underlying209 rfl infoPc) rfl ?_
    have h8 := S9.out
    have h10 := S10.out
    have h12 := S12.out.2.size
    have h11 := S12.out.1.size
    have h7 := HB7.out.2
    refine push_done (l' := l ++ [q0]) H.out HQ12.out HEQ.out ?_ (fun x hx => ?_) ?_ C12.out (by omega) HK13.out HO13.out b13 g14
    · rw [List.map_append, if_pos hpos]
      show _ ++ [q0.key] = _
      rw [HK7.out]
      rfl
    · rcases List.mem_append.1 hx with hx | hx
      · exact .inl hx
      · simp at hx
        subst hx
        exact .inr fun g hg => by have := (HO7.out.lt hg).1; omega
    · rcases O9.out with e | e
      · exact .inl e
      · exact .inr ⟨_, e, by omega⟩
  · have hpi : decide ((0 : Int) < (p.key.len : Int)) = false := decide_eq_false (by omega)
    have HC := Lib.hid (copied_any (p.at en) w6 HG6.out (by have := HD.out; show p.dn ≤ _; omega))
    go_wp2_with (first
      | ((with_reducible refine wpList_here ?_); refine wpList_loadV (o := ⟨some 39, _, _, _, _, _⟩) rfl 209 (.tmp 3) rfl _ _ _ rfl z6.range _ Tryz.underlying209 rfl infoPc ?_)
      | (go_at_call 315; refine (HC.out).mono ?_; rintro e w7 ⟨q, rfl, hk7, ho7, b7⟩; have y7 := y6.below b7; have HK7 := Lib.hid hk7; have HO7 := Lib.hid ho7; clear hk7 ho7)
      | ((with_reducible refine wpList_here ?_); refine wpList_storeV rfl 209 (.tmp 4) (.tmp 40) rfl _ _ q.vals rfl rfl y7 rfl (pc_one _) infoPc ?_; intro w8 z8 g8 s8))
    refine bodyPost_ret (results_c0 rfl _ _ (w.heap.size + 1) _ _ rfl z8.range Tryz.underlying209 rfl infoPc) rfl ?_
    have hk0 : p.key.len = 0 := by omega
    refine push_done (l' := l) H.out HQ6.out (by rw [hk0]; exact on_zero H.out.num) (by rw [if_neg hpos, List.append_nil]) (fun x hx => .inl hx) (.inl rfl) (Ch.of_below _ HB6.out) hs6 HK7.out HO7.out b7 g8
end
end Go.Proofs.YtlcegchdkigibaaGreatDoor.LF

namespace Go.Proofs.YtlcegchdkigibaaGreatDoor.LF
set_option linter.unusedVariables false
set_option linter.unusedSimpArgs false
open Go.RowKit

theorem st_tot {b en : Nat} {ks : List Ky} (hb : b < 4294967296) (h : Chn b ks en) (ht : tot ks < 4294967296) : st b en = tot ks := by
  have h1 := h.end_ hb
  have h2 := st_on_self hb (tot ks : Int)
  rw [← h1] at h2
  omega

section
variable {base : Nat} {w : World} {qb : Nat} {v : Value} {l : List Pc} {en : Nat}
set_option maxHeartbeats 1600000 in
theorem reaches_any (h : Qu 268 base w qb v l en) (b a : Nat) (hb : b < 4294967296) (ha : a < 4294967296) (hc : Chn b (l.map Pc.key) en) (ht : tot (l.map Pc.key) ≤ 2147483648) :
    Calls Tryz.prog 398 #[ptr qb, .int .u32 (a : Int)] w fun e w' => e = .returned (.bool (decide (st b a ≤ tot (l.map Pc.key)))) ∧ Below w.heap.size w w' := by
  have HB := Lib.hid (Begin_any h)
  have HE := Lib.hid (End_any h)
  rw [hc.beg] at HB
  have hst := st_tot hb hc (by omega)
  have hen := h.num
  have HS := Lib.hid (fun W => Steps_any b en W hb hen)
  rw [hst] at HS
  generalize tot (l.map Pc.key) = n at *
  have HI := Lib.hid (fun W => In_any a b ((n : Int) + 1) W ha hb (by omega))
  have hd : decide ((st b a : Int) < (n : Int) + 1) = decide (st b a ≤ n) := by
    rw [decide_eq_decide]
    omega
  rw [hd] at HI
  generalize decide (st b a ≤ n) = d at *
  clear hd hst hc h
  unfold ptr at *
  go_enter Tryz.func398, Tryz.ntmps398
  go_wp2_with fail
  refine (HB.out).mono ?_
  rintro e w1 ⟨rfl, rfl⟩
  go_wp2_with fail
  refine (HB.out).mono ?_
  rintro e w1 ⟨rfl, rfl⟩
  go_wp2_with fail
  refine (HE.out).mono ?_
  rintro e w1 ⟨rfl, rfl⟩
  go_wp2_with fail
  refine (HS.out _).mono ?_
  rintro e w2 ⟨rfl, b2⟩
  go_wp2_with fail
  refine (HI.out _).mono ?_
  rintro e w3 ⟨rfl, b3⟩
  go_wp2_with fail
  go_ret
  exact ⟨rfl, below_trans b2 b3⟩

theorem drop_getK {ks : List Ky} {j : Nat} (h : j < ks.length) : ks.drop j = ks[j] :: ks.drop (j + 1) := List.drop_eq_getElem_cons h
theorem cnt_stop {k : Ky} {ks : List Ky} {d : Nat} (h : d < k.len) : cnt (k :: ks) d = 0 := by
  unfold cnt
  rw [if_neg (by omega)]
theorem cnt_go {k : Ky} {ks : List Ky} {d : Nat} (h : k.len ≤ d) : cnt (k :: ks) d = cnt ks (d - k.len) + 1 := by
  show (if k.len ≤ d then _ else _) = _
  rw [if_pos h]

set_option maxRecDepth 8000 in
set_option maxHeartbeats 3200000 in
theorem ended_any (h : Qu 268 base w qb v l en) (b a : Nat) (hb : b < 4294967296) (ha : a < 4294967296) (hc : Chn b (l.map Pc.key) en) (hd : ∀ p ∈ l, p.dn ≤ 1099511627776) (hl : l.length ≤ 1073741824) :
    Calls Tryz.prog 399 #[ptr qb, .int .u32 (a : Int)] w fun e w' => e = .returned (.int .i64 (cnt (l.map Pc.key) (st b a) : Int)) ∧ Below w.heap.size w w' := by
  have HB := Lib.hid (Begin_any h)
  rw [hc.beg] at HB
  have HS := Lib.hid (fun W => Steps_any b a W hb ha)
  have hst := st_lt b a
  have H := Lib.hid h
  have HD := Lib.hid hd
  have hlt := h.lt
  have c0 := h.c0
  obtain ⟨A, c, rfl, hcp, hmx⟩ := h.row.slice
  generalize hn : l.length = n at *
  have HN := Lib.hid hn
  generalize hdd : st b a = dd at *
  clear h hd hc hn hdd
  unfold ptr at *
  go_enter Tryz.func399, Tryz.ntmps399
  go_wp2_with fail
  go_step3
  go_wp2_with fail
  refine (HB.out).mono ?_
  rintro e w1 ⟨rfl, rfl⟩
  go_wp2_with fail
  refine (HS.out _).mono ?_
  rintro e w2 ⟨rfl, b2⟩
  have c2 := (b2.cell hlt).trans c0
  have HW2 := Lib.hid b2
  clear b2 c0 HB HS
  go_wp2_with fail
  go_step3
  go_wp2_with fail
  go_loopw [5, 6, 19] (fun x y i wr => ∃ (j r : Nat), j ≤ n ∧ i = .int .i64 j ∧ x = .int .i64 j ∧ y = .int .i64 (r : Int) ∧ r ≤ dd ∧ cnt (l.map Pc.key) dd = j + cnt ((l.map Pc.key).drop j) r ∧ Below w1.heap.size w1 wr) (fun _ _ i _ => n - (intOf i).toNat)
  case atStart => exact ⟨0, dd, Nat.zero_le _, rfl, rfl, rfl, Nat.le_refl _, by simp, HW2.out⟩
  case round =>
    obtain ⟨j, r, hj, rfl, rfl, rfl, hrd, hcn, hbl⟩ := hrel
    have HCN := Lib.hid hcn
    have HBL := Lib.hid hbl
    clear hcn
    by_cases hlt2 : j < n
    · have hjl : j < l.length := by rw [HN.out]; exact hlt2
      have hps := (H.out.row.below hbl).ps (fun p hp => ((H.out.ok p hp).below hbl).pg)
      obtain ⟨g, o, rfl, hr⟩ := hps.at_ hlt2
      have HPG := Lib.hid (hps.ok hlt2)
      have HDN := Lib.hid (HD.out _ (getD_memP hjl))
      have hdk : (l.map Pc.key).drop j = (l.getD j zP).key :: (l.map Pc.key).drop (j + 1) := by
        rw [drop_getK (by simpa using hjl)]
        simp [List.getD_eq_getElem?_getD, hjl]
      have HCN := HCN
      rw [hdk] at HCN
      clear hps hdk hjl hbl
      generalize l.getD j zP = p at *
      have HLN := Lib.hid (fun W (hW : PG W p) => long_any p W hW HDN.out)
      have hls := len_pc HPG.out
      have hlb : p.key.len ≤ 1099511627778 := by
        have := HDN.out
        rw [hls]
        unfold bn
        split <;> split <;> omega
      clear hls
      have HST := Lib.hid (@cnt_stop p.key ((l.map Pc.key).drop (j + 1)) r)
      have HGO := Lib.hid (@cnt_go p.key ((l.map Pc.key).drop (j + 1)) r)
      generalize p.key.len = m at *
      by_cases hgt : r < m
      · have hgi : (r : Int) < (m : Int) := by omega
        have HC0 : Hid (cnt (l.map Pc.key) dd = j) := Lib.hid (by rw [HCN.out, HST.out hgt]; rfl)
        clear HST HGO HCN
        go_wp2_with (first
          | ((with_reducible refine wpList_here ?_); refine wpList_loadV (o := ⟨some 22, _, _, _, _, _⟩) rfl 209 (.tmp 21) rfl _ _ p.vals rfl hr _ Tryz.underlying209 rfl infoPc ?_)
          | ((with_reducible refine wpList_here ?_); refine wpList_allocV (o := ⟨some 8, _, _, _, _, _⟩) rfl 209 rfl zP.vals zeroPc _ rfl ?_; intro w4 z4 b4 s4)
          | ((with_reducible refine wpList_here ?_); refine wpList_storeV rfl 209 (.tmp 8) (.tmp 22) rfl _ _ p.vals rfl rfl z4 rfl (pc_one p) infoPc ?_; intro w5 z5 g5 s5; have b5 := v_below_g b4 g5 b4.size (Nat.le_refl _); clear z4 b4 g5)
          | ((with_reducible refine wpList_here ?_); refine wpList_loadV (o := ⟨some 23, _, _, _, _, _⟩) rfl 209 (.tmp 8) rfl _ _ p.vals rfl z5.range _ Tryz.underlying209 rfl infoPc ?_)
          | (go_at_call 316; refine (HLN.out w5 (HPG.out.below b5)).mono ?_; rintro e w6 ⟨rfl, b6⟩; have b7 := HBL.out.trans ((below_trans b5 b6).mono HBL.out.size); clear z5 b5 b6))
        rw [Exit.noGoto_ret]
        go_ret
        exact ⟨by rw [HC0.out]; rfl, b7⟩
      · have hgi : decide ((r : Int) < (m : Int)) = false := decide_eq_false (by omega)
        have HC1 : Hid (cnt (l.map Pc.key) dd = j + 1 + cnt ((l.map Pc.key).drop (j + 1)) (r - m)) := Lib.hid (by rw [HCN.out, HGO.out (by omega)]; omega)
        have hw : IntKind.i64.wrap ((r : Int) - (m : Int)) = ((r - m : Nat) : Int) := by rw [IntKind.wrap_i64]; omega
        clear HST HGO HCN
        go_wp2_with (first
          | ((with_reducible refine wpList_here ?_); refine wpList_loadV (o := ⟨some 22, _, _, _, _, _⟩) rfl 209 (.tmp 21) rfl _ _ p.vals rfl hr _ Tryz.underlying209 rfl infoPc ?_)
          | ((with_reducible refine wpList_here ?_); refine wpList_allocV (o := ⟨some 8, _, _, _, _, _⟩) rfl 209 rfl zP.vals zeroPc _ rfl ?_; intro w4 z4 b4 s4)
          | ((with_reducible refine wpList_here ?_); refine wpList_storeV rfl 209 (.tmp 8) (.tmp 22) rfl _ _ p.vals rfl rfl z4 rfl (pc_one p) infoPc ?_; intro w5 z5 g5 s5; have b5 := v_below_g b4 g5 b4.size (Nat.le_refl _); clear z4 b4 g5)
          | ((with_reducible refine wpList_here ?_); refine wpList_loadV (o := ⟨some 23, _, _, _, _, _⟩) rfl 209 (.tmp 8) rfl _ _ p.vals rfl z5.range _ Tryz.underlying209 rfl infoPc ?_)
          | (go_at_call 316; refine (HLN.out w5 (HPG.out.below b5)).mono ?_; rintro e w6 ⟨rfl, b6⟩; have b7 := HBL.out.trans ((below_trans b5 b6).mono HBL.out.size); clear z5 b5 b6))
        go_roundw
        case rel => exact ⟨j + 1, r - m, by omega, by go_num, by go_num, rfl, by omega, HC1.out, b7⟩
        case measure => simp [intOf]; omega
    · obtain rfl : j = n := by omega
      have hz : (l.map Pc.key).drop j = [] := List.drop_eq_nil_of_le (by simp [HN.out])
      rw [hz] at HCN
      have HC0 : Hid (cnt (l.map Pc.key) dd = j) := Lib.hid (by rw [HCN.out]; rfl)
      clear HCN hz
      go_wp2_with fail
      rw [Exit.noGoto_ret]
      go_ret
      exact ⟨by rw [HC0.out]; rfl, hbl⟩
end
end Go.Proofs.YtlcegchdkigibaaGreatDoor.LF

namespace Go.Proofs.YtlcegchdkigibaaGreatDoor.LF
set_option linter.unusedVariables false
set_option linter.unusedSimpArgs false
set_option maxRecDepth 20000
open Go.RowKit

theorem sizePs : (Tryz.prog.info? 228).map (·.size) = some 1 := by kernel_rfl
theorem elemPs : Tryz.prog.underlying 228 = some (.slice (Tryz.prog.elem 228)) := by kernel_rfl
theorem sizeOfPc (W : World) : (sizeOf (Tryz.prog.elem 228)).run Tryz.prog W = .ok 6 W := by kernel_rfl
theorem zc_one (k : Nat) : ∀ u ∈ (Builtin.zeroCells (Value.agg zP.vals.toArray).cells k).toList, u.oneCell' = true := by
  intro u hu
  simp [Builtin.zeroCells, Pc.vals, zP, Value.cells] at hu
  obtain ⟨a, ha, rfl⟩ := hu
  have : a % 6 = 0 ∨ a % 6 = 1 ∨ a % 6 = 2 ∨ a % 6 = 3 ∨ a % 6 = 4 ∨ a % 6 = 5 := by omega
  rcases this with h | h | h | h | h | h <;> simp [h, Value.oneCell']
/-- A row parted at k: its front, cleared or not, and what is behind. -/
structure Cut (base : Nat) (A A1 A2 : Option Addr) (n c k : Nat) (l : List Pc) : Prop where
  upto : ∀ W, (Instr.slice 228 (.slice A n c) none (some (.int .i64 (k : Int))) none).run Tryz.prog W = .ok (.slice A1 k c) W
  from_ : ∀ W, (Instr.slice 228 (.slice A n c) (some (.int .i64 (k : Int))) none none).run Tryz.prog W = .ok (.slice A2 (n - k) (c - k)) W
  front : ∀ W, Row W base (.slice A n c) l → Row W base (.slice A1 k c) (l.take k)
  clear : ∀ W ty, Row W base (.slice A n c) l → ∃ W', (Builtin.clear_ #[228] ty #[.slice A1 k c]).run Tryz.prog W = .ok (.tuple #[]) W' ∧ W.grownBy W' (Value.slice A n c).ownBlock ∧ W'.heap.size = W.heap.size ∧ Row W' base (.slice A2 (n - k) (c - k)) (l.drop k)
  own : ∀ g, (Value.slice A2 (n - k) (c - k)).ownBlock = some g → (Value.slice A n c).ownBlock = some g
theorem cut_any {w : World} {base : Nat} {A : Option Addr} {n c k : Nat} {l : List Pc} (h : Row w base (.slice A n c) l) (hk : k ≤ n) : ∃ A1 A2, Cut base A A1 A2 n c k l := by
  obtain ⟨A0, c0, hv, hc1, hc2⟩ := h.slice
  injection hv with e1 e2 e3
  subst e1 e2 e3
  obtain ⟨i, hi, hz, h1, h2⟩ := info_parts infoPcF
  refine ⟨if c = 0 then A else A.map (·.add 0), if c = k then A else A.map (·.add (k * 6)), fun W => ?_, fun W => ?_, fun W hW => ?_, fun W ty hW => ?_, fun g hg => ?_⟩
  · rw [run_slice_h (P := Tryz.prog) W 228 A l.length c elemPs .i64 (k : Int) (by omega) (by omega), sizeOfPc]
    simp [Result.andThen, sliced]
  · rw [run_slice_l (P := Tryz.prog) W 228 A l.length c elemPs .i64 (k : Int) (by omega) (by omega), sizeOfPc]
    simp [Result.andThen, sliced]
  · rcases hW with ⟨hv, rfl⟩ | ⟨g, o, c3, cs, hv, hb, hg, h3, h4, h5, h6⟩
    · injection hv with e1 e2 e3
      subst e1 e3
      have hk0 : k = 0 := by simpa using hk
      subst hk0
      exact .inl ⟨rfl, rfl⟩
    · injection hv with e1 e2 e3
      subst e1 e3
      have hl : (l.take k).length = k := by rw [List.length_take]; omega
      have ha : (if c = 0 then some (⟨g, o, none⟩ : Addr) else (some (⟨g, o, none⟩ : Addr)).map (·.add 0)) = some ⟨g, o, none⟩ := by
        split
        · rfl
        · simp [Addr.add_lit]
      refine .inr ⟨g, o, c, cs, by rw [ha, hl], hb, hg, by omega, h4, h5, ?_⟩
      have e : pv l = pv (l.take k) ++ pv (l.drop k) := by rw [← pv_append, List.take_append_drop]
      rw [e] at h6
      exact (rangeAt_append.1 h6).1
  · rcases hW with ⟨hv, rfl⟩ | ⟨g, o, c3, cs, hv, hb, hg, h3, h4, h5, h6⟩
    · injection hv with e1 e2 e3
      subst e1 e3
      have hk0 : k = 0 := by simpa using hk
      subst hk0
      refine ⟨W, ?_, v_g_refl _ _, rfl, .inl ⟨rfl, rfl⟩⟩
      simp [Builtin.clear_, run_underlying Tryz.underlying228]
    · injection hv with e1 e2 e3
      subst e1 e3
      have hld : (l.drop k).length = l.length - k := List.length_drop
      have ha : (if c = 0 then some (⟨g, o, none⟩ : Addr) else (some (⟨g, o, none⟩ : Addr)).map (·.add 0)) = some ⟨g, o, none⟩ := by
        split
        · rfl
        · simp [Addr.add_lit]
      rw [ha]
      let zs := (Builtin.zeroCells (Value.agg zP.vals.toArray).cells k).toList
      have hzl : zs.length = k * 6 := zeros_length k
      have hth : W.there g o (k * 6) := there_of hg (by omega)
      have hst := run_storeCells_cells (P := Tryz.prog) g o zs 0 W (by simpa [hzl] using fun j hj => (hth j hj).1) (by simpa [hzl] using fun j hj => (hth j hj).2) (zc_one k)
      simp only [Nat.add_zero] at hst
      obtain ⟨cs', k1, k2⟩ := heap_setCells zs o W cs hg
      refine ⟨W.setCells g o zs, ?_, v_g_setCells _ _ _ _, v_size_setCells _ _ _ _, ?_⟩
      · cases k with
        | zero =>
          have : zs = [] := List.eq_nil_of_length_eq_zero (by rw [hzl])
          rw [this]
          simp [Builtin.clear_, run_underlying Tryz.underlying228, World.setCells]
        | succ k =>
          simp only [zs] at hst ⊢
          simp [Builtin.clear_, run_underlying Tryz.underlying228, zeroValue, typeInfo, hi, hz, hst]
      · by_cases hck : c = k
        · have hd0 : l.drop k = [] := List.drop_eq_nil_of_le (by omega)
          rw [if_pos hck, hd0]
          refine .inr ⟨g, o, c - k, cs', by simp; omega, hb, k1, Nat.zero_le _, by omega, by omega, fun j u hu => by simp [pv] at hu⟩
        · rw [if_neg hck]
          refine .inr ⟨g, o + k * 6, c - k, cs', by rw [hld]; simp [Addr.add_lit], hb, k1, by omega, by omega, by omega, fun j u hu => ?_⟩
          have hj := (List.getElem?_eq_some_iff.1 hu).1
          rw [cells_out (by right; right; rw [hzl]; omega)]
          have e : pv l = pv (l.take k) ++ pv (l.drop k) := by rw [← pv_append, List.take_append_drop]
          rw [e] at h6
          have := (rangeAt_append.1 h6).2 j u hu
          rwa [pv_length, List.length_take, Nat.min_eq_left hk] at this
  · cases A with
    | none => split at hg <;> cases hg
    | some a =>
      split at hg
      · exact hg
      · obtain ⟨b, o, s⟩ := a
        have e : ((some (⟨b, o, s⟩ : Addr)).map (·.add (k * 6))) = some ((⟨b, o, s⟩ : Addr).add (k * 6)) := rfl
        rw [e] at hg
        have e2 : ((⟨b, o, s⟩ : Addr).add (k * 6)).block = b := by unfold Addr.add; split <;> rfl
        injection hg with hg
        rw [e2] at hg
        exact congrArg some hg

theorem Own6.frame {base : Nat} {w w' : World} {v : Value} {ks : List Ky} {m : Nat → Prop} (h : Own6 base w v ks) (c : Ch w w' m) (hm : ∀ g, base ≤ g → ¬ m g) : Own6 base w' v ks := by
  obtain ⟨qs, h1, h2, h3⟩ := h
  exact ⟨qs, own_ch2 h1 c (fun g hg => hm g (h1.lt g hg).1), h2, fun q hq => (h3 q hq).ch c (fun g hg => hm g ((h3 q hq).lt hg).1)⟩
theorem Own6.below {base : Nat} {w w' : World} {v : Value} {ks : List Ky} (h : Own6 base w v ks) (b : Below w.heap.size w w') : Own6 base w' v ks := h.frame (Ch.of_below (fun _ => False) b) (fun _ _ e => e)
theorem own6_mono {w : World} {base base' : Nat} {v : Value} {n : Nat} {e : TypeId} {xs : List Value} (h : w.ownsRow base e 6 v n xs) (hb : base' ≤ base) : w.ownsRow base' e 6 v n xs := by
  refine ⟨h.1, ?_⟩
  rcases h.2 with hn | ⟨g, cap, cur, rfl, h1, rest⟩
  · exact .inl hn
  · exact .inr ⟨g, cap, cur, rfl, Nat.le_trans hb h1, rest⟩
theorem Own6.mono {base base' : Nat} {w : World} {v : Value} {ks : List Ky} (h : Own6 base w v ks) (hb : base' ≤ base) : Own6 base' w v ks := by
  obtain ⟨qs, h1, h2, h3⟩ := h
  exact ⟨qs, own6_mono h1 hb, h2, fun q hq => (h3 q hq).mono hb⟩
/-- What Ack leaves that takes k pieces out. -/
def AckP (t : TypeId) (base : Nat) (w : World) (qb : Nat) (v : Value) (l : List Pc) (en k : Nat) (e : Ending) (w' : World) : Prop :=
  ∃ vo v', e = .returned (.tuple #[vo, .bool true]) ∧ Own6 w.heap.size w' vo ((l.map Pc.key).take k) ∧ Qu t base w' qb v' (l.drop k) en ∧ (∀ g, v'.ownBlock = some g → v.ownBlock = some g) ∧ Ch w w' (fun k => k = qb ∨ v.ownBlock = some k)
theorem wpList_clearB {P : Program} {ops : Array Oper} {rest : List Oper} {o : Oper} {a : Act} {w : World} {Q : Exit → Act → World → Prop} (hgd : o.guard = none) (d : Operand) (t : TypeId)
    (ho : o.op = .call { callee := .builtin .clear, args := #[d], argTypes := #[t] }) (v : Value) (hd : a.eval d = v) {v' : Value} {w' : World}
    (hr : (Builtin.clear_ #[t] o.type #[v]).run P w = .ok v' w') (h : wpList P ops Q rest (a.put o.dst v') w') : wpList P ops Q (o :: rest) a w :=
  wpList_plain hgd fun _ hK => by
    unfold Oper.wp execOp
    simp only [ho, resolve, invoke, builtin, Sem.run_bind, Sem.run_pure, Result.andThen_ok, List.map_toArray, List.map_cons, List.map_nil, hd, hr]
    exact hK _ _ h

section
variable {base : Nat} {w : World} {qb : Nat} {v : Value} {l : List Pc} {en : Nat}
set_option maxHeartbeats 1600000 in
theorem Ack_no (h : Qu 268 base w qb v l en) (b a : Nat) (hb : b < 4294967296) (ha : a < 4294967296) (hc : Chn b (l.map Pc.key) en) (ht : tot (l.map Pc.key) ≤ 2147483648) (hno : tot (l.map Pc.key) < st b a) :
    Calls Tryz.prog 375 #[ptr qb, .int .u32 (a : Int)] w fun e w' => e = .returned (.tuple #[.slice none 0 0, .bool false]) ∧ Below w.heap.size w w' := by
  have HR := Lib.hid (reaches_any h b a hb ha hc ht)
  rw [decide_eq_false (by omega)] at HR
  clear h hc ht hno
  unfold ptr at *
  go_enter Tryz.func375, Tryz.ntmps375
  go_wp2_with fail
  refine (HR.out).mono ?_
  rintro e w2 ⟨rfl, b2⟩
  go_wp2_with fail
  go_ret2
  exact ⟨rfl, b2⟩

set_option maxRecDepth 20000 in
set_option maxHeartbeats 3200000 in
theorem Ack_yes (h : Qu 268 base w qb v l en) (b a : Nat) (hb : b < 4294967296) (ha : a < 4294967296) (hc : Chn b (l.map Pc.key) en) (ht : tot (l.map Pc.key) ≤ 2147483648) (hl : l.length ≤ 1073741824) (hd : ∀ p ∈ l, p.dn ≤ 1099511627776) (hyes : st b a ≤ tot (l.map Pc.key)) :
    Calls Tryz.prog 375 #[ptr qb, .int .u32 (a : Int)] w (AckP 268 base w qb v l en (cnt (l.map Pc.key) (st b a))) := by
  have HR := Lib.hid (reaches_any h b a hb ha hc ht)
  rw [decide_eq_true hyes] at HR
  have HE := Lib.hid (fun W (b : Below w.heap.size w W) => ended_any (h.below b) _ a hb ha hc hd hl)
  have hk := cnt_le (l.map Pc.key) (st b a)
  generalize cnt (l.map Pc.key) (st b a) = k at *
  rw [List.length_map] at hk
  have H := Lib.hid h
  have HD := Lib.hid hd
  have hlt := h.lt
  obtain ⟨A, c, rfl, hcp, hmx⟩ := h.row.slice
  have HNE := Lib.hid (h.apart2 (by decide))
  obtain ⟨A1, A2, hcut⟩ := cut_any h.row hk
  have HC := Lib.hid hcut
  generalize hn : l.length = n at *
  have HN := Lib.hid hn
  clear h hd hc ht hyes hcut hn
  unfold ptr at *
  go_enter Tryz.func375, Tryz.ntmps375
  go_wp2_with fail
  refine (HR.out).mono ?_
  rintro e w2 ⟨rfl, b2⟩
  go_wp2_with fail
  have HB2 := Lib.hid b2.drew
  have c2 := (H.out.below b2.drew).c0
  clear b2
  generalize hwd : w2.drew = wd at *
  refine wp_region_noPanic ?_
  refine wp_region_held_drew (S := fun W => W.cell? ⟨qb, 0, none⟩ = some (.slice A n c)) (by kernel_rfl) (by rw [hwd]; exact c2) (fun _ => ?_)
  rw [hwd]
  clear hwd
  refine held_take (i := 0) (v := .pointer (some ⟨qb, 0, none⟩)) (some 16) rfl rfl (by kernel_rfl) (by kernel_rfl) (by kernel_rfl) (fun _ _ _ h => h) (Or.inl ⟨by rfl, fun W hW => by go_simp⟩) c2 ?_
  simp only [Act.put, List.setIfInBounds_toArray, List.set_cons_zero, List.set_cons_succ]
  refine held_take (i := 4) (v := .pointer (some ⟨qb, 0, none⟩)) (some 20) rfl rfl (by kernel_rfl) (by kernel_rfl) (by kernel_rfl) (fun _ _ _ h => h) (Or.inl ⟨by rfl, fun W hW => by go_simp⟩) c2 ?_
  simp only [Act.put, List.setIfInBounds_toArray, List.set_cons_zero, List.set_cons_succ]
  refine held_take (i := 5) (v := .int .u32 (a : Int)) (some 21) rfl rfl (by kernel_rfl) (by kernel_rfl) (by kernel_rfl) (fun _ _ _ h => h) (Or.inl ⟨by rfl, fun W hW => by go_simp⟩) c2 ?_
  simp only [Act.put, List.setIfInBounds_toArray, List.set_cons_zero, List.set_cons_succ]
  refine held_take (i := 1) (v := .pointer (some ⟨qb, 0, none⟩)) (some 17) rfl rfl (by kernel_rfl) (by kernel_rfl) (by kernel_rfl) (fun _ _ _ h => h) (Or.inl ⟨by rfl, fun W hW => by go_simp⟩) c2 ?_
  simp only [Act.put, List.setIfInBounds_toArray, List.set_cons_zero, List.set_cons_succ]
  refine held_take (i := 2) (v := .pointer (some ⟨qb, 0, none⟩)) (some 18) rfl rfl (by kernel_rfl) (by kernel_rfl) (by kernel_rfl) (fun _ _ _ h => h) (Or.inl ⟨by rfl, fun W hW => by go_simp⟩) c2 ?_
  simp only [Act.put, List.setIfInBounds_toArray, List.set_cons_zero, List.set_cons_succ]
  refine held_take (i := 3) (v := .slice A n c) (some 19) rfl rfl (by kernel_rfl) (by kernel_rfl) (by kernel_rfl) (fun _ _ _ h => h) (Or.inl ⟨by rfl, fun W hW => by have hc := hW; go_simp⟩) c2 ?_
  simp only [Act.put, List.setIfInBounds_toArray, List.set_cons_zero, List.set_cons_succ]
  refine wpAnyH_ready (rs := [6]) (by kernel_rfl) (by simp) ?_
  refine AllReadyH.cons rfl (fun K hK => ?_) AllReadyH.nil
  go_simp
  refine (HE.out _ HB2.out).mono ?_
  rintro e w3 ⟨rfl, b3⟩
  have HB3 := Lib.hid (HB2.out.trans (b3.mono HB2.out.size))
  have e3 : w3.cell? ⟨qb, 0, none⟩ = some (.slice A n c) := (H.out.below HB3.out).c0
  clear b3 HB2 HE
  dsimp only
  refine hK.out _ _ e3 (fun _ => ?_)
  clear hK
  try simp only [Act.put, List.setIfInBounds_toArray, List.set_cons_zero, List.set_cons_succ]
  refine held_take (i := 7) (v := .slice A1 k c) (some 23) rfl rfl (by kernel_rfl) (by kernel_rfl) (by kernel_rfl) (fun _ _ _ h => h) (Or.inl ⟨by rfl, fun W hW => by have hc := HC.out.upto W; go_simp⟩) e3 ?_
  simp only [Act.put, List.setIfInBounds_toArray, List.set_cons_zero, List.set_cons_succ]
  refine held_take (i := 8) (v := .slice A1 k c) (some 6) rfl rfl (by kernel_rfl) (by kernel_rfl) (by kernel_rfl) (fun _ _ _ h => h) (Or.inl ⟨by rfl, fun W hW => by go_simp⟩) e3 ?_
  simp only [Act.put, List.setIfInBounds_toArray, List.set_cons_zero, List.set_cons_succ]
  refine wpAnyH_done (by kernel_rfl) ?_ _
  refine NoPanic.normal ?_
  have HQ3 := Lib.hid (H.out.below HB3.out)
  have hps : PS w3 A1 k c (l.take k) := (HC.out.front w3 HQ3.out.row).ps (fun p hp => (HQ3.out.ok p (List.mem_of_mem_take hp)).pg)
  have HA := Lib.hid (all_any A1 k c (l.take k) w3 hps (by omega) (fun p hp => HD.out p (List.mem_of_mem_take hp)))
  rw [List.map_take] at HA
  clear hps
  go_wp2_with fail
  refine (HA.out).mono ?_
  rintro e w5 ⟨vo, rfl, ho5, b5⟩
  have HQ5 := Lib.hid (HQ3.out.below b5)
  have HB5 := Lib.hid (HB3.out.trans (b5.mono HB3.out.size))
  obtain ⟨w6, e6, g6, s6, r6⟩ := HC.out.clear w5 0 HQ5.out.row
  have HX6 : Hid (Qx 268 base w6 qb (.slice A n c) (.slice A2 (n - k) (c - k)) (l.drop k) en) := Lib.hid ⟨(g6.block qb HQ5.out.lt (fun e => HNE.out e.symm)).trans HQ5.out.obj, HQ5.out.lo, r6, fun p hp => (HQ5.out.ok p (List.mem_of_mem_drop hp)).beside HQ5.out.row g6, HQ5.out.num⟩
  have C6 : Hid (Ch w w6 (fun k => k = qb ∨ (Value.slice A n c).ownBlock = some k)) := Lib.hid (Ch.grown (m := fun k => k = qb ∨ (Value.slice A n c).ownBlock = some k) (Ch.of_below _ HB5.out) g6 (fun k e _ => .inr e))
  have HO6 : Hid (Own6 w.heap.size w6 vo ((l.map Pc.key).take k)) := Lib.hid ((ho5.mono HB3.out.size).frame (Ch.grown (m := fun k => (Value.slice A n c).ownBlock = some k) (Ch.refl w5 _) g6 (fun k e _ => e)) (fun g hg e => by have := (H.out.row.in_ e).2; omega))
  have c6 := HX6.out.c0
  have f6 := HX6.out.f 0
  have hsl := HC.out.from_
  clear ho5 b5 HA HR g6 s6 r6
  go_wp2_with (first
    | ((with_reducible refine wpList_here ?_); refine wpList_clearB rfl (.tmp 26) 228 rfl _ rfl e6 ?_)
    | ((with_reducible refine wpList_here ?_); refine wpList_setC rfl 228 (.tmp 36) (.tmp 34) rfl qb 0 _ (.slice A2 (n - k) (c - k)) rfl rfl c6 f6 rfl sizePs ?_))
  go_ret2
  exact ⟨vo, _, rfl, HO6.out.frame (Ch.setCell (m := fun k => k = qb) (Ch.refl w6 _) (p := ⟨qb, 0, none⟩) (fun _ => rfl) _) (fun g hg e => by omega), HX6.out.store (by decide) (by decide), HC.out.own, Ch.setCell (m := fun k => k = qb ∨ (Value.slice A n c).ownBlock = some k) C6.out (p := ⟨qb, 0, none⟩) (fun _ => .inl rfl) _⟩
end
end Go.Proofs.YtlcegchdkigibaaGreatDoor.LF
