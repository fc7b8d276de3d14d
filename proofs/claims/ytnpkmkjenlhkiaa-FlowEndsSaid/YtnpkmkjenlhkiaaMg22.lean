/- The law's pair: time goes on; a packet taken off the way; what bounds a step asks for. No condition. -/
import Derived.Test.YtnpkmkjenlhkiaaMg21
namespace Go.Proofs.Ytnpkmkjenlhkiaa
set_option linter.unusedVariables false
set_option linter.unusedSimpArgs false
set_option maxRecDepth 20000
open Go.RowKit Go.Lib

/-- A flow's numbers within the bounds of all calls. -/
structure Fz (x : F) : Prop where
  to_ : tot x.ks ≤ 2147483648
  l : x.ks.length ≤ 1073741824
  d : ∀ k ∈ x.ks, k.ds.length ≤ 12
  os : x.os.length ≤ 137438953472
  E : x.E.Ok
  E2 : x.E.d < 1000000
  bg : 0 ≤ x.bg ∧ x.bg ≤ 1152921504606846976
  df : 0 ≤ x.df ∧ x.df ≤ 1152921504606846976
  dw : 0 ≤ x.dw ∧ x.dw ≤ 16
  tr : x.tries ≤ 1000000
theorem Fz.fb {x : F} (h : Fz x) : Fb x := ⟨h.to_, h.l, fun k hk => by have := h.d k hk; omega, by have := h.os; omega, h.E, h.bg⟩
theorem Fz.d40 {x : F} (h : Fz x) : ∀ k ∈ x.ks, k.ds.length ≤ 1099511627776 := fun k hk => by have := h.d k hk; omega
structure Bd (p : P) : Prop where
  f0 : Fz p.f0
  f1 : ∀ f, p.f1 = some f → Fz f
  way : ∀ k ∈ p.way, k.o.rst = false ∧ k.o.k.ds.length ≤ 12
  wl : p.way.length ≤ 1000
  t : p.t ≤ 1152921504606846975
  s0 : p.s0.length ≤ 549755813800
  s1 : p.s1.length ≤ 549755813800
  c0 : p.c0.length ≤ 549755813800
  c1 : p.c1.length ≤ 549755813800
theorem List.map_eraseIdx_ {α β : Type} (f : α → β) : ∀ (l : List α) (j : Nat), (l.eraseIdx j).map f = (l.map f).eraseIdx j
  | [], _ => rfl
  | _ :: _, 0 => rfl
  | a :: l, j + 1 => by simp [List.map_eraseIdx_ f l j]
theorem step_lit0 {P : Program} {ops : Array Oper} {op : Oper} {a : Act} {w : World} {K : Act → World → Prop} {Q : Exit → Act → World → Prop} {E : Prop} (hgd : Region.wanted op (yielded ops a.tmps) = true) (t e : TypeId) (ho : op.op = .buildSlice t 0 #[])
    (hrun : (Instr.buildSlice t 0 #[]).run P w = .ok (.slice (some ⟨w.heap.size, 0, none⟩) 0 0) (w.alloc (.cells #[] e)))
    (h : ∀ g w', Hid (g = w.heap.size) → w'.heap[g]? = some (.cells #[] e (0, 0)) → Below w.heap.size w w' → w'.heap.size = g + 1 → K (a.put op.dst (.slice (some ⟨g, 0, none⟩) 0 0)) w') : if Region.wanted op (yielded ops a.tmps) = true then Oper.wp P op a w K Q else E := by
  rw [if_pos hgd]
  unfold Oper.wp
  have hr : (execOp a.eval op).run P w = .ok (.value (.slice (some ⟨w.heap.size, 0, none⟩) 0 0)) (w.alloc (.cells #[] e)) := by simp [execOp, ho, hrun]
  rw [hr, Oper.upon_value]
  exact h _ _ (Lib.hid rfl) (heap_alloc_new w _) (below_a w _) (by simp)
theorem lit0 (w : World) : (Instr.buildSlice 29 0 #[]).run Try.prog w = .ok (.slice (some ⟨w.heap.size, 0, none⟩) 0 0) (w.alloc (.cells #[] 69)) := by kernel_rfl
theorem sizeOfPk (W : World) : (sizeOf (Try.prog.elem 29)).run Try.prog W = .ok 14 W := by kernel_rfl
theorem elemPk : Try.prog.underlying 29 = some (.slice (Try.prog.elem 29)) := by kernel_rfl
theorem own_empty {w : World} {base g : Nat} (h : w.heap[g]? = some (.cells #[] 69 (0, 0))) (hb : base ≤ g) : w.ownsRow base 69 14 (.slice (some ⟨g, 0, none⟩) 0 0) 0 (pkv []) :=
  ⟨rfl, .inr ⟨g, 0, #[], rfl, hb, h, Nat.le_refl _, by unfold maxLen; omega, rfl, rfl⟩⟩
/-- A row of packets without one. -/
theorem way_cut {w : World} {base : Nat} {A : Option Addr} {L c j : Nat} {ws : List Pm} (h : w.ownsRow base 69 14 (.slice A L c) L (pkv ws)) (hj : j < L) :
    ∃ A2 c2, (∀ W, (Instr.slice 29 (.slice A L c) none (some (.int .i64 (j : Int))) none).run Try.prog W = .ok (.slice A j c) W) ∧
      (∀ W, (Instr.slice 29 (.slice A L c) (some (.int .i64 ((j + 1 : Nat) : Int))) none none).run Try.prog W = .ok (.slice A2 (L - (j + 1)) c2) W) ∧
      Src w A j c 14 (pkv (ws.take j)) ∧ Src w A2 (L - (j + 1)) c2 14 (pkv (ws.drop (j + 1))) := by
  have hl : ws.length = L := by have := h.1; rw [pkv_length] at this; omega
  obtain ⟨g, cap, hv, hgb, hgl⟩ := h.form (by omega)
  injection hv with e1 e2 e3
  subst e1 e3
  have hs := (Src.of_own h (pkv_one ws)).1
  obtain ⟨b, o, e, hr⟩ := hs.2.2.2.2 (by omega)
  injection e with e
  injection e with e1 e2 e3
  subst e1 e2
  have hnc := hs.2.1
  have hcm := hs.2.2.1
  have h1 : pkv ws = pkv (ws.take j) ++ pkv (ws.drop j) := by rw [← pkv_append, List.take_append_drop]
  have h2 : pkv ws = pkv (ws.take (j + 1)) ++ pkv (ws.drop (j + 1)) := by rw [← pkv_append, List.take_append_drop]
  refine ⟨if c = j + 1 then some ⟨g, 0, none⟩ else some ⟨g, 0 + (j + 1) * 14, none⟩, c - (j + 1), fun W => ?_, fun W => ?_, ⟨by rw [pkv_length, List.length_take]; omega, by omega, hcm, pkv_one _, fun _ => ⟨g, 0, rfl, ?_⟩⟩, ⟨by rw [pkv_length, List.length_drop]; omega, by omega, by omega, pkv_one _, fun hm => ⟨g, 0 + (j + 1) * 14, if_neg (by omega), ?_⟩⟩⟩
  · rw [run_slice_h (P := Try.prog) W 29 _ L c elemPk .i64 (j : Int) (by omega) (by omega), sizeOfPk]
    simp [Result.andThen, sliced, Addr.add_mid]
  · rw [run_slice_l (P := Try.prog) W 29 _ L c elemPk .i64 ((j + 1 : Nat) : Int) (by omega) (by omega), sizeOfPk]
    by_cases hc : c = j + 1
    · simp [Result.andThen, sliced, hc, Addr.add_mid]
    · simp [Result.andThen, sliced, hc, Addr.add_mid]
  · rw [h1] at hr
    exact (rangeAt_append.1 hr).1
  · rw [h2] at hr
    have := (rangeAt_append.1 hr).2
    rw [pkv_length, List.length_take, Nat.min_eq_left (by omega)] at this
    exact this
section
variable {GB : Option Nat} {base : Nat} {w w' w1 : World} {pb : Nat} {p : P} {m : Ms} {lab : Nat → Nat}
/-- The clock's next tick. -/
theorem PR.tick (h : PR GB base w pb p m lab) (t : Nat) : PR GB base (w.setCell ⟨pb, 7, none⟩ (.int .i64 (t : Int))) pb { p with t := t } m lab ∧ Ch w (w.setCell ⟨pb, 7, none⟩ (.int .i64 (t : Int))) (fun g => g = pb) := by
  have c : Ch w (w.setCell ⟨pb, 7, none⟩ (.int .i64 (t : Int))) (fun j => j = pb) := ch_set w pb 7 _
  have hfr : ∀ {d : Nat}, d ≠ 3 → ∀ j, lab j = d → ¬ j = pb := fun h3 j e hj => h3 (e.symm.trans ((congrArg lab hj).trans h.lp))
  have bl : ∀ {v : Value} {l : List UInt8} {d : Nat}, d ≠ 3 → Bl base w lab v l d → Bl base (w.setCell ⟨pb, 7, none⟩ (.int .i64 (t : Int))) lab v l d := fun h3 b =>
    ⟨own_ch2 b.row c (fun j hj => hfr h3 j (b.lab j hj)), b.lab⟩
  refine ⟨⟨?_, h.lo, h.fa.frame c (fun j hj => hfr (by decide) j (h.la j hj)), fun f hf => ?_, h.fn, own_ch2 h.way c (fun j hj => hfr (by decide) j (h.lw j hj)), h.key, fun k hk => ⟨(h.og k hk).1.ch c (fun j hj => hfr (by decide) j (h.ld k hk j hj)), (h.og k hk).2⟩, bl (by decide) h.s0, bl (by decide) h.s1, bl (by decide) h.c0, bl (by decide) h.c1, h.la, h.lb, h.lp, h.lw, h.ld, fun g hg => ⟨(c.block g (h.bx_lt hg) (hfr (by decide) g (h.bx g hg).2)).trans (h.bx g hg).1, (h.bx g hg).2⟩⟩, c⟩
  · have hpb := h.obj
    simp [World.setCell, Array.getElem?_modify, hpb, Ms.cs]
  · obtain ⟨s, e2, k⟩ := h.fb f hf
    exact ⟨s, e2, k.frame c (fun j hj => hfr (by decide) j (h.lb s e2 j hj))⟩
/-- Fewer packets on the way, in a row that is new. -/
theorem PR.setway (h : PR GB base w pb p m lab) (b : Below w.heap.size w w') (ws' : List Pm) (hs : ∀ k ∈ ws', k ∈ m.ws) {v' : Value} (r : w'.ownsRow base 69 14 v' ws'.length (pkv ws')) (hv : ∀ g, v'.ownBlock = some g → w.heap.size ≤ g) :
    ∃ lab', PR GB base (w'.setCell ⟨pb, 2, none⟩ v') pb { p with way := ws'.map Pm.key } { m with wv := v', ws := ws' } lab' ∧ (∀ g, g < w.heap.size → lab' g = lab g) ∧ Ch w (w'.setCell ⟨pb, 2, none⟩ v') (fun g => g = pb) := by
  let lab' : Nat → Nat := fun j => if j < w.heap.size then lab j else 4
  have hold : ∀ j, j < w.heap.size → lab' j = lab j := fun j hj => if_pos hj
  have c2 : Ch w' (w'.setCell ⟨pb, 2, none⟩ v') (fun j => j = pb) := ch_set w' pb 2 v'
  have c : Ch w (w'.setCell ⟨pb, 2, none⟩ v') (fun j => j = pb) := (Ch.of_below (fun _ => False) b).trans c2 (fun _ _ e => e.elim) (fun _ _ e => e)
  have hfr : ∀ {d : Nat}, d ≠ 3 → ∀ j, lab j = d → ¬ j = pb := fun h3 j e hj => h3 (e.symm.trans ((congrArg lab hj).trans h.lp))
  have bl : ∀ {v : Value} {l : List UInt8} {d : Nat}, d ≠ 3 → Bl base w lab v l d → Bl base (w'.setCell ⟨pb, 2, none⟩ v') lab' v l d := fun h3 b =>
    ⟨own_ch2 b.row c (fun j hj => hfr h3 j (b.lab j hj)), fun j hj => (hold j (own_in b.row hj).2).trans (b.lab j hj)⟩
  have hpb : w'.heap[pb]? = some (.cells (m.cs p.t) 33 (0, 0)) := (b.block pb h.lt).trans h.obj
  have hplt := h.lt
  refine ⟨lab', ⟨?_, h.lo, h.fa.frame c (fun j hj => hfr (by decide) j (h.la j hj)), fun f hf => ?_, h.fn, own_ch2 r c2 (fun j hj e => by have := hv j hj; omega), rfl, fun k hk => ⟨(h.og k (hs k hk)).1.ch c (fun j hj => hfr (by decide) j (h.ld k (hs k hk) j hj)), (h.og k (hs k hk)).2⟩, bl (by decide) h.s0, bl (by decide) h.s1, bl (by decide) h.c0, bl (by decide) h.c1,
    fun j hj => (hold j (h.fa.in_ hj).2).trans (h.la j hj), fun s hs2 j hj => ?_, (hold pb h.lt).trans h.lp, fun j hj => if_neg (by have := hv j hj; omega), fun k hk j hj => (hold j ((h.og k (hs k hk)).1.lt hj).2).trans (h.ld k (hs k hk) j hj), fun g hg => ⟨(c.block g (h.bx_lt hg) (hfr (by decide) g (h.bx g hg).2)).trans (h.bx g hg).1, (hold g (h.bx_lt hg)).trans (h.bx g hg).2⟩⟩, hold, c⟩
  · simp [World.setCell, Array.getElem?_modify, hpb, Ms.cs]
  · obtain ⟨s, e2, k⟩ := h.fb f hf
    exact ⟨s, e2, k.frame c (fun j hj => hfr (by decide) j (h.lb s e2 j hj))⟩
  · cases hf : p.f1 with
    | none =>
      have hs2 : m.b = some s := hs2
      rw [h.fn hf] at hs2
      cases hs2
    | some f =>
      obtain ⟨s2, e2, k2⟩ := h.fb f hf
      have hs2 : m.b = some s := hs2
      rw [e2] at hs2
      injection hs2 with hs2
      subst hs2
      exact (hold j (k2.in_ hj).2).trans (h.lb s2 e2 j hj)
end
end Go.Proofs.Ytnpkmkjenlhkiaa
