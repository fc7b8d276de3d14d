/- The document's New, and its Write. Conditions: its sender stands, with at most 10^9 data in all; the bytes lie where the slice says, in memory that is older. -/
import Derived.Test.YtgcblajhdebigaaDsU
import Derived.Deep.Onto
namespace Go.Proofs.Ytgcblajhdebigaa
set_option linter.unusedVariables false
set_option linter.unusedSimpArgs false
open Go.RowKit Go.Lib

/-- The slice '.slice A m c' holds the cells ys, so many each element. -/
def Src (w : World) (A : Option Addr) (m c size : Nat) (ys : List Value) : Prop :=
  ys.length = m * size ∧ m ≤ c ∧ c ≤ 9223372036854775807 ∧ (∀ u ∈ ys, u.oneCell' = true) ∧ (0 < m → ∃ b o, A = some ⟨b, o, none⟩ ∧ w.rangeAt b o ys)
section
variable {P : Program} (w : World)
/-- The run of append. -/
theorem app_gen (t ty e : TypeId) (z : Value) (size by_ : Nat) (ht : P.underlying t = some (.slice e)) (hi : (P.info? e).map (fun i => (i.zero, i.size, i.bytes)) = some (some z, size, by_)) (hzs : z.cells.size = size) (hsz : 0 < size) (hby : by_ ≤ 128)
    (base : Nat) (v : Value) (n : Nat) (xs : List Value) (hown : w.ownsRow base e size v n xs)
    (A : Option Addr) (m c : Nat) (ys : List Value) (hy : Src w A m c size ys) (hs : n + m ≤ 1099511627776) (hb : base ≤ w.heap.size) :
    ∃ v' w', (Builtin.append_ #[t, t] ty #[v, .slice A m c]).run P w = .ok v' w' ∧ w'.ownsRow base e size v' (n + m) (xs ++ ys) ∧ w.grownBy w' v.ownBlock ∧ (v'.ownBlock = v.ownBlock ∨ v'.ownBlock = some w.heap.size) := by
  obtain ⟨i, hi, hz, h1, h2⟩ := info_parts hi
  rcases A with _ | ad
  · have hm : m = 0 := by
      rcases Nat.eq_zero_or_pos m with h0 | h0
      · exact h0
      · obtain ⟨_, _, e, _⟩ := hy.2.2.2.2 h0
        cases e
    subst hm
    obtain rfl : ys = [] := List.eq_nil_of_length_eq_zero (by rw [hy.1]; omega)
    refine ⟨v, w, ?_, by simpa using hown, World.grownBy.refl w _, .inl rfl⟩
    rcases hown.2 with ⟨rfl, rfl⟩ | ⟨g, cap, cur, rfl, _, _, hnc, _⟩
    · simp [Builtin.append_, run_underlying ht, sizeOf, typeInfo, hi, Builtin.lenOf, Builtin.firstCells]
    · simp [Builtin.append_, run_underlying ht, sizeOf, typeInfo, hi, Builtin.lenOf, Builtin.firstCells, hnc, storeCells]
  · obtain ⟨v', w', hrun, g2, g3, _, g5⟩ := run_append_own_at (P := P) w base t ty e i z size by_ ht hi hz h1 h2 hzs hsz v n xs hown ad m c ys
      hy.1 (fun j u hu => by
        have hj := (List.getElem?_eq_some_iff.1 hu).1
        rw [hy.1] at hj
        obtain ⟨b, p, e, hc⟩ := hy.2.2.2.2 (by rcases Nat.eq_zero_or_pos m with h0 | h0; (subst h0; omega); exact h0)
        injection e with e
        subst e
        rw [Addr.add_lit]
        exact hc j u hu) hy.2.2.2.1 (by unfold maxLen; omega) (by
          have : (n + m) * by_ ≤ 1099511627776 * 128 := Nat.mul_le_mul hs hby
          omega) hb
    exact ⟨v', w', hrun, g2, g3, g5⟩
end
/-- .. in a walk. -/
theorem wpList_appG {P : Program} {ops : Array Oper} {rest : List Oper} {o : Oper} {a : Act} {w : World} {Q : Exit → Act → World → Prop} (hgd : o.guard = none) (s x : Operand) (t e : TypeId)
    (ho : o.op = .call { callee := .builtin .append, args := #[s, x], argTypes := #[t, t] }) (z : Value) (size by_ : Nat)
    (ht : P.underlying t = some (.slice e)) (hi : (P.info? e).map (fun i => (i.zero, i.size, i.bytes)) = some (some z, size, by_)) (hzs : z.cells.size = size) (hsz : 0 < size) (hby : by_ ≤ 128)
    (base : Nat) (v : Value) (n : Nat) (xs : List Value) (hs : a.eval s = v) (hown : w.ownsRow base e size v n xs)
    (A : Option Addr) (m c : Nat) (ys : List Value) (hx : a.eval x = .slice A m c) (hy : Src w A m c size ys) (hn : n + m ≤ 1099511627776) (hb : base ≤ w.heap.size)
    (h : ∀ v' w', w'.ownsRow base e size v' (n + m) (xs ++ ys) → w.grownBy w' v.ownBlock → (v'.ownBlock = v.ownBlock ∨ v'.ownBlock = some w.heap.size) → wpList P ops Q rest (a.put o.dst v') w') : wpList P ops Q (o :: rest) a w := by
  obtain ⟨v', w', hrun, h1, h2, h3⟩ := app_gen (P := P) w t o.type e z size by_ ht hi hzs hsz hby base v n xs hown A m c ys hy hn hb
  exact Lib.wpList_append_run w hgd s x t t ho _ _ hs hx v' w' hrun (h v' w' h1 h2 h3)
/-- The document's sender as a law that began in W keeps it. -/
structure Xv (W w : World) (xb : Nat) (y : Ry) (d : Dq) : Prop where
  s : Rf W.heap.size w xb y d
  bel : Below W.heap.size W w
section
variable {W w w' : World} {xb : Nat} {y y' : Ry} {d d' : Dq}
theorem Xv.step (h : Xv W w xb y d) (l : LeftR W.heap.size w xb y d' w' y') : Xv W w' xb y' d' :=
  ⟨l.s, ((Ch.of_below (y.T xb) h.bel).then_ l.ch).below (fun x hx e => by have := (h.s.in_ e).1; omega)⟩
theorem Xv.below (h : Xv W w xb y d) (b : Below w.heap.size w w') : Xv W w' xb y d := ⟨h.s.below b, h.bel.trans (b.mono h.bel.size)⟩
end
section
variable {base : Nat} {w w' : World} {xb : Nat} {y : Ry} {d d' : Dq}
def RNewP (base : Nat) (w : World) (e : Ending) (w' : World) : Prop := ∃ (xb : Nat) (y : Ry), e = .returned (ptr xb) ∧ Rf base w' xb y Dq.new ∧ Below w.heap.size w w' ∧ ∀ k, y.T xb k → w.heap.size ≤ k
theorem rnew_any (base : Nat) (w : World) (hb : base ≤ w.heap.size) : Calls Try.prog 10 #[] w (RNewP base w) := by
  have HF : Hid (RNewP base w (.returned (ptr w.heap.size)) (w.alloc (.cells #[.slice none 0 0, .slice none 0 0, .int .i64 1, .int .i64 1, .int .i64 33, .bool false, .bool false] 45))) := by
    refine Lib.hid ⟨w.heap.size, ⟨.slice none 0 0, .slice none 0 0, []⟩, rfl, ⟨heap_alloc_new w _, World.ownsRow_nil _ _ _ _, World.ownsRow_nil _ _ _ _, fun k h1 h2 => ?_, hb⟩, below_a w _, fun k hk => ?_⟩
    · have h1' : 1 ≤ k := h1
      have h2' : k < 0 + 1 := h2
      omega
    · rcases hk with hk | hk | hk
      · omega
      · cases hk
      · cases hk
  unfold ptr at *
  go_enter Try.func10, Try.ntmps10
  go_wp2_with fail
  go_ret
  exact HF.out

theorem put_succ {d : Dq} {b : List UInt8} {i : Nat} (hi : i < b.length) : (d.put (i + 1) b).all = (d.put i b).all ++ [b.getD i 0] := by
  show d.all ++ b.take (i + 1) = d.all ++ b.take i ++ [b.getD i 0]
  rw [List.append_assoc, List.take_add_one, List.getD_eq_getElem?_getD, List.getElem?_eq_getElem hi]
  rfl
theorem write_mid {d : Dq} (H : Rf base w xb y d) {nl : Nat} (hnl : nl = d.all.length) {w8 w9 : World} {av : Value} (b8 : Below w.heap.size w w8) (g9 : w8.grownBy w9 y.av.ownBlock) {lo : Nat} (hlo : lo ≤ w.heap.size) :
    ∀ w10, w10 = w9.setCell ⟨xb, 0, none⟩ av → w10.cell? ⟨xb, 1, none⟩ = some y.lv ∧ w10.frozen? ⟨xb, 1, none⟩ = false ∧ w10.ownsRow base 4 1 y.lv nl (bo y.lb) ∧ lo ≤ w10.heap.size ∧ xb < w10.heap.size := by
  rintro w10 rfl
  subst hnl
  obtain ⟨a1, a2, a3⟩ := H.apart
  have hlt := H.lt
  have s8 := b8.size
  have c9 : Ch w w9 (fun k => y.av.ownBlock = some k) := Ch.grown (m := fun k => y.av.ownBlock = some k) (Ch.of_below _ b8) g9 (fun k e _ => e)
  have c10 : Ch w9 (w9.setCell ⟨xb, 0, none⟩ av) (fun k => k = xb) := Ch.setCell (m := fun k => k = xb) (Ch.refl w9 _) (fun _ => rfl) _
  have h1 := blk_set ((c9.block xb hlt a1).trans H.blk) 0 av
  have hs := c10.size
  have hs9 := c9.size
  exact ⟨by rw [cell_of_row _ xb 1 _ _ (0, 0) h1]; rfl, frozen_of h1 1, own_ch2 (own_ch2 H.lost c9 (fun g hg e => a3 g e hg)) c10 (fun g hg e => a2 (e ▸ hg)), by omega, by omega⟩
/-- One byte, and one truth, behind the others. -/
theorem write_step {b : List UInt8} {i : Nat} (hi : i < b.length) (H : Rf base w xb y (d.put i b)) (hok : (d.put i b).ok) {w8 w9 w10 w11 w12 w13 : World} {av lv : Value} (b8 : Below w.heap.size w w8)
    (o9 : w9.ownsRow base 5 1 av ((d.put i b).all.length + 1) (bv ((d.put i b).all ++ [b.getD i 0]))) (g9 : w8.grownBy w9 y.av.ownBlock) (h9 : av.ownBlock = y.av.ownBlock ∨ av.ownBlock = some w8.heap.size)
    (e10 : w10 = w9.setCell ⟨xb, 0, none⟩ av) (b11 : Below w10.heap.size w10 w11)
    (o12 : w12.ownsRow base 4 1 lv ((d.put i b).all.length + 1) (bo y.lb ++ bo [false])) (g12 : w11.grownBy w12 y.lv.ownBlock) (h12 : lv.ownBlock = y.lv.ownBlock ∨ lv.ownBlock = some w11.heap.size)
    (e13 : w13 = w12.setCell ⟨xb, 1, none⟩ lv) : LeftR base w xb y (d.put (i + 1) b) w13 ⟨av, lv, y.lb ++ [false]⟩ := by
  obtain ⟨a1, a2, a3⟩ := H.apart
  have hlt := H.lt
  have s8 := b8.size
  have c9 : Ch w w9 (fun k => y.av.ownBlock = some k) := Ch.grown (m := fun k => y.av.ownBlock = some k) (Ch.of_below _ b8) g9 (fun k e _ => e)
  have c10 : Ch w9 w10 (fun k => k = xb) := by rw [e10]; exact Ch.setCell (m := fun k => k = xb) (Ch.refl w9 _) (fun _ => rfl) _
  have s9 : w.heap.size ≤ w9.heap.size := c9.size
  have s10 : w9.heap.size ≤ w10.heap.size := c10.size
  have c12 : Ch w10 w12 (fun k => y.lv.ownBlock = some k) := Ch.grown (m := fun k => y.lv.ownBlock = some k) (Ch.of_below _ b11) g12 (fun k e _ => e)
  have c13 : Ch w12 w13 (fun k => k = xb) := by rw [e13]; exact Ch.setCell (m := fun k => k = xb) (Ch.refl w12 _) (fun _ => rfl) _
  have h0 := (c9.block xb hlt a1).trans H.blk
  have h1 : w10.heap[xb]? = some (.cells ((rcells y (d.put i b)).setIfInBounds 0 av) 45 (0, 0)) := by rw [e10]; exact blk_set h0 0 av
  have h2 := (c12.block xb (by omega) a2).trans h1
  have h3 : w13.heap[xb]? = some (.cells (((rcells y (d.put i b)).setIfInBounds 0 av).setIfInBounds 1 lv) 45 (0, 0)) := by rw [e13]; exact blk_set h2 1 lv
  have nav : ∀ g, av.ownBlock = some g → g ≠ xb ∧ y.lv.ownBlock ≠ some g := fun g hg => by
    rcases h9 with h | h
    · exact ⟨fun e => a1 (by rw [← h, hg, e]), a3 g (h ▸ hg)⟩
    · rw [h] at hg
      injection hg with hg
      refine ⟨by omega, fun e => ?_⟩
      have := (own_in H.lost e).2
      omega
  have nlv : ∀ g, lv.ownBlock = some g → g ≠ xb := fun g hg => by
    rcases h12 with h | h
    · exact fun e => a2 (by rw [← h, hg, e])
    · rw [h] at hg
      injection hg with hg
      have := b11.size
      omega
  have hl : (d.put (i + 1) b).all.length = (d.put i b).all.length + 1 := by rw [put_succ hi]; simp
  refine ⟨⟨h3, ?_, ?_, fun k k1 k2 => ?_, H.lo⟩, ?_, fun k hk => ?_⟩
  · rw [hl, put_succ hi]
    exact own_ch2 (own_ch2 (own_ch2 o9 c10 (fun g hg => (nav g hg).1)) c12 (fun g hg => (nav g hg).2)) c13 (fun g hg => (nav g hg).1)
  · rw [hl, bo_append]
    exact own_ch2 o12 c13 (fun g hg => nlv g hg)
  · have hlen : y.lb.length = (d.put i b).all.length := H.lens
    have k2' : k < (d.put i b).fin + 1 := by
      have : k < (d.put (i + 1) b).fin := k2
      unfold Dq.fin at *
      omega
    show (y.lb ++ [false]).getD (k - 1) false = d.L k
    rcases Nat.lt_or_ge k (d.put i b).fin with hk | hk
    · have h := H.rel k k1 hk
      have : k - 1 < y.lb.length := by unfold Dq.fin at hk; have := hok.u1; have k1' : (d.put i b).una ≤ k := k1; omega
      rw [List.getD_eq_getElem?_getD, List.getElem?_append_left this, ← List.getD_eq_getElem?_getD, h]
      rfl
    · have hke : k = (d.put i b).fin := by omega
      have hL : d.L k = false := by
        cases hb : d.L k with
        | false => rfl
        | true =>
          have := (hok.lost k hb).2
          have := hok.ne
          omega
      rw [hL, List.getD_eq_getElem?_getD, List.getElem?_append_right (by unfold Dq.fin at hke; omega)]
      have : k - 1 - y.lb.length = 0 := by unfold Dq.fin at hke; omega
      rw [this]
      rfl
  · exact (((c9.then_ (Ch.mono (m' := fun k => y.av.ownBlock = some k) (Ch.refl w9 (fun _ => False)) (fun _ _ e => e.elim))).trans c10 (m'' := y.T xb) (fun _ _ e => .inr (.inl e)) (fun _ _ e => .inl e)).trans c12 (m'' := y.T xb) (fun _ _ e => e) (fun _ _ e => .inr (.inr e))).trans c13 (fun _ _ e => e) (fun _ _ e => .inl e)
  · rcases hk with hk | hk | hk
    · exact .inl (.inl hk)
    · have hk' : av.ownBlock = some k := hk
      rcases h9 with h | h
      · exact .inl (.inr (.inl (h ▸ hk')))
      · rw [h] at hk'
        injection hk' with hk'
        exact .inr (by omega)
    · have hk' : lv.ownBlock = some k := hk
      rcases h12 with h | h
      · exact .inl (.inr (.inr (h ▸ hk')))
      · rw [h] at hk'
        injection hk' with hk'
        have := b11.size
        exact .inr (by omega)
theorem LeftR.res2 {y' : Ry} {w7 : World} {r : Nat} (h : LeftR base w xb y d' w' y') (c : Ch w' w7 (fun k => k = r)) (hr : w.heap.size ≤ r) (hnt : ¬ y'.T xb r) : LeftR base w xb y d' w7 y' := h.res c hr hnt
end
theorem szWrote : (Try.prog.info? 35).map (·.size) = some 2 := by kernel_rfl
theorem rb_bool (w : World) : Src (w.alloc (.cells #[.bool false] 4)) (some ⟨w.heap.size, 0, none⟩) 1 1 1 (bo [false]) := by
  refine ⟨rfl, Nat.le_refl _, by omega, fun u hu => ?_, fun _ => ⟨w.heap.size, 0, rfl, fun j v hv => ?_⟩⟩
  · simp [bo] at hu
    subst hu
    rfl
  · rw [cell_of_row _ _ _ _ _ _ (heap_alloc_new w _)]
    simpa [bo] using hv

section
variable {W w w' : World} {xb : Nat} {y : Ry} {d d' : Dq}
def RWriteP (base : Nat) (w : World) (xb : Nat) (y : Ry) (d : Dq) (n : Nat) (b : List UInt8) (e : Ending) (w' : World) : Prop := e = .returned (.agg #[.int .i64 (d.wN n : Int), .int .i64 (d.wE n)]) ∧ ∃ y', LeftR base w xb y (d.wrote b) w' y'

set_option maxRecDepth 20000 in
set_option maxHeartbeats 6400000 in
theorem rwrite_any (H : Xv W w xb y d) (hok : d.ok) (hc : d.fin ≤ 1000000000) {A : Option Addr} {n c : Nat} {b : List UInt8} (R : RB W A n c b) (hn : n ≤ 1000) : Calls Try.prog 12 #[ptr xb, .slice A n c] w (RWriteP W.heap.size w xb y d n b) := by
  have hb1 := below_a w (.cells #[.int .i64 0, .int .i64 0] 35)
  have hr1 : (w.alloc (.cells #[.int .i64 0, .int .i64 0] 35)).heap[w.heap.size]? = some (.cells #[.int .i64 0, .int .i64 0] 35 (0, 0)) := heap_alloc_new w _
  have HB1 := Lib.hid hb1
  have HX1 := Lib.hid (H.below hb1)
  have HH := Lib.hid H
  have HOK := Lib.hid hok
  have HNT : Hid (¬ y.T xb w.heap.size) := Lib.hid (fun e => by have := (H.s.in_ e).2; omega)
  have d5 := HX1.out.s.cell 5
  unfold rcells at d5
  have hlen := R.len
  have hcap := R.cap
  have hbel := H.bel.size
  clear hb1 H
  unfold ptr
  cases ht : d.told with
  | true =>
    have HF : Hid (∀ w7, LeftR W.heap.size w xb y d w7 y → RWriteP W.heap.size w xb y d n b (.returned (.agg #[.int .i64 0, .int .i64 11])) w7) := Lib.hid (fun w7 hl => by
      refine ⟨by unfold Dq.wN Dq.wE; rw [ht]; rfl, y, ?_⟩
      unfold Dq.wrote
      rw [ht]
      exact hl)
    rw [ht] at d5
    clear ht hok
    go_enter Try.func12, Try.ntmps12
    go_upto_region 1 with (fail)
    generalize w.alloc (.cells #[.int .i64 0, .int .i64 0] 35) = w2 at *
    have rf := frozen_of hr1
    have r0 : w2.cell? ⟨w.heap.size, 0, none⟩ = some (.int .i64 0) := (cell_of_row _ _ 0 _ _ (0, 0) hr1)
    have r1 : w2.cell? ⟨w.heap.size, 1, none⟩ = some (.int .i64 0) := (cell_of_row _ _ 1 _ _ (0, 0) hr1)
    have HST := Lib.hid (store2t hr1 (.int .i64 0) (.int .i64 11))
    clear hr1
    go_wp2_with fail
    exact bodyPost_ret (results_c0 rfl _ _ w.heap.size _ _ rfl HST.out.1 Try.underlying35 rfl szWrote) rfl (HF.out _ ((LeftR.of_below HH.out.s HB1.out).res HST.out.2 (Nat.le_refl _) HNT.out))
  | false =>
    rw [ht] at d5
    have d2 := HX1.out.s.cell 2
    unfold rcells at d2
    have hun := hok.un
    have hne := hok.ne
    have hrm := hok.room
    have hu1 := hok.u1
    have HLA := Lib.hid (fun q => last_any (HX1.out.s.below (below_dn (Below.refl _ _) q)) (by omega))
    have hw1 : IntKind.i64.wrap ((d.fin : Int) - (d.una : Int)) = (d.fin : Int) - (d.una : Int) := by rw [IntKind.wrap_i64]; omega
    have hw2 : IntKind.i64.wrap (64 - ((d.fin : Int) - (d.una : Int))) = (d.room_ : Int) := by unfold Dq.room_ Dq.held; rw [IntKind.wrap_i64]; omega
    unfold ptr at HLA
    by_cases hr : d.room_ = 0 ∧ 0 < n
    · have HF : Hid (∀ w7, LeftR W.heap.size w xb y d w7 y → RWriteP W.heap.size w xb y d n b (.returned (.agg #[.int .i64 0, .int .i64 7])) w7) := Lib.hid (fun w7 hl => by
        refine ⟨by unfold Dq.wN Dq.wE; rw [ht, if_pos hr, hr.1, Nat.min_zero]; rfl, y, ?_⟩
        unfold Dq.wrote
        rw [ht, hr.1, Nat.min_zero, Dq.put_zero]
        exact hl)
      obtain ⟨h1, h2⟩ := hr
      rw [h1] at hw2
      have h3 : (0 : Int) < (n : Int) := by omega
      clear ht hok h1 hun hne hrm hu1
      go_enter Try.func12, Try.ntmps12
      go_wp2_with fail
      go_quiet (first | (go_at_call 30; exact Calls.quiet_of_same (HLA.out _)))
      have HB2 : Hid (Below w.heap.size w ((w.alloc (.cells #[.int .i64 0, .int .i64 0] 35)).drewN nq)) := Lib.hid (below_dn HB1.out nq)
      have hr2 : ((w.alloc (.cells #[.int .i64 0, .int .i64 0] 35)).drewN nq).heap[w.heap.size]? = some (.cells #[.int .i64 0, .int .i64 0] 35 (0, 0)) := hr1
      generalize (w.alloc (.cells #[.int .i64 0, .int .i64 0] 35)).drewN nq = w2 at *
      have rf := frozen_of hr2
      have r0 : w2.cell? ⟨w.heap.size, 0, none⟩ = some (.int .i64 0) := (cell_of_row _ _ 0 _ _ (0, 0) hr2)
      have r1 : w2.cell? ⟨w.heap.size, 1, none⟩ = some (.int .i64 0) := (cell_of_row _ _ 1 _ _ (0, 0) hr2)
      have HST := Lib.hid (store2t hr2 (.int .i64 0) (.int .i64 7))
      clear hr1 hr2
      go_wp2_with fail
      exact bodyPost_ret (results_c0 rfl _ _ w.heap.size _ _ rfl HST.out.1 Try.underlying35 rfl szWrote) rfl (HF.out _ ((LeftR.of_below HH.out.s HB2.out).res HST.out.2 (Nat.le_refl _) HNT.out))
    · obtain ⟨k, hk⟩ : ∃ k, k = min n d.room_ := ⟨_, rfl⟩
      have HF : Hid (∀ w7 y7, LeftR W.heap.size w xb y (d.put k b) w7 y7 → RWriteP W.heap.size w xb y d n b (.returned (.agg #[.int .i64 (k : Int), .int .i64 0])) w7) := Lib.hid (fun w7 y7 hl => by
        refine ⟨by unfold Dq.wN Dq.wE; rw [ht, if_neg hr, hk]; rfl, y7, ?_⟩
        unfold Dq.wrote
        rw [ht, hlen, ← hk]
        exact hl)
      have HK : Hid (k = min n d.room_ ∧ b.length = n ∧ d.fin ≤ 1000000000 ∧ W.heap.size ≤ w.heap.size) := Lib.hid ⟨hk, hlen, hc, hbel⟩
      have HR := Lib.hid R
      have hgrd : d.room_ = 0 → n = 0 := fun h => by omega
      have hlt : ∀ i : Nat, i < k ↔ i < n ∧ i < d.room_ := fun i => by omega
      have HLT := Lib.hid hlt
      clear ht hok hk hr hun hne hrm hu1 hlen hcap hbel R hlt
      generalize hrm : d.room_ = room at *
      have HRM := Lib.hid hrm
      clear hrm
      by_cases hroom : room = 0
      · have hn0 : ¬ ((0 : Int) < (n : Int)) := by have := hgrd hroom; omega
        have hrm : ¬ ((0 : Int) < (room : Int)) := by omega
        have hrm1 : (room : Int) ≤ 0 := by omega
        clear hroom hgrd
        go_enter Try.func12, Try.ntmps12
        go_wp2_with fail
        go_quiet (first | (go_at_call 30; exact Calls.quiet_of_same (HLA.out _)))
        have HB2 : Hid (Below w.heap.size w ((w.alloc (.cells #[.int .i64 0, .int .i64 0] 35)).drewN nq)) := Lib.hid (below_dn HB1.out nq)
        have hr2 : ((w.alloc (.cells #[.int .i64 0, .int .i64 0] 35)).drewN nq).heap[w.heap.size]? = some (.cells #[.int .i64 0, .int .i64 0] 35 (0, 0)) := hr1
        generalize (w.alloc (.cells #[.int .i64 0, .int .i64 0] 35)).drewN nq = w2 at *
        have HX2 := Lib.hid (HH.out.below HB2.out)
        have HR2 := Lib.hid hr2
        have HSZ : Hid (w.heap.size < w2.heap.size) := Lib.hid (Array.getElem?_eq_some_iff.1 hr2).1
        clear hr1 hr2 HX1 HLA HB1
        go_wp2_with fail
        go_loopw [6] (fun ix wr => ∃ (i : Nat) (y1 : Ry), ix = .int .i64 (i : Int) ∧ i ≤ k ∧ LeftR W.heap.size w2 xb y (d.put i b) wr y1) (fun ix _ => k - (intOf ix).toNat)
        case atStart => exact ⟨0, y, rfl, Nat.zero_le _, by rw [Dq.put_zero]; exact LeftR.refl HX2.out.s⟩
        case round =>
          obtain ⟨i, y1, rfl, hik, L1⟩ := hrel
          have HL1 := Lib.hid L1
          have HY1 := Lib.hid (HX2.out.step L1)
          clear L1
          by_cases hi : i < k
          · have := (HLT.out i).1 hi
            omega
          · obtain rfl : i = k := by omega
            have hx9 : wr.heap[w.heap.size]? = some (.cells #[.int .i64 0, .int .i64 0] 35 (0, 0)) := (HL1.out.ch.block _ HSZ.out HNT.out).trans HR2.out
            have rf := frozen_of hx9
            have r0 : wr.cell? ⟨w.heap.size, 0, none⟩ = some (.int .i64 0) := (cell_of_row _ _ 0 _ _ (0, 0) hx9)
            have r1 : wr.cell? ⟨w.heap.size, 1, none⟩ = some (.int .i64 0) := (cell_of_row _ _ 1 _ _ (0, 0) hx9)
            have HST := Lib.hid (store2t hx9 (.int .i64 (i : Int)) (.int .i64 0))
            have HFF := Lib.hid (HF.out _ y1 ((HL1.out.ahead HB2.out).res HST.out.2 (Nat.le_refl _) (fun e => (HL1.out.new _ e).elim HNT.out (fun q => by have := HSZ.out; omega))))
            have hor := HLT.out i
            clear hx9
            by_cases q1 : i < n
            · omega
            · have q1i : ¬ ((i : Int) < (n : Int)) := by omega
              clear hor
              go_wp2_with fail
              exact bodyPost_ret (results_c0 rfl _ _ w.heap.size _ _ rfl HST.out.1 Try.underlying35 rfl szWrote) rfl HFF.out
      · have hrm : ¬ ((room : Int) ≤ 0) := by omega
        clear hroom hgrd
        go_enter Try.func12, Try.ntmps12
        go_wp2_with fail
        go_quiet (first | (go_at_call 30; exact Calls.quiet_of_same (HLA.out _)))
        have HB2 : Hid (Below w.heap.size w ((w.alloc (.cells #[.int .i64 0, .int .i64 0] 35)).drewN nq)) := Lib.hid (below_dn HB1.out nq)
        have hr2 : ((w.alloc (.cells #[.int .i64 0, .int .i64 0] 35)).drewN nq).heap[w.heap.size]? = some (.cells #[.int .i64 0, .int .i64 0] 35 (0, 0)) := hr1
        generalize (w.alloc (.cells #[.int .i64 0, .int .i64 0] 35)).drewN nq = w2 at *
        have HX2 := Lib.hid (HH.out.below HB2.out)
        have HR2 := Lib.hid hr2
        have HSZ : Hid (w.heap.size < w2.heap.size) := Lib.hid (Array.getElem?_eq_some_iff.1 hr2).1
        clear hr1 hr2 HX1 HLA HB1
        go_wp2_with fail
        go_loopw [6] (fun ix wr => ∃ (i : Nat) (y1 : Ry), ix = .int .i64 (i : Int) ∧ i ≤ k ∧ LeftR W.heap.size w2 xb y (d.put i b) wr y1) (fun ix _ => k - (intOf ix).toNat)
        case atStart => exact ⟨0, y, rfl, Nat.zero_le _, by rw [Dq.put_zero]; exact LeftR.refl HX2.out.s⟩
        case round =>
          obtain ⟨i, y1, rfl, hik, L1⟩ := hrel
          have HL1 := Lib.hid L1
          have HY1 := Lib.hid (HX2.out.step L1)
          clear L1
          by_cases hi : i < k
          · obtain ⟨hin, hir⟩ := (HLT.out i).1 hi
            have hini : (i : Int) < (n : Int) := by omega
            have hiri : (i : Int) < (room : Int) := by omega
            obtain ⟨bg, bo', rfl, xb0⟩ := (HR.out.below HY1.out.bel).at_ hin
            have hkr : k ≤ d.room_ := by have := HK.out; have := HRM.out; omega
            have hpok : (d.put i b).ok := HOK.out.put b (by omega)
            have HPO := Lib.hid hpok
            have HIB : Hid (i < b.length) := Lib.hid (by have := HK.out; omega)
            have HHI := Lib.hid hi
            obtain ⟨dA, dc, hav, -, -⟩ := RB.of_own HY1.out.s.all
            have d10 : wr.drew.cell? ⟨xb, 0, none⟩ = some (.slice dA (d.put i b).all.length dc) := by rw [← hav]; exact HY1.out.s.cell 0
            have d1f := HY1.out.s.fz 0
            have xb1 : wr.drew.cell? ⟨bg, bo' + i, none⟩ = some (.int .u8 ((b.getD i 0).toNat : Int)) := xb0
            have HLE : Hid ((d.put i b).all.length + 1 ≤ 1099511627776) := Lib.hid (by
              show (d.all ++ b.take i).length + 1 ≤ _
              have := HK.out.2.2.1
              unfold Dq.fin at this
              simp only [List.length_append, List.length_take]
              omega)
            have HAV := Lib.hid hav
            have HLT2 := Lib.hid HY1.out.s.lt
            have HBG : Hid (bg < W.heap.size) := by
              obtain ⟨g', o', e', hc'⟩ := HR.out.at_ hin
              injection e' with e'
              injection e' with e1 e2 e3
              subst e1
              exact Lib.hid (World.block_lt_of_cell? W _ hc')
            clear xb0 hpok hkr hav hi hik
            generalize hbt : b.getD i 0 = bt at *
            generalize hnl : (d.put i b).all.length = nl at *
            have HNL := Lib.hid hnl
            have HBT := Lib.hid hbt
            clear hnl hbt
            go_wp2_with fail
            refine wp_region_noPanic ?_
            refine until_start (fun W => W.cell? ⟨xb, 0, none⟩ = some (.slice dA nl dc) ∧ W.cell? ⟨bg, bo' + i, none⟩ = some (.int .u8 (bt.toNat : Int))) 13 (by kernel_rfl) ⟨d10, xb1⟩ (fun _ => ?_)
            refine until_take (i := 0) (v := .pointer (some ⟨xb, 0, none⟩)) (some 37) [13] rfl rfl (by kernel_rfl) (by kernel_rfl) (by kernel_rfl) (by kernel_rfl) rfl rfl (fun _ _ _ h => h) (Or.inl ⟨by rfl, fun W hW => by go_simp⟩) ⟨d10, xb1⟩ ?_
            simp only [Act.put, List.setIfInBounds_toArray, List.set_cons_zero, List.set_cons_succ]
            refine until_take (i := 1) (v := .pointer (some ⟨xb, 0, none⟩)) (some 38) [13] rfl rfl (by kernel_rfl) (by kernel_rfl) (by kernel_rfl) (by kernel_rfl) rfl rfl (fun _ _ _ h => h) (Or.inl ⟨by rfl, fun W hW => by go_simp⟩) ⟨d10, xb1⟩ ?_
            simp only [Act.put, List.setIfInBounds_toArray, List.set_cons_zero, List.set_cons_succ]
            refine until_take (i := 5) (v := .slice (some ⟨bg, bo', none⟩) n c) (some 42) [13] rfl rfl (by kernel_rfl) (by kernel_rfl) (by kernel_rfl) (by kernel_rfl) rfl rfl (fun _ _ _ h => h) (Or.inl ⟨by rfl, fun W hW => by go_simp⟩) ⟨d10, xb1⟩ ?_
            simp only [Act.put, List.setIfInBounds_toArray, List.set_cons_zero, List.set_cons_succ]
            refine until_take (i := 6) (v := .int .i64 (i : Int)) (some 43) [13] rfl rfl (by kernel_rfl) (by kernel_rfl) (by kernel_rfl) (by kernel_rfl) rfl rfl (fun _ _ _ h => h) (Or.inl ⟨by rfl, fun W hW => by go_simp⟩) ⟨d10, xb1⟩ ?_
            simp only [Act.put, List.setIfInBounds_toArray, List.set_cons_zero, List.set_cons_succ]
            refine until_take (i := 2) (v := .pointer (some ⟨xb, 0, none⟩)) (some 39) [13] rfl rfl (by kernel_rfl) (by kernel_rfl) (by kernel_rfl) (by kernel_rfl) rfl rfl (fun _ _ _ h => h) (Or.inl ⟨by rfl, fun W hW => by go_simp⟩) ⟨d10, xb1⟩ ?_
            simp only [Act.put, List.setIfInBounds_toArray, List.set_cons_zero, List.set_cons_succ]
            refine until_take (i := 7) (v := .pointer (some ⟨bg, bo' + i, none⟩)) (some 44) [13] rfl rfl (by kernel_rfl) (by kernel_rfl) (by kernel_rfl) (by kernel_rfl) rfl rfl (fun _ _ _ h => h) (Or.inl ⟨by rfl, fun W hW => by have hc := hini; go_simp⟩) ⟨d10, xb1⟩ ?_
            simp only [Act.put, List.setIfInBounds_toArray, List.set_cons_zero, List.set_cons_succ]
            refine until_take (i := 3) (v := .pointer (some ⟨xb, 0, none⟩)) (some 40) [13] rfl rfl (by kernel_rfl) (by kernel_rfl) (by kernel_rfl) (by kernel_rfl) rfl rfl (fun _ _ _ h => h) (Or.inl ⟨by rfl, fun W hW => by go_simp⟩) ⟨d10, xb1⟩ ?_
            simp only [Act.put, List.setIfInBounds_toArray, List.set_cons_zero, List.set_cons_succ]
            refine until_take (i := 8) (v := .int .u8 (bt.toNat : Int)) (some 45) [13] rfl rfl (by kernel_rfl) (by kernel_rfl) (by kernel_rfl) (by kernel_rfl) rfl rfl (fun _ _ _ h => h) (Or.inl ⟨by rfl, fun W hW => by have hc := hW.2; go_simp⟩) ⟨d10, xb1⟩ ?_
            simp only [Act.put, List.setIfInBounds_toArray, List.set_cons_zero, List.set_cons_succ]
            refine until_take (i := 4) (v := .slice dA nl dc) (some 41) [13] rfl rfl (by kernel_rfl) (by kernel_rfl) (by kernel_rfl) (by kernel_rfl) rfl rfl (fun _ _ _ h => h) (Or.inl ⟨by rfl, fun W hW => by have hc := hW.1; go_simp⟩) ⟨d10, xb1⟩ ?_
            simp only [Act.put, List.setIfInBounds_toArray, List.set_cons_zero, List.set_cons_succ]
            refine until_step (i := 9) (by kernel_rfl) rfl rfl (fun K hK => ?_)
            go_simp
            have HB8 := Lib.hid (below_a wr.drew (.cells #[.int .u8 (bt.toNat : Int)] 5))
            have hr8 := RB.lit1 wr.drew (bt.toNat : Int) bt 5 rfl
            have e8 : (wr.drew.alloc (.cells #[.int .u8 (bt.toNat : Int)] 5)).cell? ⟨xb, 0, none⟩ = some (.slice dA nl dc) ∧ (wr.drew.alloc (.cells #[.int .u8 (bt.toNat : Int)] 5)).cell? ⟨bg, bo' + i, none⟩ = some (.int .u8 (bt.toNat : Int)) := ⟨keepc HB8.out d10, keepc HB8.out xb1⟩
            have ho8 : (wr.drew.alloc (.cells #[.int .u8 (bt.toNat : Int)] 5)).ownsRow W.heap.size 5 1 (.slice dA nl dc) nl (bv (d.put i b).all) := own_below (by rw [← HAV.out, ← HNL.out]; exact HY1.out.s.all) HB8.out
            have hs8 : W.heap.size ≤ (wr.drew.alloc (.cells #[.int .u8 (bt.toNat : Int)] 5)).heap.size := Nat.le_trans HY1.out.bel.size HB8.out.size
            obtain ⟨g8, hg8⟩ : ∃ g8, g8 = wr.heap.size := ⟨_, rfl⟩
            have hd8 : wr.drew.heap.size = g8 := hg8.symm
            rw [hd8] at hr8
            obtain ⟨w8, hw8⟩ : ∃ w8, w8 = (wr.alloc (.cells #[.int .u8 (bt.toNat : Int)] 5)).drew := ⟨_, rfl⟩
            rw [show wr.drew.alloc (.cells #[.int .u8 (bt.toNat : Int)] 5) = w8 from hw8.symm] at HB8 hr8 e8 ho8 hs8
            have HB9 : Hid (Below wr.heap.size wr w8) := Lib.hid ⟨HB8.out.os, HB8.out.tape, HB8.out.output, HB8.out.size, HB8.out.block⟩
            rw [← hw8, ← hg8]
            clear hd8 hg8 hw8
            refine hK.out _ _ e8 (fun _ => ?_)
            clear hK
            try simp only [Act.put, List.setIfInBounds_toArray, List.set_cons_zero, List.set_cons_succ]
            refine until_step (i := 10) (by kernel_rfl) rfl rfl (fun K hK => ?_)
            refine step_app _ rfl (.tmp 41) (.tmp 46) 28 5 rfl undByte infoByte W.heap.size (.slice dA nl dc) nl _ rfl ho8 (some ⟨g8, 0, none⟩) 1 1 [bt] rfl hr8 HLE.out hs8 ?_
            intro v9 w9 r9 g9 o9
            have hne9 : some xb ≠ (Value.slice dA nl dc).ownBlock := fun e => HY1.out.s.apart.1 (by rw [HAV.out]; exact e.symm)
            have hx8 : xb < w8.heap.size := Nat.lt_of_lt_of_le HLT2.out HB8.out.size
            have e9 : w9.cell? ⟨xb, 0, none⟩ = some (.slice dA nl dc) ∧ w9.cell? ⟨bg, bo' + i, none⟩ = some (.int .u8 (bt.toNat : Int)) := ⟨g9.cell e8.1 hne9, g9.cell e8.2 (fun e => by have := (own_in HY1.out.s.all (g := bg) (by rw [HAV.out]; exact e.symm)).1; have := HBG.out; omega)⟩
            have f9 : w9.frozen? ⟨xb, 0, none⟩ = false := (World.frozen?_of_block (g9.block xb hx8 hne9)).trans ((World.frozen?_of_block (HB8.out.block xb HLT2.out)).trans d1f)
            have HO9 := Lib.hid (And.intro r9 (And.intro g9 o9))
            obtain ⟨A9, k9, rfl, -, -⟩ := RB.of_own r9
            have HX8 := Lib.hid hx8
            clear r9 g9 o9 e8 ho8 hs8 hr8 d10 xb1 hne9 hx8 d1f
            have HNN : Hid (nl + 1 = nl + 1) := Lib.hid rfl
            show K (Act.put _ (some 47) _) _
            refine hK.out _ _ e9 (fun _ => ?_)
            clear hK
            try simp only [Act.put, List.setIfInBounds_toArray, List.set_cons_zero, List.set_cons_succ]
            refine until_take (i := 11) (v := .pointer (some ⟨xb, 0, none⟩)) (some 48) [12, 13] rfl rfl (by kernel_rfl) (by kernel_rfl) (by kernel_rfl) (by kernel_rfl) rfl rfl (fun _ _ _ h => h) (Or.inl ⟨by rfl, fun W hW => by go_simp⟩) e9 ?_
            simp only [Act.put, List.setIfInBounds_toArray, List.set_cons_zero, List.set_cons_succ]
            refine until_take (i := 12) (v := .pointer (some ⟨xb, 0, none⟩)) (some 49) [13] rfl rfl (by kernel_rfl) (by kernel_rfl) (by kernel_rfl) (by kernel_rfl) rfl rfl (fun _ _ _ h => h) (Or.inl ⟨by rfl, fun W hW => by go_simp⟩) e9 ?_
            simp only [Act.put, List.setIfInBounds_toArray, List.set_cons_zero, List.set_cons_succ]
            refine until_last (by kernel_rfl) rfl (fun K hK => ?_)
            go_simp
            have HE10 : Hid (∀ w10, w10 = w9.setCell ⟨xb, 0, none⟩ (.slice A9 (nl + 1) k9) → w10.cell? ⟨xb, 1, none⟩ = some y1.lv ∧ w10.frozen? ⟨xb, 1, none⟩ = false ∧ w10.ownsRow W.heap.size 4 1 y1.lv nl (bo y1.lb) ∧ W.heap.size ≤ w10.heap.size ∧ xb < w10.heap.size) := Lib.hid (write_mid HY1.out.s (by rw [HNL.out]) HB9.out (by rw [HAV.out]; exact HO9.out.2.1) HY1.out.bel.size)
            obtain ⟨w10, hw10⟩ : ∃ w10, w10 = w9.setCell ⟨xb, 0, none⟩ (.slice A9 (nl + 1) k9) := ⟨_, rfl⟩
            have HW10 := Lib.hid hw10
            have HM10 := Lib.hid (HE10.out w10 hw10)
            rw [← hw10]
            clear hw10 HE10
            refine hK.out _ _ ?_
            clear hK
            try simp only [Act.put, List.setIfInBounds_toArray, List.set_cons_zero, List.set_cons_succ]
            refine wpAnyH_done (by kernel_rfl) ?_ _
            refine NoPanic.normal ?_
            obtain ⟨lA, lc, hlv, -⟩ : ∃ A c, y1.lv = .slice A nl c ∧ True := by
              rcases HY1.out.s.lost.2 with ⟨e1, e2⟩ | ⟨g, cap, cur, e1, _⟩
              · rw [HNL.out] at e2
                rw [e2]
                exact ⟨none, 0, e1, trivial⟩
              · rw [HNL.out] at e1
                exact ⟨_, _, e1, trivial⟩
            have d111 : w10.cell? ⟨xb, 1, none⟩ = some (.slice lA nl lc) := by rw [← hlv]; exact HM10.out.1
            have d11f := HM10.out.2.1
            have HLV := Lib.hid hlv
            have HSRC := Lib.hid (rb_bool w10)
            have HLO : Hid ((w10.alloc (.cells #[.bool false] 4)).ownsRow W.heap.size 4 1 (.slice lA nl lc) nl (bo y1.lb)) := Lib.hid (by rw [← hlv]; exact own_below HM10.out.2.2.1 (below_a w10 _))
            have HB11 := Lib.hid (below_a w10 (.cells #[.bool false] 4))
            clear hlv
            have d211 := keepc HB11.out d111
            go_wp2_with (first
              | (at_builtin; refine wpList_appG rfl (.tmp 54) (.tmp 55) 43 4 rfl (.bool false) 1 1 Try.underlying43 infoBool rfl (by decide) (by decide) W.heap.size (.slice lA nl lc) nl (bo y1.lb) rfl HLO.out (some ⟨w10.heap.size, 0, none⟩) 1 1 (bo [false]) rfl HSRC.out HLE.out (by have := HM10.out.2.2.2.1; have := HB11.out.size; omega) ?_; intro v12 w12 o12 g12 h12; have HO12 := Lib.hid (And.intro o12 (And.intro g12 h12)); have hne12 : (some xb) ≠ (Value.slice lA nl lc).ownBlock := (fun e => HY1.out.s.apart.2.1 (by rw [HLV.out]; exact e.symm)); have d12c : w12.cell? ⟨xb, 1, none⟩ = some (.slice lA nl lc) := g12.cell d211 hne12; have d12f : w12.frozen? ⟨xb, 1, none⟩ = false := (World.frozen?_of_block (g12.block xb (by have := HM10.out.2.2.2.2; have := HB11.out.size; omega) hne12)).trans ((World.frozen?_of_block (HB11.out.block xb (by exact HM10.out.2.2.2.2))).trans d11f); obtain ⟨A12, k12, rfl⟩ : ∃ A k, v12 = .slice A (nl + 1) k := (by rcases o12.2 with ⟨_, e⟩ | ⟨g, cap, cur, e, _⟩; (exact absurd e (by omega)); exact ⟨_, _, e⟩); clear o12 g12 h12 hne12; generalize hnl1 : nl + 1 = nl1 at *; have HNL1 := Lib.hid hnl1; clear hnl1))
            have HS := Lib.hid (write_step HIB.out HY1.out.s HPO.out (av := .slice A9 nl1 k9) (lv := .slice A12 nl1 k12) HB9.out (by rw [HNL.out, HBT.out, HNL1.out]; exact HO9.out.1) (by rw [HAV.out]; exact HO9.out.2.1) (by rw [HAV.out]; exact HO9.out.2.2) HW10.out HB11.out (by rw [HNL.out, HNL1.out]; exact HO12.out.1) (by rw [HLV.out]; exact HO12.out.2.1) (by rw [HLV.out]; exact HO12.out.2.2) rfl)
            go_roundw
            case rel => exact ⟨i + 1, _, by go_num, by have := HHI.out; omega, HL1.out.then_ HS.out⟩
            case measure => have := HHI.out; simp [intOf]; omega
          · obtain rfl : i = k := by omega
            have hx9 : wr.heap[w.heap.size]? = some (.cells #[.int .i64 0, .int .i64 0] 35 (0, 0)) := (HL1.out.ch.block _ HSZ.out HNT.out).trans HR2.out
            have rf := frozen_of hx9
            have r0 : wr.cell? ⟨w.heap.size, 0, none⟩ = some (.int .i64 0) := (cell_of_row _ _ 0 _ _ (0, 0) hx9)
            have r1 : wr.cell? ⟨w.heap.size, 1, none⟩ = some (.int .i64 0) := (cell_of_row _ _ 1 _ _ (0, 0) hx9)
            have HST := Lib.hid (store2t hx9 (.int .i64 (i : Int)) (.int .i64 0))
            have HFF := Lib.hid (HF.out _ y1 ((HL1.out.ahead HB2.out).res HST.out.2 (Nat.le_refl _) (fun e => (HL1.out.new _ e).elim HNT.out (fun q => by have := HSZ.out; omega))))
            have hor := HLT.out i
            clear hx9
            by_cases q1 : i < n
            · have q1i : (i : Int) < (n : Int) := by omega
              have q2i : ¬ ((i : Int) < (room : Int)) := by omega
              clear hor
              go_wp2_with fail
              exact bodyPost_ret (results_c0 rfl _ _ w.heap.size _ _ rfl HST.out.1 Try.underlying35 rfl szWrote) rfl HFF.out
            · have q1i : ¬ ((i : Int) < (n : Int)) := by omega
              clear hor
              go_wp2_with fail
              exact bodyPost_ret (results_c0 rfl _ _ w.heap.size _ _ rfl HST.out.1 Try.underlying35 rfl szWrote) rfl HFF.out
end
end Go.Proofs.Ytgcblajhdebigaa
