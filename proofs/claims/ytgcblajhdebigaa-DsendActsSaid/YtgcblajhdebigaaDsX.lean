/- What the document's Take keeps while it takes: its sender, what it has gathered, in a variable of its own. No condition. -/
import Derived.Test.YtgcblajhdebigaaDsV
namespace Go.Proofs.Ytgcblajhdebigaa
set_option linter.unusedVariables false
set_option linter.unusedSimpArgs false
open Go.RowKit Go.Lib

theorem szTook : (Try.prog.info? 40).map (·.size) = some 2 := by kernel_rfl
/-- The sender, the result's variable, the gathered bytes' variable. -/
structure Tk (base : Nat) (w wr : World) (xb : Nat) (y : Ry) (r tb : Nat) (d' : Dq) (lb : List Bool) (dsn : Nat) (v : Value) (bs : List UInt8) : Prop where
  x : LeftR base w xb y d' wr { y with lb := lb }
  rblk : wr.heap[r]? = some (.cells #[.int .i64 0, .slice none 0 0] 40 (0, 0))
  tblk : wr.heap[tb]? = some (.cells #[.int .i64 (dsn : Int), v] 40 (0, 0))
  own : wr.ownsRow w.heap.size 5 1 v bs.length (bv bs)
  lo : w.heap.size ≤ r ∧ r < tb
  tlt : ∀ k, y.T xb k → k < w.heap.size
section
variable {base : Nat} {w wr : World} {xb : Nat} {y : Ry} {r tb : Nat} {d' : Dq} {lb : List Bool} {dsn : Nat} {v : Value} {bs : List UInt8}
theorem Tk.free (h : Tk base w wr xb y r tb d' lb dsn v bs) {w' : World} {m : Nat → Prop} (c : Ch wr w' m) (hm : ∀ k, m k → w.heap.size ≤ k) : LeftR base w xb y d' w' { y with lb := lb } :=
  ⟨h.x.s.frame c (fun k hk e => by have := h.tlt k hk; have := hm k e; omega), h.x.ch.trans c (fun _ _ x => x) (fun x hx e => by have := hm x e; omega), h.x.new⟩
theorem Tk.vlo (h : Tk base w wr xb y r tb d' lb dsn v bs) {g : Nat} (hg : v.ownBlock = some g) : w.heap.size ≤ g ∧ g < wr.heap.size ∧ g ≠ r ∧ g ≠ tb := by
  obtain ⟨cs, h1⟩ := own_obj h.own hg
  have h2 := own_in h.own hg
  refine ⟨h2.1, h2.2, fun e => ?_, fun e => ?_⟩
  · subst e
    exact two_types h1 h.rblk (by decide)
  · subst e
    exact two_types h1 h.tblk (by decide)
theorem Tk.below (h : Tk base w wr xb y r tb d' lb dsn v bs) {w' : World} (b : Below wr.heap.size wr w') : Tk base w w' xb y r tb d' lb dsn v bs :=
  ⟨h.x.after b, (b.block r (Array.getElem?_eq_some_iff.1 h.rblk).1).trans h.rblk, (b.block tb (Array.getElem?_eq_some_iff.1 h.tblk).1).trans h.tblk, own_below h.own b, h.lo, h.tlt⟩
theorem Tk.set0 (h : Tk base w wr xb y r tb d' lb dsn v bs) (n : Nat) : Tk base w (wr.setCell ⟨tb, 0, none⟩ (.int .i64 (n : Int))) xb y r tb d' lb n v bs := by
  have c : Ch wr (wr.setCell ⟨tb, 0, none⟩ (.int .i64 (n : Int))) (fun k => k = tb) := Ch.setCell (m := fun k => k = tb) (Ch.refl wr _) (fun _ => rfl) _
  have hlo := h.lo
  exact ⟨h.free c (fun k e => by omega), (c.block r (Array.getElem?_eq_some_iff.1 h.rblk).1 (fun e => by omega)).trans h.rblk, blk_set h.tblk 0 _, own_ch2 h.own c (fun g hg e => (h.vlo hg).2.2.2 e), h.lo, h.tlt⟩
theorem Tk.app (h : Tk base w wr xb y r tb d' lb dsn v bs) {w8 w9 : World} {v' : Value} {x : UInt8} (b8 : Below wr.heap.size wr w8) (o9 : w9.ownsRow w.heap.size 5 1 v' (bs.length + 1) (bv (bs ++ [x]))) (g9 : w8.grownBy w9 v.ownBlock) (h9 : v'.ownBlock = v.ownBlock ∨ v'.ownBlock = some w8.heap.size) :
    Tk base w (w9.setCell ⟨tb, 1, none⟩ v') xb y r tb d' lb dsn v' (bs ++ [x]) := by
  have h8 := h.below b8
  have c9 : Ch w8 w9 (fun k => v.ownBlock = some k) := Ch.grown (m := fun k => v.ownBlock = some k) (Ch.refl w8 _) g9 (fun k e _ => e)
  have c10 : Ch w9 (w9.setCell ⟨tb, 1, none⟩ v') (fun k => k = tb) := Ch.setCell (m := fun k => k = tb) (Ch.refl w9 _) (fun _ => rfl) _
  have c : Ch w8 (w9.setCell ⟨tb, 1, none⟩ v') (fun k => v.ownBlock = some k ∨ k = tb) := c9.trans c10 (fun _ _ e => .inl e) (fun _ _ e => .inr e)
  have hlo := h.lo
  have ht8 : tb < w8.heap.size := (Array.getElem?_eq_some_iff.1 h8.tblk).1
  refine ⟨h8.free c (fun k e => e.elim (fun e => (h8.vlo e).1) (fun e => by omega)), (c.block r (Array.getElem?_eq_some_iff.1 h8.rblk).1 (fun e => e.elim (fun e => (h8.vlo e).2.2.1 rfl) (fun e => by omega))).trans h8.rblk, blk_set ((c9.block tb ht8 (fun e => (h8.vlo e).2.2.2 rfl)).trans h8.tblk) 1 _, ?_, h.lo, h.tlt⟩
  have hl : (bs ++ [x]).length = bs.length + 1 := by simp
  rw [hl]
  refine own_ch2 o9 c10 (fun g hg e => ?_)
  rcases h9 with h9 | h9
  · exact (h8.vlo (h9 ▸ hg)).2.2.2 e
  · rw [h9] at hg
    injection hg with hg
    omega
theorem Tk.lost (h : Tk base w wr xb y r tb d' lb dsn v bs) {d2 : Dq} {j : Nat} {g cap : Nat} (hv : y.lv = .slice (some ⟨g, 0, none⟩) d'.all.length cap) (ho : (wr.setCell ⟨g, j, none⟩ (.bool false)).ownsRow base 4 1 y.lv d'.all.length (bo (lb.set j false))) (hc : rcells y d2 = rcells y d') (ha : d2.all = d'.all) (hr : ∀ k, d2.una ≤ k → k < d2.fin → (lb.set j false).getD (k - 1) false = d2.L k) :
    Tk base w (wr.setCell ⟨g, j, none⟩ (.bool false)) xb y r tb d2 (lb.set j false) dsn v bs := by
  have l := h.x.s.setb (d' := d2) (j := j) (b := false) (g := g) (cap := cap) hv ho hc ha hr
  have hg : g < w.heap.size := h.tlt g (.inr (.inr (by rw [hv]; rfl)))
  have c : Ch wr (wr.setCell ⟨g, j, none⟩ (.bool false)) (fun k => k = g) := Ch.setCell (m := fun k => k = g) (Ch.refl wr _) (fun _ => rfl) _
  have hlo := h.lo
  exact ⟨h.x.then_ l, (c.block r (Array.getElem?_eq_some_iff.1 h.rblk).1 (fun e => by omega)).trans h.rblk, (c.block tb (Array.getElem?_eq_some_iff.1 h.tblk).1 (fun e => by omega)).trans h.tblk, own_ch2 h.own c (fun k hk e => by have := (h.vlo hk).1; omega), h.lo, h.tlt⟩
theorem Tk.next (h : Tk base w wr xb y r tb d' lb dsn v bs) (n : Nat) : Tk base w (wr.setCell ⟨xb, 3, none⟩ (.int .i64 (n : Int))) xb y r tb { d' with next := n } lb dsn v bs := by
  have l := h.x.s.setc (d' := { d' with next := n }) 3 (.int .i64 (n : Int)) rfl rfl h.x.s.rel
  have hg : xb < w.heap.size := h.tlt xb (.inl rfl)
  have c : Ch wr (wr.setCell ⟨xb, 3, none⟩ (.int .i64 (n : Int))) (fun k => k = xb) := Ch.setCell (m := fun k => k = xb) (Ch.refl wr _) (fun _ => rfl) _
  have hlo := h.lo
  exact ⟨h.x.then_ l, (c.block r (Array.getElem?_eq_some_iff.1 h.rblk).1 (fun e => by omega)).trans h.rblk, (c.block tb (Array.getElem?_eq_some_iff.1 h.tblk).1 (fun e => by omega)).trans h.tblk, own_ch2 h.own c (fun k hk e => by have := (h.vlo hk).1; omega), h.lo, h.tlt⟩
theorem Tk.fin_ (h : Tk base w wr xb y r tb d' lb dsn v bs) : ((wr.setCell ⟨r, 0, none⟩ (.int .i64 (dsn : Int))).setCell ⟨r, 1, none⟩ v).rangeAt r 0 [.int .i64 (dsn : Int), v] ∧ LeftR base w xb y d' ((wr.setCell ⟨r, 0, none⟩ (.int .i64 (dsn : Int))).setCell ⟨r, 1, none⟩ v) { y with lb := lb } ∧ ∃ A c, v = .slice A bs.length c ∧ RB ((wr.setCell ⟨r, 0, none⟩ (.int .i64 (dsn : Int))).setCell ⟨r, 1, none⟩ v) A bs.length c bs := by
  obtain ⟨q1, q2⟩ := store2 h.rblk (.int .i64 (dsn : Int)) v
  have hlo := h.lo
  refine ⟨q1, h.free q2 (fun k e => by omega), ?_⟩
  obtain ⟨A, c, e, hr, _⟩ := RB.of_own (own_ch2 h.own q2 (fun g hg e => (h.vlo hg).2.2.1 e))
  exact ⟨A, c, e, hr⟩
theorem Tk.relL (h : Tk base w wr xb y r tb d' lb dsn v bs) {d2 : Dq} (hc : rcells y d2 = rcells y d') (ha : d2.all = d'.all) (hu : d2.una = d'.una) (hL : ∀ k, d'.una ≤ k → k < d'.fin → d'.L k = d2.L k) : Tk base w wr xb y r tb d2 lb dsn v bs := by
  refine ⟨⟨⟨?_, by rw [ha]; exact h.x.s.all, by rw [ha]; exact h.x.s.lost, fun k h1 h2 => ?_, h.x.s.lo⟩, h.x.ch, h.x.new⟩, h.rblk, h.tblk, h.own, h.lo, h.tlt⟩
  · have hb := h.x.s.blk
    have : rcells { y with lb := lb } d' = rcells { y with lb := lb } d2 := hc.symm
    rw [this] at hb
    exact hb
  · rw [hu] at h1
    have h2' : k < d'.fin := by unfold Dq.fin at *; rw [← ha]; exact h2
    exact (h.x.s.rel k h1 h2').trans (hL k h1 h2')
theorem Tk.t0 (h : Tk base w wr xb y r tb d' lb dsn v bs) : wr.cell? ⟨tb, 0, none⟩ = some (.int .i64 (dsn : Int)) := by rw [cell_of_row _ _ _ _ _ _ h.tblk]; rfl
theorem Tk.t1 (h : Tk base w wr xb y r tb d' lb dsn v bs) : wr.cell? ⟨tb, 1, none⟩ = some v := by rw [cell_of_row _ _ _ _ _ _ h.tblk]; rfl
theorem Tk.r0 (h : Tk base w wr xb y r tb d' lb dsn v bs) : wr.cell? ⟨r, 0, none⟩ = some (.int .i64 0) := by rw [cell_of_row _ _ _ _ _ _ h.rblk]; rfl
theorem Tk.r1 (h : Tk base w wr xb y r tb d' lb dsn v bs) : wr.cell? ⟨r, 1, none⟩ = some (.slice none 0 0) := by rw [cell_of_row _ _ _ _ _ _ h.rblk]; rfl
theorem Tk.tf (h : Tk base w wr xb y r tb d' lb dsn v bs) (j : Nat) : wr.frozen? ⟨tb, j, none⟩ = false := frozen_of h.tblk j
theorem Tk.rf (h : Tk base w wr xb y r tb d' lb dsn v bs) (j : Nat) : wr.frozen? ⟨r, j, none⟩ = false := frozen_of h.rblk j
end

/-! What is taken, by numbers. -/
def Dq.cutL (d : Dq) (i : Nat) : Dq := { d with L := fun k => d.L k && !decide (d.from_ ≤ k ∧ k < d.from_ + i) }
/-- At the number n, with i taken. -/
structure Dq.At (d : Dq) (M n i : Nat) : Prop where
  lo : d.una ≤ n
  hi : n ≤ d.next
  le : i ≤ M
  up : n ≤ d.from_ + i
  eq : 0 < i → n = d.from_ + i
  run : ∀ j, d.from_ ≤ j → j < d.from_ + i → d.L j = true
section
variable {d : Dq} {M n i : Nat}
theorem cutL_at (h : d.At M n i) : (d.cutL i).L n = d.L n := by
  show (d.L n && !decide (d.from_ ≤ n ∧ n < d.from_ + i)) = d.L n
  rw [decide_eq_false (by
    rcases Nat.eq_zero_or_pos i with h0 | h0
    · omega
    · have := h.eq h0
      omega), Bool.not_false, Bool.and_true]
theorem At.start (hok : d.ok) : d.At M d.una 0 := ⟨Nat.le_refl _, hok.un, Nat.zero_le _, by have := hok.from_.1; omega, fun h => absurd h (Nat.lt_irrefl _), fun j h1 h2 => by omega⟩
theorem At.here (h : d.At M n i) (hok : d.ok) (hL : d.L n = true) : n = d.from_ + i := by
  rcases Nat.eq_zero_or_pos i with h0 | h0
  · have h1 := h.up
    rcases Nat.lt_or_ge n d.from_ with hl | hl
    · rw [hok.from_.2.2.1 n hl] at hL
      cases hL
    · omega
  · exact h.eq h0
theorem At.took (h : d.At M n i) (hok : d.ok) (hL : d.L n = true) (hi : i < M) (hn : n < d.next) : d.At M (n + 1) (i + 1) := by
  have e := At.here h hok hL
  refine ⟨by have := h.lo; omega, by omega, by omega, by omega, fun _ => by omega, fun j h1 h2 => ?_⟩
  rcases Nat.lt_or_ge j (d.from_ + i) with hj | hj
  · exact h.run j h1 hj
  · obtain rfl : j = n := by omega
    exact hL
theorem At.pass (h : d.At M n 0) (hok : d.ok) (hL : d.L n = false) (hn : n < d.next) : d.At M (n + 1) 0 := by
  have h1 := h.up
  refine ⟨by have := h.lo; omega, by omega, Nat.zero_le _, ?_, fun h => absurd h (Nat.lt_irrefl _), fun j h1 h2 => by omega⟩
  rcases Nat.lt_or_ge n d.from_ with hl | hl
  · omega
  · obtain rfl : n = d.from_ := by omega
    rw [hok.from_.2.2.2 hn] at hL
    cases hL
/-- All of the run was taken. -/
theorem At.done (h : d.At M n i) (hok : d.ok) (h0 : 0 < i) (he : i = M ∨ d.L n = false) : d.most M = i ∧ d.dsn M = d.from_ ∧ d.take M = d.cutL i := by
  have e := h.eq h0
  have hf : d.L d.from_ = true := h.run _ (Nat.le_refl _) (by omega)
  have hlt : d.from_ < d.next := (hok.lost _ hf).2
  have hm : d.most M = i := by
    unfold Dq.most
    rw [if_pos hlt]
    refine runl_eq h.le (fun j h1 h2 => h.run j h1 h2) (fun hlt => ?_)
    rcases he with he | he
    · omega
    · rw [← e]; exact he
  refine ⟨hm, ?_, ?_⟩
  · unfold Dq.dsn
    rw [hm, if_neg (by omega)]
  · unfold Dq.take
    rw [hm]
    show (⟨d.all, _, d.una, max d.next (d.from_ + i), d.edge, d.told, d.done⟩ : Dq) = ⟨d.all, _, d.una, d.next, d.edge, d.told, d.done⟩
    have := h.hi
    rw [show max d.next (d.from_ + i) = d.next from by omega]
theorem next_done (hok : d.ok) (hf : d.from_ = d.next) (hi : i = min M (min d.edge d.fin - d.next)) : d.most M = i ∧ d.dsn M = (if i = 0 then 0 else d.next) ∧ (d.take M).all = d.all ∧ (d.take M).una = d.una ∧ (d.take M).next = d.next + i ∧ (d.take M).edge = d.edge ∧ (d.take M).told = d.told ∧ (d.take M).done = d.done ∧ ∀ k, d.L k = (d.take M).L k := by
  have hm : d.most M = i := by
    unfold Dq.most
    rw [hf, if_neg (Nat.lt_irrefl _), hi]
  refine ⟨hm, ?_, rfl, rfl, ?_, rfl, rfl, rfl, fun k => ?_⟩
  · unfold Dq.dsn
    rw [hm, hf]
  · show max d.next (d.from_ + d.most M) = _
    rw [hm, hf]
    omega
  · show d.L k = (d.L k && _)
    have : d.L k = false := by
      cases hb : d.L k with
      | false => rfl
      | true =>
        have h1 := (hok.lost k hb).2
        rw [← hf] at h1
        rw [hok.from_.2.2.1 k h1] at hb
        cases hb
    rw [this]
    rfl
theorem got_snoc {l : List UInt8} {a i : Nat} (h : a + i < l.length) : (l.drop a).take (i + 1) = (l.drop a).take i ++ [l.getD (a + i) 0] := by
  rw [List.take_add_one, List.getElem?_drop, List.getD_eq_getElem?_getD, List.getElem?_eq_getElem h]
  rfl
end
end Go.Proofs.Ytgcblajhdebigaa
