/- Both senders side by side; that they tell the same. Conditions: both stand. -/
import Derived.Test.YtgcblajhdebigaaDsY
import Derived.Test.YtgcblajhdebigaaSameR
import Derived.Test.YtgcblajhdebigaaUn2
namespace Go.Proofs.Ytgcblajhdebigaa
set_option linter.unusedVariables false
set_option linter.unusedSimpArgs false
open Go.RowKit Go.Lib

structure Bo (W w : World) (sb : Nat) (z : Sh) (d : Dq) (xb : Nat) (y : Ry) (d2 : Dq) : Prop where
  s : Sv W w sb z d
  x : Xv W w xb y d2
  ap : ∀ k, z.T sb k → ¬ y.T xb k
/-- A block that is neither one's. -/
def Ag (w : World) (sb : Nat) (z : Sh) (xb : Nat) (y : Ry) (g : Nat) : Prop := g < w.heap.size ∧ ¬ z.T sb g ∧ ¬ y.T xb g
section
variable {W w w' : World} {sb : Nat} {z z' : Sh} {d d' d2 : Dq} {xb : Nat} {y y' : Ry} {g : Nat}
theorem Bo.stepS (h : Bo W w sb z d xb y d2) (l : Left W.heap.size w sb z d' w' z') : Bo W w' sb z' d' xb y d2 :=
  ⟨h.s.step l, ⟨h.x.s.frame l.ch (fun k hk e => h.ap k e hk), (h.s.step l).bel⟩, fun k hk e => (l.new k hk).elim (fun q => h.ap k q e) (fun q => by have := (h.x.s.in_ e).2; omega)⟩
theorem Bo.stepX (h : Bo W w sb z d xb y d2) (l : LeftR W.heap.size w xb y d' w' y') : Bo W w' sb z d xb y' d' :=
  ⟨⟨h.s.s.frame l.ch (fun k hk e => h.ap k hk e), (h.x.step l).bel⟩, h.x.step l, fun k hk e => (l.new k e).elim (h.ap k hk) (fun q => by have := (h.s.s.in_ hk).2; omega)⟩
theorem Bo.below (h : Bo W w sb z d xb y d2) (b : Below w.heap.size w w') : Bo W w' sb z d xb y d2 := ⟨h.s.below b, h.x.below b, h.ap⟩
theorem Ag.stepS {base : Nat} (h : Ag w sb z xb y g) (l : Left base w sb z d' w' z') : Ag w' sb z' xb y g ∧ w'.heap[g]? = w.heap[g]? :=
  ⟨⟨Nat.lt_of_lt_of_le h.1 l.ch.size, fun e => (l.new g e).elim h.2.1 (fun q => by have := h.1; omega), h.2.2⟩, l.ch.block g h.1 h.2.1⟩
theorem Ag.stepX {base : Nat} (h : Ag w sb z xb y g) (l : LeftR base w xb y d' w' y') : Ag w' sb z xb y' g ∧ w'.heap[g]? = w.heap[g]? :=
  ⟨⟨Nat.lt_of_lt_of_le h.1 l.ch.size, h.2.1, fun e => (l.new g e).elim h.2.2 (fun q => by have := h.1; omega)⟩, l.ch.block g h.1 h.2.2⟩
theorem Ag.below (h : Ag w sb z xb y g) (b : Below w.heap.size w w') : Ag w' sb z xb y g ∧ w'.heap[g]? = w.heap[g]? := ⟨⟨Nat.lt_of_lt_of_le h.1 b.size, h.2⟩, b.block g h.1⟩
theorem Bo.fresh (h : Bo W w sb z d xb y d2) (o : Obj) : Ag (w.alloc o) sb z xb y w.heap.size :=
  ⟨by simp, fun e => by have := (h.s.s.in_ e).2; omega, fun e => by have := (h.x.s.in_ e).2; omega⟩
theorem cell_blk {w w' : World} {g : Nat} (h : w'.heap[g]? = w.heap[g]?) (j : Nat) : w'.cell? ⟨g, j, none⟩ = w.cell? ⟨g, j, none⟩ := World.cell?_of_block h
theorem fz_blk {w w' : World} {g : Nat} (h : w'.heap[g]? = w.heap[g]?) (j : Nat) : w'.frozen? ⟨g, j, none⟩ = w.frozen? ⟨g, j, none⟩ := World.frozen?_of_block h
/-- A block that is neither one's turns. -/
theorem Bo.other (h : Bo W w sb z d xb y d2) (hg : Ag w sb z xb y g) (hW : W.heap.size ≤ g) (c : Ch w w' (fun k => k = g)) : Bo W w' sb z d xb y d2 := by
  have hb : Below W.heap.size W w' := ((Ch.of_below (fun k => k = g) h.s.bel).then_ c).below (fun x hx e => by omega)
  exact ⟨⟨h.s.s.frame c (fun k hk e => hg.2.1 (e ▸ hk)), hb⟩, ⟨h.x.s.frame c (fun k hk e => hg.2.2 (e ▸ hk)), hb⟩, h.ap⟩

set_option maxRecDepth 20000 in
set_option maxHeartbeats 6400000 in
theorem same_any {base : Nat} (S : Sd base w sb z d) {base2 : Nat} (X : Rf base2 w xb y d) : Calls Try.prog 22 #[ptr sb, ptr xb] w fun e w' => e = .returned (.bool true) ∧ Below w.heap.size w w' := by
  have HDU := Lib.hid (Due_any S)
  have HS := Lib.hid S
  have HX := Lib.hid X
  have hn := S.nums
  have hok := S.ok
  clear S X
  unfold ptr at *
  go_enter Try.func22, Try.ntmps22
  go_wp2_with fail
  refine (HDU.out).mono ?_
  rintro e w1 ⟨rfl, b1⟩
  have HB1 := Lib.hid b1
  have S1 := HS.out.below b1
  have X1 := HX.out.below b1
  have HUN := Lib.hid (fun q => Una_any (S1.below (below_dn (Below.refl _ _) q)))
  have HNX := Lib.hid (fun q => Next_sd (S1.below (below_dn (Below.refl _ _) q)))
  have HED := Lib.hid (fun q => Edge_any (S1.below (below_dn (Below.refl _ _) q)))
  have HHE := Lib.hid (fun q => Held_any (S1.below (below_dn (Below.refl _ _) q)))
  have HDO := Lib.hid (fun q => Done_any (S1.below (below_dn (Below.refl _ _) q)))
  have HLA := Lib.hid (fun q => last_any (X1.below (below_dn (Below.refl _ _) q)) (by omega))
  have HRD := Lib.hid (fun q => rdue_any (X1.below (below_dn (Below.refl _ _) q)) hok (by omega))
  have x2 := X1.cell 2
  have x3 := X1.cell 3
  have x4 := X1.cell 4
  have x6 := X1.cell 6
  unfold rcells at x2 x3 x4 x6
  have hw : IntKind.i64.wrap ((d.fin : Int) - (d.una : Int)) = (d.held : Int) := by rw [IntKind.wrap_i64]; omega
  have hbd : decide ((0 : Int) < (d.due : Int)) = decide (0 < d.due) := by
    by_cases h : 0 < d.due
    · rw [decide_eq_true h, decide_eq_true (by omega)]
    · rw [decide_eq_false h, decide_eq_false (by omega)]
  unfold ptr at *
  clear S1 X1 HDU HS HX b1 hn hok
  generalize hbe : decide (0 < d.due) = bd at *
  generalize d.due = du at *
  generalize d.held = hd at *
  generalize d.fin = fn at *
  generalize d.una = un at *
  generalize d.next = nx at *
  generalize d.edge = eg at *
  generalize d.done = dn at *
  go_wp2_with fail
  go_quiet (first
    | (go_at_call 24; exact Calls.quiet_of_same (HUN.out _))
    | (go_at_call 23; exact Calls.quiet_of_same (HNX.out _))
    | (go_at_call 25; exact Calls.quiet_of_same (HED.out _))
    | (go_at_call 26; exact Calls.quiet_of_same (HHE.out _))
    | (go_at_call 28; exact Calls.quiet_of_same (HDO.out _))
    | (go_at_call 30; exact Calls.quiet_of_same (HLA.out _))
    | (go_at_call 38; exact Calls.quiet_of (HRD.out _)))
  go_wp2_with fail
  go_ret
  exact ⟨rfl, below_dn HB1.out _⟩
end
end Go.Proofs.Ytgcblajhdebigaa
