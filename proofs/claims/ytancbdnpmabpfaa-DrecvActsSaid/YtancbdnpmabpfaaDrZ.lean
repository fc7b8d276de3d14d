/- Both receivers side by side; that they tell the same. Conditions: both stand. -/
import Derived.Test.YtancbdnpmabpfaaDrU
import Derived.Test.YtancbdnpmabpfaaDrW
import Derived.Test.YtancbdnpmabpfaaSameR
namespace Go.Proofs.Ytancbdnpmabpfaa
set_option linter.unusedVariables false
set_option linter.unusedSimpArgs false
open Go.RowKit Go.Lib

structure Bo (W w : World) (rb : Nat) (z : Sh) (d : Dr) (xb : Nat) (y : Ry) (d2 : Dr) : Prop where
  s : Sv W w rb z d
  x : Xv W w xb y d2
  ap : ∀ k, z.T rb k → ¬ y.T xb k
/-- A block that is neither one's. -/
def Ag (w : World) (rb : Nat) (z : Sh) (xb : Nat) (y : Ry) (g : Nat) : Prop := g < w.heap.size ∧ ¬ z.T rb g ∧ ¬ y.T xb g
section
variable {W w w' : World} {rb : Nat} {z z' : Sh} {d d' d2 : Dr} {xb : Nat} {y y' : Ry} {g : Nat}
theorem Bo.stepS (h : Bo W w rb z d xb y d2) (s : Sv W w' rb z' d') (m : Mv w rb z w' z') : Bo W w' rb z' d' xb y d2 :=
  ⟨s, ⟨h.x.s.frame m.ch (fun k hk e => h.ap k e hk), s.bel⟩, fun k hk e => (m.new k hk).elim (fun q => h.ap k q e) (fun q => by have := (h.x.s.in_ e).2; omega)⟩
theorem Bo.stepX (h : Bo W w rb z d xb y d2) (l : LeftR W.heap.size w xb y d' w' y') : Bo W w' rb z d xb y' d' :=
  ⟨⟨h.s.s.frame l.ch (fun k hk e => h.ap k hk e), (h.x.step l).bel⟩, h.x.step l, fun k hk e => (l.new k e).elim (h.ap k hk) (fun q => by have := (h.s.s.w.in_ hk).2; omega)⟩
theorem Bo.below (h : Bo W w rb z d xb y d2) (b : Below w.heap.size w w') : Bo W w' rb z d xb y d2 := ⟨h.s.below b, h.x.below b, h.ap⟩
theorem Ag.stepS (h : Ag w rb z xb y g) (m : Mv w rb z w' z') : Ag w' rb z' xb y g ∧ w'.heap[g]? = w.heap[g]? :=
  ⟨⟨Nat.lt_of_lt_of_le h.1 m.ch.size, fun e => (m.new g e).elim h.2.1 (fun q => by have := h.1; omega), h.2.2⟩, m.ch.block g h.1 h.2.1⟩
theorem Ag.below (h : Ag w rb z xb y g) (b : Below w.heap.size w w') : Ag w' rb z xb y g ∧ w'.heap[g]? = w.heap[g]? := ⟨⟨Nat.lt_of_lt_of_le h.1 b.size, h.2⟩, b.block g h.1⟩
theorem Bo.fresh (h : Bo W w rb z d xb y d2) (o : Obj) : Ag (w.alloc o) rb z xb y w.heap.size :=
  ⟨by simp, fun e => by have := (h.s.s.w.in_ e).2; omega, fun e => by have := (h.x.s.in_ e).2; omega⟩
theorem cell_blk {w w' : World} {g : Nat} (h : w'.heap[g]? = w.heap[g]?) (j : Nat) : w'.cell? ⟨g, j, none⟩ = w.cell? ⟨g, j, none⟩ := World.cell?_of_block h
theorem Xv.next (h : Xv W w xb y d) (hok : d.ok) (ht : d.t ≤ 1000) : Calls Try.prog 12 #[.pointer (some ⟨xb, 0, none⟩)] w fun e w' => e = .returned (.int .i64 (d.nx : Int)) ∧ w' = w :=
  rnext_any h.s (by have := hok.lo; have := hok.cap; omega) (by have := hok.lo; omega) hok.all hok.nxt

set_option maxRecDepth 20000 in
set_option maxHeartbeats 6400000 in
theorem same_any (H : Bo W w rb z d xb y d) : Calls Try.prog 20 #[ptr rb, ptr xb] w fun e w' => e = .returned (.bool true) ∧ Below w.heap.size w w' := by
  have hn := H.s.s.nums
  have hok := H.s.s.ok
  have ht := H.s.s.cap
  have HN0 := Lib.hid (H.x.next hok ht)
  have HNX := Lib.hid (fun q => (H.x.below (below_dn (Below.refl _ _) q)).next hok ht)
  have HED := Lib.hid (fun q => redge_any (H.x.s.dn q) (by omega))
  have HAC := Lib.hid (fun q => Ack_any (H.s.s.dn q))
  have HEN := Lib.hid (fun q => Ended_any (H.s.s.dn q))
  have HWI := Lib.hid (fun q => Win_any (H.s.s.dn q))
  have HRE := Lib.hid (fun q => Ready_any (H.s.s.dn q))
  have x3 : w.cell? ⟨xb, 3, none⟩ = some (.int .i64 (d.en : Int)) := H.x.s.cell 3
  have x2 : w.cell? ⟨xb, 2, none⟩ = some (.int .i64 (d.rd : Int)) := H.x.s.cell 2
  have HBW : Hid (∀ q, Below w.heap.size w (w.drewN q)) := Lib.hid (fun q => below_dn (Below.refl _ _) q)
  have hw1 : IntKind.i64.wrap ((d.nx : Int) + 1) = ((d.nx + 1 : Nat) : Int) := by rw [IntKind.wrap_i64]; omega
  have hw2 : IntKind.i64.wrap (((d.rd + 33 : Nat) : Int) - (d.nx : Int)) = ((d.rd + 33 - d.nx : Nat) : Int) := by rw [IntKind.wrap_i64]; omega
  have hw3 : IntKind.i64.wrap ((d.nx : Int) - 1) = ((d.nx - 1 : Nat) : Int) := by rw [IntKind.wrap_i64]; omega
  have hw4 : IntKind.i64.wrap (((d.nx - 1 : Nat) : Int) - (d.rd : Int)) = (d.held : Int) := by rw [IntKind.wrap_i64]; omega
  unfold ptr at *
  by_cases he : d.nx = d.en
  · have ha : d.ack = d.nx + 1 := by unfold Dr.ack; rw [if_pos he]
    have hd : d.ended = true := decide_eq_true he
    have hq : ((d.en : Int) == (d.nx : Int)) = true := by simp; omega
    rw [ha] at HAC
    rw [hd] at HEN
    clear H hn hok ht he ha hd
    generalize d.nx + 1 = n1 at *
    generalize d.nx - 1 = n0 at *
    generalize d.rd + 33 - d.nx = wn at *
    generalize d.rd + 33 = ed at *
    generalize d.held = hd at *
    generalize d.nx = nx at *
    generalize d.rd = rd at *
    generalize (d.en : Int) = E at *
    go_enter Try.func20, Try.ntmps20
    go_wp2_with fail
    refine (HN0.out).mono ?_
    rintro e w1 ⟨rfl, hw⟩
    subst hw
    go_wp2_with fail
    go_quiet (first
      | (go_at_call 22; exact Calls.quiet_of (HAC.out _))
      | (go_at_call 25; exact Calls.quiet_of (HEN.out _))
      | (go_at_call 23; exact Calls.quiet_of (HWI.out _))
      | (go_at_call 31; exact Calls.quiet_of_same (HED.out _))
      | (go_at_call 12; exact Calls.quiet_of_same (HNX.out _))
      | (go_at_call 24; exact Calls.quiet_of_same (HRE.out _)))
    go_wp2_with fail
    go_ret
    exact ⟨rfl, HBW.out _⟩
  · have ha : d.ack = d.nx := by unfold Dr.ack; rw [if_neg he]
    have hd : d.ended = false := decide_eq_false he
    have hq : ((d.en : Int) == (d.nx : Int)) = false := by simp; omega
    rw [ha] at HAC
    rw [hd] at HEN
    clear H hn hok ht he ha hd hw1
    generalize d.nx - 1 = n0 at *
    generalize d.rd + 33 - d.nx = wn at *
    generalize d.rd + 33 = ed at *
    generalize d.held = hd at *
    generalize d.nx = nx at *
    generalize d.rd = rd at *
    generalize (d.en : Int) = E at *
    go_enter Try.func20, Try.ntmps20
    go_wp2_with fail
    refine (HN0.out).mono ?_
    rintro e w1 ⟨rfl, hw⟩
    subst hw
    go_wp2_with fail
    go_quiet (first
      | (go_at_call 22; exact Calls.quiet_of (HAC.out _))
      | (go_at_call 25; exact Calls.quiet_of (HEN.out _))
      | (go_at_call 23; exact Calls.quiet_of (HWI.out _))
      | (go_at_call 31; exact Calls.quiet_of_same (HED.out _))
      | (go_at_call 12; exact Calls.quiet_of_same (HNX.out _))
      | (go_at_call 24; exact Calls.quiet_of_same (HRE.out _)))
    go_wp2_with fail
    go_ret
    exact ⟨rfl, HBW.out _⟩
end
end Go.Proofs.Ytancbdnpmabpfaa
