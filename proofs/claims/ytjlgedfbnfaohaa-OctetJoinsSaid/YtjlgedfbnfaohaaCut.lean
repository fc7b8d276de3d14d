/- The contracts of octet.Cut. Condition: the slice holds bytes, at most 2^39 of them. -/
import Derived.Test.YtjlgedfbnfaohaaJoin
import Derived.Deep.RegionWith
import Derived.WalkSpells
namespace Go.Proofs.Ytjlgedfbnfaohaa
set_option linter.unusedVariables false
open Go.RowKit

theorem Parts.one {w : World} {g : Nat} {B : Option Addr} {m d : Nat} {l : List UInt8} (hc : w.cell? ⟨g, 0, none⟩ = some (.slice B m d)) (hr : RB w B m d l) : Parts w (some ⟨g, 0, none⟩) 1 1 [l] := by
  refine ⟨rfl, Nat.le_refl _, by unfold maxLen; omega, fun _ => ⟨g, 0, rfl, fun j hj => ?_⟩⟩
  obtain rfl : j = 0 := by omega
  exact ⟨B, m, d, hc, hr⟩

theorem elemOf : Try.prog.underlying 22 = some (.slice (Try.prog.elem 22)) := by kernel_rfl
theorem sizeOfByte (W : World) : (sizeOf (Try.prog.elem 22)).run Try.prog W = .ok 1 W := by kernel_rfl

/-- b[k:], whatever its address is. -/
theorem RB.from_ {w : World} {A : Option Addr} {n c k : Nat} {l : List UInt8} (h : RB w A n c l) (hk : k ≤ n) :
    ∃ A2, (∀ W : World, (Instr.slice 22 (.slice A n c) (some (.int .i64 (k : Int))) none none).run Try.prog W = .ok (.slice A2 (n - k) (c - k)) W) ∧ RB w A2 (n - k) (c - k) (l.drop k) := by
  refine ⟨_, fun W => ?_, h.drop hk⟩
  rw [run_slice_l (P := Try.prog) W 22 A n c elemOf .i64 (k : Int) (by omega) (by omega), sizeOfByte]
  simp [Result.andThen, sliced]

/-- What a call leaves that answers n bytes l, and writes nothing that was there. -/
def MadeRB (W : World) (n : Nat) (l : List UInt8) (e : Ending) (w' : World) : Prop := ∃ A c, e = .returned (.slice A n c) ∧ RB w' A n c l ∧ Below W.heap.size W w'

theorem Join_one {g : Nat} {B : Option Addr} {m d : Nat} {l : List UInt8} {w : World} (hc : w.cell? ⟨g, 0, none⟩ = some (.slice B m d)) (hr : RB w B m d l) (hm : m ≤ 1099511627776) :
    Calls Try.prog 16 #[.slice (some ⟨g, 0, none⟩) 1 1] w (MadeRB w m l) := by
  have e1 : fl [l] 1 = l := by simp [fl]
  have e2 : tl [l] 1 = m := by rw [tl, e1, hr.len]
  refine (Join_any _ 1 1 [l] w (Parts.one hc hr) (by rw [e2]; exact hm)).mono ?_
  rintro e w' ⟨v, rfl, hown, hb⟩
  rw [e1, e2] at hown
  obtain ⟨A, c, rfl, h, _⟩ := RB.of_own hown
  exact ⟨A, c, rfl, h, hb⟩

theorem cell_new (w : World) (v : Value) (t : TypeId) : (w.alloc (.cells #[v] t)).cell? ⟨w.heap.size, 0, none⟩ = some v := by
  rw [cell_of_row (w.alloc (.cells #[v] t)) w.heap.size 0 #[v] t (0, 0) (heap_alloc_new w _)]
  rfl
theorem cell_new2 (w : World) (o : Obj) (v : Value) (t : TypeId) : ((w.alloc o).alloc (.cells #[v] t)).cell? ⟨w.heap.size + 1, 0, none⟩ = some v := by
  have h := cell_new (w.alloc o) v t
  rw [show (w.alloc o).heap.size = w.heap.size + 1 from by simp] at h
  exact h
theorem cell_old2 (w : World) (o : Obj) (v : Value) (t : TypeId) : ((w.alloc (.cells #[v] t)).alloc o).cell? ⟨w.heap.size, 0, none⟩ = some v :=
  (World.cell?_alloc_lt _ o _ (by simp)).trans (cell_new w v t)
theorem below_a (w : World) (o : Obj) : Below w.heap.size w (w.alloc o) := (Below.refl _ _).alloc (Nat.le_refl _) o
theorem below_a2 (w : World) (o o' : Obj) : Below w.heap.size w ((w.alloc o).alloc o') := (below_a w o).alloc (by simp) o'
theorem below_d {w w' : World} (h : Below w.heap.size w w') : Below w.heap.size w w'.drew := h.drew
/-- Two steps, each of which leaves all that was there. -/
theorem below_trans {a b c : World} (h : Below a.heap.size a b) (k : Below b.heap.size b c) : Below a.heap.size a c := h.trans (k.mono h.size)

/-- What octet.Cut leaves where it cuts. -/
def CutMade (W : World) (n1 : Nat) (l1 : List UInt8) (n2 : Nat) (l2 : List UInt8) (e : Ending) (w' : World) : Prop :=
  ∃ A1 c1 A2 c2, e = .returned (.tuple #[.slice A1 n1 c1, .slice A2 n2 c2, .int .i64 0]) ∧ RB w' A1 n1 c1 l1 ∧ RB w' A2 n2 c2 l2 ∧ Below W.heap.size W w'

set_option maxHeartbeats 800000 in
theorem Cut_ok (A : Option Addr) (n c k : Nat) (l : List UInt8) (w : World) (h : RB w A n c l) (hk : k ≤ n) (ht : n ≤ 549755813888) :
    Calls Try.prog 15 #[.slice A n c, .int .i64 (k : Int)] w (CutMade w k (l.take k) (n - k) (l.drop k)) := by
  have hn := h.max
  have hn' := h.cap
  have hk1 : k ≤ 1099511627776 := by omega
  have hk2 : n - k ≤ 1099511627776 := by omega
  obtain ⟨A2, hrun, h2⟩ := h.from_ hk
  have h1 := h.take hk
  go_enter Try.func15, Try.ntmps15
  go_wp2
  clear h
  go_region_with (first
    | (go_at_call 16; refine (Join_one (B := A) (m := k) (d := c) (l := l.take k) ?_ (h1.below ?_) hk1).mono ?_; (first | exact cell_new _ _ _ | exact cell_new2 _ _ _ _ | exact cell_old2 _ _ _ _); (first | exact below_d (below_a _ _) | exact below_d (below_a2 _ _ _)); rintro e w1 ⟨B1, c1, rfl, hr1, hb1⟩; (first | have hbw1 := below_trans (below_d (below_a w _)) hb1 | have hbw1 := below_trans (below_d (below_a2 w _ _)) hb1); first | have hc2 := cell_later hb1 (cell_new2 _ _ (.slice A2 (n - k) (c - k)) _) | have hc2 := cell_later hb1 (cell_old2 _ _ (.slice A2 (n - k) (c - k)) _) | have hc2 := True.intro)
    | (go_at_call 16; refine (Join_one (B := A2) (m := n - k) (d := c - k) (l := l.drop k) ?_ (h2.below ?_) hk2).mono ?_; (first | exact cell_new _ _ _ | exact hc2); (first | exact hbw1 | exact below_trans hbw1 (below_a _ _)); rintro e w2 ⟨B2, c2, rfl, hr2, hb2⟩; first | (have hr3 := hr1.below hb2; have hbw2 := below_trans hbw1 hb2) | (have hr3 := (hr1.alloc _).below hb2; have hbw2 := below_trans (below_trans hbw1 (below_a _ _)) hb2)))
  all_goals
    go_wp2
    go_ret3
    exact ⟨_, _, _, _, rfl, hr3, hr2, hbw2⟩
/-- What a call of three results leaves that is refused. -/
theorem Cut_below (A : Option Addr) (n c : Nat) (k : Int) (w : World) (hk : k < 0) :
    Calls Try.prog 15 #[.slice A n c, .int .i64 k] w fun e w' => e = .returned (.tuple #[.slice none 0 0, .slice none 0 0, .int .i64 1]) ∧ w = w' := by
  go_enter Try.func15, Try.ntmps15
  go_wp2
  go_ret3
  exact ⟨rfl, rfl⟩

theorem Cut_above (A : Option Addr) (n c : Nat) (k : Int) (w : World) (hk : (n : Int) < k) :
    Calls Try.prog 15 #[.slice A n c, .int .i64 k] w fun e w' => e = .returned (.tuple #[.slice none 0 0, .slice none 0 0, .int .i64 3]) ∧ w = w' := by
  have h0 : ¬ k < 0 := by omega
  go_enter Try.func15, Try.ntmps15
  go_wp2
  go_ret3
  exact ⟨rfl, rfl⟩
end Go.Proofs.Ytjlgedfbnfaohaa
