/- A set's Has, Next, Many, Runs; a set that isn't there. Conditions: the set stands; whole numbers of 64 bits. -/
import Derived.Test.YtgcblajhdebigaaSpJ
namespace Go.Proofs.Ytgcblajhdebigaa
set_option linter.unusedVariables false
set_option linter.unusedSimpArgs false
open Go.RowKit Go.Lib

def hasB (l : List Rn) (n : Int) (b : Bool) : Prop := b = true ↔ Has l n
theorem AbR.hasB {l : List Rn} {n : Int} {r : Rn} {b : Bool} (h : AbR l n r b) : hasB l n b := by
  rcases h with ⟨rfl, h1, h2, h3⟩ | ⟨rfl, h⟩
  · exact ⟨fun _ => ⟨r, h1, h2, h3⟩, fun _ => rfl⟩
  · exact ⟨fun e => by (cases e), fun h' => absurd h' h⟩

/-- The first number from one on that isn't there. -/
def NxR (l : List Rn) (f : Int) (x : Int) : Prop := max f 0 ≤ x ∧ ¬ Has l x ∧ (∀ n, max f 0 ≤ n → n < x → Has l n) ∧ isI x
theorem nx_yes {l : List Rn} (h : Tid 0 l) {f : Int} {r : Rn} (hr : r ∈ l) (h1 : r.1 ≤ max f 0) (h2 : max f 0 < r.1 + r.2) : NxR l f (r.1 + r.2) := by
  have ho := tid_ge h r hr
  refine ⟨by omega, fun ⟨r', hr', h3, h4⟩ => ?_, fun n hn hn' => ⟨r, hr, by omega, hn'⟩, ⟨by omega, by omega⟩⟩
  obtain ⟨i, hi, ei⟩ := List.getElem_of_mem hr
  obtain ⟨j, hj, ej⟩ := List.getElem_of_mem hr'
  have di : l.getD i (0, 0) = r := by rw [List.getD_eq_getElem?_getD, List.getElem?_eq_getElem hi]; exact ei
  have dj : l.getD j (0, 0) = r' := by rw [List.getD_eq_getElem?_getD, List.getElem?_eq_getElem hj]; exact ej
  rcases Nat.lt_trichotomy i j with hh | hh | hh
  · have := tid_rise h i j hh hj
    rw [di, dj] at this
    omega
  · subst hh
    rw [di] at dj
    subst dj
    omega
  · have := tid_rise h j i hh hi
    rw [di, dj] at this
    omega
theorem nx_no {l : List Rn} {f : Int} (hf : isI f) (h : ¬ Has l (max f 0)) : NxR l f (max f 0) := ⟨Int.le_refl _, h, fun n h1 h2 => by omega, by unfold isI at *; omega⟩

theorem Many_any {w : World} {sb : Nat} {v : Value} {l : List Rn} (H : St w sb v l) :
    Calls Try.prog 40 #[ptr sb] w fun e w' => e = .returned (.int .i64 (many l)) ∧ Below w.heap.size w w' := by
  have c0 := H.c0
  have HM := Lib.hid (many_any H.row (Int.le_refl 0) (by omega) H.tid (by have := H.len; omega))
  clear H
  unfold ptr
  go_enter Try.func40, Try.ntmps40
  go_wp2_with fail
  refine (HM.out).mono ?_
  rintro e w1 ⟨rfl, b1⟩
  have HB := Lib.hid b1
  clear b1
  go_wp2_with fail
  go_ret
  exact ⟨rfl, HB.out⟩
theorem Runs_any {w : World} {sb : Nat} {v : Value} {l : List Rn} (H : St w sb v l) :
    Calls Try.prog 45 #[ptr sb] w (CloneR w l) := by
  have c0 := H.c0
  have HM := Lib.hid (clone_any H.row (by have := H.len; omega))
  clear H
  unfold ptr
  go_enter Try.func45, Try.ntmps45
  go_wp2_with fail
  refine (HM.out).mono ?_
  rintro e w1 hh
  have HH := Lib.hid hh
  obtain ⟨v1, rfl, -⟩ := hh
  go_wp2_with fail
  go_ret
  exact HH.out

/-! A set that isn't there. -/
set_option maxHeartbeats 1600000 in
theorem addN (f g : Int) (hf : isI f) (hg : isI g) (w : World) : Calls Try.prog 34 #[.pointer none, .int .i64 f, .int .i64 g] w fun e w' => e = .returned (.int .i64 0) ∧ Below w.heap.size w w' := by
  have HW := Lib.hid (within_any f g hf hg)
  generalize inR f g = R at *
  obtain ⟨R1, R2⟩ := R
  unfold rg at HW
  dsimp only at HW
  clear hf hg
  go_enter Try.func34, Try.ntmps34
  go_wp2_with fail
  refine (HW.out w).mono ?_
  rintro e w1 ⟨rfl, b1⟩
  have HB := Lib.hid (b1.alloc b1.size (.cells #[.int .i64 R1, .int .i64 R2] 66))
  clear b1
  go_wp2_with fail
  go_ret
  exact ⟨rfl, HB.out⟩
theorem dropN (f : Int) (w : World) : Calls Try.prog 32 #[.pointer none, .int .i64 f] w fun e w' => e = .returned (.int .i64 0) ∧ Below w.heap.size w w' := by
  have HB := Lib.hid (below_a w (.cells #[.int .i64 f] 3))
  go_enter Try.func32, Try.ntmps32
  go_wp2_with fail
  go_ret
  exact ⟨rfl, HB.out⟩
theorem manyN (w : World) : Calls Try.prog 40 #[.pointer none] w fun e w' => e = .returned (.int .i64 0) ∧ w' = w := by
  go_enter Try.func40, Try.ntmps40
  go_wp2_with fail
  go_ret
  exact ⟨rfl, rfl⟩
theorem runsN (w : World) : Calls Try.prog 45 #[.pointer none] w fun e w' => e = .returned (.slice none 0 0) ∧ w' = w := by
  go_enter Try.func45, Try.ntmps45
  go_wp2_with fail
  go_ret
  exact ⟨rfl, rfl⟩
end Go.Proofs.Ytgcblajhdebigaa
