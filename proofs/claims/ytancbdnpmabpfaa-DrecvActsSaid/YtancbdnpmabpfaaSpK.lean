/- A set's Has, Next, Many, Runs; a set that isn't there. Conditions: the set stands; whole numbers of 64 bits. -/
import Derived.Test.YtancbdnpmabpfaaSpJ
namespace Go.Proofs.Ytancbdnpmabpfaa
set_option linter.unusedVariables false
set_option linter.unusedSimpArgs false
open Go.RowKit Go.Lib

def hasB (l : List Rn) (n : Int) (b : Bool) : Prop := b = true ↔ Has l n
theorem AbR.hasB {l : List Rn} {n : Int} {r : Rn} {b : Bool} (h : AbR l n r b) : hasB l n b := by
  rcases h with ⟨rfl, h1, h2, h3⟩ | ⟨rfl, h⟩
  · exact ⟨fun _ => ⟨r, h1, h2, h3⟩, fun _ => rfl⟩
  · exact ⟨fun e => by (cases e), fun h' => absurd h' h⟩

set_option maxHeartbeats 1600000 in
theorem Has_any {w : World} {sb : Nat} {v : Value} {l : List Rn} (H : St w sb v l) {x : Int} (hx : isI x) :
    Calls Try.prog 28 #[ptr sb, .int .i64 x] w fun e w' => ∃ b, e = .returned (.bool b) ∧ hasB l x b ∧ Below w.heap.size w w' := by
  have HA := Lib.hid (about_any H hx)
  clear H
  unfold ptr at *
  go_enter Try.func28, Try.ntmps28
  go_wp2_with fail
  refine (HA.out).mono ?_
  rintro e w1 ⟨⟨ra, rb⟩, b, rfl, hr, b1⟩
  have HR := Lib.hid hr.hasB
  have HB := Lib.hid (b1.alloc b1.size (.cells #[.int .i64 ra, .int .i64 rb] 61))
  unfold rg
  clear hr b1 HA
  go_wp2_with fail
  go_ret
  exact ⟨b, rfl, HR.out, HB.out⟩

/-- The first number from one on that isn't there. -/
def NxR (l : List Rn) (f : Int) (x : Int) : Prop := max f 0 ≤ x ∧ ¬ Has l x ∧ (∀ n, max f 0 ≤ n → n < x → Has l n) ∧ isI x
theorem nx_yes {l : List Rn} (h : Tid 0 l) {f : Int} {r : Rn} (hr : r ∈ l) (h1 : r.1 ≤ max f 0) (h2 : max f 0 < r.1 + r.2) : NxR l f (r.1 + r.2) := by
  have ho := tid_ge h r hr
  refine ⟨by omega, fun ⟨r', hr', h3, h4⟩ => ?_, fun n hn hn' => ⟨r, hr, by omega, hn'⟩, ⟨by omega, by omega⟩⟩
  obtain ⟨i, hi, ei⟩ := List.getElem_of_mem hr
  obtain ⟨j, hj, ej⟩ := List.getElem_of_mem hr'
  have di : l.getD i (0, 0) = r := by rw [List.getD_eq_getElem?_getD, List.getElem?_eq_getElem hi]; exact ei
  have dj : l.getD j (0, 0) = r' := by rw [List.getD_eq_getElem?_getD, List.getElem?_eq_getElem hj]; exact ej
  rcases Nat.lt_trichotomy i j with hh | hh | hh
  · have := tid_rise h i j hh hj
    rw [di, dj] at this
    omega
  · subst hh
    rw [di] at dj
    subst dj
    omega
  · have := tid_rise h j i hh hi
    rw [di, dj] at this
    omega
theorem nx_no {l : List Rn} {f : Int} (hf : isI f) (h : ¬ Has l (max f 0)) : NxR l f (max f 0) := ⟨Int.le_refl _, h, fun n h1 h2 => by omega, by unfold isI at *; omega⟩

set_option maxHeartbeats 1600000 in
theorem Next_any {w : World} {sb : Nat} {v : Value} {l : List Rn} (H : St w sb v l) {f : Int} (hf : isI f) :
    Calls Try.prog 49 #[ptr sb, .int .i64 f] w fun e w' => ∃ x, e = .returned (.int .i64 x) ∧ NxR l f x ∧ Below w.heap.size w w' := by
  have hm : isI (max f 0) := by unfold isI at *; omega
  have HA := Lib.hid (about_any H hm)
  have HY := Lib.hid (fun r hr h1 h2 => nx_yes (f := f) H.tid (r := r) hr h1 h2)
  have HN := Lib.hid (fun h => nx_no (l := l) hf h)
  have HT := Lib.hid H.tid
  clear H hm
  unfold ptr at *
  go_enter Try.func49, Try.ntmps49
  go_wp2_with fail
  refine (HA.out).mono ?_
  rintro e w1 ⟨⟨ra, rb⟩, b, rfl, hr, b1⟩
  have HB := Lib.hid (b1.alloc b1.size (.cells #[.int .i64 ra, .int .i64 rb] 61))
  unfold rg
  clear HA
  rcases hr with ⟨rfl, h1, h2, h3⟩ | ⟨rfl, hn⟩
  · have HX := Lib.hid (HY.out (ra, rb) h1 h2 h3)
    have HE := Lib.hid (fun w => end_any (ra, rb) (ok_of HT.out h1) w)
    unfold rg at HE
    dsimp only at HE
    obtain ⟨e0, e1⟩ := cell2 w1 (.int .i64 ra) (.int .i64 rb) 61
    clear h1 h2 h3 HN HY
    go_wp2_with fail
    refine (HE.out _).mono ?_
    rintro e w5 ⟨rfl, b5⟩
    have HB5 := Lib.hid (HB.out.trans (b5.mono HB.out.size))
    clear b5 e0 e1
    go_wp2_with fail
    go_ret
    exact ⟨_, rfl, HX.out, HB5.out⟩
  · have HX := Lib.hid (HN.out hn)
    clear hn HN HY
    go_wp2_with fail
    go_ret
    exact ⟨_, rfl, HX.out, HB.out⟩

theorem Runs_any {w : World} {sb : Nat} {v : Value} {l : List Rn} (H : St w sb v l) :
    Calls Try.prog 51 #[ptr sb] w (CloneR w l) := by
  have c0 := H.c0
  have HM := Lib.hid (clone_any H.row (by have := H.len; omega))
  clear H
  unfold ptr
  go_enter Try.func51, Try.ntmps51
  go_wp2_with fail
  refine (HM.out).mono ?_
  rintro e w1 hh
  have HH := Lib.hid hh
  obtain ⟨v1, rfl, -⟩ := hh
  go_wp2_with fail
  go_ret
  exact HH.out

/-! A set that isn't there. -/
set_option maxHeartbeats 1600000 in
theorem addN (f g : Int) (hf : isI f) (hg : isI g) (w : World) : Calls Try.prog 29 #[.pointer none, .int .i64 f, .int .i64 g] w fun e w' => e = .returned (.int .i64 0) ∧ Below w.heap.size w w' := by
  have HW := Lib.hid (within_any f g hf hg)
  generalize inR f g = R at *
  obtain ⟨R1, R2⟩ := R
  unfold rg at HW
  dsimp only at HW
  clear hf hg
  go_enter Try.func29, Try.ntmps29
  go_wp2_with fail
  refine (HW.out w).mono ?_
  rintro e w1 ⟨rfl, b1⟩
  have HB := Lib.hid (b1.alloc b1.size (.cells #[.int .i64 R1, .int .i64 R2] 61))
  clear b1
  go_wp2_with fail
  go_ret
  exact ⟨rfl, HB.out⟩
theorem dropN (f : Int) (w : World) : Calls Try.prog 50 #[.pointer none, .int .i64 f] w fun e w' => e = .returned (.int .i64 0) ∧ Below w.heap.size w w' := by
  have HB := Lib.hid (below_a w (.cells #[.int .i64 f] 3))
  go_enter Try.func50, Try.ntmps50
  go_wp2_with fail
  go_ret
  exact ⟨rfl, HB.out⟩
set_option maxHeartbeats 1600000 in
theorem aboutN (f : Int) (w : World) : Calls Try.prog 40 #[.pointer none, .int .i64 f] w fun e w' => e = .returned (.tuple #[.agg #[.int .i64 0, .int .i64 0], .bool false]) ∧ Below w.heap.size w w' := by
  have hB0 : Below w.heap.size w ((w.alloc (.cells #[.int .i64 f] 3)).alloc (.cells #[.int .i64 0, .int .i64 0] 61)) := (below_a w _).alloc (by simp) _
  have hb2 : ((w.alloc (.cells #[.int .i64 f] 3)).alloc (.cells #[.int .i64 0, .int .i64 0] 61)).rangeAt (w.heap.size + 1) 0 (rv [(0, 0)]) := by
    have := cells2_range (w.alloc (.cells #[.int .i64 f] 3)) 0 0
    rwa [World.size_alloc] at this
  have HB := Lib.hid hB0
  have HR := Lib.hid hb2
  clear hB0 hb2
  go_enter Try.func40, Try.ntmps40
  go_wp2_with fail
  exact bodyPost_ret (results_c1 rfl _ _ (w.heap.size + 1) _ _ rfl HR.out Try.underlying61 rfl sz2) rfl ⟨rfl, HB.out⟩
theorem hasN (f : Int) (w : World) : Calls Try.prog 28 #[.pointer none, .int .i64 f] w fun e w' => e = .returned (.bool false) ∧ Below w.heap.size w w' := by
  have HA := Lib.hid (aboutN f w)
  go_enter Try.func28, Try.ntmps28
  go_wp2_with fail
  refine (HA.out).mono ?_
  rintro e w1 ⟨rfl, b1⟩
  have HB := Lib.hid (b1.alloc b1.size (.cells #[.int .i64 0, .int .i64 0] 61))
  clear b1 HA
  go_wp2_with fail
  go_ret
  exact ⟨rfl, HB.out⟩
theorem nextN (f : Int) (w : World) : Calls Try.prog 49 #[.pointer none, .int .i64 f] w fun e w' => e = .returned (.int .i64 f) ∧ w' = w := by
  go_enter Try.func49, Try.ntmps49
  go_wp2_with fail
  go_ret
  exact ⟨rfl, rfl⟩
theorem runsN (w : World) : Calls Try.prog 51 #[.pointer none] w fun e w' => e = .returned (.slice none 0 0) ∧ w' = w := by
  go_enter Try.func51, Try.ntmps51
  go_wp2_with fail
  go_ret
  exact ⟨rfl, rfl⟩
end Go.Proofs.Ytancbdnpmabpfaa
