/- The example of the chapter; the law SpanNil. Conditions: whole numbers of 64 bits. -/
import Derived.Test.YteiojdmnfjcagaaSpK
namespace Go.Proofs.Yteiojdmnfjcagaa
set_option linter.unusedVariables false
set_option linter.unusedSimpArgs false
open Go.RowKit Go.Lib

/-- What a law leaves that holds. -/
def Held (W : World) (e : Ending) (w' : World) : Prop := e = .returned (.bool true) ∧ Below W.heap.size W w'

theorem wakes_run {l : List Rn} (h : Tid 0 l) (hh : ∀ n, Has l n ↔ ∃ r ∈ ([(3, 2), (0, 3)] : List Rn), Cov r n) : l = [(0, 5)] := by
  refine tid_ext (a := 0) (b := 0) h ⟨by omega, by omega, by omega, trivial⟩ fun n => ?_
  rw [hh, has_cons]
  have c1 : Cov (3, 2) n ↔ 3 ≤ n ∧ n < 5 := by
    unfold Cov
    rw [show inR (3, 2).1 (3, 2).2 = (3, 2) from by decide]
    dsimp only
    omega
  have c2 : Cov (0, 3) n ↔ 0 ≤ n ∧ n < 3 := by
    unfold Cov
    rw [show inR (0, 3).1 (0, 3).2 = (0, 3) from by decide]
    dsimp only
    omega
  constructor
  · rintro ⟨r, hr, hc⟩
    left
    simp only [List.mem_cons, List.not_mem_nil, or_false] at hr
    rcases hr with rfl | rfl
    · rw [c1] at hc
      dsimp only
      omega
    · rw [c2] at hc
      dsimp only
      omega
  · rintro (h1 | h1)
    · dsimp only at h1
      by_cases h3 : n < 3
      · exact ⟨(0, 3), by simp, c2.2 ⟨by omega, h3⟩⟩
      · exact ⟨(3, 2), by simp, c1.2 ⟨by omega, by omega⟩⟩
    · exact absurd h1 (has_nil n)

set_option maxHeartbeats 1600000 in
theorem wakes_any (w : World) : Calls Try.prog 8 #[] w (Held w) := by
  have hrow : Row (w.alloc (.cells #[.int .i64 3, .int .i64 2, .int .i64 0, .int .i64 3] 43)) (.slice (some ⟨w.heap.size, 0, none⟩) 2 2) [(3, 2), (0, 3)] :=
    .inr ⟨w.heap.size, 0, 2, _, rfl, heap_alloc_new w _, Nat.le_refl _, by omega, by simp, fun j v hv => by
      rw [cell_of_row _ _ _ _ _ _ (heap_alloc_new w _)]
      simpa [rv] using hv⟩
  have HN := Lib.hid (New_any hrow (by simp) (fun r hr => by
    simp only [List.mem_cons, List.not_mem_nil, or_false] at hr
    rcases hr with rfl | rfl <;> (unfold isI; dsimp only; omega)))
  have HB := Lib.hid (below_a w (.cells #[.int .i64 3, .int .i64 2, .int .i64 0, .int .i64 3] 43))
  clear hrow
  go_enter Try.func8, Try.ntmps8
  go_wp2_with fail
  refine (HN.out).mono ?_
  rintro e w1 ⟨sb, v1, l1, rfl, S1, hh, b1, _, _⟩
  have hl := wakes_run S1.tid hh
  subst hl
  have HR := Lib.hid (Runs_any S1)
  have HB1 := Lib.hid (HB.out.trans (b1.mono HB.out.size))
  clear S1 hh b1 HN
  unfold ptr at *
  go_wp2_with fail
  refine (HR.out).mono ?_
  rintro e w2 ⟨v2, rfl, r2, _, b2⟩
  have HB2 := Lib.hid (HB1.out.trans (b2.mono HB1.out.size))
  obtain ⟨A, c, rfl, hc1, hc2⟩ := r2.slice
  obtain ⟨g, o, rfl, x0, x1, _⟩ := r2.cells (j := 0) (by simp)
  have y0 : w2.cell? ⟨g, o, none⟩ = some (.int .i64 0) := by simpa using x0
  have y1 : w2.cell? ⟨g, o + 1, none⟩ = some (.int .i64 5) := by simpa using x1
  dsimp only [List.length_cons, List.length_nil, Nat.zero_add] at *
  clear x0 x1 r2 b2 HR
  go_wp2_with fail
  go_ret
  exact ⟨rfl, HB2.out⟩

set_option maxHeartbeats 1600000 in
theorem Nil_any (f g : Int) (W : World) (hf : isI f) (hg : isI g) : Calls Try.prog 6 #[.int .i64 f, .int .i64 g] W (Held W) := by
  have HW := Lib.hid (wakes_any W)
  have HA := Lib.hid (fun w => addN f g hf hg w)
  have HD := Lib.hid (fun w => dropN f w)
  have HH := Lib.hid (fun w => hasN f w)
  have HX := Lib.hid (fun w => nextN f w)
  have HR := Lib.hid (fun w => runsN w)
  have HM := Lib.hid (fun w => manyN w)
  clear hf hg
  go_enter Try.func6, Try.ntmps6
  go_wp2_with fail
  refine (HW.out).mono ?_
  rintro e w1 ⟨rfl, b1⟩
  have B1 := Lib.hid b1
  clear b1
  go_wp2_with fail
  refine (HA.out _).mono ?_
  rintro e w2 ⟨rfl, b2⟩
  have B2 := Lib.hid (B1.out.trans (b2.mono B1.out.size))
  clear b2
  go_wp2_with fail
  refine (HD.out _).mono ?_
  rintro e w3 ⟨rfl, b3⟩
  have B3 := Lib.hid (B2.out.trans (b3.mono B2.out.size))
  clear b3
  go_wp2_with fail
  refine (HH.out _).mono ?_
  rintro e w4 ⟨rfl, b4⟩
  have B4 := Lib.hid (B3.out.trans (b4.mono B3.out.size))
  clear b4
  go_wp2_with fail
  refine (HX.out _).mono ?_
  rintro e w5 ⟨rfl, rfl⟩
  go_wp2_with fail
  refine (HR.out _).mono ?_
  rintro e w6 ⟨rfl, rfl⟩
  go_wp2_with fail
  refine (HM.out _).mono ?_
  rintro e w7 ⟨rfl, rfl⟩
  go_wp2_with fail
  go_ret
  exact ⟨rfl, B4.out⟩
end Go.Proofs.Yteiojdmnfjcagaa
