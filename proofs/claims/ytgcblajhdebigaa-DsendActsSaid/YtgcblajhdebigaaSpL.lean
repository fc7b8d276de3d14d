/- The example of the chapter; the law SpanNil. Conditions: whole numbers of 64 bits. -/
import Derived.Test.YtgcblajhdebigaaSpK
namespace Go.Proofs.Ytgcblajhdebigaa
set_option linter.unusedVariables false
set_option linter.unusedSimpArgs false
open Go.RowKit Go.Lib


theorem wakes_run {l : List Rn} (h : Tid 0 l) (hh : ∀ n, Has l n ↔ ∃ r ∈ ([(3, 2), (0, 3)] : List Rn), Cov r n) : l = [(0, 5)] := by
  refine tid_ext (a := 0) (b := 0) h ⟨by omega, by omega, by omega, trivial⟩ fun n => ?_
  rw [hh, has_cons]
  have c1 : Cov (3, 2) n ↔ 3 ≤ n ∧ n < 5 := by
    unfold Cov
    rw [show inR (3, 2).1 (3, 2).2 = (3, 2) from by decide]
    dsimp only
    omega
  have c2 : Cov (0, 3) n ↔ 0 ≤ n ∧ n < 3 := by
    unfold Cov
    rw [show inR (0, 3).1 (0, 3).2 = (0, 3) from by decide]
    dsimp only
    omega
  constructor
  · rintro ⟨r, hr, hc⟩
    left
    simp only [List.mem_cons, List.not_mem_nil, or_false] at hr
    rcases hr with rfl | rfl
    · rw [c1] at hc
      dsimp only
      omega
    · rw [c2] at hc
      dsimp only
      omega
  · rintro (h1 | h1)
    · dsimp only at h1
      by_cases h3 : n < 3
      · exact ⟨(0, 3), by simp, c2.2 ⟨by omega, h3⟩⟩
      · exact ⟨(3, 2), by simp, c1.2 ⟨by omega, by omega⟩⟩
    · exact absurd h1 (has_nil n)

end Go.Proofs.Ytgcblajhdebigaa
