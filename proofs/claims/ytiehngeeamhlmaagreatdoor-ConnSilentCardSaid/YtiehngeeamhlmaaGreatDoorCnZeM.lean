/- Out of the rows' condition: the table of digests and the table of moves. Condition: the listed variables read as the program's text lays them. -/
import Derived.Test.YtiehngeeamhlmaaGreatDoorClLM
import Derived.Test.YtiehngeeamhlmaaGreatDoorMg4
import Derived.Test.YtiehngeeamhlmaaGreatDoorCnZdM
namespace Go.Proofs.YtiehngeeamhlmaaGreatDoor
set_option linter.unusedVariables false
set_option linter.unusedSimpArgs false
namespace LC
theorem tab2_of {W : World} (h : laidMetH Tryz.prog [("ferrybridge/close.moves", Rows.laid_ferrybridge_close_moves), ("ferrybridge/sha.factors", Rows.laid_ferrybridge_sha_factors)] W) : Tab W := by
  rw [MakeChecks.laidMetH_plain _ _ _ (by kernel_rfl)] at h
  obtain ⟨ps, ⟨g', t', cs, fuel, p, q, hg', ht', hvar, hd, _, _⟩, _⟩ := h
  obtain rfl := Option.some.inj (gTab.symm.trans hg')
  obtain rfl := Option.some.inj (gTabType.symm.trans ht')
  rw [laid_ms] at hd
  have hrow := moves_cells Tryz.underlying137 Tryz.underlying136 Tryz.underlying134 Tryz.underlying3 (by kernel_rfl) (by kernel_rfl) (by kernel_rfl) rfl rfl hd
  intro j v hv
  have hj : j < 54 := by
    have := (List.getElem?_eq_some_iff.1 hv).1
    rwa [mvs_len] at this
  rw [Nat.zero_add, World.var?_cell gTab hvar j, ← Array.getElem?_toList]
  have hi : j / 3 < 18 := by omega
  have hm : ms[j / 3]? = some (ms.getD (j / 3) mz) := by
    rw [List.getD_eq_getElem?_getD, List.getElem?_eq_getElem (show j / 3 < ms.length from hi)]
    rfl
  have h1 := hrow (j / 3) hi _ hm
  rw [← mvs_at (j / 3) hi] at h1
  have h2 := congrArg (·[j % 3]?) h1
  simp only [List.getElem?_take, List.getElem?_drop, if_pos (show j % 3 < 3 by omega)] at h2
  rw [show j / 3 * 3 + j % 3 = j by omega] at h2
  rw [h2]
  exact hv
end LC
theorem tab3_of {W : World} (h : laidMetH Tryz.prog [("ferrybridge/close.moves", Rows.laid_ferrybridge_close_moves), ("ferrybridge/sha.factors", Rows.laid_ferrybridge_sha_factors)] W) : LK.Tab W ∧ LC.Tab W := ⟨tab2_of h, LC.tab2_of h⟩
end Go.Proofs.YtiehngeeamhlmaaGreatDoor
