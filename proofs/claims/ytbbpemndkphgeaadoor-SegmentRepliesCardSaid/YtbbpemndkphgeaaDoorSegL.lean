/- Out of the row's condition: the package's table holds how wide each number is. Condition: the listed variable reads as the program's text lays it. -/
import Derived.Test.YtbbpemndkphgeaaDoorRows
import Derived.Test.YtbbpemndkphgeaaDoorSegD
import Derived.Lib.LaidTab
import Derived.LaidMore
import Derived.LaidByTextLater
namespace Go.Proofs.YtbbpemndkphgeaaDoor
set_option linter.unusedVariables false
set_option linter.unusedSimpArgs false

def wz : List Int := [1, 1, 2, 2, 4, 4, 1, 2, 1, 1]
theorem wz_wd : ∀ i, i < 10 → wz.getD i 0 = (wd i : Int) := by decide +kernel
theorem gTab : Tryd.prog.globalNamed "ferrybridge/segment.widths" = some 0 := by kernel_rfl
theorem gTabType : (Tryd.prog.globals[0]?).map (·.type) = some 69 := by kernel_rfl
theorem tab_of {W : World} (h : laidMetH Tryd.prog [("ferrybridge/segment.widths", Rows.laid_ferrybridge_segment_widths)] W) : Tab W := by
  rw [MakeChecks.laidMetH_plain _ _ _ (by kernel_rfl)] at h
  have h' : laidMet Tryd.prog (("ferrybridge/segment.widths", Lib.tabData .i64 wz) :: []) W := h
  have hT := Lib.tabIs_of_head gTab gTabType Tryd.underlying69 Tryd.underlying3 (by kernel_rfl) (by kernel_rfl) h'
  intro i hi
  rw [hT.cell gTab i hi, wz_wd i hi]
end Go.Proofs.YtbbpemndkphgeaaDoor
