/- The laws' own example: a segment with nothing has 22 bytes. Condition: the table of widths stands. -/
import Derived.Test.YtbbpemndkphgeaaDoorSegP
namespace Go.Proofs.YtbbpemndkphgeaaDoor
set_option linter.unusedVariables false
set_option linter.unusedSimpArgs false
open Go.RowKit

set_option maxRecDepth 8000 in
set_option maxHeartbeats 1600000 in
theorem swakes_any (w : World) (hT : Tab w) : Calls Tryd.prog 7 #[] w (Yes w) := by
  have HL : Hid ((sbs zS).length = 22) := Lib.hid (by rw [sbs_length (zS_ok w)]; rfl)
  have HP := Lib.hid (fun W hW => SegPut_any zS W (zS_ok W) hW)
  go_enter Tryd.func7, Tryd.ntmps7
  go_wp2_with fail
  refine (HP.out _ hT).mono ?_
  rintro e w1 ⟨p1, _, b1⟩
  rw [HL.out] at p1
  obtain ⟨A, c, rfl, _, _⟩ := p1 rfl
  go_wp2_with fail
  go_ret
  exact ⟨rfl, b1⟩
end Go.Proofs.YtbbpemndkphgeaaDoor
