/- The contract of the width that octet has. No condition. -/
import Derived.Test.YtbbpemndkphgeaaDoorBase
namespace Go.Proofs.YtbbpemndkphgeaaDoor
set_option linter.unusedVariables false
open Go.RowKit

theorem mm_wn (n : Int) : min (max n 1) 8 = (wn n : Int) := by
  unfold wn
  rw [Int.max_def, Int.min_def]
  split <;> split <;> (try split) <;> (try split) <;> omega

theorem width_any (n : Int) (w : World) : Calls Tryd.prog 58 #[.int .i64 n] w fun e w' => e = .returned (.int .i64 (wn n : Nat)) ∧ w = w' := by
  have H := Lib.hid (mm_wn n)
  go_enter Tryd.func58, Tryd.ntmps58
  go_wp2
  go_ret
  exact ⟨by rw [← H.out]; rfl, rfl⟩
end Go.Proofs.YtbbpemndkphgeaaDoor
