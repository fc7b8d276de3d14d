/- The contract of the width that octet has. No condition. -/
import Derived.Test.YtgkonmjchdpohaaDoorBase
namespace Go.Proofs.YtgkonmjchdpohaaDoor
set_option linter.unusedVariables false
set_option linter.unusedSimpArgs false
open Go.RowKit

theorem mm_wn (n : Int) : min (max n 1) 8 = (wn n : Int) := by
  unfold wn
  rw [Int.max_def, Int.min_def]
  split <;> split <;> (try split) <;> (try split) <;> omega

theorem width_any (n : Int) (w : World) : Calls Tryd.prog 46 #[.int .i64 n] w fun e w' => e = .returned (.int .i64 (wn n : Nat)) ∧ w = w' := by
  have H := Lib.hid (mm_wn n)
  go_enter Tryd.func46, Tryd.ntmps46
  go_wp2
  go_ret
  exact ⟨by rw [← H.out]; rfl, rfl⟩
end Go.Proofs.YtgkonmjchdpohaaDoor
