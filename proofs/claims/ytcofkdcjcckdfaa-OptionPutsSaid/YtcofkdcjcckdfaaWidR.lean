/- The contract of the document's own width. No condition. -/
import Derived.Test.YtcofkdcjcckdfaaBase
namespace Go.Proofs.Ytcofkdcjcckdfaa
set_option linter.unusedVariables false
open Go.RowKit

theorem Width_any (n : Int) (w : World) : Calls Try.prog 40 #[.int .i64 n] w fun e w' => e = .returned (.int .i64 (wn n : Nat)) ∧ w = w' := by
  rcases Int.lt_or_le n 1 with h | h
  · have H := Lib.hid (wn_one h)
    go_enter Try.func40, Try.ntmps40
    go_wp2
    go_ret
    exact ⟨by rw [H.out]; rfl, rfl⟩
  · rcases Int.lt_or_le 8 n with h8 | h8
    · have H := Lib.hid (wn_eight h8)
      have h' : ¬ n < 1 := by omega
      go_enter Try.func40, Try.ntmps40
      go_wp2
      go_ret
      exact ⟨by rw [H.out]; rfl, rfl⟩
    · have H := Lib.hid (wn_mid h h8)
      have h' : ¬ n < 1 := by omega
      have h9 : ¬ 8 < n := by omega
      go_enter Try.func40, Try.ntmps40
      go_wp2
      go_ret
      exact ⟨by rw [H.out]; rfl, rfl⟩
end Go.Proofs.Ytcofkdcjcckdfaa
