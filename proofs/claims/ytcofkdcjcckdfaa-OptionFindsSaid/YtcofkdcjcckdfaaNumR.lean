/- The contract of the document's own number of some bytes. Condition: a slice of at most eight bytes. -/
import Derived.Test.YtcofkdcjcckdfaaBase
namespace Go.Proofs.Ytcofkdcjcckdfaa
set_option linter.unusedVariables false
open Go.RowKit

set_option maxHeartbeats 400000 in
theorem Number_any (A : Option Addr) (n c : Nat) (l : List UInt8) (w : World) (h : RB w A n c l) (h8 : n ≤ 8) :
    Calls Try.prog 39 #[.slice A n c] w fun e w' => e = .returned (.int .u64 (num l : Nat)) ∧ w = w' := by
  have hl := Lib.hid h.len
  go_enter Try.func39, Try.ntmps39
  go_wp2
  go_loop [3, 4] (fun x i => ∃ k : Nat, k ≤ n ∧ i = .int .i64 k ∧ x = .int .u64 (num (l.take k) : Nat)) (fun _ i => n - (intOf i).toNat)
  case atStart => exact ⟨0, Nat.zero_le _, rfl, rfl⟩
  case round =>
    obtain ⟨k, hk, rfl, rfl⟩ := hrel
    by_cases hlt : k < n
    · have hb := num_take_seven l k (by omega)
      have hx := (l.getD k 0).toNat_lt
      have HS := Lib.hid (num_step l k (by rw [hl.out]; exact hlt))
      obtain ⟨b, o, rfl, hc⟩ := h.at_ hlt
      clear h
      generalize num (l.take k) = x at *
      generalize (l.getD k 0).toNat = y at *
      go_wp2
      go_round
      case rel => exact ⟨k + 1, by omega, by go_num, by rw [HS.out]; go_num⟩
      case measure => simp [intOf]; omega
    · go_wp2
      go_ret
      exact ⟨by rw [List.take_of_length_le (by rw [hl.out]; omega)]; rfl, rfl⟩
end Go.Proofs.Ytcofkdcjcckdfaa
