/- Contracts of functions that only compute or only read: the width, the number of bytes, whether bytes are alike. Conditions: as each says (a slice that holds bytes; at most eight bytes of a number). -/
import Derived.Test.YtjlgedfbnfaohaaChecked
import Derived.Test.YtjlgedfbnfaohaaMem
import Derived.Test.YtjlgedfbnfaohaaNum
import Derived.WalkKit
import Derived.Deep.QuietTactic
import Derived.BigQuiet
import Derived.Lib.MinMax
import Derived.WalkLawsBesides
namespace Go.Proofs.Ytjlgedfbnfaohaa
set_option linter.unusedVariables false
open Go.RowKit

theorem Width_any (n : Int) (w : World) : Calls Try.prog 14 #[.int .i64 n] w fun e w' => e = .returned (.int .i64 (wn n : Nat)) ∧ w = w' := by
  rcases Int.lt_or_le n 1 with h | h
  · have H := Lib.hid (wn_one h)
    go_enter Try.func14, Try.ntmps14
    go_wp2
    go_ret
    exact ⟨by rw [H.out]; rfl, rfl⟩
  · rcases Int.lt_or_le 8 n with h8 | h8
    · have H := Lib.hid (wn_eight h8)
      have h' : ¬ n < 1 := by omega
      go_enter Try.func14, Try.ntmps14
      go_wp2
      go_ret
      exact ⟨by rw [H.out]; rfl, rfl⟩
    · have H := Lib.hid (wn_mid h h8)
      have h' : ¬ n < 1 := by omega
      have h9 : ¬ 8 < n := by omega
      go_enter Try.func14, Try.ntmps14
      go_wp2
      go_ret
      exact ⟨by rw [H.out]; rfl, rfl⟩

theorem mm_wn (n : Int) : min (max n 1) 8 = (wn n : Int) := by
  unfold wn
  rw [Int.max_def, Int.min_def]
  split <;> split <;> (try split) <;> (try split) <;> omega

theorem width_any (n : Int) (w : World) : Calls Try.prog 18 #[.int .i64 n] w fun e w' => e = .returned (.int .i64 (wn n : Nat)) ∧ w = w' := by
  have H := Lib.hid (mm_wn n)
  go_enter Try.func18, Try.ntmps18
  go_wp2
  go_ret
  exact ⟨by rw [← H.out]; rfl, rfl⟩

set_option maxHeartbeats 400000 in
theorem Number_any (A : Option Addr) (n c : Nat) (l : List UInt8) (w : World) (h : RB w A n c l) (h8 : n ≤ 8) :
    Calls Try.prog 13 #[.slice A n c] w fun e w' => e = .returned (.int .u64 (num l : Nat)) ∧ w = w' := by
  have hl := Lib.hid h.len
  go_enter Try.func13, Try.ntmps13
  go_wp2
  go_loop [3, 4] (fun x i => ∃ k : Nat, k ≤ n ∧ i = .int .i64 k ∧ x = .int .u64 (num (l.take k) : Nat)) (fun _ i => n - (intOf i).toNat)
  case atStart => exact ⟨0, Nat.zero_le _, rfl, rfl⟩
  case round =>
    obtain ⟨k, hk, rfl, rfl⟩ := hrel
    by_cases hlt : k < n
    · have hb := num_take_seven l k (by omega)
      have hx := (l.getD k 0).toNat_lt
      have HS := Lib.hid (num_step l k (by rw [hl.out]; exact hlt))
      obtain ⟨b, o, rfl, hc⟩ := h.at_ hlt
      clear h
      generalize num (l.take k) = x at *
      generalize (l.getD k 0).toNat = y at *
      go_wp2
      go_round
      case rel => exact ⟨k + 1, by omega, by go_num, by rw [HS.out]; go_num⟩
      case measure => simp [intOf]; omega
    · go_wp2
      go_ret
      exact ⟨by rw [List.take_of_length_le (by rw [hl.out]; omega)]; rfl, rfl⟩

end Go.Proofs.Ytjlgedfbnfaohaa
