/- The contract of the document's own way to put a number in bytes: what it answers lies in memory of its own. Condition: the number is one of 64 bits. -/
import Derived.Test.YtcofkdcjcckdfaaWidR
namespace Go.Proofs.Ytcofkdcjcckdfaa
set_option linter.unusedVariables false
open Go.RowKit

theorem div_step (a k j m : Nat) (h : j + 1 ≤ m) : a / 256 ^ (m - (j + 1)) / 256 = a / 256 ^ (m + 1 - (j + 1)) := by
  rw [Nat.div_div_eq_div_mul, ← Nat.pow_succ, show (m - (j + 1)).succ = m + 1 - (j + 1) from by omega]

theorem low_byte {x : Nat} : (x : Int) % 256 = ((UInt8.ofNat x).toNat : Int) := by rw [UInt8.toNat_ofNat']; omega

set_option maxHeartbeats 800000 in
theorem Bytes_any (a : Nat) (n : Int) (w : World) (ha : a < 18446744073709551616) :
    Calls Try.prog 26 #[.int .u64 (a : Int), .int .i64 n] w (Made w 5 (wn n) (be a (wn n))) := by
  have hlo := wn_lo n
  have hhi := wn_hi n
  go_enter Try.func26, Try.ntmps26
  go_wp2_with (go_at_call 40; refine (Width_any _ _).mono ?_; rintro e w' ⟨rfl, rfl⟩)
  generalize wn n = K at *
  go_loopw [5, 6] (fun v i wr => ∃ j : Nat, j ≤ K ∧ i = .int .i64 j ∧ wr.ownsRow w.heap.size 5 1 v j (bv ((be a K).take j)) ∧ Below w.heap.size w wr) (fun _ i _ => K - (intOf i).toNat)
  case atStart => exact ⟨0, Nat.zero_le _, rfl, World.ownsRow_nil _ _ _ _, Below.refl _ _⟩
  case round =>
    obtain ⟨j, hj, rfl, hown, hbel⟩ := hrel
    by_cases hlt : j < K
    · have h0 : a / 256 ^ (j + 1 - (j + 1)) = a := by rw [Nat.sub_self]; simp
      have H0 := Lib.hid h0
      clear h0
      go_wp2
      go_loop [7, 8] (fun x m => ∃ k : Nat, j + 1 ≤ k ∧ k ≤ K ∧ m = .int .i64 k ∧ x = .int .u64 ((a / 256 ^ (k - (j + 1)) : Nat) : Int)) (fun _ m => K - (intOf m).toNat)
      case atStart => exact ⟨j + 1, Nat.le_refl _, hlt, rfl, by rw [H0.out]⟩
      case round =>
        obtain ⟨k, hk1, hk2, rfl, rfl⟩ := hrel
        have hx : a / 256 ^ (k - (j + 1)) < 18446744073709551616 := Nat.lt_of_le_of_lt (Nat.div_le_self _ _) ha
        have hb := @low_byte (a / 256 ^ (k - (j + 1)))
        by_cases hkl : k < K
        · clear hb
          have HS := Lib.hid (div_step a k j k hk1)
          generalize a / 256 ^ (k - (j + 1)) = x at *
          go_wp2
          go_round
          case rel => exact ⟨k + 1, by omega, by omega, by go_num, by rw [← HS.out]; rfl⟩
          case measure => simp [intOf]; omega
        · obtain rfl : k = K := by omega
          have HT := Lib.hid (be_take a k j hlt)
          rw [show k - 1 - j = k - (j + 1) from by omega] at HT
          generalize a / 256 ^ (k - (j + 1)) = x at *
          have HB := Lib.hid hb
          clear hb
          go_wp2_with (at_builtin; refine wpList_app _ rfl (.tmp 26) (.tmp 30) 24 5 rfl Try.underlying24 infoByte w.heap.size _ j ((be a k).take j) rfl (hown.alloc _) _ 1 1 [UInt8.ofNat x] rfl (RB.lit1 _ _ _ _ HB.out) (by omega) (by have := hbel.size; simp; omega) ?_; intro v' w1 hown' hg' _)
          have R := own_one hbel hown hown' hg' HT.out
          clear hown' hg' hown hbel
          go_wp2
          go_roundw
          case rel => exact ⟨j + 1, by omega, by go_num, R.1, R.2⟩
          case measure => simp [intOf]; omega
    · obtain rfl : j = K := by omega
      go_wp2
      go_ret
      exact ⟨_, rfl, by rw [List.take_of_length_le (by rw [be_length]; exact Nat.le_refl _)] at hown; exact hown, hbel⟩
theorem Bytes_own (a : Nat) (k : Int) (w : World) (ha : a < 18446744073709551616) :
    Calls Try.prog 26 #[.int .u64 (a : Int), .int .i64 k] w (OwnMade w (wn k) (be a (wn k))) :=
  (Bytes_any a k w ha).mono fun e w' ⟨v, he, hown, hb⟩ => by
    obtain ⟨A, c, rfl, hr, _⟩ := RB.of_own hown
    exact ⟨A, c, he, hr, hown, hb⟩
end Go.Proofs.Ytcofkdcjcckdfaa
