/- The contracts of octet.Take. Condition: the slices hold bytes, at most 2^39 of them. -/
import Derived.Test.YtgkonmjchdpohaaDoorCut
import Derived.Test.YtgkonmjchdpohaaDoorWidO
import Derived.Laws.BitsAllLaws
namespace Go.Proofs.YtgkonmjchdpohaaDoor
set_option linter.unusedVariables false
set_option linter.unusedSimpArgs false
open Go.RowKit

theorem or_byte (x y : Nat) (hx : x ≤ 72057594037927935) (hy : y < 2 ^ 8) : bits .or .u64 ((x : Int) * 256) (y : Int) = ((256 * x + y : Nat) : Int) := by
  have h := u64_or_nat (x * 256) y (by omega) (by omega)
  rw [Int.natCast_mul] at h
  refine h.trans ?_
  have e : x * 256 ||| y = 256 * x + y := by
    rw [show x * 256 = 2 ^ 8 * x from by rw [Nat.mul_comm]]
    exact (Nat.two_pow_add_eq_or_of_lt hy x).symm
  rw [e]

/-- What octet.Take leaves where it takes. -/
def TakeMade (W : World) (x : Nat) (n2 : Nat) (l2 : List UInt8) (e : Ending) (w' : World) : Prop :=
  ∃ A2 c2, e = .returned (.tuple #[.int .u64 (x : Int), .slice A2 n2 c2, .int .i64 0]) ∧ RB w' A2 n2 c2 l2 ∧ Below W.heap.size W w'

set_option maxHeartbeats 800000 in
theorem Take_ok (A : Option Addr) (n c : Nat) (k : Int) (l : List UInt8) (w : World) (h : RB w A n c l) (hk : wn k ≤ n) (ht : n ≤ 549755813888) :
    Calls Tryd.prog 34 #[.slice A n c, .int .i64 k] w (TakeMade w (num (l.take (wn k))) (n - wn k) (l.drop (wn k))) := by
  have hlo := wn_lo k
  have hhi := wn_hi k
  go_enter Tryd.func34, Tryd.ntmps34
  go_wp2_with (first
    | (go_at_call 46; refine (width_any _ _).mono ?_; rintro e w' ⟨rfl, rfl⟩)
    | (go_at_call 45; refine (Cut_ok _ _ _ _ _ _ h hk ht).mono ?_; rintro e w1 ⟨A1, c1, A2, c2, rfl, hr1, hr2, hb1⟩))
  have hl := Lib.hid hr1.len
  have hm := hr1.max
  clear h
  generalize wn k = K at *
  generalize l.take K = d at *
  go_loop [10, 26] (fun x i => ∃ j : Nat, j ≤ K ∧ i = .int .i64 j ∧ x = .int .u64 (num (d.take j) : Nat)) (fun _ i => K - (intOf i).toNat)
  case atStart => exact ⟨0, Nat.zero_le _, rfl, rfl⟩
  case round =>
    obtain ⟨j, hj, rfl, rfl⟩ := hrel
    by_cases hlt : j < K
    · have hb := num_take_seven d j (by omega)
      have hx := (d.getD j 0).toNat_lt
      have HS := Lib.hid (num_step d j (by rw [hl.out]; exact hlt))
      obtain ⟨b, o, rfl, hc⟩ := hr1.at_ hlt
      clear hr1 hr2
      generalize num (d.take j) = x at *
      generalize (d.getD j 0).toNat = y at *
      go_wp2
      go_round
      case rel => exact ⟨j + 1, by omega, by go_num, by rw [HS.out, or_byte x y hb hx]⟩
      case measure => simp [intOf]; omega
    · obtain rfl : j = K := by omega
      have HD := Lib.hid (show d.take j = d from List.take_of_length_le (by rw [hl.out]; exact Nat.le_refl _))
      rw [HD.out]
      go_wp2
      go_ret3
      exact ⟨_, _, rfl, hr2, hb1⟩
theorem Take_few (A : Option Addr) (n c : Nat) (k : Int) (w : World) (hk : n < wn k) :
    Calls Tryd.prog 34 #[.slice A n c, .int .i64 k] w fun e w' => e = .returned (.tuple #[.int .u64 0, .slice none 0 0, .int .i64 3]) ∧ w = w' := by
  go_enter Tryd.func34, Tryd.ntmps34
  go_wp2_with (first
    | (go_at_call 46; refine (width_any _ _).mono ?_; rintro e w' ⟨rfl, rfl⟩)
    | (go_at_call 45; refine (Cut_above _ _ _ _ _ (by omega)).mono ?_; rintro e w1 ⟨rfl, rfl⟩))
  go_ret3
  exact ⟨rfl, rfl⟩

/-- Take, of a number's bytes and what is behind them. -/
theorem Take_at (A : Option Addr) (n c : Nat) (k : Int) (d l : List UInt8) (w : World) (hd : d.length = wn k) (h : RB w A (wn k + n) c (d ++ l)) (ht : n ≤ 1073741824) :
    Calls Tryd.prog 34 #[.slice A (wn k + n) c, .int .i64 k] w (TakeMade w (num d) n l) := by
  have hhi := wn_hi k
  have h1 := Take_ok A (wn k + n) c k (d ++ l) w h (by omega) (by omega)
  rw [List.take_left' hd, List.drop_left' hd, show wn k + n - wn k = n from by omega] at h1
  exact h1
end Go.Proofs.YtgkonmjchdpohaaDoor
