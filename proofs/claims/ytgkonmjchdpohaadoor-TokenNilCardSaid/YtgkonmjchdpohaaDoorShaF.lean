/- The contracts of the digest's small functions: rotations, spot, choice, majority. Conditions: a rotation by 1 to 31; a name below 8, a round below 64. -/
import Derived.Test.YtgkonmjchdpohaaDoorBase
import Derived.Test.YtgkonmjchdpohaaDoorInt
import Derived.Test.YtgkonmjchdpohaaDoorShaN
namespace Go.Proofs.YtgkonmjchdpohaaDoor
set_option linter.unusedVariables false
set_option linter.unusedSimpArgs false
open Go.RowKit

theorem rot_amount (k : Nat) (h1 : 1 ≤ k) (h2 : k ≤ 31) : bits .and .u64 (IntKind.u64.wrap (-(k : Int))) 31 = ((32 - k : Nat) : Int) := by
  have e : IntKind.u64.wrap (-(k : Int)) = ((18446744073709551616 - k : Nat) : Int) := by
    simp [IntKind.wrap, IntKind.bits, IntKind.signed]
    omega
  rw [e]
  refine (u64_and_nat (18446744073709551616 - k) 31 (by omega) (by omega)).trans ?_
  rw [show (31 : Nat) = 2 ^ 5 - 1 from rfl, Nat.and_two_pow_sub_one_eq_mod]
  omega

theorem Rot_any (x : UInt32) (k : Nat) (h1 : 1 ≤ k) (h2 : k ≤ 31) (w : World) :
    Calls Tryd.prog 73 #[c32 x, .int .i64 (-(k : Int))] w fun e w' => e = .returned (c32 (rr k x)) ∧ w = w' := by
  have ha := rot_amount k h1 h2
  have hb : IntKind.u64.wrap (32 - ((32 - k : Nat) : Int)) = (k : Int) := by
    rw [IntWalk.u64_in _ (by omega)]; omega
  have HL := Lib.hid (w_shl x (32 - k) (by omega))
  have HR := Lib.hid (w_shr x k (by omega))
  have HE : Hid (rr k x = (x >>> UInt32.ofNat k) ||| (x <<< UInt32.ofNat (32 - k))) := Lib.hid rfl
  have h3 : (32 - k) ≤ 32 := by omega
  have h4 : k ≤ 32 := by omega
  go_enter Tryd.func73, Tryd.ntmps73
  generalize 32 - k = m at *
  go_wp2_with fail
  go_ret
  exact ⟨by rw [HL.out, HR.out, w_or, UInt32.or_comm, ← HE.out]; rfl, rfl⟩

theorem spot_any (i t : Nat) (hi : i < 8) (ht : t < 64) (w : World) :
    Calls Tryd.prog 65 #[.int .i64 (i : Int), .int .i64 (t : Int)] w fun e w' => e = .returned (.int .i64 (((i + 64 - t) % 8 : Nat) : Int)) ∧ w = w' := by
  go_enter Tryd.func65, Tryd.ntmps65
  go_wp2_with fail
  go_ret
  exact ⟨by rw [show ((i : Int) + 64 - (t : Int)) % 8 = (((i + 64 - t) % 8 : Nat) : Int) by omega]; rfl, rfl⟩

theorem w_not' (x : UInt32) : bits .xor .u32 IntKind.u32.max (x.toNat : Int) = ((~~~x).toNat : Int) := by
  have h := w_xor 4294967295 x
  refine (show bits .xor .u32 IntKind.u32.max (x.toNat : Int) = bits .xor .u32 ((4294967295 : UInt32).toNat : Int) (x.toNat : Int) from rfl).trans (h.trans ?_)
  congr 2
theorem choice_any (e f g : UInt32) (w : World) :
    Calls Tryd.prog 66 #[c32 e, c32 f, c32 g] w fun r w' => r = .returned (c32 (ch e f g)) ∧ w = w' := by
  have hsg : IntKind.u32.signed = false := rfl
  go_enter Tryd.func66, Tryd.ntmps66
  go_wp2_with fail
  go_ret
  exact ⟨by rw [w_not', w_and, w_and, w_xor]; rfl, rfl⟩

theorem majority_any (e f g : UInt32) (w : World) :
    Calls Tryd.prog 67 #[c32 e, c32 f, c32 g] w fun r w' => r = .returned (c32 (mj e f g)) ∧ w = w' := by
  go_enter Tryd.func67, Tryd.ntmps67
  go_wp2_with fail
  go_ret
  exact ⟨by rw [w_and, w_and, w_and, w_xor, w_xor]; rfl, rfl⟩

def ints (ks : List Nat) : List Int := ks.map fun (k : Nat) => (k : Int)
/-- The sum of the first j rotations. -/
def rrk (ks : List Nat) (x : UInt32) (j : Nat) : UInt32 := rrs (ks.take j) x
theorem rrk_step (ks : List Nat) (x : UInt32) (j : Nat) (h : j < ks.length) : rrk ks x (j + 1) = rrk ks x j ^^^ rr (ks.getD j 0) x := by
  unfold rrk rrs
  rw [List.take_succ_eq_append_getElem h, List.foldl_append]
  simp [h]
theorem rotated_any (x : UInt32) (A : Option Addr) (n c : Nat) (ks : List Nat) (w : World) (h : RI .i64 w A n c (ints ks)) (hk : ∀ j, j < n → 1 ≤ ks.getD j 0 ∧ ks.getD j 0 ≤ 31) :
    Calls Tryd.prog 64 #[c32 x, .slice A n c] w fun r w' => r = .returned (c32 (rrs ks x)) ∧ w = w' := by
  have hl := h.len
  rw [ints, List.length_map] at hl
  have HK := Lib.hid hk
  have HL := Lib.hid hl
  have hn := h.max
  have hn' := h.cap
  clear hk hl
  go_enter Tryd.func64, Tryd.ntmps64
  go_wp2_with fail
  go_loop [5, 10] (fun s i => ∃ j : Nat, j ≤ n ∧ i = .int .i64 j ∧ s = c32 (rrk ks x j)) (fun _ i => n - (intOf i).toNat)
  case atStart => exact ⟨0, Nat.zero_le _, rfl, rfl⟩
  case round =>
    obtain ⟨j, hj, rfl, rfl⟩ := hrel
    by_cases hlt : j < n
    · obtain ⟨b, o, rfl, hc⟩ := h.at_ hlt
      have hkj := HK.out j hlt
      have HS := Lib.hid (rrk_step ks x j (by rw [HL.out]; exact hlt))
      have hg : (ints ks).getD j 0 = ((ks.getD j 0 : Nat) : Int) := by
        have := HL.out
        simp [ints, List.getD_eq_getElem?_getD, hlt, this]
      rw [hg] at hc
      clear h hg
      generalize ks.getD j 0 = k at *
      generalize rrk ks x j = s at *
      go_wp2_with (go_at_call 73; refine (Rot_any x k hkj.1 hkj.2 _).mono ?_; rintro e w' ⟨rfl, rfl⟩)
      rw [w_xor, ← HS.out]
      go_round
      case rel => exact ⟨j + 1, by omega, by go_num, rfl⟩
      case measure => simp [intOf]; omega
    · obtain rfl : j = n := by omega
      have HA : Hid (rrk ks x j = rrs ks x) := Lib.hid (by unfold rrk; rw [List.take_of_length_le (by rw [HL.out]; exact Nat.le_refl _)])
      go_wp2
      go_ret
      exact ⟨by rw [HA.out]; rfl, rfl⟩
end Go.Proofs.YtgkonmjchdpohaaDoor
