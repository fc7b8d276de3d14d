/- The contracts of sum.fold and sum.Of. Conditions: the number is one of 64 bits; the pieces hold bytes, at most 2^40 of them. -/
import Derived.Test.YtbbpemndkphgeaaDoorJoin
import Derived.Test.YtbbpemndkphgeaaDoorSumN
import Derived.Laws.BitsAllLaws
namespace Go.Proofs.YtbbpemndkphgeaaDoor
set_option linter.unusedVariables false
open Go.RowKit

theorem and_low (x : Nat) (h : x < 18446744073709551616) : bits .and .u64 (x : Int) 65535 = ((x % 65536 : Nat) : Int) := by
  have h1 := u64_and_nat x 65535 h (by omega)
  refine h1.trans ?_
  rw [show (65535 : Nat) = 2 ^ 16 - 1 from rfl, Nat.and_two_pow_sub_one_eq_mod]

set_option maxHeartbeats 400000 in
theorem fold_any (x : Nat) (w : World) (hx : x < 18446744073709551616) :
    Calls Tryd.prog 59 #[.int .u64 (x : Int)] w fun e w' => e = .returned (.int .u16 (fo x : Nat)) ∧ w = w' := by
  go_enter Tryd.func59, Tryd.ntmps59
  go_wp2_with fail
  go_loop [0] (fun t => ∃ y : Nat, y < 18446744073709551616 ∧ fo y = fo x ∧ t = .int .u64 (y : Int)) (fun t => (intOf t).toNat)
  case atStart => exact ⟨x, hx, rfl, rfl⟩
  case round =>
    obtain ⟨y, hy, hf, rfl⟩ := hrel
    have HF := Lib.hid hf
    have hb := and_low y hy
    have hsm := fo_small y
    have hst := fo_step y
    have HB := Lib.hid hb
    have HS := Lib.hid hsm
    have HT := Lib.hid hst
    clear hf hb hsm hst
    by_cases hlt : 65535 < y
    · go_wp2
      go_round
      case rel => exact ⟨y / 65536 + y % 65536, by omega, by rw [HT.out hlt]; exact HF.out, by rw [HB.out, IntWalk.u64_in _ (by omega)]; go_num⟩
      case measure => rw [HB.out, IntWalk.u64_in _ (by omega)]; simp [intOf]; omega
    · have H1 := Lib.hid (HF.out.symm.trans (HS.out (by omega)))
      go_wp2
      go_ret
      exact ⟨by rw [H1.out]; rfl, rfl⟩

theorem xor_all (x : Nat) (h : x < 65536) : 65535 ^^^ x = 65535 - x := by
  apply Nat.eq_of_testBit_eq
  intro i
  rw [Nat.testBit_xor, show (65535 : Nat) = 2 ^ 16 - 1 from rfl, Nat.testBit_two_pow_sub_one, show 2 ^ 16 - 1 - x = 2 ^ 16 - (x + 1) from by omega, Nat.testBit_two_pow_sub_succ h]
  by_cases hi : i < 16
  · simp [hi]
  · have : x.testBit i = false := Nat.testBit_lt_two_pow (Nat.lt_of_lt_of_le h (Nat.pow_le_pow_right (n := 2) (by decide) (by omega : 16 ≤ i)))
    simp [hi, this]
theorem not_fo (x : Nat) : bits .xor .u16 IntKind.u16.max ((fo x : Nat) : Int) = ((65535 - fo x : Nat) : Int) := by
  have h := fo_le x
  have h1 := u16_xor_nat 65535 (fo x) (by omega) (by omega)
  refine (show bits .xor .u16 IntKind.u16.max ((fo x : Nat) : Int) = bits .xor .u16 ((65535 : Nat) : Int) ((fo x : Nat) : Int) from rfl).trans (h1.trans ?_)
  rw [xor_all _ (by omega)]

/-- The sum of the first k pieces and j bytes more. -/
def part (ps : List (List UInt8)) (k j : Nat) : List UInt8 := fl ps k ++ (ps.getD k []).take j
theorem part_zero (ps : List (List UInt8)) (k : Nat) : part ps k 0 = fl ps k := by simp [part]
theorem part_length (ps : List (List UInt8)) (k j m : Nat) (hm : (ps.getD k []).length = m) (h : j ≤ m) : (part ps k j).length = tl ps k + j := by
  unfold part tl
  rw [List.length_append, List.length_take]
  omega
theorem part_step (ps : List (List UInt8)) (k j m : Nat) (hm : (ps.getD k []).length = m) (h : j < m) : part ps k (j + 1) = part ps k j ++ [(ps.getD k []).getD j 0] := by
  unfold part
  rw [take_snoc _ _ (by omega), List.append_assoc]
theorem part_all (ps : List (List UInt8)) (k m : Nat) (hk : k < ps.length) (hm : (ps.getD k []).length = m) : part ps k m = fl ps (k + 1) := by
  unfold part
  rw [fl_step ps k hk, List.take_of_length_le (by omega)]

/-- The sum so far, and whether the next byte has the higher place. -/
def su (ps : List (List UInt8)) (k j : Nat) : Nat := sm true (part ps k j)
def hi (ps : List (List UInt8)) (k j : Nat) : Bool := ev (part ps k j).length
theorem su_le (ps : List (List UInt8)) (k j m : Nat) (hm : (ps.getD k []).length = m) (h : j ≤ m) : su ps k j ≤ 65280 * (tl ps k + j) := by
  have := sm_le true (part ps k j)
  rw [part_length ps k j m hm h] at this
  exact this
theorem su_high (ps : List (List UInt8)) (k j m : Nat) (hm : (ps.getD k []).length = m) (h : j < m) (hh : hi ps k j = true) : su ps k (j + 1) = su ps k j + 256 * ((ps.getD k []).getD j 0).toNat := by
  unfold su hi at *
  rw [part_step ps k j m hm h, sm_snoc, hh]
  rfl
theorem su_low (ps : List (List UInt8)) (k j m : Nat) (hm : (ps.getD k []).length = m) (h : j < m) (hh : hi ps k j = false) : su ps k (j + 1) = su ps k j + ((ps.getD k []).getD j 0).toNat := by
  unfold su hi at *
  rw [part_step ps k j m hm h, sm_snoc, hh]
  rfl
theorem hi_step (ps : List (List UInt8)) (k j m : Nat) (hm : (ps.getD k []).length = m) (h : j < m) : hi ps k (j + 1) = !hi ps k j := by
  unfold hi
  rw [part_step ps k j m hm h, List.length_append, List.length_singleton, ev_succ]
theorem su_next (ps : List (List UInt8)) (k m : Nat) (hk : k < ps.length) (hm : (ps.getD k []).length = m) : su ps k m = su ps (k + 1) 0 ∧ hi ps k m = hi ps (k + 1) 0 := by
  unfold su hi
  rw [part_all ps k m hk hm, part_zero]
  exact ⟨rfl, rfl⟩

set_option maxHeartbeats 800000 in
theorem Of_any (A : Option Addr) (n c : Nat) (ps : List (List UInt8)) (w : World) (h : Parts w A n c ps) (ht : tl ps n ≤ 1099511627776) :
    Calls Tryd.prog 40 #[.slice A n c] w fun e w' => e = .returned (.int .u16 (of (fl ps n) : Nat)) ∧ w = w' := by
  have hl := Lib.hid h.len
  have hn := h.max
  have hn' := h.cap
  go_enter Tryd.func40, Tryd.ntmps40
  go_wp2_with fail
  go_loop [3, 4, 11] (fun x b i => ∃ k : Nat, k ≤ n ∧ i = .int .i64 k ∧ x = .int .u64 (su ps k 0 : Nat) ∧ b = .bool (hi ps k 0)) (fun _ _ i => n - (intOf i).toNat)
  case atStart => exact ⟨0, Nat.zero_le _, rfl, rfl, rfl⟩
  case round =>
    obtain ⟨k, hk, rfl, rfl, rfl⟩ := hrel
    by_cases hlt : k < n
    · have hT := Nat.le_trans (tl_le ps (k + 1) n hlt) ht
      have hS := tl_step ps k (by rw [hl.out]; exact hlt)
      obtain ⟨b, o, B, m, d, rfl, hc, hr⟩ := h.at_ hlt
      have hm := hr.len
      have HN := Lib.hid (su_next ps k m (by rw [hl.out]; exact hlt) hm)
      rw [hm] at hS
      have HM := Lib.hid hm
      rw [hS] at hT
      clear hS hm
      have hrm := hr.max
      have hrc := hr.cap
      go_wp2_with fail
      go_loop [3, 4, 17] (fun x b i => ∃ j : Nat, j ≤ m ∧ i = .int .i64 j ∧ x = .int .u64 (su ps k j : Nat) ∧ b = .bool (hi ps k j)) (fun _ _ i => m - (intOf i).toNat)
      case atStart => exact ⟨0, Nat.zero_le _, rfl, rfl, rfl⟩
      case round =>
        obtain ⟨j, hj, rfl, rfl, rfl⟩ := hrel
        by_cases hjm : j < m
        · have hle := su_le ps k j m HM.out hj
          have HH := Lib.hid (su_high ps k j m HM.out hjm)
          have HL := Lib.hid (su_low ps k j m HM.out hjm)
          have HE := Lib.hid (hi_step ps k j m HM.out hjm)
          obtain ⟨b', o', rfl, hc'⟩ := hr.at_ hjm
          have hx := ((ps.getD k []).getD j 0).toNat_lt
          clear h hr
          generalize ((ps.getD k []).getD j 0).toNat = y at *
          generalize su ps k j = x at *
          cases hb : hi ps k j with
          | true =>
            rw [hb] at HE HH
            clear hb HL
            go_wp2
            go_round
            case rel => exact ⟨j + 1, by omega, by go_num, by rw [HH.out rfl]; go_num, by rw [HE.out]; rfl⟩
            case measure => simp [intOf]; omega
          | false =>
            rw [hb] at HE HL
            clear hb HH
            go_wp2
            go_round
            case rel => exact ⟨j + 1, by omega, by go_num, by rw [HL.out rfl]; go_num, by rw [HE.out]; rfl⟩
            case measure => simp [intOf]; omega
        · obtain rfl : j = m := by omega
          go_wp2
          go_round
          case rel => exact ⟨k + 1, by omega, by go_num, by rw [HN.out.1], by rw [HN.out.2]⟩
          case measure => simp [intOf]; omega
    · obtain rfl : k = n := by omega
      have hle := su_le ps k 0 _ rfl (Nat.zero_le _)
      have HF := Lib.hid (show su ps k 0 = sm true (fl ps k) by unfold su; rw [part_zero])
      have hx : su ps k 0 < 18446744073709551616 := by omega
      have hsg : IntKind.u16.signed = false := rfl
      rw [HF.out] at hx hle ⊢
      go_wp2_with (go_at_call 59; refine (fold_any _ _ hx).mono ?_; rintro e w' ⟨rfl, rfl⟩)
      go_ret
      exact ⟨by unfold of; rw [← not_fo]; rfl, rfl⟩
end Go.Proofs.YtbbpemndkphgeaaDoor
