/- The contracts of the document's own answers of layer 2: its sum, and bytes with their sum. Condition: a slice that holds bytes, at most 2^39 of them. -/
import Derived.Test.YtopjlmigpphmoaaBase
import Derived.Test.YtopjlmigpphmoaaSumN
namespace Go.Proofs.Ytopjlmigpphmoaa
set_option linter.unusedVariables false
open Go.RowKit

/-- The sum of the first 2k bytes. -/
def s2 (l : List UInt8) (k : Nat) : Nat := sm true (l.take (2 * k))
theorem s2_one (l : List UInt8) (k : Nat) (h : 2 * k < l.length) (h' : ¬ 2 * k + 1 < l.length) : s2 l (k + 1) = s2 l k + 256 * (l.getD (2 * k) 0).toNat := by
  have e : l.take (2 * (k + 1)) = l.take (2 * k + 1) := by
    rw [List.take_of_length_le (by omega), List.take_of_length_le (by omega)]
  unfold s2
  rw [e, take_snoc _ _ h, sm_snoc, List.length_take, Nat.min_eq_left (by omega), ev_even (by omega)]
  rfl
theorem s2_two (l : List UInt8) (k : Nat) (h : 2 * k + 1 < l.length) : s2 l (k + 1) = s2 l k + 256 * (l.getD (2 * k) 0).toNat + (l.getD (2 * k + 1) 0).toNat := by
  have e : l.take (2 * (k + 1)) = l.take (2 * k) ++ [l.getD (2 * k) 0] ++ [l.getD (2 * k + 1) 0] := by
    rw [show 2 * (k + 1) = 2 * k + 1 + 1 from by omega, take_snoc _ _ h, take_snoc _ _ (by omega)]
  unfold s2
  have e1 : ev (2 * k) = true := ev_even (by omega)
  have e2 : ev (2 * k + 1) = false := by rw [ev_succ, e1]; rfl
  rw [e, sm_snoc, sm_snoc, List.length_append, List.length_take, Nat.min_eq_left (by omega), List.length_singleton, e1, e2]
  rfl
theorem s2_le (l : List UInt8) (k : Nat) : s2 l k ≤ 65280 * l.length := by
  have h := sm_le true (l.take (2 * k))
  have h2 := List.length_take_le' (2 * k) l
  unfold s2
  omega
theorem s2_all (l : List UInt8) (k : Nat) (h : l.length ≤ 2 * k) : s2 l k = sm true l := by
  unfold s2
  rw [List.take_of_length_le h]

set_option maxHeartbeats 800000 in
theorem ROf_any (A : Option Addr) (n c : Nat) (l : List UInt8) (w : World) (h : RB w A n c l) (ht : n ≤ 1099511627776) :
    Calls Try.prog 11 #[.slice A n c] w fun e w' => e = .returned (.int .u16 (of l : Nat)) ∧ w = w' := by
  have hl := Lib.hid h.len
  have hn := h.max
  have hn' := h.cap
  go_enter Try.func11, Try.ntmps11
  go_wp2_with fail
  go_loop [3, 4] (fun x i => ∃ k : Nat, 2 * k ≤ n + 1 ∧ i = .int .i64 ((2 * k : Nat) : Int) ∧ x = .int .i64 (s2 l k : Nat)) (fun _ i => n + 2 - (intOf i).toNat)
  case atStart => exact ⟨0, by omega, rfl, rfl⟩
  case round =>
    obtain ⟨k, hk, rfl, rfl⟩ := hrel
    have hle := s2_le l k
    rw [hl.out] at hle
    by_cases hlt : 2 * k < n
    · have hx := (l.getD (2 * k) 0).toNat_lt
      obtain ⟨b, o, rfl, hc⟩ := h.at_ hlt
      by_cases hlt2 : 2 * k + 1 < n
      · have hy := (l.getD (2 * k + 1) 0).toNat_lt
        have HS := Lib.hid (s2_two l k (by rw [hl.out]; exact hlt2))
        obtain ⟨b', o', hA, hc'⟩ := h.at_ hlt2
        injection hA with hA
        injection hA with e1 e2
        subst e1 e2
        clear h
        generalize (l.getD (2 * k) 0).toNat = x at *
        generalize (l.getD (2 * k + 1) 0).toNat = y at *
        generalize s2 l k = z at *
        generalize hj : 2 * k = j at *
        have HJ := Lib.hid hj
        clear hj
        go_wp2
        go_round
        case rel => exact ⟨k + 1, by have := HJ.out; omega, by have := HJ.out; rw [show 2 * (k + 1) = j + 2 from by omega]; go_num, by rw [HS.out]; go_num⟩
        case measure => simp [intOf]; omega
      · have HS := Lib.hid (s2_one l k (by rw [hl.out]; exact hlt) (by rw [hl.out]; exact hlt2))
        clear h
        generalize (l.getD (2 * k) 0).toNat = x at *
        generalize s2 l k = z at *
        generalize hj : 2 * k = j at *
        have HJ := Lib.hid hj
        clear hj
        go_wp2
        go_round
        case rel => exact ⟨k + 1, by have := HJ.out; omega, by have := HJ.out; rw [show 2 * (k + 1) = j + 2 from by omega]; go_num, by rw [HS.out]; go_num⟩
        case measure => simp [intOf]; omega
    · have HA := Lib.hid (s2_all l k (by rw [hl.out]; omega))
      generalize s2 l k = z at *
      clear h
      generalize hj : 2 * k = j at *
      clear hj
      go_wp2_with fail
      go_loop [3] (fun t => ∃ y : Nat, y ≤ 71776119061217280 ∧ fo y = fo z ∧ t = .int .i64 (y : Int)) (fun t => (intOf t).toNat)
      case atStart => exact ⟨z, by omega, rfl, rfl⟩
      case round =>
        obtain ⟨y, hy, hf, rfl⟩ := hrel
        have HF := Lib.hid hf
        have HS := Lib.hid (fo_small y)
        have HT := Lib.hid (fo_step y)
        clear hf
        by_cases hlt : 65535 < y
        · go_wp2
          go_round
          case rel => exact ⟨y / 65536 + y % 65536, by omega, by rw [HT.out hlt]; exact HF.out, by go_num⟩
          case measure => simp [intOf]; omega
        · have H1 := Lib.hid (HF.out.symm.trans (HS.out (by omega)))
          go_wp2
          go_ret
          exact ⟨by unfold of; rw [← HA.out, H1.out]; go_num, rfl⟩

theorem rput_eq (l : List UInt8) : sput l = (l ++ pad l) ++ [UInt8.ofNat (of (l ++ pad l) / 256), UInt8.ofNat (of (l ++ pad l) % 256)] := by
  have e : of (l ++ pad l) = of l := of_eq (sm_pad l)
  have h := of_le l
  rw [e]
  unfold sput
  rw [be_two]
  congr 3
  apply UInt8.toNat_inj.1
  rw [UInt8.toNat_ofNat', UInt8.toNat_ofNat']
  omega
theorem RB.lit2 (w : World) (u v : Int) (a b : UInt8) (t : TypeId) (h : u = (a.toNat : Int)) (h' : v = (b.toNat : Int)) : RB (w.alloc (.cells #[.int .u8 u, .int .u8 v] t)) (some ⟨w.heap.size, 0, none⟩) 2 2 [a, b] := by
  subst h h'
  exact RB.lit w [a, b] t (by unfold maxLen; simp)
theorem hi_byte (s : Nat) (h : s ≤ 65535) : (s : Int) / 256 = ((UInt8.ofNat (s / 256)).toNat : Int) := by rw [UInt8.toNat_ofNat']; omega
theorem lo_byte (s : Nat) (h : s ≤ 65535) : (s : Int) % 256 = ((UInt8.ofNat (s % 256)).toNat : Int) := by rw [UInt8.toNat_ofNat']; omega

set_option maxHeartbeats 800000 in
theorem RPut_any (A : Option Addr) (n c m : Nat) (l : List UInt8) (w : World) (h : RB w A n c l) (ht : n ≤ 549755813888) (hm : m = n + n % 2 + 2) :
    Calls Try.prog 13 #[.slice A n c] w (OwnMade w m (sput l)) := by
  have hl := h.len
  have hn := h.max
  have hn' := h.cap
  have HL := Lib.hid hl
  have hob := of_le (l ++ pad l)
  have HR := Lib.hid (rput_eq l)
  have HX := Lib.hid (hi_byte _ hob)
  have HY := Lib.hid (lo_byte _ hob)
  have HM := Lib.hid hm
  clear hl hm
  rcases Nat.mod_two_eq_zero_or_one n with h2 | h2
  · have HP : Hid (pad l = []) := Lib.hid (by unfold pad; rw [HL.out, h2]; rfl)
    rw [HP.out, List.append_nil] at HR hob HX HY
    have hmod : ((n : Int) % 2 == 1) = false := by rw [beq_eq_false_iff_ne]; omega
    have H2 := Lib.hid h2
    clear h2 HP
    go_enter Try.func13, Try.ntmps13
    go_wp2_with (at_builtin; refine wpList_app_nil rfl (.tmp 5) (.tmp 6) 24 5 rfl Try.underlying24 infoByte rfl A n c l rfl h (by omega) ?_; intro A1 c1 w1 r1 o1 b1)
    refine (ROf_any _ _ _ _ _ r1 (by omega)).mono ?_
    rintro e w' ⟨rfl, rfl⟩
    generalize of l = s at *
    go_wp2_with (at_builtin; refine wpList_app_more rfl (.tmp 17) (.tmp 24) 24 5 rfl Try.underlying24 infoByte _ n l rfl (o1.alloc _) (b1.alloc b1.size _) _ 2 2 [UInt8.ofNat (s / 256), UInt8.ofNat (s % 256)] rfl (RB.lit2 _ _ _ _ _ _ HX.out HY.out) (by omega) ?_; intro A2 c2 w2 r2 o2 b2)
    go_ret
    have e : n + 2 = m := by have := HM.out; have := H2.out; omega
    rw [← HR.out, e] at r2 o2
    exact ⟨_, _, by rw [← e]; rfl, r2, o2, b2⟩
  · have HP : Hid (pad l = [0]) := Lib.hid (by unfold pad; rw [HL.out, h2]; rfl)
    rw [HP.out] at HR hob HX HY
    have hmod : ((n : Int) % 2 == 1) = true := by rw [beq_iff_eq]; omega
    have H2 := Lib.hid h2
    clear h2 HP
    go_enter Try.func13, Try.ntmps13
    go_wp2_with (first
      | (at_builtin; refine wpList_app_nil rfl (.tmp 5) (.tmp 6) 24 5 rfl Try.underlying24 infoByte rfl A n c l rfl h (by omega) ?_; intro A1 c1 w1 r1 o1 b1)
      | (at_builtin; refine wpList_app_more rfl (.tmp 12) (.tmp 13) 24 5 rfl Try.underlying24 infoByte _ n l rfl (o1.alloc _) (b1.alloc b1.size _) _ 1 1 [0] rfl (RB.lit1 _ _ _ _ rfl) (by omega) ?_; intro A2 c2 w2 r2 o2 b2))
    refine (ROf_any _ _ _ _ _ r2 (by omega)).mono ?_
    rintro e w' ⟨rfl, rfl⟩
    generalize of (l ++ [0]) = s at *
    go_wp2_with (at_builtin; refine wpList_app_more rfl (.tmp 17) (.tmp 24) 24 5 rfl Try.underlying24 infoByte _ (n + 1) (l ++ [0]) rfl (o2.alloc _) (b2.alloc b2.size _) _ 2 2 [UInt8.ofNat (s / 256), UInt8.ofNat (s % 256)] rfl (RB.lit2 _ _ _ _ _ _ HX.out HY.out) (by omega) ?_; intro A3 c3 w3 r3 o3 b3)
    go_ret
    have e : n + 1 + 2 = m := by have := HM.out; have := H2.out; omega
    rw [← HR.out, e] at r3 o3
    exact ⟨_, _, by rw [← e]; rfl, r3, o3, b3⟩
end Go.Proofs.Ytopjlmigpphmoaa
