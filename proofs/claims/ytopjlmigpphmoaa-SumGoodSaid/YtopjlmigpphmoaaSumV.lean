/- The walks of the laws SumGood and SumChanged: for every argument each returns true, and writes nothing that was there. -/
import Derived.Test.YtopjlmigpphmoaaSumW
namespace Go.Proofs.Ytopjlmigpphmoaa
set_option linter.unusedVariables false
open Go.RowKit

theorem Good_put (A : Option Addr) (m c : Nat) (l : List UInt8) (w : World) (h : RB w A m c (sput l)) (hm : m ≤ 1099511627776) :
    Calls Try.prog 14 #[.slice A m c] w (Yes w) :=
  (Good_any A m c _ w h hm).mono fun e w' hh => by rw [sgood_sput] at hh; exact hh

set_option maxRecDepth 100000 in
set_option maxHeartbeats 1600000 in
theorem GoodLaw_any (A : Option Addr) (n c : Nat) (l : List UInt8) (w : World) (h : RB w A n c l) :
    Calls Try.prog 4 #[.slice A n c] w (Held w) := by
  have hmx := h.max
  have hcp := h.cap
  have HL := Lib.hid h.len
  by_cases hn : 2000 < n
  · go_enter Try.func4, Try.ntmps4
    go_wp2_with (go_at_call 8; refine (wakes_any _).mono ?_; rintro e w1 ⟨rfl, hb1⟩)
    go_ret
    exact ⟨rfl, hb1⟩
  · by_cases h1 : n < 2
    · have HG : Hid (sgood l = false) := Lib.hid (by unfold sgood; rw [HL.out, decide_eq_false (by omega)]; rfl)
      have hd : ¬ (2 : Int) ≤ n := by omega
      go_enter Try.func4, Try.ntmps4
      go_wp2_with fail
      refine (wakes_any _).mono ?_
      rintro e w1 ⟨rfl, hb1⟩
      have r1 := h.below hb1
      clear h
      go_wp2_with fail
      refine (SPut_any A n c (n + n % 2 + 2) l w1 r1 (by omega) rfl).mono ?_
      rintro e w2 ⟨A2, c2, rfl, p2, _, s2⟩
      have r2 := r1.below s2
      have hb2 := below_trans hb1 s2
      clear r1 hb1 s2
      go_wp2_with fail
      refine (Good_put _ _ _ _ w2 p2 (by omega)).mono ?_
      rintro e w3 ⟨rfl, s3⟩
      have r3 := r2.below s3
      have hb3 := below_trans hb2 s3
      clear r2 hb2 s3 p2
      go_wp2_with fail
      refine (Good_any A n c l w3 r3 (by omega)).mono ?_
      rintro e w4 ⟨rfl, s4⟩
      rw [HG.out]
      have hb4 := below_trans hb3 s4
      clear r3 hb3 s4
      go_wp2
      go_ret
      exact ⟨rfl, hb4⟩
    · rcases Nat.mod_two_eq_zero_or_one n with h2 | h2
      · have HG : Hid (sgood l = decide (of l = 0)) := Lib.hid (by unfold sgood; rw [HL.out, decide_eq_true (by omega), decide_eq_true h2]; rfl)
        have hd : (2 : Int) ≤ n := by omega
        have hmod : (n : Int) % 2 = 0 := by omega
        clear h2
        go_enter Try.func4, Try.ntmps4
        go_wp2_with fail
        refine (wakes_any _).mono ?_
        rintro e w1 ⟨rfl, hb1⟩
        have r1 := h.below hb1
        clear h
        go_wp2_with fail
        refine (SPut_any A n c (n + n % 2 + 2) l w1 r1 (by omega) rfl).mono ?_
        rintro e w2 ⟨A2, c2, rfl, p2, _, s2⟩
        have r2 := r1.below s2
        have hb2 := below_trans hb1 s2
        clear r1 hb1 s2
        go_wp2_with fail
        refine (Good_put _ _ _ _ w2 p2 (by omega)).mono ?_
        rintro e w3 ⟨rfl, s3⟩
        have r3 := r2.below s3
        have hb3 := below_trans hb2 s3
        clear r2 hb2 s3 p2
        go_wp2_with fail
        refine (Good_any A n c l w3 r3 (by omega)).mono ?_
        rintro e w4 ⟨rfl, s4⟩
        rw [HG.out]
        have r4 := r3.below s4
        have hb4 := below_trans hb3 s4
        clear r3 hb3 s4 HG
        go_wp2_with fail
        refine (ROf_any A n c l w4 r4 (by omega)).mono ?_
        rintro e w' ⟨rfl, rfl⟩
        have hob := of_le l
        by_cases h0 : of l = 0
        · rw [h0]
          clear h0
          go_wp2
          go_ret
          exact ⟨rfl, hb4⟩
        · generalize of l = s at *
          have hd0 : ((s : Int) == 0) = false := by rw [beq_eq_false_iff_ne]; omega
          have hd1 : decide (s = 0) = false := decide_eq_false h0
          rw [hd1]
          clear h0 hd1
          go_wp2
          go_ret
          exact ⟨rfl, hb4⟩
      · have HG : Hid (sgood l = false) := Lib.hid (by unfold sgood; rw [HL.out, decide_eq_true (by omega), decide_eq_false (by omega)]; rfl)
        have hd : (2 : Int) ≤ n := by omega
        have hmod : (n : Int) % 2 = 1 := by omega
        clear h2
        go_enter Try.func4, Try.ntmps4
        go_wp2_with fail
        refine (wakes_any _).mono ?_
        rintro e w1 ⟨rfl, hb1⟩
        have r1 := h.below hb1
        clear h
        go_wp2_with fail
        refine (SPut_any A n c (n + n % 2 + 2) l w1 r1 (by omega) rfl).mono ?_
        rintro e w2 ⟨A2, c2, rfl, p2, _, s2⟩
        have r2 := r1.below s2
        have hb2 := below_trans hb1 s2
        clear r1 hb1 s2
        go_wp2_with fail
        refine (Good_put _ _ _ _ w2 p2 (by omega)).mono ?_
        rintro e w3 ⟨rfl, s3⟩
        have r3 := r2.below s3
        have hb3 := below_trans hb2 s3
        clear r2 hb2 s3 p2
        go_wp2_with fail
        refine (Good_any A n c l w3 r3 (by omega)).mono ?_
        rintro e w4 ⟨rfl, s4⟩
        rw [HG.out]
        have hb4 := below_trans hb3 s4
        clear r3 hb3 s4
        go_wp2
        go_ret
        exact ⟨rfl, hb4⟩

theorem changed_no (l : List UInt8) (j x y : Nat) (hj : j < (sput l).length) (hx : ((sput l).getD j 0).toNat = x) (hy : 0 < y) (hy' : y < 256) :
    sgood ((sput l).set j (UInt8.ofNat (((x : Int) + (y : Int)) % 256).toNat)) = false := by
  refine sgood_set _ _ _ hj (of_sput l) fun e => ?_
  have h := congrArg UInt8.toNat e
  rw [UInt8.toNat_ofNat', hx] at h
  have := ((sput l).getD j 0).toNat_lt
  omega

set_option maxRecDepth 100000 in
set_option maxHeartbeats 1600000 in
theorem Changed_any (A : Option Addr) (n c a b : Nat) (l : List UInt8) (w : World) (h : RB w A n c l) (ha : a < 65536) (hb : b < 256) :
    Calls Try.prog 5 #[.slice A n c, .int .u16 (a : Int), .int .u8 (b : Int)] w (Held w) := by
  have hmx := h.max
  have hcp := h.cap
  have HL := Lib.hid h.len
  by_cases hn : 2000 < n
  · go_enter Try.func5, Try.ntmps5
    go_wp2_with (go_at_call 8; refine (wakes_any _).mono ?_; rintro e w1 ⟨rfl, hb1⟩)
    go_ret
    exact ⟨rfl, hb1⟩
  · by_cases h0 : b = 0
    · subst h0
      go_enter Try.func5, Try.ntmps5
      go_wp2_with (go_at_call 8; refine (wakes_any _).mono ?_; rintro e w1 ⟨rfl, hb1⟩)
      go_ret
      exact ⟨rfl, hb1⟩
    · have hb0 : ((b : Int) == 0) = false := by rw [beq_eq_false_iff_ne]; omega
      have hbp : 0 < b := by omega
      clear h0
      go_enter Try.func5, Try.ntmps5
      go_wp2_with fail
      refine (wakes_any _).mono ?_
      rintro e w1 ⟨rfl, hb1⟩
      have r1 := h.below hb1
      clear h
      go_wp2_with fail
      refine (SPut_any A n c (n + n % 2 + 2) l w1 r1 (by omega) rfl).mono ?_
      rintro e w2 ⟨A2, c2, rfl, p2, o2, s2⟩
      have hb2 := below_trans hb1 s2
      have hsl := sput_length l
      rw [HL.out] at hsl
      generalize hm : n + n % 2 + 2 = m at *
      have hm0 : 0 < m := by omega
      have hm1 : m ≤ 2003 := by omega
      have hj : a % m < m := Nat.mod_lt _ hm0
      obtain ⟨g, cap, hv, hg, hcap, hcap2, hcell, hfr⟩ := own_at o2 hj
      injection hv with e1 _ e3
      subst e1 e3
      have HO := Lib.hid (fun (x : Int) (hx : 0 ≤ x) (hx' : x < 256) => own_set (j := a % m) o2 hx hx')
      have HB := Lib.hid (fun (u : Value) => hb2.setCell (p := ⟨g, a % m, none⟩) (Nat.le_trans hb1.size hg) u)
      have HC := Lib.hid (changed_no l (a % m) _ b (by rw [hsl]; exact hj) rfl hbp hb)
      have hx := ((sput l).getD (a % m) 0).toNat_lt
      have hmz : ¬ ((m : Int) = 0) := by omega
      have hmod : 0 ≤ (a : Int) % (m : Int) := Int.emod_nonneg _ hmz
      have hmod1 : (a : Int) % (m : Int) < (m : Int) := Int.emod_lt_of_pos _ (by omega)
      have hmod2 : (((a : Int) % (m : Int))).toNat = a % m := rfl
      clear o2 p2 r1 hb1 s2 hsl hm
      generalize ((sput l).getD (a % m) 0).toNat = x at *
      go_wp2_with fail
      have hxx : 0 ≤ ((x : Int) + (b : Int)) % 256 ∧ ((x : Int) + (b : Int)) % 256 < 256 := by omega
      obtain ⟨A4, c4, hv, r4, _⟩ := RB.of_own (HO.out _ hxx.1 hxx.2)
      have hb4 := HB.out (.int .u8 (((x : Int) + (b : Int)) % 256))
      rw [hv]
      refine (Good_any A4 m c4 _ _ r4 (by omega)).mono ?_
      rintro e w5 ⟨rfl, s5⟩
      rw [HC.out]
      have hb5 := below_trans hb4 s5
      clear r4 hb4 s5 HB HO HC
      go_wp2
      go_ret
      exact ⟨rfl, hb5⟩
end Go.Proofs.Ytopjlmigpphmoaa
