/- The walk of the law OctetTakes: for every slice that holds bytes, every width and every count it returns true, and writes nothing that was there. -/
import Derived.Test.YtjlgedfbnfaohaaStep
namespace Go.Proofs.Ytjlgedfbnfaohaa
set_option linter.unusedVariables false
open Go.RowKit

/-- Take, in one form: what is known where there are enough. -/
theorem Take_yes (A : Option Addr) (n c : Nat) (k : Int) (l : List UInt8) (w : World) (h : RB w A n c l) (hk : wn k ≤ n) (ht : n ≤ 1073741824) :
    Calls Try.prog 12 #[.slice A n c, .int .i64 k] w (TakeMade w (num (l.take (wn k))) (n - wn k) (l.drop (wn k))) :=
  Take_ok A n c k l w h hk (by omega)

set_option maxRecDepth 100000 in
set_option maxHeartbeats 1600000 in
theorem Takes_few_below (A : Option Addr) (n c : Nat) (k : Int) (m : Int) (l : List UInt8) (w : World) (h : RB w A n c l) (hn : n ≤ 500) (hfew : n < wn k) (hm0 : m < 0) :
    Calls Try.prog 4 #[.slice A n c, .int .i64 k, .int .i64 m] w (Held w) := by
  have hmx := h.max
  have hcp := h.cap
  have hlo := wn_lo k
  have hhi := wn_hi k
  have ht : n ≤ 1073741824 := by omega
  go_enter Try.func4, Try.ntmps4
  go_wp2_with fail
  refine (wakes_any _).mono ?_
  rintro e w1 ⟨rfl, hb1⟩
  have h1 := h.below hb1
  go_wp2_with fail
  refine (Take_few A n c k w1 hfew).mono ?_
  rintro e w' ⟨rfl, rfl⟩
  go_wp2_with fail
  refine (Width_any _ _).mono ?_
  rintro e w' ⟨rfl, rfl⟩
  go_wp2_with fail
  refine (Cut_below A n c m w1 hm0).mono ?_
  rintro e w' ⟨rfl, rfl⟩
  go_wp2
  go_ret
  exact ⟨rfl, hb1⟩

set_option maxRecDepth 100000 in
set_option maxHeartbeats 1600000 in
theorem Takes_few_above (A : Option Addr) (n c : Nat) (k : Int) (m : Int) (l : List UInt8) (w : World) (h : RB w A n c l) (hn : n ≤ 500) (hfew : n < wn k) (hm0 : (n : Int) < m) :
    Calls Try.prog 4 #[.slice A n c, .int .i64 k, .int .i64 m] w (Held w) := by
  have hmx := h.max
  have hcp := h.cap
  have hlo := wn_lo k
  have hhi := wn_hi k
  have ht : n ≤ 1073741824 := by omega
  have hm1 : ¬ m < 0 := by omega
  go_enter Try.func4, Try.ntmps4
  go_wp2_with fail
  refine (wakes_any _).mono ?_
  rintro e w1 ⟨rfl, hb1⟩
  have h1 := h.below hb1
  go_wp2_with fail
  refine (Take_few A n c k w1 hfew).mono ?_
  rintro e w' ⟨rfl, rfl⟩
  go_wp2_with fail
  refine (Width_any _ _).mono ?_
  rintro e w' ⟨rfl, rfl⟩
  go_wp2_with fail
  refine (Cut_above A n c m w1 hm0).mono ?_
  rintro e w' ⟨rfl, rfl⟩
  go_wp2
  go_ret
  exact ⟨rfl, hb1⟩

set_option maxRecDepth 100000 in
set_option maxHeartbeats 1600000 in
theorem Takes_few_ok (A : Option Addr) (n c : Nat) (k : Int) (m : Nat) (l : List UInt8) (w : World) (h : RB w A n c l) (hn : n ≤ 500) (hfew : n < wn k) (hm0 : m ≤ n) :
    Calls Try.prog 4 #[.slice A n c, .int .i64 k, .int .i64 (m : Int)] w (Held w) := by
  have hmx := h.max
  have hcp := h.cap
  have hlo := wn_lo k
  have hhi := wn_hi k
  have ht : n ≤ 1073741824 := by omega
  obtain ⟨A4, hrun4, hr4⟩ := h.from_ hm0
  have ht2 : n ≤ 549755813888 := by omega
  have hm1 : ¬ (m : Int) < 0 := by omega
  go_enter Try.func4, Try.ntmps4
  go_wp2_with fail
  refine (wakes_any _).mono ?_
  rintro e w1 ⟨rfl, hb1⟩
  have h1 := h.below hb1
  go_wp2_with fail
  refine (Take_few A n c k w1 hfew).mono ?_
  rintro e w' ⟨rfl, rfl⟩
  go_wp2_with fail
  refine (Width_any _ _).mono ?_
  rintro e w' ⟨rfl, rfl⟩
  go_wp2_with fail
  refine (Cut_ok A n c m l w1 h1 hm0 ht2).mono ?_
  rintro e w5 ⟨A5, c5, A6, c6, rfl, p5, q5, hs5⟩
  have h5 := h1.below hs5
  have hb5 := below_trans hb1 hs5
  clear h1 hb1 hs5
  go_wp2_with fail
  refine (Same_yes _ _ _ _ _ _ _ w5 p5 (h5.take hm0)).mono ?_
  rintro e w6 ⟨rfl, hs6⟩
  have q6 := q5.below hs6
  have hb6 := below_trans hb5 hs6
  have h6 := hr4.below hb6
  clear p5 q5 hb5 hs6 h5
  go_wp2_with fail
  refine (Same_yes _ _ _ _ _ _ _ w6 q6 h6).mono ?_
  rintro e w7 ⟨rfl, hs7⟩
  have hb7 := below_trans hb6 hs7
  clear q6 h6 hb6 hs7
  go_wp2
  go_ret
  exact ⟨rfl, hb7⟩

set_option maxRecDepth 100000 in
set_option maxHeartbeats 1600000 in
theorem Takes_yes_below (A : Option Addr) (n c : Nat) (k : Int) (m : Int) (l : List UInt8) (w : World) (h : RB w A n c l) (hn : n ≤ 500) (hk : wn k ≤ n) (hm0 : m < 0) :
    Calls Try.prog 4 #[.slice A n c, .int .i64 k, .int .i64 m] w (Held w) := by
  have hmx := h.max
  have hcp := h.cap
  have hlo := wn_lo k
  have hhi := wn_hi k
  have ht : n ≤ 1073741824 := by omega
  obtain ⟨A3, hrun3, hr3⟩ := h.from_ hk
  go_enter Try.func4, Try.ntmps4
  go_wp2_with fail
  refine (wakes_any _).mono ?_
  rintro e w1 ⟨rfl, hb1⟩
  have h1 := h.below hb1
  go_wp2_with fail
  refine (Take_yes A n c k l w1 h1 hk ht).mono ?_
  rintro e w2 ⟨A1, c1, rfl, t2, hs2⟩
  have h2 := h1.below hs2
  have hb2 := below_trans hb1 hs2
  clear h1 hb1 hs2
  go_wp2_with fail
  refine (Width_any _ _).mono ?_
  rintro e w' ⟨rfl, rfl⟩
  go_wp2_with fail
  refine (Number_any _ _ _ _ w2 (h2.take hk) hhi).mono ?_
  rintro e w' ⟨rfl, rfl⟩
  generalize num (l.take (wn k)) = x at *
  go_wp2_with fail
  refine (Same_yes _ _ _ _ _ _ _ w2 t2 (hr3.below hb2)).mono ?_
  rintro e w3 ⟨rfl, hs3⟩
  have h1 := h2.below hs3
  have hb1 := below_trans hb2 hs3
  clear h2 hb2 hs3 t2
  go_wp2_with fail
  refine (Cut_below A n c m w3 hm0).mono ?_
  rintro e w' ⟨rfl, rfl⟩
  go_wp2
  go_ret
  exact ⟨rfl, hb1⟩

set_option maxRecDepth 100000 in
set_option maxHeartbeats 1600000 in
theorem Takes_yes_above (A : Option Addr) (n c : Nat) (k : Int) (m : Int) (l : List UInt8) (w : World) (h : RB w A n c l) (hn : n ≤ 500) (hk : wn k ≤ n) (hm0 : (n : Int) < m) :
    Calls Try.prog 4 #[.slice A n c, .int .i64 k, .int .i64 m] w (Held w) := by
  have hmx := h.max
  have hcp := h.cap
  have hlo := wn_lo k
  have hhi := wn_hi k
  have ht : n ≤ 1073741824 := by omega
  obtain ⟨A3, hrun3, hr3⟩ := h.from_ hk
  have hm1 : ¬ m < 0 := by omega
  go_enter Try.func4, Try.ntmps4
  go_wp2_with fail
  refine (wakes_any _).mono ?_
  rintro e w1 ⟨rfl, hb1⟩
  have h1 := h.below hb1
  go_wp2_with fail
  refine (Take_yes A n c k l w1 h1 hk ht).mono ?_
  rintro e w2 ⟨A1, c1, rfl, t2, hs2⟩
  have h2 := h1.below hs2
  have hb2 := below_trans hb1 hs2
  clear h1 hb1 hs2
  go_wp2_with fail
  refine (Width_any _ _).mono ?_
  rintro e w' ⟨rfl, rfl⟩
  go_wp2_with fail
  refine (Number_any _ _ _ _ w2 (h2.take hk) hhi).mono ?_
  rintro e w' ⟨rfl, rfl⟩
  generalize num (l.take (wn k)) = x at *
  go_wp2_with fail
  refine (Same_yes _ _ _ _ _ _ _ w2 t2 (hr3.below hb2)).mono ?_
  rintro e w3 ⟨rfl, hs3⟩
  have h1 := h2.below hs3
  have hb1 := below_trans hb2 hs3
  clear h2 hb2 hs3 t2
  go_wp2_with fail
  refine (Cut_above A n c m w3 hm0).mono ?_
  rintro e w' ⟨rfl, rfl⟩
  go_wp2
  go_ret
  exact ⟨rfl, hb1⟩

set_option maxRecDepth 100000 in
set_option maxHeartbeats 1600000 in
theorem Takes_yes_ok (A : Option Addr) (n c : Nat) (k : Int) (m : Nat) (l : List UInt8) (w : World) (h : RB w A n c l) (hn : n ≤ 500) (hk : wn k ≤ n) (hm0 : m ≤ n) :
    Calls Try.prog 4 #[.slice A n c, .int .i64 k, .int .i64 (m : Int)] w (Held w) := by
  have hmx := h.max
  have hcp := h.cap
  have hlo := wn_lo k
  have hhi := wn_hi k
  have ht : n ≤ 1073741824 := by omega
  obtain ⟨A3, hrun3, hr3⟩ := h.from_ hk
  obtain ⟨A4, hrun4, hr4⟩ := h.from_ hm0
  have ht2 : n ≤ 549755813888 := by omega
  have hm1 : ¬ (m : Int) < 0 := by omega
  go_enter Try.func4, Try.ntmps4
  go_wp2_with fail
  refine (wakes_any _).mono ?_
  rintro e w1 ⟨rfl, hb1⟩
  have h1 := h.below hb1
  go_wp2_with fail
  refine (Take_yes A n c k l w1 h1 hk ht).mono ?_
  rintro e w2 ⟨A1, c1, rfl, t2, hs2⟩
  have h2 := h1.below hs2
  have hb2 := below_trans hb1 hs2
  clear h1 hb1 hs2
  go_wp2_with fail
  refine (Width_any _ _).mono ?_
  rintro e w' ⟨rfl, rfl⟩
  go_wp2_with fail
  refine (Number_any _ _ _ _ w2 (h2.take hk) hhi).mono ?_
  rintro e w' ⟨rfl, rfl⟩
  generalize num (l.take (wn k)) = x at *
  go_wp2_with fail
  refine (Same_yes _ _ _ _ _ _ _ w2 t2 (hr3.below hb2)).mono ?_
  rintro e w3 ⟨rfl, hs3⟩
  have h1 := h2.below hs3
  have hb1 := below_trans hb2 hs3
  clear h2 hb2 hs3 t2
  go_wp2_with fail
  refine (Cut_ok A n c m l w3 h1 hm0 ht2).mono ?_
  rintro e w5 ⟨A5, c5, A6, c6, rfl, p5, q5, hs5⟩
  have h5 := h1.below hs5
  have hb5 := below_trans hb1 hs5
  clear h1 hb1 hs5
  go_wp2_with fail
  refine (Same_yes _ _ _ _ _ _ _ w5 p5 (h5.take hm0)).mono ?_
  rintro e w6 ⟨rfl, hs6⟩
  have q6 := q5.below hs6
  have hb6 := below_trans hb5 hs6
  have h6 := hr4.below hb6
  clear p5 q5 hb5 hs6 h5
  go_wp2_with fail
  refine (Same_yes _ _ _ _ _ _ _ w6 q6 h6).mono ?_
  rintro e w7 ⟨rfl, hs7⟩
  have hb7 := below_trans hb6 hs7
  clear q6 h6 hb6 hs7
  go_wp2
  go_ret
  exact ⟨rfl, hb7⟩

theorem Takes_any (A : Option Addr) (n c : Nat) (k m : Int) (l : List UInt8) (w : World) (h : RB w A n c l) :
    Calls Try.prog 4 #[.slice A n c, .int .i64 k, .int .i64 m] w (Held w) := by
  have hmx := h.max
  have hcp := h.cap
  by_cases hn : 500 < n
  · go_enter Try.func4, Try.ntmps4
    go_wp2_with (go_at_call 8; refine (wakes_any _).mono ?_; rintro e w1 ⟨rfl, hb1⟩)
    go_ret
    exact ⟨rfl, hb1⟩
  · rcases Nat.lt_or_ge n (wn k) with hf | hf
    · rcases Int.lt_or_le m 0 with h0 | h0
      · exact Takes_few_below A n c k m l w h (by omega) hf h0
      · rcases Int.lt_or_le (n : Int) m with h1 | h1
        · exact Takes_few_above A n c k m l w h (by omega) hf h1
        · obtain ⟨j, rfl⟩ := Int.eq_ofNat_of_zero_le h0
          exact Takes_few_ok A n c k j l w h (by omega) hf (by omega)
    · rcases Int.lt_or_le m 0 with h0 | h0
      · exact Takes_yes_below A n c k m l w h (by omega) hf h0
      · rcases Int.lt_or_le (n : Int) m with h1 | h1
        · exact Takes_yes_above A n c k m l w h (by omega) hf h1
        · obtain ⟨j, rfl⟩ := Int.eq_ofNat_of_zero_le h0
          exact Takes_yes_ok A n c k j l w h (by omega) hf (by omega)
end Go.Proofs.Ytjlgedfbnfaohaa
