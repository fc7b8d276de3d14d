/- The walk of the law OctetPuts: for every slice that holds bytes, every number of 64 bits and every width it returns true, and writes nothing that was there. -/
import Derived.Test.YtjlgedfbnfaohaaStep
namespace Go.Proofs.Ytjlgedfbnfaohaa
set_option linter.unusedVariables false
open Go.RowKit

set_option maxRecDepth 100000 in
set_option maxHeartbeats 1600000 in
theorem Puts_any (A : Option Addr) (n c a : Nat) (k : Int) (l : List UInt8) (w : World) (h : RB w A n c l) (ha : a < 18446744073709551616) :
    Calls Try.prog 3 #[.slice A n c, .int .u64 (a : Int), .int .i64 k] w (Held w) := by
  have hm := h.max
  have hc := h.cap
  by_cases hn : 500 < n
  · go_enter Try.func3, Try.ntmps3
    go_wp2_with (go_at_call 8; refine (wakes_any _).mono ?_; rintro e w1 ⟨rfl, hb1⟩)
    go_ret
    exact ⟨rfl, hb1⟩
  · have hlo := wn_lo k
    have hhi := wn_hi k
    have hdl := Lib.hid (be_length a (wn k))
    go_enter Try.func3, Try.ntmps3
    go_wp2_with (first
      | (go_at_call 8; refine (wakes_any _).mono ?_; rintro e w1 ⟨rfl, hb1⟩; have h1 := h.below hb1; clear h)
      | (at_builtin; refine wpList_app_lit rfl (.tmp 18) (.tmp 19) 22 5 rfl Try.underlying22 infoByte rfl A n c l rfl h1 (by omega) ?_; intro A1 c1 w2 own2 _ hs2; have h2 := h1.below hs2; have hb2 := below_trans hb1 hs2; clear h1 hb1 hs2))
    refine (Put_any A1 n c1 a k l w2 own2 ha (by omega)).mono ?_
    rintro e w3 ⟨A2, c2, rfl, p3, hs3⟩
    have h3 := h2.below hs3
    have own3 := own2.below hs3
    have hb3 := below_trans hb2 hs3
    clear h2 own2 hb2 hs3
    go_wp2_with (at_builtin; refine wpList_app_lit rfl (.tmp 25) (.tmp 26) 22 5 rfl Try.underlying22 infoByte rfl A n c l rfl h3 (by omega) ?_; intro A3 c3 w4 r4 r4o hs4; have h4 := h3.below hs4)
    refine (Bytes_own a k w4 ha).mono ?_
    rintro e w5 ⟨A4, c4, rfl, d5, _, hs5⟩
    have r5o := own_below r4o hs5
    have hs35 := below_trans hs4 hs5
    clear r4 r4o h4 hs4 hs5
    go_wp2_with (at_builtin; refine wpList_app_more rfl (.tmp 27) (.tmp 30) 22 5 rfl Try.underlying22 infoByte _ n l rfl r5o hs35 A4 (wn k) c4 (be a (wn k)) rfl d5 (by omega) ?_; intro A5 c5 w6 q6 _ hs6; have h6 := h3.below hs6; have p6 := p3.below hs6; have own6 := own3.below hs6; have hb6 := below_trans hb3 hs6; clear h3 p3 own3 hb3 hs35 r5o d5 hs6)
    refine (Same_yes _ _ _ _ _ _ _ w6 p6 q6).mono ?_
    rintro e w7 ⟨rfl, hs7⟩
    have h7 := h6.below hs7
    have own7 := own6.below hs7
    have hb7 := below_trans hb6 hs7
    clear p6 q6 h6 own6 hb6 hs7
    go_wp2_with fail
    refine (Same_yes _ _ _ _ _ _ _ w7 own7 h7).mono ?_
    rintro e w8 ⟨rfl, hs8⟩
    have h8 := h7.below hs8
    have hb8 := below_trans hb7 hs8
    clear own7 h7 hb7 hs8
    go_wp2_with fail
    refine (Bytes_own a k w8 ha).mono ?_
    rintro e w9 ⟨A6, c6, rfl, d9, d9o, hs9⟩
    have h9 := h8.below hs9
    go_wp2_with (at_builtin; refine wpList_app_more rfl (.tmp 45) (.tmp 46) 22 5 rfl Try.underlying22 infoByte _ (wn k) (be a (wn k)) rfl d9o hs9 A n c l rfl h9 (by omega) ?_; intro A7 c7 w10 t10 _ hs10; have h10 := h8.below hs10; have hb10 := below_trans hb8 hs10; clear h8 h9 hb8 d9 d9o hs9 hs10)
    refine (Take_at A7 n c7 k (be a (wn k)) l w10 hdl.out t10 (by omega)).mono ?_
    rintro e w11 ⟨A8, c8, rfl, t11, hs11⟩
    have h11 := h10.below hs11
    have hb11 := below_trans hb10 hs11
    clear t10 h10 hb10 hs11
    go_wp2_with fail
    refine (Bytes_own a k w11 ha).mono ?_
    rintro e w12 ⟨A9, c9, rfl, d12, _, hs12⟩
    have h12 := h11.below hs12
    have t12 := t11.below hs12
    have hb12 := below_trans hb11 hs12
    clear t11 h11 hb11 hs12
    go_wp2_with fail
    refine (Number_any _ _ _ _ w12 d12 hhi).mono ?_
    rintro e w' ⟨rfl, rfl⟩
    generalize num (be a (wn k)) = x at *
    go_wp2_with fail
    refine (Same_yes _ _ _ _ _ _ _ w12 t12 h12).mono ?_
    rintro e w13 ⟨rfl, hs13⟩
    have hb13 := below_trans hb12 hs13
    clear d12 t12 h12 hb12 hs13
    go_wp2
    go_ret
    exact ⟨rfl, hb13⟩
end Go.Proofs.Ytjlgedfbnfaohaa
