/- Contracts of the document's own token and proof. Condition: keys are numbers of 64 bits, nonces of 32. -/
import Derived.Test.YtdgllpcljjhhdaaDoorKeyM
import Derived.Test.YtdgllpcljjhhdaaDoorRefH
import Derived.Test.YtdgllpcljjhhdaaDoorBytR
import Derived.Test.YtdgllpcljjhhdaaDoorNumR
namespace Go.Proofs.YtdgllpcljjhhdaaDoor
set_option linter.unusedVariables false
open Go.RowKit

theorem rwn8 : wn 8 = 8 := rfl
theorem rwn4 : wn 4 = 4 := rfl

set_option maxHeartbeats 800000 in
theorem rtoken_any (k : Nat) (w : World) (hk : k < 18446744073709551616) :
    Calls Tryd.prog 8 #[.int .u64 (k : Int)] w fun e w' => e = .returned (.int .u32 (kt k : Nat)) ∧ Below w.heap.size w w' := by
  have hlt := kt_lt k
  have HK : Hid (kt k = num ((dg (be k 8)).take 4)) := Lib.hid rfl
  go_enter Tryd.func8, Tryd.ntmps8
  go_wp2_with (first
    | (go_at_call 17; refine (Bytes_own k 8 _ hk).mono ?_; rw [rwn8]; rintro e w1 ⟨A1, c1, rfl, r1, _, b1⟩)
    | (go_at_call 16; refine (rof_any A1 8 c1 _ _ r1 (by omega)).mono ?_; rintro e w2 ⟨A2, c2, rfl, r2, b2⟩; have hcp := r2.cap; have hmx := r2.max; have r3 := r2.take (k := 4) (by omega); have b3 := below_trans b1 b2; clear b1 b2 r1 r2)
    | (go_at_call 18; refine (Number_any _ 4 _ _ _ r3 (by omega)).mono ?_; rw [← HK.out]; generalize hx : kt k = x at *; have HX := Lib.hid hx; clear hx; rintro e w4 ⟨rfl, rfl⟩))
  go_ret
  exact ⟨by rw [HX.out]; rfl, b3⟩

set_option maxHeartbeats 1600000 in
theorem rproof_any (own other nonce back : Nat) (w : World) (h1 : own < 18446744073709551616) (h2 : other < 18446744073709551616) (h3 : nonce < 4294967296) (h4 : back < 4294967296) :
    Calls Tryd.prog 10 #[.int .u64 (own : Int), .int .u64 (other : Int), .int .u32 (nonce : Int), .int .u32 (back : Int)] w fun e w' => e = .returned (.int .u64 (kp own other nonce back : Nat)) ∧ Below w.heap.size w w' := by
  have HK : Hid (kp own other nonce back = num ((hm (be own 8 ++ be other 8) (be nonce 4 ++ be back 4)).take 8)) := Lib.hid rfl
  go_enter Tryd.func10, Tryd.ntmps10
  go_wp2_with fail
  refine (Bytes_own own 8 _ h1).mono ?_
  rw [rwn8]
  rintro e w1 ⟨A1, c1, rfl, r1, _, b1⟩
  go_wp2_with (at_builtin; refine wpList_app_nil rfl (.tmp 12) (.tmp 14) 33 5 rfl Tryd.underlying33 infoByte rfl A1 8 c1 _ rfl r1 (by omega) ?_; intro A2 c2 w2 r2 o2 b2)
  clear r1 r2
  refine (Bytes_own other 8 _ h2).mono ?_
  rw [rwn8]
  rintro e w4 ⟨A4, c4, rfl, r4, _, b4⟩
  have o4 := own_below o2 b4
  have b5 := below_trans b2 b4
  clear o2 b4 b2
  go_wp2_with (at_builtin; refine wpList_app_more rfl (.tmp 16) (.tmp 18) 33 5 rfl Tryd.underlying33 infoByte _ 8 _ rfl o4 b5 A4 8 c4 _ rfl r4 (by omega) ?_; intro A6 c6 w6 r6 o6 b6)
  have b7 := below_trans b1 b6
  clear r4 o4 o6 b5 b1 b6
  refine (Bytes_own nonce 4 _ (by omega)).mono ?_
  rw [rwn4]
  rintro e w7 ⟨A7, c7, rfl, r7, _, b8⟩
  have r6' := r6.below b8
  have b9 := below_trans b7 b8
  clear r6 b7 b8
  go_wp2_with (at_builtin; refine wpList_app_nil rfl (.tmp 20) (.tmp 23) 33 5 rfl Tryd.underlying33 infoByte rfl A7 4 c7 _ rfl r7 (by omega) ?_; intro A8 c8 w8 r8 o8 b10)
  clear r7 r8
  refine (Bytes_own back 4 _ (by omega)).mono ?_
  rw [rwn4]
  rintro e w9 ⟨A9, c9, rfl, r9, _, b11⟩
  have o9 := own_below o8 b11
  have b12 := below_trans b10 b11
  clear o8 b10 b11
  go_wp2_with (at_builtin; refine wpList_app_more rfl (.tmp 25) (.tmp 28) 33 5 rfl Tryd.underlying33 infoByte _ 4 _ rfl o9 b12 A9 4 c9 _ rfl r9 (by omega) ?_; intro Aa ca wa ra oa b13)
  have ra' := r6'.below b13
  have b14 := below_trans b9 b13
  clear o9 r9 oa r6' b9 b12 b13
  refine (rh_any A6 16 c6 _ Aa 8 ca _ wa ra' ra (by omega) (by omega)).mono ?_
  rintro e wb ⟨Ab, cb, rfl, rb, b15⟩
  have hcp := rb.cap
  have hmx := rb.max
  have rc := rb.take (k := 8) (by omega)
  have b16 := below_trans b14 b15
  clear ra ra' b14 b15 rb
  go_wp2_with (go_at_call 18; refine (Number_any _ 8 _ _ _ rc (by omega)).mono ?_; rw [← HK.out]; generalize hx : kp own other nonce back = x at *; have HX := Lib.hid hx; clear hx; rintro e w4 ⟨rfl, rfl⟩)
  go_ret
  exact ⟨by rw [HX.out]; rfl, b16⟩
end Go.Proofs.YtdgllpcljjhhdaaDoor
