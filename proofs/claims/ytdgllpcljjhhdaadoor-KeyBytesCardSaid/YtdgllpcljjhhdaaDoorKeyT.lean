/- Contracts of key.Token and key.Proof. Condition: the table holds FIPS 180-4's constants; keys are numbers of 64 bits, nonces of 32. -/
import Derived.Test.YtdgllpcljjhhdaaDoorKeyF
import Derived.Test.YtdgllpcljjhhdaaDoorKeyM
import Derived.Test.YtdgllpcljjhhdaaDoorHmO
import Derived.Test.YtdgllpcljjhhdaaDoorShaQ
namespace Go.Proofs.YtdgllpcljjhhdaaDoor
set_option linter.unusedVariables false
open Go.RowKit

/-- The digest with a key of one piece in a new list. -/
theorem hmac_at1 {B : Option Addr} {m d : Nat} {k : List UInt8} {A : Option Addr} {n c : Nat} {l : List UInt8} {w : World} {t : TypeId} {g : Nat} (hg : g = w.heap.size) (hk : RB w B m d k) (h : RB w A n c l) (hml : m ≤ 137438953472) (hn : n ≤ 137438953472) (hT : Tab w) :
    Calls Tryd.prog 19 #[.slice B m d, .slice (some ⟨g, 0, none⟩) 1 1] (w.alloc (.cells #[.slice A n c] t)) fun e w' => e = .returned (.agg (bv (hm k l)).toArray) ∧ Below w.heap.size w w' := by
  subst hg
  have hb := below_a w (.cells #[.slice A n c] t)
  have hp : Parts (w.alloc (.cells #[.slice A n c] t)) (some ⟨w.heap.size, 0, none⟩) 1 1 [l] := Parts.one (cell_new w _ t) (h.below hb)
  have e1 : fl [l] 1 = l := by simp [fl]
  have e2 : tl [l] 1 = n := by rw [tl, e1, h.len]
  have := hmac_any B m d k (some ⟨w.heap.size, 0, none⟩) 1 1 [l] _ (hk.below hb) hp hml (by rw [e2]; exact hn) (by omega) (hT.below hb)
  rw [e1] at this
  refine this.mono ?_
  rintro e w' ⟨rfl, b⟩
  exact ⟨rfl, below_trans hb b⟩

theorem wn8 : wn 8 = 8 := rfl
theorem wn4 : wn 4 = 4 := rfl

set_option maxHeartbeats 800000 in
theorem token_any (k : Nat) (w : World) (hk : k < 18446744073709551616) (hT : Tab w) :
    Calls Tryd.prog 7 #[.int .u64 (k : Int)] w fun e w' => e = .returned (.int .u32 (kt k : Nat)) ∧ Below w.heap.size w w' := by
  have hlt := kt_lt k
  have HD := Lib.hid (dg_length (be k 8))
  have HK : Hid (kt k = num ((dg (be k 8)).take 4)) := Lib.hid rfl
  go_enter Tryd.func7, Tryd.ntmps7
  go_wp2_with (first
    | (go_at_call 15; refine (put_one rfl hk wn8).mono ?_; rintro e w1 ⟨A1, c1, rfl, r1, b1⟩; have t1 := hT.below b1; clear hT)
    | (go_at_call 11; refine (sha_one rfl r1 (by omega) t1).mono ?_; rintro e w2 ⟨rfl, b2⟩; have b3 := below_trans (below_trans b1 (below_a w1 _)) b2; clear b1 b2 t1 r1)
    | (go_at_call 14; refine (front_any (dg (be k 8)) HD.out 4 4 (.inl ⟨rfl, rfl⟩) _).mono ?_; rw [← HK.out]; generalize hx : kt k = x at *; have HX := Lib.hid hx; clear hx; rintro e w4 ⟨rfl, b4⟩; have b5 := below_trans b3 b4; clear b3 b4))
  go_ret
  exact ⟨by rw [HX.out]; rfl, b5⟩

set_option maxHeartbeats 800000 in
theorem proof_any (own other nonce back : Nat) (w : World) (h1 : own < 18446744073709551616) (h2 : other < 18446744073709551616) (h3 : nonce < 4294967296) (h4 : back < 4294967296) (hT : Tab w) :
    Calls Tryd.prog 9 #[.int .u64 (own : Int), .int .u64 (other : Int), .int .u32 (nonce : Int), .int .u32 (back : Int)] w fun e w' => e = .returned (.int .u64 (kp own other nonce back : Nat)) ∧ Below w.heap.size w w' := by
  have HD := Lib.hid (hm_length (be own 8 ++ be other 8) (be nonce 4 ++ be back 4))
  have HK : Hid (kp own other nonce back = num ((hm (be own 8 ++ be other 8) (be nonce 4 ++ be back 4)).take 8)) := Lib.hid rfl
  go_enter Tryd.func9, Tryd.ntmps9
  go_wp2_with fail
  refine (put_two rfl h1 h2 wn8).mono ?_
  rintro e w1 ⟨A1, c1, rfl, r1, b1⟩
  go_wp2_with fail
  refine (put_two rfl (by omega) (by omega) wn4).mono ?_
  rintro e w2 ⟨A2, c2, rfl, r2, b2⟩
  have r1' := r1.below b2
  have b3 := below_trans b1 b2
  have t3 := hT.below b3
  clear r1 b1 b2 hT
  go_wp2_with fail
  refine (hmac_at1 rfl r1' r2 (by omega) (by omega) t3).mono ?_
  rintro e w4 ⟨rfl, b4⟩
  have b5 := below_trans b3 b4
  clear b3 b4 t3 r1' r2
  go_wp2_with fail
  refine (front_any _ HD.out 8 8 (.inr ⟨rfl, rfl⟩) _).mono ?_
  rw [← HK.out]
  generalize hx : kp own other nonce back = x at *
  have HX := Lib.hid hx
  clear hx
  rintro e w6 ⟨rfl, b6⟩
  have b7 := below_trans b5 b6
  go_wp2_with fail
  go_ret
  exact ⟨by rw [HX.out]; rfl, b7⟩

theorem kwakes_any (w : World) (hT : Tab w) : Calls Tryd.prog 6 #[] w fun e w' => e = .returned (.bool true) ∧ Below w.heap.size w w' := by
  have h0 := token_any 0 w (by omega) hT
  rw [kt_zero] at h0
  go_enter Tryd.func6, Tryd.ntmps6
  go_wp2_with (go_at_call 7; refine h0.mono ?_; rintro e w1 ⟨rfl, b1⟩)
  go_ret
  exact ⟨rfl, b1⟩
end Go.Proofs.YtdgllpcljjhhdaaDoor
