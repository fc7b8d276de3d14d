/- The walk of the law HmacOf. Condition: the table holds FIPS 180-4's constants. -/
import Derived.Test.YtjjpflnnklealaaDoorHmW
import Derived.Test.YtjjpflnnklealaaDoorRefH
namespace Go.Proofs.YtjjpflnnklealaaDoor
set_option linter.unusedVariables false
open Go.RowKit

set_option maxRecDepth 8000 in
set_option maxHeartbeats 1600000 in
theorem HOf_any (A B : Option Addr) (n c m d : Nat) (k l : List UInt8) (w : World) (hk : RB w A n c k) (h : RB w B m d l) (hT : Tab w) :
    Calls Tryd.prog 3 #[.slice A n c, .slice B m d] w (Held w) := by
  have hmx := h.max
  have hcp := h.cap
  have hmd := hk.max
  have hcd := hk.cap
  by_cases hm : 300 < n
  · go_enter Tryd.func3, Tryd.ntmps3
    go_wp2_with (go_at_call 7; refine (hwakes_any _ hT).mono ?_; rintro e w1 ⟨rfl, hb1⟩)
    go_ret
    exact ⟨rfl, hb1⟩
  by_cases hn : 500 < m
  · go_enter Tryd.func3, Tryd.ntmps3
    go_wp2_with (go_at_call 7; refine (hwakes_any _ hT).mono ?_; rintro e w1 ⟨rfl, hb1⟩)
    go_ret
    exact ⟨rfl, hb1⟩
  · have HRF : Hid (∀ W, RB W A n c k → RB W B m d l → Calls Tryd.prog 10 #[.slice A n c, .slice B m d] W (MadeRB W 32 (Go.Proofs.YtjjpflnnklealaaDoor.hm k l))) := Lib.hid (fun W h1 h2 => rh_any A n c k B m d l W h1 h2 (by omega) (by omega))
    have HHL := Lib.hid (hm_length k l)
    go_enter Tryd.func3, Tryd.ntmps3
    go_wp2_with fail
    refine (hwakes_any _ hT).mono ?_
    rintro e w1 ⟨rfl, b1⟩
    have h1 := h.below b1
    have k1 := hk.below b1
    have t1 := hT.below b1
    clear h hT hk
    go_wp2_with (first
      | (at_builtin; refine wpList_app_lit rfl (.tmp 18) (.tmp 19) 22 5 rfl Tryd.underlying22 infoByte rfl A n c k rfl k1 (by omega) ?_; intro A2 c2 w2 r2 o2 b2
         have h2 := h1.below b2
         have k2 := k1.below b2
         have t2 := t1.below b2
         have b3 := below_trans b1 b2
         clear h1 k1 t1 b1 b2 o2)
      | (at_builtin; refine wpList_app_lit rfl (.tmp 21) (.tmp 22) 22 5 rfl Tryd.underlying22 infoByte rfl B m d l rfl h2 (by omega) ?_; intro A4 c4 w4 r4 o4 b4
         have h4 := h2.below b4
         have k4 := k2.below b4
         have t4 := t2.below b4
         have q4 := r2.below b4
         have b5 := below_trans b3 b4
         clear h2 k2 t2 r2 b3 b4 o4)
      | (go_at_call 8; refine (hmac_one rfl q4 r4 (by omega) (by omega) t4).mono ?_; rintro e w6 ⟨rfl, b6⟩
         have h6 := h4.below b6
         have k6 := k4.below b6
         have q6 := q4.below b6
         have r6 := r4.below b6
         have b7 := below_trans b5 b6
         clear h4 k4 t4 q4 r4 b5 b6)
      | ((with_reducible refine wpList_here ?_); refine wpList_zerosA rfl 24 rfl 32 zero32 _ rfl ?_; intro w8 z8 b8 s8)
      | ((with_reducible refine wpList_here ?_); refine wpList_storeA rfl 24 (.tmp 7) (.tmp 27) rfl w6.heap.size 32 _ (Go.Proofs.YtjjpflnnklealaaDoor.hm k l) rfl rfl z8 HHL.out info32 ?_; intro w10 z10 g10 s10
         have b10 := below_g b8 g10 b8.size (Nat.le_refl _)
         have h10 := (h6.below b10).drew
         have k10 := (k6.below b10).drew
         have q10 := (q6.below b10).drew
         have r10 := (r6.below b10).drew
         have d10 := (z10.rb HHL.out (by omega)).drew
         have b11 := (below_trans b7 b10).drew
         clear h6 k6 q6 r6 b7 b8 g10 z10 z8 s8 s10 b10))
    simp only [Act.put, List.setIfInBounds_toArray, List.set_cons_zero, List.set_cons_succ]
    generalize Go.Proofs.YtjjpflnnklealaaDoor.hm k l = D at *
    go_region_with (first
      | (go_at_call 10; refine (HRF.out _ k10 h10).mono ?_; rintro e w5 ⟨A5, c5, rfl, r5, b5⟩)
      | (go_at_call_of 9 (Value.slice A5 32 c5); refine (Same_yes _ _ 32 32 32 c5 _ _ (d10.below b5) r5).mono ?_; rintro e w6 ⟨rfl, b6⟩)
      | (go_at_call_of 9 (Value.slice A2 n c2); refine (Same_yes A2 A n c2 n c _ _ ((q10.below b5).below b6) ((k10.below b5).below b6)).mono ?_; rintro e w7 ⟨rfl, b7⟩)
      | (go_at_call_of 9 (Value.slice A4 m c4); refine (Same_yes A4 B m c4 m d _ _ (((r10.below b5).below b6).below b7) (((h10.below b5).below b6).below b7)).mono ?_; rintro e w8 ⟨rfl, b8⟩))
    all_goals
      have hf := below_trans (below_trans (below_trans (below_trans b11 b5) b6) b7) b8
      clear b5 b6 b7 b8 b11 d10 h10 k10 q10 r10 r5 HRF
      go_wp2_with fail
      go_ret
      exact ⟨rfl, hf⟩
end Go.Proofs.YtjjpflnnklealaaDoor
