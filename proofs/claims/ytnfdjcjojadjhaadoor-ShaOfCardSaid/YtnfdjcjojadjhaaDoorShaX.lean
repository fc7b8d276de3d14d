/- The walk of the law ShaOf. Condition: the table holds FIPS 180-4's constants. -/
import Derived.Test.YtnfdjcjojadjhaaDoorShaW
import Derived.Test.YtnfdjcjojadjhaaDoorRefD
namespace Go.Proofs.YtnfdjcjojadjhaaDoor
set_option linter.unusedVariables false
open Go.RowKit

set_option maxRecDepth 8000 in
set_option maxHeartbeats 1600000 in
theorem OfLaw_any (A : Option Addr) (n c : Nat) (l : List UInt8) (w : World) (h : RB w A n c l) (hT : Tab w) :
    Calls Tryd.prog 3 #[.slice A n c] w (Held w) := by
  have hmx := h.max
  have hcp := h.cap
  have HL := Lib.hid h.len
  by_cases hn : 1000 < n
  · go_enter Tryd.func3, Tryd.ntmps3
    go_wp2_with (go_at_call 6; refine (wakes_any _ hT).mono ?_; rintro e w1 ⟨rfl, hb1⟩)
    go_ret
    exact ⟨rfl, hb1⟩
  · go_enter Tryd.func3, Tryd.ntmps3
    go_wp2_with fail
    refine (wakes_any _ hT).mono ?_
    rintro e w1 ⟨rfl, hb1⟩
    have h1 := h.below hb1
    have t1 := hT.below hb1
    clear h hT
    go_wp2_with (at_builtin; refine wpList_app_lit rfl (.tmp 10) (.tmp 11) 22 5 rfl Tryd.underlying22 infoByte rfl A n c l rfl h1 (by omega) ?_; intro A2 c2 w2 r2 o2 b2)
    refine (sha_one rfl r2 (by omega) (t1.below b2)).mono ?_
    rintro e w3 ⟨rfl, b3⟩
    have b4 := (below_a w2 _).trans (b3.mono (by simp))
    have h3 := (h1.below b2).below b4
    have r3 := r2.below b4
    have hb3 := below_trans (below_trans hb1 b2) b4
    clear b3 b4 h1 r2 t1 o2 b2 hb1
    have HDG : Hid ((dg l).length = 32) := Lib.hid (dg_length l)
    have HRF := Lib.hid (fun W h => rof_any A n c l W h (by omega))
    generalize dg l = d at *
    have z1 := Arb.zero w3 32 24
    have ht : (w3.alloc (.cells #[.int .u8 0, .int .u8 0, .int .u8 0, .int .u8 0, .int .u8 0, .int .u8 0, .int .u8 0, .int .u8 0, .int .u8 0, .int .u8 0, .int .u8 0, .int .u8 0, .int .u8 0, .int .u8 0, .int .u8 0, .int .u8 0, .int .u8 0, .int .u8 0, .int .u8 0, .int .u8 0, .int .u8 0, .int .u8 0, .int .u8 0, .int .u8 0, .int .u8 0, .int .u8 0, .int .u8 0, .int .u8 0, .int .u8 0, .int .u8 0, .int .u8 0, .int .u8 0] 24)).there w3.heap.size 0 (bv d).length := by
      rw [bv_length, HDG.out]; exact z1.there
    have HI : Hid ((Tryd.prog.info? 24).map (·.size) = some (bv d).toArray.size) := Lib.hid (by
      show _ = some (bv d).length
      rw [bv_length, HDG.out]; exact info32)
    have hR := World.rangeAt_setCells_same _ _ _ _ ht
    have hB := below_setCells w3.heap.size (Nat.le_refl _) (bv d) 0 _ (below_a w3 (.cells #[.int .u8 0, .int .u8 0, .int .u8 0, .int .u8 0, .int .u8 0, .int .u8 0, .int .u8 0, .int .u8 0, .int .u8 0, .int .u8 0, .int .u8 0, .int .u8 0, .int .u8 0, .int .u8 0, .int .u8 0, .int .u8 0, .int .u8 0, .int .u8 0, .int .u8 0, .int .u8 0, .int .u8 0, .int .u8 0, .int .u8 0, .int .u8 0, .int .u8 0, .int .u8 0, .int .u8 0, .int .u8 0, .int .u8 0, .int .u8 0, .int .u8 0, .int .u8 0] 24))
    have HT := Lib.hid ht
    clear ht z1
    go_wp2_with ((with_reducible refine wpList_here ?_); refine wpList_store_mid rfl 24 (.tmp 4) (.tmp 15) rfl w3.heap.size 0 (bv d).toArray rfl rfl HT.out HI.out (all_oneCell_toArray (bv_one _)) ?_; rw [List.toList_toArray]; clear HT; generalize World.setCells _ _ _ _ = w4 at *)
    have q1 := RB.of_range (k := 32) (n := 32) hR (by rw [HDG.out]; exact Nat.le_refl _) (Nat.le_refl _) (by unfold maxLen; omega)
    rw [List.take_of_length_le (by rw [HDG.out]; exact Nat.le_refl _)] at q1
    have h4 := h3.below hB
    have r4 := r3.below hB
    have hb4 := below_trans hb3 hB
    clear h3 r3 hb3 hB hR HI HDG
    have q2 := q1.drew
    have h5 := h4.drew
    have r6 := r4.drew
    have hb5 := hb4.drew
    clear q1 h4 r4 hb4
    go_region_with (first
      | (go_at_call 9; refine (HRF.out _ h5).mono ?_; rintro e w5 ⟨A5, c5, rfl, r5, b5⟩)
      | (go_at_call_of 8 (Value.slice A5 32 c5); refine (Same_yes _ _ 32 32 32 c5 _ _ (q2.below b5) r5).mono ?_; rintro e w6 ⟨rfl, b6⟩)
      | (go_at_call_of 8 (Value.slice A2 n c2); refine (Same_yes A2 A n c2 n c _ _ ((r6.below b5).below b6) ((h5.below b5).below b6)).mono ?_; rintro e w7 ⟨rfl, b7⟩))
    all_goals
      have hf := below_trans (below_trans (below_trans hb5 b5) b6) b7
      clear b5 b6 b7 hb5 q2 h5 r6 r5 HRF
      go_wp2_with fail
      go_ret
      exact ⟨rfl, hf⟩
end Go.Proofs.YtnfdjcjojadjhaaDoor
