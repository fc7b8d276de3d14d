/- The walk of the law HmacKeys. Condition: the table holds FIPS 180-4's constants. -/
import Derived.Test.YtjjpflnnklealaaDoorHmW
import Derived.Test.YtjjpflnnklealaaDoorHel
namespace Go.Proofs.YtjjpflnnklealaaDoor
set_option linter.unusedVariables false
open Go.RowKit

/-- What stands in each world of the region with the long key: its digest, and all that was there. -/
def Kst (w W : World) (g : Nat) (A B : Option Addr) (n c m d : Nat) (k l : List UInt8) : Prop :=
  RB W (some ⟨g, 0, none⟩) 32 32 (dg k) ∧ RB W A n c k ∧ RB W B m d l ∧ Tab W ∧ Below w.heap.size w W
theorem Kst.keep {w W W' : World} {g : Nat} {A B : Option Addr} {n c m d : Nat} {k l : List UInt8} (h : Kst w W g A B n c m d k l) (hb : Below W.heap.size W W') : Kst w W' g A B n c m d k l :=
  ⟨h.1.below hb, h.2.1.below hb, h.2.2.1.below hb, h.2.2.2.1.below hb, below_trans h.2.2.2.2 hb⟩
/-- The digest with a key of one piece, wherever its list lies. -/
theorem hmac_at {B : Option Addr} {m d : Nat} {k : List UInt8} {A : Option Addr} {n c : Nat} {l : List UInt8} {W : World} {g : Nat} (hc : W.cell? ⟨g, 0, none⟩ = some (.slice A n c)) (hk : RB W B m d k) (h : RB W A n c l) (hml : m ≤ 137438953472) (hn : n ≤ 137438953472) (hT : Tab W) :
    Calls Tryd.prog 8 #[.slice B m d, .slice (some ⟨g, 0, none⟩) 1 1] W fun e w' => e = .returned (.agg (bv (hm k l)).toArray) ∧ Below W.heap.size W w' := by
  have := hmac_any B m d k (some ⟨g, 0, none⟩) 1 1 [l] W hk (Parts.one hc h) hml (by rw [tl_one l n h.len]; exact hn) (by omega) hT
  rw [fl_one] at this
  exact this

set_option maxRecDepth 8000 in
set_option maxHeartbeats 1600000 in
theorem HKeys_any (A B : Option Addr) (n c m d t : Nat) (k l : List UInt8) (w : World) (hk : RB w A n c k) (h : RB w B m d l) (ht : t ≤ 255) (hT : Tab w) :
    Calls Tryd.prog 4 #[.slice A n c, .slice B m d, .int .u8 (t : Int)] w (Held w) := by
  have hmx := h.max
  have hcp := h.cap
  have hmd := hk.max
  have hcd := hk.cap
  by_cases hm : 300 < n
  · go_enter Tryd.func4, Tryd.ntmps4
    go_wp2_with (go_at_call 7; refine (hwakes_any _ hT).mono ?_; rintro e w1 ⟨rfl, hb1⟩)
    go_ret
    exact ⟨rfl, hb1⟩
  by_cases hn : 300 < m
  · go_enter Tryd.func4, Tryd.ntmps4
    go_wp2_with (go_at_call 7; refine (hwakes_any _ hT).mono ?_; rintro e w1 ⟨rfl, hb1⟩)
    go_ret
    exact ⟨rfl, hb1⟩
  have HKN := Lib.hid hk.len
  by_cases hlong : 64 < n
  · have HHL := Lib.hid (dg_length k)
    have HQ : Hid (Go.Proofs.YtjjpflnnklealaaDoor.hm (dg k) l = Go.Proofs.YtjjpflnnklealaaDoor.hm k l) := Lib.hid (hm_long k l (by rw [HKN.out]; exact hlong))
    go_enter Tryd.func4, Tryd.ntmps4
    go_wp2_with fail
    refine (hwakes_any _ hT).mono ?_
    rintro e w1 ⟨rfl, b1⟩
    have h1 := h.below b1
    have k1 := hk.below b1
    have t1 := hT.below b1
    clear h hT hk
    go_wp2_with (first
      | (go_at_call 11; refine (sha_one rfl k1 (by omega) t1).mono ?_; rintro e w6 ⟨rfl, b6'⟩
         have b6 := (below_a w1 _).trans (b6'.mono (by simp))
         have h6 := h1.below b6
         have k6 := k1.below b6
         have t6 := t1.below b6
         have b7 := below_trans b1 b6
         clear h1 k1 t1 b1 b6 b6')
      | ((with_reducible refine wpList_here ?_); refine wpList_zerosA rfl 24 rfl 32 zero32 _ rfl ?_; intro w8 z8 b8 s8)
      | ((with_reducible refine wpList_here ?_); refine wpList_storeA rfl 24 (.tmp 7) (.tmp 24) rfl w6.heap.size 32 _ (dg k) rfl rfl z8 HHL.out info32 ?_; intro w9 z9 g9 s9
         have b9 := below_g b8 g9 b8.size (Nat.le_refl _)
         have s0 : Kst w w9 w6.heap.size A B n c m d k l := ⟨z9.rb HHL.out (by omega), k6.below b9, h6.below b9, t6.below b9, below_trans b7 b9⟩
         clear h6 k6 t6 b7 b8 g9 z8 z9 s8 s9 b9))
    simp only [Act.put, List.setIfInBounds_toArray, List.set_cons_zero, List.set_cons_succ]
    have heq := fun W => hm_same W k l
    have s0d : Kst w w9.drew w6.heap.size A B n c m d k l := s0.keep (Below.refl _ _).drew
    have s1 : Kst w ((w9.alloc (.cells #[.slice B m d] 22)).drew) w6.heap.size A B n c m d k l := s0.keep (below_a w9 _).drew
    have s2 : Kst w (((w9.alloc (.cells #[.slice B m d] 22)).alloc (.cells #[.slice B m d] 22)).drew) w6.heap.size A B n c m d k l := s0.keep (below_a2 w9 _ _).drew
    have c10 : ((w9.alloc (.cells #[.slice B m d] 22)).drew).cell? ⟨w9.heap.size, 0, none⟩ = some (.slice B m d) := cell_new w9 _ 22
    have c20 : (((w9.alloc (.cells #[.slice B m d] 22)).alloc (.cells #[.slice B m d] 22)).drew).cell? ⟨w9.heap.size, 0, none⟩ = some (.slice B m d) := cell_old2 w9 (.cells #[.slice B m d] 22) _ 22
    have c21 : (((w9.alloc (.cells #[.slice B m d] 22)).alloc (.cells #[.slice B m d] 22)).drew).cell? ⟨w9.heap.size + 1, 0, none⟩ = some (.slice B m d) := cell_new2 w9 (.cells #[.slice B m d] 22) _ 22
    refine wp_region_noPanic ?_
    refine wp_region_held_drew (S := fun W => Kst w W w6.heap.size A B n c m d k l) (by kernel_rfl) s0d (fun _ => ?_)
    refine held_take (i := 0) (v := .slice A n c) (some 25) rfl rfl (by kernel_rfl) (by kernel_rfl) (by kernel_rfl) (fun _ _ _ h => h) (Or.inl ⟨by rfl, fun W _ => by go_simp⟩) s0d ?_
    simp only [Act.put, List.setIfInBounds_toArray, List.set_cons_zero, List.set_cons_succ]
    refine held_take (i := 1) (v := .slice B m d) (some 26) rfl rfl (by kernel_rfl) (by kernel_rfl) (by kernel_rfl) (fun _ _ _ h => h) (Or.inl ⟨by rfl, fun W _ => by go_simp⟩) s0d ?_
    simp only [Act.put, List.setIfInBounds_toArray, List.set_cons_zero, List.set_cons_succ]
    refine held_take (i := 4) (v := .slice (some ⟨w6.heap.size, 0, none⟩) 32 32) (some 29) rfl rfl (by kernel_rfl) (by kernel_rfl) (by kernel_rfl) (fun _ _ _ h => h) (Or.inl ⟨by rfl, fun W _ => by go_simp⟩) s0d ?_
    simp only [Act.put, List.setIfInBounds_toArray, List.set_cons_zero, List.set_cons_succ]
    refine held_take (i := 5) (v := .slice B m d) (some 30) rfl rfl (by kernel_rfl) (by kernel_rfl) (by kernel_rfl) (fun _ _ _ h => h) (Or.inl ⟨by rfl, fun W _ => by go_simp⟩) s0d ?_
    simp only [Act.put, List.setIfInBounds_toArray, List.set_cons_zero, List.set_cons_succ]
    refine wpAnyH_ready (rs := [2, 6]) (by kernel_rfl) (by simp) ?_
    refine AllReadyH.cons rfl (fun K hK => ?_) (AllReadyH.cons rfl (fun K hK => ?_) AllReadyH.nil)
    · go_simp
      refine hK.out _ _ s1 (fun _ => ?_)
      clear hK
      refine wpAnyH_ready (rs := [3, 6]) (by kernel_rfl) (by simp) ?_
      refine AllReadyH.cons rfl (fun K hK => ?_) (AllReadyH.cons rfl (fun K hK => ?_) AllReadyH.nil)
      · go_simp
        refine (hmac_at (c10) s1.2.1 s1.2.2.1 (by omega) (by omega) s1.2.2.2.1).mono ?_
        rintro e w10 ⟨rfl, b10⟩
        have s10 := s1.keep b10
        dsimp only
        refine hK.out _ _ s10 (fun _ => ?_)
        clear hK
        have s11 : Kst w (w10.alloc (.cells #[.slice B m d] 22)) w6.heap.size A B n c m d k l := s10.keep (below_a w10 _)
        refine wpAnyH_ready (rs := [6]) (by kernel_rfl) (by simp) ?_
        refine AllReadyH.cons rfl (fun K hK => ?_) AllReadyH.nil
        go_simp
        refine hK.out _ _ s11 (fun _ => ?_)
        clear hK
        refine wpAnyH_ready (rs := [7]) (by kernel_rfl) (by simp) ?_
        refine AllReadyH.cons rfl (fun K hK => ?_) AllReadyH.nil
        go_simp
        refine (hmac_at (cell_new w10 _ _) s11.1 s11.2.2.1 (by omega) (by omega) s11.2.2.2.1).mono ?_
        rw [HQ.out]
        rintro e w12 ⟨rfl, b12⟩
        have s12 := s11.keep b12
        dsimp only
        refine hK.out _ _ s12 (fun _ => ?_)
        clear hK
        refine held_take (i := 8) (v := .bool true) (some 33) rfl rfl (by kernel_rfl) (by kernel_rfl) (by kernel_rfl) (fun _ _ _ h => h) (Or.inl ⟨by rfl, fun W _ => by go_simp⟩) s12 ?_
        simp only [Act.put, List.setIfInBounds_toArray, List.set_cons_zero, List.set_cons_succ]
        refine held_take (i := 9) (v := .bool true) (some 6) rfl rfl (by kernel_rfl) (by kernel_rfl) (by kernel_rfl) (fun _ _ _ h => h) (Or.inl ⟨by rfl, fun W _ => by go_simp⟩) s12 ?_
        simp only [Act.put, List.setIfInBounds_toArray, List.set_cons_zero, List.set_cons_succ]
        refine wpAnyH_done (by kernel_rfl) ?_ _
        refine NoPanic.normal ?_
        have hf := s12.2.2.2.2
        go_wp2_with fail
        go_ret
        exact ⟨rfl, hf⟩
      · go_simp
        refine hK.out _ _ s2 (fun _ => ?_)
        clear hK
        refine wpAnyH_ready (rs := [3]) (by kernel_rfl) (by simp) ?_
        refine AllReadyH.cons rfl (fun K hK => ?_) AllReadyH.nil
        go_simp
        refine (hmac_at (c20) s2.2.1 s2.2.2.1 (by omega) (by omega) s2.2.2.2.1).mono ?_
        rintro e w10 ⟨rfl, b10⟩
        have s10 := s2.keep b10
        dsimp only
        refine hK.out _ _ s10 (fun _ => ?_)
        clear hK
        refine wpAnyH_ready (rs := [7]) (by kernel_rfl) (by simp) ?_
        refine AllReadyH.cons rfl (fun K hK => ?_) AllReadyH.nil
        go_simp
        refine (hmac_at ((b10.cell (World.block_lt_of_cell? _ _ c21)).trans c21) s10.1 s10.2.2.1 (by omega) (by omega) s10.2.2.2.1).mono ?_
        rw [HQ.out]
        rintro e w12 ⟨rfl, b12⟩
        have s12 := s10.keep b12
        dsimp only
        refine hK.out _ _ s12 (fun _ => ?_)
        clear hK
        refine held_take (i := 8) (v := .bool true) (some 33) rfl rfl (by kernel_rfl) (by kernel_rfl) (by kernel_rfl) (fun _ _ _ h => h) (Or.inl ⟨by rfl, fun W _ => by go_simp⟩) s12 ?_
        simp only [Act.put, List.setIfInBounds_toArray, List.set_cons_zero, List.set_cons_succ]
        refine held_take (i := 9) (v := .bool true) (some 6) rfl rfl (by kernel_rfl) (by kernel_rfl) (by kernel_rfl) (fun _ _ _ h => h) (Or.inl ⟨by rfl, fun W _ => by go_simp⟩) s12 ?_
        simp only [Act.put, List.setIfInBounds_toArray, List.set_cons_zero, List.set_cons_succ]
        refine wpAnyH_done (by kernel_rfl) ?_ _
        refine NoPanic.normal ?_
        have hf := s12.2.2.2.2
        go_wp2_with fail
        go_ret
        exact ⟨rfl, hf⟩
    · go_simp
      refine hK.out _ _ s1 (fun _ => ?_)
      clear hK
      refine wpAnyH_ready (rs := [2]) (by kernel_rfl) (by simp) ?_
      refine AllReadyH.cons rfl (fun K hK => ?_) AllReadyH.nil
      go_simp
      refine hK.out _ _ s2 (fun _ => ?_)
      clear hK
      refine wpAnyH_ready (rs := [3]) (by kernel_rfl) (by simp) ?_
      refine AllReadyH.cons rfl (fun K hK => ?_) AllReadyH.nil
      go_simp
      refine (hmac_at (c21) s2.2.1 s2.2.2.1 (by omega) (by omega) s2.2.2.2.1).mono ?_
      rintro e w10 ⟨rfl, b10⟩
      have s10 := s2.keep b10
      dsimp only
      refine hK.out _ _ s10 (fun _ => ?_)
      clear hK
      refine wpAnyH_ready (rs := [7]) (by kernel_rfl) (by simp) ?_
      refine AllReadyH.cons rfl (fun K hK => ?_) AllReadyH.nil
      go_simp
      refine (hmac_at ((b10.cell (World.block_lt_of_cell? _ _ c20)).trans c20) s10.1 s10.2.2.1 (by omega) (by omega) s10.2.2.2.1).mono ?_
      rw [HQ.out]
      rintro e w12 ⟨rfl, b12⟩
      have s12 := s10.keep b12
      dsimp only
      refine hK.out _ _ s12 (fun _ => ?_)
      clear hK
      refine held_take (i := 8) (v := .bool true) (some 33) rfl rfl (by kernel_rfl) (by kernel_rfl) (by kernel_rfl) (fun _ _ _ h => h) (Or.inl ⟨by rfl, fun W _ => by go_simp⟩) s12 ?_
      simp only [Act.put, List.setIfInBounds_toArray, List.set_cons_zero, List.set_cons_succ]
      refine held_take (i := 9) (v := .bool true) (some 6) rfl rfl (by kernel_rfl) (by kernel_rfl) (by kernel_rfl) (fun _ _ _ h => h) (Or.inl ⟨by rfl, fun W _ => by go_simp⟩) s12 ?_
      simp only [Act.put, List.setIfInBounds_toArray, List.set_cons_zero, List.set_cons_succ]
      refine wpAnyH_done (by kernel_rfl) ?_ _
      refine NoPanic.normal ?_
      have hf := s12.2.2.2.2
      go_wp2_with fail
      go_ret
      exact ⟨rfl, hf⟩
  · go_enter Tryd.func4, Tryd.ntmps4
    go_wp2_with fail
    refine (hwakes_any _ hT).mono ?_
    rintro e w1 ⟨rfl, b1⟩
    have h1 := h.below b1
    have k1 := hk.below b1
    have t1 := hT.below b1
    clear h hT hk
    go_wp2_with (at_builtin; refine wpList_app_lit rfl (.tmp 34) (.tmp 35) 22 5 rfl Tryd.underlying22 infoByte rfl A n c k rfl k1 (by omega) ?_; intro A2 c2 w2 r2 o2 b2)
    go_loopw [8, 38] (fun v i wr => ∃ j q A3 c3, j ≤ t ∧ n + q ≤ 64 ∧ i = .int .u8 (j : Nat) ∧ v = .slice A3 (n + q) c3 ∧ wr.ownsRow w1.heap.size 5 1 (.slice A3 (n + q) c3) (n + q) (bv (k ++ List.replicate q 0)) ∧ Below w1.heap.size w1 wr) (fun _ i _ => t - (intOf i).toNat)
    case atStart => exact ⟨0, 0, A2, c2, Nat.zero_le _, by omega, rfl, rfl, by simpa using o2, b2⟩
    case round =>
      obtain ⟨j, q, A3, c3, hj, hq, rfl, rfl, o3, b3⟩ := hrel
      clear o2 b2 r2
      by_cases hlt : j < t
      · by_cases hfull : n + q < 64
        · have HR : Hid (bv (k ++ List.replicate (q + 1) 0) = bv (k ++ List.replicate q 0 ++ [0])) := Lib.hid (by rw [List.replicate_succ', ← List.append_assoc])
          generalize k ++ List.replicate q 0 = x at *
          generalize hg : n + q = p at *
          have HG := Lib.hid hg
          clear hg
          go_wp2_with (at_builtin; refine wpList_app_more (W := w1) rfl (.tmp 43) (.tmp 44) 22 5 rfl Tryd.underlying22 infoByte _ p x rfl (o3.alloc _) (b3.alloc b3.size _) _ 1 1 [0] rfl (RB.lit1 wr 0 0 _ rfl) (by omega) ?_; intro A4 c4 w4 _ o4 b4)
          have HP : Hid (n + (q + 1) = p + 1) := Lib.hid (by have := HG.out; omega)
          go_roundw
          case rel => exact ⟨j + 1, q + 1, A4, c4, by omega, by rw [HP.out]; omega, by go_num, by rw [HP.out], by rw [HP.out, HR.out]; exact o4, b4⟩
          case measure => simp [intOf]; omega
        · go_wp2_with fail
          go_roundw
          case rel => exact ⟨j + 1, q, A3, c3, by omega, by omega, by go_num, rfl, o3, b3⟩
          case measure => simp [intOf]; omega
      · obtain rfl : j = t := by omega
        obtain ⟨A5, c5, hv, r3, _⟩ := RB.of_own o3
        injection hv with e1 _ e3
        subst e1 e3
        have h2 := h1.below b3
        have k2 := k1.below b3
        have t2 := t1.below b3
        have hbb := below_trans b1 b3
        have HQ : Hid (Go.Proofs.YtjjpflnnklealaaDoor.hm (k ++ List.replicate q 0) l = Go.Proofs.YtjjpflnnklealaaDoor.hm k l) := Lib.hid (hm_zeros k l q (by rw [HKN.out]; exact hq))
        have heq := fun W => hm_same W k l
        clear o3 b1 b3 h1 k1 t1
        go_wp2_with fail
        refine (hmac_one rfl k2 h2 (by omega) (by omega) t2).mono ?_
        rintro e w3 ⟨rfl, b4⟩
        have HC2 : Hid (∀ t, Calls Tryd.prog 8 _ _ _) := fun t => hmac_one (g := w3.heap.size) (t := t) rfl (r3.below b4) (h2.below b4) (by omega) (by omega) (t2.below b4)
        rw [HQ.out] at HC2
        have hb4 := below_trans hbb b4
        clear r3 h2 k2 t2 hbb b4
        go_wp2_with fail
        refine (HC2.out _).mono ?_
        rintro e w4 ⟨rfl, b5⟩
        have b6 := below_trans hb4 b5
        clear b5 hb4
        go_wp2_with fail
        go_ret
        exact ⟨rfl, b6⟩
end Go.Proofs.YtjjpflnnklealaaDoor
