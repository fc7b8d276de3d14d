/- The walk of the law HmacEmpty. Condition: the table holds FIPS 180-4's constants. -/
import Derived.Test.YtjjpflnnklealaaDoorHmW
import Derived.Test.YtjjpflnnklealaaDoorHel
import Derived.Deep.RegionHeld3
namespace Go.Proofs.YtjjpflnnklealaaDoor
set_option linter.unusedVariables false
open Go.RowKit

/-- What stands in each world of the last region: the digest that was stored, and all that was there. -/
def Emp (w W : World) (g : Nat) (A B C : Option Addr) (n c m d f : Nat) (k l D : List UInt8) : Prop :=
  W.rangeAt g 0 (bv D) ∧ RB W A n c k ∧ RB W B m d l ∧ RB W C (n + 1) f (k ++ [0]) ∧ Tab W ∧ Below w.heap.size w W
theorem Emp.keep {w W W' : World} {g : Nat} {A B C : Option Addr} {n c m d f : Nat} {k l D : List UInt8} (h : W.rangeAt g 0 (bv D) ∧ Emp w W g A B C n c m d f k l D) (hb : Below W.heap.size W W') : W'.rangeAt g 0 (bv D) ∧ Emp w W' g A B C n c m d f k l D := by
  obtain ⟨h1, _, h2, h3, h4, h5, h6⟩ := h
  have h7 : W'.rangeAt g 0 (bv D) := fun j v hv => by
    have := h1 j v hv
    exact (hb.cell (World.block_lt_of_cell? W _ this)).trans this
  exact ⟨h7, h7, h2.below hb, h3.below hb, h4.below hb, h5.below hb, below_trans h6 hb⟩

set_option maxRecDepth 8000 in
set_option maxHeartbeats 1600000 in
theorem HEmpty_any (A B : Option Addr) (n c m d : Nat) (k l : List UInt8) (w : World) (hk : RB w A n c k) (h : RB w B m d l) (hT : Tab w) :
    Calls Tryd.prog 6 #[.slice A n c, .slice B m d] w (Held w) := by
  have hmx := h.max
  have hcp := h.cap
  have hmd := hk.max
  have hcd := hk.cap
  by_cases hm : 300 < n
  · go_enter Tryd.func6, Tryd.ntmps6
    go_wp2_with (go_at_call 7; refine (hwakes_any _ hT).mono ?_; rintro e w1 ⟨rfl, hb1⟩)
    go_ret
    exact ⟨rfl, hb1⟩
  by_cases hn : 300 < m
  · go_enter Tryd.func6, Tryd.ntmps6
    go_wp2_with (go_at_call 7; refine (hwakes_any _ hT).mono ?_; rintro e w1 ⟨rfl, hb1⟩)
    go_ret
    exact ⟨rfl, hb1⟩
  · have HHL := Lib.hid (hm_length k l)
    have HKN := Lib.hid hk.len
    go_enter Tryd.func6, Tryd.ntmps6
    go_wp2_with fail
    refine (hwakes_any _ hT).mono ?_
    rintro e w1 ⟨rfl, b1⟩
    have h1 := h.below b1
    have k1 := hk.below b1
    have t1 := hT.below b1
    clear h hT hk
    go_wp2_with (first
      | (go_at_call 8; refine (hmac_one rfl k1 h1 (by omega) (by omega) t1).mono ?_; rintro e w6 ⟨rfl, b6⟩
         have h6 := h1.below b6
         have k6 := k1.below b6
         have t6 := t1.below b6
         have b7 := below_trans b1 b6
         clear h1 k1 t1 b1 b6)
      | ((with_reducible refine wpList_here ?_); refine wpList_zerosA rfl 24 rfl 32 zero32 _ rfl ?_; intro w8 z8 b8 s8)
      | ((with_reducible refine wpList_here ?_); refine wpList_storeA rfl 24 (.tmp 5) (.tmp 20) rfl w6.heap.size 32 _ (Go.Proofs.YtjjpflnnklealaaDoor.hm k l) rfl rfl z8 HHL.out info32 ?_; intro w9 z9 g9 s9
         have b9 := below_g b8 g9 b8.size (Nat.le_refl _)
         have h9 := h6.below b9
         have k9 := k6.below b9
         have t9 := t6.below b9
         have b10 := below_trans b7 b9
         clear h6 k6 t6 b7 b8 g9 z8 s8 s9 b9)
      | (at_builtin; refine wpList_app_lit rfl (.tmp 21) (.tmp 22) 22 5 rfl Tryd.underlying22 infoByte rfl A n c k rfl k9 (by omega) ?_; intro A2 c2 w11 r11 o11 b11)
      | (at_builtin; refine wpList_app_more (W := w9) rfl (.tmp 23) (.tmp 24) 22 5 rfl Tryd.underlying22 infoByte _ n k rfl (o11.alloc _) (b11.alloc b11.size _) _ 1 1 [0] rfl (RB.lit1 w11 0 0 _ rfl) (by omega) ?_; intro A3 c3 w12 r12 o12 b12
         have h12 := h9.below b12
         have k12 := k9.below b12
         have t12 := t9.below b12
         have z12 := z9.below b12
         have b13 := below_trans b10 b12
         clear h9 k9 t9 z9 b10 b12 r11 o11 b11 o12))
    have HE := Lib.hid (fun W => hm_same W k l)
    have HZ : Hid (n < 64 → Go.Proofs.YtjjpflnnklealaaDoor.hm (k ++ [0]) l = Go.Proofs.YtjjpflnnklealaaDoor.hm k l) := Lib.hid (fun hlt => hm_zeros k l 1 (by rw [HKN.out]; omega))
    generalize hD : Go.Proofs.YtjjpflnnklealaaDoor.hm k l = D at *
    have HD := Lib.hid hD
    clear hD
    have heq := HE.out
    have s0 : (w12.drew).rangeAt w6.heap.size 0 (bv D) ∧ Emp w w12.drew w6.heap.size A B A3 n c m d c3 k l D := ⟨z12.list HHL.out, z12.list HHL.out, k12, h12, r12, t12, b13.drew⟩
    have hl : ∀ W : World, W.rangeAt w6.heap.size 0 (bv D) → (Instr.loadAt 24 (.pointer (some ⟨w6.heap.size, 0, none⟩))).run Tryd.prog W = .ok (.agg (bv D).toArray) W := fun W hr => run_loadAt_mid W w6.heap.size 0 24 (bv D) (.array 32 5) hr Tryd.underlying24 rfl (by rw [bv_length, HHL.out]; exact info32)
    have s12 : w12.rangeAt w6.heap.size 0 (bv D) ∧ Emp w w12 w6.heap.size A B A3 n c m d c3 k l D := ⟨z12.list HHL.out, z12.list HHL.out, k12, h12, r12, t12, b13⟩
    have HS := Lib.hid s12
    clear z12 k12 h12 r12 t12 b13 s12
    have be := below_a w12 (.cells #[] 5)
    have hsz : (w12.alloc (.cells #[] 5)).heap.size = w12.heap.size + 1 := by simp
    have HC : Hid (Calls Tryd.prog 8 _ _ _) := Lib.hid (hmac_three_d (t := 22) (C := none) (f := 0) (D := some ⟨w12.heap.size, 0, none⟩) (q := 0) hsz.symm (HS.out.2.2.1.below be) (RB.zero _ _ (Nat.zero_le _)) (HS.out.2.2.2.1.below be) (RB.zero _ _ (Nat.zero_le _)) (by omega) (by omega) (HS.out.2.2.2.2.2.1.below be))
    rw [HD.out] at HC
    by_cases hlt : 64 ≤ n
    · have hd : (64 : Int) ≤ (n : Int) := by omega
      have hdd : decide ((64 : Int) ≤ (n : Int)) = true := decide_eq_true hd
      have t1 : (w12.alloc (.cells #[] 5)).drew.rangeAt w6.heap.size 0 (bv D) ∧ Emp w (w12.alloc (.cells #[] 5)).drew w6.heap.size A B A3 n c m d c3 k l D := Emp.keep HS.out be.drew
      refine wp_region_noPanic ?_
      refine wp_region_held_drew (S := fun W => W.rangeAt w6.heap.size 0 (bv D) ∧ Emp w W w6.heap.size A B A3 n c m d c3 k l D) (by kernel_rfl) s0 (fun _ => ?_)
      refine held_take (i := 0) (v := .slice A n c) (some 26) rfl rfl (by kernel_rfl) (by kernel_rfl) (by kernel_rfl) (fun _ _ _ h => h) (Or.inl ⟨by rfl, fun W _ => by go_simp⟩) s0 ?_
      simp only [Act.put, List.setIfInBounds_toArray, List.set_cons_zero, List.set_cons_succ]
      refine held_take (i := 1) (v := .slice B m d) (some 27) rfl rfl (by kernel_rfl) (by kernel_rfl) (by kernel_rfl) (fun _ _ _ h => h) (Or.inl ⟨by rfl, fun W _ => by go_simp⟩) s0 ?_
      simp only [Act.put, List.setIfInBounds_toArray, List.set_cons_zero, List.set_cons_succ]
      refine held_take (i := 5) (v := .agg (bv D).toArray) (some 31) rfl rfl (by kernel_rfl) (by kernel_rfl) (by kernel_rfl) (fun _ _ _ h => h) (yieldsIf_load_mid (by rfl) _ _ rfl w6.heap.size 0 rfl (bv D) (.array 32 5) (fun W h => h.1) Tryd.underlying24 rfl (by rw [bv_length, HHL.out]; exact info32)) s0 ?_
      simp only [Act.put, List.setIfInBounds_toArray, List.set_cons_zero, List.set_cons_succ]
      refine wpAnyH_ready (rs := [2]) (by kernel_rfl) (by simp) ?_
      refine AllReadyH.cons rfl (fun K hK => ?_) AllReadyH.nil
      go_simp
      refine hK.out _ _ t1 (fun _ => ?_)
      clear hK
      have t2 : (((w12.alloc (.cells #[] 5)).alloc (.cells #[.slice none 0 0, .slice B m d, .slice (some ⟨w12.heap.size, 0, none⟩) 0 0] 22)).drew).rangeAt w6.heap.size 0 (bv D) ∧ Emp w (((w12.alloc (.cells #[] 5)).alloc (.cells #[.slice none 0 0, .slice B m d, .slice (some ⟨w12.heap.size, 0, none⟩) 0 0] 22)).drew) w6.heap.size A B A3 n c m d c3 k l D := Emp.keep HS.out ((be.alloc (by simp) _).drew)
      refine wpAnyH_ready (rs := [3]) (by kernel_rfl) (by simp) ?_
      refine AllReadyH.cons rfl (fun K hK => ?_) AllReadyH.nil
      go_simp
      refine hK.out _ _ t2 (fun _ => ?_)
      clear hK
      refine wpAnyH_ready (rs := [4]) (by kernel_rfl) (by simp) ?_
      refine AllReadyH.cons rfl (fun K hK => ?_) AllReadyH.nil
      go_simp
      refine HC.out.mono ?_
      rintro e w14 ⟨rfl, b14⟩
      have s14 := Emp.keep HS.out (below_trans be b14)
      dsimp only
      refine hK.out _ _ s14 (fun _ => ?_)
      clear hK
      refine held_take (i := 6) (v := .bool true) (some 32) rfl rfl (by kernel_rfl) (by kernel_rfl) (by kernel_rfl) (fun _ _ _ h => h) (Or.inl ⟨by rfl, fun W _ => by go_simp⟩) s14 ?_
      simp only [Act.put, List.setIfInBounds_toArray, List.set_cons_zero, List.set_cons_succ]
      refine held_take (i := 7) (v := .bool true) (some 33) rfl rfl (by kernel_rfl) (by kernel_rfl) (by kernel_rfl) (fun _ _ _ h => h) (Or.inl ⟨by rfl, fun W _ => by go_simp⟩) s14 ?_
      simp only [Act.put, List.setIfInBounds_toArray, List.set_cons_zero, List.set_cons_succ]
      refine held_take (i := 8) (v := .slice A n c) (some 34) rfl rfl (by kernel_rfl) (by kernel_rfl) (by kernel_rfl) (fun _ _ _ h => h) (Or.inl ⟨by rfl, fun W _ => by go_simp⟩) s14 ?_
      simp only [Act.put, List.setIfInBounds_toArray, List.set_cons_zero, List.set_cons_succ]
      refine held_take (i := 9) (v := .int .i64 (n : Int)) (some 35) rfl rfl (by kernel_rfl) (by kernel_rfl) (by kernel_rfl) (fun _ _ _ h => h) (Or.inl ⟨by rfl, fun W _ => by go_simp⟩) s14 ?_
      simp only [Act.put, List.setIfInBounds_toArray, List.set_cons_zero, List.set_cons_succ]
      refine held_take (i := 10) (v := .bool true) (some 36) rfl rfl (by kernel_rfl) (by kernel_rfl) (by kernel_rfl) (fun _ _ _ h => h) (Or.inl ⟨by rfl, fun W _ => by go_simp⟩) s14 ?_
      simp only [Act.put, List.setIfInBounds_toArray, List.set_cons_zero, List.set_cons_succ]
      refine held_take (i := 11) (v := .bool true) (some 37) rfl rfl (by kernel_rfl) (by kernel_rfl) (by kernel_rfl) (fun _ _ _ h => h) (Or.inl ⟨by rfl, fun W _ => by go_simp⟩) s14 ?_
      simp only [Act.put, List.setIfInBounds_toArray, List.set_cons_zero, List.set_cons_succ]
      refine held_take (i := 12) (v := undef) (some 38) rfl rfl (by kernel_rfl) (by kernel_rfl) (by kernel_rfl) (fun _ _ _ h => h) (Or.inr ⟨by rfl, rfl⟩) s14 ?_
      simp only [Act.put, List.setIfInBounds_toArray, List.set_cons_zero, List.set_cons_succ]
      refine held_take (i := 13) (v := undef) (some 39) rfl rfl (by kernel_rfl) (by kernel_rfl) (by kernel_rfl) (fun _ _ _ h => h) (Or.inr ⟨by rfl, rfl⟩) s14 ?_
      simp only [Act.put, List.setIfInBounds_toArray, List.set_cons_zero, List.set_cons_succ]
      refine held_take (i := 16) (v := undef) (some 42) rfl rfl (by kernel_rfl) (by kernel_rfl) (by kernel_rfl) (fun _ _ _ h => h) (Or.inr ⟨by rfl, rfl⟩) s14 ?_
      simp only [Act.put, List.setIfInBounds_toArray, List.set_cons_zero, List.set_cons_succ]
      refine held_take (i := 14) (v := undef) (some 40) rfl rfl (by kernel_rfl) (by kernel_rfl) (by kernel_rfl) (fun _ _ _ h => h) (Or.inr ⟨by rfl, rfl⟩) s14 ?_
      simp only [Act.put, List.setIfInBounds_toArray, List.set_cons_zero, List.set_cons_succ]
      refine held_take (i := 15) (v := undef) (some 41) rfl rfl (by kernel_rfl) (by kernel_rfl) (by kernel_rfl) (fun _ _ _ h => h) (Or.inr ⟨by rfl, rfl⟩) s14 ?_
      simp only [Act.put, List.setIfInBounds_toArray, List.set_cons_zero, List.set_cons_succ]
      refine held_take (i := 17) (v := undef) (some 43) rfl rfl (by kernel_rfl) (by kernel_rfl) (by kernel_rfl) (fun _ _ _ h => h) (Or.inr ⟨by rfl, rfl⟩) s14 ?_
      simp only [Act.put, List.setIfInBounds_toArray, List.set_cons_zero, List.set_cons_succ]
      refine held_take (i := 18) (v := .bool true) (some 44) rfl rfl (by kernel_rfl) (by kernel_rfl) (by kernel_rfl) (fun _ _ _ h => h) (Or.inl ⟨by rfl, fun W _ => by go_simp⟩) s14 ?_
      simp only [Act.put, List.setIfInBounds_toArray, List.set_cons_zero, List.set_cons_succ]
      refine held_take (i := 19) (v := .bool true) (some 45) rfl rfl (by kernel_rfl) (by kernel_rfl) (by kernel_rfl) (fun _ _ _ h => h) (Or.inl ⟨by rfl, fun W _ => by go_simp⟩) s14 ?_
      simp only [Act.put, List.setIfInBounds_toArray, List.set_cons_zero, List.set_cons_succ]
      refine held_take (i := 20) (v := .bool true) (some 4) rfl rfl (by kernel_rfl) (by kernel_rfl) (by kernel_rfl) (fun _ _ _ h => h) (Or.inl ⟨by rfl, fun W _ => by go_simp⟩) s14 ?_
      simp only [Act.put, List.setIfInBounds_toArray, List.set_cons_zero, List.set_cons_succ]
      refine wpAnyH_done (by kernel_rfl) ?_ _
      refine NoPanic.normal ?_
      have hf := s14.2.2.2.2.2.2
      go_wp2_with fail
      go_ret
      exact ⟨rfl, hf⟩
    · have hd : ¬ ((64 : Int) ≤ (n : Int)) := by omega
      have hdd : decide ((64 : Int) ≤ (n : Int)) = false := decide_eq_false hd
      have HZ2 := Lib.hid (HZ.out (by omega))
      have t1 : (w12.alloc (.cells #[] 5)).drew.rangeAt w6.heap.size 0 (bv D) ∧ Emp w (w12.alloc (.cells #[] 5)).drew w6.heap.size A B A3 n c m d c3 k l D := Emp.keep HS.out be.drew
      refine wp_region_noPanic ?_
      refine wp_region_held_drew (S := fun W => W.rangeAt w6.heap.size 0 (bv D) ∧ Emp w W w6.heap.size A B A3 n c m d c3 k l D) (by kernel_rfl) s0 (fun _ => ?_)
      refine held_take (i := 0) (v := .slice A n c) (some 26) rfl rfl (by kernel_rfl) (by kernel_rfl) (by kernel_rfl) (fun _ _ _ h => h) (Or.inl ⟨by rfl, fun W _ => by go_simp⟩) s0 ?_
      simp only [Act.put, List.setIfInBounds_toArray, List.set_cons_zero, List.set_cons_succ]
      refine held_take (i := 1) (v := .slice B m d) (some 27) rfl rfl (by kernel_rfl) (by kernel_rfl) (by kernel_rfl) (fun _ _ _ h => h) (Or.inl ⟨by rfl, fun W _ => by go_simp⟩) s0 ?_
      simp only [Act.put, List.setIfInBounds_toArray, List.set_cons_zero, List.set_cons_succ]
      refine held_take (i := 5) (v := .agg (bv D).toArray) (some 31) rfl rfl (by kernel_rfl) (by kernel_rfl) (by kernel_rfl) (fun _ _ _ h => h) (yieldsIf_load_mid (by rfl) _ _ rfl w6.heap.size 0 rfl (bv D) (.array 32 5) (fun W h => h.1) Tryd.underlying24 rfl (by rw [bv_length, HHL.out]; exact info32)) s0 ?_
      simp only [Act.put, List.setIfInBounds_toArray, List.set_cons_zero, List.set_cons_succ]
      refine wpAnyH_ready (rs := [2]) (by kernel_rfl) (by simp) ?_
      refine AllReadyH.cons rfl (fun K hK => ?_) AllReadyH.nil
      go_simp
      refine hK.out _ _ t1 (fun _ => ?_)
      clear hK
      have t2 : (((w12.alloc (.cells #[] 5)).alloc (.cells #[.slice none 0 0, .slice B m d, .slice (some ⟨w12.heap.size, 0, none⟩) 0 0] 22)).drew).rangeAt w6.heap.size 0 (bv D) ∧ Emp w (((w12.alloc (.cells #[] 5)).alloc (.cells #[.slice none 0 0, .slice B m d, .slice (some ⟨w12.heap.size, 0, none⟩) 0 0] 22)).drew) w6.heap.size A B A3 n c m d c3 k l D := Emp.keep HS.out ((be.alloc (by simp) _).drew)
      refine wpAnyH_ready (rs := [3]) (by kernel_rfl) (by simp) ?_
      refine AllReadyH.cons rfl (fun K hK => ?_) AllReadyH.nil
      go_simp
      refine hK.out _ _ t2 (fun _ => ?_)
      clear hK
      refine wpAnyH_ready (rs := [4]) (by kernel_rfl) (by simp) ?_
      refine AllReadyH.cons rfl (fun K hK => ?_) AllReadyH.nil
      go_simp
      refine HC.out.mono ?_
      rintro e w14 ⟨rfl, b14⟩
      have s14 := Emp.keep HS.out (below_trans be b14)
      dsimp only
      refine hK.out _ _ s14 (fun _ => ?_)
      clear hK
      refine held_take (i := 6) (v := .bool true) (some 32) rfl rfl (by kernel_rfl) (by kernel_rfl) (by kernel_rfl) (fun _ _ _ h => h) (Or.inl ⟨by rfl, fun W _ => by go_simp⟩) s14 ?_
      simp only [Act.put, List.setIfInBounds_toArray, List.set_cons_zero, List.set_cons_succ]
      refine held_take (i := 7) (v := .bool true) (some 33) rfl rfl (by kernel_rfl) (by kernel_rfl) (by kernel_rfl) (fun _ _ _ h => h) (Or.inl ⟨by rfl, fun W _ => by go_simp⟩) s14 ?_
      simp only [Act.put, List.setIfInBounds_toArray, List.set_cons_zero, List.set_cons_succ]
      refine held_take (i := 8) (v := .slice A n c) (some 34) rfl rfl (by kernel_rfl) (by kernel_rfl) (by kernel_rfl) (fun _ _ _ h => h) (Or.inl ⟨by rfl, fun W _ => by go_simp⟩) s14 ?_
      simp only [Act.put, List.setIfInBounds_toArray, List.set_cons_zero, List.set_cons_succ]
      refine held_take (i := 9) (v := .int .i64 (n : Int)) (some 35) rfl rfl (by kernel_rfl) (by kernel_rfl) (by kernel_rfl) (fun _ _ _ h => h) (Or.inl ⟨by rfl, fun W _ => by go_simp⟩) s14 ?_
      simp only [Act.put, List.setIfInBounds_toArray, List.set_cons_zero, List.set_cons_succ]
      refine held_take (i := 10) (v := .bool false) (some 36) rfl rfl (by kernel_rfl) (by kernel_rfl) (by kernel_rfl) (fun _ _ _ h => h) (Or.inl ⟨by rfl, fun W _ => by go_simp⟩) s14 ?_
      simp only [Act.put, List.setIfInBounds_toArray, List.set_cons_zero, List.set_cons_succ]
      refine held_take (i := 11) (v := .bool false) (some 37) rfl rfl (by kernel_rfl) (by kernel_rfl) (by kernel_rfl) (fun _ _ _ h => h) (Or.inl ⟨by rfl, fun W _ => by go_simp⟩) s14 ?_
      simp only [Act.put, List.setIfInBounds_toArray, List.set_cons_zero, List.set_cons_succ]
      refine held_take (i := 12) (v := .slice A3 (n + 1) c3) (some 38) rfl rfl (by kernel_rfl) (by kernel_rfl) (by kernel_rfl) (fun _ _ _ h => h) (Or.inl ⟨by rfl, fun W _ => by go_simp⟩) s14 ?_
      simp only [Act.put, List.setIfInBounds_toArray, List.set_cons_zero, List.set_cons_succ]
      refine held_take (i := 13) (v := .slice B m d) (some 39) rfl rfl (by kernel_rfl) (by kernel_rfl) (by kernel_rfl) (fun _ _ _ h => h) (Or.inl ⟨by rfl, fun W _ => by go_simp⟩) s14 ?_
      simp only [Act.put, List.setIfInBounds_toArray, List.set_cons_zero, List.set_cons_succ]
      refine held_take (i := 16) (v := .agg (bv D).toArray) (some 42) rfl rfl (by kernel_rfl) (by kernel_rfl) (by kernel_rfl) (fun _ _ _ h => h) (yieldsIf_load_mid (by rfl) _ _ rfl w6.heap.size 0 rfl (bv D) (.array 32 5) (fun W h => h.1) Tryd.underlying24 rfl (by rw [bv_length, HHL.out]; exact info32)) s14 ?_
      simp only [Act.put, List.setIfInBounds_toArray, List.set_cons_zero, List.set_cons_succ]
      have t3 := Emp.keep s14 (below_a w14 (.cells #[.slice B m d] 22))
      refine wpAnyH_ready (rs := [14]) (by kernel_rfl) (by simp) ?_
      refine AllReadyH.cons rfl (fun K hK => ?_) AllReadyH.nil
      go_simp
      refine hK.out _ _ t3 (fun _ => ?_)
      clear hK
      refine wpAnyH_ready (rs := [15]) (by kernel_rfl) (by simp) ?_
      refine AllReadyH.cons rfl (fun K hK => ?_) AllReadyH.nil
      go_simp
      refine (hmac_one rfl s14.2.2.2.2.1 s14.2.2.2.1 (by omega) (by omega) s14.2.2.2.2.2.1).mono ?_
      rw [HZ2.out]
      rintro e w16 ⟨rfl, b16⟩
      have s16 := Emp.keep s14 b16
      dsimp only
      refine hK.out _ _ s16 (fun _ => ?_)
      clear hK
      refine held_take (i := 17) (v := .bool true) (some 43) rfl rfl (by kernel_rfl) (by kernel_rfl) (by kernel_rfl) (fun _ _ _ h => h) (Or.inl ⟨by rfl, fun W _ => by go_simp⟩) s16 ?_
      simp only [Act.put, List.setIfInBounds_toArray, List.set_cons_zero, List.set_cons_succ]
      refine held_take (i := 18) (v := .bool true) (some 44) rfl rfl (by kernel_rfl) (by kernel_rfl) (by kernel_rfl) (fun _ _ _ h => h) (Or.inl ⟨by rfl, fun W _ => by go_simp⟩) s16 ?_
      simp only [Act.put, List.setIfInBounds_toArray, List.set_cons_zero, List.set_cons_succ]
      refine held_take (i := 19) (v := .bool true) (some 45) rfl rfl (by kernel_rfl) (by kernel_rfl) (by kernel_rfl) (fun _ _ _ h => h) (Or.inl ⟨by rfl, fun W _ => by go_simp⟩) s16 ?_
      simp only [Act.put, List.setIfInBounds_toArray, List.set_cons_zero, List.set_cons_succ]
      refine held_take (i := 20) (v := .bool true) (some 4) rfl rfl (by kernel_rfl) (by kernel_rfl) (by kernel_rfl) (fun _ _ _ h => h) (Or.inl ⟨by rfl, fun W _ => by go_simp⟩) s16 ?_
      simp only [Act.put, List.setIfInBounds_toArray, List.set_cons_zero, List.set_cons_succ]
      refine wpAnyH_done (by kernel_rfl) ?_ _
      refine NoPanic.normal ?_
      have hf := s16.2.2.2.2.2.2
      go_wp2_with fail
      go_ret
      exact ⟨rfl, hf⟩
end Go.Proofs.YtjjpflnnklealaaDoor
