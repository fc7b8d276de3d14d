/- The walk of the law OptionGets. Condition: the slice holds bytes. -/
import Derived.Test.YtcofkdcjcckdfaaOptRq
namespace Go.Proofs.Ytcofkdcjcckdfaa
set_option linter.unusedVariables false
set_option linter.unusedSimpArgs false
open Go.RowKit

theorem getR_good (l : List UInt8) : (getR l).1.ok ∧ ((getR l).2.2 = 0 → rightB (getR l).1 = true) ∧ ((getR l).2.2 = 0 ∨ (getR l).2.2 = 3 ∨ (getR l).2.2 = 4) := by
  have hz : (zK 0).ok := zK_ok (by unfold isInt; decide)
  unfold getR
  split
  · exact ⟨hz, fun h => (by cases h), .inr (.inl rfl)⟩
  · have hk : num (l.take 1) < 256 := by
      have h1 := num_few l 1
      omega
    unfold getK
    split
    · exact ⟨hz, fun h => (by cases h), .inr (.inl rfl)⟩
    · split
      · rename_i h
        simp only [Bool.and_eq_true] at h
        exact ⟨prs_ok _ _ _ (zK_ok (by unfold isInt; omega)) (fine_tab _).1, fun _ => h.2, .inl rfl⟩
      · exact ⟨hz, fun h => (by cases h), .inr (.inr rfl)⟩

set_option maxRecDepth 8000 in
set_option maxHeartbeats 1600000 in
theorem Gets_any (A : Option Addr) (n c : Nat) (l : List UInt8) (w : World) (h : RB w A n c l) :
    Calls Try.prog 4 #[.slice A n c] w (Held w) := by
  have hmx := h.max
  have hcp := h.cap
  by_cases hn : 200 < n
  · go_enter Try.func4, Try.ntmps4
    go_wp2_with fail
    refine (wakes_any _).mono ?_
    rintro e w1 ⟨rfl, b1⟩
    go_wp2_with fail
    go_ret
    exact ⟨rfl, b1⟩
  obtain ⟨g1, g2, g3⟩ := getR_good l
  have HG := Lib.hid (fun A' c' W (hW : RB W A' n c' l) => Get_any A' n c' l W hW (by omega))
  have HRG := Lib.hid (fun W (hW : RB W A n c l) => rGet_any A n c l W hW (by omega))
  generalize getR l = R at *
  obtain ⟨P, q, er⟩ := R
  dsimp only at g1 g2 g3
  have HE := Lib.hid (eqO_same P)
  go_enter Try.func4, Try.ntmps4
  go_wp2_with fail
  refine (wakes_any _).mono ?_
  rintro e w1 ⟨rfl, b1⟩
  have h1 := h.below b1
  clear h
  go_wp2_with (at_builtin; refine wpList_app_lit rfl (.tmp 13) (.tmp 14) 24 5 rfl Try.underlying24 infoByte rfl A n c l rfl h1 (by omega) ?_; intro A3 c3 w3 r3 _ b3)
  refine (HG.out A3 c3 w3 r3).mono ?_
  rintro e w4 ⟨A4, c4, rfl, r4, b4⟩
  have h4 := (h1.below b3).below b4
  have b5 := below_trans (below_trans b1 b3) b4
  clear h1 b1 b3 b4 r3 HG
  dsimp only at r4 ⊢
  go_wp2_with (first
    | ((with_reducible refine wpList_here ?_); refine wpList_allocV (o := ⟨some 3, _, _, _, _, _⟩) rfl 31 rfl (zK 0).vals zeroOpt _ rfl ?_; intro w5 z5 d5 s5)
    | ((with_reducible refine wpList_here ?_); refine wpList_storeV rfl 31 (.tmp 3) (.tmp 17) rfl _ _ P.vals rfl rfl z5 rfl (vals_one P) infoOpt ?_; intro w6 z6 g6 s6))
  have d6 := v_below_g d5 g6 d5.size (Nat.le_refl _)
  have h6 := h4.below d6
  have r6 := r4.below d6
  have b6 := below_trans b5 d6
  clear h4 r4 b5 z5 d5 g6 s5 s6 d6
  refine (HRG.out _ h6).mono ?_
  rintro e w7 ⟨A7, c7, rfl, r7, b7⟩
  have z7 := z6.below b7
  have r6' := r6.below b7
  have b8 := below_trans b6 b7
  clear h6 r6 z6 b6 b7 HRG
  dsimp only at r7 ⊢
  go_wp2_with (first
    | ((with_reducible refine wpList_here ?_); refine wpList_allocV (o := ⟨some 6, _, _, _, _, _⟩) rfl 39 rfl (gv (zK 0) (.slice none 0 0) 0) zeroGot _ rfl ?_; intro w8 z8 d8 s8)
    | ((with_reducible refine wpList_here ?_); refine wpList_storeV rfl 39 (.tmp 6) (.tmp 21) rfl _ _ (gv P (.slice A7 q.length c7) er) rfl rfl z8 rfl (gv_one _ _ _ _ _) infoGot ?_; intro w9 z9 g9 s9
       have d9 := v_below_g d8 g9 d8.size (Nat.le_refl _)
       have y9 := z7.below d9
       have k14 := gv_rest z9
       have k15 := gv_err z9
       have r9 := r7.below d9
       have q9 := r6'.below d9
       have b9 := below_trans b8 d9
       clear z8 d8 g9 s8 s9 d9 z7 r7 r6' b8)
    | ((with_reducible refine wpList_here ?_); refine wpList_loadV (o := ⟨some 22, _, _, _, _, _⟩) rfl 31 (.tmp 3) rfl _ _ P.vals rfl y9.range _ Try.underlying31 rfl infoOpt ?_)
    | ((with_reducible refine wpList_here ?_); refine wpList_loadV (o := ⟨some 24, _, _, _, _, _⟩) rfl 31 (.tmp 23) rfl _ _ P.vals rfl (gv_opt z9) _ Try.underlying31 rfl infoOpt ?_)
    | ((with_reducible refine wpList_here ?_); refine wpList_eqO (o := ⟨some 25, _, _, _, _, _⟩) rfl (.tmp 22) (.tmp 24) _ rfl P P rfl rfl ?_; rw [HE.out]))
  refine (Same_yes A4 A7 _ c4 _ c7 q w9 q9 r9).mono ?_
  rintro e w10 ⟨rfl, b10⟩
  have y10 := y9.below b10
  have k15' := (b10.cell (World.block_lt_of_cell? _ _ k15)).trans k15
  have b11 := below_trans b9 b10
  clear y9 z9 k14 k15 r9 q9 b9 b10
  by_cases he : er = 0
  · subst he
    have hr := g2 rfl
    have HR := Lib.hid (fun W => Right_any P W g1)
    rw [hr] at HR
    clear g2 g3 hr
    go_wp2_with (first
      | ((with_reducible refine wpList_here ?_); refine wpList_loadV (o := ⟨some 42, _, _, _, _, _⟩) rfl 31 (.tmp 3) rfl _ _ P.vals rfl y10.range _ Try.underlying31 rfl infoOpt ?_))
    refine (HR.out _).mono ?_
    rintro e w12 ⟨rfl, b12⟩
    have b13 := below_trans b11 b12
    go_wp2_with fail
    go_ret
    exact ⟨rfl, b13⟩
  · have he1 : (er != 0) = true := by simpa using he
    clear g2 g3 he
    go_wp2
    go_ret
    exact ⟨rfl, b11⟩
end Go.Proofs.Ytcofkdcjcckdfaa
