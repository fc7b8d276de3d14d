/- The walk of the law OptionKinds. Condition: the slice holds bytes. -/
import Derived.Test.YtcofkdcjcckdfaaOptWc
namespace Go.Proofs.Ytcofkdcjcckdfaa
set_option linter.unusedVariables false
set_option linter.unusedSimpArgs false
open Go.RowKit

theorem prs_kind : ∀ (l : List (Nat × Nat)) (o : Opt) (b : List UInt8), (prs o l b).kind = o.kind
  | [], _, _ => rfl
  | f :: r, o, b => by
    show (prs (o.put f.1 (num (b.take f.2))) r (b.drop f.2)).kind = _
    rw [prs_kind r, put_kind]
theorem getR_cons (x : UInt8) (l : List UInt8) : getR ([x] ++ l) = getK x.toNat l := by
  unfold getR
  rw [if_neg (by simp)]
  have e : num (([x] ++ l).take 1) = x.toNat := by simp [num]
  rw [e]
  rfl
theorem sz_tab {k : Int} (h : sz k = 0) : tab k = [] := by
  unfold sz at h
  split at h
  · rename_i h2; exact List.eq_nil_of_length_eq_zero h2
  · omega
theorem getK_none {k : Nat} (h : sz k = 0) (l : List UInt8) : getK k l = (zK 0, [], 4) := by
  have ht := sz_tab h
  have hr : rightB (zK k) = false := rightB_none ht
  have hlong : long [] = 0 := rfl
  unfold getK
  rw [ht, hlong, if_neg (by omega)]
  have e : prs (zK k) [] (l.take 0) = zK k := rfl
  rw [e, hr, Bool.and_false, if_neg (by simp)]
theorem getK_short {k : Nat} (h : sz k ≠ 0) {l : List UInt8} (hl : l.length + 1 < sz k) : getK k l = (zK 0, [], 3) := by
  rw [sz_pos h] at hl
  unfold getK
  rw [if_pos (by omega)]
theorem getK_long {k : Nat} (h : sz k ≠ 0) {l : List UInt8} (hl : ¬ l.length + 1 < sz k) : getK k l = (zK 0, [], 4) ∨ ∃ P q, getK k l = (P, q, 0) ∧ P.kind = k ∧ q.length + sz k = l.length + 1 := by
  have hs := sz_pos h
  unfold getK
  rw [if_neg (by omega)]
  split
  · refine .inr ⟨_, _, rfl, prs_kind _ _ _, ?_⟩
    rw [List.length_drop]
    omega
  · exact .inl rfl

set_option maxRecDepth 8000 in
set_option maxHeartbeats 1600000 in
theorem Kinds_any (k : Nat) (A : Option Addr) (n c : Nat) (l : List UInt8) (w : World) (hk : k < 256) (h : RB w A n c l) :
    Calls Try.prog 7 #[.int .u8 (k : Int), .slice A n c] w (Held w) := by
  have hmx := h.max
  have hcp := h.cap
  have hlen := h.len
  by_cases hn : 100 < n
  · go_enter Try.func7, Try.ntmps7
    go_wp2_with fail
    refine (wakes_any _).mono ?_
    rintro e w1 ⟨rfl, b1⟩
    go_wp2_with fail
    go_ret
    exact ⟨rfl, b1⟩
  have hkb : (UInt8.ofNat k).toNat = k := by rw [UInt8.toNat_ofNat']; omega
  have HKB : Hid (((UInt8.ofNat k).toNat : Int) = (k : Int)) := Lib.hid (by rw [hkb])
  have HS := Lib.hid (Size_any (k : Int))
  have HE := Lib.hid (eqO_same (zK 0))
  have HG0 : ∀ A3 c3 W, RB W A3 (1 + n) c3 ([UInt8.ofNat k] ++ l) → Calls Try.prog 14 #[.slice A3 (1 + n) c3] W (GetMade W (getK k l)) := fun A3 c3 W hW => by
    have := Get_any A3 (1 + n) c3 _ W hW (by omega)
    rw [getR_cons, hkb] at this
    exact this
  by_cases hs : sz k = 0
  · have HG := Lib.hid HG0
    rw [getK_none hs] at HG
    rw [hs] at HS
    clear HG0 hs hkb hlen
    go_enter Try.func7, Try.ntmps7
    go_wp2_with fail
    refine (wakes_any _).mono ?_
    rintro e w1 ⟨rfl, b1⟩
    have h1 := h.below b1
    clear h
    go_wp2_with (first
      | ((with_reducible refine wpList_here ?_); refine wpList_byte1 (o := ⟨some 15, _, _, _, _, _⟩) rfl (.tmp 14) rfl _ rfl _ rfl ?_; intro w2 e2
         have o2 : w2.ownsRow w1.heap.size 5 1 (.slice (some ⟨w1.heap.size, 0, none⟩) 1 1) 1 (bv [UInt8.ofNat k]) := (by rw [e2, ← HKB.out]; exact World.ownsRow_lit (base := w1.heap.size) (e := 5) (size := 1) w1 #[.int .u8 ((UInt8.ofNat k).toNat : Int)] 1 (Nat.le_refl _) (by unfold maxLen; omega) rfl)
         have b2 : Below w1.heap.size w1 w2 := (by rw [e2]; exact below_a _ _)
         have h2 := h1.below b2
         clear e2 h1)
      | (at_builtin; refine wpList_app _ rfl (.tmp 15) (.tmp 16) 24 5 rfl Try.underlying24 infoByte w1.heap.size _ 1 _ rfl o2 _ n _ l rfl h2 (by omega) b2.size ?_; intro v3 w3 o3 g3 _
         have b3 := below_grown b2 o2 g3
         obtain ⟨A3, c3, rfl, r3, _⟩ := RB.of_own o3
         clear o2 b2 h2 o3 g3))
    refine (HG.out A3 c3 w3 r3).mono ?_
    rintro e w4 ⟨A4, c4, rfl, r4, b4⟩
    have b5 := below_trans (below_trans b1 b3) b4
    clear b1 b3 b4 r3 r4 HG
    dsimp only
    go_wp2_with (first
      | ((with_reducible refine wpList_here ?_); refine wpList_allocV (o := ⟨some 5, _, _, _, _, _⟩) rfl 31 rfl (zK 0).vals zeroOpt _ rfl ?_; intro w5 z5 d5 s5)
      | ((with_reducible refine wpList_here ?_); refine wpList_storeV rfl 31 (.tmp 5) (.tmp 19) rfl _ _ (Opt.vals (zK 0)) rfl rfl z5 rfl (vals_one _) infoOpt ?_; intro w6 z6 g6 s6
         have d6 := v_below_g d5 g6 d5.size (Nat.le_refl _)
         have b6 := below_trans b5 d6
         clear z5 d5 g6 s5 s6 d6 b5))
    refine (HS.out _).mono ?_
    rintro e w7 ⟨rfl, b7⟩
    have z7 := z6.below b7
    have b8 := below_trans b6 b7
    clear z6 b6 b7
    go_wp2_with (first
      | ((with_reducible refine wpList_here ?_); refine wpList_loadV (o := ⟨some 29, _, _, _, _, _⟩) rfl 31 (.tmp 5) rfl _ _ (zK 0).vals rfl z7.range _ Try.underlying31 rfl infoOpt ?_)
      | ((with_reducible refine wpList_here ?_); refine wpList_eqO (o := ⟨some 31, _, _, _, _, _⟩) rfl (.tmp 29) (.tmp 30) _ rfl (zK 0) (zK 0) rfl rfl ?_; rw [HE.out]))
    go_ret
    exact ⟨rfl, b8⟩
  · by_cases hlt : l.length + 1 < sz k
    · have HG := Lib.hid HG0
      rw [getK_short hs hlt] at HG
      rw [hlen] at hlt
      generalize sz (k : Int) = s at *
      have hs1 : ((s : Int) == 0) = false := by rw [beq_eq_false_iff_ne]; omega
      have hs2 : (n : Int) + 1 < (s : Int) := by omega
      clear HG0 hs hkb hlen
      go_enter Try.func7, Try.ntmps7
      go_wp2_with fail
      refine (wakes_any _).mono ?_
      rintro e w1 ⟨rfl, b1⟩
      have h1 := h.below b1
      clear h
      go_wp2_with (first
        | ((with_reducible refine wpList_here ?_); refine wpList_byte1 (o := ⟨some 15, _, _, _, _, _⟩) rfl (.tmp 14) rfl _ rfl _ rfl ?_; intro w2 e2
           have o2 : w2.ownsRow w1.heap.size 5 1 (.slice (some ⟨w1.heap.size, 0, none⟩) 1 1) 1 (bv [UInt8.ofNat k]) := (by rw [e2, ← HKB.out]; exact World.ownsRow_lit (base := w1.heap.size) (e := 5) (size := 1) w1 #[.int .u8 ((UInt8.ofNat k).toNat : Int)] 1 (Nat.le_refl _) (by unfold maxLen; omega) rfl)
           have b2 : Below w1.heap.size w1 w2 := (by rw [e2]; exact below_a _ _)
           have h2 := h1.below b2
           clear e2 h1)
        | (at_builtin; refine wpList_app _ rfl (.tmp 15) (.tmp 16) 24 5 rfl Try.underlying24 infoByte w1.heap.size _ 1 _ rfl o2 _ n _ l rfl h2 (by omega) b2.size ?_; intro v3 w3 o3 g3 _
           have b3 := below_grown b2 o2 g3
           obtain ⟨A3, c3, rfl, r3, _⟩ := RB.of_own o3
           clear o2 b2 h2 o3 g3))
      refine (HG.out A3 c3 w3 r3).mono ?_
      rintro e w4 ⟨A4, c4, rfl, r4, b4⟩
      have b5 := below_trans (below_trans b1 b3) b4
      clear b1 b3 b4 r3 r4 HG
      dsimp only
      go_wp2_with (first
        | ((with_reducible refine wpList_here ?_); refine wpList_allocV (o := ⟨some 5, _, _, _, _, _⟩) rfl 31 rfl (zK 0).vals zeroOpt _ rfl ?_; intro w5 z5 d5 s5)
        | ((with_reducible refine wpList_here ?_); refine wpList_storeV rfl 31 (.tmp 5) (.tmp 19) rfl _ _ (Opt.vals (zK 0)) rfl rfl z5 rfl (vals_one _) infoOpt ?_; intro w6 z6 g6 s6
           have d6 := v_below_g d5 g6 d5.size (Nat.le_refl _)
           have b6 := below_trans b5 d6
           clear z5 d5 g6 s5 s6 d6 b5))
      refine (HS.out _).mono ?_
      rintro e w7 ⟨rfl, b7⟩
      have z7 := z6.below b7
      have b8 := below_trans b6 b7
      clear z6 b6 b7
      go_wp2_with fail
      refine (HS.out _).mono ?_
      rintro e w9 ⟨rfl, b9⟩
      have b10 := below_trans b8 b9
      clear z7 b8 b9
      go_wp2_with fail
      go_ret
      exact ⟨rfl, b10⟩
    · rcases getK_long hs hlt with hg | ⟨P, q, hg, hPK, hq⟩
      · have HG := Lib.hid HG0
        rw [hg] at HG
        rw [hlen] at hlt
        generalize sz (k : Int) = s at *
        have hs1 : ((s : Int) == 0) = false := by rw [beq_eq_false_iff_ne]; omega
        have hs2 : ¬ (n : Int) + 1 < (s : Int) := by omega
        clear HG0 hs hkb hlen hg
        go_enter Try.func7, Try.ntmps7
        go_wp2_with fail
        refine (wakes_any _).mono ?_
        rintro e w1 ⟨rfl, b1⟩
        have h1 := h.below b1
        clear h
        go_wp2_with (first
          | ((with_reducible refine wpList_here ?_); refine wpList_byte1 (o := ⟨some 15, _, _, _, _, _⟩) rfl (.tmp 14) rfl _ rfl _ rfl ?_; intro w2 e2
             have o2 : w2.ownsRow w1.heap.size 5 1 (.slice (some ⟨w1.heap.size, 0, none⟩) 1 1) 1 (bv [UInt8.ofNat k]) := (by rw [e2, ← HKB.out]; exact World.ownsRow_lit (base := w1.heap.size) (e := 5) (size := 1) w1 #[.int .u8 ((UInt8.ofNat k).toNat : Int)] 1 (Nat.le_refl _) (by unfold maxLen; omega) rfl)
             have b2 : Below w1.heap.size w1 w2 := (by rw [e2]; exact below_a _ _)
             have h2 := h1.below b2
             clear e2 h1)
          | (at_builtin; refine wpList_app _ rfl (.tmp 15) (.tmp 16) 24 5 rfl Try.underlying24 infoByte w1.heap.size _ 1 _ rfl o2 _ n _ l rfl h2 (by omega) b2.size ?_; intro v3 w3 o3 g3 _
             have b3 := below_grown b2 o2 g3
             obtain ⟨A3, c3, rfl, r3, _⟩ := RB.of_own o3
             clear o2 b2 h2 o3 g3))
        refine (HG.out A3 c3 w3 r3).mono ?_
        rintro e w4 ⟨A4, c4, rfl, r4, b4⟩
        have b5 := below_trans (below_trans b1 b3) b4
        clear b1 b3 b4 r3 r4 HG
        dsimp only
        go_wp2_with (first
          | ((with_reducible refine wpList_here ?_); refine wpList_allocV (o := ⟨some 5, _, _, _, _, _⟩) rfl 31 rfl (zK 0).vals zeroOpt _ rfl ?_; intro w5 z5 d5 s5)
          | ((with_reducible refine wpList_here ?_); refine wpList_storeV rfl 31 (.tmp 5) (.tmp 19) rfl _ _ (Opt.vals (zK 0)) rfl rfl z5 rfl (vals_one _) infoOpt ?_; intro w6 z6 g6 s6
             have d6 := v_below_g d5 g6 d5.size (Nat.le_refl _)
             have b6 := below_trans b5 d6
             clear z5 d5 g6 s5 s6 d6 b5))
        refine (HS.out _).mono ?_
        rintro e w7 ⟨rfl, b7⟩
        have z7 := z6.below b7
        have b8 := below_trans b6 b7
        clear z6 b6 b7
        go_wp2_with fail
        refine (HS.out _).mono ?_
        rintro e w9 ⟨rfl, b9⟩
        have b10 := below_trans b8 b9
        clear z7 b8 b9
        go_wp2_with fail
        go_ret
        exact ⟨rfl, b10⟩
      · have HG := Lib.hid HG0
        rw [hg] at HG
        rw [hlen] at hlt hq
        have HPK := Lib.hid hPK
        generalize sz (k : Int) = s at *
        have hs1 : ((s : Int) == 0) = false := by rw [beq_eq_false_iff_ne]; omega
        have hs2 : ¬ (n : Int) + 1 < (s : Int) := by omega
        have hq1 : ((q.length : Int) == (n : Int) + 1 - (s : Int)) = true := by rw [beq_iff_eq]; omega
        have hq2 : q.length ≤ 101 := by omega
        have HQ1 := Lib.hid hq1
        clear HG0 hs hkb hlen hg hPK hq1
        go_enter Try.func7, Try.ntmps7
        go_wp2_with fail
        refine (wakes_any _).mono ?_
        rintro e w1 ⟨rfl, b1⟩
        have h1 := h.below b1
        clear h
        go_wp2_with (first
          | ((with_reducible refine wpList_here ?_); refine wpList_byte1 (o := ⟨some 15, _, _, _, _, _⟩) rfl (.tmp 14) rfl _ rfl _ rfl ?_; intro w2 e2
             have o2 : w2.ownsRow w1.heap.size 5 1 (.slice (some ⟨w1.heap.size, 0, none⟩) 1 1) 1 (bv [UInt8.ofNat k]) := (by rw [e2, ← HKB.out]; exact World.ownsRow_lit (base := w1.heap.size) (e := 5) (size := 1) w1 #[.int .u8 ((UInt8.ofNat k).toNat : Int)] 1 (Nat.le_refl _) (by unfold maxLen; omega) rfl)
             have b2 : Below w1.heap.size w1 w2 := (by rw [e2]; exact below_a _ _)
             have h2 := h1.below b2
             clear e2 h1)
          | (at_builtin; refine wpList_app _ rfl (.tmp 15) (.tmp 16) 24 5 rfl Try.underlying24 infoByte w1.heap.size _ 1 _ rfl o2 _ n _ l rfl h2 (by omega) b2.size ?_; intro v3 w3 o3 g3 _
             have b3 := below_grown b2 o2 g3
             obtain ⟨A3, c3, rfl, r3, _⟩ := RB.of_own o3
             clear o2 b2 h2 o3 g3))
        refine (HG.out A3 c3 w3 r3).mono ?_
        rintro e w4 ⟨A4, c4, rfl, r4, b4⟩
        have b5 := below_trans (below_trans b1 b3) b4
        clear b1 b3 b4 r3 r4 HG
        dsimp only
        go_wp2_with (first
          | ((with_reducible refine wpList_here ?_); refine wpList_allocV (o := ⟨some 5, _, _, _, _, _⟩) rfl 31 rfl (zK 0).vals zeroOpt _ rfl ?_; intro w5 z5 d5 s5)
          | ((with_reducible refine wpList_here ?_); refine wpList_storeV rfl 31 (.tmp 5) (.tmp 19) rfl _ _ (Opt.vals P) rfl rfl z5 rfl (vals_one _) infoOpt ?_; intro w6 z6 g6 s6
             have d6 := v_below_g d5 g6 d5.size (Nat.le_refl _)
             have b6 := below_trans b5 d6
             clear z5 d5 g6 s5 s6 d6 b5))
        refine (HS.out _).mono ?_
        rintro e w7 ⟨rfl, b7⟩
        have z7 := z6.below b7
        have b8 := below_trans b6 b7
        clear z6 b6 b7
        go_wp2_with fail
        refine (HS.out _).mono ?_
        rintro e w9 ⟨rfl, b9⟩
        have z9 := z7.below b9
        have b10 := below_trans b8 b9
        have k9 : w9.cell? ⟨w3.heap.size + 0, 0, none⟩ = w9.cell? ⟨w3.heap.size + 0, 0, none⟩ := rfl
        have kz : ∀ g, Own w9 g P.vals → w9.cell? ⟨g, 0, none⟩ = some (.int .i64 (k : Int)) := fun g hg => by
          rw [(hg 0 (Nat.zero_lt_succ _)).1, ← HPK.out]
          rfl
        have kk := kz _ z9
        clear z7 b8 b9 k9 kz
        go_wp2_with fail
        refine (HS.out _).mono ?_
        rintro e w10 ⟨rfl, b11⟩
        have b12 := below_trans b10 b11
        go_wp2_with fail
        go_ret
        refine ⟨?_, b12⟩
        show Ending.returned (.bool ((q.length : Int) == (n : Int) + 1 - (s : Int))) = _
        rw [HQ1.out]
end Go.Proofs.Ytcofkdcjcckdfaa
