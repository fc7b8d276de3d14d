/- The walk of the law OptionCut. Condition: each of the option's numbers is one of its kind. -/
import Derived.Test.YtcofkdcjcckdfaaOptWk
namespace Go.Proofs.Ytcofkdcjcckdfaa
set_option linter.unusedVariables false
set_option linter.unusedSimpArgs false
open Go.RowKit

theorem Get_any (A : Option Addr) (n c : Nat) (bs : List UInt8) (w : World) (h : RB w A n c bs) (hn : n ≤ 1073741824) : Calls Try.prog 14 #[.slice A n c] w (GetMade w (getR bs)) := by
  have hl := h.len
  cases n with
  | zero =>
    have e : getR bs = (zK 0, [], 3) := by unfold getR; rw [if_pos hl]
    rw [e]
    exact Get_none A c w
  | succ n =>
    have e : getR bs = getK (num (bs.take 1)) (bs.drop 1) := by unfold getR; rw [if_neg (by omega)]
    rw [e]
    exact Get_some A n c bs w h (by omega)
theorem right_sz {o : Opt} (h : rightB o = true) : sz o.kind ≠ 0 := by
  intro e
  have h1 : tab o.kind = [] := by
    unfold sz at e
    split at e
    · rename_i h2; exact List.eq_nil_of_length_eq_zero h2
    · omega
  rw [rightB_none h1] at h
  cases h
theorem ob_kind {o : Opt} (h : sz o.kind ≠ 0) : ((num ((ob o).take 1) : Nat) : Int) = o.kind := by
  have hr := sz_range h
  have e : (ob o).take 1 = be (u64 o.kind) 1 := by
    unfold ob
    rw [List.take_left' (be_length _ _)]
  rw [e, num_be]
  have := u64_int o.kind
  omega
theorem getR_cut {o : Opt} (h : rightB o = true) {k : Nat} (hk : k < (ob o).length) : getR ((ob o).take k) = (zK 0, [], 3) := by
  have hs := right_sz h
  have hl : ((ob o).take k).length = k := by rw [List.length_take]; omega
  unfold getR
  rw [hl]
  split
  · rfl
  · rename_i h0
    have e1 : ((ob o).take k).take 1 = (ob o).take 1 := by rw [List.take_take, Nat.min_eq_left (by omega)]
    unfold getK
    rw [e1, ob_kind hs, List.length_drop, hl]
    rw [ob_length] at hk
    rw [if_pos (by omega)]

set_option maxRecDepth 8000 in
set_option maxHeartbeats 1600000 in
theorem Cuts_any (o : Opt) (n : Nat) (w : World) (hok : o.ok) (hn : n < 256) :
    Calls Try.prog 6 #[.agg o.vals.toArray, .int .u8 (n : Int)] w (Held w) := by
  cases hr : rightB o with
  | false =>
    have HR := Lib.hid (fun W => Right_any o W hok)
    rw [hr] at HR
    go_enter Try.func6, Try.ntmps6
    go_wp2_with (first
      | ((with_reducible refine wpList_here ?_); refine wpList_boxV (o := ⟨some 2, _, _, _, _, _⟩) rfl 31 (.tmp 0) rfl o.vals rfl _ rfl ?_; intro w1 z1 b1 s1))
    refine (wakes_any _).mono ?_
    rintro e w2 ⟨rfl, b2⟩
    have z2 := z1.below b2
    have b3 := below_trans b1 b2
    clear z1 b1 b2 s1
    go_wp2_with (first
      | ((with_reducible refine wpList_here ?_); refine wpList_loadV (o := ⟨some 13, _, _, _, _, _⟩) rfl 31 (.tmp 2) rfl _ _ o.vals rfl z2.range _ Try.underlying31 rfl infoOpt ?_)
      | ((with_reducible refine wpList_here ?_); refine wpList_litO (op := ⟨some 14, _, _, _, _, _⟩) rfl (.tmp 13) rfl o rfl hok _ rfl ?_; intro w4 h4 b4))
    refine (Puts_any _ 1 1 [o] w4 h4 (by omega)).mono ?_
    rintro e w5 ⟨_, p5, b5⟩
    obtain rfl := p5 (by simp [hr])
    have z5 := (z2.below b4).below b5
    have b6 := below_trans (below_trans b3 b4) b5
    clear z2 b3 h4 b4 b5 p5
    go_wp2_with (first
      | ((with_reducible refine wpList_here ?_); refine wpList_loadV (o := ⟨some 20, _, _, _, _, _⟩) rfl 31 (.tmp 2) rfl _ _ o.vals rfl z5.range _ Try.underlying31 rfl infoOpt ?_))
    refine (HR.out _).mono ?_
    rintro e w7 ⟨rfl, b7⟩
    have b8 := below_trans b6 b7
    go_wp2_with fail
    go_ret
    exact ⟨rfl, b8⟩
  | true =>
    have HL := ob_length o
    have HLe := ob_le o
    have HG := Lib.hid (fun k hk => getR_cut hr (k := k) hk)
    have HO : Hid (obs [o] = ob o) := Lib.hid (by simp [obs])
    have HSZ := Lib.hid (Size_any o.kind)
    have HSE := Lib.hid (ob_size (right_sz hr))
    go_enter Try.func6, Try.ntmps6
    go_wp2_with (first
      | ((with_reducible refine wpList_here ?_); refine wpList_boxV (o := ⟨some 2, _, _, _, _, _⟩) rfl 31 (.tmp 0) rfl o.vals rfl _ rfl ?_; intro w1 z1 b1 s1))
    refine (wakes_any _).mono ?_
    rintro e w2 ⟨rfl, b2⟩
    have z2 := z1.below b2
    have b3 := below_trans b1 b2
    clear z1 b1 b2 s1
    go_wp2_with (first
      | ((with_reducible refine wpList_here ?_); refine wpList_loadV (o := ⟨some 13, _, _, _, _, _⟩) rfl 31 (.tmp 2) rfl _ _ o.vals rfl z2.range _ Try.underlying31 rfl infoOpt ?_)
      | ((with_reducible refine wpList_here ?_); refine wpList_litO (op := ⟨some 14, _, _, _, _, _⟩) rfl (.tmp 13) rfl o rfl hok _ rfl ?_; intro w4 h4 b4))
    refine (Puts_any _ 1 1 [o] w4 h4 (by omega)).mono ?_
    rintro e w5 ⟨p5, _, b5⟩
    obtain ⟨A5, c5, rfl, r5⟩ := p5 (by simp [hr])
    rw [HO.out] at r5 ⊢
    have z5 := (z2.below b4).below b5
    have b6 := below_trans (below_trans b3 b4) b5
    have hcp := r5.cap
    have hmx := r5.max
    clear z2 b3 h4 b4 b5 p5 HO
    generalize hL : (ob o).length = L at *
    have hmod : n % L < L := Nat.mod_lt _ (by omega)
    have hrem : (n : Int).tmod (L : Int) = ((n % L : Nat) : Int) := by rw [Int.tmod_eq_emod_of_nonneg (by omega)]; rfl
    have hrem2 : (n : Int) % (L : Int) = ((n % L : Nat) : Int) := rfl
    have hwr : IntKind.i64.wrap (((n % L : Nat) : Int)) = ((n % L : Nat) : Int) := IntWalk.i64_in _ (by omega)
    obtain ⟨hrun, r6⟩ := r5.head_ (n % L) (by omega)
    have HGM : Hid (∀ W, RB W A5 (n % L) c5 ((ob o).take (n % L)) → Calls Try.prog 14 #[.slice A5 (n % L) c5] W (GetMade W (zK 0, [], 3))) := Lib.hid (fun W hW => by
      have := Get_any A5 (n % L) c5 _ W hW (by omega)
      rw [HG.out _ (by omega)] at this
      exact this)
    generalize n % L = m at *
    clear HL
    go_wp2_with fail
    refine (HGM.out _ r6).mono ?_
    rintro e w6 ⟨A6, c6, rfl, _, b7⟩
    have z6 := z5.below b7
    have b8 := below_trans b6 b7
    have HE := Lib.hid (eqO_same (zK 0))
    rw [← HSE.out] at HSZ
    clear z5 b6 b7 r5 r6 hrun HGM HG hrem hrem2 hwr hL
    dsimp only
    go_wp2_with (first
      | ((with_reducible refine wpList_here ?_); refine wpList_allocV (o := ⟨some 7, _, _, _, _, _⟩) rfl 31 rfl (zK 0).vals zeroOpt _ rfl ?_; intro w7 y7 d7 s7)
      | ((with_reducible refine wpList_here ?_); refine wpList_storeV rfl 31 (.tmp 7) (.tmp 32) rfl _ _ (zK 0).vals rfl rfl y7 rfl (vals_one _) infoOpt ?_; intro w8 y8 g8 s8
         have d8 := v_below_g d7 g8 d7.size (Nat.le_refl _)
         have z8 := z6.below d8
         have b9 := below_trans b8 d8
         have k8 : w8.cell? ⟨w.heap.size, 0, none⟩ = some (.int .i64 o.kind) := (z8 0 (Nat.zero_lt_succ _)).1
         clear d7 g8 s7 s8 y7 z6 b8 d8)
      | ((with_reducible refine wpList_here ?_); refine wpList_loadV (o := ⟨some 38, _, _, _, _, _⟩) rfl 31 (.tmp 7) rfl _ _ (zK 0).vals rfl y8.range _ Try.underlying31 rfl infoOpt ?_)
      | ((with_reducible refine wpList_here ?_); refine wpList_eqO (o := ⟨some 40, _, _, _, _, _⟩) rfl (.tmp 38) (.tmp 39) _ rfl (zK 0) (zK 0) rfl rfl ?_; rw [HE.out]))
    refine (HSZ.out _).mono ?_
    rintro e w9 ⟨rfl, b10⟩
    have b11 := below_trans b9 b10
    go_wp2_with fail
    go_ret
    exact ⟨rfl, b11⟩
end Go.Proofs.Ytcofkdcjcckdfaa
