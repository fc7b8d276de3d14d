/- The walk of the law SegmentChanged, and segment.Get of bytes that aren't good. Conditions: the segment and the table of widths stand. -/
import Derived.Test.YtbbpemndkphgeaaDoorSegS
import Derived.Test.YtbbpemndkphgeaaDoorSegWk
import Derived.Test.YtbbpemndkphgeaaDoorSegFr
namespace Go.Proofs.YtbbpemndkphgeaaDoor
set_option linter.unusedVariables false
set_option linter.unusedSimpArgs false
open Go.RowKit

set_option maxRecDepth 8000 in
set_option maxHeartbeats 1600000 in
theorem SegGet_bad (A : Option Addr) (n c : Nat) (l : List UInt8) (w : World) (h : RB w A n c l) (ht : n ≤ 1099511627776) (hb : sgood l = false) :
    Calls Tryd.prog 13 #[.slice A n c] w fun e w' => e = .returned (.tuple #[.agg zS.vals.toArray, .int .i64 5]) ∧ Below w.heap.size w w' := by
  have HG := Lib.hid (fun W hW => Good_any A n c l W hW ht)
  rw [hb] at HG
  go_enter Tryd.func13, Tryd.ntmps13
  go_wp2_with (first
    | ((with_reducible refine wpList_here ?_); refine wpList_allocV (o := ⟨some 2, _, _, _, _, _⟩) rfl 26 rfl _ zeroSeg _ rfl ?_; intro w1 z1 b1 s1))
  refine (HG.out _ (h.below b1)).mono ?_
  rintro e w2 ⟨rfl, b2⟩
  have z2 := z1.below b2
  have b3 := below_trans b1 b2
  clear z1 b1 s1 b2 h
  go_wp2_with (first
    | ((with_reducible refine wpList_here ?_); refine wpList_storeV rfl 26 (.tmp 2) (.tmp 11) rfl _ _ zS.vals rfl rfl z2 rfl (sv_one _) infoSeg ?_; intro w4 z4 g4 s4))
  have b4 := v_below_g b3 g4 b3.size (Nat.le_refl _)
  exact bodyPost_ret (results_c1 rfl _ _ w.heap.size zS.vals (.int .i64 5) _ rfl rfl z4.range Tryd.underlying26 rfl infoSeg) rfl ⟨rfl, b4⟩

theorem changed_no (l : List UInt8) (j x y : Nat) (hj : j < (sput l).length) (hx : ((sput l).getD j 0).toNat = x) (hy : 0 < y) (hy' : y < 256) :
    sgood ((sput l).set j (UInt8.ofNat (((x : Int) + (y : Int)) % 256).toNat)) = false := by
  refine sgood_set _ _ _ hj (of_sput l) fun e => ?_
  have h := congrArg UInt8.toNat e
  rw [UInt8.toNat_ofNat', hx] at h
  have := ((sput l).getD j 0).toNat_lt
  omega
theorem sameB_zero : sameB zS zS = true := (sameB_iff (zS_ok (default : World)) (zS_ok (default : World))).2 (SameS.refl zS)

set_option maxRecDepth 100000 in
set_option maxHeartbeats 3200000 in
theorem Changed_any (s : Seg) (a b : Nat) (w : World) (h : SG w s) (ha : a < 65536) (hb : b < 256) (hT : Tab w) :
    Calls Tryd.prog 4 #[.agg s.vals.toArray, .int .u16 (a : Int), .int .u8 (b : Int)] w (Held w) := by
  have HP := Lib.hid (fun W a b => SegPut_any s W a b)
  cases hr : rightS s with
  | false =>
    have HRS := Lib.hid hr
    clear hr
    go_enter Tryd.func4, Tryd.ntmps4
    go_wp2_with (first
      | ((with_reducible refine wpList_here ?_); refine wpList_boxV (o := ⟨some 3, _, _, _, _, _⟩) rfl 26 (.tmp 0) rfl s.vals rfl _ rfl ?_; intro w1 z1 b1 s1))
    refine (swakes_any _ (hT.below b1)).mono ?_
    rintro e w2 ⟨rfl, b2⟩
    have z2 := z1.below b2
    have b3 := below_trans b1 b2
    have h3 := h.below b3
    have t3 := hT.below b3
    clear z1 b1 s1 b2 h hT
    go_wp2_with (first
      | ((with_reducible refine wpList_here ?_); refine wpList_loadV (o := ⟨some 14, _, _, _, _, _⟩) rfl 26 (.tmp 3) rfl _ _ s.vals rfl z2.range _ Tryd.underlying26 rfl infoSeg ?_))
    refine (HP.out _ h3 t3).mono ?_
    rintro e w6 ⟨_, p6, b6⟩
    obtain rfl := p6 HRS.out
    have b7 := below_trans b3 b6
    go_wp2_with fail
    go_ret
    exact ⟨rfl, b7⟩
  | true =>
    have HRS := Lib.hid hr
    obtain ⟨_, l2, _, l4⟩ : (sbs s).length % 2 = 0 ∧ 22 ≤ (sbs s).length ∧ True ∧ (sbs s).length ≤ 1000 := by
      have h1 := sbs_length h
      have h2 := obs_le s.os
      rw [h.opts.len] at h2
      obtain ⟨h6, h7, _⟩ := right_few hr
      exact ⟨by omega, by omega, trivial, by omega⟩
    clear hr
    by_cases h0 : b = 0
    · subst h0
      go_enter Tryd.func4, Tryd.ntmps4
      go_wp2_with (first
        | ((with_reducible refine wpList_here ?_); refine wpList_boxV (o := ⟨some 3, _, _, _, _, _⟩) rfl 26 (.tmp 0) rfl s.vals rfl _ rfl ?_; intro w1 z1 b1 s1))
      refine (swakes_any _ (hT.below b1)).mono ?_
      rintro e w2 ⟨rfl, b2⟩
      have z2 := z1.below b2
      have b3 := below_trans b1 b2
      have h3 := h.below b3
      have t3 := hT.below b3
      clear z1 b1 s1 b2 h hT
      go_wp2_with (first
        | ((with_reducible refine wpList_here ?_); refine wpList_loadV (o := ⟨some 14, _, _, _, _, _⟩) rfl 26 (.tmp 3) rfl _ _ s.vals rfl z2.range _ Tryd.underlying26 rfl infoSeg ?_))
      refine (HP.out _ h3 t3).mono ?_
      rintro e w6 ⟨p6, _, b6⟩
      obtain ⟨A6, c6, rfl, _, _⟩ := p6 HRS.out
      have b7 := below_trans b3 b6
      go_wp2_with fail
      go_ret
      exact ⟨rfl, b7⟩
    · have hb0 : ((b : Int) == 0) = false := by rw [beq_eq_false_iff_ne]; omega
      have hbp : 0 < b := by omega
      clear h0
      go_enter Tryd.func4, Tryd.ntmps4
      go_wp2_with (first
        | ((with_reducible refine wpList_here ?_); refine wpList_boxV (o := ⟨some 3, _, _, _, _, _⟩) rfl 26 (.tmp 0) rfl s.vals rfl _ rfl ?_; intro w1 z1 b1 s1))
      refine (swakes_any _ (hT.below b1)).mono ?_
      rintro e w2 ⟨rfl, b2⟩
      have z2 := z1.below b2
      have b3 := below_trans b1 b2
      have h3 := h.below b3
      have t3 := hT.below b3
      clear z1 b1 s1 b2 h hT
      go_wp2_with (first
        | ((with_reducible refine wpList_here ?_); refine wpList_loadV (o := ⟨some 14, _, _, _, _, _⟩) rfl 26 (.tmp 3) rfl _ _ s.vals rfl z2.range _ Tryd.underlying26 rfl infoSeg ?_))
      refine (HP.out _ h3 t3).mono ?_
      rintro e w6 ⟨p6, _, b6⟩
      obtain ⟨A6, c6, rfl, _, o6⟩ := p6 HRS.out
      have hb6 := below_trans b3 b6
      have o6 : w6.ownsRow w2.heap.size 5 1 (.slice A6 (sbs s).length c6) (sbs s).length (bv (sput (sby s))) := o6
      generalize hm : (sbs s).length = m at *
      have hj : a % m < m := Nat.mod_lt _ (by omega)
      obtain ⟨g, cap, hv, hg, hcap, hcap2, hcell, hfr⟩ := own_at o6 hj
      injection hv with e1 _ e3
      subst e1 e3
      have HO := Lib.hid (fun (x : Int) (hx : 0 ≤ x) (hx' : x < 256) => own_set (j := a % m) o6 hx hx')
      have HB := Lib.hid (fun (u : Value) => hb6.setCell (p := ⟨g, a % m, none⟩) (Nat.le_trans b3.size hg) u)
      have HC := Lib.hid (changed_no (sby s) (a % m) _ b (by have : (sput (sby s)).length = m := hm; rw [this]; exact hj) rfl hbp hb)
      have hx := ((sput (sby s)).getD (a % m) 0).toNat_lt
      have hmz : ¬ ((m : Int) = 0) := by omega
      have hmod : 0 ≤ (a : Int) % (m : Int) := Int.emod_nonneg _ hmz
      have hmod1 : (a : Int) % (m : Int) < (m : Int) := Int.emod_lt_of_pos _ (by omega)
      have hmod2 : (((a : Int) % (m : Int))).toNat = a % m := rfl
      clear o6 z2 b3 h3 t3 b6 p6 hm HP
      generalize ((sput (sby s)).getD (a % m) 0).toNat = x at *
      go_wp2_with fail
      have hxx : 0 ≤ ((x : Int) + (b : Int)) % 256 ∧ ((x : Int) + (b : Int)) % 256 < 256 := by omega
      obtain ⟨A4, c4, hv, r4, _⟩ := RB.of_own (HO.out _ hxx.1 hxx.2)
      have hb4 := HB.out (.int .u8 (((x : Int) + (b : Int)) % 256))
      rw [hv]
      refine (SegGet_bad A4 m c4 _ _ r4 (by omega) HC.out).mono ?_
      rintro e w8 ⟨rfl, b8⟩
      have b9 := below_trans hb4 b8
      clear r4 hb4 b8 HB HO HC hv
      go_wp2_with (first
        | ((with_reducible refine wpList_here ?_); refine wpList_allocV (o := ⟨some 9, _, _, _, _, _⟩) rfl 26 rfl _ zeroSeg _ rfl ?_; intro w10 z10 d10 s10)
        | ((with_reducible refine wpList_here ?_); refine wpList_storeV rfl 26 (.tmp 9) (.tmp 38) rfl _ _ zS.vals rfl rfl z10 rfl (sv_one _) infoSeg ?_; intro w11 z11 g11 s11)
        | ((with_reducible refine wpList_here ?_); refine wpList_loadV (o := ⟨some 43, _, _, _, _, _⟩) rfl 26 (.tmp 9) rfl _ _ zS.vals rfl z11.range _ Tryd.underlying26 rfl infoSeg ?_))
      have d11 := v_below_g d10 g11 d10.size (Nat.le_refl _)
      have b11 := below_trans b9 d11
      clear z10 d10 s10 g11 s11 b9 d11 z11
      refine (RSegSame_any zS zS _ (zS_ok _) (zS_ok _)).mono ?_
      rw [sameB_zero]
      rintro e w12 ⟨rfl, b12⟩
      have b13 := below_trans b11 b12
      go_wp2_with fail
      go_ret
      exact ⟨rfl, b13⟩
end Go.Proofs.YtbbpemndkphgeaaDoor
