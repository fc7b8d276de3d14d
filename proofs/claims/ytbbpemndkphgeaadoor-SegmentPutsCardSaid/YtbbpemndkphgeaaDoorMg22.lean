/- The walk of the law SegmentPuts. Conditions: the segment and the table of widths stand. -/
import Derived.Test.YtbbpemndkphgeaaDoorMg18
import Derived.Test.YtbbpemndkphgeaaDoorMg19
import Derived.Test.YtbbpemndkphgeaaDoorMg21
import Derived.Test.YtbbpemndkphgeaaDoorMg16
namespace Go.Proofs.YtbbpemndkphgeaaDoor
set_option linter.unusedVariables false
set_option linter.unusedSimpArgs false
open Go.RowKit

set_option maxRecDepth 8000 in
set_option maxHeartbeats 1600000 in
theorem Puts_long (s : Seg) (w : World) (h : SG w s) (hT : Tab w) (hlong : (decide (50 < s.on) || decide (200 < s.dn)) = true) :
    Calls Tryd.prog 3 #[.agg s.vals.toArray] w (Held w) := by
  have HL1 := Lib.hid (fun W => long_law s W)
  rw [hlong] at HL1
  go_enter Tryd.func3, Tryd.ntmps3
  go_wp2_with (first
    | ((with_reducible refine wpList_here ?_); refine wpList_boxV (o := ⟨some 1, _, _, _, _, _⟩) rfl 26 (.tmp 0) rfl s.vals rfl _ rfl ?_; intro w1 z1 b1 s1))
  refine (swakes_any _ (hT.below b1)).mono ?_
  rintro e w2 ⟨rfl, b2⟩
  have z2 := z1.below b2
  have b3 := below_trans b1 b2
  have h3 := h.below b3
  have t3 := hT.below b3
  clear z1 b1 s1 b2 h hT
  go_wp2_with (first
    | ((with_reducible refine wpList_here ?_); refine wpList_loadV (o := ⟨some 10, _, _, _, _, _⟩) rfl 26 (.tmp 1) rfl _ _ s.vals rfl z2.range _ Tryd.underlying26 rfl infoSeg ?_))
  refine (HL1.out _).mono ?_
  rintro e w4 ⟨rfl, b4⟩
  have b5 := below_trans b3 b4
  go_wp2_with fail
  go_ret
  exact ⟨rfl, b5⟩

set_option maxRecDepth 8000 in
set_option maxHeartbeats 1600000 in
theorem Puts_false_false_false (s : Seg) (w : World) (h : SG w s) (hT : Tab w) (hlong : (decide (50 < s.on) || decide (200 < s.dn)) = false) (hd : s.dn ≤ 200) (hsyn : s.syn = false) (hfin : s.fin = false) (hr : rightS s = false) :
    Calls Tryd.prog 3 #[.agg s.vals.toArray] w (Held w) := by
  have HL1 := Lib.hid (fun W => long_law s W)
  rw [hlong] at HL1
  have HP := Lib.hid (fun W a b => SegPut_any s W a b)
  have HLO := Lib.hid (fun W hW => Long_any s W hW (by omega))
  obtain ⟨N, hN⟩ : ∃ N : Int, ((s.dn + b2n s.syn + b2n s.fin : Nat) : Int) = N := ⟨_, rfl⟩
  have hNe : (N != (s.dn : Int)) = false := by rw [← hN, hsyn, hfin]; simp [b2n]
  rw [hN] at HLO
  have HRR := Lib.hid (fun W hW => RSegRight_any s W hW)
  have HSR := Lib.hid (fun W hW => SRight_any s W hW)
  rw [hr] at HRR HSR
  have HRS := Lib.hid hr
  clear hr hlong hN
  go_enter Tryd.func3, Tryd.ntmps3
  go_wp2_with (first
    | ((with_reducible refine wpList_here ?_); refine wpList_boxV (o := ⟨some 1, _, _, _, _, _⟩) rfl 26 (.tmp 0) rfl s.vals rfl _ rfl ?_; intro w1 z1 b1 s1))
  refine (swakes_any _ (hT.below b1)).mono ?_
  rintro e w2 ⟨rfl, b2⟩
  have z2 := z1.below b2
  have b3 := below_trans b1 b2
  have h3 := h.below b3
  have t3 := hT.below b3
  clear z1 b1 s1 b2 h hT
  go_wp2_with (first
    | ((with_reducible refine wpList_here ?_); refine wpList_loadV (o := ⟨some 10, _, _, _, _, _⟩) rfl 26 (.tmp 1) rfl _ _ s.vals rfl z2.range _ Tryd.underlying26 rfl infoSeg ?_))
  refine (HL1.out _).mono ?_
  rintro e w4 ⟨rfl, b4⟩
  have z4 := z2.below b4
  have b5 := below_trans b3 b4
  have h5 := h3.below b4
  have t5 := t3.below b4
  clear z2 b3 h3 t3 b4
  go_wp2_with (first
    | ((with_reducible refine wpList_here ?_); refine wpList_loadV (o := ⟨some 13, _, _, _, _, _⟩) rfl 26 (.tmp 1) rfl _ _ s.vals rfl z4.range _ Tryd.underlying26 rfl infoSeg ?_))
  refine (HP.out _ h5 t5).mono ?_
  rintro e w6 ⟨_, p6, b6⟩
  obtain rfl := p6 HRS.out
  clear p6
  have z6 := z4.below b6
  have b7 := below_trans b5 b6
  have h7 := h5.below b6
  have t7 := t5.below b6
  have k6 : w6.cell? ⟨w.heap.size, 6, none⟩ = some (.bool false) := (by have := z6.cels.c6; rw [hsyn] at this; exact this)
  have k8 : w6.cell? ⟨w.heap.size, 8, none⟩ = some (.bool false) := (by have := z6.cels.c8; rw [hfin] at this; exact this)
  have k12 := z6.cels.c12
  clear z4 b5 h5 t5 b6
  go_wp2_with (first
    | ((with_reducible refine wpList_here ?_); refine wpList_loadV (o := ⟨some 28, _, _, _, _, _⟩) rfl 26 (.tmp 1) rfl _ _ s.vals rfl z6.range _ Tryd.underlying26 rfl infoSeg ?_))
  refine (HLO.out _ h7).mono ?_
  rintro e w8 ⟨rfl, b8⟩
  have z8 := z6.below b8
  have b9 := below_trans b7 b8
  have h9 := h7.below b8
  have t9 := t7.below b8
  clear z6 b7 h7 t7 k6 k8 k12
  go_wp2_with (first
    | ((with_reducible refine wpList_here ?_); refine wpList_loadV (o := ⟨some 32, _, _, _, _, _⟩) rfl 26 (.tmp 1) rfl _ _ s.vals rfl z8.range _ Tryd.underlying26 rfl infoSeg ?_))
  refine (HRR.out _ h9).mono ?_
  rintro e w10 ⟨rfl, b10⟩
  have z10 := z8.below b10
  have b11 := below_trans b9 b10
  have h11 := h9.below b10
  have t11 := t9.below b10
  clear z8 b9 h9 t9 b10
  go_wp2_with (first
    | ((with_reducible refine wpList_here ?_); refine wpList_loadV (o := ⟨some 35, _, _, _, _, _⟩) rfl 26 (.tmp 1) rfl _ _ s.vals rfl z10.range _ Tryd.underlying26 rfl infoSeg ?_))
  refine (HSR.out _ h11).mono ?_
  rintro e w12 ⟨rfl, b12⟩
  have b13 := below_trans b11 b12
  go_wp2_with fail
  go_ret
  exact ⟨rfl, b13⟩

set_option maxRecDepth 8000 in
set_option maxHeartbeats 1600000 in
theorem Puts_true_false_false (s : Seg) (w : World) (h : SG w s) (hT : Tab w) (hlong : (decide (50 < s.on) || decide (200 < s.dn)) = false) (hd : s.dn ≤ 200) (hsyn : s.syn = false) (hfin : s.fin = false) (hr : rightS s = true) :
    Calls Tryd.prog 3 #[.agg s.vals.toArray] w (Held w) := by
  have HL1 := Lib.hid (fun W => long_law s W)
  rw [hlong] at HL1
  have HP := Lib.hid (fun W a b => SegPut_any s W a b)
  have HLO := Lib.hid (fun W hW => Long_any s W hW (by omega))
  obtain ⟨N, hN⟩ : ∃ N : Int, ((s.dn + b2n s.syn + b2n s.fin : Nat) : Int) = N := ⟨_, rfl⟩
  have hNe : (N != (s.dn : Int)) = false := by rw [← hN, hsyn, hfin]; simp [b2n]
  rw [hN] at HLO
  have HRR := Lib.hid (fun W hW => RSegRight_any s W hW)
  have HSR := Lib.hid (fun W hW => SRight_any s W hW)
  rw [hr] at HRR HSR
  have HRS := Lib.hid hr
  clear hr hlong hN
  go_enter Tryd.func3, Tryd.ntmps3
  go_wp2_with (first
    | ((with_reducible refine wpList_here ?_); refine wpList_boxV (o := ⟨some 1, _, _, _, _, _⟩) rfl 26 (.tmp 0) rfl s.vals rfl _ rfl ?_; intro w1 z1 b1 s1))
  refine (swakes_any _ (hT.below b1)).mono ?_
  rintro e w2 ⟨rfl, b2⟩
  have z2 := z1.below b2
  have b3 := below_trans b1 b2
  have h3 := h.below b3
  have t3 := hT.below b3
  clear z1 b1 s1 b2 h hT
  go_wp2_with (first
    | ((with_reducible refine wpList_here ?_); refine wpList_loadV (o := ⟨some 10, _, _, _, _, _⟩) rfl 26 (.tmp 1) rfl _ _ s.vals rfl z2.range _ Tryd.underlying26 rfl infoSeg ?_))
  refine (HL1.out _).mono ?_
  rintro e w4 ⟨rfl, b4⟩
  have z4 := z2.below b4
  have b5 := below_trans b3 b4
  have h5 := h3.below b4
  have t5 := t3.below b4
  clear z2 b3 h3 t3 b4
  go_wp2_with (first
    | ((with_reducible refine wpList_here ?_); refine wpList_loadV (o := ⟨some 13, _, _, _, _, _⟩) rfl 26 (.tmp 1) rfl _ _ s.vals rfl z4.range _ Tryd.underlying26 rfl infoSeg ?_))
  refine (HP.out _ h5 t5).mono ?_
  rintro e w6 ⟨p6, _, b6⟩
  obtain ⟨A6, c6, rfl, r6, _⟩ := p6 HRS.out
  clear p6
  have R6 := Lib.hid r6
  have HGE := Lib.hid (fun W a b c => SegGet_ok s A6 (sbs s).length c6 W a HRS.out b c)
  have HRB := Lib.hid (fun W hW => RBytes_any s W hW HRS.out)
  clear r6
  generalize (sbs s).length = L at *
  have z6 := z4.below b6
  have b7 := below_trans b5 b6
  have h7 := h5.below b6
  have t7 := t5.below b6
  have k6 : w6.cell? ⟨w.heap.size, 6, none⟩ = some (.bool false) := (by have := z6.cels.c6; rw [hsyn] at this; exact this)
  have k8 : w6.cell? ⟨w.heap.size, 8, none⟩ = some (.bool false) := (by have := z6.cels.c8; rw [hfin] at this; exact this)
  have k12 := z6.cels.c12
  clear z4 b5 h5 t5 b6
  go_wp2_with (first
    | ((with_reducible refine wpList_here ?_); refine wpList_loadV (o := ⟨some 28, _, _, _, _, _⟩) rfl 26 (.tmp 1) rfl _ _ s.vals rfl z6.range _ Tryd.underlying26 rfl infoSeg ?_))
  refine (HLO.out _ h7).mono ?_
  rintro e w8 ⟨rfl, b8⟩
  have z8 := z6.below b8
  have b9 := below_trans b7 b8
  have h9 := h7.below b8
  have t9 := t7.below b8
  clear z6 b7 h7 t7 k6 k8 k12
  go_wp2_with (first
    | ((with_reducible refine wpList_here ?_); refine wpList_loadV (o := ⟨some 32, _, _, _, _, _⟩) rfl 26 (.tmp 1) rfl _ _ s.vals rfl z8.range _ Tryd.underlying26 rfl infoSeg ?_))
  refine (HRR.out _ h9).mono ?_
  rintro e w10 ⟨rfl, b10⟩
  have z10 := z8.below b10
  have b11 := below_trans b9 b10
  have h11 := h9.below b10
  have t11 := t9.below b10
  clear z8 b9 h9 t9
  go_wp2_with fail
  have r12 := (R6.out.below b8).below b10
  refine (HGE.out _ h11 r12 t11).mono ?_
  rintro e w12 ⟨O, d, D, f, rfl, x12, b12⟩
  have z12 := z10.below b12
  have b13 := below_trans b11 b12
  have h13 := h11.below b12
  have r13 := r12.below b12
  clear z10 b11 h11 t11 b12 r12 b8 b10 R6 HGE
  go_wp2_with (first
    | ((with_reducible refine wpList_here ?_); refine wpList_allocV (o := ⟨some 6, _, _, _, _, _⟩) rfl 26 rfl _ zeroSeg _ rfl ?_; intro w14 y14 d14 s14)
    | ((with_reducible refine wpList_here ?_); refine wpList_storeV rfl 26 (.tmp 6) (.tmp 50) rfl _ _ (withS s O d D f).vals rfl rfl y14 rfl (sv_one _) infoSeg ?_; intro w15 y15 g15 s15; have d15 := v_below_g d14 g15 d14.size (Nat.le_refl _); have z15 := z12.below d15; have b15 := below_trans b13 d15; have h15 := h13.below d15; have x15 := x12.below d15; have r15 := r13.below d15; clear y14 d14 s14 g15 s15 d15 z12 b13 h13 x12 r13)
    | ((with_reducible refine wpList_here ?_); refine wpList_loadV (o := ⟨some 52, _, _, _, _, _⟩) rfl 26 (.tmp 1) rfl _ _ s.vals rfl z15.range _ Tryd.underlying26 rfl infoSeg ?_))
  generalize w12.heap.size = g6 at *
  refine (HSR.out _ h15).mono ?_
  rintro e w16 ⟨rfl, b16⟩
  have z17 := z15.below b16
  have y17 := y15.below b16
  have b17 := below_trans b15 b16
  have h17 := h15.below b16
  have x17 := x15.below b16
  have r17 := r15.below b16
  clear z15 y15 b15 h15 x15 r15 b16
  go_wp2_with (first
    | ((with_reducible refine wpList_here ?_); refine wpList_loadV (o := ⟨some 60, _, _, _, _, _⟩) rfl 26 (.tmp 1) rfl _ _ s.vals rfl z17.range _ Tryd.underlying26 rfl infoSeg ?_))
  refine (HRB.out _ h17).mono ?_
  rintro e w18 ⟨A9, c9, rfl, q18, _, b18⟩
  have z19 := z17.below b18
  have y19 := y17.below b18
  have b19 := below_trans b17 b18
  have h19 := h17.below b18
  have x19 := x17.below b18
  have r19 := r17.below b18
  clear z17 y17 b17 h17 x17 r17 b18
  go_wp2_with fail
  refine (Same_yes _ _ _ _ _ _ (sbs s) _ r19 q18).mono ?_
  rintro e w20 ⟨rfl, b20⟩
  have z21 := z19.below b20
  have y21 := y19.below b20
  have b21 := below_trans b19 b20
  have h21 := h19.below b20
  have x21 := x19.below b20
  have HSB := Lib.hid ((sameB_iff x21 h21).2 (with_same s O d D f))
  clear z19 y19 b19 h19 x19 r19 b20 q18
  go_wp2_with (first
    | ((with_reducible refine wpList_here ?_); refine wpList_loadV (o := ⟨some 69, _, _, _, _, _⟩) rfl 26 (.tmp 6) rfl _ _ (withS s O d D f).vals rfl y21.range _ Tryd.underlying26 rfl infoSeg ?_)
    | ((with_reducible refine wpList_here ?_); refine wpList_loadV (o := ⟨some 70, _, _, _, _, _⟩) rfl 26 (.tmp 1) rfl _ _ s.vals rfl z21.range _ Tryd.underlying26 rfl infoSeg ?_))
  refine (RSegSame_any (withS s O d D f) s _ x21 h21).mono ?_
  rw [HSB.out]
  rintro e w22 ⟨rfl, b22⟩
  have z23 := z21.below b22
  have y23 := y21.below b22
  have b23 := below_trans b21 b22
  have h23 := h21.below b22
  have x23 := x21.below b22
  clear z21 y21 b21 h21 x21 b22
  go_wp2_with (first
    | ((with_reducible refine wpList_here ?_); refine wpList_loadV (o := ⟨some 74, _, _, _, _, _⟩) rfl 26 (.tmp 6) rfl _ _ (withS s O d D f).vals rfl y23.range _ Tryd.underlying26 rfl infoSeg ?_)
    | ((with_reducible refine wpList_here ?_); refine wpList_loadV (o := ⟨some 75, _, _, _, _, _⟩) rfl 26 (.tmp 1) rfl _ _ s.vals rfl z23.range _ Tryd.underlying26 rfl infoSeg ?_))
  refine (SegSame_any (withS s O d D f) s _ x23 h23).mono ?_
  rw [HSB.out]
  rintro e w24 ⟨rfl, b24⟩
  have b25 := below_trans b23 b24
  go_wp2_with fail
  go_ret
  exact ⟨rfl, b25⟩

set_option maxRecDepth 8000 in
set_option maxHeartbeats 1600000 in
theorem Puts_false_false_true (s : Seg) (w : World) (h : SG w s) (hT : Tab w) (hlong : (decide (50 < s.on) || decide (200 < s.dn)) = false) (hd : s.dn ≤ 200) (hsyn : s.syn = false) (hfin : s.fin = true) (hr : rightS s = false) :
    Calls Tryd.prog 3 #[.agg s.vals.toArray] w (Held w) := by
  have HL1 := Lib.hid (fun W => long_law s W)
  rw [hlong] at HL1
  have HP := Lib.hid (fun W a b => SegPut_any s W a b)
  have HLO := Lib.hid (fun W hW => Long_any s W hW (by omega))
  obtain ⟨N, hN⟩ : ∃ N : Int, ((s.dn + b2n s.syn + b2n s.fin : Nat) : Int) = N := ⟨_, rfl⟩
  have hNe : (N != (s.dn : Int) + 1) = false := by rw [← hN, hsyn, hfin]; simp [b2n]
  rw [hN] at HLO
  have HRR := Lib.hid (fun W hW => RSegRight_any s W hW)
  have HSR := Lib.hid (fun W hW => SRight_any s W hW)
  rw [hr] at HRR HSR
  have HRS := Lib.hid hr
  clear hr hlong hN
  go_enter Tryd.func3, Tryd.ntmps3
  go_wp2_with (first
    | ((with_reducible refine wpList_here ?_); refine wpList_boxV (o := ⟨some 1, _, _, _, _, _⟩) rfl 26 (.tmp 0) rfl s.vals rfl _ rfl ?_; intro w1 z1 b1 s1))
  refine (swakes_any _ (hT.below b1)).mono ?_
  rintro e w2 ⟨rfl, b2⟩
  have z2 := z1.below b2
  have b3 := below_trans b1 b2
  have h3 := h.below b3
  have t3 := hT.below b3
  clear z1 b1 s1 b2 h hT
  go_wp2_with (first
    | ((with_reducible refine wpList_here ?_); refine wpList_loadV (o := ⟨some 10, _, _, _, _, _⟩) rfl 26 (.tmp 1) rfl _ _ s.vals rfl z2.range _ Tryd.underlying26 rfl infoSeg ?_))
  refine (HL1.out _).mono ?_
  rintro e w4 ⟨rfl, b4⟩
  have z4 := z2.below b4
  have b5 := below_trans b3 b4
  have h5 := h3.below b4
  have t5 := t3.below b4
  clear z2 b3 h3 t3 b4
  go_wp2_with (first
    | ((with_reducible refine wpList_here ?_); refine wpList_loadV (o := ⟨some 13, _, _, _, _, _⟩) rfl 26 (.tmp 1) rfl _ _ s.vals rfl z4.range _ Tryd.underlying26 rfl infoSeg ?_))
  refine (HP.out _ h5 t5).mono ?_
  rintro e w6 ⟨_, p6, b6⟩
  obtain rfl := p6 HRS.out
  clear p6
  have z6 := z4.below b6
  have b7 := below_trans b5 b6
  have h7 := h5.below b6
  have t7 := t5.below b6
  have k6 : w6.cell? ⟨w.heap.size, 6, none⟩ = some (.bool false) := (by have := z6.cels.c6; rw [hsyn] at this; exact this)
  have k8 : w6.cell? ⟨w.heap.size, 8, none⟩ = some (.bool true) := (by have := z6.cels.c8; rw [hfin] at this; exact this)
  have k12 := z6.cels.c12
  clear z4 b5 h5 t5 b6
  go_wp2_with (first
    | ((with_reducible refine wpList_here ?_); refine wpList_loadV (o := ⟨some 28, _, _, _, _, _⟩) rfl 26 (.tmp 1) rfl _ _ s.vals rfl z6.range _ Tryd.underlying26 rfl infoSeg ?_))
  refine (HLO.out _ h7).mono ?_
  rintro e w8 ⟨rfl, b8⟩
  have z8 := z6.below b8
  have b9 := below_trans b7 b8
  have h9 := h7.below b8
  have t9 := t7.below b8
  clear z6 b7 h7 t7 k6 k8 k12
  go_wp2_with (first
    | ((with_reducible refine wpList_here ?_); refine wpList_loadV (o := ⟨some 32, _, _, _, _, _⟩) rfl 26 (.tmp 1) rfl _ _ s.vals rfl z8.range _ Tryd.underlying26 rfl infoSeg ?_))
  refine (HRR.out _ h9).mono ?_
  rintro e w10 ⟨rfl, b10⟩
  have z10 := z8.below b10
  have b11 := below_trans b9 b10
  have h11 := h9.below b10
  have t11 := t9.below b10
  clear z8 b9 h9 t9 b10
  go_wp2_with (first
    | ((with_reducible refine wpList_here ?_); refine wpList_loadV (o := ⟨some 35, _, _, _, _, _⟩) rfl 26 (.tmp 1) rfl _ _ s.vals rfl z10.range _ Tryd.underlying26 rfl infoSeg ?_))
  refine (HSR.out _ h11).mono ?_
  rintro e w12 ⟨rfl, b12⟩
  have b13 := below_trans b11 b12
  go_wp2_with fail
  go_ret
  exact ⟨rfl, b13⟩

set_option maxRecDepth 8000 in
set_option maxHeartbeats 1600000 in
theorem Puts_true_false_true (s : Seg) (w : World) (h : SG w s) (hT : Tab w) (hlong : (decide (50 < s.on) || decide (200 < s.dn)) = false) (hd : s.dn ≤ 200) (hsyn : s.syn = false) (hfin : s.fin = true) (hr : rightS s = true) :
    Calls Tryd.prog 3 #[.agg s.vals.toArray] w (Held w) := by
  have HL1 := Lib.hid (fun W => long_law s W)
  rw [hlong] at HL1
  have HP := Lib.hid (fun W a b => SegPut_any s W a b)
  have HLO := Lib.hid (fun W hW => Long_any s W hW (by omega))
  obtain ⟨N, hN⟩ : ∃ N : Int, ((s.dn + b2n s.syn + b2n s.fin : Nat) : Int) = N := ⟨_, rfl⟩
  have hNe : (N != (s.dn : Int) + 1) = false := by rw [← hN, hsyn, hfin]; simp [b2n]
  rw [hN] at HLO
  have HRR := Lib.hid (fun W hW => RSegRight_any s W hW)
  have HSR := Lib.hid (fun W hW => SRight_any s W hW)
  rw [hr] at HRR HSR
  have HRS := Lib.hid hr
  clear hr hlong hN
  go_enter Tryd.func3, Tryd.ntmps3
  go_wp2_with (first
    | ((with_reducible refine wpList_here ?_); refine wpList_boxV (o := ⟨some 1, _, _, _, _, _⟩) rfl 26 (.tmp 0) rfl s.vals rfl _ rfl ?_; intro w1 z1 b1 s1))
  refine (swakes_any _ (hT.below b1)).mono ?_
  rintro e w2 ⟨rfl, b2⟩
  have z2 := z1.below b2
  have b3 := below_trans b1 b2
  have h3 := h.below b3
  have t3 := hT.below b3
  clear z1 b1 s1 b2 h hT
  go_wp2_with (first
    | ((with_reducible refine wpList_here ?_); refine wpList_loadV (o := ⟨some 10, _, _, _, _, _⟩) rfl 26 (.tmp 1) rfl _ _ s.vals rfl z2.range _ Tryd.underlying26 rfl infoSeg ?_))
  refine (HL1.out _).mono ?_
  rintro e w4 ⟨rfl, b4⟩
  have z4 := z2.below b4
  have b5 := below_trans b3 b4
  have h5 := h3.below b4
  have t5 := t3.below b4
  clear z2 b3 h3 t3 b4
  go_wp2_with (first
    | ((with_reducible refine wpList_here ?_); refine wpList_loadV (o := ⟨some 13, _, _, _, _, _⟩) rfl 26 (.tmp 1) rfl _ _ s.vals rfl z4.range _ Tryd.underlying26 rfl infoSeg ?_))
  refine (HP.out _ h5 t5).mono ?_
  rintro e w6 ⟨p6, _, b6⟩
  obtain ⟨A6, c6, rfl, r6, _⟩ := p6 HRS.out
  clear p6
  have R6 := Lib.hid r6
  have HGE := Lib.hid (fun W a b c => SegGet_ok s A6 (sbs s).length c6 W a HRS.out b c)
  have HRB := Lib.hid (fun W hW => RBytes_any s W hW HRS.out)
  clear r6
  generalize (sbs s).length = L at *
  have z6 := z4.below b6
  have b7 := below_trans b5 b6
  have h7 := h5.below b6
  have t7 := t5.below b6
  have k6 : w6.cell? ⟨w.heap.size, 6, none⟩ = some (.bool false) := (by have := z6.cels.c6; rw [hsyn] at this; exact this)
  have k8 : w6.cell? ⟨w.heap.size, 8, none⟩ = some (.bool true) := (by have := z6.cels.c8; rw [hfin] at this; exact this)
  have k12 := z6.cels.c12
  clear z4 b5 h5 t5 b6
  go_wp2_with (first
    | ((with_reducible refine wpList_here ?_); refine wpList_loadV (o := ⟨some 28, _, _, _, _, _⟩) rfl 26 (.tmp 1) rfl _ _ s.vals rfl z6.range _ Tryd.underlying26 rfl infoSeg ?_))
  refine (HLO.out _ h7).mono ?_
  rintro e w8 ⟨rfl, b8⟩
  have z8 := z6.below b8
  have b9 := below_trans b7 b8
  have h9 := h7.below b8
  have t9 := t7.below b8
  clear z6 b7 h7 t7 k6 k8 k12
  go_wp2_with (first
    | ((with_reducible refine wpList_here ?_); refine wpList_loadV (o := ⟨some 32, _, _, _, _, _⟩) rfl 26 (.tmp 1) rfl _ _ s.vals rfl z8.range _ Tryd.underlying26 rfl infoSeg ?_))
  refine (HRR.out _ h9).mono ?_
  rintro e w10 ⟨rfl, b10⟩
  have z10 := z8.below b10
  have b11 := below_trans b9 b10
  have h11 := h9.below b10
  have t11 := t9.below b10
  clear z8 b9 h9 t9
  go_wp2_with fail
  have r12 := (R6.out.below b8).below b10
  refine (HGE.out _ h11 r12 t11).mono ?_
  rintro e w12 ⟨O, d, D, f, rfl, x12, b12⟩
  have z12 := z10.below b12
  have b13 := below_trans b11 b12
  have h13 := h11.below b12
  have r13 := r12.below b12
  clear z10 b11 h11 t11 b12 r12 b8 b10 R6 HGE
  go_wp2_with (first
    | ((with_reducible refine wpList_here ?_); refine wpList_allocV (o := ⟨some 6, _, _, _, _, _⟩) rfl 26 rfl _ zeroSeg _ rfl ?_; intro w14 y14 d14 s14)
    | ((with_reducible refine wpList_here ?_); refine wpList_storeV rfl 26 (.tmp 6) (.tmp 50) rfl _ _ (withS s O d D f).vals rfl rfl y14 rfl (sv_one _) infoSeg ?_; intro w15 y15 g15 s15; have d15 := v_below_g d14 g15 d14.size (Nat.le_refl _); have z15 := z12.below d15; have b15 := below_trans b13 d15; have h15 := h13.below d15; have x15 := x12.below d15; have r15 := r13.below d15; clear y14 d14 s14 g15 s15 d15 z12 b13 h13 x12 r13)
    | ((with_reducible refine wpList_here ?_); refine wpList_loadV (o := ⟨some 52, _, _, _, _, _⟩) rfl 26 (.tmp 1) rfl _ _ s.vals rfl z15.range _ Tryd.underlying26 rfl infoSeg ?_))
  generalize w12.heap.size = g6 at *
  refine (HSR.out _ h15).mono ?_
  rintro e w16 ⟨rfl, b16⟩
  have z17 := z15.below b16
  have y17 := y15.below b16
  have b17 := below_trans b15 b16
  have h17 := h15.below b16
  have x17 := x15.below b16
  have r17 := r15.below b16
  clear z15 y15 b15 h15 x15 r15 b16
  go_wp2_with (first
    | ((with_reducible refine wpList_here ?_); refine wpList_loadV (o := ⟨some 60, _, _, _, _, _⟩) rfl 26 (.tmp 1) rfl _ _ s.vals rfl z17.range _ Tryd.underlying26 rfl infoSeg ?_))
  refine (HRB.out _ h17).mono ?_
  rintro e w18 ⟨A9, c9, rfl, q18, _, b18⟩
  have z19 := z17.below b18
  have y19 := y17.below b18
  have b19 := below_trans b17 b18
  have h19 := h17.below b18
  have x19 := x17.below b18
  have r19 := r17.below b18
  clear z17 y17 b17 h17 x17 r17 b18
  go_wp2_with fail
  refine (Same_yes _ _ _ _ _ _ (sbs s) _ r19 q18).mono ?_
  rintro e w20 ⟨rfl, b20⟩
  have z21 := z19.below b20
  have y21 := y19.below b20
  have b21 := below_trans b19 b20
  have h21 := h19.below b20
  have x21 := x19.below b20
  have HSB := Lib.hid ((sameB_iff x21 h21).2 (with_same s O d D f))
  clear z19 y19 b19 h19 x19 r19 b20 q18
  go_wp2_with (first
    | ((with_reducible refine wpList_here ?_); refine wpList_loadV (o := ⟨some 69, _, _, _, _, _⟩) rfl 26 (.tmp 6) rfl _ _ (withS s O d D f).vals rfl y21.range _ Tryd.underlying26 rfl infoSeg ?_)
    | ((with_reducible refine wpList_here ?_); refine wpList_loadV (o := ⟨some 70, _, _, _, _, _⟩) rfl 26 (.tmp 1) rfl _ _ s.vals rfl z21.range _ Tryd.underlying26 rfl infoSeg ?_))
  refine (RSegSame_any (withS s O d D f) s _ x21 h21).mono ?_
  rw [HSB.out]
  rintro e w22 ⟨rfl, b22⟩
  have z23 := z21.below b22
  have y23 := y21.below b22
  have b23 := below_trans b21 b22
  have h23 := h21.below b22
  have x23 := x21.below b22
  clear z21 y21 b21 h21 x21 b22
  go_wp2_with (first
    | ((with_reducible refine wpList_here ?_); refine wpList_loadV (o := ⟨some 74, _, _, _, _, _⟩) rfl 26 (.tmp 6) rfl _ _ (withS s O d D f).vals rfl y23.range _ Tryd.underlying26 rfl infoSeg ?_)
    | ((with_reducible refine wpList_here ?_); refine wpList_loadV (o := ⟨some 75, _, _, _, _, _⟩) rfl 26 (.tmp 1) rfl _ _ s.vals rfl z23.range _ Tryd.underlying26 rfl infoSeg ?_))
  refine (SegSame_any (withS s O d D f) s _ x23 h23).mono ?_
  rw [HSB.out]
  rintro e w24 ⟨rfl, b24⟩
  have b25 := below_trans b23 b24
  go_wp2_with fail
  go_ret
  exact ⟨rfl, b25⟩

set_option maxRecDepth 8000 in
set_option maxHeartbeats 1600000 in
theorem Puts_false_true_false (s : Seg) (w : World) (h : SG w s) (hT : Tab w) (hlong : (decide (50 < s.on) || decide (200 < s.dn)) = false) (hd : s.dn ≤ 200) (hsyn : s.syn = true) (hfin : s.fin = false) (hr : rightS s = false) :
    Calls Tryd.prog 3 #[.agg s.vals.toArray] w (Held w) := by
  have HL1 := Lib.hid (fun W => long_law s W)
  rw [hlong] at HL1
  have HP := Lib.hid (fun W a b => SegPut_any s W a b)
  have HLO := Lib.hid (fun W hW => Long_any s W hW (by omega))
  obtain ⟨N, hN⟩ : ∃ N : Int, ((s.dn + b2n s.syn + b2n s.fin : Nat) : Int) = N := ⟨_, rfl⟩
  have hNe : (N != (s.dn : Int) + 1) = false := by rw [← hN, hsyn, hfin]; simp [b2n]
  rw [hN] at HLO
  have HRR := Lib.hid (fun W hW => RSegRight_any s W hW)
  have HSR := Lib.hid (fun W hW => SRight_any s W hW)
  rw [hr] at HRR HSR
  have HRS := Lib.hid hr
  clear hr hlong hN
  go_enter Tryd.func3, Tryd.ntmps3
  go_wp2_with (first
    | ((with_reducible refine wpList_here ?_); refine wpList_boxV (o := ⟨some 1, _, _, _, _, _⟩) rfl 26 (.tmp 0) rfl s.vals rfl _ rfl ?_; intro w1 z1 b1 s1))
  refine (swakes_any _ (hT.below b1)).mono ?_
  rintro e w2 ⟨rfl, b2⟩
  have z2 := z1.below b2
  have b3 := below_trans b1 b2
  have h3 := h.below b3
  have t3 := hT.below b3
  clear z1 b1 s1 b2 h hT
  go_wp2_with (first
    | ((with_reducible refine wpList_here ?_); refine wpList_loadV (o := ⟨some 10, _, _, _, _, _⟩) rfl 26 (.tmp 1) rfl _ _ s.vals rfl z2.range _ Tryd.underlying26 rfl infoSeg ?_))
  refine (HL1.out _).mono ?_
  rintro e w4 ⟨rfl, b4⟩
  have z4 := z2.below b4
  have b5 := below_trans b3 b4
  have h5 := h3.below b4
  have t5 := t3.below b4
  clear z2 b3 h3 t3 b4
  go_wp2_with (first
    | ((with_reducible refine wpList_here ?_); refine wpList_loadV (o := ⟨some 13, _, _, _, _, _⟩) rfl 26 (.tmp 1) rfl _ _ s.vals rfl z4.range _ Tryd.underlying26 rfl infoSeg ?_))
  refine (HP.out _ h5 t5).mono ?_
  rintro e w6 ⟨_, p6, b6⟩
  obtain rfl := p6 HRS.out
  clear p6
  have z6 := z4.below b6
  have b7 := below_trans b5 b6
  have h7 := h5.below b6
  have t7 := t5.below b6
  have k6 : w6.cell? ⟨w.heap.size, 6, none⟩ = some (.bool true) := (by have := z6.cels.c6; rw [hsyn] at this; exact this)
  have k8 : w6.cell? ⟨w.heap.size, 8, none⟩ = some (.bool false) := (by have := z6.cels.c8; rw [hfin] at this; exact this)
  have k12 := z6.cels.c12
  clear z4 b5 h5 t5 b6
  go_wp2_with (first
    | ((with_reducible refine wpList_here ?_); refine wpList_loadV (o := ⟨some 28, _, _, _, _, _⟩) rfl 26 (.tmp 1) rfl _ _ s.vals rfl z6.range _ Tryd.underlying26 rfl infoSeg ?_))
  refine (HLO.out _ h7).mono ?_
  rintro e w8 ⟨rfl, b8⟩
  have z8 := z6.below b8
  have b9 := below_trans b7 b8
  have h9 := h7.below b8
  have t9 := t7.below b8
  clear z6 b7 h7 t7 k6 k8 k12
  go_wp2_with (first
    | ((with_reducible refine wpList_here ?_); refine wpList_loadV (o := ⟨some 32, _, _, _, _, _⟩) rfl 26 (.tmp 1) rfl _ _ s.vals rfl z8.range _ Tryd.underlying26 rfl infoSeg ?_))
  refine (HRR.out _ h9).mono ?_
  rintro e w10 ⟨rfl, b10⟩
  have z10 := z8.below b10
  have b11 := below_trans b9 b10
  have h11 := h9.below b10
  have t11 := t9.below b10
  clear z8 b9 h9 t9 b10
  go_wp2_with (first
    | ((with_reducible refine wpList_here ?_); refine wpList_loadV (o := ⟨some 35, _, _, _, _, _⟩) rfl 26 (.tmp 1) rfl _ _ s.vals rfl z10.range _ Tryd.underlying26 rfl infoSeg ?_))
  refine (HSR.out _ h11).mono ?_
  rintro e w12 ⟨rfl, b12⟩
  have b13 := below_trans b11 b12
  go_wp2_with fail
  go_ret
  exact ⟨rfl, b13⟩

set_option maxRecDepth 8000 in
set_option maxHeartbeats 1600000 in
theorem Puts_true_true_false (s : Seg) (w : World) (h : SG w s) (hT : Tab w) (hlong : (decide (50 < s.on) || decide (200 < s.dn)) = false) (hd : s.dn ≤ 200) (hsyn : s.syn = true) (hfin : s.fin = false) (hr : rightS s = true) :
    Calls Tryd.prog 3 #[.agg s.vals.toArray] w (Held w) := by
  have HL1 := Lib.hid (fun W => long_law s W)
  rw [hlong] at HL1
  have HP := Lib.hid (fun W a b => SegPut_any s W a b)
  have HLO := Lib.hid (fun W hW => Long_any s W hW (by omega))
  obtain ⟨N, hN⟩ : ∃ N : Int, ((s.dn + b2n s.syn + b2n s.fin : Nat) : Int) = N := ⟨_, rfl⟩
  have hNe : (N != (s.dn : Int) + 1) = false := by rw [← hN, hsyn, hfin]; simp [b2n]
  rw [hN] at HLO
  have HRR := Lib.hid (fun W hW => RSegRight_any s W hW)
  have HSR := Lib.hid (fun W hW => SRight_any s W hW)
  rw [hr] at HRR HSR
  have HRS := Lib.hid hr
  clear hr hlong hN
  go_enter Tryd.func3, Tryd.ntmps3
  go_wp2_with (first
    | ((with_reducible refine wpList_here ?_); refine wpList_boxV (o := ⟨some 1, _, _, _, _, _⟩) rfl 26 (.tmp 0) rfl s.vals rfl _ rfl ?_; intro w1 z1 b1 s1))
  refine (swakes_any _ (hT.below b1)).mono ?_
  rintro e w2 ⟨rfl, b2⟩
  have z2 := z1.below b2
  have b3 := below_trans b1 b2
  have h3 := h.below b3
  have t3 := hT.below b3
  clear z1 b1 s1 b2 h hT
  go_wp2_with (first
    | ((with_reducible refine wpList_here ?_); refine wpList_loadV (o := ⟨some 10, _, _, _, _, _⟩) rfl 26 (.tmp 1) rfl _ _ s.vals rfl z2.range _ Tryd.underlying26 rfl infoSeg ?_))
  refine (HL1.out _).mono ?_
  rintro e w4 ⟨rfl, b4⟩
  have z4 := z2.below b4
  have b5 := below_trans b3 b4
  have h5 := h3.below b4
  have t5 := t3.below b4
  clear z2 b3 h3 t3 b4
  go_wp2_with (first
    | ((with_reducible refine wpList_here ?_); refine wpList_loadV (o := ⟨some 13, _, _, _, _, _⟩) rfl 26 (.tmp 1) rfl _ _ s.vals rfl z4.range _ Tryd.underlying26 rfl infoSeg ?_))
  refine (HP.out _ h5 t5).mono ?_
  rintro e w6 ⟨p6, _, b6⟩
  obtain ⟨A6, c6, rfl, r6, _⟩ := p6 HRS.out
  clear p6
  have R6 := Lib.hid r6
  have HGE := Lib.hid (fun W a b c => SegGet_ok s A6 (sbs s).length c6 W a HRS.out b c)
  have HRB := Lib.hid (fun W hW => RBytes_any s W hW HRS.out)
  clear r6
  generalize (sbs s).length = L at *
  have z6 := z4.below b6
  have b7 := below_trans b5 b6
  have h7 := h5.below b6
  have t7 := t5.below b6
  have k6 : w6.cell? ⟨w.heap.size, 6, none⟩ = some (.bool true) := (by have := z6.cels.c6; rw [hsyn] at this; exact this)
  have k8 : w6.cell? ⟨w.heap.size, 8, none⟩ = some (.bool false) := (by have := z6.cels.c8; rw [hfin] at this; exact this)
  have k12 := z6.cels.c12
  clear z4 b5 h5 t5 b6
  go_wp2_with (first
    | ((with_reducible refine wpList_here ?_); refine wpList_loadV (o := ⟨some 28, _, _, _, _, _⟩) rfl 26 (.tmp 1) rfl _ _ s.vals rfl z6.range _ Tryd.underlying26 rfl infoSeg ?_))
  refine (HLO.out _ h7).mono ?_
  rintro e w8 ⟨rfl, b8⟩
  have z8 := z6.below b8
  have b9 := below_trans b7 b8
  have h9 := h7.below b8
  have t9 := t7.below b8
  clear z6 b7 h7 t7 k6 k8 k12
  go_wp2_with (first
    | ((with_reducible refine wpList_here ?_); refine wpList_loadV (o := ⟨some 32, _, _, _, _, _⟩) rfl 26 (.tmp 1) rfl _ _ s.vals rfl z8.range _ Tryd.underlying26 rfl infoSeg ?_))
  refine (HRR.out _ h9).mono ?_
  rintro e w10 ⟨rfl, b10⟩
  have z10 := z8.below b10
  have b11 := below_trans b9 b10
  have h11 := h9.below b10
  have t11 := t9.below b10
  clear z8 b9 h9 t9
  go_wp2_with fail
  have r12 := (R6.out.below b8).below b10
  refine (HGE.out _ h11 r12 t11).mono ?_
  rintro e w12 ⟨O, d, D, f, rfl, x12, b12⟩
  have z12 := z10.below b12
  have b13 := below_trans b11 b12
  have h13 := h11.below b12
  have r13 := r12.below b12
  clear z10 b11 h11 t11 b12 r12 b8 b10 R6 HGE
  go_wp2_with (first
    | ((with_reducible refine wpList_here ?_); refine wpList_allocV (o := ⟨some 6, _, _, _, _, _⟩) rfl 26 rfl _ zeroSeg _ rfl ?_; intro w14 y14 d14 s14)
    | ((with_reducible refine wpList_here ?_); refine wpList_storeV rfl 26 (.tmp 6) (.tmp 50) rfl _ _ (withS s O d D f).vals rfl rfl y14 rfl (sv_one _) infoSeg ?_; intro w15 y15 g15 s15; have d15 := v_below_g d14 g15 d14.size (Nat.le_refl _); have z15 := z12.below d15; have b15 := below_trans b13 d15; have h15 := h13.below d15; have x15 := x12.below d15; have r15 := r13.below d15; clear y14 d14 s14 g15 s15 d15 z12 b13 h13 x12 r13)
    | ((with_reducible refine wpList_here ?_); refine wpList_loadV (o := ⟨some 52, _, _, _, _, _⟩) rfl 26 (.tmp 1) rfl _ _ s.vals rfl z15.range _ Tryd.underlying26 rfl infoSeg ?_))
  generalize w12.heap.size = g6 at *
  refine (HSR.out _ h15).mono ?_
  rintro e w16 ⟨rfl, b16⟩
  have z17 := z15.below b16
  have y17 := y15.below b16
  have b17 := below_trans b15 b16
  have h17 := h15.below b16
  have x17 := x15.below b16
  have r17 := r15.below b16
  clear z15 y15 b15 h15 x15 r15 b16
  go_wp2_with (first
    | ((with_reducible refine wpList_here ?_); refine wpList_loadV (o := ⟨some 60, _, _, _, _, _⟩) rfl 26 (.tmp 1) rfl _ _ s.vals rfl z17.range _ Tryd.underlying26 rfl infoSeg ?_))
  refine (HRB.out _ h17).mono ?_
  rintro e w18 ⟨A9, c9, rfl, q18, _, b18⟩
  have z19 := z17.below b18
  have y19 := y17.below b18
  have b19 := below_trans b17 b18
  have h19 := h17.below b18
  have x19 := x17.below b18
  have r19 := r17.below b18
  clear z17 y17 b17 h17 x17 r17 b18
  go_wp2_with fail
  refine (Same_yes _ _ _ _ _ _ (sbs s) _ r19 q18).mono ?_
  rintro e w20 ⟨rfl, b20⟩
  have z21 := z19.below b20
  have y21 := y19.below b20
  have b21 := below_trans b19 b20
  have h21 := h19.below b20
  have x21 := x19.below b20
  have HSB := Lib.hid ((sameB_iff x21 h21).2 (with_same s O d D f))
  clear z19 y19 b19 h19 x19 r19 b20 q18
  go_wp2_with (first
    | ((with_reducible refine wpList_here ?_); refine wpList_loadV (o := ⟨some 69, _, _, _, _, _⟩) rfl 26 (.tmp 6) rfl _ _ (withS s O d D f).vals rfl y21.range _ Tryd.underlying26 rfl infoSeg ?_)
    | ((with_reducible refine wpList_here ?_); refine wpList_loadV (o := ⟨some 70, _, _, _, _, _⟩) rfl 26 (.tmp 1) rfl _ _ s.vals rfl z21.range _ Tryd.underlying26 rfl infoSeg ?_))
  refine (RSegSame_any (withS s O d D f) s _ x21 h21).mono ?_
  rw [HSB.out]
  rintro e w22 ⟨rfl, b22⟩
  have z23 := z21.below b22
  have y23 := y21.below b22
  have b23 := below_trans b21 b22
  have h23 := h21.below b22
  have x23 := x21.below b22
  clear z21 y21 b21 h21 x21 b22
  go_wp2_with (first
    | ((with_reducible refine wpList_here ?_); refine wpList_loadV (o := ⟨some 74, _, _, _, _, _⟩) rfl 26 (.tmp 6) rfl _ _ (withS s O d D f).vals rfl y23.range _ Tryd.underlying26 rfl infoSeg ?_)
    | ((with_reducible refine wpList_here ?_); refine wpList_loadV (o := ⟨some 75, _, _, _, _, _⟩) rfl 26 (.tmp 1) rfl _ _ s.vals rfl z23.range _ Tryd.underlying26 rfl infoSeg ?_))
  refine (SegSame_any (withS s O d D f) s _ x23 h23).mono ?_
  rw [HSB.out]
  rintro e w24 ⟨rfl, b24⟩
  have b25 := below_trans b23 b24
  go_wp2_with fail
  go_ret
  exact ⟨rfl, b25⟩

set_option maxRecDepth 8000 in
set_option maxHeartbeats 1600000 in
theorem Puts_false_true_true (s : Seg) (w : World) (h : SG w s) (hT : Tab w) (hlong : (decide (50 < s.on) || decide (200 < s.dn)) = false) (hd : s.dn ≤ 200) (hsyn : s.syn = true) (hfin : s.fin = true) (hr : rightS s = false) :
    Calls Tryd.prog 3 #[.agg s.vals.toArray] w (Held w) := by
  have HL1 := Lib.hid (fun W => long_law s W)
  rw [hlong] at HL1
  have HP := Lib.hid (fun W a b => SegPut_any s W a b)
  have HLO := Lib.hid (fun W hW => Long_any s W hW (by omega))
  obtain ⟨N, hN⟩ : ∃ N : Int, ((s.dn + b2n s.syn + b2n s.fin : Nat) : Int) = N := ⟨_, rfl⟩
  have hNe : (N != (s.dn : Int) + 1 + 1) = false := by rw [← hN, hsyn, hfin]; simp [b2n]
  rw [hN] at HLO
  have HRR := Lib.hid (fun W hW => RSegRight_any s W hW)
  have HSR := Lib.hid (fun W hW => SRight_any s W hW)
  rw [hr] at HRR HSR
  have HRS := Lib.hid hr
  clear hr hlong hN
  go_enter Tryd.func3, Tryd.ntmps3
  go_wp2_with (first
    | ((with_reducible refine wpList_here ?_); refine wpList_boxV (o := ⟨some 1, _, _, _, _, _⟩) rfl 26 (.tmp 0) rfl s.vals rfl _ rfl ?_; intro w1 z1 b1 s1))
  refine (swakes_any _ (hT.below b1)).mono ?_
  rintro e w2 ⟨rfl, b2⟩
  have z2 := z1.below b2
  have b3 := below_trans b1 b2
  have h3 := h.below b3
  have t3 := hT.below b3
  clear z1 b1 s1 b2 h hT
  go_wp2_with (first
    | ((with_reducible refine wpList_here ?_); refine wpList_loadV (o := ⟨some 10, _, _, _, _, _⟩) rfl 26 (.tmp 1) rfl _ _ s.vals rfl z2.range _ Tryd.underlying26 rfl infoSeg ?_))
  refine (HL1.out _).mono ?_
  rintro e w4 ⟨rfl, b4⟩
  have z4 := z2.below b4
  have b5 := below_trans b3 b4
  have h5 := h3.below b4
  have t5 := t3.below b4
  clear z2 b3 h3 t3 b4
  go_wp2_with (first
    | ((with_reducible refine wpList_here ?_); refine wpList_loadV (o := ⟨some 13, _, _, _, _, _⟩) rfl 26 (.tmp 1) rfl _ _ s.vals rfl z4.range _ Tryd.underlying26 rfl infoSeg ?_))
  refine (HP.out _ h5 t5).mono ?_
  rintro e w6 ⟨_, p6, b6⟩
  obtain rfl := p6 HRS.out
  clear p6
  have z6 := z4.below b6
  have b7 := below_trans b5 b6
  have h7 := h5.below b6
  have t7 := t5.below b6
  have k6 : w6.cell? ⟨w.heap.size, 6, none⟩ = some (.bool true) := (by have := z6.cels.c6; rw [hsyn] at this; exact this)
  have k8 : w6.cell? ⟨w.heap.size, 8, none⟩ = some (.bool true) := (by have := z6.cels.c8; rw [hfin] at this; exact this)
  have k12 := z6.cels.c12
  clear z4 b5 h5 t5 b6
  go_wp2_with (first
    | ((with_reducible refine wpList_here ?_); refine wpList_loadV (o := ⟨some 28, _, _, _, _, _⟩) rfl 26 (.tmp 1) rfl _ _ s.vals rfl z6.range _ Tryd.underlying26 rfl infoSeg ?_))
  refine (HLO.out _ h7).mono ?_
  rintro e w8 ⟨rfl, b8⟩
  have z8 := z6.below b8
  have b9 := below_trans b7 b8
  have h9 := h7.below b8
  have t9 := t7.below b8
  clear z6 b7 h7 t7 k6 k8 k12
  go_wp2_with (first
    | ((with_reducible refine wpList_here ?_); refine wpList_loadV (o := ⟨some 32, _, _, _, _, _⟩) rfl 26 (.tmp 1) rfl _ _ s.vals rfl z8.range _ Tryd.underlying26 rfl infoSeg ?_))
  refine (HRR.out _ h9).mono ?_
  rintro e w10 ⟨rfl, b10⟩
  have z10 := z8.below b10
  have b11 := below_trans b9 b10
  have h11 := h9.below b10
  have t11 := t9.below b10
  clear z8 b9 h9 t9 b10
  go_wp2_with (first
    | ((with_reducible refine wpList_here ?_); refine wpList_loadV (o := ⟨some 35, _, _, _, _, _⟩) rfl 26 (.tmp 1) rfl _ _ s.vals rfl z10.range _ Tryd.underlying26 rfl infoSeg ?_))
  refine (HSR.out _ h11).mono ?_
  rintro e w12 ⟨rfl, b12⟩
  have b13 := below_trans b11 b12
  go_wp2_with fail
  go_ret
  exact ⟨rfl, b13⟩

set_option maxRecDepth 8000 in
set_option maxHeartbeats 1600000 in
theorem Puts_true_true_true (s : Seg) (w : World) (h : SG w s) (hT : Tab w) (hlong : (decide (50 < s.on) || decide (200 < s.dn)) = false) (hd : s.dn ≤ 200) (hsyn : s.syn = true) (hfin : s.fin = true) (hr : rightS s = true) :
    Calls Tryd.prog 3 #[.agg s.vals.toArray] w (Held w) := by
  have HL1 := Lib.hid (fun W => long_law s W)
  rw [hlong] at HL1
  have HP := Lib.hid (fun W a b => SegPut_any s W a b)
  have HLO := Lib.hid (fun W hW => Long_any s W hW (by omega))
  obtain ⟨N, hN⟩ : ∃ N : Int, ((s.dn + b2n s.syn + b2n s.fin : Nat) : Int) = N := ⟨_, rfl⟩
  have hNe : (N != (s.dn : Int) + 1 + 1) = false := by rw [← hN, hsyn, hfin]; simp [b2n]
  rw [hN] at HLO
  have HRR := Lib.hid (fun W hW => RSegRight_any s W hW)
  have HSR := Lib.hid (fun W hW => SRight_any s W hW)
  rw [hr] at HRR HSR
  have HRS := Lib.hid hr
  clear hr hlong hN
  go_enter Tryd.func3, Tryd.ntmps3
  go_wp2_with (first
    | ((with_reducible refine wpList_here ?_); refine wpList_boxV (o := ⟨some 1, _, _, _, _, _⟩) rfl 26 (.tmp 0) rfl s.vals rfl _ rfl ?_; intro w1 z1 b1 s1))
  refine (swakes_any _ (hT.below b1)).mono ?_
  rintro e w2 ⟨rfl, b2⟩
  have z2 := z1.below b2
  have b3 := below_trans b1 b2
  have h3 := h.below b3
  have t3 := hT.below b3
  clear z1 b1 s1 b2 h hT
  go_wp2_with (first
    | ((with_reducible refine wpList_here ?_); refine wpList_loadV (o := ⟨some 10, _, _, _, _, _⟩) rfl 26 (.tmp 1) rfl _ _ s.vals rfl z2.range _ Tryd.underlying26 rfl infoSeg ?_))
  refine (HL1.out _).mono ?_
  rintro e w4 ⟨rfl, b4⟩
  have z4 := z2.below b4
  have b5 := below_trans b3 b4
  have h5 := h3.below b4
  have t5 := t3.below b4
  clear z2 b3 h3 t3 b4
  go_wp2_with (first
    | ((with_reducible refine wpList_here ?_); refine wpList_loadV (o := ⟨some 13, _, _, _, _, _⟩) rfl 26 (.tmp 1) rfl _ _ s.vals rfl z4.range _ Tryd.underlying26 rfl infoSeg ?_))
  refine (HP.out _ h5 t5).mono ?_
  rintro e w6 ⟨p6, _, b6⟩
  obtain ⟨A6, c6, rfl, r6, _⟩ := p6 HRS.out
  clear p6
  have R6 := Lib.hid r6
  have HGE := Lib.hid (fun W a b c => SegGet_ok s A6 (sbs s).length c6 W a HRS.out b c)
  have HRB := Lib.hid (fun W hW => RBytes_any s W hW HRS.out)
  clear r6
  generalize (sbs s).length = L at *
  have z6 := z4.below b6
  have b7 := below_trans b5 b6
  have h7 := h5.below b6
  have t7 := t5.below b6
  have k6 : w6.cell? ⟨w.heap.size, 6, none⟩ = some (.bool true) := (by have := z6.cels.c6; rw [hsyn] at this; exact this)
  have k8 : w6.cell? ⟨w.heap.size, 8, none⟩ = some (.bool true) := (by have := z6.cels.c8; rw [hfin] at this; exact this)
  have k12 := z6.cels.c12
  clear z4 b5 h5 t5 b6
  go_wp2_with (first
    | ((with_reducible refine wpList_here ?_); refine wpList_loadV (o := ⟨some 28, _, _, _, _, _⟩) rfl 26 (.tmp 1) rfl _ _ s.vals rfl z6.range _ Tryd.underlying26 rfl infoSeg ?_))
  refine (HLO.out _ h7).mono ?_
  rintro e w8 ⟨rfl, b8⟩
  have z8 := z6.below b8
  have b9 := below_trans b7 b8
  have h9 := h7.below b8
  have t9 := t7.below b8
  clear z6 b7 h7 t7 k6 k8 k12
  go_wp2_with (first
    | ((with_reducible refine wpList_here ?_); refine wpList_loadV (o := ⟨some 32, _, _, _, _, _⟩) rfl 26 (.tmp 1) rfl _ _ s.vals rfl z8.range _ Tryd.underlying26 rfl infoSeg ?_))
  refine (HRR.out _ h9).mono ?_
  rintro e w10 ⟨rfl, b10⟩
  have z10 := z8.below b10
  have b11 := below_trans b9 b10
  have h11 := h9.below b10
  have t11 := t9.below b10
  clear z8 b9 h9 t9
  go_wp2_with fail
  have r12 := (R6.out.below b8).below b10
  refine (HGE.out _ h11 r12 t11).mono ?_
  rintro e w12 ⟨O, d, D, f, rfl, x12, b12⟩
  have z12 := z10.below b12
  have b13 := below_trans b11 b12
  have h13 := h11.below b12
  have r13 := r12.below b12
  clear z10 b11 h11 t11 b12 r12 b8 b10 R6 HGE
  go_wp2_with (first
    | ((with_reducible refine wpList_here ?_); refine wpList_allocV (o := ⟨some 6, _, _, _, _, _⟩) rfl 26 rfl _ zeroSeg _ rfl ?_; intro w14 y14 d14 s14)
    | ((with_reducible refine wpList_here ?_); refine wpList_storeV rfl 26 (.tmp 6) (.tmp 50) rfl _ _ (withS s O d D f).vals rfl rfl y14 rfl (sv_one _) infoSeg ?_; intro w15 y15 g15 s15; have d15 := v_below_g d14 g15 d14.size (Nat.le_refl _); have z15 := z12.below d15; have b15 := below_trans b13 d15; have h15 := h13.below d15; have x15 := x12.below d15; have r15 := r13.below d15; clear y14 d14 s14 g15 s15 d15 z12 b13 h13 x12 r13)
    | ((with_reducible refine wpList_here ?_); refine wpList_loadV (o := ⟨some 52, _, _, _, _, _⟩) rfl 26 (.tmp 1) rfl _ _ s.vals rfl z15.range _ Tryd.underlying26 rfl infoSeg ?_))
  generalize w12.heap.size = g6 at *
  refine (HSR.out _ h15).mono ?_
  rintro e w16 ⟨rfl, b16⟩
  have z17 := z15.below b16
  have y17 := y15.below b16
  have b17 := below_trans b15 b16
  have h17 := h15.below b16
  have x17 := x15.below b16
  have r17 := r15.below b16
  clear z15 y15 b15 h15 x15 r15 b16
  go_wp2_with (first
    | ((with_reducible refine wpList_here ?_); refine wpList_loadV (o := ⟨some 60, _, _, _, _, _⟩) rfl 26 (.tmp 1) rfl _ _ s.vals rfl z17.range _ Tryd.underlying26 rfl infoSeg ?_))
  refine (HRB.out _ h17).mono ?_
  rintro e w18 ⟨A9, c9, rfl, q18, _, b18⟩
  have z19 := z17.below b18
  have y19 := y17.below b18
  have b19 := below_trans b17 b18
  have h19 := h17.below b18
  have x19 := x17.below b18
  have r19 := r17.below b18
  clear z17 y17 b17 h17 x17 r17 b18
  go_wp2_with fail
  refine (Same_yes _ _ _ _ _ _ (sbs s) _ r19 q18).mono ?_
  rintro e w20 ⟨rfl, b20⟩
  have z21 := z19.below b20
  have y21 := y19.below b20
  have b21 := below_trans b19 b20
  have h21 := h19.below b20
  have x21 := x19.below b20
  have HSB := Lib.hid ((sameB_iff x21 h21).2 (with_same s O d D f))
  clear z19 y19 b19 h19 x19 r19 b20 q18
  go_wp2_with (first
    | ((with_reducible refine wpList_here ?_); refine wpList_loadV (o := ⟨some 69, _, _, _, _, _⟩) rfl 26 (.tmp 6) rfl _ _ (withS s O d D f).vals rfl y21.range _ Tryd.underlying26 rfl infoSeg ?_)
    | ((with_reducible refine wpList_here ?_); refine wpList_loadV (o := ⟨some 70, _, _, _, _, _⟩) rfl 26 (.tmp 1) rfl _ _ s.vals rfl z21.range _ Tryd.underlying26 rfl infoSeg ?_))
  refine (RSegSame_any (withS s O d D f) s _ x21 h21).mono ?_
  rw [HSB.out]
  rintro e w22 ⟨rfl, b22⟩
  have z23 := z21.below b22
  have y23 := y21.below b22
  have b23 := below_trans b21 b22
  have h23 := h21.below b22
  have x23 := x21.below b22
  clear z21 y21 b21 h21 x21 b22
  go_wp2_with (first
    | ((with_reducible refine wpList_here ?_); refine wpList_loadV (o := ⟨some 74, _, _, _, _, _⟩) rfl 26 (.tmp 6) rfl _ _ (withS s O d D f).vals rfl y23.range _ Tryd.underlying26 rfl infoSeg ?_)
    | ((with_reducible refine wpList_here ?_); refine wpList_loadV (o := ⟨some 75, _, _, _, _, _⟩) rfl 26 (.tmp 1) rfl _ _ s.vals rfl z23.range _ Tryd.underlying26 rfl infoSeg ?_))
  refine (SegSame_any (withS s O d D f) s _ x23 h23).mono ?_
  rw [HSB.out]
  rintro e w24 ⟨rfl, b24⟩
  have b25 := below_trans b23 b24
  go_wp2_with fail
  go_ret
  exact ⟨rfl, b25⟩

theorem SPuts_any (s : Seg) (w : World) (h : SG w s) (hT : Tab w) :
    Calls Tryd.prog 3 #[.agg s.vals.toArray] w (Held w) := by
  by_cases hlong : (decide (50 < s.on) || decide (200 < s.dn)) = true
  · exact Puts_long s w h hT hlong
  have hlong' : (decide (50 < s.on) || decide (200 < s.dn)) = false := by simpa using hlong
  have hd : s.dn ≤ 200 := by
    rw [Bool.or_eq_false_iff] at hlong'
    have := of_decide_eq_false hlong'.2
    omega
  cases hsyn : s.syn <;> cases hfin : s.fin <;> cases hr : rightS s
  · exact Puts_false_false_false s w h hT hlong' hd hsyn hfin hr
  · exact Puts_true_false_false s w h hT hlong' hd hsyn hfin hr
  · exact Puts_false_false_true s w h hT hlong' hd hsyn hfin hr
  · exact Puts_true_false_true s w h hT hlong' hd hsyn hfin hr
  · exact Puts_false_true_false s w h hT hlong' hd hsyn hfin hr
  · exact Puts_true_true_false s w h hT hlong' hd hsyn hfin hr
  · exact Puts_false_true_true s w h hT hlong' hd hsyn hfin hr
  · exact Puts_true_true_true s w h hT hlong' hd hsyn hfin hr
end Go.Proofs.YtbbpemndkphgeaaDoor
