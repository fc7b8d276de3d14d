/- The law DrecvActs. Conditions: the acts lie where the slice says. -/
import Derived.Test.YtancbdnpmabpfaaDrZ
namespace Go.Proofs.Ytancbdnpmabpfaa
set_option linter.unusedVariables false
set_option linter.unusedSimpArgs false
open Go.RowKit Go.Lib

set_option maxRecDepth 20000 in
set_option maxHeartbeats 12800000 in
theorem Acts_law (A : Option Addr) (n c : Nat) (l : List Da) (W : World) (hA : Das W A n c l) : Calls Try.prog 3 #[.slice A n c] W (Held W) := by
  have HW := Lib.hid (wakes_any W)
  have HA := Lib.hid hA
  have hcc := hA.cap
  have hcm := hA.max
  clear hA
  by_cases hn : 100 < n
  · have h' : (100 : Int) < (n : Int) := by omega
    go_enter Try.func3, Try.ntmps3
    go_wp2_with fail
    refine (HW.out).mono ?_
    rintro e w1 ⟨rfl, b1⟩
    have B1 := Lib.hid b1
    clear b1
    go_wp2_with fail
    go_ret
    exact ⟨rfl, B1.out⟩
  · have hg1 : ¬ ((100 : Int) < (n : Int)) := by omega
    go_enter Try.func3, Try.ntmps3
    go_wp2_with fail
    refine (HW.out).mono ?_
    rintro e w1 ⟨rfl, b1⟩
    have HN1 := Lib.hid (new_sv W w1 b1)
    clear b1
    go_wp2_with fail
    refine (HN1.out).mono ?_
    rintro e w2 ⟨rb, z2, rfl, S2, -, -⟩
    have HS2 := Lib.hid S2
    have HN2 := Lib.hid (rnew_any W.heap.size w2 S2.bel.size)
    clear S2 HN1
    unfold ptr at *
    go_wp2_with fail
    refine (HN2.out).mono ?_
    rintro e w3 ⟨xb, y3, rfl, X3, b3, lo3⟩
    have HB3 : Hid (Bo W w3 rb z2 Dr.new xb y3 Dr.new) := Lib.hid ⟨HS2.out.below b3, ⟨X3, HS2.out.bel.trans (b3.mono HS2.out.bel.size)⟩, fun k hk e => by have := lo3 k e; have := (HS2.out.s.w.in_ hk).2; omega⟩
    clear X3 b3 lo3 HN2 HS2
    unfold ptr at *
    go_wp2_with fail
    go_loopw [19] (fun ix wr => ∃ (j : Nat) (z : Sh) (d : Dr) (y : Ry), ix = .int .i64 (j : Int) ∧ j ≤ n ∧ d.t ≤ j ∧ Bo W wr rb z d xb y d) (fun ix _ => n - (intOf ix).toNat)
    case atStart => exact ⟨0, z2, Dr.new, y3, rfl, Nat.zero_le _, Nat.le_refl _, HB3.out⟩
    case round =>
      obtain ⟨j, z5, d, y5, rfl, hj, hfin, B5⟩ := hrel
      by_cases hjn : j < n
      · have hOW := (HA.out.at_ hjn)
        obtain ⟨g0, o0, ho0, okW, -, -, -⟩ := hOW
        obtain ⟨g, o, rfl, ok, x0, x1, x2⟩ := (HA.out.below B5.s.bel).at_ hjn
        generalize l.getD j default = a at *
        obtain ⟨kd, an, bA, bn, bc, bs⟩ := a
        dsimp only at *
        have HOK := Lib.hid okW
        have hb := below_a wr (.cells #[.int .i64 kd, .int .i64 an, .slice bA bn bc] 30)
        have HB6 := Lib.hid (B5.below hb)
        have HAG : Hid (Ag (wr.alloc (.cells #[.int .i64 kd, .int .i64 an, .slice bA bn bc] 30)) rb z5 xb y5 wr.heap.size) := Lib.hid (B5.fresh _)
        obtain ⟨y0, y1, y2⟩ := cell3 wr (.int .i64 kd) (.int .i64 an) (.slice bA bn bc) 30
        have HF := Lib.hid (And.intro hfin hn)
        have HJ := Lib.hid hj
        have HJN := Lib.hid hjn
        have hjc : (j : Int) < (n : Int) := by omega
        clear ok okW ho0 hb B5 hfin hn hj
        obtain ⟨gt, hgt⟩ : ∃ gt, gt = wr.heap.size := ⟨_, rfl⟩
        go_upto_region 9 with (fail)
        rw [← hgt] at y0 y1 y2 HAG ⊢
        clear hgt x0 x1 x2
        generalize wr.alloc (.cells #[.int .i64 kd, .int .i64 an, .slice bA bn bc] 30) = w6 at *
        have hnm := HB6.out.s.s.nums
        have HNM := Lib.hid hnm
        have HOKD := Lib.hid HB6.out.s.s.ok
        have HNX := Lib.hid (fun (w : World) (y : Ry) (h : Xv W w xb y d) => h.next HOKD.out (by have := HF.out; omega))
        have HNA := Lib.hid (fun w => near_any an w)
        have hni := near_in an
        obtain ⟨x9, hx9⟩ : ∃ x9, x9 = (d.nx : Int) + nearN an := ⟨_, rfl⟩
        have hwx : IntKind.i64.wrap ((d.nx : Int) + nearN an) = x9 := by rw [IntKind.wrap_i64]; omega
        have HX9 : Hid (-1000 ≤ x9 ∧ x9 ≤ 2147483648) := Lib.hid (by omega)
        generalize nearN an = na at *
        clear hni hx9 hnm hjn
        by_cases k0 : kd = 0
        · subst k0
          by_cases hbn : 100 < bn
          · have hb1 : (100 : Int) < (bn : Int) := by omega
            go_wp2_with fail
            go_ret
            exact ⟨rfl, HB6.out.s.bel⟩
          · have hb1 : ¬ ((100 : Int) < (bn : Int)) := by omega
            have HBN := Lib.hid hbn
            have HPU := Lib.hid (fun (w : World) (h : Sv W w rb z5 d) => h.put (x := x9) (by have := HX9.out; omega) (HOK.out.row.below h.bel) (by have := HBN.out; show bn ≤ _; omega) (by have := HF.out; omega))
            have HXP := Lib.hid (fun (w : World) (y : Ry) (h : Xv W w xb y d) => rput_any h HOKD.out (by have := HF.out; omega) (x := x9) (by have := HX9.out; omega) HOK.out.row (by have := HBN.out; show bn ≤ _; omega))
            have HXP : Hid (∀ (w : World) (y : Ry), Xv W w xb y d → Calls Try.prog 14 #[.pointer (some ⟨xb, 0, none⟩), .int .i64 x9, .slice bA bn bc] w fun e w' => ∃ y', e = .returned (.int .i64 (d.hits x9 bs.length : Int)) ∧ LeftR W.heap.size w xb y (d.put x9 bs) w' y') := Lib.hid (fun w y h => (HXP.out w y h).mono fun e w' ⟨he, y', hl⟩ => ⟨y', he, hl⟩)
            have HTT : Hid ((d.put x9 bs).t ≤ j + 1) := Lib.hid (Nat.succ_le_succ HF.out.1)
            dsimp only at HPU
            generalize d.hits x9 bs.length = hh at *
            generalize d.put x9 bs = d9 at *
            unfold ptr at *
            clear hbn
            have z1 : w6.drew.cell? ⟨gt, 1, none⟩ = some (.int .i64 an) ∧ w6.drew.cell? ⟨gt, 2, none⟩ = some (.slice bA bn bc) := ⟨y1, y2⟩
            have HB7 := Lib.hid (HB6.out.below (Below.refl _ _).drew)
            have HAG7 := Lib.hid (HAG.out.below (Below.refl _ _).drew).1
            go_upto_region 13 with (fail)
            clear y0 y1 y2
            refine wp_region_noPanic ?_
            refine until_start (fun W => W.cell? ⟨gt, 1, none⟩ = some (.int .i64 an) ∧ W.cell? ⟨gt, 2, none⟩ = some (.slice bA bn bc)) 19 (by kernel_rfl) z1 (fun _ => ?_)
            refine until_take (i := 0) (v := .pointer (some ⟨rb, 0, none⟩)) (some 31) [9, 12, 15, 19] rfl rfl (by kernel_rfl) (by kernel_rfl) (by kernel_rfl) (by kernel_rfl) rfl rfl (fun _ _ _ h => h) (Or.inl ⟨by rfl, fun W hW => by go_simp⟩) z1 ?_
            simp only [Act.put, List.setIfInBounds_toArray, List.set_cons_zero, List.set_cons_succ]
            refine until_take (i := 1) (v := .pointer (some ⟨xb, 0, none⟩)) (some 32) [2, 5, 9, 12, 15, 19] rfl rfl (by kernel_rfl) (by kernel_rfl) (by kernel_rfl) (by kernel_rfl) rfl rfl (fun _ _ _ h => h) (Or.inl ⟨by rfl, fun W hW => by go_simp⟩) z1 ?_
            simp only [Act.put, List.setIfInBounds_toArray, List.set_cons_zero, List.set_cons_succ]
            refine until_take (i := 3) (v := .pointer (some ⟨gt, 1, none⟩)) (some 34) [4, 5, 9, 12, 15, 19] rfl rfl (by kernel_rfl) (by kernel_rfl) (by kernel_rfl) (by kernel_rfl) rfl rfl (fun _ _ _ h => h) (Or.inl ⟨by rfl, fun W hW => by go_simp⟩) z1 ?_
            simp only [Act.put, List.setIfInBounds_toArray, List.set_cons_zero, List.set_cons_succ]
            refine until_take (i := 7) (v := .pointer (some ⟨gt, 2, none⟩)) (some 38) [8, 9, 12, 15, 19] rfl rfl (by kernel_rfl) (by kernel_rfl) (by kernel_rfl) (by kernel_rfl) rfl rfl (fun _ _ _ h => h) (Or.inl ⟨by rfl, fun W hW => by go_simp⟩) z1 ?_
            simp only [Act.put, List.setIfInBounds_toArray, List.set_cons_zero, List.set_cons_succ]
            refine until_take (i := 10) (v := .pointer (some ⟨xb, 0, none⟩)) (some 41) [19] rfl rfl (by kernel_rfl) (by kernel_rfl) (by kernel_rfl) (by kernel_rfl) rfl rfl (fun _ _ _ h => h) (Or.inl ⟨by rfl, fun W hW => by go_simp⟩) z1 ?_
            simp only [Act.put, List.setIfInBounds_toArray, List.set_cons_zero, List.set_cons_succ]
            refine until_take (i := 11) (v := .pointer (some ⟨xb, 0, none⟩)) (some 42) [12, 15, 19] rfl rfl (by kernel_rfl) (by kernel_rfl) (by kernel_rfl) (by kernel_rfl) rfl rfl (fun _ _ _ h => h) (Or.inl ⟨by rfl, fun W hW => by go_simp⟩) z1 ?_
            simp only [Act.put, List.setIfInBounds_toArray, List.set_cons_zero, List.set_cons_succ]
            refine until_take (i := 13) (v := .pointer (some ⟨gt, 1, none⟩)) (some 44) [14, 15, 19] rfl rfl (by kernel_rfl) (by kernel_rfl) (by kernel_rfl) (by kernel_rfl) rfl rfl (fun _ _ _ h => h) (Or.inl ⟨by rfl, fun W hW => by go_simp⟩) z1 ?_
            simp only [Act.put, List.setIfInBounds_toArray, List.set_cons_zero, List.set_cons_succ]
            refine until_take (i := 17) (v := .pointer (some ⟨gt, 2, none⟩)) (some 48) [18, 19] rfl rfl (by kernel_rfl) (by kernel_rfl) (by kernel_rfl) (by kernel_rfl) rfl rfl (fun _ _ _ h => h) (Or.inl ⟨by rfl, fun W hW => by go_simp⟩) z1 ?_
            simp only [Act.put, List.setIfInBounds_toArray, List.set_cons_zero, List.set_cons_succ]
            refine until_take (i := 4) (v := .int .i64 an) (some 35) [5, 9, 12, 15, 19] rfl rfl (by kernel_rfl) (by kernel_rfl) (by kernel_rfl) (by kernel_rfl) rfl rfl (fun _ _ _ h => h) (Or.inl ⟨by rfl, fun W hW => by have hc := hW.1; go_simp⟩) z1 ?_
            simp only [Act.put, List.setIfInBounds_toArray, List.set_cons_zero, List.set_cons_succ]
            refine until_take (i := 8) (v := .slice bA bn bc) (some 39) [9, 12, 15, 19] rfl rfl (by kernel_rfl) (by kernel_rfl) (by kernel_rfl) (by kernel_rfl) rfl rfl (fun _ _ _ h => h) (Or.inl ⟨by rfl, fun W hW => by have hc := hW.2; go_simp⟩) z1 ?_
            simp only [Act.put, List.setIfInBounds_toArray, List.set_cons_zero, List.set_cons_succ]
            refine until_take (i := 14) (v := .int .i64 an) (some 45) [15, 19] rfl rfl (by kernel_rfl) (by kernel_rfl) (by kernel_rfl) (by kernel_rfl) rfl rfl (fun _ _ _ h => h) (Or.inl ⟨by rfl, fun W hW => by have hc := hW.1; go_simp⟩) z1 ?_
            simp only [Act.put, List.setIfInBounds_toArray, List.set_cons_zero, List.set_cons_succ]
            refine until_take (i := 18) (v := .slice bA bn bc) (some 49) [19] rfl rfl (by kernel_rfl) (by kernel_rfl) (by kernel_rfl) (by kernel_rfl) rfl rfl (fun _ _ _ h => h) (Or.inl ⟨by rfl, fun W hW => by have hc := hW.2; go_simp⟩) z1 ?_
            simp only [Act.put, List.setIfInBounds_toArray, List.set_cons_zero, List.set_cons_succ]
            refine until_step (i := 2) (by kernel_rfl) rfl rfl (fun K hK => ?_)
            go_simp
            refine (HNX.out _ _ HB7.out.x).mono ?_
            rintro e w8 ⟨rfl, rfl⟩
            try dsimp only
            refine hK.out _ _ z1 (fun _ => ?_)
            clear hK
            try simp only [Act.put, List.setIfInBounds_toArray, List.set_cons_zero, List.set_cons_succ]
            refine until_step (i := 5) (by kernel_rfl) rfl rfl (fun K hK => ?_)
            go_simp
            refine (HNA.out _).mono ?_
            rintro e w8 ⟨rfl, rfl⟩
            try dsimp only
            refine hK.out _ _ z1 (fun _ => ?_)
            clear hK
            try simp only [Act.put, List.setIfInBounds_toArray, List.set_cons_zero, List.set_cons_succ]
            refine until_take (i := 6) (v := .int .i64 x9) (some 37) [9, 12, 15, 19] rfl rfl (by kernel_rfl) (by kernel_rfl) (by kernel_rfl) (by kernel_rfl) rfl rfl (fun _ _ _ h => h) (Or.inl ⟨by rfl, fun W hW => by have hc := hwx; go_simp⟩) z1 ?_
            simp only [Act.put, List.setIfInBounds_toArray, List.set_cons_zero, List.set_cons_succ]
            refine until_step (i := 9) (by kernel_rfl) rfl rfl (fun K hK => ?_)
            go_simp
            refine (HPU.out _ HB7.out.s).mono ?_
            rintro e w8 ⟨z8, rfl, S8, M8⟩
            have HB8 := Lib.hid (HB7.out.stepS S8 M8)
            have hag8 := (HAG7.out.stepS M8).2
            have z3 : w8.cell? ⟨gt, 1, none⟩ = some (.int .i64 an) ∧ w8.cell? ⟨gt, 2, none⟩ = some (.slice bA bn bc) := ⟨(cell_blk hag8 1).trans z1.1, (cell_blk hag8 2).trans z1.2⟩
            clear S8 M8 hag8 HPU
            try dsimp only
            refine hK.out _ _ z3 (fun _ => ?_)
            clear hK
            try simp only [Act.put, List.setIfInBounds_toArray, List.set_cons_zero, List.set_cons_succ]
            refine until_step (i := 12) (by kernel_rfl) rfl rfl (fun K hK => ?_)
            go_simp
            refine (HNX.out _ _ HB8.out.x).mono ?_
            rintro e w8 ⟨rfl, rfl⟩
            try dsimp only
            refine hK.out _ _ z3 (fun _ => ?_)
            clear hK
            try simp only [Act.put, List.setIfInBounds_toArray, List.set_cons_zero, List.set_cons_succ]
            refine until_step (i := 15) (by kernel_rfl) rfl rfl (fun K hK => ?_)
            go_simp
            refine (HNA.out _).mono ?_
            rintro e w8 ⟨rfl, rfl⟩
            try dsimp only
            refine hK.out _ _ z3 (fun _ => ?_)
            clear hK
            try simp only [Act.put, List.setIfInBounds_toArray, List.set_cons_zero, List.set_cons_succ]
            refine until_take (i := 16) (v := .int .i64 x9) (some 47) [19] rfl rfl (by kernel_rfl) (by kernel_rfl) (by kernel_rfl) (by kernel_rfl) rfl rfl (fun _ _ _ h => h) (Or.inl ⟨by rfl, fun W hW => by have hc := hwx; go_simp⟩) z3 ?_
            simp only [Act.put, List.setIfInBounds_toArray, List.set_cons_zero, List.set_cons_succ]
            refine until_last (by kernel_rfl) rfl (fun K hK => ?_)
            go_simp
            refine (HXP.out _ _ HB8.out.x).mono ?_
            rintro e w9 ⟨y9, rfl, L9⟩
            have HB9 := Lib.hid (HB8.out.stepX L9)
            clear L9 HXP
            try dsimp only
            refine hK.out _ _ ?_
            clear hK
            try simp only [Act.put, List.setIfInBounds_toArray, List.set_cons_zero, List.set_cons_succ]
            refine held_take (i := 20) (v := .bool false) (some 51) rfl rfl (by kernel_rfl) (by kernel_rfl) (by kernel_rfl) (fun _ _ _ h => h) (Or.inl ⟨by rfl, fun W hW => by go_simp⟩) trivial ?_
            simp only [Act.put, List.setIfInBounds_toArray, List.set_cons_zero, List.set_cons_succ]
            refine wpAnyH_done (by kernel_rfl) ?_ _
            refine NoPanic.normal ?_
            clear z1 z3 hwx
            have HSA := Lib.hid (same_any HB9.out)
            unfold ptr at HSA
            go_wp2_with fail
            refine (HSA.out).mono ?_
            rintro e w20 ⟨rfl, b20⟩
            have HB20 := Lib.hid (HB9.out.below b20)
            clear b20 HSA
            go_wp2_with fail
            go_roundw
            case rel => exact ⟨j + 1, _, _, _, by go_num, by have := HJN.out; omega, HTT.out, HB20.out⟩
            case measure => have := HJN.out; simp [intOf]; omega
        · have k0b : ((kd : Int) == 0) = false := by simpa using k0
          by_cases k1 : kd = 1
          · subst k1
            have HEN := Lib.hid (fun (w : World) (h : Sv W w rb z5 d) => End_any h.s x9)
            have HEN : Hid (∀ (w : World), Sv W w rb z5 d → Calls Try.prog 15 #[.pointer (some ⟨rb, 0, none⟩), .int .i64 x9] w fun e w' => e = .returned (.bool (d.may x9)) ∧ Sv W w' rb z5 (d.tell x9) ∧ Mv w rb z5 w' z5) := Lib.hid (fun w h => (HEN.out w h).mono fun e w' ⟨he, hl⟩ => ⟨he, h.step hl, hl.m⟩)
            have HXT := Lib.hid (fun (w : World) (y : Ry) (h : Xv W w xb y d) => rtell_any h.s HOKD.out (by have := HF.out; omega) x9)
            have HXT : Hid (∀ (w : World) (y : Ry), Xv W w xb y d → Calls Try.prog 16 #[.pointer (some ⟨xb, 0, none⟩), .int .i64 x9] w fun e w' => e = .returned (.bool (d.may x9)) ∧ LeftR W.heap.size w xb y (d.tell x9) w' y) := Lib.hid (fun w y h => (HXT.out w y h).mono fun e w' ⟨he, hl⟩ => ⟨he, hl⟩)
            have HTT : Hid ((d.tell x9).t ≤ j + 1) := Lib.hid (by have := HF.out.1; unfold Dr.tell; split <;> (try (show d.t ≤ j + 1)) <;> omega)
            generalize d.may x9 = mb at *
            generalize d.tell x9 = d9 at *
            unfold ptr at *
            have z1 : w6.drew.cell? ⟨gt, 1, none⟩ = some (.int .i64 an) := y1
            have HB7 := Lib.hid (HB6.out.below (Below.refl _ _).drew)
            have HAG7 := Lib.hid (HAG.out.below (Below.refl _ _).drew).1
            go_upto_region 16 with (fail)
            clear y0 y1 y2
            refine wp_region_noPanic ?_
            refine until_start (fun W => W.cell? ⟨gt, 1, none⟩ = some (.int .i64 an)) 15 (by kernel_rfl) z1 (fun _ => ?_)
            refine until_take (i := 0) (v := .pointer (some ⟨rb, 0, none⟩)) (some 54) [7, 10, 13, 15] rfl rfl (by kernel_rfl) (by kernel_rfl) (by kernel_rfl) (by kernel_rfl) rfl rfl (fun _ _ _ h => h) (Or.inl ⟨by rfl, fun W hW => by go_simp⟩) z1 ?_
            simp only [Act.put, List.setIfInBounds_toArray, List.set_cons_zero, List.set_cons_succ]
            refine until_take (i := 1) (v := .pointer (some ⟨xb, 0, none⟩)) (some 55) [2, 5, 7, 10, 13, 15] rfl rfl (by kernel_rfl) (by kernel_rfl) (by kernel_rfl) (by kernel_rfl) rfl rfl (fun _ _ _ h => h) (Or.inl ⟨by rfl, fun W hW => by go_simp⟩) z1 ?_
            simp only [Act.put, List.setIfInBounds_toArray, List.set_cons_zero, List.set_cons_succ]
            refine until_take (i := 3) (v := .pointer (some ⟨gt, 1, none⟩)) (some 57) [4, 5, 7, 10, 13, 15] rfl rfl (by kernel_rfl) (by kernel_rfl) (by kernel_rfl) (by kernel_rfl) rfl rfl (fun _ _ _ h => h) (Or.inl ⟨by rfl, fun W hW => by go_simp⟩) z1 ?_
            simp only [Act.put, List.setIfInBounds_toArray, List.set_cons_zero, List.set_cons_succ]
            refine until_take (i := 8) (v := .pointer (some ⟨xb, 0, none⟩)) (some 62) [15] rfl rfl (by kernel_rfl) (by kernel_rfl) (by kernel_rfl) (by kernel_rfl) rfl rfl (fun _ _ _ h => h) (Or.inl ⟨by rfl, fun W hW => by go_simp⟩) z1 ?_
            simp only [Act.put, List.setIfInBounds_toArray, List.set_cons_zero, List.set_cons_succ]
            refine until_take (i := 9) (v := .pointer (some ⟨xb, 0, none⟩)) (some 63) [10, 13, 15] rfl rfl (by kernel_rfl) (by kernel_rfl) (by kernel_rfl) (by kernel_rfl) rfl rfl (fun _ _ _ h => h) (Or.inl ⟨by rfl, fun W hW => by go_simp⟩) z1 ?_
            simp only [Act.put, List.setIfInBounds_toArray, List.set_cons_zero, List.set_cons_succ]
            refine until_take (i := 11) (v := .pointer (some ⟨gt, 1, none⟩)) (some 65) [12, 13, 15] rfl rfl (by kernel_rfl) (by kernel_rfl) (by kernel_rfl) (by kernel_rfl) rfl rfl (fun _ _ _ h => h) (Or.inl ⟨by rfl, fun W hW => by go_simp⟩) z1 ?_
            simp only [Act.put, List.setIfInBounds_toArray, List.set_cons_zero, List.set_cons_succ]
            refine until_take (i := 4) (v := .int .i64 an) (some 58) [5, 7, 10, 13, 15] rfl rfl (by kernel_rfl) (by kernel_rfl) (by kernel_rfl) (by kernel_rfl) rfl rfl (fun _ _ _ h => h) (Or.inl ⟨by rfl, fun W hW => by have hc := hW; go_simp⟩) z1 ?_
            simp only [Act.put, List.setIfInBounds_toArray, List.set_cons_zero, List.set_cons_succ]
            refine until_take (i := 12) (v := .int .i64 an) (some 66) [13, 15] rfl rfl (by kernel_rfl) (by kernel_rfl) (by kernel_rfl) (by kernel_rfl) rfl rfl (fun _ _ _ h => h) (Or.inl ⟨by rfl, fun W hW => by have hc := hW; go_simp⟩) z1 ?_
            simp only [Act.put, List.setIfInBounds_toArray, List.set_cons_zero, List.set_cons_succ]
            refine until_step (i := 2) (by kernel_rfl) rfl rfl (fun K hK => ?_)
            go_simp
            refine (HNX.out _ _ HB7.out.x).mono ?_
            rintro e w8 ⟨rfl, rfl⟩
            try dsimp only
            refine hK.out _ _ z1 (fun _ => ?_)
            clear hK
            try simp only [Act.put, List.setIfInBounds_toArray, List.set_cons_zero, List.set_cons_succ]
            refine until_step (i := 5) (by kernel_rfl) rfl rfl (fun K hK => ?_)
            go_simp
            refine (HNA.out _).mono ?_
            rintro e w8 ⟨rfl, rfl⟩
            try dsimp only
            refine hK.out _ _ z1 (fun _ => ?_)
            clear hK
            try simp only [Act.put, List.setIfInBounds_toArray, List.set_cons_zero, List.set_cons_succ]
            refine until_take (i := 6) (v := .int .i64 x9) (some 60) [7, 10, 13, 15] rfl rfl (by kernel_rfl) (by kernel_rfl) (by kernel_rfl) (by kernel_rfl) rfl rfl (fun _ _ _ h => h) (Or.inl ⟨by rfl, fun W hW => by have hc := hwx; go_simp⟩) z1 ?_
            simp only [Act.put, List.setIfInBounds_toArray, List.set_cons_zero, List.set_cons_succ]
            refine until_step (i := 7) (by kernel_rfl) rfl rfl (fun K hK => ?_)
            go_simp
            refine (HEN.out _ HB7.out.s).mono ?_
            rintro e w8 ⟨rfl, S8, M8⟩
            have HB8 := Lib.hid (HB7.out.stepS S8 M8)
            have hag8 := (HAG7.out.stepS M8).2
            have z3 : w8.cell? ⟨gt, 1, none⟩ = some (.int .i64 an) := (cell_blk hag8 1).trans z1
            clear S8 M8 hag8 HEN
            try dsimp only
            refine hK.out _ _ z3 (fun _ => ?_)
            clear hK
            try simp only [Act.put, List.setIfInBounds_toArray, List.set_cons_zero, List.set_cons_succ]
            refine until_step (i := 10) (by kernel_rfl) rfl rfl (fun K hK => ?_)
            go_simp
            refine (HNX.out _ _ HB8.out.x).mono ?_
            rintro e w8 ⟨rfl, rfl⟩
            try dsimp only
            refine hK.out _ _ z3 (fun _ => ?_)
            clear hK
            try simp only [Act.put, List.setIfInBounds_toArray, List.set_cons_zero, List.set_cons_succ]
            refine until_step (i := 13) (by kernel_rfl) rfl rfl (fun K hK => ?_)
            go_simp
            refine (HNA.out _).mono ?_
            rintro e w8 ⟨rfl, rfl⟩
            try dsimp only
            refine hK.out _ _ z3 (fun _ => ?_)
            clear hK
            try simp only [Act.put, List.setIfInBounds_toArray, List.set_cons_zero, List.set_cons_succ]
            refine until_take (i := 14) (v := .int .i64 x9) (some 68) [15] rfl rfl (by kernel_rfl) (by kernel_rfl) (by kernel_rfl) (by kernel_rfl) rfl rfl (fun _ _ _ h => h) (Or.inl ⟨by rfl, fun W hW => by have hc := hwx; go_simp⟩) z3 ?_
            simp only [Act.put, List.setIfInBounds_toArray, List.set_cons_zero, List.set_cons_succ]
            refine until_last (by kernel_rfl) rfl (fun K hK => ?_)
            go_simp
            refine (HXT.out _ _ HB8.out.x).mono ?_
            rintro e w9 ⟨rfl, L9⟩
            have HB9 := Lib.hid (HB8.out.stepX L9)
            clear L9 HXT
            try dsimp only
            refine hK.out _ _ ?_
            clear hK
            try simp only [Act.put, List.setIfInBounds_toArray, List.set_cons_zero, List.set_cons_succ]
            refine held_take (i := 16) (v := .bool false) (some 70) rfl rfl (by kernel_rfl) (by kernel_rfl) (by kernel_rfl) (fun _ _ _ h => h) (Or.inl ⟨by rfl, fun W hW => by go_simp⟩) trivial ?_
            simp only [Act.put, List.setIfInBounds_toArray, List.set_cons_zero, List.set_cons_succ]
            refine wpAnyH_done (by kernel_rfl) ?_ _
            refine NoPanic.normal ?_
            clear z1 z3 hwx
            have HSA := Lib.hid (same_any HB9.out)
            unfold ptr at HSA
            go_wp2_with fail
            refine (HSA.out).mono ?_
            rintro e w20 ⟨rfl, b20⟩
            have HB20 := Lib.hid (HB9.out.below b20)
            clear b20 HSA
            go_wp2_with fail
            go_roundw
            case rel => exact ⟨j + 1, _, _, _, by go_num, by have := HJN.out; omega, HTT.out, HB20.out⟩
            case measure => have := HJN.out; simp [intOf]; omega
          · have k1b : ((kd : Int) == 1) = false := by simpa using k1
            by_cases k2 : kd = 2
            · subst k2
              have HRE := Lib.hid (HB6.out.s.read (m := an) HOK.out.n)
              have HGE := Lib.hid (fun (w : World) (h : Xv W w xb y5 d) => rget_any h.s HOKD.out (by have := HF.out; omega) h.bel.size (m := an))
              have HTT : Hid ((d.read an).t ≤ j + 1) := Lib.hid (Nat.le_succ_of_le HF.out.1)
              have HBB := Lib.hid HB6.out
              clear hwx HNX HNA
              unfold ptr at *
              go_wp2_with fail
              refine (HRE.out).mono ?_
              rintro e w9 ⟨v9, z9, rfl, T9, S9, M9⟩
              have HB9 := Lib.hid (HBB.out.stepS S9 M9)
              have HGE9 := Lib.hid (HGE.out w9 HB9.out.x)
              have HT9 := Lib.hid T9
              have HA9 := Lib.hid (HAG.out.stepS M9)
              obtain ⟨A9, c9, rfl, r9⟩ := T9.row
              have HR9 := Lib.hid r9
              have q1 : w9.cell? ⟨gt, 1, none⟩ = some (.int .i64 an) := (cell_blk HA9.out.2 1).trans y1
              have HSZ6 : Hid (∀ k, y5.T xb k → k < w6.heap.size) := Lib.hid (fun k hk => (HBB.out.x.s.in_ hk).2)
              clear T9 S9 M9 r9 y0 y1 y2 HRE HGE
              unfold ptr at HGE9
              go_wp2_with fail
              refine (HGE9.out).mono ?_
              rintro e w10 ⟨v10, rfl, ⟨A10, c10, rfl, r10⟩, L10⟩
              have HB10 := Lib.hid (HB9.out.stepX L10)
              have HR10 := Lib.hid r10
              have HRR : Hid (RB w10 A9 (d.most an) c9 (d.got an)) := Lib.hid (rb_ch HR9.out L10.ch (fun g o s e hn ht => by
                have h1 := (HT9.out.far g (by rw [e]; rfl)).1
                have h2 := HSZ6.out g ht
                omega))
              have hbb := below_a w10 (.cells #[.slice A10 (d.most an) c10, .int .i64 d.err] 39)
              have HB11 := Lib.hid (HB10.out.below hbb)
              have HSM := Lib.hid (Same_any A9 A10 (d.most an) c9 (d.most an) c10 (d.got an) (d.got an) _ (HRR.out.below hbb) (HR10.out.below hbb))
              have hss : (d.got an == d.got an) = true := by simp
              rw [hss] at HSM
              obtain ⟨u0, u1⟩ := cell2 w10 (.slice A10 (d.most an) c10) (.int .i64 d.err) 39
              clear L10 r10 q1 hbb hss HGE9
              obtain ⟨d9, hd9⟩ : ∃ d9, d9 = d.read an := ⟨_, rfl⟩
              rw [← hd9] at HB11 HTT
              have HD9 := Lib.hid hd9
              clear hd9
              generalize d.err = er at *
              generalize d.most an = ml at *
              go_wp2_with fail
              refine (HSM.out).mono ?_
              rintro e w12 ⟨rfl, m12, rfl⟩
              have HB12 := Lib.hid (HB11.out.below (below_dn (Below.refl _ _) m12))
              have t1 : ((w10.alloc (.cells #[.slice A10 ml c10, .int .i64 er] 39)).drewN m12).cell? ⟨w10.heap.size, 1, none⟩ = some (.int .i64 er) := u1
              generalize (w10.alloc (.cells #[.slice A10 ml c10, .int .i64 er] 39)).drewN m12 = w11 at *
              have HB9 := Lib.hid HB12.out
              clear u0 u1 HSM
              have HSA := Lib.hid (same_any HB9.out)
              unfold ptr at HSA
              go_wp2_with fail
              refine (HSA.out).mono ?_
              rintro e w20 ⟨rfl, b20⟩
              have HB20 := Lib.hid (HB9.out.below b20)
              clear b20 HSA
              go_wp2_with fail
              go_roundw
              case rel => exact ⟨j + 1, _, _, _, by go_num, by have := HJN.out; omega, HTT.out, HB20.out⟩
              case measure => have := HJN.out; simp [intOf]; omega
            · have k2b : ((kd : Int) == 2) = false := by simpa using k2
              have HTT : Hid (d.t ≤ j + 1) := Lib.hid (Nat.le_succ_of_le HF.out.1)
              have HB9 := Lib.hid HB6.out
              clear hwx HNX HNA
              generalize hd9 : d = d9 at *
              clear y1 y2 hd9
              have HSA := Lib.hid (same_any HB9.out)
              unfold ptr at HSA
              go_wp2_with fail
              refine (HSA.out).mono ?_
              rintro e w20 ⟨rfl, b20⟩
              have HB20 := Lib.hid (HB9.out.below b20)
              clear b20 HSA
              go_wp2_with fail
              go_roundw
              case rel => exact ⟨j + 1, _, _, _, by go_num, by have := HJN.out; omega, HTT.out, HB20.out⟩
              case measure => have := HJN.out; simp [intOf]; omega
      · obtain rfl : j = n := by omega
        have HB := Lib.hid B5.s.bel
        clear B5
        go_wp2_with fail
        go_ret
        exact ⟨rfl, HB.out⟩
end Go.Proofs.Ytancbdnpmabpfaa
