/- The law DsendActs. Conditions: the acts lie where the slice says. -/
import Derived.Test.YtgcblajhdebigaaDsZ
namespace Go.Proofs.Ytgcblajhdebigaa
set_option linter.unusedVariables false
set_option linter.unusedSimpArgs false
open Go.RowKit Go.Lib

section
variable {W w w' : World} {sb : Nat} {z z' : Sh} {d d' d2 : Dq} {xb : Nat} {y y' : Ry} {g : Nat}
theorem cells_of {w : World} {g : Nat} {u0 u1 : Value} {t : TypeId} (h : w.heap[g]? = some (.cells #[u0, u1] t (0, 0))) : w.cell? ⟨g, 0, none⟩ = some u0 ∧ w.cell? ⟨g, 1, none⟩ = some u1 ∧ ∀ j, w.frozen? ⟨g, j, none⟩ = false := ⟨by rw [cell_of_row _ _ _ _ _ _ h]; rfl, by rw [cell_of_row _ _ _ _ _ _ h]; rfl, fun j => frozen_of h j⟩
theorem tell_x (h : Rf W.heap.size w xb y d) : LeftR W.heap.size w xb y d.tell (w.setCell ⟨xb, 5, none⟩ (.bool true)) y := h.setc 5 (.bool true) rfl rfl h.rel

set_option maxRecDepth 20000 in
set_option maxHeartbeats 12800000 in
theorem Acts_law (A : Option Addr) (n c : Nat) (l : List Da) (W : World) (hA : Das W A n c l) : Calls Try.prog 3 #[.slice A n c] W (Held W) := by
  have HW := Lib.hid (wakes_any W)
  have HA := Lib.hid hA
  have hcc := hA.cap
  have hcm := hA.max
  clear hA
  by_cases hn : 100 < n
  · have h' : (100 : Int) < (n : Int) := by omega
    go_enter Try.func3, Try.ntmps3
    go_wp2_with fail
    refine (HW.out).mono ?_
    rintro e w1 ⟨rfl, b1⟩
    have B1 := Lib.hid b1
    clear b1
    go_wp2_with fail
    go_ret
    exact ⟨rfl, B1.out⟩
  · have hg1 : ¬ ((100 : Int) < (n : Int)) := by omega
    go_enter Try.func3, Try.ntmps3
    go_wp2_with fail
    refine (HW.out).mono ?_
    rintro e w1 ⟨rfl, b1⟩
    have HN1 := Lib.hid (new_sv W w1 b1)
    clear b1
    go_wp2_with fail
    refine (HN1.out).mono ?_
    rintro e w2 ⟨sb, z2, rfl, S2, lo2, b2⟩
    have HN2 := Lib.hid (rnew_any W.heap.size w2 S2.bel.size)
    have HS2 := Lib.hid S2
    clear S2 HN1 lo2 b2
    unfold ptr at *
    go_wp2_with fail
    refine (HN2.out).mono ?_
    rintro e w3 ⟨xb, y2, rfl, X3, b3, lo3⟩
    have HB3 : Hid (Bo W w3 sb z2 Dq.new xb y2 Dq.new) := Lib.hid ⟨HS2.out.below b3, ⟨X3, HS2.out.bel.trans (b3.mono HS2.out.bel.size)⟩, fun k hk e => by have := (HS2.out.s.in_ hk).2; have := lo3 k e; omega⟩
    clear X3 b3 lo3 HN2 HS2
    unfold ptr at *
    go_wp2_with fail
    go_loopw [27] (fun ix wr => ∃ (j : Nat) (z : Sh) (y : Ry) (d : Dq), ix = .int .i64 (j : Int) ∧ j ≤ n ∧ d.fin ≤ 1 + 100 * j ∧ Bo W wr sb z d xb y d) (fun ix _ => n - (intOf ix).toNat)
    case atStart => exact ⟨0, z2, y2, Dq.new, rfl, Nat.zero_le _, by decide, HB3.out⟩
    case round =>
      obtain ⟨j, z5, y5, d, rfl, hj, hfin, S5⟩ := hrel
      by_cases hjn : j < n
      · obtain ⟨g0, o0, hA0, ok0, -⟩ := HA.out.at_ hjn
        obtain ⟨g, o, rfl, ok, x0, x1, x2, x3⟩ := (HA.out.below S5.s.bel).at_ hjn
        clear hA0 g0 o0
        generalize l.getD j default = a at *
        obtain ⟨kd, an, am, bA, bn, bc, bs⟩ := a
        dsimp only at *
        have HOK := Lib.hid ok
        have HR0 : Hid (RB W bA bn bc bs) := Lib.hid ok0.row
        have hb := below_a wr (.cells #[.int .i64 kd, .int .i64 an, .int .i64 am, .slice bA bn bc] 30)
        have HS6 := Lib.hid (S5.below hb)
        have HG6 := Lib.hid (S5.fresh (.cells #[.int .i64 kd, .int .i64 an, .int .i64 am, .slice bA bn bc] 30))
        have HGW : Hid (W.heap.size ≤ wr.heap.size) := Lib.hid S5.s.bel.size
        have HR6 : Hid (RB (wr.alloc (.cells #[.int .i64 kd, .int .i64 an, .int .i64 am, .slice bA bn bc] 30)) bA bn bc bs) := Lib.hid (ok.row.below hb)
        obtain ⟨y0, y1, y2, y3⟩ := cell4 wr (.int .i64 kd) (.int .i64 an) (.int .i64 am) (.slice bA bn bc) 30
        have HF := Lib.hid (And.intro hfin hn)
        have HJ := Lib.hid hj
        clear ok ok0 hb S5 hfin hn
        have hjc : (j : Int) < (n : Int) := by omega
        obtain ⟨gt, hgt⟩ : ∃ gt, gt = wr.heap.size := ⟨_, rfl⟩
        go_upto_region 9 with (fail)
        rw [← hgt] at y0 y1 y2 y3 HG6 HGW ⊢
        clear hgt x0 x1 x2 x3
        generalize wr.alloc (.cells #[.int .i64 kd, .int .i64 an, .int .i64 am, .slice bA bn bc] 30) = w6 at *
        have hnm := HS6.out.s.s.nums
        have HNM := Lib.hid hnm
        have HOKD := Lib.hid HS6.out.s.s.ok
        clear hnm
        by_cases k0 : kd = 0
        · subst k0
          by_cases hbn : 100 < bn
          · have hb1 : (100 : Int) < (bn : Int) := by omega
            go_wp2_with fail
            go_ret
            exact ⟨rfl, HS6.out.s.bel⟩
          · have hb1 : ¬ ((100 : Int) < (bn : Int)) := by omega
            have HWR := Lib.hid (HS6.out.s.write (by have := HF.out; omega) HR6.out (by omega))
            have HBL := Lib.hid HR6.out.len
            have HXW := Lib.hid (fun (w7 : World) (z7 : Sh) (B7 : Bo W w7 sb z7 (d.wrote bs) xb y5 d) => rwrite_any B7.x HOKD.out (by have := HF.out; omega) HR0.out (by omega))
            have HF7 : Hid ((d.wrote bs).fin ≤ 1 + 100 * (j + 1)) := Lib.hid (by have := d.wrote_fin (b := bs); have := HF.out; have := HBL.out; omega)
            unfold RWriteP at HXW
            generalize d.wE bn = we at *
            generalize d.wN bn = wn at *
            generalize d.wrote bs = d7 at *
            unfold ptr at HWR HXW
            go_wp2_with fail
            refine (HWR.out).mono ?_
            rintro e w7 ⟨z7, rfl, S7, L7⟩
            have HS7 := Lib.hid (HS6.out.stepS L7)
            obtain ⟨g7, e7⟩ := HG6.out.stepS L7
            have y37 : w7.cell? ⟨gt, 3, none⟩ = some (.slice bA bn bc) := (cell_blk e7 3).trans y3
            have HX7 := Lib.hid (HXW.out w7 z7 HS7.out)
            clear S7 L7 g7 e7 y0 y1 y2 y3 HWR HXW
            go_wp2_with fail
            refine (HX7.out).mono ?_
            rintro e w8 ⟨rfl, y8, L8⟩
            have B8 := HS7.out.stepX L8
            have HB9 := Lib.hid (B8.below (below_a w8 (.cells #[.int .i64 (wn : Int), .int .i64 we] 35)))
            obtain ⟨p0, p1⟩ := cell2 w8 (.int .i64 (wn : Int)) (.int .i64 we) 35
            clear B8 L8 HX7
            have HSA := Lib.hid (same_any HB9.out.s.s HB9.out.x.s)
            unfold ptr at HSA
            go_wp2_with fail
            refine (HSA.out).mono ?_
            rintro e w20 ⟨rfl, b20⟩
            have HB20 := Lib.hid (HB9.out.below b20)
            clear b20 HSA
            go_wp2_with fail
            go_roundw
            case rel => exact ⟨j + 1, _, _, _, by go_num, by omega, HF7.out, HB20.out⟩
            case measure => simp [intOf]; omega
        · have f0 : ((kd : Int) == 0) = false := by simp; omega
          by_cases k1 : kd = 1
          · subst k1
            have HTK := Lib.hid (HS6.out.s.take HOK.out.n)
            obtain ⟨M, hM⟩ : ∃ M, M = mostOf an := ⟨_, rfl⟩
            have HXT := Lib.hid (fun (w7 : World) (z7 : Sh) (B7 : Bo W w7 sb z7 (d.take M) xb y5 d) => rtake_any (m := an) B7.x.s HOKD.out (by have := HF.out; omega) (by have := HNM.out; omega) B7.x.bel.size)
            rw [← hM] at HTK HXT
            clear hM
            have HF7 : Hid ((d.take M).fin ≤ 1 + 100 * (j + 1)) := Lib.hid (by have := HF.out; show d.fin ≤ _; omega)
            unfold ptr at HTK HXT
            go_wp2_with fail
            refine (HTK.out).mono ?_
            rintro e w7 ⟨v7, z7, rfl, B7, S7, L7⟩
            have HS7 := Lib.hid (HS6.out.stepS L7)
            obtain ⟨g7, e7⟩ := HG6.out.stepS L7
            have y17 : w7.cell? ⟨gt, 1, none⟩ = some (.int .i64 an) := (cell_blk e7 1).trans y1
            have HX7 := Lib.hid (HXT.out w7 z7 HS7.out)
            obtain ⟨A7, c7, rfl, r7⟩ := B7.rb
            have HFA : Hid (∀ q, (Value.slice A7 (d.most M) c7).ownBlock = some q → ¬ y5.T xb q) := Lib.hid (fun q hq e => by have h1 := (B7.far q hq).1; have h2 := (HS6.out.x.s.in_ e).2; omega)
            have HR7 := Lib.hid r7
            clear S7 L7 B7 r7 g7 e7 y0 y1 y2 y3 HTK HXT
            go_wp2_with fail
            refine (HX7.out).mono ?_
            rintro e w8 ⟨v8, y8, rfl, ⟨A8, c8, rfl, r8⟩, L8⟩
            have B8 := HS7.out.stepX L8
            have r78 := rb_ch HR7.out L8.ch (fun q o s e hn => HFA.out q (by rw [e]; rfl))
            have hb9 := below_a w8 (.cells #[.int .i64 (d.dsn M : Int), .slice A8 (d.most M) c8] 40)
            have HB8 := Lib.hid (B8.below hb9)
            obtain ⟨p0, p1⟩ := cell2 w8 (.int .i64 (d.dsn M : Int)) (.slice A8 (d.most M) c8) 40
            have HSM := Lib.hid (Same_any A7 A8 (d.most M) c7 (d.most M) c8 (d.got M) (d.got M) _ (r78.below hb9) (r8.below hb9))
            rw [show (d.got M == d.got M) = true from by simp] at HSM
            clear B8 L8 HX7 HFA HR7 r78 r8 hb9
            generalize d.dsn M = dn at *
            generalize d.most M = mn at *
            generalize d.take M = d7 at *
            go_wp2_with fail
            refine (HSM.out).mono ?_
            rintro e w9 ⟨rfl, qq, rfl⟩
            have HB9 := Lib.hid (HB8.out.below (below_dn (Below.refl _ _) qq))
            have HSA := Lib.hid (same_any HB9.out.s.s HB9.out.x.s)
            unfold ptr at HSA
            go_wp2_with fail
            refine (HSA.out).mono ?_
            rintro e w20 ⟨rfl, b20⟩
            have HB20 := Lib.hid (HB9.out.below b20)
            clear b20 HSA
            go_wp2_with fail
            go_roundw
            case rel => exact ⟨j + 1, _, _, _, by go_num, by omega, HF7.out, HB20.out⟩
            case measure => simp [intOf]; omega
          · have f1 : ((kd : Int) == 1) = false := by simp; omega
            by_cases k2 : kd = 2
            · subst k2
              have HLO := Lib.hid (fun (W6 : World) (s : Sv W W6 sb z5 d) => s.lost (x := (d.una : Int) + nearN an) (g := nearN am) (by have := near_in an; have := s.s.nums; omega) (by have := near_in am; omega) (f := d.lf ((d.una : Int) + nearN an)) (t := d.lt ((d.una : Int) + nearN an) (nearN am)) rfl rfl)
              have HXL := Lib.hid (fun (W6 : World) (r : Rf W.heap.size W6 xb y5 d) => lose_any r HOKD.out (by have := HF.out; omega) (x := (d.una : Int) + nearN an) (g := nearN am) (by have := near_in an; have := HNM.out; omega) (by have := near_in am; omega) (f := d.lf ((d.una : Int) + nearN an)) (t := d.lt ((d.una : Int) + nearN an) (nearN am)) rfl rfl)
              have hwa : IntKind.i64.wrap ((d.una : Int) + nearN an) = (d.una : Int) + nearN an := by have := near_in an; have := HNM.out; rw [IntKind.wrap_i64]; omega
              unfold RLoseP at HXL
              generalize d.lt ((d.una : Int) + nearN an) (nearN am) = lt at *
              generalize d.lf ((d.una : Int) + nearN an) = lf at *
              generalize kept d.L lf (lt - lf) = kp at *
              have HF7 : Hid ((d.lose lf lt).fin ≤ 1 + 100 * (j + 1)) := Lib.hid (by have := HF.out; show d.fin ≤ _; omega)
              generalize d.lose lf lt = d7 at *
              have HNA := Lib.hid (fun W6 => near_any an W6)
              have HNM2 := Lib.hid (fun W6 => near_any am W6)
              have x2 : w6.cell? ⟨xb, 2, none⟩ = some (.int .i64 (d.una : Int)) := HS6.out.x.s.cell 2
              generalize nearN an = nan at *
              generalize nearN am = nam at *
              generalize d.una = u0 at *
              obtain ⟨x9, hx9⟩ : ∃ x9 : Int, x9 = (u0 : Int) + nan := ⟨_, rfl⟩
              have hwa2 : IntKind.i64.wrap ((u0 : Int) + nan) = x9 := by rw [hwa, hx9]
              rw [← hx9] at HLO HXL
              clear hx9 hwa
              unfold ptr at HLO HXL
              go_wp2_with fail
              go_quiet (first | (go_at_call 16; exact Calls.quiet_of_same (HNA.out _)))
              have HB7 := Lib.hid (HS6.out.below (below_dn (Below.refl _ _) nq))
              have HG7 := Lib.hid (HG6.out.below (below_dn (Below.refl _ _) nq)).1
              have y27 : (w6.drewN nq).cell? ⟨gt, 2, none⟩ = some (.int .i64 am) := y2
              go_upto_region 24 with (fail)
              generalize w6.drewN nq = w7 at *
              clear y0 y1 y2 y3 x2 HS6
              have z2' : w7.drew.cell? ⟨gt, 2, none⟩ = some (.int .i64 am) := y27
              have HB8 := Lib.hid (HB7.out.below (Below.refl _ _).drew)
              have HG8 := Lib.hid (HG7.out.below (Below.refl w7.heap.size w7).drew).1
              refine wp_region_noPanic ?_
              refine until_start (fun W => W.cell? ⟨gt, 2, none⟩ = some (.int .i64 am)) 11 (by kernel_rfl) z2' (fun _ => ?_)
              refine until_take (i := 0) (v := .pointer (some ⟨sb, 0, none⟩)) (some 94) [5, 10, 11] rfl rfl (by kernel_rfl) (by kernel_rfl) (by kernel_rfl) (by kernel_rfl) rfl rfl (fun _ _ _ h => h) (Or.inl ⟨by rfl, fun W hW => by go_simp⟩) z2' ?_
              simp only [Act.put, List.setIfInBounds_toArray, List.set_cons_zero, List.set_cons_succ]
              refine until_take (i := 1) (v := .int .i64 x9) (some 95) [5, 10, 11] rfl rfl (by kernel_rfl) (by kernel_rfl) (by kernel_rfl) (by kernel_rfl) rfl rfl (fun _ _ _ h => h) (Or.inl ⟨by rfl, fun W hW => by go_simp⟩) z2' ?_
              simp only [Act.put, List.setIfInBounds_toArray, List.set_cons_zero, List.set_cons_succ]
              refine until_take (i := 2) (v := .pointer (some ⟨gt, 2, none⟩)) (some 96) [3, 4, 5, 10, 11] rfl rfl (by kernel_rfl) (by kernel_rfl) (by kernel_rfl) (by kernel_rfl) rfl rfl (fun _ _ _ h => h) (Or.inl ⟨by rfl, fun W hW => by go_simp⟩) z2' ?_
              simp only [Act.put, List.setIfInBounds_toArray, List.set_cons_zero, List.set_cons_succ]
              refine until_take (i := 6) (v := .pointer (some ⟨xb, 0, none⟩)) (some 100) [11] rfl rfl (by kernel_rfl) (by kernel_rfl) (by kernel_rfl) (by kernel_rfl) rfl rfl (fun _ _ _ h => h) (Or.inl ⟨by rfl, fun W hW => by go_simp⟩) z2' ?_
              simp only [Act.put, List.setIfInBounds_toArray, List.set_cons_zero, List.set_cons_succ]
              refine until_take (i := 7) (v := .int .i64 x9) (some 101) [11] rfl rfl (by kernel_rfl) (by kernel_rfl) (by kernel_rfl) (by kernel_rfl) rfl rfl (fun _ _ _ h => h) (Or.inl ⟨by rfl, fun W hW => by go_simp⟩) z2' ?_
              simp only [Act.put, List.setIfInBounds_toArray, List.set_cons_zero, List.set_cons_succ]
              refine until_take (i := 8) (v := .pointer (some ⟨gt, 2, none⟩)) (some 102) [9, 10, 11] rfl rfl (by kernel_rfl) (by kernel_rfl) (by kernel_rfl) (by kernel_rfl) rfl rfl (fun _ _ _ h => h) (Or.inl ⟨by rfl, fun W hW => by go_simp⟩) z2' ?_
              simp only [Act.put, List.setIfInBounds_toArray, List.set_cons_zero, List.set_cons_succ]
              refine until_take (i := 3) (v := .int .i64 am) (some 97) [4, 5, 10, 11] rfl rfl (by kernel_rfl) (by kernel_rfl) (by kernel_rfl) (by kernel_rfl) rfl rfl (fun _ _ _ h => h) (Or.inl ⟨by rfl, fun W hW => by have hc := hW; go_simp⟩) z2' ?_
              simp only [Act.put, List.setIfInBounds_toArray, List.set_cons_zero, List.set_cons_succ]
              refine until_take (i := 9) (v := .int .i64 am) (some 103) [10, 11] rfl rfl (by kernel_rfl) (by kernel_rfl) (by kernel_rfl) (by kernel_rfl) rfl rfl (fun _ _ _ h => h) (Or.inl ⟨by rfl, fun W hW => by have hc := hW; go_simp⟩) z2' ?_
              simp only [Act.put, List.setIfInBounds_toArray, List.set_cons_zero, List.set_cons_succ]
              refine until_step (i := 4) (by kernel_rfl) rfl rfl (fun K hK => ?_)
              go_simp
              refine (HNM2.out _).mono ?_
              rintro e wn ⟨rfl, rfl⟩
              dsimp only
              refine hK.out _ _ z2' (fun _ => ?_)
              clear hK
              try simp only [Act.put, List.setIfInBounds_toArray, List.set_cons_zero, List.set_cons_succ]
              refine until_step (i := 5) (by kernel_rfl) rfl rfl (fun K hK => ?_)
              go_simp
              refine (HLO.out _ HB8.out.s).mono ?_
              rintro e w8 ⟨z8, rfl, S8, L8⟩
              have HB10 := Lib.hid (HB8.out.stepS L8)
              have z28 : w8.cell? ⟨gt, 2, none⟩ = some (.int .i64 am) := (cell_blk (HG8.out.stepS L8).2 2).trans z2'
              clear S8 L8 HLO
              dsimp only
              refine hK.out _ _ z28 (fun _ => ?_)
              clear hK
              try simp only [Act.put, List.setIfInBounds_toArray, List.set_cons_zero, List.set_cons_succ]
              refine until_step (i := 10) (by kernel_rfl) rfl rfl (fun K hK => ?_)
              go_simp
              refine (HNM2.out _).mono ?_
              rintro e wn ⟨rfl, rfl⟩
              dsimp only
              refine hK.out _ _ z28 (fun _ => ?_)
              clear hK
              try simp only [Act.put, List.setIfInBounds_toArray, List.set_cons_zero, List.set_cons_succ]
              refine until_last (by kernel_rfl) rfl (fun K hK => ?_)
              go_simp
              refine (HXL.out _ HB10.out.x.s).mono ?_
              rintro e w9 ⟨y9, rfl, L9⟩
              have HB9 := Lib.hid (HB10.out.stepX L9)
              clear L9 HXL
              dsimp only
              refine hK.out _ _ ?_
              clear hK
              try simp only [Act.put, List.setIfInBounds_toArray, List.set_cons_zero, List.set_cons_succ]
              refine held_take (i := 12) (v := .bool false) (some 106) rfl rfl (by kernel_rfl) (by kernel_rfl) (by kernel_rfl) (fun _ _ _ h => h) (Or.inl ⟨by rfl, fun W hW => by go_simp⟩) trivial ?_
              simp only [Act.put, List.setIfInBounds_toArray, List.set_cons_zero, List.set_cons_succ]
              refine wpAnyH_done (by kernel_rfl) ?_ _
              refine NoPanic.normal ?_
              have HSA := Lib.hid (same_any HB9.out.s.s HB9.out.x.s)
              unfold ptr at HSA
              go_wp2_with fail
              refine (HSA.out).mono ?_
              rintro e w20 ⟨rfl, b20⟩
              have HB20 := Lib.hid (HB9.out.below b20)
              clear b20 HSA
              go_wp2_with fail
              go_roundw
              case rel => exact ⟨j + 1, _, _, _, by go_num, by omega, HF7.out, HB20.out⟩
              case measure => simp [intOf]; omega
            · have f2 : ((kd : Int) == 2) = false := by simp; omega
              by_cases k3 : kd = 3
              · subst k3
                have HLO := Lib.hid (fun (W6 : World) (s : Sv W W6 sb z5 d) => s.ack (by have := HF.out; omega) (a := (d.una : Int) + nearN an) (win := nearN am) (by unfold isI; have := near_in an; have := s.s.nums; omega) (by unfold isI; have := near_in am; omega))
                have HXA := Lib.hid (fun (W6 : World) (r : Rf W.heap.size W6 xb y5 d) => rack_any r HOKD.out (by have := HF.out; omega) (by have := HNM.out; omega) (a := (d.una : Int) + nearN an) (win := nearN am) (by have := near_in an; have := HNM.out; omega) (by have := near_in am; omega))
                have hwa : IntKind.i64.wrap ((d.una : Int) + nearN an) = (d.una : Int) + nearN an := by have := near_in an; have := HNM.out; rw [IntKind.wrap_i64]; omega
                have HF7 : Hid ((d.acks ((d.una : Int) + nearN an) (nearN am)).fin ≤ 1 + 100 * (j + 1)) := Lib.hid (by rw [Dq.acks_fin]; have := HF.out; omega)
                unfold RAckP at HXA
                generalize d.acks ((d.una : Int) + nearN an) (nearN am) = d7 at *
                generalize d.gone ((d.una : Int) + nearN an) (nearN am) = gn at *
                generalize d.may ((d.una : Int) + nearN an) (nearN am) = my at *
                have HNA := Lib.hid (fun W6 => near_any an W6)
                have HNM2 := Lib.hid (fun W6 => near_any am W6)
                have x2 : w6.cell? ⟨xb, 2, none⟩ = some (.int .i64 (d.una : Int)) := HS6.out.x.s.cell 2
                have HX2 : Hid (∀ w9 z9 d9, Bo W w9 sb z9 d9 xb y5 d → w9.cell? ⟨xb, 2, none⟩ = some (.int .i64 (d.una : Int))) := Lib.hid (fun w9 z9 d9 h => h.x.s.cell 2)
                generalize nearN an = nan at *
                generalize nearN am = nam at *
                generalize d.una = u0 at *
                obtain ⟨x9, hx9⟩ : ∃ x9 : Int, x9 = (u0 : Int) + nan := ⟨_, rfl⟩
                have hwa2 : IntKind.i64.wrap ((u0 : Int) + nan) = x9 := by rw [hwa, hx9]
                rw [← hx9] at HLO HXA
                clear hx9 hwa
                unfold ptr at HLO HXA
                go_upto_region 27 with (fail)
                have z0 : w6.drew.cell? ⟨xb, 2, none⟩ = some (.int .i64 (u0 : Int)) := x2
                have z1 : w6.drew.cell? ⟨gt, 1, none⟩ = some (.int .i64 an) := y1
                have z2' : w6.drew.cell? ⟨gt, 2, none⟩ = some (.int .i64 am) := y2
                have HB7 := Lib.hid (HS6.out.below (Below.refl _ _).drew)
                have HG7 := Lib.hid (HG6.out.below (Below.refl w6.heap.size w6).drew).1
                refine wp_region_noPanic ?_
                refine until_start (fun W => W.cell? ⟨xb, 2, none⟩ = some (.int .i64 (u0 : Int)) ∧ W.cell? ⟨gt, 1, none⟩ = some (.int .i64 an) ∧ W.cell? ⟨gt, 2, none⟩ = some (.int .i64 am)) 12 (by kernel_rfl) ⟨z0, z1, z2'⟩ (fun _ => ?_)
                refine until_take (i := 0) (v := .pointer (some ⟨sb, 0, none⟩)) (some 110) [12] rfl rfl (by kernel_rfl) (by kernel_rfl) (by kernel_rfl) (by kernel_rfl) rfl rfl (fun _ _ _ h => h) (Or.inl ⟨by rfl, fun W hW => by go_simp⟩) ⟨z0, z1, z2'⟩ ?_
                simp only [Act.put, List.setIfInBounds_toArray, List.set_cons_zero, List.set_cons_succ]
                refine until_take (i := 1) (v := .pointer (some ⟨xb, 0, none⟩)) (some 111) [2, 3, 4, 8, 12] rfl rfl (by kernel_rfl) (by kernel_rfl) (by kernel_rfl) (by kernel_rfl) rfl rfl (fun _ _ _ h => h) (Or.inl ⟨by rfl, fun W hW => by go_simp⟩) ⟨z0, z1, z2'⟩ ?_
                simp only [Act.put, List.setIfInBounds_toArray, List.set_cons_zero, List.set_cons_succ]
                refine until_take (i := 5) (v := .pointer (some ⟨gt, 1, none⟩)) (some 115) [6, 7, 8, 12] rfl rfl (by kernel_rfl) (by kernel_rfl) (by kernel_rfl) (by kernel_rfl) rfl rfl (fun _ _ _ h => h) (Or.inl ⟨by rfl, fun W hW => by go_simp⟩) ⟨z0, z1, z2'⟩ ?_
                simp only [Act.put, List.setIfInBounds_toArray, List.set_cons_zero, List.set_cons_succ]
                refine until_take (i := 9) (v := .pointer (some ⟨gt, 2, none⟩)) (some 119) [10, 11, 12] rfl rfl (by kernel_rfl) (by kernel_rfl) (by kernel_rfl) (by kernel_rfl) rfl rfl (fun _ _ _ h => h) (Or.inl ⟨by rfl, fun W hW => by go_simp⟩) ⟨z0, z1, z2'⟩ ?_
                simp only [Act.put, List.setIfInBounds_toArray, List.set_cons_zero, List.set_cons_succ]
                refine until_take (i := 2) (v := .pointer (some ⟨xb, 0, none⟩)) (some 112) [3, 4, 8, 12] rfl rfl (by kernel_rfl) (by kernel_rfl) (by kernel_rfl) (by kernel_rfl) rfl rfl (fun _ _ _ h => h) (Or.inl ⟨by rfl, fun W hW => by go_simp⟩) ⟨z0, z1, z2'⟩ ?_
                simp only [Act.put, List.setIfInBounds_toArray, List.set_cons_zero, List.set_cons_succ]
                refine until_take (i := 6) (v := .int .i64 an) (some 116) [7, 8, 12] rfl rfl (by kernel_rfl) (by kernel_rfl) (by kernel_rfl) (by kernel_rfl) rfl rfl (fun _ _ _ h => h) (Or.inl ⟨by rfl, fun W hW => by have hc := hW.2.1; go_simp⟩) ⟨z0, z1, z2'⟩ ?_
                simp only [Act.put, List.setIfInBounds_toArray, List.set_cons_zero, List.set_cons_succ]
                refine until_take (i := 10) (v := .int .i64 am) (some 120) [11, 12] rfl rfl (by kernel_rfl) (by kernel_rfl) (by kernel_rfl) (by kernel_rfl) rfl rfl (fun _ _ _ h => h) (Or.inl ⟨by rfl, fun W hW => by have hc := hW.2.2; go_simp⟩) ⟨z0, z1, z2'⟩ ?_
                simp only [Act.put, List.setIfInBounds_toArray, List.set_cons_zero, List.set_cons_succ]
                refine until_take (i := 3) (v := .pointer (some ⟨xb, 2, none⟩)) (some 113) [4, 8, 12] rfl rfl (by kernel_rfl) (by kernel_rfl) (by kernel_rfl) (by kernel_rfl) rfl rfl (fun _ _ _ h => h) (Or.inl ⟨by rfl, fun W hW => by go_simp⟩) ⟨z0, z1, z2'⟩ ?_
                simp only [Act.put, List.setIfInBounds_toArray, List.set_cons_zero, List.set_cons_succ]
                refine until_take (i := 4) (v := .int .i64 (u0 : Int)) (some 114) [8, 12] rfl rfl (by kernel_rfl) (by kernel_rfl) (by kernel_rfl) (by kernel_rfl) rfl rfl (fun _ _ _ h => h) (Or.inl ⟨by rfl, fun W hW => by have hc := hW.1; go_simp⟩) ⟨z0, z1, z2'⟩ ?_
                simp only [Act.put, List.setIfInBounds_toArray, List.set_cons_zero, List.set_cons_succ]
                refine until_step (i := 7) (by kernel_rfl) rfl rfl (fun K hK => ?_)
                go_simp
                refine (HNA.out _).mono ?_
                rintro e wn ⟨rfl, rfl⟩
                dsimp only
                refine hK.out _ _ ⟨z0, z1, z2'⟩ (fun _ => ?_)
                clear hK
                try simp only [Act.put, List.setIfInBounds_toArray, List.set_cons_zero, List.set_cons_succ]
                refine until_take (i := 8) (v := .int .i64 x9) (some 118) [12] rfl rfl (by kernel_rfl) (by kernel_rfl) (by kernel_rfl) (by kernel_rfl) rfl rfl (fun _ _ _ h => h) (Or.inl ⟨by rfl, fun W hW => by have hc := hwa2; go_simp⟩) ⟨z0, z1, z2'⟩ ?_
                simp only [Act.put, List.setIfInBounds_toArray, List.set_cons_zero, List.set_cons_succ]
                refine until_step (i := 11) (by kernel_rfl) rfl rfl (fun K hK => ?_)
                go_simp
                refine (HNM2.out _).mono ?_
                rintro e wn ⟨rfl, rfl⟩
                dsimp only
                refine hK.out _ _ ⟨z0, z1, z2'⟩ (fun _ => ?_)
                clear hK
                try simp only [Act.put, List.setIfInBounds_toArray, List.set_cons_zero, List.set_cons_succ]
                refine until_last (by kernel_rfl) rfl (fun K hK => ?_)
                go_simp
                refine (HLO.out _ HB7.out.s).mono ?_
                rintro e w8 ⟨z8, rfl, S8, L8⟩
                have HB8 := Lib.hid (HB7.out.stepS L8)
                have y18 : w8.cell? ⟨gt, 1, none⟩ = some (.int .i64 an) := (cell_blk (HG7.out.stepS L8).2 1).trans z1
                have y28 : w8.cell? ⟨gt, 2, none⟩ = some (.int .i64 am) := (cell_blk (HG7.out.stepS L8).2 2).trans z2'
                have HG8 := Lib.hid (HG7.out.stepS L8).1
                clear S8 L8 HLO
                dsimp only
                refine hK.out _ _ ?_
                clear hK
                try simp only [Act.put, List.setIfInBounds_toArray, List.set_cons_zero, List.set_cons_succ]
                refine held_take (i := 13) (v := .tuple #[.int .i64 (gn : Int), .bool my]) (some 109) rfl rfl (by kernel_rfl) (by kernel_rfl) (by kernel_rfl) (fun _ _ _ h => h) (Or.inl ⟨by rfl, fun W hW => by go_simp⟩) trivial ?_
                simp only [Act.put, List.setIfInBounds_toArray, List.set_cons_zero, List.set_cons_succ]
                refine held_take (i := 14) (v := .int .i64 (gn : Int)) (some 123) rfl rfl (by kernel_rfl) (by kernel_rfl) (by kernel_rfl) (fun _ _ _ h => h) (Or.inl ⟨by rfl, fun W hW => by go_simp⟩) trivial ?_
                simp only [Act.put, List.setIfInBounds_toArray, List.set_cons_zero, List.set_cons_succ]
                refine held_take (i := 15) (v := .bool my) (some 124) rfl rfl (by kernel_rfl) (by kernel_rfl) (by kernel_rfl) (fun _ _ _ h => h) (Or.inl ⟨by rfl, fun W hW => by go_simp⟩) trivial ?_
                simp only [Act.put, List.setIfInBounds_toArray, List.set_cons_zero, List.set_cons_succ]
                refine held_take (i := 16) (v := .int .i64 (gn : Int)) (some 14) rfl rfl (by kernel_rfl) (by kernel_rfl) (by kernel_rfl) (fun _ _ _ h => h) (Or.inl ⟨by rfl, fun W hW => by go_simp⟩) trivial ?_
                simp only [Act.put, List.setIfInBounds_toArray, List.set_cons_zero, List.set_cons_succ]
                refine held_take (i := 17) (v := .bool my) (some 15) rfl rfl (by kernel_rfl) (by kernel_rfl) (by kernel_rfl) (fun _ _ _ h => h) (Or.inl ⟨by rfl, fun W hW => by go_simp⟩) trivial ?_
                simp only [Act.put, List.setIfInBounds_toArray, List.set_cons_zero, List.set_cons_succ]
                refine wpAnyH_done (by kernel_rfl) ?_ _
                refine NoPanic.normal ?_
                clear y0 y1 y2 y3 x2 HS6 HB7 HG7
                have x28 := HX2.out w8 _ _ HB8.out
                go_upto_region 28 with (fail)
                go_cut [16] from 125 to 137 (fun s16 wx => ∃ (ga : Nat) (y9 : Ry), s16 = .pointer (some ⟨ga, 0, none⟩) ∧ wx.cell? ⟨ga, 0, none⟩ = some (.int .i64 (gn : Int)) ∧ wx.cell? ⟨ga, 1, none⟩ = some (.bool my) ∧ Bo W wx sb z8 d7 xb y9 d7)
                case first =>
                  have q0 : w8.drew.cell? ⟨xb, 2, none⟩ = some (.int .i64 (u0 : Int)) := x28
                  have q1 : w8.drew.cell? ⟨gt, 1, none⟩ = some (.int .i64 an) := y18
                  have q2 : w8.drew.cell? ⟨gt, 2, none⟩ = some (.int .i64 am) := y28
                  have HBA := Lib.hid (HB8.out.below (Below.refl _ _).drew)
                  refine wp_region_noPanic ?_
                  refine until_start (fun W => W.cell? ⟨xb, 2, none⟩ = some (.int .i64 (u0 : Int)) ∧ W.cell? ⟨gt, 1, none⟩ = some (.int .i64 an) ∧ W.cell? ⟨gt, 2, none⟩ = some (.int .i64 am)) 12 (by kernel_rfl) ⟨q0, q1, q2⟩ (fun _ => ?_)
                  refine until_take (i := 0) (v := .pointer (some ⟨xb, 0, none⟩)) (some 125) [12] rfl rfl (by kernel_rfl) (by kernel_rfl) (by kernel_rfl) (by kernel_rfl) rfl rfl (fun _ _ _ h => h) (Or.inl ⟨by rfl, fun W hW => by go_simp⟩) ⟨q0, q1, q2⟩ ?_
                  simp only [Act.put, List.setIfInBounds_toArray, List.set_cons_zero, List.set_cons_succ]
                  refine until_take (i := 1) (v := .pointer (some ⟨xb, 0, none⟩)) (some 126) [2, 3, 4, 8, 12] rfl rfl (by kernel_rfl) (by kernel_rfl) (by kernel_rfl) (by kernel_rfl) rfl rfl (fun _ _ _ h => h) (Or.inl ⟨by rfl, fun W hW => by go_simp⟩) ⟨q0, q1, q2⟩ ?_
                  simp only [Act.put, List.setIfInBounds_toArray, List.set_cons_zero, List.set_cons_succ]
                  refine until_take (i := 5) (v := .pointer (some ⟨gt, 1, none⟩)) (some 130) [6, 7, 8, 12] rfl rfl (by kernel_rfl) (by kernel_rfl) (by kernel_rfl) (by kernel_rfl) rfl rfl (fun _ _ _ h => h) (Or.inl ⟨by rfl, fun W hW => by go_simp⟩) ⟨q0, q1, q2⟩ ?_
                  simp only [Act.put, List.setIfInBounds_toArray, List.set_cons_zero, List.set_cons_succ]
                  refine until_take (i := 9) (v := .pointer (some ⟨gt, 2, none⟩)) (some 134) [10, 11, 12] rfl rfl (by kernel_rfl) (by kernel_rfl) (by kernel_rfl) (by kernel_rfl) rfl rfl (fun _ _ _ h => h) (Or.inl ⟨by rfl, fun W hW => by go_simp⟩) ⟨q0, q1, q2⟩ ?_
                  simp only [Act.put, List.setIfInBounds_toArray, List.set_cons_zero, List.set_cons_succ]
                  refine until_take (i := 2) (v := .pointer (some ⟨xb, 0, none⟩)) (some 127) [3, 4, 8, 12] rfl rfl (by kernel_rfl) (by kernel_rfl) (by kernel_rfl) (by kernel_rfl) rfl rfl (fun _ _ _ h => h) (Or.inl ⟨by rfl, fun W hW => by go_simp⟩) ⟨q0, q1, q2⟩ ?_
                  simp only [Act.put, List.setIfInBounds_toArray, List.set_cons_zero, List.set_cons_succ]
                  refine until_take (i := 6) (v := .int .i64 an) (some 131) [7, 8, 12] rfl rfl (by kernel_rfl) (by kernel_rfl) (by kernel_rfl) (by kernel_rfl) rfl rfl (fun _ _ _ h => h) (Or.inl ⟨by rfl, fun W hW => by have hc := hW.2.1; go_simp⟩) ⟨q0, q1, q2⟩ ?_
                  simp only [Act.put, List.setIfInBounds_toArray, List.set_cons_zero, List.set_cons_succ]
                  refine until_take (i := 10) (v := .int .i64 am) (some 135) [11, 12] rfl rfl (by kernel_rfl) (by kernel_rfl) (by kernel_rfl) (by kernel_rfl) rfl rfl (fun _ _ _ h => h) (Or.inl ⟨by rfl, fun W hW => by have hc := hW.2.2; go_simp⟩) ⟨q0, q1, q2⟩ ?_
                  simp only [Act.put, List.setIfInBounds_toArray, List.set_cons_zero, List.set_cons_succ]
                  refine until_take (i := 3) (v := .pointer (some ⟨xb, 2, none⟩)) (some 128) [4, 8, 12] rfl rfl (by kernel_rfl) (by kernel_rfl) (by kernel_rfl) (by kernel_rfl) rfl rfl (fun _ _ _ h => h) (Or.inl ⟨by rfl, fun W hW => by go_simp⟩) ⟨q0, q1, q2⟩ ?_
                  simp only [Act.put, List.setIfInBounds_toArray, List.set_cons_zero, List.set_cons_succ]
                  refine until_take (i := 4) (v := .int .i64 (u0 : Int)) (some 129) [8, 12] rfl rfl (by kernel_rfl) (by kernel_rfl) (by kernel_rfl) (by kernel_rfl) rfl rfl (fun _ _ _ h => h) (Or.inl ⟨by rfl, fun W hW => by have hc := hW.1; go_simp⟩) ⟨q0, q1, q2⟩ ?_
                  simp only [Act.put, List.setIfInBounds_toArray, List.set_cons_zero, List.set_cons_succ]
                  refine until_two (i := 7) (j := 13) (by kernel_rfl) rfl rfl rfl rfl (fun K hK => ?_) (fun K hK => ?_)
                  · go_simp
                    refine (HNA.out _).mono ?_
                    rintro e wn ⟨rfl, rfl⟩
                    dsimp only
                    refine hK.out _ _ ⟨q0, q1, q2⟩ (fun _ => ?_)
                    clear hK
                    try simp only [Act.put, List.setIfInBounds_toArray, List.set_cons_zero, List.set_cons_succ]
                    refine until_take (i := 8) (v := .int .i64 x9) (some 133) [12] rfl rfl (by kernel_rfl) (by kernel_rfl) (by kernel_rfl) (by kernel_rfl) rfl rfl (fun _ _ _ h => h) (Or.inl ⟨by rfl, fun W hW => by have hc := hwa2; go_simp⟩) ⟨q0, q1, q2⟩ ?_
                    simp only [Act.put, List.setIfInBounds_toArray, List.set_cons_zero, List.set_cons_succ]
                    refine until_two (i := 11) (j := 13) (by kernel_rfl) rfl rfl rfl rfl (fun K hK => ?_) (fun K hK => ?_)
                    · go_simp
                      refine (HNM2.out _).mono ?_
                      rintro e wn ⟨rfl, rfl⟩
                      dsimp only
                      refine hK.out _ _ ⟨q0, q1, q2⟩ (fun _ => ?_)
                      clear hK
                      try simp only [Act.put, List.setIfInBounds_toArray, List.set_cons_zero, List.set_cons_succ]
                      refine until_twoK (j := 13) (by kernel_rfl) rfl rfl rfl (fun K hK => ?_) (fun K hK => ?_)
                      · go_simp
                        refine (HXA.out _ HBA.out.x.s).mono ?_
                        rintro e w10 ⟨rfl, L10⟩
                        have HBD := Lib.hid (HBA.out.stepX L10)
                        clear L10
                        dsimp only
                        refine hK.out _ _ ?_
                        clear hK
                        try simp only [Act.put, List.setIfInBounds_toArray, List.set_cons_zero, List.set_cons_succ]
                        refine wpAnyH_ready (rs := [13]) (by kernel_rfl) (by simp) ?_
                        refine AllReadyH.cons rfl (fun K hK => ?_) AllReadyH.nil
                        go_simp
                        have hba := below_a w10 (.cells #[.int .i64 0, .bool false] 51)
                        have HGA := Lib.hid (HBD.out.fresh (.cells #[.int .i64 0, .bool false] 51))
                        have HEA : Hid ((w10.alloc (.cells #[.int .i64 0, .bool false] 51)).heap[w10.heap.size]? = some (.cells #[.int .i64 0, .bool false] 51 (0, 0))) := Lib.hid (heap_alloc_new w10 _)
                        have HBC := Lib.hid (HBD.out.below hba)
                        have hwg : W.heap.size ≤ w10.heap.size := HBD.out.s.bel.size
                        obtain ⟨ga, hga⟩ : ∃ ga, ga = w10.heap.size := ⟨_, rfl⟩
                        rw [show w10.heap.size = ga from hga.symm] at HGA HEA hwg
                        obtain ⟨wa, hwa⟩ : ∃ wa, wa = w10.alloc (.cells #[.int .i64 0, .bool false] 51) := ⟨_, rfl⟩
                        rw [show w10.alloc (.cells #[.int .i64 0, .bool false] 51) = wa from hwa.symm] at HGA HEA HBC
                        rw [← hwa, ← hga]
                        clear hwa hga hba
                        have pz := cells_of HEA.out
                        refine hK.out _ _ trivial (fun _ => ?_)
                        clear hK
                        try simp only [Act.put, List.setIfInBounds_toArray, List.set_cons_zero, List.set_cons_succ]
                        refine wpAnyH_ready (rs := [14]) (by kernel_rfl) (by simp) ?_
                        refine AllReadyH.cons rfl (fun K hK => ?_) AllReadyH.nil
                        have hz := store2t HEA.out (.int .i64 (gn : Int)) (.bool my)
                        have HBE := Lib.hid (HBC.out.other HGA.out hwg hz.2)
                        have hc0 := hz.1 0 _ rfl
                        have hc1 := hz.1 1 _ rfl
                        rw [Nat.zero_add] at hc0 hc1
                        obtain ⟨pz0, pz1, pzf⟩ := pz
                        clear hz
                        go_simp
                        refine hK.out _ _ trivial (fun _ => ?_)
                        clear hK
                        try simp only [Act.put, List.setIfInBounds_toArray, List.set_cons_zero, List.set_cons_succ]
                        refine wpAnyH_done (by kernel_rfl) ?_ _
                        refine NoPanic.normal ?_
                        go_wp2_with fail
                        go_meet
                        case rel => exact ⟨ga, _, rfl, hc0, hc1, HBE.out⟩
                      · go_simp
                        have hba := below_a w8.drew (.cells #[.int .i64 0, .bool false] 51)
                        have HGA := Lib.hid (HBA.out.fresh (.cells #[.int .i64 0, .bool false] 51))
                        have HEA : Hid ((w8.drew.alloc (.cells #[.int .i64 0, .bool false] 51)).heap[w8.drew.heap.size]? = some (.cells #[.int .i64 0, .bool false] 51 (0, 0))) := Lib.hid (heap_alloc_new w8.drew _)
                        have HBC := Lib.hid (HBA.out.below hba)
                        have hwg : W.heap.size ≤ w8.drew.heap.size := HBA.out.s.bel.size
                        have qa : (w8.drew.alloc (.cells #[.int .i64 0, .bool false] 51)).cell? ⟨xb, 2, none⟩ = some (.int .i64 (u0 : Int)) ∧ (w8.drew.alloc (.cells #[.int .i64 0, .bool false] 51)).cell? ⟨gt, 1, none⟩ = some (.int .i64 an) ∧ (w8.drew.alloc (.cells #[.int .i64 0, .bool false] 51)).cell? ⟨gt, 2, none⟩ = some (.int .i64 am) := ⟨keepc hba q0, keepc hba q1, keepc hba q2⟩
                        obtain ⟨ga, hga⟩ : ∃ ga, ga = w8.heap.size := ⟨_, rfl⟩
                        rw [show w8.drew.heap.size = ga from hga.symm] at HGA HEA hwg
                        obtain ⟨wa, hwa⟩ : ∃ wa, wa = (w8.alloc (.cells #[.int .i64 0, .bool false] 51)).drew := ⟨_, rfl⟩
                        rw [show w8.drew.alloc (.cells #[.int .i64 0, .bool false] 51) = wa from hwa.symm] at HGA HEA HBC qa
                        rw [← hwa, ← hga]
                        clear hwa hga hba
                        refine hK.out _ _ qa (fun _ => ?_)
                        clear hK
                        try simp only [Act.put, List.setIfInBounds_toArray, List.set_cons_zero, List.set_cons_succ]
                        refine until_last (by kernel_rfl) rfl (fun K hK => ?_)
                        go_simp
                        refine (HXA.out _ HBC.out.x.s).mono ?_
                        rintro e w10 ⟨rfl, L10⟩
                        have HBD := Lib.hid (HBC.out.stepX L10)
                        have HEB := Lib.hid ((HGA.out.stepX L10).2.trans HEA.out)
                        have HGB := Lib.hid (HGA.out.stepX L10).1
                        have pz := cells_of HEB.out
                        clear L10
                        dsimp only
                        refine hK.out _ _ ?_
                        clear hK
                        try simp only [Act.put, List.setIfInBounds_toArray, List.set_cons_zero, List.set_cons_succ]
                        refine wpAnyH_ready (rs := [14]) (by kernel_rfl) (by simp) ?_
                        refine AllReadyH.cons rfl (fun K hK => ?_) AllReadyH.nil
                        have hz := store2t HEB.out (.int .i64 (gn : Int)) (.bool my)
                        have HBE := Lib.hid (HBD.out.other HGB.out hwg hz.2)
                        have hc0 := hz.1 0 _ rfl
                        have hc1 := hz.1 1 _ rfl
                        rw [Nat.zero_add] at hc0 hc1
                        obtain ⟨pz0, pz1, pzf⟩ := pz
                        clear hz
                        go_simp
                        refine hK.out _ _ trivial (fun _ => ?_)
                        clear hK
                        try simp only [Act.put, List.setIfInBounds_toArray, List.set_cons_zero, List.set_cons_succ]
                        refine wpAnyH_done (by kernel_rfl) ?_ _
                        refine NoPanic.normal ?_
                        go_wp2_with fail
                        go_meet
                        case rel => exact ⟨ga, _, rfl, hc0, hc1, HBE.out⟩
                    · go_simp
                      have hba := below_a w8.drew (.cells #[.int .i64 0, .bool false] 51)
                      have HGA := Lib.hid (HBA.out.fresh (.cells #[.int .i64 0, .bool false] 51))
                      have HEA : Hid ((w8.drew.alloc (.cells #[.int .i64 0, .bool false] 51)).heap[w8.drew.heap.size]? = some (.cells #[.int .i64 0, .bool false] 51 (0, 0))) := Lib.hid (heap_alloc_new w8.drew _)
                      have HBC := Lib.hid (HBA.out.below hba)
                      have hwg : W.heap.size ≤ w8.drew.heap.size := HBA.out.s.bel.size
                      have qa : (w8.drew.alloc (.cells #[.int .i64 0, .bool false] 51)).cell? ⟨xb, 2, none⟩ = some (.int .i64 (u0 : Int)) ∧ (w8.drew.alloc (.cells #[.int .i64 0, .bool false] 51)).cell? ⟨gt, 1, none⟩ = some (.int .i64 an) ∧ (w8.drew.alloc (.cells #[.int .i64 0, .bool false] 51)).cell? ⟨gt, 2, none⟩ = some (.int .i64 am) := ⟨keepc hba q0, keepc hba q1, keepc hba q2⟩
                      obtain ⟨ga, hga⟩ : ∃ ga, ga = w8.heap.size := ⟨_, rfl⟩
                      rw [show w8.drew.heap.size = ga from hga.symm] at HGA HEA hwg
                      obtain ⟨wa, hwa⟩ : ∃ wa, wa = (w8.alloc (.cells #[.int .i64 0, .bool false] 51)).drew := ⟨_, rfl⟩
                      rw [show w8.drew.alloc (.cells #[.int .i64 0, .bool false] 51) = wa from hwa.symm] at HGA HEA HBC qa
                      rw [← hwa, ← hga]
                      clear hwa hga hba
                      refine hK.out _ _ qa (fun _ => ?_)
                      clear hK
                      try simp only [Act.put, List.setIfInBounds_toArray, List.set_cons_zero, List.set_cons_succ]
                      refine until_step (i := 11) (by kernel_rfl) rfl rfl (fun K hK => ?_)
                      go_simp
                      refine (HNM2.out _).mono ?_
                      rintro e wn ⟨rfl, rfl⟩
                      dsimp only
                      refine hK.out _ _ qa (fun _ => ?_)
                      clear hK
                      try simp only [Act.put, List.setIfInBounds_toArray, List.set_cons_zero, List.set_cons_succ]
                      refine until_last (by kernel_rfl) rfl (fun K hK => ?_)
                      go_simp
                      refine (HXA.out _ HBC.out.x.s).mono ?_
                      rintro e w10 ⟨rfl, L10⟩
                      have HBD := Lib.hid (HBC.out.stepX L10)
                      have HEB := Lib.hid ((HGA.out.stepX L10).2.trans HEA.out)
                      have HGB := Lib.hid (HGA.out.stepX L10).1
                      have pz := cells_of HEB.out
                      clear L10
                      dsimp only
                      refine hK.out _ _ ?_
                      clear hK
                      try simp only [Act.put, List.setIfInBounds_toArray, List.set_cons_zero, List.set_cons_succ]
                      refine wpAnyH_ready (rs := [14]) (by kernel_rfl) (by simp) ?_
                      refine AllReadyH.cons rfl (fun K hK => ?_) AllReadyH.nil
                      have hz := store2t HEB.out (.int .i64 (gn : Int)) (.bool my)
                      have HBE := Lib.hid (HBD.out.other HGB.out hwg hz.2)
                      have hc0 := hz.1 0 _ rfl
                      have hc1 := hz.1 1 _ rfl
                      rw [Nat.zero_add] at hc0 hc1
                      obtain ⟨pz0, pz1, pzf⟩ := pz
                      clear hz
                      go_simp
                      refine hK.out _ _ trivial (fun _ => ?_)
                      clear hK
                      try simp only [Act.put, List.setIfInBounds_toArray, List.set_cons_zero, List.set_cons_succ]
                      refine wpAnyH_done (by kernel_rfl) ?_ _
                      refine NoPanic.normal ?_
                      go_wp2_with fail
                      go_meet
                      case rel => exact ⟨ga, _, rfl, hc0, hc1, HBE.out⟩
                  · go_simp
                    have hba := below_a w8.drew (.cells #[.int .i64 0, .bool false] 51)
                    have HGA := Lib.hid (HBA.out.fresh (.cells #[.int .i64 0, .bool false] 51))
                    have HEA : Hid ((w8.drew.alloc (.cells #[.int .i64 0, .bool false] 51)).heap[w8.drew.heap.size]? = some (.cells #[.int .i64 0, .bool false] 51 (0, 0))) := Lib.hid (heap_alloc_new w8.drew _)
                    have HBC := Lib.hid (HBA.out.below hba)
                    have hwg : W.heap.size ≤ w8.drew.heap.size := HBA.out.s.bel.size
                    have qa : (w8.drew.alloc (.cells #[.int .i64 0, .bool false] 51)).cell? ⟨xb, 2, none⟩ = some (.int .i64 (u0 : Int)) ∧ (w8.drew.alloc (.cells #[.int .i64 0, .bool false] 51)).cell? ⟨gt, 1, none⟩ = some (.int .i64 an) ∧ (w8.drew.alloc (.cells #[.int .i64 0, .bool false] 51)).cell? ⟨gt, 2, none⟩ = some (.int .i64 am) := ⟨keepc hba q0, keepc hba q1, keepc hba q2⟩
                    obtain ⟨ga, hga⟩ : ∃ ga, ga = w8.heap.size := ⟨_, rfl⟩
                    rw [show w8.drew.heap.size = ga from hga.symm] at HGA HEA hwg
                    obtain ⟨wa, hwa⟩ : ∃ wa, wa = (w8.alloc (.cells #[.int .i64 0, .bool false] 51)).drew := ⟨_, rfl⟩
                    rw [show w8.drew.alloc (.cells #[.int .i64 0, .bool false] 51) = wa from hwa.symm] at HGA HEA HBC qa
                    rw [← hwa, ← hga]
                    clear hwa hga hba
                    refine hK.out _ _ qa (fun _ => ?_)
                    clear hK
                    try simp only [Act.put, List.setIfInBounds_toArray, List.set_cons_zero, List.set_cons_succ]
                    refine until_step (i := 7) (by kernel_rfl) rfl rfl (fun K hK => ?_)
                    go_simp
                    refine (HNA.out _).mono ?_
                    rintro e wn ⟨rfl, rfl⟩
                    dsimp only
                    refine hK.out _ _ qa (fun _ => ?_)
                    clear hK
                    try simp only [Act.put, List.setIfInBounds_toArray, List.set_cons_zero, List.set_cons_succ]
                    refine until_take (i := 8) (v := .int .i64 x9) (some 133) [12] rfl rfl (by kernel_rfl) (by kernel_rfl) (by kernel_rfl) (by kernel_rfl) rfl rfl (fun _ _ _ h => h) (Or.inl ⟨by rfl, fun W hW => by have hc := hwa2; go_simp⟩) qa ?_
                    simp only [Act.put, List.setIfInBounds_toArray, List.set_cons_zero, List.set_cons_succ]
                    refine until_step (i := 11) (by kernel_rfl) rfl rfl (fun K hK => ?_)
                    go_simp
                    refine (HNM2.out _).mono ?_
                    rintro e wn ⟨rfl, rfl⟩
                    dsimp only
                    refine hK.out _ _ qa (fun _ => ?_)
                    clear hK
                    try simp only [Act.put, List.setIfInBounds_toArray, List.set_cons_zero, List.set_cons_succ]
                    refine until_last (by kernel_rfl) rfl (fun K hK => ?_)
                    go_simp
                    refine (HXA.out _ HBC.out.x.s).mono ?_
                    rintro e w10 ⟨rfl, L10⟩
                    have HBD := Lib.hid (HBC.out.stepX L10)
                    have HEB := Lib.hid ((HGA.out.stepX L10).2.trans HEA.out)
                    have HGB := Lib.hid (HGA.out.stepX L10).1
                    have pz := cells_of HEB.out
                    clear L10
                    dsimp only
                    refine hK.out _ _ ?_
                    clear hK
                    try simp only [Act.put, List.setIfInBounds_toArray, List.set_cons_zero, List.set_cons_succ]
                    refine wpAnyH_ready (rs := [14]) (by kernel_rfl) (by simp) ?_
                    refine AllReadyH.cons rfl (fun K hK => ?_) AllReadyH.nil
                    have hz := store2t HEB.out (.int .i64 (gn : Int)) (.bool my)
                    have HBE := Lib.hid (HBD.out.other HGB.out hwg hz.2)
                    have hc0 := hz.1 0 _ rfl
                    have hc1 := hz.1 1 _ rfl
                    rw [Nat.zero_add] at hc0 hc1
                    obtain ⟨pz0, pz1, pzf⟩ := pz
                    clear hz
                    go_simp
                    refine hK.out _ _ trivial (fun _ => ?_)
                    clear hK
                    try simp only [Act.put, List.setIfInBounds_toArray, List.set_cons_zero, List.set_cons_succ]
                    refine wpAnyH_done (by kernel_rfl) ?_ _
                    refine NoPanic.normal ?_
                    go_wp2_with fail
                    go_meet
                    case rel => exact ⟨ga, _, rfl, hc0, hc1, HBE.out⟩
                case rest =>
                  obtain ⟨ga, y9, rfl, p0, p1, B9⟩ := hcut
                  have HB9 := Lib.hid B9
                  clear B9 HB8 HG8 y18 y28 x28
                  have HSA := Lib.hid (same_any HB9.out.s.s HB9.out.x.s)
                  unfold ptr at HSA
                  go_wp2_with fail
                  refine (HSA.out).mono ?_
                  rintro e w20 ⟨rfl, b20⟩
                  have HB20 := Lib.hid (HB9.out.below b20)
                  clear b20 HSA
                  go_wp2_with fail
                  go_roundw
                  case rel => exact ⟨j + 1, _, _, _, by go_num, by omega, HF7.out, HB20.out⟩
                  case measure => simp [intOf]; omega
              · have f3 : ((kd : Int) == 3) = false := by simp; omega
                by_cases k4 : kd = 4
                · subst k4
                  have HEN := Lib.hid (End_any HS6.out.s.s)
                  have HF7 : Hid (d.tell.fin ≤ 1 + 100 * (j + 1)) := Lib.hid (by have := HF.out; show d.fin ≤ _; omega)
                  unfold ptr at HEN
                  cases ht : d.told with
                  | true =>
                    rw [ht, if_pos rfl] at HEN
                    have hx5 : ∀ w7, LeftR W.heap.size w7 xb y5 d w7 y5 → True := fun _ _ => trivial
                    clear hx5
                    have HT4 := Lib.hid ht
                    clear ht y1 y2 y3
                    go_wp2_with fail
                    refine (HEN.out).mono ?_
                    rintro e w7 ⟨rfl, L7⟩
                    have HS7 := Lib.hid (HS6.out.stepS L7)
                    have x5 : w7.cell? ⟨xb, 5, none⟩ = some (.bool d.told) := HS7.out.x.s.cell 5
                    rw [HT4.out] at x5
                    have xf := HS7.out.x.s.fz 5
                    have HB9 := Lib.hid (HS7.out.stepX (tell_x HS7.out.x.s))
                    generalize d.tell = d7 at *
                    clear L7 HEN
                    go_upto_region 36 with (fail)
                    generalize w7.setCell ⟨xb, 5, none⟩ (.bool true) = w9 at *
                    have HSA := Lib.hid (same_any HB9.out.s.s HB9.out.x.s)
                    unfold ptr at HSA
                    go_wp2_with fail
                    refine (HSA.out).mono ?_
                    rintro e w20 ⟨rfl, b20⟩
                    have HB20 := Lib.hid (HB9.out.below b20)
                    clear b20 HSA
                    go_wp2_with fail
                    go_roundw
                    case rel => exact ⟨j + 1, _, _, _, by go_num, by omega, HF7.out, HB20.out⟩
                    case measure => simp [intOf]; omega
                  | false =>
                    rw [ht, if_neg (by decide)] at HEN
                    have hx5 : ∀ w7, LeftR W.heap.size w7 xb y5 d w7 y5 → True := fun _ _ => trivial
                    clear hx5
                    have HT4 := Lib.hid ht
                    clear ht y1 y2 y3
                    go_wp2_with fail
                    refine (HEN.out).mono ?_
                    rintro e w7 ⟨rfl, L7⟩
                    have HS7 := Lib.hid (HS6.out.stepS L7)
                    have x5 : w7.cell? ⟨xb, 5, none⟩ = some (.bool d.told) := HS7.out.x.s.cell 5
                    rw [HT4.out] at x5
                    have xf := HS7.out.x.s.fz 5
                    have HB9 := Lib.hid (HS7.out.stepX (tell_x HS7.out.x.s))
                    generalize d.tell = d7 at *
                    clear L7 HEN
                    go_upto_region 36 with (fail)
                    generalize w7.setCell ⟨xb, 5, none⟩ (.bool true) = w9 at *
                    have HSA := Lib.hid (same_any HB9.out.s.s HB9.out.x.s)
                    unfold ptr at HSA
                    go_wp2_with fail
                    refine (HSA.out).mono ?_
                    rintro e w20 ⟨rfl, b20⟩
                    have HB20 := Lib.hid (HB9.out.below b20)
                    clear b20 HSA
                    go_wp2_with fail
                    go_roundw
                    case rel => exact ⟨j + 1, _, _, _, by go_num, by omega, HF7.out, HB20.out⟩
                    case measure => simp [intOf]; omega
                · have f4 : ((kd : Int) == 4) = false := by simp; omega
                  have HF7 : Hid (d.fin ≤ 1 + 100 * (j + 1)) := Lib.hid (by have := HF.out; omega)
                  have HB9 := Lib.hid HS6.out
                  generalize hd7 : d = d7 at *
                  clear y1 y2 y3 hd7
                  have HSA := Lib.hid (same_any HB9.out.s.s HB9.out.x.s)
                  unfold ptr at HSA
                  go_wp2_with fail
                  refine (HSA.out).mono ?_
                  rintro e w20 ⟨rfl, b20⟩
                  have HB20 := Lib.hid (HB9.out.below b20)
                  clear b20 HSA
                  go_wp2_with fail
                  go_roundw
                  case rel => exact ⟨j + 1, _, _, _, by go_num, by omega, HF7.out, HB20.out⟩
                  case measure => simp [intOf]; omega
      · obtain rfl : j = n := by omega
        have HB := Lib.hid S5.s.bel
        clear S5
        go_wp2_with fail
        go_ret
        exact ⟨rfl, HB.out⟩
end
end Go.Proofs.Ytgcblajhdebigaa
