/- The law PathActs. Conditions: the acts lie where the slice says. -/
import Derived.Test.YtpkhalneclmoeaaPaV
import Derived.Deep.CutRange
import Derived.WalkMore
namespace Go.Proofs.Ytpkhalneclmoeaa
set_option linter.unusedVariables false
set_option linter.unusedSimpArgs false
open Go.RowKit Go.Lib

set_option maxRecDepth 20000 in
set_option maxHeartbeats 12800000 in
theorem Acts_any (f0 f1 f2 : Int) (A : Option Addr) (n c : Nat) (l : List (Int × Int × Int)) (W : World) (h0 : B64 f0) (h1 : B64 f1) (h2 : B64 f2) (hA : Tri W A n c l) : Calls Try.prog 3 #[.agg #[.int .i64 f0, .int .i64 f1, .int .i64 f2], .slice A n c] W (Held W) := by
  have hbW := below_a W (.cells #[.int .i64 f0, .int .i64 f1, .int .i64 f2] 22)
  have HBW := Lib.hid hbW
  have HW := Lib.hid (wakes_any (W.alloc (.cells #[.int .i64 f0, .int .i64 f1, .int .i64 f2] 22)))
  have HC := Lib.hid (cell3 W (.int .i64 f0) (.int .i64 f1) (.int .i64 f2) 22)
  have HA := Lib.hid hA
  have hcap := hA.cap
  have hmax := hA.max
  clear hA hbW h0 h1 h2
  by_cases hlen : 100 < n
  · have hlen' : (100 : Int) < (n : Int) := by omega
    go_enter Try.func3, Try.ntmps3
    go_wp2_with fail
    refine (HW.out).mono ?_
    rintro e w0 ⟨rfl, b0⟩
    have B0 := Lib.hid (HBW.out.trans (b0.mono HBW.out.size))
    clear b0
    go_wp2_with fail
    go_ret
    exact ⟨rfl, B0.out⟩
  · have hlen' : ¬ (100 : Int) < (n : Int) := by omega
    cases hm : mb f0 && mb f1
    · have HN := Lib.hid (fun w => new_bad hm f2 w)
      have hout : (f0 < 0 ∨ 3 < f0) ∨ (f1 < 0 ∨ 3 < f1) := by
        by_cases e0 : 0 ≤ f0 ∧ f0 < 4
        · by_cases e1 : 0 ≤ f1 ∧ f1 < 4
          · have : (mb f0 && mb f1) = true := by unfold mb; rw [decide_eq_true e0, decide_eq_true e1]; rfl
            rw [this] at hm
            cases hm
          · right
            omega
        · left
          omega
      have HOUT := Lib.hid hout
      clear hm hout
      go_enter Try.func3, Try.ntmps3
      go_wp2_with fail
      refine (HW.out).mono ?_
      rintro e w0 ⟨rfl, b0⟩
      have B0 := Lib.hid (HBW.out.trans (b0.mono HBW.out.size))
      have x0 := keepc b0 HC.out.1
      have x1 := keepc b0 HC.out.2.1
      have x2 := keepc b0 HC.out.2.2
      clear b0
      go_wp2_with fail
      refine (HN.out _).mono ?_
      rintro e w1 ⟨rfl, rfl⟩
      obtain h | h := HOUT.out
      · obtain h | h := h
        · go_wp2_with fail
          go_ret
          exact ⟨rfl, B0.out⟩
        · have h' : ¬ f0 < 0 := by omega
          go_wp2_with fail
          go_ret
          exact ⟨rfl, B0.out⟩
      · by_cases g0 : f0 < 0
        · go_wp2_with fail
          go_ret
          exact ⟨rfl, B0.out⟩
        · by_cases g1 : 3 < f0
          · go_wp2_with fail
            go_ret
            exact ⟨rfl, B0.out⟩
          · obtain h | h := h
            · go_wp2_with fail
              go_ret
              exact ⟨rfl, B0.out⟩
            · have h' : ¬ f1 < 0 := by omega
              go_wp2_with fail
              go_ret
              exact ⟨rfl, B0.out⟩
    · obtain ⟨i, j, rfl, rfl, hi, hj⟩ := mb2_nat hm
      have HN := Lib.hid (fun w => new_good hi hj f2 w)
      have HX := Lib.hid (fun w (hb : W.heap.size ≤ w.heap.size) => rnew_any (base := W.heap.size) (w := w) hb hi hj f2)
      have q0 : ¬ (i : Int) < 0 := by omega
      have q1 : ¬ 3 < (i : Int) := by omega
      have q2 : ¬ (j : Int) < 0 := by omega
      have q3 : ¬ 3 < (j : Int) := by omega
      clear hm
      unfold ptr at *
      go_enter Try.func3, Try.ntmps3
      go_wp2_with fail
      refine (HW.out).mono ?_
      rintro e w0 ⟨rfl, b0⟩
      have B0 := Lib.hid (HBW.out.trans (b0.mono HBW.out.size))
      have x0 := keepc b0 HC.out.1
      have x1 := keepc b0 HC.out.2.1
      have x2 := keepc b0 HC.out.2.2
      clear b0
      go_wp2_with fail
      refine (HN.out _).mono ?_
      rintro e w1 ⟨pb, rfl, S1, b1, g1⟩
      have HS1 := Lib.hid S1
      have HB1 := Lib.hid (B0.out.trans (b1.mono B0.out.size))
      have HG1 : Hid (W.heap.size ≤ pb) := Lib.hid (Nat.le_trans B0.out.size g1)
      replace x0 := keepc b1 x0
      replace x1 := keepc b1 x1
      replace x2 := keepc b1 x2
      clear S1 b1 g1 HN
      go_wp2_with fail
      refine (HX.out _ HB1.out.size).mono ?_
      rintro e w2 ⟨xb, L, y, rfl, X2, b2, g2⟩
      have HB2 : Hid (Bo W w2 pb xb (Pm.new i j (most f2)) (Pm.new i j (most f2)) L y) := Lib.hid ⟨HS1.out.below b2, X2, HG1.out, Nat.le_trans HB1.out.size g2, HB1.out.trans (b2.mono HB1.out.size)⟩
      clear X2 b2 g2 HX x0 x1 x2 q0 q1 q2 q3 HS1 HB1 HG1
      generalize Pm.new i j (most f2) = p0 at *
      go_wp2_with fail
      go_loopg [62] n (fun kx ix wr => ∃ (j : Nat) (p : Pm) (L : List (Int × Int)) (y : Rx), j ≤ n ∧ n - j ≤ kx ∧ ix = .int .i64 (j : Int) ∧ Bo W wr pb xb p p L y)
      case atStart => exact ⟨0, p0, L, y, Nat.zero_le _, Nat.le_refl _, rfl, HB2.out⟩
      case round =>
        clear HB2
        obtain ⟨j, p, L, y, hj, hkx, rfl, hB⟩ := hrel
        by_cases hjn : j < n
        · obtain ⟨ga, oa, rfl, hcells⟩ := (HA.out.below hB.bl).mem (by omega)
          obtain ⟨c0, c1, c2⟩ := hcells j hjn
          clear hcells
          generalize (l.getD j z3).1 = kd at *
          generalize (l.getD j z3).2.1 = xa at *
          generalize (l.getD j z3).2.2 = xc at *
          have HBo := Lib.hid (hB.below (below_a wr (.cells #[.int .i64 kd, .int .i64 xa, .int .i64 xc] 32)))
          have HNG := Lib.hid (show wr.heap.size ≠ pb ∧ ¬ y.T xb wr.heap.size from ⟨fun e => by have := hB.s.lt; omega, fun e => by
            rcases e with e | e
            · have := hB.x.blk.lt
              omega
            · have := (own_in hB.x.l e).2
              omega⟩)
          obtain ⟨d0, d1, d2⟩ := cell3 wr (.int .i64 kd) (.int .i64 xa) (.int .i64 xc) 32
          clear hB
          go_upto_region 13 with (fail)
          iterate 10 (first | go_values | go_skip | go_guarded | go_step | go_upon | go_back)
          generalize wr.alloc (.cells #[.int .i64 kd, .int .i64 xa, .int .i64 xc] 32) = W8 at *
          generalize wr.heap.size = gt at *
          clear c0 c1 c2
          go_cut [10] from 63 to 202 (fun s10 wx => s10 = .bool true ∧ ∃ (p' : Pm) (L' : List (Int × Int)) (y' : Rx), Bo W wx pb xb p' p' L' y')
          case first =>
            by_cases k0 : kd = 0
            · subst k0
              have z1 : W8.drew.cell? ⟨gt, 1, none⟩ = some (.int .i64 xa) := d1
              have HB9 : Hid (Bo W W8.drew pb xb p p L y) := Lib.hid (HBo.out.below (Below.refl _ _).drew)
              clear d0 d1 d2
              go_upto_region 15 with (fail)
              refine wp_region_noPanic ?_
              refine wp_region_held_drew (S := fun W => W.cell? ⟨gt, 1, none⟩ = some (.int .i64 xa)) (by kernel_rfl) z1 (fun _ => ?_)
              generalize W8.drew = W9 at *
              refine held_take (i := 0) (v := .pointer (some ⟨pb, 0, none⟩)) (some 70) rfl rfl (by kernel_rfl) (by kernel_rfl) (by kernel_rfl) (fun _ _ _ h => h) (Or.inl ⟨by rfl, fun W hW => by go_simp⟩) z1 ?_
              simp only [Act.put, List.setIfInBounds_toArray, List.set_cons_zero, List.set_cons_succ]
              refine held_take (i := 1) (v := .pointer (some ⟨gt, 1, none⟩)) (some 71) rfl rfl (by kernel_rfl) (by kernel_rfl) (by kernel_rfl) (fun _ _ _ h => h) (Or.inl ⟨by rfl, fun W hW => by go_simp⟩) z1 ?_
              simp only [Act.put, List.setIfInBounds_toArray, List.set_cons_zero, List.set_cons_succ]
              refine held_take (i := 4) (v := .pointer (some ⟨xb, 0, none⟩)) (some 74) rfl rfl (by kernel_rfl) (by kernel_rfl) (by kernel_rfl) (fun _ _ _ h => h) (Or.inl ⟨by rfl, fun W hW => by go_simp⟩) z1 ?_
              simp only [Act.put, List.setIfInBounds_toArray, List.set_cons_zero, List.set_cons_succ]
              refine held_take (i := 5) (v := .pointer (some ⟨gt, 1, none⟩)) (some 75) rfl rfl (by kernel_rfl) (by kernel_rfl) (by kernel_rfl) (fun _ _ _ h => h) (Or.inl ⟨by rfl, fun W hW => by go_simp⟩) z1 ?_
              simp only [Act.put, List.setIfInBounds_toArray, List.set_cons_zero, List.set_cons_succ]
              refine held_take (i := 2) (v := .int .i64 xa) (some 72) rfl rfl (by kernel_rfl) (by kernel_rfl) (by kernel_rfl) (fun _ _ _ h => h) (Or.inl ⟨by rfl, fun W hW => by have hc := hW; go_simp⟩) z1 ?_
              simp only [Act.put, List.setIfInBounds_toArray, List.set_cons_zero, List.set_cons_succ]
              refine held_take (i := 6) (v := .int .i64 xa) (some 76) rfl rfl (by kernel_rfl) (by kernel_rfl) (by kernel_rfl) (fun _ _ _ h => h) (Or.inl ⟨by rfl, fun W hW => by have hc := hW; go_simp⟩) z1 ?_
              simp only [Act.put, List.setIfInBounds_toArray, List.set_cons_zero, List.set_cons_succ]
              refine wpAnyH_ready (rs := [3]) (by kernel_rfl) (by simp) ?_
              refine AllReadyH.cons rfl (fun K hK => ?_) AllReadyH.nil
              go_simp
              have HP := Lib.hid (tell_any HB9.out.s xa)
              generalize hev : p.tellE xa = ev at *
              have HEV := Lib.hid hev
              clear hev
              refine (HP.out).mono ?_
              rintro e w8 ⟨rfl, S8, C8⟩
              have HB10 := Lib.hid (HB9.out.didS S8 C8)
              have z2 : w8.cell? ⟨gt, 1, none⟩ = some (.int .i64 xa) := C8.cell z1 HNG.out.1
              clear S8 C8 HP
              try dsimp only
              refine hK.out _ _ z2 (fun _ => ?_)
              clear hK
              try simp only [Act.put, List.setIfInBounds_toArray, List.set_cons_zero, List.set_cons_succ]
              refine wpAnyH_ready (rs := [7]) (by kernel_rfl) (by simp) ?_
              refine AllReadyH.cons rfl (fun K hK => ?_) AllReadyH.nil
              go_simp
              have HQ := Lib.hid (rtell_any HB10.out.x HB10.out.size xa)
              rw [HEV.out] at HQ
              refine (HQ.out).mono ?_
              rintro e w9 ⟨rfl, L9, y9, r9, c9⟩
              obtain ⟨L10, y10, hB11⟩ := HB10.out.didX ⟨L9, y9, r9, c9⟩
              have HB11 := Lib.hid hB11
              have z3 : w9.cell? ⟨gt, 1, none⟩ = some (.int .i64 xa) := c9.cell z2 HNG.out.2
              clear r9 c9 HQ hB11
              try dsimp only
              refine hK.out _ _ z3 (fun _ => ?_)
              clear hK
              try simp only [Act.put, List.setIfInBounds_toArray, List.set_cons_zero, List.set_cons_succ]
              refine held_take (i := 8) (v := .bool true) (some 78) rfl rfl (by kernel_rfl) (by kernel_rfl) (by kernel_rfl) (fun _ _ _ h => h) (Or.inl ⟨by rfl, fun W hW => by go_simp⟩) z3 ?_
              simp only [Act.put, List.setIfInBounds_toArray, List.set_cons_zero, List.set_cons_succ]
              refine held_take (i := 9) (v := .bool true) (some 10) rfl rfl (by kernel_rfl) (by kernel_rfl) (by kernel_rfl) (fun _ _ _ h => h) (Or.inl ⟨by rfl, fun W hW => by go_simp⟩) z3 ?_
              simp only [Act.put, List.setIfInBounds_toArray, List.set_cons_zero, List.set_cons_succ]
              refine wpAnyH_done (by kernel_rfl) ?_ _
              refine NoPanic.normal ?_
              go_wp2_with fail
              go_meet
              case rel => exact ⟨rfl, _, _, _, HB11.out⟩
            · have k0b : (kd == 0) = false := by simpa using k0
              by_cases k1 : kd = 1
              · subst k1
                have z1 : W8.drew.cell? ⟨gt, 1, none⟩ = some (.int .i64 xa) := d1
                have HB9 : Hid (Bo W W8.drew pb xb p p L y) := Lib.hid (HBo.out.below (Below.refl _ _).drew)
                clear d0 d1 d2
                go_upto_region 17 with (fail)
                refine wp_region_noPanic ?_
                refine wp_region_held_drew (S := fun W => W.cell? ⟨gt, 1, none⟩ = some (.int .i64 xa)) (by kernel_rfl) z1 (fun _ => ?_)
                generalize W8.drew = W9 at *
                refine held_take (i := 0) (v := .pointer (some ⟨pb, 0, none⟩)) (some 81) rfl rfl (by kernel_rfl) (by kernel_rfl) (by kernel_rfl) (fun _ _ _ h => h) (Or.inl ⟨by rfl, fun W hW => by go_simp⟩) z1 ?_
                simp only [Act.put, List.setIfInBounds_toArray, List.set_cons_zero, List.set_cons_succ]
                refine held_take (i := 1) (v := .pointer (some ⟨gt, 1, none⟩)) (some 82) rfl rfl (by kernel_rfl) (by kernel_rfl) (by kernel_rfl) (fun _ _ _ h => h) (Or.inl ⟨by rfl, fun W hW => by go_simp⟩) z1 ?_
                simp only [Act.put, List.setIfInBounds_toArray, List.set_cons_zero, List.set_cons_succ]
                refine held_take (i := 4) (v := .pointer (some ⟨xb, 0, none⟩)) (some 85) rfl rfl (by kernel_rfl) (by kernel_rfl) (by kernel_rfl) (fun _ _ _ h => h) (Or.inl ⟨by rfl, fun W hW => by go_simp⟩) z1 ?_
                simp only [Act.put, List.setIfInBounds_toArray, List.set_cons_zero, List.set_cons_succ]
                refine held_take (i := 5) (v := .pointer (some ⟨gt, 1, none⟩)) (some 86) rfl rfl (by kernel_rfl) (by kernel_rfl) (by kernel_rfl) (fun _ _ _ h => h) (Or.inl ⟨by rfl, fun W hW => by go_simp⟩) z1 ?_
                simp only [Act.put, List.setIfInBounds_toArray, List.set_cons_zero, List.set_cons_succ]
                refine held_take (i := 2) (v := .int .i64 xa) (some 83) rfl rfl (by kernel_rfl) (by kernel_rfl) (by kernel_rfl) (fun _ _ _ h => h) (Or.inl ⟨by rfl, fun W hW => by have hc := hW; go_simp⟩) z1 ?_
                simp only [Act.put, List.setIfInBounds_toArray, List.set_cons_zero, List.set_cons_succ]
                refine held_take (i := 6) (v := .int .i64 xa) (some 87) rfl rfl (by kernel_rfl) (by kernel_rfl) (by kernel_rfl) (fun _ _ _ h => h) (Or.inl ⟨by rfl, fun W hW => by have hc := hW; go_simp⟩) z1 ?_
                simp only [Act.put, List.setIfInBounds_toArray, List.set_cons_zero, List.set_cons_succ]
                refine wpAnyH_ready (rs := [3]) (by kernel_rfl) (by simp) ?_
                refine AllReadyH.cons rfl (fun K hK => ?_) AllReadyH.nil
                go_simp
                have HP := Lib.hid (untell_any HB9.out.s xa)
                generalize hev : p.untE xa = ev at *
                have HEV := Lib.hid hev
                clear hev
                refine (HP.out).mono ?_
                rintro e w8 ⟨rfl, S8, C8⟩
                have HB10 := Lib.hid (HB9.out.didS S8 C8)
                have z2 : w8.cell? ⟨gt, 1, none⟩ = some (.int .i64 xa) := C8.cell z1 HNG.out.1
                clear S8 C8 HP
                try dsimp only
                refine hK.out _ _ z2 (fun _ => ?_)
                clear hK
                try simp only [Act.put, List.setIfInBounds_toArray, List.set_cons_zero, List.set_cons_succ]
                refine wpAnyH_ready (rs := [7]) (by kernel_rfl) (by simp) ?_
                refine AllReadyH.cons rfl (fun K hK => ?_) AllReadyH.nil
                go_simp
                have HQ := Lib.hid (runtell_any HB10.out.x HB10.out.size xa)
                rw [HEV.out] at HQ
                refine (HQ.out).mono ?_
                rintro e w9 ⟨rfl, L9, y9, r9, c9⟩
                obtain ⟨L10, y10, hB11⟩ := HB10.out.didX ⟨L9, y9, r9, c9⟩
                have HB11 := Lib.hid hB11
                have z3 : w9.cell? ⟨gt, 1, none⟩ = some (.int .i64 xa) := c9.cell z2 HNG.out.2
                clear r9 c9 HQ hB11
                try dsimp only
                refine hK.out _ _ z3 (fun _ => ?_)
                clear hK
                try simp only [Act.put, List.setIfInBounds_toArray, List.set_cons_zero, List.set_cons_succ]
                refine held_take (i := 8) (v := .bool true) (some 89) rfl rfl (by kernel_rfl) (by kernel_rfl) (by kernel_rfl) (fun _ _ _ h => h) (Or.inl ⟨by rfl, fun W hW => by go_simp⟩) z3 ?_
                simp only [Act.put, List.setIfInBounds_toArray, List.set_cons_zero, List.set_cons_succ]
                refine held_take (i := 9) (v := .bool true) (some 10) rfl rfl (by kernel_rfl) (by kernel_rfl) (by kernel_rfl) (fun _ _ _ h => h) (Or.inl ⟨by rfl, fun W hW => by go_simp⟩) z3 ?_
                simp only [Act.put, List.setIfInBounds_toArray, List.set_cons_zero, List.set_cons_succ]
                refine wpAnyH_done (by kernel_rfl) ?_ _
                refine NoPanic.normal ?_
                go_wp2_with fail
                go_meet
                case rel => exact ⟨rfl, _, _, _, HB11.out⟩
              · have k1b : (kd == 1) = false := by simpa using k1
                by_cases k2 : kd = 2
                · subst k2
                  have HP := Lib.hid (told_any HBo.out.s xa)
                  unfold ptr at HP
                  go_wp2_with fail
                  refine (HP.out).mono ?_
                  rintro e w8 ⟨⟨v8, rfl⟩, S8, C8⟩
                  have HB10 := Lib.hid (HBo.out.didS S8 C8)
                  have e1 : w8.cell? ⟨gt, 1, none⟩ = some (.int .i64 xa) := C8.cell d1 HNG.out.1
                  have HQ := Lib.hid (rtold_any HB10.out.x HB10.out.size xa)
                  unfold ptr at HQ
                  clear S8 C8 HP d0 d1 d2
                  go_wp2_with fail
                  refine (HQ.out).mono ?_
                  rintro e w9 ⟨⟨v9, rfl⟩, l9⟩
                  obtain ⟨L10, y10, hB11⟩ := HB10.out.didX l9
                  have HB11 := Lib.hid hB11
                  clear l9 hB11 HQ
                  go_wp2_with fail
                  go_meet
                  case rel => exact ⟨rfl, _, _, _, HB11.out⟩
                · have k2b : (kd == 2) = false := by simpa using k2
                  by_cases k3 : kd = 3
                  · subst k3
                    have z1 : W8.drew.cell? ⟨gt, 1, none⟩ = some (.int .i64 xa) := d1
                    have HB9 : Hid (Bo W W8.drew pb xb p p L y) := Lib.hid (HBo.out.below (Below.refl _ _).drew)
                    clear d0 d1 d2
                    go_upto_region 22 with (fail)
                    refine wp_region_noPanic ?_
                    refine wp_region_held_drew (S := fun W => W.cell? ⟨gt, 1, none⟩ = some (.int .i64 xa)) (by kernel_rfl) z1 (fun _ => ?_)
                    generalize W8.drew = W9 at *
                    refine held_take (i := 0) (v := .pointer (some ⟨pb, 0, none⟩)) (some 102) rfl rfl (by kernel_rfl) (by kernel_rfl) (by kernel_rfl) (fun _ _ _ h => h) (Or.inl ⟨by rfl, fun W hW => by go_simp⟩) z1 ?_
                    simp only [Act.put, List.setIfInBounds_toArray, List.set_cons_zero, List.set_cons_succ]
                    refine held_take (i := 1) (v := .pointer (some ⟨gt, 1, none⟩)) (some 103) rfl rfl (by kernel_rfl) (by kernel_rfl) (by kernel_rfl) (fun _ _ _ h => h) (Or.inl ⟨by rfl, fun W hW => by go_simp⟩) z1 ?_
                    simp only [Act.put, List.setIfInBounds_toArray, List.set_cons_zero, List.set_cons_succ]
                    refine held_take (i := 4) (v := .pointer (some ⟨xb, 0, none⟩)) (some 106) rfl rfl (by kernel_rfl) (by kernel_rfl) (by kernel_rfl) (fun _ _ _ h => h) (Or.inl ⟨by rfl, fun W hW => by go_simp⟩) z1 ?_
                    simp only [Act.put, List.setIfInBounds_toArray, List.set_cons_zero, List.set_cons_succ]
                    refine held_take (i := 5) (v := .pointer (some ⟨gt, 1, none⟩)) (some 107) rfl rfl (by kernel_rfl) (by kernel_rfl) (by kernel_rfl) (fun _ _ _ h => h) (Or.inl ⟨by rfl, fun W hW => by go_simp⟩) z1 ?_
                    simp only [Act.put, List.setIfInBounds_toArray, List.set_cons_zero, List.set_cons_succ]
                    refine held_take (i := 2) (v := .int .i64 xa) (some 104) rfl rfl (by kernel_rfl) (by kernel_rfl) (by kernel_rfl) (fun _ _ _ h => h) (Or.inl ⟨by rfl, fun W hW => by have hc := hW; go_simp⟩) z1 ?_
                    simp only [Act.put, List.setIfInBounds_toArray, List.set_cons_zero, List.set_cons_succ]
                    refine held_take (i := 6) (v := .int .i64 xa) (some 108) rfl rfl (by kernel_rfl) (by kernel_rfl) (by kernel_rfl) (fun _ _ _ h => h) (Or.inl ⟨by rfl, fun W hW => by have hc := hW; go_simp⟩) z1 ?_
                    simp only [Act.put, List.setIfInBounds_toArray, List.set_cons_zero, List.set_cons_succ]
                    refine wpAnyH_ready (rs := [3]) (by kernel_rfl) (by simp) ?_
                    refine AllReadyH.cons rfl (fun K hK => ?_) AllReadyH.nil
                    go_simp
                    have HP := Lib.hid (untold_any HB9.out.s xa)
                    refine (HP.out).mono ?_
                    rintro e w8 ⟨A8, n8, c8, rfl, o8, S8, C8⟩
                    have HB10 := Lib.hid (HB9.out.didS S8 C8)
                    have HO8 := Lib.hid o8
                    have z2 : w8.cell? ⟨gt, 1, none⟩ = some (.int .i64 xa) := C8.cell z1 HNG.out.1
                    clear S8 C8 HP o8
                    try dsimp only
                    refine hK.out _ _ z2 (fun _ => ?_)
                    clear hK
                    try simp only [Act.put, List.setIfInBounds_toArray, List.set_cons_zero, List.set_cons_succ]
                    refine wpAnyH_ready (rs := [7]) (by kernel_rfl) (by simp) ?_
                    refine AllReadyH.cons rfl (fun K hK => ?_) AllReadyH.nil
                    go_simp
                    have HQ := Lib.hid (runtold_any HB10.out.x HB10.out.size xa)
                    refine (HQ.out).mono ?_
                    rintro e w9 ⟨R9, A9, n9, c9', rfl, ps9, nd9, mm9, ⟨L9, y9, r9, c9⟩, -⟩
                    obtain ⟨L10, y10, hB11⟩ := HB10.out.didX ⟨L9, y9, r9, c9⟩
                    have HB11 := Lib.hid hB11
                    have HPA := Lib.hid (alike_any (pairs_of (row_far HB10.out HO8.out c9)) ps9 (untL_rises p xa) nd9 (fun u => (mm9 u).symm))
                    have z3 : w9.cell? ⟨gt, 1, none⟩ = some (.int .i64 xa) := c9.cell z2 HNG.out.2
                    clear r9 c9 HQ hB11 ps9 nd9 mm9
                    try dsimp only
                    refine hK.out _ _ z3 (fun _ => ?_)
                    clear hK
                    try simp only [Act.put, List.setIfInBounds_toArray, List.set_cons_zero, List.set_cons_succ]
                    refine wpAnyH_ready (rs := [8]) (by kernel_rfl) (by simp) ?_
                    refine AllReadyH.cons rfl (fun K hK => ?_) AllReadyH.nil
                    go_simp
                    refine (HPA.out).mono ?_
                    rintro e w10 ⟨rfl, b10⟩
                    have HB12 := Lib.hid (HB11.out.below b10)
                    have z4 : w10.cell? ⟨gt, 1, none⟩ = some (.int .i64 xa) := keepc b10 z3
                    clear b10 HPA
                    try dsimp only
                    refine hK.out _ _ z4 (fun _ => ?_)
                    clear hK
                    try simp only [Act.put, List.setIfInBounds_toArray, List.set_cons_zero, List.set_cons_succ]
                    refine held_take (i := 9) (v := .bool true) (some 10) rfl rfl (by kernel_rfl) (by kernel_rfl) (by kernel_rfl) (fun _ _ _ h => h) (Or.inl ⟨by rfl, fun W hW => by go_simp⟩) z4 ?_
                    simp only [Act.put, List.setIfInBounds_toArray, List.set_cons_zero, List.set_cons_succ]
                    refine wpAnyH_done (by kernel_rfl) ?_ _
                    refine NoPanic.normal ?_
                    go_wp2_with fail
                    go_meet
                    case rel => exact ⟨rfl, _, _, _, HB12.out⟩
                  · have k3b : (kd == 3) = false := by simpa using k3
                    by_cases k4 : kd = 4
                    · subst k4
                      have z1 : W8.drew.cell? ⟨gt, 1, none⟩ = some (.int .i64 xa) ∧ W8.drew.cell? ⟨gt, 2, none⟩ = some (.int .i64 xc) := ⟨d1, d2⟩
                      have HB9 : Hid (Bo W W8.drew pb xb p p L y) := Lib.hid (HBo.out.below (Below.refl _ _).drew)
                      clear d0 d1 d2
                      go_upto_region 24 with (fail)
                      refine wp_region_noPanic ?_
                      refine wp_region_held_drew (S := fun W => W.cell? ⟨gt, 1, none⟩ = some (.int .i64 xa) ∧ W.cell? ⟨gt, 2, none⟩ = some (.int .i64 xc)) (by kernel_rfl) z1 (fun _ => ?_)
                      generalize W8.drew = W9 at *
                      refine held_take (i := 0) (v := .pointer (some ⟨pb, 0, none⟩)) (some 113) rfl rfl (by kernel_rfl) (by kernel_rfl) (by kernel_rfl) (fun _ _ _ h => h) (Or.inl ⟨by rfl, fun W hW => by go_simp⟩) z1 ?_
                      simp only [Act.put, List.setIfInBounds_toArray, List.set_cons_zero, List.set_cons_succ]
                      refine held_take (i := 1) (v := .pointer (some ⟨gt, 1, none⟩)) (some 114) rfl rfl (by kernel_rfl) (by kernel_rfl) (by kernel_rfl) (fun _ _ _ h => h) (Or.inl ⟨by rfl, fun W hW => by go_simp⟩) z1 ?_
                      simp only [Act.put, List.setIfInBounds_toArray, List.set_cons_zero, List.set_cons_succ]
                      refine held_take (i := 3) (v := .pointer (some ⟨gt, 2, none⟩)) (some 116) rfl rfl (by kernel_rfl) (by kernel_rfl) (by kernel_rfl) (fun _ _ _ h => h) (Or.inl ⟨by rfl, fun W hW => by go_simp⟩) z1 ?_
                      simp only [Act.put, List.setIfInBounds_toArray, List.set_cons_zero, List.set_cons_succ]
                      refine held_take (i := 6) (v := .pointer (some ⟨xb, 0, none⟩)) (some 119) rfl rfl (by kernel_rfl) (by kernel_rfl) (by kernel_rfl) (fun _ _ _ h => h) (Or.inl ⟨by rfl, fun W hW => by go_simp⟩) z1 ?_
                      simp only [Act.put, List.setIfInBounds_toArray, List.set_cons_zero, List.set_cons_succ]
                      refine held_take (i := 7) (v := .pointer (some ⟨gt, 1, none⟩)) (some 120) rfl rfl (by kernel_rfl) (by kernel_rfl) (by kernel_rfl) (fun _ _ _ h => h) (Or.inl ⟨by rfl, fun W hW => by go_simp⟩) z1 ?_
                      simp only [Act.put, List.setIfInBounds_toArray, List.set_cons_zero, List.set_cons_succ]
                      refine held_take (i := 9) (v := .pointer (some ⟨gt, 2, none⟩)) (some 122) rfl rfl (by kernel_rfl) (by kernel_rfl) (by kernel_rfl) (fun _ _ _ h => h) (Or.inl ⟨by rfl, fun W hW => by go_simp⟩) z1 ?_
                      simp only [Act.put, List.setIfInBounds_toArray, List.set_cons_zero, List.set_cons_succ]
                      refine held_take (i := 2) (v := .int .i64 xa) (some 115) rfl rfl (by kernel_rfl) (by kernel_rfl) (by kernel_rfl) (fun _ _ _ h => h) (Or.inl ⟨by rfl, fun W hW => by have hc := hW.1; go_simp⟩) z1 ?_
                      simp only [Act.put, List.setIfInBounds_toArray, List.set_cons_zero, List.set_cons_succ]
                      refine held_take (i := 4) (v := .int .i64 xc) (some 117) rfl rfl (by kernel_rfl) (by kernel_rfl) (by kernel_rfl) (fun _ _ _ h => h) (Or.inl ⟨by rfl, fun W hW => by have hc := hW.2; go_simp⟩) z1 ?_
                      simp only [Act.put, List.setIfInBounds_toArray, List.set_cons_zero, List.set_cons_succ]
                      refine held_take (i := 8) (v := .int .i64 xa) (some 121) rfl rfl (by kernel_rfl) (by kernel_rfl) (by kernel_rfl) (fun _ _ _ h => h) (Or.inl ⟨by rfl, fun W hW => by have hc := hW.1; go_simp⟩) z1 ?_
                      simp only [Act.put, List.setIfInBounds_toArray, List.set_cons_zero, List.set_cons_succ]
                      refine held_take (i := 10) (v := .int .i64 xc) (some 123) rfl rfl (by kernel_rfl) (by kernel_rfl) (by kernel_rfl) (fun _ _ _ h => h) (Or.inl ⟨by rfl, fun W hW => by have hc := hW.2; go_simp⟩) z1 ?_
                      simp only [Act.put, List.setIfInBounds_toArray, List.set_cons_zero, List.set_cons_succ]
                      refine wpAnyH_ready (rs := [5]) (by kernel_rfl) (by simp) ?_
                      refine AllReadyH.cons rfl (fun K hK => ?_) AllReadyH.nil
                      go_simp
                      have HP := Lib.hid (join_any HB9.out.s xa xc)
                      generalize hev : p.joinE xa xc = ev at *
                      have HEV := Lib.hid hev
                      clear hev
                      refine (HP.out).mono ?_
                      rintro e w8 ⟨rfl, S8, C8⟩
                      have HB10 := Lib.hid (HB9.out.didS S8 C8)
                      have z2 : w8.cell? ⟨gt, 1, none⟩ = some (.int .i64 xa) ∧ w8.cell? ⟨gt, 2, none⟩ = some (.int .i64 xc) := ⟨C8.cell z1.1 HNG.out.1, C8.cell z1.2 HNG.out.1⟩
                      clear S8 C8 HP
                      try dsimp only
                      refine hK.out _ _ z2 (fun _ => ?_)
                      clear hK
                      try simp only [Act.put, List.setIfInBounds_toArray, List.set_cons_zero, List.set_cons_succ]
                      refine wpAnyH_ready (rs := [11]) (by kernel_rfl) (by simp) ?_
                      refine AllReadyH.cons rfl (fun K hK => ?_) AllReadyH.nil
                      go_simp
                      have HQ := Lib.hid (rjoin_any HB10.out.x HB10.out.size xa xc)
                      rw [HEV.out] at HQ
                      refine (HQ.out).mono ?_
                      rintro e w9 ⟨rfl, L9, y9, r9, c9⟩
                      obtain ⟨L10, y10, hB11⟩ := HB10.out.didX ⟨L9, y9, r9, c9⟩
                      have HB11 := Lib.hid hB11
                      have z3 : w9.cell? ⟨gt, 1, none⟩ = some (.int .i64 xa) ∧ w9.cell? ⟨gt, 2, none⟩ = some (.int .i64 xc) := ⟨c9.cell z2.1 HNG.out.2, c9.cell z2.2 HNG.out.2⟩
                      clear r9 c9 HQ hB11
                      try dsimp only
                      refine hK.out _ _ z3 (fun _ => ?_)
                      clear hK
                      try simp only [Act.put, List.setIfInBounds_toArray, List.set_cons_zero, List.set_cons_succ]
                      refine held_take (i := 12) (v := .bool true) (some 125) rfl rfl (by kernel_rfl) (by kernel_rfl) (by kernel_rfl) (fun _ _ _ h => h) (Or.inl ⟨by rfl, fun W hW => by go_simp⟩) z3 ?_
                      simp only [Act.put, List.setIfInBounds_toArray, List.set_cons_zero, List.set_cons_succ]
                      refine held_take (i := 13) (v := .bool true) (some 10) rfl rfl (by kernel_rfl) (by kernel_rfl) (by kernel_rfl) (fun _ _ _ h => h) (Or.inl ⟨by rfl, fun W hW => by go_simp⟩) z3 ?_
                      simp only [Act.put, List.setIfInBounds_toArray, List.set_cons_zero, List.set_cons_succ]
                      refine wpAnyH_done (by kernel_rfl) ?_ _
                      refine NoPanic.normal ?_
                      go_wp2_with fail
                      go_meet
                      case rel => exact ⟨rfl, _, _, _, HB11.out⟩
                    · have k4b : (kd == 4) = false := by simpa using k4
                      by_cases k5 : kd = 5
                      · subst k5
                        have z1 : W8.drew.cell? ⟨gt, 1, none⟩ = some (.int .i64 xa) ∧ W8.drew.cell? ⟨gt, 2, none⟩ = some (.int .i64 xc) := ⟨d1, d2⟩
                        have HB9 : Hid (Bo W W8.drew pb xb p p L y) := Lib.hid (HBo.out.below (Below.refl _ _).drew)
                        clear d0 d1 d2
                        go_upto_region 26 with (fail)
                        refine wp_region_noPanic ?_
                        refine wp_region_held_drew (S := fun W => W.cell? ⟨gt, 1, none⟩ = some (.int .i64 xa) ∧ W.cell? ⟨gt, 2, none⟩ = some (.int .i64 xc)) (by kernel_rfl) z1 (fun _ => ?_)
                        generalize W8.drew = W9 at *
                        refine held_take (i := 0) (v := .pointer (some ⟨pb, 0, none⟩)) (some 128) rfl rfl (by kernel_rfl) (by kernel_rfl) (by kernel_rfl) (fun _ _ _ h => h) (Or.inl ⟨by rfl, fun W hW => by go_simp⟩) z1 ?_
                        simp only [Act.put, List.setIfInBounds_toArray, List.set_cons_zero, List.set_cons_succ]
                        refine held_take (i := 1) (v := .pointer (some ⟨gt, 1, none⟩)) (some 129) rfl rfl (by kernel_rfl) (by kernel_rfl) (by kernel_rfl) (fun _ _ _ h => h) (Or.inl ⟨by rfl, fun W hW => by go_simp⟩) z1 ?_
                        simp only [Act.put, List.setIfInBounds_toArray, List.set_cons_zero, List.set_cons_succ]
                        refine held_take (i := 3) (v := .pointer (some ⟨gt, 2, none⟩)) (some 131) rfl rfl (by kernel_rfl) (by kernel_rfl) (by kernel_rfl) (fun _ _ _ h => h) (Or.inl ⟨by rfl, fun W hW => by go_simp⟩) z1 ?_
                        simp only [Act.put, List.setIfInBounds_toArray, List.set_cons_zero, List.set_cons_succ]
                        refine held_take (i := 6) (v := .pointer (some ⟨xb, 0, none⟩)) (some 134) rfl rfl (by kernel_rfl) (by kernel_rfl) (by kernel_rfl) (fun _ _ _ h => h) (Or.inl ⟨by rfl, fun W hW => by go_simp⟩) z1 ?_
                        simp only [Act.put, List.setIfInBounds_toArray, List.set_cons_zero, List.set_cons_succ]
                        refine held_take (i := 7) (v := .pointer (some ⟨gt, 1, none⟩)) (some 135) rfl rfl (by kernel_rfl) (by kernel_rfl) (by kernel_rfl) (fun _ _ _ h => h) (Or.inl ⟨by rfl, fun W hW => by go_simp⟩) z1 ?_
                        simp only [Act.put, List.setIfInBounds_toArray, List.set_cons_zero, List.set_cons_succ]
                        refine held_take (i := 9) (v := .pointer (some ⟨gt, 2, none⟩)) (some 137) rfl rfl (by kernel_rfl) (by kernel_rfl) (by kernel_rfl) (fun _ _ _ h => h) (Or.inl ⟨by rfl, fun W hW => by go_simp⟩) z1 ?_
                        simp only [Act.put, List.setIfInBounds_toArray, List.set_cons_zero, List.set_cons_succ]
                        refine held_take (i := 2) (v := .int .i64 xa) (some 130) rfl rfl (by kernel_rfl) (by kernel_rfl) (by kernel_rfl) (fun _ _ _ h => h) (Or.inl ⟨by rfl, fun W hW => by have hc := hW.1; go_simp⟩) z1 ?_
                        simp only [Act.put, List.setIfInBounds_toArray, List.set_cons_zero, List.set_cons_succ]
                        refine held_take (i := 4) (v := .int .i64 xc) (some 132) rfl rfl (by kernel_rfl) (by kernel_rfl) (by kernel_rfl) (fun _ _ _ h => h) (Or.inl ⟨by rfl, fun W hW => by have hc := hW.2; go_simp⟩) z1 ?_
                        simp only [Act.put, List.setIfInBounds_toArray, List.set_cons_zero, List.set_cons_succ]
                        refine held_take (i := 8) (v := .int .i64 xa) (some 136) rfl rfl (by kernel_rfl) (by kernel_rfl) (by kernel_rfl) (fun _ _ _ h => h) (Or.inl ⟨by rfl, fun W hW => by have hc := hW.1; go_simp⟩) z1 ?_
                        simp only [Act.put, List.setIfInBounds_toArray, List.set_cons_zero, List.set_cons_succ]
                        refine held_take (i := 10) (v := .int .i64 xc) (some 138) rfl rfl (by kernel_rfl) (by kernel_rfl) (by kernel_rfl) (fun _ _ _ h => h) (Or.inl ⟨by rfl, fun W hW => by have hc := hW.2; go_simp⟩) z1 ?_
                        simp only [Act.put, List.setIfInBounds_toArray, List.set_cons_zero, List.set_cons_succ]
                        refine wpAnyH_ready (rs := [5]) (by kernel_rfl) (by simp) ?_
                        refine AllReadyH.cons rfl (fun K hK => ?_) AllReadyH.nil
                        go_simp
                        have HP := Lib.hid (gone_any HB9.out.s xa xc)
                        generalize hev : p.goneB xa xc = ev at *
                        have HEV := Lib.hid hev
                        clear hev
                        refine (HP.out).mono ?_
                        rintro e w8 ⟨rfl, S8, C8⟩
                        have HB10 := Lib.hid (HB9.out.didS S8 C8)
                        have z2 : w8.cell? ⟨gt, 1, none⟩ = some (.int .i64 xa) ∧ w8.cell? ⟨gt, 2, none⟩ = some (.int .i64 xc) := ⟨C8.cell z1.1 HNG.out.1, C8.cell z1.2 HNG.out.1⟩
                        clear S8 C8 HP
                        try dsimp only
                        refine hK.out _ _ z2 (fun _ => ?_)
                        clear hK
                        try simp only [Act.put, List.setIfInBounds_toArray, List.set_cons_zero, List.set_cons_succ]
                        refine wpAnyH_ready (rs := [11]) (by kernel_rfl) (by simp) ?_
                        refine AllReadyH.cons rfl (fun K hK => ?_) AllReadyH.nil
                        go_simp
                        have HQ := Lib.hid ((rgone_any HB10.out.x HB10.out.size xa xc).mono (fun e w h => h.left y))
                        rw [HEV.out] at HQ
                        refine (HQ.out).mono ?_
                        rintro e w9 ⟨rfl, L9, y9, r9, c9⟩
                        obtain ⟨L10, y10, hB11⟩ := HB10.out.didX ⟨L9, y9, r9, c9⟩
                        have HB11 := Lib.hid hB11
                        have z3 : w9.cell? ⟨gt, 1, none⟩ = some (.int .i64 xa) ∧ w9.cell? ⟨gt, 2, none⟩ = some (.int .i64 xc) := ⟨c9.cell z2.1 HNG.out.2, c9.cell z2.2 HNG.out.2⟩
                        clear r9 c9 HQ hB11
                        try dsimp only
                        refine hK.out _ _ z3 (fun _ => ?_)
                        clear hK
                        try simp only [Act.put, List.setIfInBounds_toArray, List.set_cons_zero, List.set_cons_succ]
                        refine held_take (i := 12) (v := .bool true) (some 140) rfl rfl (by kernel_rfl) (by kernel_rfl) (by kernel_rfl) (fun _ _ _ h => h) (Or.inl ⟨by rfl, fun W hW => by go_simp⟩) z3 ?_
                        simp only [Act.put, List.setIfInBounds_toArray, List.set_cons_zero, List.set_cons_succ]
                        refine held_take (i := 13) (v := .bool true) (some 10) rfl rfl (by kernel_rfl) (by kernel_rfl) (by kernel_rfl) (fun _ _ _ h => h) (Or.inl ⟨by rfl, fun W hW => by go_simp⟩) z3 ?_
                        simp only [Act.put, List.setIfInBounds_toArray, List.set_cons_zero, List.set_cons_succ]
                        refine wpAnyH_done (by kernel_rfl) ?_ _
                        refine NoPanic.normal ?_
                        go_wp2_with fail
                        go_meet
                        case rel => exact ⟨rfl, _, _, _, HB11.out⟩
                      · have k5b : (kd == 5) = false := by simpa using k5
                        clear d0 d1 d2
                        go_wp2_with fail
                        go_meet
                        case rel => exact ⟨rfl, _, _, _, HBo.out⟩
          case rest =>
            obtain ⟨rfl, p2, L2, y2, hB2⟩ := hcut
            have HB2 := Lib.hid hB2
            have HNX := Lib.hid (Next_any hB2.s)
            clear hB2 HBo HNG d0 d1 d2
            unfold ptr pr at HNX
            go_wp2_with fail
            refine (HNX.out).mono ?_
            rintro e w3 ⟨rfl, b3⟩
            have hb4 := below_a w3 (.cells #[.int .i64 p2.nxP.1, .int .i64 p2.nxP.2] 45)
            have HB4 := Lib.hid ((HB2.out.below b3).below hb4)
            have HC4 := Lib.hid (cell2 w3 (.int .i64 p2.nxP.1) (.int .i64 p2.nxP.2) 45)
            have HXN := Lib.hid (rnext_any HB4.out.x)
            unfold ptr at HXN
            clear b3 hb4 HNX HB2
            go_wp2_with fail
            generalize w3.alloc (.cells #[.int .i64 p2.nxP.1, .int .i64 p2.nxP.2] 45) = w4 at *
            generalize w3.heap.size = gn at *
            generalize p2.nxP.1 = a1 at *
            generalize p2.nxP.2 = a2 at *
            generalize p2.nxB = nB at *
            refine (HXN.out).mono ?_
            rintro e w5 ⟨rfl, b5⟩
            have hb6 := below_a w5 (.cells #[.int .i64 a1, .int .i64 a2, .bool nB] 50)
            have HB6 := Lib.hid ((HB4.out.below b5).below hb6)
            have HC6 := Lib.hid (cell3 w5 (.int .i64 a1) (.int .i64 a2) (.bool nB) 50)
            have hl : Look (w5.alloc (.cells #[.int .i64 a1, .int .i64 a2, .bool nB] 50)) gn w5.heap.size xb a1 a2 nB y2 := ⟨keepc hb6 (keepc b5 HC4.out.1), keepc hb6 (keepc b5 HC4.out.2), HC6.out.1, HC6.out.2.1, HC6.out.2.2, HB6.out.x.c0, HB6.out.x.c1, HB6.out.x.c2⟩
            clear b5 hb6 HXN HB4 HC4 HC6
            go_upto_region 29 with (fail)
            generalize w5.alloc (.cells #[.int .i64 a1, .int .i64 a2, .bool nB] 50) = w6 at *
            generalize w5.heap.size = gf at *
            have z1 := hl.below (Below.refl _ _).drew
            have HB7 := Lib.hid (HB6.out.below (Below.refl _ _).drew)
            clear hl HB6
            refine wp_region_noPanic ?_
            refine wp_region_held_drew (S := fun W => Look W gn gf xb a1 a2 nB y2) (by kernel_rfl) z1 (fun _ => ?_)
            generalize w6.drew = w7 at *
            refine held_take (i := 0) (v := .bool true) (some 148) rfl rfl (by kernel_rfl) (by kernel_rfl) (by kernel_rfl) (fun _ _ _ h => h) (Or.inl ⟨by rfl, fun W hW => by go_simp⟩) z1 ?_
            simp only [Act.put, List.setIfInBounds_toArray, List.set_cons_zero, List.set_cons_succ]
            refine held_take (i := 1) (v := .bool false) (some 149) rfl rfl (by kernel_rfl) (by kernel_rfl) (by kernel_rfl) (fun _ _ _ h => h) (Or.inl ⟨by rfl, fun W hW => by go_simp⟩) z1 ?_
            simp only [Act.put, List.setIfInBounds_toArray, List.set_cons_zero, List.set_cons_succ]
            refine held_take (i := 2) (v := .bool false) (some 150) rfl rfl (by kernel_rfl) (by kernel_rfl) (by kernel_rfl) (fun _ _ _ h => h) (Or.inl ⟨by rfl, fun W hW => by go_simp⟩) z1 ?_
            simp only [Act.put, List.setIfInBounds_toArray, List.set_cons_zero, List.set_cons_succ]
            refine held_take (i := 3) (v := .bool nB) (some 151) rfl rfl (by kernel_rfl) (by kernel_rfl) (by kernel_rfl) (fun _ _ _ h => h) (Or.inl ⟨by rfl, fun W hW => by go_simp⟩) z1 ?_
            simp only [Act.put, List.setIfInBounds_toArray, List.set_cons_zero, List.set_cons_succ]
            refine held_take (i := 4) (v := .pointer (some ⟨gf, 2, none⟩)) (some 152) rfl rfl (by kernel_rfl) (by kernel_rfl) (by kernel_rfl) (fun _ _ _ h => h) (Or.inl ⟨by rfl, fun W hW => by go_simp⟩) z1 ?_
            simp only [Act.put, List.setIfInBounds_toArray, List.set_cons_zero, List.set_cons_succ]
            refine held_take (i := 5) (v := .bool nB) (some 153) rfl rfl (by kernel_rfl) (by kernel_rfl) (by kernel_rfl) (fun _ _ _ h => h) (Or.inl ⟨by rfl, fun W hW => by have hc := hW.f2; go_simp⟩) z1 ?_
            simp only [Act.put, List.setIfInBounds_toArray, List.set_cons_zero, List.set_cons_succ]
            refine held_take (i := 6) (v := .bool false) (some 154) rfl rfl (by kernel_rfl) (by kernel_rfl) (by kernel_rfl) (fun _ _ _ h => h) (Or.inl ⟨by rfl, fun W hW => by go_simp⟩) z1 ?_
            simp only [Act.put, List.setIfInBounds_toArray, List.set_cons_zero, List.set_cons_succ]
            refine held_take (i := 7) (v := .bool false) (some 155) rfl rfl (by kernel_rfl) (by kernel_rfl) (by kernel_rfl) (fun _ _ _ h => h) (Or.inl ⟨by rfl, fun W hW => by go_simp⟩) z1 ?_
            simp only [Act.put, List.setIfInBounds_toArray, List.set_cons_zero, List.set_cons_succ]
            refine held_take (i := 8) (v := .bool false) (some 156) rfl rfl (by kernel_rfl) (by kernel_rfl) (by kernel_rfl) (fun _ _ _ h => h) (Or.inl ⟨by rfl, fun W hW => by go_simp⟩) z1 ?_
            simp only [Act.put, List.setIfInBounds_toArray, List.set_cons_zero, List.set_cons_succ]
            refine held_take (i := 9) (v := .pointer (some ⟨gn, 0, none⟩)) (some 157) rfl rfl (by kernel_rfl) (by kernel_rfl) (by kernel_rfl) (fun _ _ _ h => h) (Or.inl ⟨by rfl, fun W hW => by go_simp⟩) z1 ?_
            simp only [Act.put, List.setIfInBounds_toArray, List.set_cons_zero, List.set_cons_succ]
            refine held_take (i := 11) (v := .pointer (some ⟨gf, 0, none⟩)) (some 159) rfl rfl (by kernel_rfl) (by kernel_rfl) (by kernel_rfl) (fun _ _ _ h => h) (Or.inl ⟨by rfl, fun W hW => by go_simp⟩) z1 ?_
            simp only [Act.put, List.setIfInBounds_toArray, List.set_cons_zero, List.set_cons_succ]
            refine held_take (i := 10) (v := .int .i64 a1) (some 158) rfl rfl (by kernel_rfl) (by kernel_rfl) (by kernel_rfl) (fun _ _ _ h => h) (Or.inl ⟨by rfl, fun W hW => by have hc := hW.n0; go_simp⟩) z1 ?_
            simp only [Act.put, List.setIfInBounds_toArray, List.set_cons_zero, List.set_cons_succ]
            refine held_take (i := 12) (v := .pointer (some ⟨gf, 0, none⟩)) (some 160) rfl rfl (by kernel_rfl) (by kernel_rfl) (by kernel_rfl) (fun _ _ _ h => h) (Or.inl ⟨by rfl, fun W hW => by go_simp⟩) z1 ?_
            simp only [Act.put, List.setIfInBounds_toArray, List.set_cons_zero, List.set_cons_succ]
            refine held_take (i := 13) (v := .int .i64 a1) (some 161) rfl rfl (by kernel_rfl) (by kernel_rfl) (by kernel_rfl) (fun _ _ _ h => h) (Or.inl ⟨by rfl, fun W hW => by have hc := hW.f0; go_simp⟩) z1 ?_
            simp only [Act.put, List.setIfInBounds_toArray, List.set_cons_zero, List.set_cons_succ]
            refine held_take (i := 14) (v := .bool false) (some 162) rfl rfl (by kernel_rfl) (by kernel_rfl) (by kernel_rfl) (fun _ _ _ h => h) (Or.inl ⟨by rfl, fun W hW => by go_simp⟩) z1 ?_
            simp only [Act.put, List.setIfInBounds_toArray, List.set_cons_zero, List.set_cons_succ]
            refine held_take (i := 15) (v := .bool false) (some 163) rfl rfl (by kernel_rfl) (by kernel_rfl) (by kernel_rfl) (fun _ _ _ h => h) (Or.inl ⟨by rfl, fun W hW => by go_simp⟩) z1 ?_
            simp only [Act.put, List.setIfInBounds_toArray, List.set_cons_zero, List.set_cons_succ]
            refine held_take (i := 16) (v := .bool false) (some 164) rfl rfl (by kernel_rfl) (by kernel_rfl) (by kernel_rfl) (fun _ _ _ h => h) (Or.inl ⟨by rfl, fun W hW => by go_simp⟩) z1 ?_
            simp only [Act.put, List.setIfInBounds_toArray, List.set_cons_zero, List.set_cons_succ]
            refine held_take (i := 17) (v := .pointer (some ⟨gn, 1, none⟩)) (some 165) rfl rfl (by kernel_rfl) (by kernel_rfl) (by kernel_rfl) (fun _ _ _ h => h) (Or.inl ⟨by rfl, fun W hW => by go_simp⟩) z1 ?_
            simp only [Act.put, List.setIfInBounds_toArray, List.set_cons_zero, List.set_cons_succ]
            refine held_take (i := 19) (v := .pointer (some ⟨gf, 0, none⟩)) (some 167) rfl rfl (by kernel_rfl) (by kernel_rfl) (by kernel_rfl) (fun _ _ _ h => h) (Or.inl ⟨by rfl, fun W hW => by go_simp⟩) z1 ?_
            simp only [Act.put, List.setIfInBounds_toArray, List.set_cons_zero, List.set_cons_succ]
            refine held_take (i := 18) (v := .int .i64 a2) (some 166) rfl rfl (by kernel_rfl) (by kernel_rfl) (by kernel_rfl) (fun _ _ _ h => h) (Or.inl ⟨by rfl, fun W hW => by have hc := hW.n1; go_simp⟩) z1 ?_
            simp only [Act.put, List.setIfInBounds_toArray, List.set_cons_zero, List.set_cons_succ]
            refine held_take (i := 20) (v := .pointer (some ⟨gf, 1, none⟩)) (some 168) rfl rfl (by kernel_rfl) (by kernel_rfl) (by kernel_rfl) (fun _ _ _ h => h) (Or.inl ⟨by rfl, fun W hW => by go_simp⟩) z1 ?_
            simp only [Act.put, List.setIfInBounds_toArray, List.set_cons_zero, List.set_cons_succ]
            refine held_take (i := 21) (v := .int .i64 a2) (some 169) rfl rfl (by kernel_rfl) (by kernel_rfl) (by kernel_rfl) (fun _ _ _ h => h) (Or.inl ⟨by rfl, fun W hW => by have hc := hW.f1; go_simp⟩) z1 ?_
            simp only [Act.put, List.setIfInBounds_toArray, List.set_cons_zero, List.set_cons_succ]
            refine held_take (i := 22) (v := .bool false) (some 170) rfl rfl (by kernel_rfl) (by kernel_rfl) (by kernel_rfl) (fun _ _ _ h => h) (Or.inl ⟨by rfl, fun W hW => by go_simp⟩) z1 ?_
            simp only [Act.put, List.setIfInBounds_toArray, List.set_cons_zero, List.set_cons_succ]
            refine held_take (i := 23) (v := .bool false) (some 171) rfl rfl (by kernel_rfl) (by kernel_rfl) (by kernel_rfl) (fun _ _ _ h => h) (Or.inl ⟨by rfl, fun W hW => by go_simp⟩) z1 ?_
            simp only [Act.put, List.setIfInBounds_toArray, List.set_cons_zero, List.set_cons_succ]
            refine held_take (i := 24) (v := .bool false) (some 172) rfl rfl (by kernel_rfl) (by kernel_rfl) (by kernel_rfl) (fun _ _ _ h => h) (Or.inl ⟨by rfl, fun W hW => by go_simp⟩) z1 ?_
            simp only [Act.put, List.setIfInBounds_toArray, List.set_cons_zero, List.set_cons_succ]
            refine held_take (i := 25) (v := .pointer (some ⟨pb, 0, none⟩)) (some 173) rfl rfl (by kernel_rfl) (by kernel_rfl) (by kernel_rfl) (fun _ _ _ h => h) (Or.inl ⟨by rfl, fun W hW => by go_simp⟩) z1 ?_
            simp only [Act.put, List.setIfInBounds_toArray, List.set_cons_zero, List.set_cons_succ]
            refine held_take (i := 27) (v := .pointer (some ⟨xb, 0, none⟩)) (some 175) rfl rfl (by kernel_rfl) (by kernel_rfl) (by kernel_rfl) (fun _ _ _ h => h) (Or.inl ⟨by rfl, fun W hW => by go_simp⟩) z1 ?_
            simp only [Act.put, List.setIfInBounds_toArray, List.set_cons_zero, List.set_cons_succ]
            refine held_take (i := 28) (v := .pointer (some ⟨xb, 0, none⟩)) (some 176) rfl rfl (by kernel_rfl) (by kernel_rfl) (by kernel_rfl) (fun _ _ _ h => h) (Or.inl ⟨by rfl, fun W hW => by go_simp⟩) z1 ?_
            simp only [Act.put, List.setIfInBounds_toArray, List.set_cons_zero, List.set_cons_succ]
            refine held_take (i := 29) (v := .pointer (some ⟨xb, 0, none⟩)) (some 177) rfl rfl (by kernel_rfl) (by kernel_rfl) (by kernel_rfl) (fun _ _ _ h => h) (Or.inl ⟨by rfl, fun W hW => by go_simp⟩) z1 ?_
            simp only [Act.put, List.setIfInBounds_toArray, List.set_cons_zero, List.set_cons_succ]
            refine held_take (i := 30) (v := .slice y2.oA y2.on y2.oc) (some 178) rfl rfl (by kernel_rfl) (by kernel_rfl) (by kernel_rfl) (fun _ _ _ h => h) (Or.inl ⟨by rfl, fun W hW => by have hc := hW.x0; go_simp⟩) z1 ?_
            simp only [Act.put, List.setIfInBounds_toArray, List.set_cons_zero, List.set_cons_succ]
            refine wpAnyH_ready (rs := [26]) (by kernel_rfl) (by simp) ?_
            refine AllReadyH.cons rfl (fun K hK => ?_) AllReadyH.nil
            go_simp
            have z7 := z1
            refine (Own_any HB7.out.s).mono ?_
            rintro e v8 ⟨A8, n8, c8, rfl, o8, b8⟩
            have HB8 := Lib.hid (HB7.out.below b8)
            have z8 := z7.below b8
            have R8 := Lib.hid (ints_of o8)
            clear o8
            clear b8
            try dsimp only
            refine hK.out _ _ z8 (fun _ => ?_)
            clear hK
            try simp only [Act.put, List.setIfInBounds_toArray, List.set_cons_zero, List.set_cons_succ]
            refine wpAnyH_ready (rs := [31]) (by kernel_rfl) (by simp) ?_
            refine AllReadyH.cons rfl (fun K hK => ?_) AllReadyH.nil
            go_simp
            refine (Ints_any R8.out HB8.out.x.ro).mono ?_
            rintro e v9 ⟨rfl, b9⟩
            have HB9 := Lib.hid (HB8.out.below b9)
            have z9 := z8.below b9
            clear b9
            try dsimp only
            refine hK.out _ _ z9 (fun _ => ?_)
            clear hK
            try simp only [Act.put, List.setIfInBounds_toArray, List.set_cons_zero, List.set_cons_succ]
            refine held_take (i := 32) (v := .bool false) (some 180) rfl rfl (by kernel_rfl) (by kernel_rfl) (by kernel_rfl) (fun _ _ _ h => h) (Or.inl ⟨by rfl, fun W hW => by go_simp⟩) z9 ?_
            simp only [Act.put, List.setIfInBounds_toArray, List.set_cons_zero, List.set_cons_succ]
            refine held_take (i := 33) (v := .bool false) (some 181) rfl rfl (by kernel_rfl) (by kernel_rfl) (by kernel_rfl) (fun _ _ _ h => h) (Or.inl ⟨by rfl, fun W hW => by go_simp⟩) z9 ?_
            simp only [Act.put, List.setIfInBounds_toArray, List.set_cons_zero, List.set_cons_succ]
            refine held_take (i := 34) (v := .bool false) (some 182) rfl rfl (by kernel_rfl) (by kernel_rfl) (by kernel_rfl) (fun _ _ _ h => h) (Or.inl ⟨by rfl, fun W hW => by go_simp⟩) z9 ?_
            simp only [Act.put, List.setIfInBounds_toArray, List.set_cons_zero, List.set_cons_succ]
            refine held_take (i := 35) (v := .pointer (some ⟨pb, 0, none⟩)) (some 183) rfl rfl (by kernel_rfl) (by kernel_rfl) (by kernel_rfl) (fun _ _ _ h => h) (Or.inl ⟨by rfl, fun W hW => by go_simp⟩) z9 ?_
            simp only [Act.put, List.setIfInBounds_toArray, List.set_cons_zero, List.set_cons_succ]
            refine held_take (i := 37) (v := .pointer (some ⟨xb, 0, none⟩)) (some 185) rfl rfl (by kernel_rfl) (by kernel_rfl) (by kernel_rfl) (fun _ _ _ h => h) (Or.inl ⟨by rfl, fun W hW => by go_simp⟩) z9 ?_
            simp only [Act.put, List.setIfInBounds_toArray, List.set_cons_zero, List.set_cons_succ]
            refine held_take (i := 38) (v := .pointer (some ⟨xb, 0, none⟩)) (some 186) rfl rfl (by kernel_rfl) (by kernel_rfl) (by kernel_rfl) (fun _ _ _ h => h) (Or.inl ⟨by rfl, fun W hW => by go_simp⟩) z9 ?_
            simp only [Act.put, List.setIfInBounds_toArray, List.set_cons_zero, List.set_cons_succ]
            refine held_take (i := 39) (v := .pointer (some ⟨xb, 1, none⟩)) (some 187) rfl rfl (by kernel_rfl) (by kernel_rfl) (by kernel_rfl) (fun _ _ _ h => h) (Or.inl ⟨by rfl, fun W hW => by go_simp⟩) z9 ?_
            simp only [Act.put, List.setIfInBounds_toArray, List.set_cons_zero, List.set_cons_succ]
            refine held_take (i := 40) (v := .slice y2.tA y2.tn y2.tc) (some 188) rfl rfl (by kernel_rfl) (by kernel_rfl) (by kernel_rfl) (fun _ _ _ h => h) (Or.inl ⟨by rfl, fun W hW => by have hc := hW.x1; go_simp⟩) z9 ?_
            simp only [Act.put, List.setIfInBounds_toArray, List.set_cons_zero, List.set_cons_succ]
            refine wpAnyH_ready (rs := [36]) (by kernel_rfl) (by simp) ?_
            refine AllReadyH.cons rfl (fun K hK => ?_) AllReadyH.nil
            go_simp
            refine (Other_any HB9.out.s).mono ?_
            rintro e v10 ⟨A10, n10, c10, rfl, o10, b10⟩
            have HB10 := Lib.hid (HB9.out.below b10)
            have z10 := z9.below b10
            have R10 := Lib.hid (ints_of o10)
            clear o10
            clear b10
            try dsimp only
            refine hK.out _ _ z10 (fun _ => ?_)
            clear hK
            try simp only [Act.put, List.setIfInBounds_toArray, List.set_cons_zero, List.set_cons_succ]
            refine wpAnyH_ready (rs := [41]) (by kernel_rfl) (by simp) ?_
            refine AllReadyH.cons rfl (fun K hK => ?_) AllReadyH.nil
            go_simp
            refine (Ints_any R10.out HB10.out.x.rt).mono ?_
            rintro e v11 ⟨rfl, b11⟩
            have HB11 := Lib.hid (HB10.out.below b11)
            have z11 := z10.below b11
            clear b11
            try dsimp only
            refine hK.out _ _ z11 (fun _ => ?_)
            clear hK
            try simp only [Act.put, List.setIfInBounds_toArray, List.set_cons_zero, List.set_cons_succ]
            refine held_take (i := 42) (v := .bool false) (some 190) rfl rfl (by kernel_rfl) (by kernel_rfl) (by kernel_rfl) (fun _ _ _ h => h) (Or.inl ⟨by rfl, fun W hW => by go_simp⟩) z11 ?_
            simp only [Act.put, List.setIfInBounds_toArray, List.set_cons_zero, List.set_cons_succ]
            refine held_take (i := 43) (v := .bool false) (some 191) rfl rfl (by kernel_rfl) (by kernel_rfl) (by kernel_rfl) (fun _ _ _ h => h) (Or.inl ⟨by rfl, fun W hW => by go_simp⟩) z11 ?_
            simp only [Act.put, List.setIfInBounds_toArray, List.set_cons_zero, List.set_cons_succ]
            refine held_take (i := 44) (v := .bool false) (some 192) rfl rfl (by kernel_rfl) (by kernel_rfl) (by kernel_rfl) (fun _ _ _ h => h) (Or.inl ⟨by rfl, fun W hW => by go_simp⟩) z11 ?_
            simp only [Act.put, List.setIfInBounds_toArray, List.set_cons_zero, List.set_cons_succ]
            refine held_take (i := 45) (v := .pointer (some ⟨pb, 0, none⟩)) (some 193) rfl rfl (by kernel_rfl) (by kernel_rfl) (by kernel_rfl) (fun _ _ _ h => h) (Or.inl ⟨by rfl, fun W hW => by go_simp⟩) z11 ?_
            simp only [Act.put, List.setIfInBounds_toArray, List.set_cons_zero, List.set_cons_succ]
            refine held_take (i := 47) (v := .pointer (some ⟨xb, 0, none⟩)) (some 195) rfl rfl (by kernel_rfl) (by kernel_rfl) (by kernel_rfl) (fun _ _ _ h => h) (Or.inl ⟨by rfl, fun W hW => by go_simp⟩) z11 ?_
            simp only [Act.put, List.setIfInBounds_toArray, List.set_cons_zero, List.set_cons_succ]
            refine held_take (i := 48) (v := .pointer (some ⟨xb, 0, none⟩)) (some 196) rfl rfl (by kernel_rfl) (by kernel_rfl) (by kernel_rfl) (fun _ _ _ h => h) (Or.inl ⟨by rfl, fun W hW => by go_simp⟩) z11 ?_
            simp only [Act.put, List.setIfInBounds_toArray, List.set_cons_zero, List.set_cons_succ]
            refine held_take (i := 49) (v := .pointer (some ⟨xb, 2, none⟩)) (some 197) rfl rfl (by kernel_rfl) (by kernel_rfl) (by kernel_rfl) (fun _ _ _ h => h) (Or.inl ⟨by rfl, fun W hW => by go_simp⟩) z11 ?_
            simp only [Act.put, List.setIfInBounds_toArray, List.set_cons_zero, List.set_cons_succ]
            refine held_take (i := 50) (v := .slice y2.lA y2.ln y2.lc) (some 198) rfl rfl (by kernel_rfl) (by kernel_rfl) (by kernel_rfl) (fun _ _ _ h => h) (Or.inl ⟨by rfl, fun W hW => by have hc := hW.x2; go_simp⟩) z11 ?_
            simp only [Act.put, List.setIfInBounds_toArray, List.set_cons_zero, List.set_cons_succ]
            refine wpAnyH_ready (rs := [46]) (by kernel_rfl) (by simp) ?_
            refine AllReadyH.cons rfl (fun K hK => ?_) AllReadyH.nil
            go_simp
            refine (Pairs_any HB11.out.s).mono ?_
            rintro e v12 ⟨A12, n12, c12, rfl, o12, b12⟩
            have HB12 := Lib.hid (HB11.out.below b12)
            have z12 := z11.below b12
            have R12 := Lib.hid (pairs_of o12)
            clear o12
            clear b12
            try dsimp only
            refine hK.out _ _ z12 (fun _ => ?_)
            clear hK
            try simp only [Act.put, List.setIfInBounds_toArray, List.set_cons_zero, List.set_cons_succ]
            refine wpAnyH_ready (rs := [51]) (by kernel_rfl) (by simp) ?_
            refine AllReadyH.cons rfl (fun K hK => ?_) AllReadyH.nil
            go_simp
            refine (alike_any R12.out HB12.out.x.rl (prs_rises _ _) HB12.out.x.nd (fun u => (HB12.out.x.mem u).symm)).mono ?_
            rintro e v13 ⟨rfl, b13⟩
            have HB13 := Lib.hid (HB12.out.below b13)
            have z13 := z12.below b13
            clear b13
            try dsimp only
            refine hK.out _ _ z13 (fun _ => ?_)
            clear hK
            try simp only [Act.put, List.setIfInBounds_toArray, List.set_cons_zero, List.set_cons_succ]
            refine held_take (i := 52) (v := .bool false) (some 200) rfl rfl (by kernel_rfl) (by kernel_rfl) (by kernel_rfl) (fun _ _ _ h => h) (Or.inl ⟨by rfl, fun W hW => by go_simp⟩) z13 ?_
            simp only [Act.put, List.setIfInBounds_toArray, List.set_cons_zero, List.set_cons_succ]
            refine held_take (i := 53) (v := .bool false) (some 201) rfl rfl (by kernel_rfl) (by kernel_rfl) (by kernel_rfl) (fun _ _ _ h => h) (Or.inl ⟨by rfl, fun W hW => by go_simp⟩) z13 ?_
            simp only [Act.put, List.setIfInBounds_toArray, List.set_cons_zero, List.set_cons_succ]
            refine wpAnyH_done (by kernel_rfl) ?_ _
            refine NoPanic.normal ?_
            clear z1 z7 z8 z9 z10 z11 z12 z13
            have hjn2 : j < n := hjn
            go_wp2_with fail
            go_roundg (n - (j + 1))
            case measure => omega
            case rel => exact ⟨j + 1, _, _, _, by omega, Nat.le_refl _, by go_num, HB13.out⟩
        · obtain rfl : j = n := by omega
          have HB := Lib.hid hB.bl
          clear hB
          go_wp2_with fail
          go_ret
          exact ⟨rfl, HB.out⟩
end Go.Proofs.Ytpkhalneclmoeaa
