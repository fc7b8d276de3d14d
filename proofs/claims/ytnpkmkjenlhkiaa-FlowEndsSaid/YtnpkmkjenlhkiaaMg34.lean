/- The law FlowEnds. Conditions: the arguments are of their kinds. -/
import Derived.Test.YtnpkmkjenlhkiaaMg33
namespace Go.Proofs.Ytnpkmkjenlhkiaa
set_option linter.unusedVariables false
set_option linter.unusedSimpArgs false
set_option maxRecDepth 20000
open Go.RowKit Go.Lib

set_option maxHeartbeats 25600000 in
theorem FEnds_any (i : Nat) (A : Option Addr) (n c : Nat) (l : List (Int × Int)) (lost : Bool) (W : World) (hi : i < 4294967296) (hl : Duo W A n c l) : Calls Try.prog 4 #[.int .u32 (i : Int), .slice A n c, .bool lost] W (Held W) := by
  have HW := Lib.hid (wakes_any W)
  have HL := Lib.hid hl
  have hmx := hl.max
  have hcp := hl.cap
  clear hl
  by_cases hlong : 100 < n
  · have hb : (100 : Int) < (n : Int) := by omega
    go_enter Try.func4, Try.ntmps4
    go_wp2_with fail
    refine (HW.out).mono ?_
    rintro e w1 ⟨rfl, b1⟩
    have B1 := Lib.hid b1
    clear b1
    go_wp2_with fail
    go_ret
    exact ⟨rfl, B1.out⟩
  · have hb : decide ((100 : Int) < (n : Int)) = false := decide_eq_false (by omega)
    have HD := Lib.hid (fun w => Dial_any i 0 w hi (by unfold isInt; decide))
    go_enter Try.func4, Try.ntmps4
    go_wp2_with fail
    refine (HW.out).mono ?_
    rintro e w1 ⟨rfl, b1⟩
    have B1 := Lib.hid b1
    clear b1
    go_wp2_with fail
    refine (HD.out _).mono ?_
    rintro e w2 ⟨s, rfl, f2, b2⟩
    have B2 := Lib.hid (B1.out.trans (b2.mono B1.out.size))
    have F2 := Lib.hid (f2.mono B1.out.size)
    clear f2 b2 HW HD
    unfold ptr
    go_wp2_with (first
      | ((with_reducible refine wpList_here ?_); refine wpList_boxO (o := ⟨some 26, _, _, _, _, _⟩) rfl 33 (.tmp 25) rfl ((M0 s).cs 0).toList rfl _ rfl ?_; intro w3 o3 b3 s3; have O3 := Lib.hid o3; have B3 := Lib.hid b3; clear o3 b3)
      | fail)
    have HP := Lib.hid (PR.first F2.out B2.out.size B3.out (by exact O3.out))
    have HB := Lib.hid (B2.out.trans (B3.out.mono B2.out.size))
    obtain ⟨pb, hpb⟩ : ∃ g, g = w2.heap.size := ⟨_, rfl⟩
    rw [← hpb] at HP
    rw [← hpb]
    clear hpb B2 F2 B3 O3 s3
    have HLN := Lib.hid (show n ≤ 100 by omega)
    go_loopw [29] (fun v wr => ∃ j : Nat, j ≤ n ∧ v = .int .i64 (j : Int) ∧ Below W.heap.size W wr ∧ Cg W.heap.size pb i ((P.init i).run (l.take j)) j wr) (fun v _ => n - (intOf v).toNat)
    case atStart =>
      obtain ⟨lab0, h0⟩ := HP.out
      exact ⟨0, Nat.zero_le _, rfl, HB.out, ⟨_, lab0, h0⟩, 0, Nat.le_refl _, Both.init i hi⟩
    case round =>
      obtain ⟨j, hj, rfl, hB, cg⟩ := hrel
      by_cases hlt : j < n
      · have hli : (j : Int) < (n : Int) := by omega
        obtain ⟨g, o, hA, hc⟩ := HL.out.mem (by omega)
        subst hA
        have hjl : j < l.length := by rw [HL.out.len]; exact hlt
        have hc1 := hB.cell (World.block_lt_of_cell? W _ (hc j hlt).1) |>.trans (hc j hlt).1
        have hc2 := hB.cell (World.block_lt_of_cell? W _ (hc j hlt).2) |>.trans (hc j hlt).2
        have hok := HL.out.ok (l.getD j z2) (by rw [List.getD_eq_getElem?_getD, List.getElem?_eq_getElem hjl]; exact List.getElem_mem _)
        have htk := take_succ_getD l j hjl
        obtain ⟨x, hx⟩ : ∃ x, x = l.getD j z2 := ⟨_, rfl⟩
        rw [← hx] at hc1 hc2 hok htk
        have hr : wr.rangeAt g (o + j * 2) (nv x) := fun q v hv => by
          rcases q with _ | _ | q
          · injection hv with hv; subst hv; exact hc1
          · injection hv with hv; subst hv; exact hc2
          · cases hv
        have HTK : Hid ((P.init i).run (l.take (j + 1)) = ((P.init i).run (l.take j)).step x.1 x.2) := Lib.hid (by rw [htk, run_snoc])
        have HST := Lib.hid (fun (W2 : World) (b : Below wr.heap.size wr W2) => (cg.below b).step (by have := HLN.out; omega) x.1 x.2 hok.1 hok.2)
        have HBr := Lib.hid hB
        have hsz := hB.size
        clear hB cg hc hc1 hc2 hx htk hjl hok
        generalize (P.init i).run (l.take j) = p0 at *
        go_wp2_with (first
          | ((with_reducible refine wpList_here ?_); refine wpList_loadV (o := ⟨some 32, _, _, _, _, _⟩) rfl 35 (.tmp 31) rfl _ _ (nv x) rfl hr _ Try.underlying35 rfl sizeNet ?_)
          | ((with_reducible refine wpList_here ?_); refine wpList_allocV (o := ⟨some 9, _, _, _, _, _⟩) rfl 35 rfl (nv (0, 0)) zeroNet _ rfl ?_; intro w4 z4 b4 s4)
          | ((with_reducible refine wpList_here ?_); refine wpList_storeV rfl 35 (.tmp 9) (.tmp 32) rfl _ _ (nv x) rfl rfl z4 rfl (nv_one _) sizeNet ?_; intro w5 z5 g5 s5; have HB5 := Lib.hid (v_below_g b4 g5 b4.size (Nat.le_refl _)); clear b4 g5)
          | ((with_reducible refine wpList_here ?_); refine wpList_loadV (o := ⟨some 34, _, _, _, _, _⟩) rfl 35 (.tmp 9) rfl _ _ (nv x) rfl z5.range _ Try.underlying35 rfl sizeNet ?_)
          | fail)
        refine (HST.out _ HB5.out).mono ?_
        rintro e w6 ⟨rfl, c6, b6⟩
        have HBX : Hid (Below W.heap.size W w6) := Lib.hid ((HBr.out.trans (HB5.out.mono hsz)).trans b6)
        have HC6 := Lib.hid c6
        clear c6 b6
        go_wp2_with fail
        go_roundw
        case rel => exact ⟨j + 1, by omega, by go_num, HBX.out, by rw [HTK.out]; exact HC6.out⟩
        case measure => simp [intOf]; omega
      · obtain rfl : j = n := by omega
        have hln : l.take j = l := List.take_of_length_le (by rw [HL.out.len]; exact Nat.le_refl _)
        rw [hln] at cg
        have HEND := Lib.hid (ends_pure i hi l (by rw [HL.out.len]; exact HLN.out) lost)
        have HC0 := Lib.hid cg
        have HB0 := Lib.hid hB
        clear cg hB hln
        generalize (P.init i).run l = p0 at *
        go_wp2_with fail
        go_loopw [37] (fun v wr => ∃ k : Nat, k ≤ 200 ∧ v = .int .i64 (k : Int) ∧ Below W.heap.size W wr ∧ Cg W.heap.size pb i (iter (rnd lost) k p0) (100 + 201 * k) wr) (fun v _ => 200 - (intOf v).toNat)
        case atStart => exact ⟨0, by omega, rfl, HB0.out, HC0.out.more (by have := HLN.out; omega)⟩
        case round =>
          obtain ⟨k, hk, rfl, hBk, ck⟩ := hrel
          by_cases hlt2 : k < 200
          · have hki : (k : Int) < 200 := by omega
            have HST := Lib.hid (ck.step (by omega) 7 0 (by unfold isInt; decide) (by unfold isInt; decide))
            have HIT := Lib.hid (iter_succ (rnd lost) k p0)
            have HBk := Lib.hid hBk
            clear ck hBk
            generalize iter (rnd lost) k p0 = pk at *
            cases lost with
            | true =>
              have HR : Hid (rnd true pk = { pk.step 7 0 with way := [] }) := Lib.hid rfl
              go_wp2_with fail
              refine HST.out.mono ?_
              rintro e w6 ⟨rfl, c6, b6⟩
              have HL6 := Lib.hid c6.lost
              have HB6 := Lib.hid (HBk.out.trans b6)
              obtain ⟨_, _, _, cw6, _, _, _, fz6, _⟩ := c6.way
              clear c6 b6
              go_wp2_with fail
              go_roundw
              case rel => exact ⟨k + 1, by omega, by go_num, HB6.out.trans HL6.out.2, by rw [HIT.out, HR.out]; exact HL6.out.1.more (by omega)⟩
              case measure => simp [intOf]; omega
            | false =>
              have HR : Hid (rnd false pk = (pk.step 7 0).settle 200) := Lib.hid rfl
              go_wp2_with fail
              refine HST.out.mono ?_
              rintro e w6 ⟨rfl, c6, b6⟩
              have HC6 := Lib.hid c6
              have HB6 := Lib.hid (HBk.out.trans b6)
              clear c6 b6
              generalize pk.step 7 0 = q0 at *
              go_wp2_with fail
              go_loopw [10] (fun v wq => ∃ t : Nat, t ≤ 200 ∧ v = .int .i64 (t : Int) ∧ Below W.heap.size W wq ∧ ∃ p', Cg W.heap.size pb i p' (100 + 201 * k + 1 + t) wq ∧ p'.settle (200 - t) = q0.settle 200) (fun v _ => 200 - (intOf v).toNat)
              case atStart => exact ⟨0, by omega, rfl, HB6.out, q0, HC6.out, rfl⟩
              case round =>
                obtain ⟨t, ht, rfl, hBt, p', ct, hst⟩ := hrel
                have HS := Lib.hid hst
                have HBt := Lib.hid hBt
                by_cases hlt3 : t < 200
                · have hti : (t : Int) < 200 := by omega
                  obtain ⟨A7, L, c7, cw7, hL, _⟩ := ct.way
                  by_cases hL0 : 0 < L
                  · have hLi : (0 : Int) < (L : Int) := by omega
                    have hway : p'.way ≠ [] := fun e => by rw [e] at hL; simp at hL; omega
                    have HSE := Lib.hid (settle_cons (199 - t) p' hway)
                    have HST2 := Lib.hid (ct.step (by omega) 0 0 (by unfold isInt; decide) (by unfold isInt; decide))
                    clear ct hst hBt hL hway
                    go_wp2_with fail
                    refine HST2.out.mono ?_
                    rintro e w8 ⟨rfl, c8, b8⟩
                    have HC8 := Lib.hid c8
                    have HB8 := Lib.hid (HBt.out.trans b8)
                    clear c8 b8
                    go_wp2_with fail
                    go_roundw
                    case rel => exact ⟨t + 1, by omega, by go_num, HB8.out, p'.step 0 0, HC8.out.more (by omega), by rw [← HS.out, show 200 - t = (199 - t) + 1 from by omega, HSE.out, show 200 - (t + 1) = 199 - t from by omega]⟩
                    case measure => simp [intOf]; omega
                  · obtain rfl : L = 0 := by omega
                    have hway : p'.way = [] := List.eq_nil_of_length_eq_zero hL.symm
                    have HE : Hid (Cg W.heap.size pb i (iter (rnd false) (k + 1) p0) (100 + 201 * (k + 1)) wr) := Lib.hid (by
                      rw [HIT.out, HR.out, ← HS.out, settle_nil _ _ hway]
                      exact ct.more (by omega))
                    clear ct hst hBt hL hway
                    go_wp2_with fail
                    go_roundw
                    case rel => exact ⟨k + 1, by omega, by go_num, HBt.out, HE.out⟩
                    case measure => simp [intOf]; omega
                · obtain rfl : t = 200 := by omega
                  have HE : Hid (Cg W.heap.size pb i (iter (rnd false) (k + 1) p0) (100 + 201 * (k + 1)) wr) := Lib.hid (by
                    rw [HIT.out, HR.out, ← HS.out]
                    exact ct.more (by omega))
                  clear ct hst hBt
                  go_wp2_with fail
                  go_roundw
                  case rel => exact ⟨k + 1, by omega, by go_num, HBt.out, HE.out⟩
                  case measure => simp [intOf]; omega
          · obtain rfl : k = 200 := by omega
            obtain ⟨⟨mq, labq, hq⟩, nq, hnq, hBq⟩ := ck
            have HED := Lib.hid (Ed.of hq hBq (by omega) (show Ended lost (iter (rnd lost) 200 p0) from HEND.out))
            have HBk := Lib.hid hBk
            clear hq hBq hBk HEND
            generalize iter (rnd lost) 200 p0 = q at *
            have HWE := Lib.hid HBk.out
            obtain ⟨v0, v1, s0, s1, hr, A0, A1, hc, B0, B1, B2, B3, j0, j1, j2, j3, q0, q1, q2, q3, r0, r1, r2, r3⟩ := HED.out.ex
            have HA0 := Lib.hid A0
            have HA1 := Lib.hid A1
            have HC := Lib.hid hc
            have HCE := Lib.hid (And.intro hr (And.intro q0 (And.intro q1 (And.intro q2 (And.intro q3 (And.intro r0 (And.intro r1 (And.intro r2 r3))))))))
            clear A0 A1 hc r0 r1 r2 r3 q0 q1 q2 q3
            go_wp2_with (first
              | ((with_reducible refine wpList_here ?_); refine wpList_loadV (o := ⟨some 65, _, _, _, _, _⟩) rfl 28 (.tmp 64) rfl _ _ [v0, v1] rfl hr _ Try.underlying28 rfl two_flows ?_)
              | fail)
            obtain ⟨wE, hwE⟩ : ∃ w, w = wr := ⟨_, rfl⟩
            subst hwE
            clear hr
            go_loopw [66] (fun v wr => Below wE.heap.size wE wr ∧ (v = .int .i64 0 ∨ v = .int .i64 1 ∨ v = .int .i64 2)) (fun v _ => 2 - (intOf v).toNat)
            case atStart => exact ⟨Below.refl _ _, .inl rfl⟩
            case round =>
              obtain ⟨hBx, rfl | rfl | rfl⟩ := hrel
              · obtain ⟨wx, rfl⟩ : ∃ wx, wx = wr := ⟨_, rfl⟩
                have HA := Lib.hid (HA0.out.below hBx)
                have HBx := Lib.hid hBx
                have hix := (idx_flow v0 v1 wx).1
                clear hBx
                by_cases h5 : s0 < 5
                · have h5i : (s0 : Int) < 5 := by omega
                  go_wp2_with fail
                  refine (HA.out.at_ _ (Below.refl _ _)).mono ?_
                  rintro e w8 ⟨rfl, b8⟩
                  have HA8 := Lib.hid (HA.out.below b8)
                  have HB8 := Lib.hid (HBx.out.trans (b8.mono HBx.out.size))
                  clear b8
                  go_wp2_with fail
                  refine (HA8.out.state _ (Below.refl _ _)).mono ?_
                  rintro e w9 ⟨rfl, hw9⟩
                  obtain rfl : w8 = w9 := hw9.symm
                  go_wp2_with fail
                  refine (HA8.out.left h5 _ (Below.refl _ _)).mono ?_
                  rintro e w9 ⟨⟨A7, c7, rfl⟩, b9⟩
                  have HB9 := Lib.hid (HB8.out.trans (b9.mono HB8.out.size))
                  clear b9
                  go_wp2_with fail
                  go_roundw
                  case rel => exact ⟨HB9.out, .inr (.inl rfl)⟩
                  case measure => simp [intOf]
                · have h5i : decide ((s0 : Int) < 5) = false := decide_eq_false (by omega)
                  go_wp2_with fail
                  refine (HA.out.at_ _ (Below.refl _ _)).mono ?_
                  rintro e w8 ⟨rfl, b8⟩
                  have HA8 := Lib.hid (HA.out.below b8)
                  have HB8 := Lib.hid (HBx.out.trans (b8.mono HBx.out.size))
                  clear b8
                  go_wp2_with fail
                  refine (HA8.out.state _ (Below.refl _ _)).mono ?_
                  rintro e w9 ⟨rfl, hw9⟩
                  obtain rfl : w8 = w9 := hw9.symm
                  go_wp2_with fail
                  go_roundw
                  case rel => exact ⟨HB8.out, .inr (.inl rfl)⟩
                  case measure => simp [intOf]
              · obtain ⟨wx, rfl⟩ : ∃ wx, wx = wr := ⟨_, rfl⟩
                have HA := Lib.hid (HA1.out.below hBx)
                have HBx := Lib.hid hBx
                have hix := (idx_flow v0 v1 wx).2
                clear hBx
                by_cases h5 : s1 < 5
                · have h5i : (s1 : Int) < 5 := by omega
                  go_wp2_with fail
                  refine (HA.out.at_ _ (Below.refl _ _)).mono ?_
                  rintro e w8 ⟨rfl, b8⟩
                  have HA8 := Lib.hid (HA.out.below b8)
                  have HB8 := Lib.hid (HBx.out.trans (b8.mono HBx.out.size))
                  clear b8
                  go_wp2_with fail
                  refine (HA8.out.state _ (Below.refl _ _)).mono ?_
                  rintro e w9 ⟨rfl, hw9⟩
                  obtain rfl : w8 = w9 := hw9.symm
                  go_wp2_with fail
                  refine (HA8.out.left h5 _ (Below.refl _ _)).mono ?_
                  rintro e w9 ⟨⟨A7, c7, rfl⟩, b9⟩
                  have HB9 := Lib.hid (HB8.out.trans (b9.mono HB8.out.size))
                  clear b9
                  go_wp2_with fail
                  go_roundw
                  case rel => exact ⟨HB9.out, .inr (.inr rfl)⟩
                  case measure => simp [intOf]
                · have h5i : decide ((s1 : Int) < 5) = false := decide_eq_false (by omega)
                  go_wp2_with fail
                  refine (HA.out.at_ _ (Below.refl _ _)).mono ?_
                  rintro e w8 ⟨rfl, b8⟩
                  have HA8 := Lib.hid (HA.out.below b8)
                  have HB8 := Lib.hid (HBx.out.trans (b8.mono HBx.out.size))
                  clear b8
                  go_wp2_with fail
                  refine (HA8.out.state _ (Below.refl _ _)).mono ?_
                  rintro e w9 ⟨rfl, hw9⟩
                  obtain rfl : w8 = w9 := hw9.symm
                  go_wp2_with fail
                  go_roundw
                  case rel => exact ⟨HB8.out, .inr (.inr rfl)⟩
                  case measure => simp [intOf]
              · obtain ⟨wx, rfl⟩ : ∃ wx, wx = wr := ⟨_, rfl⟩
                have HE0 := Lib.hid (HA0.out.below hBx)
                have HE1 := Lib.hid (HA1.out.below hBx)
                have HBW := Lib.hid (HWE.out.trans (hBx.mono HWE.out.size))
                have k0 : wx.cell? ⟨pb, 0, none⟩ = some v0 := cellB hBx (HCE.out.1 0 v0 rfl)
                have k1 : wx.cell? ⟨pb, 1, none⟩ = some v1 := cellB hBx (HCE.out.1 1 v1 rfl)
                have q0 := cellB hBx HCE.out.2.1
                have q1 := cellB hBx HCE.out.2.2.1
                have q2 := cellB hBx HCE.out.2.2.2.1
                have q3 := cellB hBx HCE.out.2.2.2.2.1
                have HS1 : Hid (∀ d, q.s0 = q.c1 → Calls Try.prog 15 #[.slice B0 q.s0.length j0, .slice B3 q.c1.length j3] (wx.drewN d) fun e w' => e = .returned (.bool true) ∧ ∃ z, w' = (wx.drewN d).drewN z) := Lib.hid (fun d e => by
                  have h9 := Same_any B0 B3 _ j0 _ j3 _ _ (wx.drewN d) (HCE.out.2.2.2.2.2.1.below (below_drewN hBx d)) (HCE.out.2.2.2.2.2.2.2.2.below (below_drewN hBx d))
                  rw [show (q.s0 == q.c1) = true from beq_iff_eq.2 e] at h9
                  exact h9)
                have HS2 : Hid (∀ d, q.s1 = q.c0 → Calls Try.prog 15 #[.slice B1 q.s1.length j1, .slice B2 q.c0.length j2] (wx.drewN d) fun e w' => e = .returned (.bool true) ∧ ∃ z, w' = (wx.drewN d).drewN z) := Lib.hid (fun d e => by
                  have h9 := Same_any B1 B2 _ j1 _ j2 _ _ (wx.drewN d) (HCE.out.2.2.2.2.2.2.1.below (below_drewN hBx d)) (HCE.out.2.2.2.2.2.2.2.1.below (below_drewN hBx d))
                  rw [show (q.s1 == q.c0) = true from beq_iff_eq.2 e] at h9
                  exact h9)
                have HT0 := Lib.hid (fun d => HE0.out.state (wx.drewN d) (below_drewN (Below.refl _ _) d))
                have HT1 := Lib.hid (fun d => HE1.out.state (wx.drewN d) (below_drewN (Below.refl _ _) d))
                clear hBx
                generalize q.s0.length = l0 at *
                generalize q.s1.length = l1 at *
                generalize q.c0.length = l2 at *
                generalize q.c1.length = l3 at *
                go_wp2_with fail
                go_quiet (first | (go_at_call_of 13 v0; exact Calls.quiet_of_same (HT0.out _)) | (go_at_call_of 13 v1; exact Calls.quiet_of_same (HT1.out _)))
                have HBW := Lib.hid (below_drewN HBW.out nq)
                have q0 : (wx.drewN nq).cell? ⟨pb, 3, none⟩ = _ := q0
                have q1 : (wx.drewN nq).cell? ⟨pb, 4, none⟩ = _ := q1
                have q2 : (wx.drewN nq).cell? ⟨pb, 5, none⟩ = _ := q2
                have q3 : (wx.drewN nq).cell? ⟨pb, 6, none⟩ = _ := q3
                have HS1 := Lib.hid (fun z => show q.s0 = q.c1 → Calls Try.prog 15 #[.slice B0 l0 j0, .slice B3 l3 j3] ((wx.drewN nq).drewN z) fun e w' => e = .returned (.bool true) ∧ ∃ y, w' = ((wx.drewN nq).drewN z).drewN y from by rw [World.drewN_drewN]; exact HS1.out _)
                have HS2 := Lib.hid (fun z => show q.s1 = q.c0 → Calls Try.prog 15 #[.slice B1 l1 j1, .slice B2 l2 j2] ((wx.drewN nq).drewN z) fun e w' => e = .returned (.bool true) ∧ ∃ y, w' = ((wx.drewN nq).drewN z).drewN y from by rw [World.drewN_drewN]; exact HS2.out _)
                clear HT0 HT1 k0 k1
                generalize wx.drewN nq = wy at *
                have HC := HC.out
                cases lost with
                | true =>
                  clear HC
                  go_wp2_with fail
                  go_quiet (fail)
                  go_wp2_with fail
                  go_ret
                  exact ⟨rfl, below_drewN HBW.out nq⟩
                | false =>
                  by_cases c0 : s0 = 11
                  · subst c0
                    clear HC
                    go_wp2_with fail
                    go_quiet (fail)
                    go_wp2_with fail
                    go_ret
                    exact ⟨rfl, below_drewN HBW.out nq⟩
                  have nxx : decide ((s0 : Int) = 11) = false := decide_eq_false (by omega)
                  have mxx : ¬ (s0 : Int) = 11 := by omega
                  have bxx : ((s0 : Int) == 11) = false := by simp; omega
                  by_cases c1 : s1 = 11
                  · subst c1
                    clear HC
                    go_wp2_with fail
                    go_quiet (fail)
                    go_wp2_with fail
                    go_ret
                    exact ⟨rfl, below_drewN HBW.out nq⟩
                  have nyy : decide ((s1 : Int) = 11) = false := decide_eq_false (by omega)
                  have myy : ¬ (s1 : Int) = 11 := by omega
                  have byy : ((s1 : Int) == 11) = false := by simp; omega
                  by_cases c2 : s1 = 0
                  · subst c2
                    clear HC
                    go_wp2_with fail
                    go_quiet (fail)
                    go_wp2_with fail
                    go_ret
                    exact ⟨rfl, below_drewN HBW.out nq⟩
                  have nzz : decide ((s1 : Int) = 0) = false := decide_eq_false (by omega)
                  have mzz : ¬ (s1 : Int) = 0 := by omega
                  have bzz : ((s1 : Int) == 0) = false := by simp; omega
                  have HC2 : q.s0 = q.c1 ∧ q.s1 = q.c0 := by
                    rcases HC with e | e | e | e | e
                    · cases e
                    · exact absurd e c0
                    · exact absurd e c1
                    · exact absurd e c2
                    · exact e
                  have HSA := Lib.hid (fun z => HS1.out z HC2.1)
                  have HSB := Lib.hid (fun z => HS2.out z HC2.2)
                  clear HC HC2 HS1 HS2 c0 c1 c2
                  generalize (s0 : Int) = t0 at *
                  generalize (s1 : Int) = t1 at *
                  go_wp2_with fail
                  go_quiet (first | (go_at_call_of 15 (Value.slice B0 l0 j0); exact Calls.quiet_of (HSA.out _)) | (go_at_call_of 15 (Value.slice B1 l1 j1); exact Calls.quiet_of (HSB.out _)))
                  go_wp2_with fail
                  go_ret
                  exact ⟨rfl, below_drewN HBW.out nq⟩
theorem LawEnds (i : Nat) (A : Option Addr) (n c : Nat) (l : List (Int × Int)) (lost : Bool) (W : World) (hi : i < 4294967296) (hl : Duo W A n c l) : Calls Try.prog 4 #[.int .u32 (i : Int), .slice A n c, .bool lost] W (Held W) := FEnds_any i A n c l lost W hi hl
end Go.Proofs.Ytnpkmkjenlhkiaa
