/- The law DrecvWindow. Conditions: the acts lie where the slice says. -/
import Derived.Test.YtancbdnpmabpfaaDrG
import Derived.Test.YtancbdnpmabpfaaDrFr
namespace Go.Proofs.Ytancbdnpmabpfaa
set_option linter.unusedVariables false
set_option linter.unusedSimpArgs false
open Go.RowKit Go.Lib

/-- A number held between -500 and 2^30. -/
def nearN (n : Int) : Int := min (max n (-500)) 1073741824
theorem near_in (n : Int) : -500 ≤ nearN n ∧ nearN n ≤ 1073741824 := by unfold nearN; omega
theorem near_any (n : Int) (w : World) : Calls Try.prog 13 #[.int .i64 n] w fun e w' => e = .returned (.int .i64 (nearN n)) ∧ w' = w := by
  have hn : min (max n (-500)) 1073741824 = nearN n := rfl
  go_enter Try.func13, Try.ntmps13
  go_wp2_with fail
  go_ret
  exact ⟨rfl, rfl⟩
theorem cell3 (w : World) (x y z : Value) (t : TypeId) : (w.alloc (.cells #[x, y, z] t)).cell? ⟨w.heap.size, 0, none⟩ = some x ∧ (w.alloc (.cells #[x, y, z] t)).cell? ⟨w.heap.size, 1, none⟩ = some y ∧ (w.alloc (.cells #[x, y, z] t)).cell? ⟨w.heap.size, 2, none⟩ = some z :=
  ⟨by rw [cell_of_row _ _ _ _ _ _ (heap_alloc_new w _)]; rfl, by rw [cell_of_row _ _ _ _ _ _ (heap_alloc_new w _)]; rfl, by rw [cell_of_row _ _ _ _ _ _ (heap_alloc_new w _)]; rfl⟩

/-- What a receiver tells, whenever it is asked. -/
structure Tells (W : World) (rb : Nat) (z : Sh) (d : Dr) (wn hd ak : Nat) : Prop where
  win : ∀ w, Sv W w rb z d → Calls Try.prog 23 #[.pointer (some ⟨rb, 0, none⟩)] w (Qt (.int .i64 (wn : Int)) w)
  ready : ∀ w, Sv W w rb z d → Calls Try.prog 24 #[.pointer (some ⟨rb, 0, none⟩)] w (Qt (.int .i64 (hd : Int)) w)
  ack : ∀ w, Sv W w rb z d → Calls Try.prog 22 #[.pointer (some ⟨rb, 0, none⟩)] w (Qt (.int .i64 (ak : Int)) w)
section
variable {W w : World} {rb : Nat} {z : Sh} {d : Dr}
theorem tells (W : World) (rb : Nat) (z : Sh) (d : Dr) : Tells W rb z d (d.rd + 33 - d.nx) d.held d.ack :=
  ⟨fun w h => Win_any h.s, fun w h => (Ready_any h.s).mono fun e w' ⟨he, hw⟩ => ⟨he, 0, hw⟩, fun w h => Ack_any h.s⟩
theorem Sv.dn (h : Sv W w rb z d) (m : Nat) : Sv W (w.drewN m) rb z d := h.below (below_dn (Below.refl _ _) m)
theorem Sv.win (h : Sv W w rb z d) : d.rd + 33 - d.nx + d.held = 32 ∧ d.nx ≤ d.ack ∧ d.ack ≤ 33002 := by
  have := h.s.nums
  unfold Dr.ack
  refine ⟨by omega, ?_, ?_⟩ <;> split <;> omega
theorem Dr.ok.hits_le (h : d.ok) (x : Int) (n : Nat) : d.hits x n ≤ 32 := by
  obtain ⟨f, hf⟩ : ∃ f : Nat, (f : Int) = max x (d.nx : Int) := ⟨(max x (d.nx : Int)).toNat, by omega⟩
  rw [h.hits hf n]
  refine Nat.le_trans (kept_le _ _ _) ?_
  have h1 := h.bound_le
  have h2 := h.lo
  omega
theorem Dr.ok.ack_put (h : d.ok) (x : Int) (b : List UInt8) : d.ack ≤ (d.put x b).ack := by
  obtain ⟨p1, p2, p3, p4⟩ := h.put_nx (x := x) (b := b)
  have hlo := h.lo
  unfold Dr.ack
  have he : (d.put x b).en = d.en := rfl
  rw [he]
  by_cases h1 : d.nx = d.en
  · have : (d.put x b).nx = d.nx := by
      unfold Dr.bound at p2
      rw [if_neg (by omega)] at p2
      omega
    rw [this]
    exact Nat.le_refl _
  · rw [if_neg h1]
    split <;> omega
theorem ack_read (d : Dr) (m : Int) : (d.read m).ack = d.ack := rfl
end

set_option maxRecDepth 20000 in
set_option maxHeartbeats 6400000 in
theorem Window_law (A : Option Addr) (n c : Nat) (l : List Da) (W : World) (hA : Das W A n c l) : Calls Try.prog 7 #[.slice A n c] W (Held W) := by
  have HW := Lib.hid (wakes_any W)
  have HA := Lib.hid hA
  have hcc := hA.cap
  have hcm := hA.max
  clear hA
  by_cases hn : 100 < n
  · have h' : (100 : Int) < (n : Int) := by omega
    go_enter Try.func7, Try.ntmps7
    go_wp2_with fail
    refine (HW.out).mono ?_
    rintro e w1 ⟨rfl, b1⟩
    have B1 := Lib.hid b1
    clear b1
    go_wp2_with fail
    go_ret
    exact ⟨rfl, B1.out⟩
  · have hg1 : ¬ ((100 : Int) < (n : Int)) := by omega
    go_enter Try.func7, Try.ntmps7
    go_wp2_with fail
    refine (HW.out).mono ?_
    rintro e w1 ⟨rfl, b1⟩
    have HN1 := Lib.hid (new_sv W w1 b1)
    clear b1
    go_wp2_with fail
    refine (HN1.out).mono ?_
    rintro e w2 ⟨rb, z2, rfl, S2, -, -⟩
    have HS2 := Lib.hid S2
    clear S2 HN1
    unfold ptr
    go_wp2_with fail
    go_loopw [18] (fun ix wr => ∃ (j : Nat) (z : Sh) (d : Dr), ix = .int .i64 (j : Int) ∧ j ≤ n ∧ d.t ≤ j ∧ Sv W wr rb z d) (fun ix _ => n - (intOf ix).toNat)
    case atStart => exact ⟨0, z2, Dr.new, rfl, Nat.zero_le _, Nat.le_refl _, HS2.out⟩
    case round =>
      obtain ⟨j, z5, d, rfl, hj, hfin, S5⟩ := hrel
      by_cases hjn : j < n
      · obtain ⟨g, o, rfl, ok, x0, x1, x2⟩ := (HA.out.below S5.bel).at_ hjn
        generalize l.getD j default = a at *
        obtain ⟨kd, an, bA, bn, bc, bs⟩ := a
        dsimp only at *
        have HOK := Lib.hid ok
        have hb := below_a wr (.cells #[.int .i64 kd, .int .i64 an, .slice bA bn bc] 30)
        have HS6 := Lib.hid (S5.below hb)
        have HR6 : Hid (RB (wr.alloc (.cells #[.int .i64 kd, .int .i64 an, .slice bA bn bc] 30)) bA bn bc bs) := Lib.hid (ok.row.below hb)
        obtain ⟨y0, y1, y2⟩ := cell3 wr (.int .i64 kd) (.int .i64 an) (.slice bA bn bc) 30
        have HF := Lib.hid (And.intro hfin hn)
        have HJ := Lib.hid hj
        have HJN := Lib.hid hjn
        have hjc : (j : Int) < (n : Int) := by omega
        clear ok hb S5 hfin hn hj
        obtain ⟨gt, hgt⟩ : ∃ gt, gt = wr.heap.size := ⟨_, rfl⟩
        go_upto_region 9 with (fail)
        rw [← hgt] at y0 y1 y2 ⊢
        clear hgt x0 x1 x2
        generalize wr.alloc (.cells #[.int .i64 kd, .int .i64 an, .slice bA bn bc] 30) = w6 at *
        by_cases hbn : 100 < bn
        · have hb1 : (100 : Int) < (bn : Int) := by omega
          go_wp2_with fail
          go_ret
          exact ⟨rfl, HS6.out.bel⟩
        · have hb1 : ¬ ((100 : Int) < (bn : Int)) := by omega
          have HBN := Lib.hid hbn
          have hwin := HS6.out.win
          have HTL := Lib.hid (tells W rb z5 d)
          obtain ⟨wn0, hwn0⟩ : ∃ wn0, wn0 = d.rd + 33 - d.nx := ⟨_, rfl⟩
          obtain ⟨ak0, hak0⟩ : ∃ ak0, ak0 = d.ack := ⟨_, rfl⟩
          rw [← hwn0, ← hak0] at HTL hwin
          have HE0 := Lib.hid (And.intro hwn0 (And.intro hak0 hwin))
          clear hwn0 hak0 hwin hbn hjn
          go_wp2_with fail
          refine (HTL.out.win _ HS6.out).mono ?_
          rintro e w7 ⟨rfl, m7, rfl⟩
          have HS7 := Lib.hid (HS6.out.dn m7)
          have HR7 := Lib.hid (HR6.out.drewN m7)
          have t0 : (w6.drewN m7).cell? ⟨gt, 0, none⟩ = some (.int .i64 kd) := y0
          have t1 : (w6.drewN m7).cell? ⟨gt, 1, none⟩ = some (.int .i64 an) := y1
          have t2 : (w6.drewN m7).cell? ⟨gt, 2, none⟩ = some (.slice bA bn bc) := y2
          generalize w6.drewN m7 = w7 at *
          clear y0 y1 y2
          go_wp2_with fail
          refine (HTL.out.ack _ HS7.out).mono ?_
          rintro e w8 ⟨rfl, m8, rfl⟩
          have HS8 := Lib.hid (HS7.out.dn m8)
          have HR8 := Lib.hid (HR7.out.drewN m8)
          have y0 : (w7.drewN m8).cell? ⟨gt, 0, none⟩ = some (.int .i64 kd) := t0
          have y1 : (w7.drewN m8).cell? ⟨gt, 1, none⟩ = some (.int .i64 an) := t1
          have y2 : (w7.drewN m8).cell? ⟨gt, 2, none⟩ = some (.slice bA bn bc) := t2
          generalize w7.drewN m8 = w8 at *
          clear t0 t1 t2
          by_cases k0 : kd = 0
          · subst k0
            have HNA := Lib.hid (fun w => near_any an w)
            have hni := near_in an
            generalize nearN an = na at *
            obtain ⟨x9, hx9⟩ : ∃ x9, x9 = (ak0 : Int) + na := ⟨_, rfl⟩
            have hwx : IntKind.i64.wrap ((ak0 : Int) + na) = x9 := by have := HE0.out; rw [IntKind.wrap_i64]; omega
            have HPU := Lib.hid (fun (w : World) (h : Sv W w rb z5 d) (r : RB w bA bn bc bs) => h.put (x := x9) (by have := HE0.out; omega) r (by have := HBN.out; omega) (by have := HF.out; omega))
            have HLE : Hid (d.hits x9 bs.length ≤ 32 ∧ d.ack ≤ (d.put x9 bs).ack ∧ (d.put x9 bs).t ≤ j + 1) := Lib.hid ⟨HS8.out.s.ok.hits_le _ _, HS8.out.s.ok.ack_put _ _, Nat.succ_le_succ HF.out.1⟩
            generalize d.hits x9 bs.length = hh at *
            have hle : ¬ ((32 : Int) < (hh : Int)) := by have := HLE.out.1; omega
            have hleb : decide ((32 : Int) < (hh : Int)) = false := decide_eq_false hle
            unfold ptr at HPU
            clear hni hx9
            have z1 : w8.drew.cell? ⟨gt, 1, none⟩ = some (.int .i64 an) := y1
            have z2' : w8.drew.cell? ⟨gt, 2, none⟩ = some (.slice bA bn bc) := y2
            go_upto_region 14 with (fail)
            refine wp_region_noPanic ?_
            refine until_start (fun W => W.cell? ⟨gt, 1, none⟩ = some (.int .i64 an) ∧ W.cell? ⟨gt, 2, none⟩ = some (.slice bA bn bc)) 9 (by kernel_rfl) ⟨z1, z2'⟩ (fun _ => ?_)
            refine until_take (i := 0) (v := .pointer (some ⟨rb, 0, none⟩)) (some 34) [9] rfl rfl (by kernel_rfl) (by kernel_rfl) (by kernel_rfl) (by kernel_rfl) rfl rfl (fun _ _ _ h => h) (Or.inl ⟨by rfl, fun W hW => by go_simp⟩) ⟨z1, z2'⟩ ?_
            simp only [Act.put, List.setIfInBounds_toArray, List.set_cons_zero, List.set_cons_succ]
            refine until_take (i := 1) (v := .pointer (some ⟨rb, 0, none⟩)) (some 35) [2, 5, 9] rfl rfl (by kernel_rfl) (by kernel_rfl) (by kernel_rfl) (by kernel_rfl) rfl rfl (fun _ _ _ h => h) (Or.inl ⟨by rfl, fun W hW => by go_simp⟩) ⟨z1, z2'⟩ ?_
            simp only [Act.put, List.setIfInBounds_toArray, List.set_cons_zero, List.set_cons_succ]
            refine until_take (i := 3) (v := .pointer (some ⟨gt, 1, none⟩)) (some 37) [4, 5, 9] rfl rfl (by kernel_rfl) (by kernel_rfl) (by kernel_rfl) (by kernel_rfl) rfl rfl (fun _ _ _ h => h) (Or.inl ⟨by rfl, fun W hW => by go_simp⟩) ⟨z1, z2'⟩ ?_
            simp only [Act.put, List.setIfInBounds_toArray, List.set_cons_zero, List.set_cons_succ]
            refine until_take (i := 7) (v := .pointer (some ⟨gt, 2, none⟩)) (some 41) [8, 9] rfl rfl (by kernel_rfl) (by kernel_rfl) (by kernel_rfl) (by kernel_rfl) rfl rfl (fun _ _ _ h => h) (Or.inl ⟨by rfl, fun W hW => by go_simp⟩) ⟨z1, z2'⟩ ?_
            simp only [Act.put, List.setIfInBounds_toArray, List.set_cons_zero, List.set_cons_succ]
            refine until_take (i := 4) (v := .int .i64 an) (some 38) [5, 9] rfl rfl (by kernel_rfl) (by kernel_rfl) (by kernel_rfl) (by kernel_rfl) rfl rfl (fun _ _ _ h => h) (Or.inl ⟨by rfl, fun W hW => by have hc := hW.1; go_simp⟩) ⟨z1, z2'⟩ ?_
            simp only [Act.put, List.setIfInBounds_toArray, List.set_cons_zero, List.set_cons_succ]
            refine until_take (i := 8) (v := .slice bA bn bc) (some 42) [9] rfl rfl (by kernel_rfl) (by kernel_rfl) (by kernel_rfl) (by kernel_rfl) rfl rfl (fun _ _ _ h => h) (Or.inl ⟨by rfl, fun W hW => by have hc := hW.2; go_simp⟩) ⟨z1, z2'⟩ ?_
            simp only [Act.put, List.setIfInBounds_toArray, List.set_cons_zero, List.set_cons_succ]
            refine until_step (i := 2) (by kernel_rfl) rfl rfl (fun K hK => ?_)
            go_simp
            refine (HTL.out.ack _ (HS8.out.below (Below.refl _ _).drew)).mono ?_
            rintro e w10 ⟨rfl, m10, rfl⟩
            have HS10 := Lib.hid ((HS8.out.below (Below.refl _ _).drew).dn m10)
            have HR10 : Hid (RB (w8.drew.drewN m10) bA bn bc bs) := Lib.hid (HR8.out.drew.drewN m10)
            have z3 : (w8.drew.drewN m10).cell? ⟨gt, 1, none⟩ = some (.int .i64 an) ∧ (w8.drew.drewN m10).cell? ⟨gt, 2, none⟩ = some (.slice bA bn bc) := ⟨z1, z2'⟩
            generalize w8.drew.drewN m10 = w10 at *
            try dsimp only
            refine hK.out _ _ z3 (fun _ => ?_)
            clear hK
            try simp only [Act.put, List.setIfInBounds_toArray, List.set_cons_zero, List.set_cons_succ]
            refine until_step (i := 5) (by kernel_rfl) rfl rfl (fun K hK => ?_)
            go_simp
            refine (HNA.out _).mono ?_
            rintro e w11 ⟨rfl, rfl⟩
            try dsimp only
            refine hK.out _ _ z3 (fun _ => ?_)
            clear hK
            try simp only [Act.put, List.setIfInBounds_toArray, List.set_cons_zero, List.set_cons_succ]
            refine until_take (i := 6) (v := .int .i64 x9) (some 40) [9] rfl rfl (by kernel_rfl) (by kernel_rfl) (by kernel_rfl) (by kernel_rfl) rfl rfl (fun _ _ _ h => h) (Or.inl ⟨by rfl, fun W hW => by have hc := hwx; go_simp⟩) z3 ?_
            simp only [Act.put, List.setIfInBounds_toArray, List.set_cons_zero, List.set_cons_succ]
            refine until_last (by kernel_rfl) rfl (fun K hK => ?_)
            go_simp
            refine (HPU.out _ HS10.out HR10.out).mono ?_
            rintro e w9 ⟨z9, rfl, S9, -⟩
            have HS9 := Lib.hid S9
            clear S9 HPU
            try dsimp only
            refine hK.out _ _ ?_
            clear hK
            try simp only [Act.put, List.setIfInBounds_toArray, List.set_cons_zero, List.set_cons_succ]
            refine held_take (i := 10) (v := .bool false) (some 44) rfl rfl (by kernel_rfl) (by kernel_rfl) (by kernel_rfl) (fun _ _ _ h => h) (Or.inl ⟨by rfl, fun W hW => by have hc := hleb; go_simp⟩) trivial ?_
            simp only [Act.put, List.setIfInBounds_toArray, List.set_cons_zero, List.set_cons_succ]
            refine wpAnyH_done (by kernel_rfl) ?_ _
            refine NoPanic.normal ?_
            have HAK : Hid (ak0 ≤ (d.put x9 bs).ack) := Lib.hid (by have := HE0.out.2.1; have := HLE.out.2.1; omega)
            have HTT : Hid ((d.put x9 bs).t ≤ j + 1) := Lib.hid HLE.out.2.2
            generalize d.put x9 bs = d9 at *
            clear y0 y1 y2 z1 z2' hle hleb hwx
            have hwin := HS9.out.win
            have HT := Lib.hid (tells W rb z9 d9)
            generalize d9.rd + 33 - d9.nx = wn at *
            generalize d9.held = hd at *
            obtain ⟨ak, hak⟩ : ∃ ak, ak = d9.ack := ⟨_, rfl⟩
            have HAK2 := HAK.out
            rw [← hak] at HT HAK2 hwin
            have q1 : ¬ ((wn : Int) < 0) := by omega
            have q2 : ¬ ((32 : Int) < (wn : Int)) := by omega
            have q3 : ¬ ((32 : Int) < (hd : Int)) := by omega
            have q4 : ¬ ((ak : Int) < (ak0 : Int)) := by omega
            have q5 : IntKind.i64.wrap (32 - (hd : Int)) = (wn : Int) := by rw [IntKind.wrap_i64]; omega
            clear hwin hak HAK2
            go_wp2_with fail
            refine (HT.out.win _ HS9.out).mono ?_
            rintro e w20 ⟨rfl, m20, rfl⟩
            have HS20 := Lib.hid (HS9.out.dn m20)
            generalize w9.drewN m20 = w20 at *
            go_wp2_with fail
            refine (HT.out.win _ HS20.out).mono ?_
            rintro e w21 ⟨rfl, m21, rfl⟩
            have HS21 := Lib.hid (HS20.out.dn m21)
            generalize w20.drewN m21 = w21 at *
            go_wp2_with fail
            refine (HT.out.ready _ HS21.out).mono ?_
            rintro e w22 ⟨rfl, m22, rfl⟩
            have HS22 := Lib.hid (HS21.out.dn m22)
            generalize w21.drewN m22 = w22 at *
            go_wp2_with fail
            refine (HT.out.win _ HS22.out).mono ?_
            rintro e w23 ⟨rfl, m23, rfl⟩
            have HS23 := Lib.hid (HS22.out.dn m23)
            generalize w22.drewN m23 = w23 at *
            go_wp2_with fail
            refine (HT.out.ready _ HS23.out).mono ?_
            rintro e w24 ⟨rfl, m24, rfl⟩
            have HS24 := Lib.hid (HS23.out.dn m24)
            generalize w23.drewN m24 = w24 at *
            go_wp2_with fail
            refine (HT.out.ack _ HS24.out).mono ?_
            rintro e w25 ⟨rfl, m25, rfl⟩
            have HS25 := Lib.hid (HS24.out.dn m25)
            generalize w24.drewN m25 = w25 at *
            go_wp2_with fail
            go_roundw
            case rel => exact ⟨j + 1, z9, d9, by go_num, by have := HJN.out; omega, HTT.out, HS25.out⟩
            case measure => have := HJN.out; simp [intOf]; omega
          · by_cases k2 : kd = 2
            · subst k2
              have HRE := Lib.hid (HS8.out.read (m := an) HOK.out.n)
              have HAK : Hid (ak0 ≤ (d.read an).ack) := Lib.hid (by have := HE0.out.2.1; have := ack_read d an; omega)
              have HTT : Hid ((d.read an).t ≤ j + 1) := Lib.hid (Nat.le_succ_of_le HF.out.1)
              have HML := d.most_le an
              have HTR := Lib.hid (tells W rb)
              have hnm := HS8.out.s.nums
              have e1 : (d.read an).rd + 33 - (d.read an).nx = wn0 + d.most an := by
                have := HE0.out.1
                show d.rd + d.most an + 33 - d.nx = _
                omega
              have e2 : (d.read an).ack = ak0 := by have := HE0.out.2.1; rw [ack_read]; omega
              have hw0 : IntKind.i64.wrap ((wn0 : Int) + (d.most an : Int)) = ((wn0 + d.most an : Nat) : Int) := by have := HE0.out.1; rw [IntKind.wrap_i64]; omega
              have HT9 := Lib.hid (fun z9 => tells W rb z9 (d.read an))
              rw [e1, e2] at HT9
              generalize d.err = er at *
              generalize d.most an = ml at *
              generalize d.got an = gl at *
              generalize d.read an = d9 at *
              generalize hwm : wn0 + ml = wm at *
              unfold ptr at *
              clear hnm e1 HML
              go_wp2_with fail
              refine (HRE.out).mono ?_
              rintro e w9 ⟨v9, z9, rfl, T9, S9, -⟩
              have HS9 := Lib.hid S9
              obtain ⟨A9, c9, rfl, -⟩ := T9.row
              clear T9 S9 HRE y0 y1 y2
              go_wp2_with fail
              refine ((HT9.out z9).win _ HS9.out).mono ?_
              rintro e w10 ⟨rfl, m10, rfl⟩
              have HS10 := Lib.hid (HS9.out.dn m10)
              generalize w9.drewN m10 = w10 at *
              clear HS9
              go_wp2_with fail
              refine ((HT9.out z9).ack _ HS10.out).mono ?_
              rintro e w11 ⟨rfl, m11, rfl⟩
              have HS9 := Lib.hid (HS10.out.dn m11)
              generalize w10.drewN m11 = w9 at *
              clear HS10 e2 hw0 hwm
              have hwin := HS9.out.win
              have HT := Lib.hid (tells W rb z9 d9)
              generalize d9.rd + 33 - d9.nx = wn at *
              generalize d9.held = hd at *
              obtain ⟨ak, hak⟩ : ∃ ak, ak = d9.ack := ⟨_, rfl⟩
              have HAK2 := HAK.out
              rw [← hak] at HT HAK2 hwin
              have q1 : ¬ ((wn : Int) < 0) := by omega
              have q2 : ¬ ((32 : Int) < (wn : Int)) := by omega
              have q3 : ¬ ((32 : Int) < (hd : Int)) := by omega
              have q4 : ¬ ((ak : Int) < (ak0 : Int)) := by omega
              have q5 : IntKind.i64.wrap (32 - (hd : Int)) = (wn : Int) := by rw [IntKind.wrap_i64]; omega
              clear hwin hak HAK2
              go_wp2_with fail
              refine (HT.out.win _ HS9.out).mono ?_
              rintro e w20 ⟨rfl, m20, rfl⟩
              have HS20 := Lib.hid (HS9.out.dn m20)
              generalize w9.drewN m20 = w20 at *
              go_wp2_with fail
              refine (HT.out.win _ HS20.out).mono ?_
              rintro e w21 ⟨rfl, m21, rfl⟩
              have HS21 := Lib.hid (HS20.out.dn m21)
              generalize w20.drewN m21 = w21 at *
              go_wp2_with fail
              refine (HT.out.ready _ HS21.out).mono ?_
              rintro e w22 ⟨rfl, m22, rfl⟩
              have HS22 := Lib.hid (HS21.out.dn m22)
              generalize w21.drewN m22 = w22 at *
              go_wp2_with fail
              refine (HT.out.win _ HS22.out).mono ?_
              rintro e w23 ⟨rfl, m23, rfl⟩
              have HS23 := Lib.hid (HS22.out.dn m23)
              generalize w22.drewN m23 = w23 at *
              go_wp2_with fail
              refine (HT.out.ready _ HS23.out).mono ?_
              rintro e w24 ⟨rfl, m24, rfl⟩
              have HS24 := Lib.hid (HS23.out.dn m24)
              generalize w23.drewN m24 = w24 at *
              go_wp2_with fail
              refine (HT.out.ack _ HS24.out).mono ?_
              rintro e w25 ⟨rfl, m25, rfl⟩
              have HS25 := Lib.hid (HS24.out.dn m25)
              generalize w24.drewN m25 = w25 at *
              go_wp2_with fail
              go_roundw
              case rel => exact ⟨j + 1, z9, d9, by go_num, by have := HJN.out; omega, HTT.out, HS25.out⟩
              case measure => have := HJN.out; simp [intOf]; omega
            · have k0b : ((kd : Int) == 0) = false := by simpa using k0
              have k2b : ((kd : Int) == 2) = false := by simpa using k2
              have HAK : Hid (ak0 ≤ d.ack) := Lib.hid (by have := HE0.out.2.1; omega)
              have HTT : Hid (d.t ≤ j + 1) := Lib.hid (Nat.le_succ_of_le HF.out.1)
              have HS9 := Lib.hid HS8.out
              obtain ⟨z9, hz9⟩ : ∃ z9, z9 = z5 := ⟨_, rfl⟩
              rw [← hz9] at HS9
              generalize hd9 : d = d9 at *
              obtain ⟨w9, hw9⟩ : ∃ w9, w9 = w8 := ⟨_, rfl⟩
              clear y1 y2 hz9 hd9 hw9
              have hwin := HS9.out.win
              have HT := Lib.hid (tells W rb z9 d9)
              generalize d9.rd + 33 - d9.nx = wn at *
              generalize d9.held = hd at *
              obtain ⟨ak, hak⟩ : ∃ ak, ak = d9.ack := ⟨_, rfl⟩
              have HAK2 := HAK.out
              rw [← hak] at HT HAK2 hwin
              have q1 : ¬ ((wn : Int) < 0) := by omega
              have q2 : ¬ ((32 : Int) < (wn : Int)) := by omega
              have q3 : ¬ ((32 : Int) < (hd : Int)) := by omega
              have q4 : ¬ ((ak : Int) < (ak0 : Int)) := by omega
              have q5 : IntKind.i64.wrap (32 - (hd : Int)) = (wn : Int) := by rw [IntKind.wrap_i64]; omega
              clear hwin hak HAK2
              go_wp2_with fail
              refine (HT.out.win _ HS9.out).mono ?_
              rintro e w20 ⟨rfl, m20, rfl⟩
              have HS20 := Lib.hid (HS9.out.dn m20)
              generalize w8.drewN m20 = w20 at *
              go_wp2_with fail
              refine (HT.out.win _ HS20.out).mono ?_
              rintro e w21 ⟨rfl, m21, rfl⟩
              have HS21 := Lib.hid (HS20.out.dn m21)
              generalize w20.drewN m21 = w21 at *
              go_wp2_with fail
              refine (HT.out.ready _ HS21.out).mono ?_
              rintro e w22 ⟨rfl, m22, rfl⟩
              have HS22 := Lib.hid (HS21.out.dn m22)
              generalize w21.drewN m22 = w22 at *
              go_wp2_with fail
              refine (HT.out.win _ HS22.out).mono ?_
              rintro e w23 ⟨rfl, m23, rfl⟩
              have HS23 := Lib.hid (HS22.out.dn m23)
              generalize w22.drewN m23 = w23 at *
              go_wp2_with fail
              refine (HT.out.ready _ HS23.out).mono ?_
              rintro e w24 ⟨rfl, m24, rfl⟩
              have HS24 := Lib.hid (HS23.out.dn m24)
              generalize w23.drewN m24 = w24 at *
              go_wp2_with fail
              refine (HT.out.ack _ HS24.out).mono ?_
              rintro e w25 ⟨rfl, m25, rfl⟩
              have HS25 := Lib.hid (HS24.out.dn m25)
              generalize w24.drewN m25 = w25 at *
              go_wp2_with fail
              go_roundw
              case rel => exact ⟨j + 1, z9, d9, by go_num, by have := HJN.out; omega, HTT.out, HS25.out⟩
              case measure => have := HJN.out; simp [intOf]; omega
      · obtain rfl : j = n := by omega
        have HB := Lib.hid S5.bel
        clear S5
        go_wp2_with fail
        go_ret
        exact ⟨rfl, HB.out⟩
end Go.Proofs.Ytancbdnpmabpfaa
