/- A path manager: Join, Gone and Next. Conditions: the manager stands. -/
import Derived.Test.YtpkhalneclmoeaaPaD
namespace Go.Proofs.Ytpkhalneclmoeaa
set_option linter.unusedVariables false
set_option linter.unusedSimpArgs false
open Go.RowKit Go.Lib

def Pm.joinE (p : Pm) (x y : Int) : Int :=
  if (mb x && mb y) = true then (if (p.ow x.toNat && p.ot y.toNat) = true then (if p.fl x.toNat y.toNat = true then 8 else if p.full = true then 7 else 0) else 6) else 1
def Pm.joinS (p : Pm) (x y : Int) : Pm := if p.joinE x y = 0 then p.setF x.toNat y.toNat true else p
def Pm.goneB (p : Pm) (x y : Int) : Bool := mb x && mb y && p.fl x.toNat y.toNat
def Pm.goneS (p : Pm) (x y : Int) : Pm := if p.goneB x y = true then p.setF x.toNat y.toNat false else p
section
variable {p : Pm} {x y : Int} {i j : Nat}
theorem joinE_bad (h : (mb x && mb y) = false) : p.joinE x y = 1 := by unfold Pm.joinE; rw [h]; rfl
theorem joinS_bad (h : (mb x && mb y) = false) : p.joinS x y = p := by unfold Pm.joinS; rw [joinE_bad h]; rfl
theorem mb2_nat (h : (mb x && mb y) = true) : ∃ i j : Nat, x = (i : Int) ∧ y = (j : Int) ∧ i < 4 ∧ j < 4 := by
  rw [Bool.and_eq_true] at h
  obtain ⟨i, e1, h1⟩ := mb_nat h.1
  obtain ⟨j, e2, h2⟩ := mb_nat h.2
  exact ⟨i, j, e1, e2, h1, h2⟩
theorem mb2_of (hi : i < 4) (hj : j < 4) : (mb (i : Int) && mb (j : Int)) = true := by rw [mb_of hi, mb_of hj]; rfl
theorem joinE_good (hi : i < 4) (hj : j < 4) : p.joinE (i : Int) (j : Int) = if (p.ow i && p.ot j) = true then (if p.fl i j = true then 8 else if p.full = true then 7 else 0) else 6 := by
  unfold Pm.joinE
  rw [mb2_of hi hj]
  rfl
theorem join6 (hi : i < 4) (hj : j < 4) (h : (p.ow i && p.ot j) = false) : p.joinE (i : Int) (j : Int) = 6 := by rw [joinE_good hi hj, h]; rfl
theorem join8 (hi : i < 4) (hj : j < 4) (h : (p.ow i && p.ot j) = true) (h2 : p.fl i j = true) : p.joinE (i : Int) (j : Int) = 8 := by rw [joinE_good hi hj, h, h2]; rfl
theorem join7 (hi : i < 4) (hj : j < 4) (h : (p.ow i && p.ot j) = true) (h2 : p.fl i j = false) (h3 : p.full = true) : p.joinE (i : Int) (j : Int) = 7 := by rw [joinE_good hi hj, h, h2, h3]; rfl
theorem join0 (hi : i < 4) (hj : j < 4) (h : (p.ow i && p.ot j) = true) (h2 : p.fl i j = false) (h3 : p.full = false) : p.joinE (i : Int) (j : Int) = 0 := by rw [joinE_good hi hj, h, h2, h3]; rfl
theorem joinS_no (h : p.joinE x y ≠ 0) : p.joinS x y = p := by unfold Pm.joinS; rw [if_neg h]
theorem joinS_yes (h : p.joinE (i : Int) (j : Int) = 0) : p.joinS (i : Int) (j : Int) = p.setF i j true := by unfold Pm.joinS; rw [if_pos h]; rfl
end

set_option maxHeartbeats 1600000 in
theorem join_any {w : World} {pb : Nat} {p : Pm} (h : St w pb p) (x y : Int) : Calls Try.prog 19 #[ptr pb, .int .i64 x, .int .i64 y] w (Did w pb (.int .i64 (p.joinE x y)) (p.joinS x y)) := by
  have hb := below_a w (.cells #[.int .i64 x, .int .i64 y] 45)
  have HX := Lib.hid (fun w => pmayBe_any x y w)
  have HB := Lib.hid hb
  have HST := Lib.hid (fun w' (b : Below w.heap.size w w') => h.below b)
  have hcell := cell2 w (.int .i64 x) (.int .i64 y) 45
  have HCL := Lib.hid hcell
  obtain ⟨y0, y1⟩ := hcell
  unfold pr at HX
  unfold ptr
  cases hm : mb x && mb y
  · rw [hm] at HX
    rw [joinE_bad hm, joinS_bad hm]
    clear h hm hb
    go_enter Try.func19, Try.ntmps19
    go_wp2_with fail
    refine (HX.out _).mono ?_
    rintro e w1 ⟨rfl, b1⟩
    have HB1 := Lib.hid (HB.out.trans (b1.mono HB.out.size))
    clear b1
    go_wp2_with fail
    go_ret
    exact ⟨rfl, HST.out _ HB1.out, Ch.of_below _ HB1.out⟩
  · rw [hm] at HX
    obtain ⟨i, j, rfl, rfl, hi, hj⟩ := mb2_nat hm
    have HK := Lib.hid (fun w' (b : Below w.heap.size w w') => knows_any (h.below b) hi hj)
    have HJ := Lib.hid (fun w' (b : Below w.heap.size w w') => joined_any (h.below b) hi hj)
    have HF := Lib.hid (fun w' (b : Below w.heap.size w w') => full_any (h.below b))
    have HC := Lib.hid (fun w' (b : Below w.heap.size w w') => And.intro ((h.below b).f hi hj) ((h.below b).fz (8 + i * 4 + j)))
    have HS := Lib.hid (fun w' (b : Below w.heap.size w w') => (h.below b).setF hi hj true)
    have H6 := Lib.hid (@join6 p i j hi hj)
    have H8 := Lib.hid (@join8 p i j hi hj)
    have H7 := Lib.hid (@join7 p i j hi hj)
    have H0 := Lib.hid (@join0 p i j hi hj)
    have HSN := Lib.hid (@joinS_no p (i : Int) (j : Int))
    have HSY := Lib.hid (@joinS_yes p i j)
    unfold pr ptr at *
    have HI := Lib.hid (And.intro hi hj)
    clear h hm hb
    cases hu : p.ow i && p.ot j
    · rw [HSN.out (by rw [H6.out hu]; decide), H6.out hu]
      rw [hu] at HK
      clear hu
      go_enter Try.func19, Try.ntmps19
      go_wp2_with fail
      refine (HX.out _).mono ?_
      rintro e w1 ⟨rfl, b1⟩
      have HB1 := Lib.hid (HB.out.trans (b1.mono HB.out.size))
      obtain ⟨y0, y1⟩ := HCL.out
      replace y0 := keepc b1 y0
      replace y1 := keepc b1 y1
      clear b1
      go_wp2_with fail
      refine (HK.out _ HB1.out).mono ?_
      rintro e w2 ⟨rfl, b2⟩
      have HB2 := Lib.hid (HB1.out.trans (b2.mono HB1.out.size))
      clear b2
      go_wp2_with fail
      go_ret
      exact ⟨rfl, HST.out _ HB2.out, Ch.of_below _ HB2.out⟩
    · rw [hu] at HK
      cases hv : p.fl i j
      · rw [hv] at HJ HC
        cases hz : p.full
        · rw [hz] at HF
          rw [HSY.out (H0.out hu hv hz), H0.out hu hv hz]
          clear hu hv hz
          go_enter Try.func19, Try.ntmps19
          go_wp2_with fail
          refine (HX.out _).mono ?_
          rintro e w1 ⟨rfl, b1⟩
          have HB1 := Lib.hid (HB.out.trans (b1.mono HB.out.size))
          obtain ⟨y0, y1⟩ := HCL.out
          replace y0 := keepc b1 y0
          replace y1 := keepc b1 y1
          clear b1
          go_wp2_with fail
          refine (HK.out _ HB1.out).mono ?_
          rintro e w2 ⟨rfl, b2⟩
          have HB2 := Lib.hid (HB1.out.trans (b2.mono HB1.out.size))
          replace y0 := keepc b2 y0
          replace y1 := keepc b2 y1
          clear b2
          go_wp2_with fail
          refine (HJ.out _ HB2.out).mono ?_
          rintro e w3 ⟨rfl, b3⟩
          have HB3 := Lib.hid (HB2.out.trans (b3.mono HB2.out.size))
          clear b3 y0 y1
          go_wp2_with fail
          refine (HF.out _ HB3.out).mono ?_
          rintro e w4 ⟨rfl, b4⟩
          have HB4 := Lib.hid (HB3.out.trans (b4.mono HB3.out.size))
          clear b4
          obtain ⟨c4, f4⟩ := HC.out _ HB4.out
          obtain ⟨hi, hj⟩ := HI.out
          go_wp2_with fail
          go_ret
          exact ⟨rfl, HS.out _ HB4.out, (Ch.of_below _ HB4.out).then_ ch_set⟩
        · rw [hz] at HF
          rw [HSN.out (by rw [H7.out hu hv hz]; decide), H7.out hu hv hz]
          clear hu hv hz
          go_enter Try.func19, Try.ntmps19
          go_wp2_with fail
          refine (HX.out _).mono ?_
          rintro e w1 ⟨rfl, b1⟩
          have HB1 := Lib.hid (HB.out.trans (b1.mono HB.out.size))
          obtain ⟨y0, y1⟩ := HCL.out
          replace y0 := keepc b1 y0
          replace y1 := keepc b1 y1
          clear b1
          go_wp2_with fail
          refine (HK.out _ HB1.out).mono ?_
          rintro e w2 ⟨rfl, b2⟩
          have HB2 := Lib.hid (HB1.out.trans (b2.mono HB1.out.size))
          replace y0 := keepc b2 y0
          replace y1 := keepc b2 y1
          clear b2
          go_wp2_with fail
          refine (HJ.out _ HB2.out).mono ?_
          rintro e w3 ⟨rfl, b3⟩
          have HB3 := Lib.hid (HB2.out.trans (b3.mono HB2.out.size))
          clear b3 y0 y1
          go_wp2_with fail
          refine (HF.out _ HB3.out).mono ?_
          rintro e w4 ⟨rfl, b4⟩
          have HB4 := Lib.hid (HB3.out.trans (b4.mono HB3.out.size))
          clear b4
          go_wp2_with fail
          go_ret
          exact ⟨rfl, HST.out _ HB4.out, Ch.of_below _ HB4.out⟩
      · rw [hv] at HJ
        rw [HSN.out (by rw [H8.out hu hv]; decide), H8.out hu hv]
        clear hu hv
        go_enter Try.func19, Try.ntmps19
        go_wp2_with fail
        refine (HX.out _).mono ?_
        rintro e w1 ⟨rfl, b1⟩
        have HB1 := Lib.hid (HB.out.trans (b1.mono HB.out.size))
        obtain ⟨y0, y1⟩ := HCL.out
        replace y0 := keepc b1 y0
        replace y1 := keepc b1 y1
        clear b1
        go_wp2_with fail
        refine (HK.out _ HB1.out).mono ?_
        rintro e w2 ⟨rfl, b2⟩
        have HB2 := Lib.hid (HB1.out.trans (b2.mono HB1.out.size))
        replace y0 := keepc b2 y0
        replace y1 := keepc b2 y1
        clear b2
        go_wp2_with fail
        refine (HJ.out _ HB2.out).mono ?_
        rintro e w3 ⟨rfl, b3⟩
        have HB3 := Lib.hid (HB2.out.trans (b3.mono HB2.out.size))
        clear b3 y0 y1
        go_wp2_with fail
        go_ret
        exact ⟨rfl, HST.out _ HB3.out, Ch.of_below _ HB3.out⟩

theorem goneB_bad {p : Pm} {x y : Int} (h : (mb x && mb y) = false) : p.goneB x y = false := by unfold Pm.goneB; rw [h]; rfl
theorem goneB_good {p : Pm} {i j : Nat} (hi : i < 4) (hj : j < 4) : p.goneB (i : Int) (j : Int) = p.fl i j := by unfold Pm.goneB; rw [mb2_of hi hj]; rfl
theorem goneS_no {p : Pm} {x y : Int} (h : p.goneB x y = false) : p.goneS x y = p := by unfold Pm.goneS; rw [h]; rfl
theorem goneS_yes {p : Pm} {i j : Nat} (h : p.goneB (i : Int) (j : Int) = true) : p.goneS (i : Int) (j : Int) = p.setF i j false := by unfold Pm.goneS; rw [h]; rfl

set_option maxHeartbeats 1600000 in
theorem gone_any {w : World} {pb : Nat} {p : Pm} (h : St w pb p) (x y : Int) : Calls Try.prog 21 #[ptr pb, .int .i64 x, .int .i64 y] w (Did w pb (.bool (p.goneB x y)) (p.goneS x y)) := by
  have hb := below_a w (.cells #[.int .i64 x, .int .i64 y] 45)
  have HX := Lib.hid (fun w => pmayBe_any x y w)
  have HB := Lib.hid hb
  have HST := Lib.hid (fun w' (b : Below w.heap.size w w') => h.below b)
  have hcell := cell2 w (.int .i64 x) (.int .i64 y) 45
  have HCL := Lib.hid hcell
  obtain ⟨y0, y1⟩ := hcell
  unfold pr at HX
  unfold ptr
  cases hm : mb x && mb y
  · rw [hm] at HX
    rw [goneS_no (goneB_bad hm), goneB_bad hm]
    clear h hm hb
    go_enter Try.func21, Try.ntmps21
    go_wp2_with fail
    refine (HX.out _).mono ?_
    rintro e w1 ⟨rfl, b1⟩
    have HB1 := Lib.hid (HB.out.trans (b1.mono HB.out.size))
    clear b1
    go_wp2_with fail
    go_ret
    exact ⟨rfl, HST.out _ HB1.out, Ch.of_below _ HB1.out⟩
  · rw [hm] at HX
    obtain ⟨i, j, rfl, rfl, hi, hj⟩ := mb2_nat hm
    have HJ := Lib.hid (fun w' (b : Below w.heap.size w w') => joined_any (h.below b) hi hj)
    have HC := Lib.hid (fun w' (b : Below w.heap.size w w') => And.intro ((h.below b).f hi hj) ((h.below b).fz (8 + i * 4 + j)))
    have HS := Lib.hid (fun w' (b : Below w.heap.size w w') => (h.below b).setF hi hj false)
    have HG := Lib.hid (@goneB_good p i j hi hj)
    have HSN := Lib.hid (@goneS_no p (i : Int) (j : Int))
    have HSY := Lib.hid (@goneS_yes p i j)
    unfold pr ptr at *
    have HI := Lib.hid (And.intro hi hj)
    clear h hm hb
    cases hv : p.fl i j
    · rw [hv] at HJ HG
      rw [HSN.out HG.out, HG.out]
      clear hv
      go_enter Try.func21, Try.ntmps21
      go_wp2_with fail
      refine (HX.out _).mono ?_
      rintro e w1 ⟨rfl, b1⟩
      have HB1 := Lib.hid (HB.out.trans (b1.mono HB.out.size))
      obtain ⟨y0, y1⟩ := HCL.out
      replace y0 := keepc b1 y0
      replace y1 := keepc b1 y1
      clear b1
      go_wp2_with fail
      refine (HJ.out _ HB1.out).mono ?_
      rintro e w3 ⟨rfl, b3⟩
      have HB3 := Lib.hid (HB1.out.trans (b3.mono HB1.out.size))
      clear b3 y0 y1
      go_wp2_with fail
      go_ret
      exact ⟨rfl, HST.out _ HB3.out, Ch.of_below _ HB3.out⟩
    · rw [hv] at HJ HC HG
      rw [HSY.out HG.out, HG.out]
      clear hv
      go_enter Try.func21, Try.ntmps21
      go_wp2_with fail
      refine (HX.out _).mono ?_
      rintro e w1 ⟨rfl, b1⟩
      have HB1 := Lib.hid (HB.out.trans (b1.mono HB.out.size))
      obtain ⟨y0, y1⟩ := HCL.out
      replace y0 := keepc b1 y0
      replace y1 := keepc b1 y1
      clear b1
      go_wp2_with fail
      refine (HJ.out _ HB1.out).mono ?_
      rintro e w3 ⟨rfl, b3⟩
      have HB3 := Lib.hid (HB1.out.trans (b3.mono HB1.out.size))
      clear b3 y0 y1
      obtain ⟨c4, f4⟩ := HC.out _ HB3.out
      obtain ⟨hi, hj⟩ := HI.out
      go_wp2_with fail
      go_ret
      exact ⟨rfl, HS.out _ HB3.out, (Ch.of_below _ HB3.out).then_ ch_set⟩
end Go.Proofs.Ytpkhalneclmoeaa
