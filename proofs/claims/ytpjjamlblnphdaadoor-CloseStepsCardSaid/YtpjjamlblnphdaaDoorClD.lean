/- Path; the example; the laws CloseSteps and ClosePaths. Condition: the package's variable holds the moves; the argument is a slice of whole numbers. -/
import Derived.Test.YtpjjamlblnphdaaDoorClC
namespace Go.Proofs.YtpjjamlblnphdaaDoor
set_option linter.unusedVariables false
set_option linter.unusedSimpArgs false
open Go.RowKit Go.Lib

/-- What is still to be seen behind i. -/
theorem pth_step {l : List Int} {n j : Nat} (hl : l.length = n) (h : j + 1 < n) : pth (l.drop j) = (ld (l.getD j 0) (l.getD (j + 1) 0) && pth (l.drop (j + 1))) := pth_drop (by omega)
theorem pth_last {l : List Int} {n j : Nat} (hl : l.length = n) (h : n ≤ j + 1) : pth (l.drop j) = true := pth_short (by rw [List.length_drop]; omega)
theorem ld_no {a b : Int} (h : ¬ a = b) : ld a b = lds ms a b := by
  unfold ld
  rw [decide_eq_false h]
  rfl
theorem ld_same (a : Int) : ld a a = true := by
  unfold ld
  rw [decide_eq_true rfl]
  rfl

set_option maxHeartbeats 1600000 in
theorem Path_any {w : World} {A : Option Addr} {n c : Nat} {l : List Int} (h : RI .i64 w A n c l) (hT : Tab w) : Calls Tryd.prog 13 #[.slice A n c] w fun x w' => x = .returned (.bool (pth l)) ∧ Below w.heap.size w w' := by
  have HL := Lib.hid h
  have HT := Lib.hid hT
  have HN := Lib.hid h.len
  have hcp := h.cap
  have hmx := h.max
  clear h hT
  go_enter Tryd.func13, Tryd.ntmps13
  go_wp2_with fail
  go_loopw [3] (fun ix wr => ∃ j : Nat, (j = 0 ∨ j < n) ∧ ix = .int .i64 ((j : Int) + 1) ∧ pth (l.drop j) = pth l ∧ Below w.heap.size w wr) (fun ix _ => n + 1 - (intOf ix).toNat)
  case atStart => exact ⟨0, .inl rfl, rfl, rfl, Below.refl _ _⟩
  case round =>
    obtain ⟨j, hj, rfl, hp, hb⟩ := hrel
    have HP := Lib.hid hp
    have HB := Lib.hid hb
    clear hp hb
    by_cases hlt : j + 1 < n
    · have HK := Lib.hid hlt
      have HS := Lib.hid (pth_step HN.out hlt)
      have hlt' : (j : Int) + 1 < (n : Int) := by omega
      have hw1 : IntKind.i64.wrap ((j : Int) + 1 - 1) = (j : Int) := by rw [IntKind.wrap_i64]; omega
      have hw2 : IntKind.i64.wrap (j : Int) = (j : Int) := by rw [IntKind.wrap_i64]; omega
      have hw3 : IntKind.i64.wrap ((j : Int) + 1) = (j : Int) + 1 := by rw [IntKind.wrap_i64]; omega
      have hj1 : (j : Int) < (n : Int) := by omega
      have hj2 : j < c := by omega
      have hj3 : (0 : Int) ≤ (j : Int) + 1 := by omega
      have hj4 : ((j : Int) + 1).toNat = j + 1 := by omega
      obtain ⟨g, o, rfl, k0⟩ := (HL.out.below HB.out).at_ (show j < n by omega)
      have k1 := (HL.out.below HB.out).cell hlt
      have HLE := Lib.hid (fun x y w hT => leads_any x y w hT)
      have HTW := Lib.hid (HT.out.below HB.out)
      generalize l.getD j 0 = x at *
      generalize l.getD (j + 1) 0 = y at *
      clear hj
      go_wp2_with fail
      go_quiet (fail)
      generalize hwn : wr.drewN nq = wn at *
      have HBN : Hid (Below w.heap.size w wn) := Lib.hid (by rw [← hwn]; exact below_dn HB.out nq)
      have HTN : Hid (Tab wn) := Lib.hid (HT.out.below HBN.out)
      clear hwn hw1 hw2 hj4 k0 k1 HTW
      by_cases hxy : x = y
      · subst hxy
        have HR : Hid (pth (l.drop (j + 1)) = pth l) := Lib.hid (by rw [← HP.out, HS.out, ld_same]; rfl)
        have hne : (x != x) = false := by simp
        clear HLE
        go_wp2_with fail
        go_roundw
        case rel => exact ⟨j + 1, .inr HK.out, by go_num, HR.out, HBN.out⟩
        case measure => have := HK.out; simp [intOf]; omega
      · have hne : (x != y) = true := by simpa using hxy
        have HLX := Lib.hid (HLE.out x y wn HTN.out)
        have HLD := Lib.hid (ld_no hxy)
        clear hxy HLE
        go_wp2_with fail
        refine (HLX.out).mono ?_
        rintro e w2 ⟨rfl, b2⟩
        have HB2 := Lib.hid (HBN.out.trans (b2.mono HBN.out.size))
        clear b2 HLX
        cases hb : lds ms x y
        · have HR : Hid (pth l = false) := Lib.hid (by rw [← HP.out, HS.out, HLD.out, hb]; rfl)
          clear hb
          go_wp2_with fail
          go_ret
          exact ⟨by rw [HR.out]; rfl, HB2.out⟩
        · have HR : Hid (pth (l.drop (j + 1)) = pth l) := Lib.hid (by rw [← HP.out, HS.out, HLD.out, hb]; rfl)
          clear hb
          go_wp2_with fail
          go_roundw
          case rel => exact ⟨j + 1, .inr HK.out, by go_num, HR.out, HB2.out⟩
          case measure => have := HK.out; simp [intOf]; omega
    · have HR : Hid (pth l = true) := Lib.hid (by rw [← HP.out]; exact pth_last HN.out (by omega))
      have hlt' : ¬ (j : Int) + 1 < (n : Int) := by omega
      clear hj hlt
      go_wp2_with fail
      go_ret
      exact ⟨by rw [HR.out]; rfl, HB.out⟩

theorem wakes_any (w : World) (hT : Tab w) : Calls Tryd.prog 7 #[] w (Held w) := by
  have HS := Lib.hid (Step_any 2 3 w hT)
  rw [show nx 2 3 = 5 from rfl, show mvd 2 3 = true from rfl] at HS
  clear hT
  go_enter Tryd.func7, Tryd.ntmps7
  go_wp2_with fail
  refine (HS.out).mono ?_
  rintro e w1 ⟨rfl, b1⟩
  have HB := Lib.hid b1
  clear b1 HS
  go_wp2_with fail
  go_ret
  exact ⟨rfl, HB.out⟩

theorem wr_no {s : Int} (h1 : (s == 1) = false) (h4 : (s == 4) = false) : wr_ s = false := by
  simp only [beq_eq_false_iff_ne, ne_eq] at h1 h4
  unfold wr_
  rw [decide_eq_false h1, decide_eq_false h4]
  rfl
theorem rd_no {s : Int} (h1 : (s == 1) = false) (h2 : (s == 2) = false) (h3 : (s == 3) = false) : rd_ s = false := by
  simp only [beq_eq_false_iff_ne, ne_eq] at h1 h2 h3
  unfold rd_
  rw [decide_eq_false h1, decide_eq_false h2, decide_eq_false h3]
  rfl

set_option maxHeartbeats 3200000 in
theorem Steps_any (s e : Int) (W : World) (bs : -9223372036854775808 ≤ s ∧ s ≤ 9223372036854775807) (be : -9223372036854775808 ≤ e ∧ e ≤ 9223372036854775807) (hT : Tab W) : Calls Tryd.prog 3 #[.int .i64 s, .int .i64 e] W (Held W) := by
  have HW := Lib.hid (wakes_any W hT)
  have HT := Lib.hid hT
  have HS := Lib.hid (fun w hT => Step_any s e w hT)
  have HTO := Lib.hid (fun w => To_any s e w)
  have HWR := Lib.hid (fun w => Writes_any s w)
  have HRD := Lib.hid (fun w => Reads_any s w)
  have HM := Lib.hid (mvd_to s e)
  have HNY := Lib.hid (@nx_yes s e)
  have HNN := Lib.hid (@nx_no s e)
  clear hT bs be
  generalize nx s e = x at *
  generalize mvd s e = m at *
  generalize to_ s e = t at *
  have hc : s = 1 ∨ s = 2 ∨ s = 3 ∨ s = 4 ∨ ((s == 1) = false ∧ (s == 2) = false ∧ (s == 3) = false ∧ (s == 4) = false) := by
    simp only [beq_eq_false_iff_ne, ne_eq]
    omega
  go_enter Tryd.func3, Tryd.ntmps3
  go_wp2_with fail
  refine (HW.out).mono ?_
  rintro q w1 ⟨rfl, b1⟩
  have HB1 := Lib.hid b1
  have HS1 := Lib.hid (HS.out w1 (HT.out.below b1))
  clear b1 HS HT HW
  go_wp2_with fail
  refine (HS1.out).mono ?_
  rintro q w2 ⟨rfl, b2⟩
  have HB2 := Lib.hid (HB1.out.trans (b2.mono HB1.out.size))
  have HTO2 := Lib.hid (HTO.out w2)
  have HWR2 := Lib.hid (HWR.out w2)
  have HRD2 := Lib.hid (HRD.out w2)
  clear b2 HS1 HB1 HTO HWR HRD
  go_wp2_with fail
  refine (HTO2.out).mono ?_
  rintro q w3 ⟨rfl, rfl⟩
  clear HTO2
  obtain ⟨p, hp⟩ : ∃ p, p = wr_ s := ⟨_, rfl⟩
  obtain ⟨r, hr⟩ : ∃ r, r = rd_ s := ⟨_, rfl⟩
  rw [← hp] at HWR2
  rw [← hr] at HRD2
  have hne : (x != x) = false := by simp
  have hni : (t != t) = false := by simp
  cases m
  · have ht := of_decide_eq_false HM.out.symm
    have ht' : decide (0 ≤ t) = false := decide_eq_false ht
    obtain rfl := HNN.out rfl
    clear HM HNY HNN ht
    rcases hc with rfl | rfl | rfl | rfl | ⟨e1, e2, e3, e4⟩
    · obtain rfl : p = true := hp
      obtain rfl : r = true := hr
      go_wp2_with fail
      refine (HWR2.out).mono ?_
      rintro q w4 ⟨rfl, rfl⟩
      go_wp2_with fail
      refine (HRD2.out).mono ?_
      rintro q w5 ⟨rfl, rfl⟩
      go_wp2_with fail
      go_ret
      exact ⟨rfl, HB2.out⟩
    · obtain rfl : p = false := hp
      obtain rfl : r = true := hr
      go_wp2_with fail
      refine (HWR2.out).mono ?_
      rintro q w4 ⟨rfl, rfl⟩
      go_wp2_with fail
      refine (HRD2.out).mono ?_
      rintro q w5 ⟨rfl, rfl⟩
      go_wp2_with fail
      go_ret
      exact ⟨rfl, HB2.out⟩
    · obtain rfl : p = false := hp
      obtain rfl : r = true := hr
      go_wp2_with fail
      refine (HWR2.out).mono ?_
      rintro q w4 ⟨rfl, rfl⟩
      go_wp2_with fail
      refine (HRD2.out).mono ?_
      rintro q w5 ⟨rfl, rfl⟩
      go_wp2_with fail
      go_ret
      exact ⟨rfl, HB2.out⟩
    · obtain rfl : p = true := hp
      obtain rfl : r = false := hr
      go_wp2_with fail
      refine (HWR2.out).mono ?_
      rintro q w4 ⟨rfl, rfl⟩
      go_wp2_with fail
      refine (HRD2.out).mono ?_
      rintro q w5 ⟨rfl, rfl⟩
      go_wp2_with fail
      go_ret
      exact ⟨rfl, HB2.out⟩
    · obtain rfl : p = false := hp.trans (wr_no e1 e4)
      obtain rfl : r = false := hr.trans (rd_no e1 e2 e3)
      clear hp hr
      go_wp2_with fail
      refine (HWR2.out).mono ?_
      rintro q w4 ⟨rfl, rfl⟩
      go_wp2_with fail
      refine (HRD2.out).mono ?_
      rintro q w5 ⟨rfl, rfl⟩
      go_wp2_with fail
      go_ret
      exact ⟨rfl, HB2.out⟩
  · have ht := of_decide_eq_true HM.out.symm
    have ht' : decide (0 ≤ t) = true := decide_eq_true ht
    obtain rfl := HNY.out rfl
    clear HM HNY HNN ht
    rcases hc with rfl | rfl | rfl | rfl | ⟨e1, e2, e3, e4⟩
    · obtain rfl : p = true := hp
      obtain rfl : r = true := hr
      go_wp2_with fail
      refine (HWR2.out).mono ?_
      rintro q w4 ⟨rfl, rfl⟩
      go_wp2_with fail
      refine (HRD2.out).mono ?_
      rintro q w5 ⟨rfl, rfl⟩
      go_wp2_with fail
      go_ret
      exact ⟨rfl, HB2.out⟩
    · obtain rfl : p = false := hp
      obtain rfl : r = true := hr
      go_wp2_with fail
      refine (HWR2.out).mono ?_
      rintro q w4 ⟨rfl, rfl⟩
      go_wp2_with fail
      refine (HRD2.out).mono ?_
      rintro q w5 ⟨rfl, rfl⟩
      go_wp2_with fail
      go_ret
      exact ⟨rfl, HB2.out⟩
    · obtain rfl : p = false := hp
      obtain rfl : r = true := hr
      go_wp2_with fail
      refine (HWR2.out).mono ?_
      rintro q w4 ⟨rfl, rfl⟩
      go_wp2_with fail
      refine (HRD2.out).mono ?_
      rintro q w5 ⟨rfl, rfl⟩
      go_wp2_with fail
      go_ret
      exact ⟨rfl, HB2.out⟩
    · obtain rfl : p = true := hp
      obtain rfl : r = false := hr
      go_wp2_with fail
      refine (HWR2.out).mono ?_
      rintro q w4 ⟨rfl, rfl⟩
      go_wp2_with fail
      refine (HRD2.out).mono ?_
      rintro q w5 ⟨rfl, rfl⟩
      go_wp2_with fail
      go_ret
      exact ⟨rfl, HB2.out⟩
    · obtain rfl : p = false := hp.trans (wr_no e1 e4)
      obtain rfl : r = false := hr.trans (rd_no e1 e2 e3)
      clear hp hr
      go_wp2_with fail
      refine (HWR2.out).mono ?_
      rintro q w4 ⟨rfl, rfl⟩
      go_wp2_with fail
      refine (HRD2.out).mono ?_
      rintro q w5 ⟨rfl, rfl⟩
      go_wp2_with fail
      go_ret
      exact ⟨rfl, HB2.out⟩

set_option maxHeartbeats 3200000 in
theorem Paths_any (A : Option Addr) (n c : Nat) (l : List Int) (W : World) (h : RI .i64 W A n c l) (z : ∀ x ∈ l, (Lit.int .i64 x).wf = true) (hT : Tab W) : Calls Tryd.prog 4 #[.slice A n c] W (Held W) := by
  have HW := Lib.hid (wakes_any W hT)
  have HT := Lib.hid hT
  have HL := Lib.hid h
  have HN := Lib.hid h.len
  have hcp := h.cap
  have hmx := h.max
  clear h hT z
  by_cases hlong : 100 < n
  · go_enter Tryd.func4, Tryd.ntmps4
    go_wp2_with fail
    refine (HW.out).mono ?_
    rintro e w1 ⟨rfl, b1⟩
    have B1 := Lib.hid b1
    clear b1
    go_wp2_with fail
    go_ret
    exact ⟨rfl, B1.out⟩
  · go_enter Tryd.func4, Tryd.ntmps4
    go_wp2_with fail
    refine (HW.out).mono ?_
    rintro e w1 ⟨rfl, b1⟩
    have HB1 := Lib.hid b1
    clear b1 HW
    go_wp2_with fail
    go_loopw [3, 4] (fun bx ix wr => ∃ (j : Nat) (b : Bool), (j = 0 ∨ j < n) ∧ bx = .bool b ∧ ix = .int .i64 ((j : Int) + 1) ∧ (b && pth (l.drop j)) = pth l ∧ Below W.heap.size W wr) (fun _ ix _ => n + 1 - (intOf ix).toNat)
    case atStart => exact ⟨0, true, .inl rfl, rfl, rfl, by simp, HB1.out⟩
    case round =>
      obtain ⟨j, b, hj, rfl, rfl, hp, hb⟩ := hrel
      have HP := Lib.hid hp
      have HB := Lib.hid hb
      clear hp hb
      by_cases hlt : j + 1 < n
      · have HK := Lib.hid hlt
        have HS := Lib.hid (pth_step HN.out hlt)
        have hlt' : (j : Int) + 1 < (n : Int) := by omega
        have hw1 : IntKind.i64.wrap ((j : Int) + 1 - 1) = (j : Int) := by rw [IntKind.wrap_i64]; omega
        have hw2 : IntKind.i64.wrap (j : Int) = (j : Int) := by rw [IntKind.wrap_i64]; omega
        have hw3 : IntKind.i64.wrap ((j : Int) + 1) = (j : Int) + 1 := by rw [IntKind.wrap_i64]; omega
        have hj1 : (j : Int) < (n : Int) := by omega
        have hj2 : j < c := by omega
        have hj3 : (0 : Int) ≤ (j : Int) + 1 := by omega
        have hj4 : ((j : Int) + 1).toNat = j + 1 := by omega
        cases b
        · have HR : Hid ((false && pth (l.drop (j + 1))) = pth l) := Lib.hid (by rw [← HP.out]; rfl)
          go_wp2_with fail
          go_quiet (fail)
          go_wp2_with fail
          go_roundw
          case rel => exact ⟨j + 1, false, .inr HK.out, rfl, by go_num, HR.out, below_dn HB.out _⟩
          case measure => have := HK.out; simp [intOf]; omega
        · obtain ⟨g, o, rfl, k0⟩ := (HL.out.below HB.out).at_ (show j < n by omega)
          have k1 := (HL.out.below HB.out).cell hlt
          generalize l.getD j 0 = x at *
          generalize l.getD (j + 1) 0 = y at *
          have HLE := Lib.hid (fun w => Leads_any x y w)
          have HR : Hid ((ld x y && pth (l.drop (j + 1))) = pth l) := Lib.hid (by rw [← HP.out, HS.out]; rfl)
          generalize ld x y = b at *
          clear hj
          go_wp2_with fail
          go_quiet (first | (go_at_call 12; exact Calls.quiet_of_same (HLE.out _)))
          go_wp2_with fail
          go_roundw
          case rel => exact ⟨j + 1, b, .inr HK.out, rfl, by go_num, HR.out, below_dn HB.out _⟩
          case measure => have := HK.out; simp [intOf]; omega
      · have HR : Hid (b = pth l) := Lib.hid (by rw [← HP.out, pth_last HN.out (by omega), Bool.and_true])
        have hlt' : ¬ (j : Int) + 1 < (n : Int) := by omega
        have HPA := Lib.hid (Path_any (HL.out.below HB.out) (HT.out.below HB.out))
        rw [← HR.out] at HPA
        have hbb : (b == b) = true := by simp
        clear hj hlt HP HN
        go_wp2_with fail
        refine (HPA.out).mono ?_
        rintro e w2 ⟨rfl, b2⟩
        have HB2 := Lib.hid (HB.out.trans (b2.mono HB.out.size))
        clear b2
        go_wp2_with fail
        go_ret
        exact ⟨rfl, HB2.out⟩
end Go.Proofs.YtpjjamlblnphdaaDoor
