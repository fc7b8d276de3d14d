/- The laws SchedBackups and SchedQuick. Conditions: the argument is a slice of paths; whole numbers of 64 bits. -/
import Derived.Test.YtanigkmcmefpaaaScG
namespace Go.Proofs.Ytanigkmcmefpaaa
set_option linter.unusedVariables false
set_option linter.unusedSimpArgs false
open Go.RowKit Go.Lib

/-- One of the first q spares backups. -/
def oth (l : List Pa) : Nat → Bool
  | 0 => false
  | q + 1 => oth l q || spr (l.getD q p0)
theorem oth_no {l : List Pa} : ∀ {q : Nat}, oth l q = false → ∀ j, j < q → spr (l.getD j p0) = false
  | 0, _, j, hj => absurd hj (by omega)
  | q + 1, h, j, hj => by
    have h' : (oth l q || spr (l.getD q p0)) = false := h
    rw [Bool.or_eq_false_iff] at h'
    rcases Nat.lt_succ_iff_lt_or_eq.1 hj with h1 | rfl
    · exact oth_no h'.1 j h1
    · exact h'.2
theorem oth_yes {l : List Pa} : ∀ {q : Nat}, oth l q = true → ∃ j, j < q ∧ spr (l.getD j p0) = true
  | 0, h => by cases h
  | q + 1, h => by
    have h' : (oth l q || spr (l.getD q p0)) = true := h
    rw [Bool.or_eq_true] at h'
    rcases h' with h1 | h1
    · obtain ⟨j, hj, hs⟩ := oth_yes h1
      exact ⟨j, by omega, hs⟩
    · exact ⟨q, by omega, h1⟩
theorem oth_all (l : List Pa) : oth l l.length = spd l := by
  cases h : oth l l.length
  · exact (spd_false (oth_no h)).symm
  · obtain ⟨j, hj, hs⟩ := oth_yes h
    exact (spd_true hj hs).symm

set_option maxHeartbeats 6400000 in
theorem Backups_any (how : Nat) (last : Int) (A : Option Addr) (n c : Nat) (l : List Pa) (W : World) (bh : how < 256) (bl : B64 last) (h : Pas W A n c l) : Calls Try.prog 5 #[.int .u8 (how : Int), .int .i64 last, .slice A n c] W (Held W) := by
  have HW := Lib.hid (wakes_any W)
  have HL := Lib.hid h
  have hcp := h.cap
  have hmx := h.max
  have hwh : IntKind.i64.wrap (how : Int) = (how : Int) := by rw [IntKind.wrap_i64]; omega
  have htm : (how : Int).tmod 3 = ((how % 3 : Nat) : Int) := rfl
  have hem : (how : Int) % 3 = ((how % 3 : Nat) : Int) := by omega
  have hwm : IntKind.i64.wrap ((how % 3 : Nat) : Int) = ((how % 3 : Nat) : Int) := by rw [IntKind.wrap_i64]; omega
  have HH : Hid (B64 ((how % 3 : Nat) : Int)) := Lib.hid ⟨by omega, by omega⟩
  generalize how % 3 = hw at *
  clear h bh bl
  by_cases hlong : 50 < n
  · go_enter Try.func5, Try.ntmps5
    go_wp2_with fail
    refine (HW.out).mono ?_
    rintro e w1 ⟨rfl, b1⟩
    have B1 := Lib.hid b1
    clear b1
    go_wp2_with fail
    go_ret
    exact ⟨rfl, B1.out⟩
  · have H40 : Hid (n ≤ 1099511627776) := Lib.hid (by omega)
    go_enter Try.func5, Try.ntmps5
    go_wp2_with fail
    refine (HW.out).mono ?_
    rintro e w1 ⟨rfl, b1⟩
    have HB1 := Lib.hid b1
    clear b1 HW
    go_wp2_with fail
    go_loopw [7, 19] (fun s7 ix wr => ∃ (q : Nat) (o : Bool), q ≤ n ∧ s7 = .bool o ∧ ix = .int .i64 (q : Int) ∧ o = oth l q ∧ Below W.heap.size W wr) (fun _ ix _ => n - (intOf ix).toNat)
    case atStart => exact ⟨0, false, Nat.zero_le _, rfl, rfl, rfl, HB1.out⟩
    case round =>
      obtain ⟨q, o, hq, rfl, rfl, ho, B⟩ := hrel
      have HB2 := Lib.hid B
      have HO := Lib.hid ho
      clear B ho HB1
      by_cases hqn : q < n
      · have HQ := Lib.hid hqn
        obtain ⟨gl, ol, rfl, hmem⟩ := (HL.out.below HB2.out).mem (by omega)
        obtain ⟨x0, x1, x2, x3⟩ := hmem q hqn
        have HE : Hid (oth l (q + 1) = (o || ((l.getD q p0).rd && !(l.getD q p0).bk))) := Lib.hid (by rw [HO.out]; rfl)
        clear hmem
        generalize l.getD q p0 = p at *
        obtain ⟨a, b, sm, lf⟩ := p
        dsimp only at x0 x1 x2 x3 HE
        have HB3 := Lib.hid (HB2.out.alloc HB2.out.size (.cells #[.bool a, .bool b, .int .i64 sm, .int .i64 lf] 33))
        cases o <;> cases a <;> cases b
        · go_wp2_with fail
          go_roundw
          case rel => exact ⟨q + 1, false, HQ.out, rfl, by go_num, HE.out.symm, HB3.out⟩
          case measure => have := HQ.out; simp [intOf]; omega
        · go_wp2_with fail
          go_roundw
          case rel => exact ⟨q + 1, false, HQ.out, rfl, by go_num, HE.out.symm, HB3.out⟩
          case measure => have := HQ.out; simp [intOf]; omega
        · go_wp2_with fail
          go_roundw
          case rel => exact ⟨q + 1, true, HQ.out, rfl, by go_num, HE.out.symm, HB3.out⟩
          case measure => have := HQ.out; simp [intOf]; omega
        · go_wp2_with fail
          go_roundw
          case rel => exact ⟨q + 1, false, HQ.out, rfl, by go_num, HE.out.symm, HB3.out⟩
          case measure => have := HQ.out; simp [intOf]; omega
        · go_wp2_with fail
          go_roundw
          case rel => exact ⟨q + 1, true, HQ.out, rfl, by go_num, HE.out.symm, HB3.out⟩
          case measure => have := HQ.out; simp [intOf]; omega
        · go_wp2_with fail
          go_roundw
          case rel => exact ⟨q + 1, true, HQ.out, rfl, by go_num, HE.out.symm, HB3.out⟩
          case measure => have := HQ.out; simp [intOf]; omega
        · go_wp2_with fail
          go_roundw
          case rel => exact ⟨q + 1, true, HQ.out, rfl, by go_num, HE.out.symm, HB3.out⟩
          case measure => have := HQ.out; simp [intOf]; omega
        · go_wp2_with fail
          go_roundw
          case rel => exact ⟨q + 1, true, HQ.out, rfl, by go_num, HE.out.symm, HB3.out⟩
          case measure => have := HQ.out; simp [intOf]; omega
      · obtain rfl : q = n := by omega
        have HOS : Hid (o = spd l) := Lib.hid (by rw [HO.out, ← HL.out.len, oth_all])
        have HL2 := Lib.hid (HL.out.below HB2.out)
        have HP := Lib.hid (Pick_any HL2.out H40.out (hw : Int) last HH.out)
        clear HO HL
        go_wp2_with fail
        refine (HP.out).mono ?_
        rintro e w3 ⟨A3, m3, c3, r, rfl, R3, p3, b3⟩
        have HR := Lib.hid R3
        have HB3 := Lib.hid (HB2.out.trans (b3.mono HB2.out.size))
        have HL3 := Lib.hid (HL2.out.below b3)
        have HAB := Lib.hid p3.able
        have HRL := Lib.hid R3.len
        have hc3 := R3.cap
        have hm3 := R3.max
        clear R3 b3 p3 HP HB2 HL2 htm hem hwm hwh
        go_wp2_with fail
        go_loopw [41] (fun ix wr => ∃ i : Nat, i ≤ m3 ∧ ix = .int .i64 (i : Int) ∧ wr = w3) (fun ix _ => m3 - (intOf ix).toNat)
        case atStart => exact ⟨0, Nat.zero_le _, rfl, rfl⟩
        case round =>
          obtain ⟨i, hi, rfl, hw3⟩ := hrel
          subst hw3
          by_cases him : i < m3
          · have HI := Lib.hid him
            obtain ⟨h1, h2, h3⟩ := HAB.out _ (getD_mem (a := r) (i := i) (by rw [HRL.out]; exact him))
            obtain ⟨g3, o3, rfl, y⟩ := (HR.out).at_ him
            generalize r.getD i 0 = v at *
            obtain ⟨x, rfl⟩ := Int.eq_ofNat_of_zero_le h1
            have hx : x < q := by have := HL3.out.len; omega
            rw [Int.toNat_natCast] at h3
            obtain ⟨gl, ol, rfl, hmem⟩ := (HL3.out).mem (by omega)
            obtain ⟨x0, x1, x2, x3⟩ := hmem x hx
            clear hmem h1 h2
            unfold abl may at h3
            rw [← HOS.out] at h3
            generalize l.getD x p0 = p at *
            obtain ⟨a, b, sm, lf⟩ := p
            dsimp only at x0 x1 x2 x3 h3
            have hxI : (x : Int) < (q : Int) := by omega
            have hx0 : ¬ (x : Int) < 0 := by omega
            have hxq : ¬ (q : Int) ≤ (x : Int) := by omega
            have h4 : a = true ∧ lf < 4 ∧ (b && o) = false := by
              simp only [Bool.and_eq_true, decide_eq_true_eq, Bool.not_eq_true'] at h3
              exact ⟨h3.1.1, h3.1.2, h3.2⟩
            obtain ⟨rfl, h5, h6⟩ := h4
            have h7 : ¬ (4 : Int) ≤ lf := by omega
            clear h3 h5
            cases b
            · go_wp2_with fail
              go_roundw
              case rel => exact ⟨i + 1, HI.out, by go_num, trivial⟩
              case measure => have := HI.out; simp [intOf]; omega
            · obtain rfl : o = false := by simpa using h6
              go_wp2_with fail
              go_roundw
              case rel => exact ⟨i + 1, HI.out, by go_num, trivial⟩
              case measure => have := HI.out; simp [intOf]; omega
          · obtain rfl : i = m3 := by omega
            go_wp2_with fail
            go_ret
            exact ⟨rfl, HB3.out⟩

set_option maxHeartbeats 6400000 in
theorem Quick_any (A : Option Addr) (n c : Nat) (l : List Pa) (W : World) (h : Pas W A n c l) : Calls Try.prog 6 #[.slice A n c] W (Held W) := by
  have HW := Lib.hid (wakes_any W)
  have HL := Lib.hid h
  have hcp := h.cap
  have hmx := h.max
  have hn := h.len
  clear h
  by_cases hlong : 50 < n
  · clear hn
    go_enter Try.func6, Try.ntmps6
    go_wp2_with fail
    refine (HW.out).mono ?_
    rintro e w1 ⟨rfl, b1⟩
    have B1 := Lib.hid b1
    clear b1
    go_wp2_with fail
    go_ret
    exact ⟨rfl, B1.out⟩
  · have H40 : Hid (n ≤ 1099511627776) := Lib.hid (by omega)
    have HN := Lib.hid hn
    clear hn
    go_enter Try.func6, Try.ntmps6
    go_wp2_with fail
    refine (HW.out).mono ?_
    rintro e w1 ⟨rfl, b1⟩
    have HB1 := Lib.hid b1
    have HL1 := Lib.hid (HL.out.below b1)
    have HA := Lib.hid (rAble_any HL1.out H40.out)
    clear b1 HW HL
    go_wp2_with fail
    refine (HA.out).mono ?_
    rintro e w2 ⟨B, m, cb, rfl, R2, b2⟩
    have HR2 := Lib.hid R2
    have hcb := R2.cap
    have hmb := R2.max
    have HRL := Lib.hid R2.len
    have HB2 := Lib.hid (HB1.out.trans (b2.mono HB1.out.size))
    have HL2 := Lib.hid (HL1.out.below b2)
    have HAT := Lib.hid (fun i h => @ables_at l n i h)
    have HP := Lib.hid (Pick_any HL2.out H40.out 0 0 ⟨by decide, by decide⟩)
    clear R2 b2 HA HB1 HL1
    go_wp2_with fail
    refine (HP.out).mono ?_
    rintro e w3 ⟨A3, m3, c3, r, rfl, R3, p3, b3⟩
    have HR3 := Lib.hid R3
    have hc3 := R3.cap
    have hm3 := R3.max
    have HR3L := Lib.hid R3.len
    have HB3 := Lib.hid (HB2.out.trans (b3.mono HB2.out.size))
    have HL3 := Lib.hid (HL2.out.below b3)
    have HR23 := Lib.hid (HR2.out.below b3)
    have HP3 := Lib.hid p3
    clear R3 b3 p3 HP HB2 HL2 HR2
    by_cases hm : m = 0
    · subst hm
      have hr : r = [] := HP3.out.1 (.inr (.inr (by rw [HN.out]; exact List.eq_nil_of_length_eq_zero HRL.out)))
      obtain rfl : m3 = 0 := by rw [← HR3L.out, hr]; rfl
      clear hr
      have HIN2 : Hid (∀ w r s A n c A' n' c', RI .i64 w A n c r → RI .i64 w A' n' c' s → r = s → Calls Try.prog 8 #[.slice A n c, .slice A' n' c'] w fun e w' => e = .returned (.bool true) ∧ ∃ q, w' = w.drewN q) := Lib.hid fun _ _ _ _ _ _ _ _ _ h k e => Ints_any h k e
      have HP4 := Lib.hid (Pick_any HL3.out H40.out 2 3 ⟨by decide, by decide⟩)
      go_wp2_with fail
      go_loopw [25] (fun ix wr => ix = .int .i64 0 ∧ wr = w3) (fun ix _ => 0)
      case atStart => exact ⟨rfl, rfl⟩
      case round =>
        obtain ⟨rfl, hwr⟩ := hrel
        subst hwr
        go_wp2_with fail
        refine (HP4.out).mono ?_
        rintro e w5 ⟨A5, m5, c5, r5, rfl, R5, p5, b5⟩
        have HI := Lib.hid (Ints_any R5 (HR23.out.below b5) (by
          rw [p5.1 (.inr (.inr (by rw [HN.out]; exact List.eq_nil_of_length_eq_zero HRL.out)))]
          exact (List.eq_nil_of_length_eq_zero HRL.out).symm))
        have HB5 := Lib.hid (HB3.out.trans (b5.mono HB3.out.size))
        clear R5 p5 b5 HP4 HB3 HL3 HR23
        go_wp2_with fail
        refine (HI.out).mono ?_
        rintro e w7 ⟨rfl, q7, rfl⟩
        go_wp2_with fail
        go_ret
        exact ⟨rfl, below_dn HB5.out _⟩
    · have hne : ables l l.length ≠ [] := fun e => hm (by rw [← HRL.out, ← HN.out, e]; rfl)
      obtain ⟨y, hr, hlst⟩ := (HP3.out.2 hne).1 rfl
      subst hr
      obtain rfl : m3 = 1 := by rw [← HR3L.out]; rfl
      rw [HN.out] at hlst
      have HLS := Lib.hid hlst
      have HNE := Lib.hid hne
      obtain ⟨j, hj, hyj, hmin, -⟩ := hlst
      obtain ⟨yn, ey, ly, -⟩ := HAT.out j hj
      rw [ey] at hyj
      subst hyj
      obtain ⟨g3, o3, rfl, cy⟩ := (HR3.out).at_ (show 0 < 1 by decide)
      rw [Nat.add_zero] at cy
      change w3.cell? ⟨g3, o3, none⟩ = some (.int .i64 (yn : Int)) at cy
      have HMIN := Lib.hid hmin
      have HLY := Lib.hid ly
      have HCY := Lib.hid cy
      have hm0 : 0 < m := by omega
      have hm0I : (0 : Int) < (m : Int) := by omega
      clear hne hj ey ly hmin cy hm
      go_wp2_with fail
      go_loopw [25] (fun ix wr => ∃ i : Nat, i ≤ m ∧ ix = .int .i64 (i : Int) ∧ Below w3.heap.size w3 wr) (fun ix _ => m - (intOf ix).toNat)
      case atStart => exact ⟨0, Nat.zero_le _, rfl, Below.refl _ _⟩
      case round =>
        obtain ⟨i, hi, rfl, B4⟩ := hrel
        have HB4 := Lib.hid B4
        clear B4
        by_cases him : i < m
        · have HI := Lib.hid him
          obtain ⟨x, ex, lx, -⟩ := HAT.out i (by rw [HRL.out]; exact him)
          have HLE : Hid (smo l (yn : Int) ≤ smo l (x : Int)) := Lib.hid (by have := HMIN.out i (by rw [HRL.out]; exact him); rwa [ex] at this)
          obtain ⟨gb, ob, rfl, cx⟩ := (HR23.out.below HB4.out).at_ him
          rw [ex] at cx
          obtain ⟨gl, ol, rfl, hmem⟩ := (HL3.out.below HB4.out).mem (by omega)
          have s1 := (hmem x lx).2.2.1
          have s2 := (hmem yn HLY.out).2.2.1
          have cy := keepc HB4.out HCY.out
          have hly := HLY.out
          have hle : (l.getD yn p0).sm ≤ (l.getD x p0).sm := HLE.out
          generalize (l.getD yn p0).sm = sy at *
          generalize (l.getD x p0).sm = sx at *
          have hd : decide (sx < sy) = false := decide_eq_false (by omega)
          have hd2 : ¬ sx < sy := by omega
          clear hmem hle ex
          go_wp2_with fail
          go_quiet (fail)
          go_wp2_with fail
          go_roundw
          case rel => exact ⟨i + 1, HI.out, by go_num, below_dn HB4.out _⟩
          case measure => have := HI.out; simp [intOf]; omega
        · obtain rfl : i = m := by omega
          have HB5 := Lib.hid (HB3.out.trans (HB4.out.mono HB3.out.size))
          have HL5 := Lib.hid (HL3.out.below HB4.out)
          have HR5 := Lib.hid (HR23.out.below HB4.out)
          have HP4 := Lib.hid (Pick_any HL5.out H40.out 2 3 ⟨by decide, by decide⟩)
          clear HB3 HL3 HR23 HB4
          go_wp2_with fail
          refine (HP4.out).mono ?_
          rintro e w5 ⟨A5, m5, c5, r5, rfl, R5, p5, b5⟩
          have HI := Lib.hid (Ints_any R5 (HR5.out.below b5) (by rw [(p5.2 HNE.out).2.2 rfl, HN.out]))
          have HB6 := Lib.hid (HB5.out.trans (b5.mono HB5.out.size))
          clear R5 p5 b5 HP4 HB5 HL5 HR5
          go_wp2_with fail
          refine (HI.out).mono ?_
          rintro e w7 ⟨rfl, q7, rfl⟩
          go_wp2_with fail
          go_ret
          exact ⟨rfl, below_dn HB6.out _⟩
end Go.Proofs.Ytanigkmcmefpaaa
