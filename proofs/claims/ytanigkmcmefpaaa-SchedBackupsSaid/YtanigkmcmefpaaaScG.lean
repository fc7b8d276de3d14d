/- The example; the law SchedPicks. Conditions: the argument is a slice of paths; whole numbers of 64 bits. -/
import Derived.Test.YtanigkmcmefpaaaScF
namespace Go.Proofs.Ytanigkmcmefpaaa
set_option linter.unusedVariables false
set_option linter.unusedSimpArgs false
open Go.RowKit Go.Lib

set_option maxHeartbeats 1600000 in
theorem Ints_any {w : World} {A B : Option Addr} {n c m d : Nat} {r s : List Int} (h : RI .i64 w A n c r) (k : RI .i64 w B m d s) (he : r = s) :
    Calls Try.prog 8 #[.slice A n c, .slice B m d] w fun e w' => e = .returned (.bool true) ∧ ∃ q, w' = w.drewN q := by
  subst he
  obtain rfl : n = m := by rw [← h.len, ← k.len]
  have H := Lib.hid h
  have K := Lib.hid k
  have hc1 := h.cap
  have hm1 := h.max
  have hc2 := k.cap
  have hm2 := k.max
  clear h k
  go_enter Try.func8, Try.ntmps8
  go_wp2_with fail
  go_loopw [5] (fun ix wr => ∃ i q : Nat, i ≤ n ∧ ix = .int .i64 (i : Int) ∧ wr = w.drewN q) (fun ix _ => n - (intOf ix).toNat)
  case atStart => exact ⟨0, 0, Nat.zero_le _, rfl, rfl⟩
  case round =>
    obtain ⟨i, q, hi, rfl, rfl⟩ := hrel
    by_cases hin : i < n
    · have HQ := Lib.hid hin
      obtain ⟨g, o, rfl, x⟩ := (H.out).at_ hin
      obtain ⟨g', o', rfl, x'⟩ := (K.out).at_ hin
      generalize r.getD i 0 = v at *
      have hne : (v != v) = false := by simp
      have hne2 : decide (v = v) = true := by simp
      go_wp2_with fail
      go_quiet (fail)
      go_wp2_with fail
      go_roundw
      case rel => exact ⟨i + 1, _, HQ.out, by go_num, rfl⟩
      case measure => have := HQ.out; simp [intOf]; omega
    · obtain rfl : i = n := by omega
      go_wp2_with fail
      go_ret
      exact ⟨rfl, _, rfl⟩

def pt : Pa := ⟨true, false, 0, 0⟩
theorem two_pas (w : World) (t : TypeId) (g : Nat) (hg : w.heap.size = g) : Pas (w.alloc (.cells #[.bool true, .bool false, .int .i64 0, .int .i64 0, .bool true, .bool false, .int .i64 0, .int .i64 0] t)) (some ⟨g, 0, none⟩) 2 2 [pt, pt] := by
  subst hg
  refine ⟨rfl, Nat.le_refl _, by decide, ?_, fun _ => ⟨_, 0, rfl, fun j hj => ?_⟩⟩
  · intro x hx
    have : x = pt := by simpa using hx
    subst this
    exact ⟨⟨by decide, by decide⟩, ⟨by decide, by decide⟩⟩
  · have hc : ∀ i v, (#[.bool true, .bool false, .int .i64 0, .int .i64 0, .bool true, .bool false, .int .i64 0, .int .i64 0] : Array Value)[i]? = some v → (w.alloc (.cells #[.bool true, .bool false, .int .i64 0, .int .i64 0, .bool true, .bool false, .int .i64 0, .int .i64 0] t)).cell? ⟨w.heap.size, i, none⟩ = some v := fun i v hv => by
      rw [cell_of_row _ _ _ _ _ _ (heap_alloc_new w _)]
      exact hv
    have hj2 : j = 0 ∨ j = 1 := by omega
    rcases hj2 with rfl | rfl
    · exact ⟨hc 0 _ rfl, hc 1 _ rfl, hc 2 _ rfl, hc 3 _ rfl⟩
    · exact ⟨hc 4 _ rfl, hc 5 _ rfl, hc 6 _ rfl, hc 7 _ rfl⟩
theorem two_pick {r : List Int} (h : PickR 1 0 [pt, pt] r) : r = [1] := by
  have ha : ables [pt, pt] [pt, pt].length = [0, 1] := by decide
  refine h.one ?_
  have := @pick_turn 0 [pt, pt] (by rw [ha]; simp) 1 (by
    rw [ha]
    refine ⟨by decide, .inl ⟨by decide, fun j hj => ?_⟩⟩
    obtain rfl : j = 0 := by omega
    decide)
  rwa [ha] at this

set_option maxHeartbeats 1600000 in
theorem wakes_any (w : World) : Calls Try.prog 7 #[] w (Held w) := by
  have HP := Lib.hid (fun (w : World) (g : Nat) (t : TypeId) hg => Pick_any (two_pas w t g hg) (by decide) 1 0 ⟨by decide, by decide⟩)
  obtain ⟨g, hg⟩ : ∃ g, w.heap.size = g := ⟨_, rfl⟩
  have HB := Lib.hid (below_a w (.cells #[.bool true, .bool false, .int .i64 0, .int .i64 0, .bool true, .bool false, .int .i64 0, .int .i64 0] 33))
  have HG := Lib.hid hg
  go_enter Try.func7, Try.ntmps7
  go_wp2_with fail
  refine (HP.out _ _ _ HG.out).mono ?_
  rintro e w1 ⟨A, m, c, r, rfl, R, hr, b1⟩
  obtain rfl := two_pick hr
  have HR := Lib.hid R
  have HB1 := Lib.hid (HB.out.trans (b1.mono HB.out.size))
  clear R hr b1 HB HP
  obtain ⟨g1, hg1⟩ : ∃ g1, w1.heap.size = g1 := ⟨_, rfl⟩
  have HIN := Lib.hid (Ints_any (HR.out.below (below_a w1 (.cells #[.int .i64 1] 3))) (RI.litg w1 1 3 g1 hg1) rfl)
  have HB2 := Lib.hid (HB1.out.trans ((below_a w1 (.cells #[.int .i64 1] 3)).mono HB1.out.size))
  go_wp2_with fail
  refine (HIN.out).mono ?_
  rintro e w2 ⟨rfl, q, rfl⟩
  go_wp2_with fail
  go_ret
  exact ⟨rfl, below_dn HB2.out _⟩

set_option maxHeartbeats 3200000 in
theorem Picks_any (how last : Int) (A : Option Addr) (n c : Nat) (l : List Pa) (W : World) (bh : B64 how) (bl : B64 last) (h : Pas W A n c l) : Calls Try.prog 3 #[.int .i64 how, .int .i64 last, .slice A n c] W (Held W) := by
  have HW := Lib.hid (wakes_any W)
  have HL := Lib.hid h
  have HBH := Lib.hid (And.intro bh bl)
  have hcp := h.cap
  have hmx := h.max
  clear h bh bl
  by_cases hlong : 50 < n
  · go_enter Try.func3, Try.ntmps3
    go_wp2_with fail
    refine (HW.out).mono ?_
    rintro e w1 ⟨rfl, b1⟩
    have B1 := Lib.hid b1
    clear b1
    go_wp2_with fail
    go_ret
    exact ⟨rfl, B1.out⟩
  · have H40 : Hid (n ≤ 1099511627776) := Lib.hid (by omega)
    go_enter Try.func3, Try.ntmps3
    go_wp2_with fail
    refine (HW.out).mono ?_
    rintro e w1 ⟨rfl, b1⟩
    have HB1 := Lib.hid b1
    have HL1 := Lib.hid (HL.out.below b1)
    have HA := Lib.hid (Able_any HL1.out H40.out)
    clear b1 HW HL
    go_wp2_with fail
    refine (HA.out).mono ?_
    rintro e w2 ⟨B2, m2, c2, rfl, R2, b2⟩
    have HR2 := Lib.hid R2
    have HB2 := Lib.hid (HB1.out.trans (b2.mono HB1.out.size))
    have HL2 := Lib.hid (HL1.out.below b2)
    have HA2 := Lib.hid (rAble_any HL2.out H40.out)
    clear R2 b2 HA HB1 HL1
    go_wp2_with fail
    refine (HA2.out).mono ?_
    rintro e w3 ⟨B3, m3, c3, rfl, R3, b3⟩
    have HIN := Lib.hid (Ints_any (HR2.out.below b3) R3 rfl)
    have HB3 := Lib.hid (HB2.out.trans (b3.mono HB2.out.size))
    have HL3 := Lib.hid (HL2.out.below b3)
    clear R3 b3 HA2 HB2 HL2 HR2
    go_wp2_with fail
    refine (HIN.out).mono ?_
    rintro e w4 ⟨rfl, q, rfl⟩
    have HB4 := Lib.hid (below_dn HB3.out q)
    have HL4 := Lib.hid (HL3.out.below (below_dn (Below.refl _ w3) q))
    have HP := Lib.hid (Pick_any HL4.out H40.out how last HBH.out.1)
    clear HIN HB3 HL3
    generalize w3.drewN q = w4 at *
    go_wp2_with fail
    refine (HP.out).mono ?_
    rintro e w5 ⟨B5, m5, c5, r5, rfl, R5, p5, b5⟩
    have HR5 := Lib.hid R5
    have HP5 := Lib.hid p5
    have HB5 := Lib.hid (HB4.out.trans (b5.mono HB4.out.size))
    have HL5 := Lib.hid (HL4.out.below b5)
    have HP2 := Lib.hid (rPick_any HL5.out H40.out how last HBH.out.1 HBH.out.2)
    clear R5 p5 b5 HP HB4 HL4
    go_wp2_with fail
    refine (HP2.out).mono ?_
    rintro e w6 ⟨B6, m6, c6, r6, rfl, R6, p6, b6⟩
    have HI2 := Lib.hid (Ints_any (HR5.out.below b6) R6 (HP5.out.one p6))
    have HB6 := Lib.hid (HB5.out.trans (b6.mono HB5.out.size))
    clear R6 p6 b6 HP2 HB5 HL5 HR5
    go_wp2_with fail
    refine (HI2.out).mono ?_
    rintro e w7 ⟨rfl, q7, rfl⟩
    go_wp2_with fail
    go_ret
    exact ⟨rfl, below_dn HB6.out _⟩
end Go.Proofs.Ytanigkmcmefpaaa
