/- Are runs tidy? A set's are. Condition: the runs are tidy. -/
import Derived.Test.YteiojdmnfjcagaaSpQ
namespace Go.Proofs.Yteiojdmnfjcagaa
set_option linter.unusedVariables false
set_option linter.unusedSimpArgs false
open Go.RowKit Go.Lib

set_option maxRecDepth 8000 in
set_option maxHeartbeats 8000000 in
theorem tidy_any {w : World} {v : Value} {l : List Rn} (h : Row w v l) (ht : Tid 0 l) :
    Calls Try.prog 19 #[v] w fun e w' => e = .returned (.bool true) ∧ Below w.heap.size w w' := by
  have hU := tid_len ht
  obtain ⟨A, c, rfl, hc1, hc2⟩ := h.slice
  have HR := Lib.hid h
  have HT := Lib.hid ht
  clear h ht
  generalize hln : l.length = ln at *
  have HL := Lib.hid hln
  clear hln
  go_enter Try.func19, Try.ntmps19
  go_wp2_with fail
  go_loopw [7] (fun ix wr => ∃ q : Nat, q ≤ ln ∧ ix = .int .i64 (q : Int) ∧ Below w.heap.size w wr) (fun ix _ => ln - (intOf ix).toNat)
  case atStart => exact ⟨0, Nat.zero_le _, rfl, Below.refl _ _⟩
  case round =>
    obtain ⟨q, hq, rfl, hb⟩ := hrel
    have HB := Lib.hid hb
    by_cases hqn : q < ln
    · have hrow := HR.out.below hb
      obtain ⟨g, o, rfl, x0, x1, _⟩ := hrow.cells (j := q) (by rw [HL.out]; exact hqn)
      have hr := tid_ge HT.out _ (getD_mem (show q < l.length by rw [HL.out]; exact hqn))
      have hprev : 0 < q → (l.getD (q - 1) (0, 0)).1 + (l.getD (q - 1) (0, 0)).2 < (l.getD q (0, 0)).1 := fun h0 => (tid_rise HT.out (q - 1) q (by omega) (by rw [HL.out]; exact hqn)).1
      by_cases h0 : q = 0
      · subst h0
        have hp1 : decide ((0 : Int) < ((0 : Nat) : Int)) = false := rfl
        rw [show o + 0 * 2 = o from by omega] at x0 x1
        generalize l.getD 0 (0, 0) = r at *
        obtain ⟨ra, rb⟩ := r
        dsimp only at *
        have d1 : decide (rb < 1) = false := decide_eq_false (by omega)
        have d2 : decide (ra < 0) = false := decide_eq_false (by omega)
        have hw : IntKind.i64.wrap (ra + rb) = ra + rb := by rw [IntKind.wrap_i64]; omega
        have d3 : decide (4294967296 < ra + rb) = false := decide_eq_false (by omega)
        obtain ⟨e0, e1⟩ := cell2 wr (.int .i64 ra) (.int .i64 rb) 43
        have HBA := Lib.hid (below_a wr (.cells #[.int .i64 ra, .int .i64 rb] 43))
        clear hprev hrow hb
        go_upto_region 4 with (fail)
        generalize wr.alloc (.cells #[.int .i64 ra, .int .i64 rb] 43) = w4 at *
        clear x0 x1
        go_quiet (fail)
        go_wp2_with fail
        go_roundw
        case rel => exact ⟨1, by omega, by go_num, below_dn (HB.out.trans (HBA.out.mono HB.out.size)) _⟩
        case measure => simp [intOf]; omega
      · obtain ⟨p, hp⟩ : ∃ p, q = p + 1 := ⟨q - 1, by omega⟩
        obtain ⟨g2, o2, e2, y0, y1, _⟩ := hrow.cells (j := p) (by rw [HL.out]; omega)
        injection e2 with e2
        injection e2 with e2 e3 _
        subst e2; subst e3
        have hpr := hprev (by omega)
        rw [show q - 1 = p from by omega] at hpr
        have hy := tid_ge HT.out _ (getD_mem (show p < l.length by rw [HL.out]; omega))
        have hp1 : decide ((0 : Int) < (q : Int)) = true := by simp; omega
        have hp2 : 0 < q := by omega
        have hw0 : IntKind.i64.wrap ((q : Int) - 1) = (p : Int) := by rw [IntKind.wrap_i64]; omega
        have hw1 : (q : Int) - 1 = (p : Int) := by omega
        have hpn : (p : Int) < (ln : Int) := by omega
        have hpn2 : p < ln := by omega
        generalize l.getD q (0, 0) = r at *
        generalize l.getD p (0, 0) = y at *
        obtain ⟨ra, rb⟩ := r
        obtain ⟨ya, yb⟩ := y
        dsimp only at *
        have d1 : decide (rb < 1) = false := decide_eq_false (by omega)
        have d2 : decide (ra < 0) = false := decide_eq_false (by omega)
        have hw : IntKind.i64.wrap (ra + rb) = ra + rb := by rw [IntKind.wrap_i64]; omega
        have hwy : IntKind.i64.wrap (ya + yb) = ya + yb := by rw [IntKind.wrap_i64]; omega
        have d3 : decide (4294967296 < ra + rb) = false := decide_eq_false (by omega)
        have d4 : decide (ra ≤ ya + yb) = false := decide_eq_false (by omega)
        obtain ⟨e0, e1⟩ := cell2 wr (.int .i64 ra) (.int .i64 rb) 43
        have HBA := Lib.hid (below_a wr (.cells #[.int .i64 ra, .int .i64 rb] 43))
        have z0 := keepc HBA.out y0
        have z1 := keepc HBA.out y1
        clear hprev hrow hb y0 y1 hp
        go_upto_region 4 with (fail)
        generalize wr.alloc (.cells #[.int .i64 ra, .int .i64 rb] 43) = w4 at *
        clear x0 x1
        go_quiet (fail)
        go_wp2_with fail
        go_roundw
        case rel => exact ⟨q + 1, by omega, by go_num, below_dn (HB.out.trans (HBA.out.mono HB.out.size)) _⟩
        case measure => simp [intOf]; omega
    · obtain rfl : q = ln := by omega
      go_wp2_with fail
      go_ret
      exact ⟨rfl, HB.out⟩
end Go.Proofs.Yteiojdmnfjcagaa
