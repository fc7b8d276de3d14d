/- The document's wheel: its First. Condition: the list has at most 2^40 members. -/
import Derived.Test.YtkmhgcdjmfafhaaWiB
namespace Go.Proofs.Ytkmhgcdjmfafhaa
set_option linter.unusedVariables false
set_option linter.unusedSimpArgs false
open Go.RowKit

def LeD (a b : Int × Int) : Prop := a.2 < b.2 ∨ a.2 = b.2 ∧ a.1 ≤ b.1

theorem led_cases {l : List (Int × Int)} {j bi : Nat} (hbest : ∀ i, i < j → LeD (l.getD bi (0, 0)) (l.getD i (0, 0))) : (l.getD j (0, 0)).2 < (l.getD bi (0, 0)).2 ∧ (∀ i, i < j + 1 → LeD (l.getD j (0, 0)) (l.getD i (0, 0))) ∨ (l.getD j (0, 0)).2 = (l.getD bi (0, 0)).2 ∧ (l.getD j (0, 0)).1 < (l.getD bi (0, 0)).1 ∧ (∀ i, i < j + 1 → LeD (l.getD j (0, 0)) (l.getD i (0, 0))) ∨
    (l.getD j (0, 0)).2 = (l.getD bi (0, 0)).2 ∧ ¬ (l.getD j (0, 0)).1 < (l.getD bi (0, 0)).1 ∧ (∀ i, i < j + 1 → LeD (l.getD bi (0, 0)) (l.getD i (0, 0))) ∨ (l.getD bi (0, 0)).2 < (l.getD j (0, 0)).2 ∧ (∀ i, i < j + 1 → LeD (l.getD bi (0, 0)) (l.getD i (0, 0))) := by
  have hkeep : LeD (l.getD bi (0, 0)) (l.getD j (0, 0)) → ∀ i, i < j + 1 → LeD (l.getD bi (0, 0)) (l.getD i (0, 0)) := fun h i hi => by
    by_cases e : i = j
    · subst e; exact h
    · exact hbest i (by omega)
  have hturn : LeD (l.getD j (0, 0)) (l.getD bi (0, 0)) → ∀ i, i < j + 1 → LeD (l.getD j (0, 0)) (l.getD i (0, 0)) := fun h i hi => by
    by_cases e : i = j
    · subst e; exact .inr ⟨rfl, Int.le_refl _⟩
    · have h2 := hbest i (by omega)
      unfold LeD at *
      omega
  rcases Int.lt_trichotomy (l.getD j (0, 0)).2 (l.getD bi (0, 0)).2 with h | h | h
  · exact .inl ⟨h, hturn (.inl h)⟩
  · by_cases h2 : (l.getD j (0, 0)).1 < (l.getD bi (0, 0)).1
    · exact .inr (.inl ⟨h, h2, hturn (.inr ⟨h, Int.le_of_lt h2⟩)⟩)
    · exact .inr (.inr (.inl ⟨h, h2, hkeep (.inr ⟨h.symm, by omega⟩)⟩))
  · exact .inr (.inr (.inr ⟨h, hkeep (.inl h)⟩))

set_option maxRecDepth 20000 in
set_option maxHeartbeats 8000000 in
theorem rfirst_any {w : World} {xb n : Nat} {v : Value} {l : List (Int × Int)} (R : Rf w xb v n l) (hU : l.length ≤ 1099511627776) :
    Calls Try.prog 21 #[ptr xb] w fun e w' => ∃ k : Int, e = .returned (.int .i64 k) ∧ Sim w w' ∧ (l = [] ∧ k = -1 ∨ ∃ j : Nat, k = j ∧ j < l.length ∧ ∀ i, i < l.length → LeD (l.getD j (0, 0)) (l.getD i (0, 0))) := by
  obtain ⟨A, c, hv, hc1, hc2⟩ := own_slice R.row
  subst hv
  have HR := Lib.hid R
  have c1 := R.c1
  clear R
  generalize hln : l.length = ln at *
  have HL := Lib.hid hln
  clear hln
  unfold ptr at *
  go_enter Try.func21, Try.ntmps21
  go_wp2_with fail
  go_loopw [3, 4] (fun u ix wi => ∃ j : Nat, j ≤ ln ∧ ix = .int .i64 (j : Int) ∧ Sim w wi ∧ (j = 0 ∧ u = .int .i64 (-1) ∨ ∃ bi : Nat, bi < j ∧ u = .int .i64 (bi : Int) ∧ ∀ i, i < j → LeD (l.getD bi (0, 0)) (l.getD i (0, 0)))) (fun _ ix _ => ln - (intOf ix).toNat)
  case atStart => exact ⟨0, Nat.zero_le _, rfl, ⟨rfl, rfl, rfl, rfl⟩, .inl ⟨rfl, rfl⟩⟩
  case round =>
    obtain ⟨j, hj, rfl, S, hu⟩ := hrel
    have R1 : Rf wr xb (.slice A ln c) n l := HR.out.ch (S.ch fun _ => False) (fun h => h) fun _ _ h => h
    have k1 := R1.c1
    have HS := Lib.hid S
    clear S
    by_cases hjl : j < ln
    · have hr := R1.row
      rw [← HL.out] at hr
      have hjo : j < l.length := by rw [HL.out]; exact hjl
      obtain ⟨g, rfl, x0, x1⟩ := own_cells hr hjo
      rcases hu with ⟨rfl, rfl⟩ | ⟨bi, hbj, rfl, hbest⟩
      · clear hr R1
        have hst : ∀ i, i < 0 + 1 → LeD (l.getD 0 (0, 0)) (l.getD i (0, 0)) := fun i hi => by
          obtain rfl : i = 0 := by omega
          exact .inr ⟨rfl, Int.le_refl _⟩
        have HST := Lib.hid hst
        clear hst
        generalize (l.getD 0 (0, 0)).1 = p1 at *
        generalize (l.getD 0 (0, 0)).2 = p2 at *
        go_wp2_with fail
        go_quiet (fail)
        go_wp2_with fail
        go_roundw
        case rel => exact ⟨0 + 1, by omega, by go_num, HS.out, .inr ⟨0, by omega, by go_num, HST.out⟩⟩
        case measure => simp [intOf]; omega
      · have hbl : bi < l.length := by omega
        have hbn : bi < ln := by omega
        obtain ⟨g', hg', y0, y1⟩ := own_cells hr hbl
        injection hg' with hg'
        injection hg' with hg' _ _
        subst hg'
        have hcs : (l.getD j (0, 0)).2 < (l.getD bi (0, 0)).2 ∧ (∀ i, i < j + 1 → LeD (l.getD j (0, 0)) (l.getD i (0, 0))) ∨ (l.getD j (0, 0)).2 = (l.getD bi (0, 0)).2 ∧ (l.getD j (0, 0)).1 < (l.getD bi (0, 0)).1 ∧ (∀ i, i < j + 1 → LeD (l.getD j (0, 0)) (l.getD i (0, 0))) ∨
            (l.getD j (0, 0)).2 = (l.getD bi (0, 0)).2 ∧ ¬ (l.getD j (0, 0)).1 < (l.getD bi (0, 0)).1 ∧ (∀ i, i < j + 1 → LeD (l.getD bi (0, 0)) (l.getD i (0, 0))) ∨ (l.getD bi (0, 0)).2 < (l.getD j (0, 0)).2 ∧ (∀ i, i < j + 1 → LeD (l.getD bi (0, 0)) (l.getD i (0, 0))) := led_cases hbest
        have HCS := Lib.hid hcs
        have hb0 : decide ((bi : Int) < 0) = false := decide_eq_false (by omega)
        clear hr R1 hbest hcs
        generalize (l.getD j (0, 0)).1 = p1 at *
        generalize (l.getD j (0, 0)).2 = p2 at *
        generalize (l.getD bi (0, 0)).1 = q1 at *
        generalize (l.getD bi (0, 0)).2 = q2 at *
        go_wp2_with fail
        rcases HCS.out with ⟨h, ht⟩ | ⟨h, h3, ht⟩ | ⟨h, h3, ht⟩ | ⟨h, ht⟩
        · clear HCS
          have hA : decide (p2 < q2) = true := decide_eq_true h
          have HT := Lib.hid ht
          clear ht
          go_quiet (fail)
          go_wp2_with fail
          go_roundw
          case rel => exact ⟨j + 1, by omega, by go_num, HS.out, .inr ⟨j, by omega, by go_num, HT.out⟩⟩
          case measure => simp [intOf]; omega
        · clear HCS
          subst h
          have hA : decide (p1 < q1) = true := decide_eq_true h3
          have HT := Lib.hid ht
          clear ht
          go_quiet (fail)
          go_wp2_with fail
          go_roundw
          case rel => exact ⟨j + 1, by omega, by go_num, HS.out, .inr ⟨j, by omega, by go_num, HT.out⟩⟩
          case measure => simp [intOf]; omega
        · clear HCS
          subst h
          have hA : decide (p1 < q1) = false := decide_eq_false (by omega)
          have HT := Lib.hid ht
          clear ht
          go_quiet (fail)
          go_wp2_with fail
          go_roundw
          case rel => exact ⟨j + 1, by omega, by go_num, HS.out, .inr ⟨bi, by omega, by go_num, HT.out⟩⟩
          case measure => simp [intOf]; omega
        · clear HCS
          have hA : decide (p2 < q2) = false := decide_eq_false (by omega)
          have hA2 : (p2 == q2) = false := by simp; omega
          have HT := Lib.hid ht
          clear ht
          go_quiet (fail)
          go_wp2_with fail
          go_roundw
          case rel => exact ⟨j + 1, by omega, by go_num, HS.out, .inr ⟨bi, by omega, by go_num, HT.out⟩⟩
          case measure => simp [intOf]; omega
    · obtain rfl : j = ln := by omega
      have hend : ∃ k : Int, u3 = .int .i64 k ∧ (l = [] ∧ k = -1 ∨ ∃ j : Nat, k = j ∧ j < l.length ∧ ∀ i, i < l.length → LeD (l.getD j (0, 0)) (l.getD i (0, 0))) := by
        rcases hu with ⟨rfl, rfl⟩ | ⟨bi, hbj, rfl, hbest⟩
        · exact ⟨_, rfl, .inl ⟨List.eq_nil_of_length_eq_zero HL.out, rfl⟩⟩
        · exact ⟨_, rfl, .inr ⟨bi, rfl, by rw [HL.out]; exact hbj, fun i hi => hbest i (by rw [← HL.out]; exact hi)⟩⟩
      obtain ⟨k, rfl, hk⟩ := hend
      have HK := Lib.hid hk
      clear hk hu R1
      go_wp2_with fail
      go_ret
      exact ⟨k, rfl, HS.out, by have h9 := HK.out; rw [HL.out] at h9; exact h9⟩

end Go.Proofs.Ytkmhgcdjmfafhaa
