/- The contracts of the document's Apart and Live on rising entries that are all live. Conditions: the entries stand in a row. -/
import Derived.Test.YtlcegchdkigibaaGreatDoorHoKM
import Derived.BigQuiet
namespace Go.Proofs.YtlcegchdkigibaaGreatDoor
set_option linter.unusedVariables false
set_option linter.unusedSimpArgs false
set_option maxRecDepth 20000
open Go.RowKit Go.Lib

section
variable {b0 : Nat} {w : World} {v : Value} {out : List LT.En}
theorem rcv_cell {w : World} {g c : Nat} (o : w.ownsRow b0 83 4 (.slice (some ⟨g, 0, none⟩) out.length c) out.length (rcv out)) {j i : Nat} (hj : j < out.length) (hi : i < 4) : w.cell? ⟨g, j * 4 + i, none⟩ = (rcs (out.getD j default))[i]? := by
  rw [World.ownsRow.cellAt o (j * 4 + i) (show j * 4 + i < out.length * 4 by omega), rcv_at out j i hj hi]
set_option maxHeartbeats 3200000 in
theorem apart_any (o : w.ownsRow b0 83 4 v out.length (rcv out)) (hn : out.length ≤ 4) (up : out.Pairwise (fun a b => a.tok < b.tok)) : Calls Tryz.prog 10 #[v] w fun e w' => e = .returned (.bool true) ∧ Below w.heap.size w w' := by
  obtain ⟨A, c, rfl, hc1, hc2⟩ := LF.own_slice o
  have HO : Hid (∀ W, Below w.heap.size w W → W.ownsRow b0 83 4 (.slice A out.length c) out.length (rcv out)) := Lib.hid (fun W b => own_ch2 o (Ch.of_below (fun _ => False) b) (fun _ _ e => e))
  have HU := Lib.hid up
  have HN := Lib.hid hn
  clear o up hn
  obtain ⟨n, hnn⟩ : ∃ n, n = out.length := ⟨_, rfl⟩
  have HE := Lib.hid hnn
  rw [← hnn] at hc1
  simp only [← hnn]
  clear hnn
  go_enter Tryz.func10, Tryz.ntmps10
  go_wp2_with fail
  go_loopw [3] (fun i wr => ∃ j : Nat, i = .int .i64 ((j : Int) + 1) ∧ (j = 0 ∨ j < n) ∧ Below w.heap.size w wr) (fun i _ => n - (intOf i).toNat)
  case atStart => exact ⟨0, rfl, .inl rfl, Below.refl _ _⟩
  case round =>
    obtain ⟨j, rfl, hj, b⟩ := hrel
    by_cases hjn : j + 1 < n
    · have hA : ∃ g, A = some ⟨g, 0, none⟩ := by
        have o := HO.out wr b
        rcases o.2 with ⟨e, e2⟩ | ⟨g', cap, cur, e, _⟩
        · have := HE.out; omega
        · injection e with e; exact ⟨g', e⟩
      obtain ⟨g, rfl⟩ := hA
      have o := HO.out wr b
      have hE := HE.out
      have x0 : wr.cell? ⟨g, j * 4 + 0, none⟩ = some (.int .u32 ((out.getD j default).tok : Int)) := rcv_cell (i := 0) (c := c) o (by omega) (by omega)
      have x1 : wr.cell? ⟨g, (j + 1) * 4 + 0, none⟩ = some (.int .u32 ((out.getD (j + 1) default).tok : Int)) := rcv_cell (i := 0) (c := c) o (by omega) (by omega)
      rw [Nat.add_zero] at x0 x1
      have hlt : (out.getD j default).tok < (out.getD (j + 1) default).tok := by
        have := List.pairwise_iff_getElem.1 HU.out j (j + 1) (by omega) (by omega) (by omega)
        rw [List.getD_eq_getElem?_getD, List.getD_eq_getElem?_getD, List.getElem?_eq_getElem (by omega), List.getElem?_eq_getElem (by omega)]
        exact this
      generalize (out.getD j default).tok = ta at *
      generalize (out.getD (j + 1) default).tok = tb at *
      have hge : decide ((tb : Int) ≤ (ta : Int)) = false := decide_eq_false (by omega)
      have hge3 : decide (tb ≤ ta) = false := decide_eq_false (by omega)
      have hw1 : IntKind.i64.wrap ((j : Int) + 1 - 1) = (j : Int) := by have := HN.out; rw [IntKind.wrap_i64]; omega
      have hw2 : IntKind.i64.wrap ((j : Int) + 1 + 1) = (j : Int) + 1 + 1 := by have := HN.out; rw [IntKind.wrap_i64]; omega
      have ht : ((j : Int) + 1).toNat = j + 1 := by omega
      have l1 : (j : Int) + 1 < (n : Int) := by omega
      have l2 : (j : Int) < (n : Int) := by omega
      have l3 : (0 : Int) ≤ (j : Int) := by omega
      have l4 : (0 : Int) ≤ (j : Int) + 1 := by omega
      have l5 : ¬ (j : Int) < 0 := by omega
      have l6 : ¬ (j : Int) + 1 < 0 := by omega
      have HB := Lib.hid b
      clear o b hE hlt hj
      go_wp2_with fail
      go_quiet (fail)
      have HB2 := Lib.hid (below_dn HB.out nq)
      have hw3 : IntKind.i64.wrap ((j : Int) + 1 + 1) = (j : Int) + 1 + 1 := hw2
      clear x0 x1 hge hw1 ht l1 l2 l3 l4 l5 l6 HB
      go_wp2_with fail
      go_roundw
      case rel => exact ⟨j + 1, by rw [Int.natCast_add]; rfl, .inr (by omega), HB2.out⟩
      case measure => simp [intOf]; omega
    · have hjn2 : ¬ (j : Int) + 1 < (n : Int) := by omega
      have HB := Lib.hid b
      clear b hj
      go_wp2_with fail
      go_ret
      exact ⟨rfl, HB.out⟩
set_option maxHeartbeats 3200000 in
theorem live_any (o : w.ownsRow b0 83 4 v out.length (rcv out)) (hn : out.length ≤ 4) (ha : ∀ x ∈ out, x.live = true) : Calls Tryz.prog 11 #[v] w fun e w' => e = .returned (.int .i64 (out.length : Int)) ∧ w' = w := by
  obtain ⟨A, c, rfl, hc1, hc2⟩ := LF.own_slice o
  have HO := Lib.hid o
  have HA := Lib.hid ha
  have HN := Lib.hid hn
  clear o ha hn
  obtain ⟨n, hnn⟩ : ∃ n, n = out.length := ⟨_, rfl⟩
  have HE := Lib.hid hnn
  rw [← hnn] at hc1
  simp only [← hnn]
  clear hnn
  go_enter Tryz.func11, Tryz.ntmps11
  go_wp2_with fail
  go_loopw [4, 3] (fun i k wr => ∃ j : Nat, i = .int .i64 (j : Int) ∧ k = .int .i64 (j : Int) ∧ j ≤ n ∧ wr = w) (fun i _ _ => n - (intOf i).toNat)
  case atStart => exact ⟨0, rfl, rfl, Nat.zero_le _, rfl⟩
  case round =>
    obtain ⟨j, rfl, rfl, hj, rfl⟩ := hrel
    by_cases hjn : j < n
    · have hA : ∃ g, A = some ⟨g, 0, none⟩ := by
        rcases HO.out.2 with ⟨e, e2⟩ | ⟨g', cap, cur, e, _⟩
        · have := HE.out; omega
        · injection e with e; exact ⟨g', e⟩
      obtain ⟨g, rfl⟩ := hA
      have hE := HE.out
      have x1 : wr.cell? ⟨g, j * 4 + 1, none⟩ = some (.bool true) := by
        rw [rcv_cell (i := 1) (c := c) HO.out (by omega) (by omega)]
        have := HA.out (out.getD j default) (by rw [List.getD_eq_getElem?_getD, List.getElem?_eq_getElem (by omega)]; exact List.getElem_mem _)
        show some (Value.bool (out.getD j default).live) = _
        rw [this]
      have hji : (j : Int) < (n : Int) := by omega
      have hj0 : (0 : Int) ≤ (j : Int) := by omega
      have hwj : IntKind.i64.wrap ((j : Int) + 1) = (j : Int) + 1 := by have := HN.out; rw [IntKind.wrap_i64]; omega
      clear hE
      go_wp2_with fail
      go_roundw
      case rel => exact ⟨j + 1, by go_num, by go_num, by omega, trivial⟩
      case measure => simp [intOf]; omega
    · obtain rfl : j = n := by omega
      go_wp2_with fail
      go_ret
      exact ⟨rfl, rfl⟩
end
end Go.Proofs.YtlcegchdkigibaaGreatDoor
