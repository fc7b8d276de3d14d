/- Step, leads, Writes, Reads: the program's calls. Condition: the package's variable holds the moves. -/
import Derived.Test.YtiehngeeamhlmaaGreatDoorClAM
namespace Go.Proofs.YtiehngeeamhlmaaGreatDoor.LC
set_option linter.unusedVariables false
set_option linter.unusedSimpArgs false
open Go.RowKit Go.Lib

theorem wpList_here {P : Program} {ops : Array Oper} {rest : List Oper} {op : Oper} {a : Act} {w : World} {Q : Exit → Act → World → Prop} (h : wpList P ops Q (op :: rest) a w) : wpList P ops Q (op :: rest) a w := h
theorem infoMoves : (Tryz.prog.info? 137).map (·.size) = some mvs.length := by kernel_rfl
theorem infoCause : (Tryz.prog.info? 134).map (·.size) = some 2 := by kernel_rfl
theorem sizeOfMove (W : World) : (sizeOf 136).run Tryz.prog W = .ok 3 W := by kernel_rfl
theorem isAggMove (W : World) : (isAgg 136).run Tryz.prog W = .ok true W := by kernel_rfl
/-- A move out of the array. -/
theorem run_index_move (W : World) (k : Nat) (hk : k < 18) : (Instr.index 137 (.agg mvs.toArray) (.int .i64 (k : Int))).run Tryz.prog W = .ok (.agg (ms.getD k mz).vals.toArray) W := by
  have hk' : (k : Int) < ((18 : Nat) : Int) := by omega
  have he := mvs_at k hk
  generalize ms.getD k mz = m at *
  simp [Instr.index, run_underlying Tryz.underlying137, asIntOf, hk', sizeOfMove, part, isAggMove, he, hk]

theorem eqGuardCause : Tryz.prog.eqGuardType Tryz.prog.depth 134 = false := by kernel_rfl
theorem stoodCause : Tryz.prog.stoodInHeld 134 = false := by kernel_rfl
theorem run_eqlC (a b s e : Int) (W : World) : (binOp .eql 134 (.agg #[.int .i64 a, .int .i64 b]) (.agg #[.int .i64 s, .int .i64 e])).run Tryz.prog W = .ok (.bool (decide (a = s ∧ b = e))) W := by
  by_cases h : a = s ∧ b = e
  · obtain ⟨rfl, rfl⟩ := h
    simp [go_sem, stoodCause]
  · rw [decide_eq_false h]
    simp [go_sem, stoodCause]
    intro h0 h1
    exact h ⟨h0, h1⟩
theorem cell2 (w : World) (x y : Value) (t : TypeId) : (w.alloc (.cells #[x, y] t)).cell? ⟨w.heap.size, 0, none⟩ = some x ∧ (w.alloc (.cells #[x, y] t)).cell? ⟨w.heap.size, 1, none⟩ = some y :=
  ⟨by rw [cell_of_row _ _ _ _ _ _ (heap_alloc_new w _)]; rfl, by rw [cell_of_row _ _ _ _ _ _ (heap_alloc_new w _)]; rfl⟩
theorem cell3 (w : World) (x y z : Value) (t : TypeId) : (w.alloc (.cells #[x, y, z] t)).cell? ⟨w.heap.size, 0, none⟩ = some x ∧ (w.alloc (.cells #[x, y, z] t)).cell? ⟨w.heap.size, 1, none⟩ = some y ∧ (w.alloc (.cells #[x, y, z] t)).cell? ⟨w.heap.size, 2, none⟩ = some z :=
  ⟨by rw [cell_of_row _ _ _ _ _ _ (heap_alloc_new w _)]; rfl, by rw [cell_of_row _ _ _ _ _ _ (heap_alloc_new w _)]; rfl, by rw [cell_of_row _ _ _ _ _ _ (heap_alloc_new w _)]; rfl⟩
theorem range2 {w : World} {g : Nat} {x y : Value} (h : w.cell? ⟨g, 0, none⟩ = some x) (k : w.cell? ⟨g, 1, none⟩ = some y) : w.rangeAt g 0 [x, y] := fun j v hv => by
  match j, hv with
  | 0, hv => simp at hv; subst hv; exact h
  | 1, hv => simp at hv; subst hv; exact k
theorem keepc {a b : World} (h : Below a.heap.size a b) {p : Addr} {v : Value} (hc : a.cell? p = some v) : b.cell? p = some v := (World.cell?_of_block (h.block _ (World.block_lt_of_cell? _ _ hc))).trans hc

set_option maxHeartbeats 1600000 in
theorem Step_any (s e : Int) (w : World) (hT : Tab w) : Calls Tryz.prog 51 #[.int .i64 s, .int .i64 e] w fun x w' => x = .returned (.tuple #[.int .i64 (nx s e), .bool (mvd s e)]) ∧ Below w.heap.size w w' := by
  have HB0 := Lib.hid (below_a w (.cells #[.int .i64 s, .int .i64 e] 134))
  have HC0 := Lib.hid (cell2 w (.int .i64 s) (.int .i64 e) 134)
  have HT0 := Lib.hid (hT.below HB0.out)
  have HIX := Lib.hid (fun k (hk : k < 18) W => run_index_move W k hk)
  have HFY := Lib.hid (fun k (hk : k < 18) => @fnd_yes k hk s e)
  have HFN := Lib.hid (fun k (hk : k < 18) => @fnd_no k hk s e)
  clear hT
  go_enter Tryz.func51, Tryz.ntmps51
  go_wp2_with (first
    | ((with_reducible refine wpList_here ?_); refine wpList_load_mid rfl 137 (.global 0) rfl _ 0 rfl mvs (.array 18 136) HT0.out Tryz.underlying137 rfl infoMoves ?_))
  clear HT0
  obtain ⟨w0, hw0⟩ : ∃ w0, w0 = w.alloc (.cells #[.int .i64 s, .int .i64 e] 134) := ⟨_, rfl⟩
  obtain ⟨gb, hgb⟩ : ∃ gb, gb = w.heap.size := ⟨_, rfl⟩
  rw [← hw0] at HB0 HC0 ⊢
  rw [← hgb] at HC0 ⊢
  clear hw0 hgb
  go_loopw [13] (fun ix wr => ∃ k : Nat, k ≤ 18 ∧ ix = .int .i64 (k : Int) ∧ fnd (ms.drop k) s e = fnd ms s e ∧ Below w.heap.size w wr ∧ wr.cell? ⟨gb, 0, none⟩ = some (.int .i64 s) ∧ wr.cell? ⟨gb, 1, none⟩ = some (.int .i64 e)) (fun ix _ => 18 - (intOf ix).toNat)
  case atStart => exact ⟨0, by omega, rfl, rfl, HB0.out, HC0.out⟩
  case round =>
    obtain ⟨k, hk, rfl, hf, hb, c0, c1⟩ := hrel
    have HF := Lib.hid hf
    have HB := Lib.hid hb
    have HC := Lib.hid (And.intro c0 c1)
    clear hf hb c0 c1 HB0 HC0
    by_cases hlt : k < 18
    · have HK := Lib.hid hlt
      have hix := HIX.out k hlt
      have HY := Lib.hid (HFY.out k hlt)
      have HN := Lib.hid (HFN.out k hlt)
      clear HIX HFY HFN
      have hlt' : (k : Int) < 18 := by omega
      generalize ms.getD k mz = m at *
      obtain ⟨a, b, c⟩ := m
      dsimp only at HY HN
      unfold Mv.vals at hix
      have HB1 := Lib.hid (HB.out.trans ((below_a wr (.cells #[.int .i64 a, .int .i64 b, .int .i64 c] 136)).mono HB.out.size))
      have hx0 := keepc (below_a wr (.cells #[.int .i64 a, .int .i64 b, .int .i64 c] 136)) HC.out.1
      have hx1 := keepc (below_a wr (.cells #[.int .i64 a, .int .i64 b, .int .i64 c] 136)) HC.out.2
      have HC2 := Lib.hid (And.intro hx0 hx1)
      clear HB HC
      by_cases h1 : a = s
      · by_cases h2 : b = e
        · have HR := Lib.hid (HY.out ⟨h1, h2⟩)
          rw [HF.out] at HR
          have HNX : Hid (nx s e = c) := Lib.hid (by unfold nx; rw [HR.out]; rfl)
          have HMV : Hid (mvd s e = true) := Lib.hid (by unfold mvd; rw [HR.out]; rfl)
          have heq := run_eqlC a b s e
          rw [decide_eq_true ⟨h1, h2⟩] at heq
          clear h1 h2 HY HN HF
          go_wp2_with fail
          go_ret2
          exact ⟨by rw [HNX.out, HMV.out]; rfl, HB1.out⟩
        · have HR := Lib.hid (HN.out fun h => h2 h.2)
          rw [HF.out] at HR
          have heq := run_eqlC a b s e
          rw [decide_eq_false fun h => h2 h.2] at heq
          clear h1 h2 HY HN HF
          go_wp2_with fail
          go_roundw
          case rel => exact ⟨k + 1, HK.out, by go_num, HR.out.symm, HB1.out, HC2.out⟩
          case measure => have := HK.out; simp [intOf]; omega
      · have HR := Lib.hid (HN.out fun h => h1 h.1)
        rw [HF.out] at HR
        have heq := run_eqlC a b s e
        rw [decide_eq_false fun h => h1 h.1] at heq
        clear h1 HY HN HF
        go_wp2_with fail
        go_roundw
        case rel => exact ⟨k + 1, HK.out, by go_num, HR.out.symm, HB1.out, HC2.out⟩
        case measure => have := HK.out; simp [intOf]; omega
    · obtain rfl : k = 18 := by omega
      have HR : Hid (fnd ms s e = none) := Lib.hid (by rw [← HF.out]; exact fnd_end s e)
      have HNX : Hid (nx s e = s) := Lib.hid (by unfold nx; rw [HR.out]; rfl)
      have HMV : Hid (mvd s e = false) := Lib.hid (by unfold mvd; rw [HR.out]; rfl)
      go_wp2_with fail
      go_ret2
      exact ⟨by rw [HNX.out, HMV.out]; rfl, HB.out⟩

def wr_ (s : Int) : Bool := decide (s = 1) || decide (s = 4)
def rd_ (s : Int) : Bool := decide (s = 1) || decide (s = 2) || decide (s = 3)
theorem Writes_any (s : Int) (w : World) : Calls Tryz.prog 78 #[.int .i64 s] w fun x w' => x = .returned (.bool (wr_ s)) ∧ w' = w := by
  by_cases h1 : s = 1
  · subst h1
    go_enter Tryz.func78, Tryz.ntmps78
    go_wp2_with fail
    go_ret
    exact ⟨rfl, rfl⟩
  · by_cases h4 : s = 4
    · subst h4
      go_enter Tryz.func78, Tryz.ntmps78
      go_wp2_with fail
      go_ret
      exact ⟨rfl, rfl⟩
    · have HR : Hid (wr_ s = false) := Lib.hid (by unfold wr_; rw [decide_eq_false h1, decide_eq_false h4]; rfl)
      have e1 : (s == 1) = false := by simpa using h1
      have e4 : (s == 4) = false := by simpa using h4
      clear h1 h4
      go_enter Tryz.func78, Tryz.ntmps78
      go_wp2_with fail
      go_ret
      exact ⟨by rw [HR.out]; rfl, rfl⟩
end Go.Proofs.YtiehngeeamhlmaaGreatDoor.LC
