/- A deadline; which states let what be done; how a flow ends, lingers, and what its Fin, and the other one's, leads to. Conditions: a flow's cells stand, ticks between 0 and 2^60, waits between 0 and 16. -/
import Derived.Test.YtnpkmkjenlhkiaaFlA
namespace Go.Proofs.Ytnpkmkjenlhkiaa
set_option linter.unusedVariables false
set_option linter.unusedSimpArgs false
set_option maxRecDepth 20000
open Go.RowKit Go.Lib

def dl (f d : Int) : Value := .agg #[.int .i64 f, .int .i64 d]

set_option maxHeartbeats 1600000 in
theorem is_any (f d : Int) (w : World) : Calls Try.prog 56 #[dl f d] w fun e w' => e = .returned (.bool (decide (0 < d))) ∧ Below w.heap.size w w' := by
  unfold dl
  by_cases h : 0 < d
  · rw [decide_eq_true h]
    go_enter Try.func56, Try.ntmps56
    go_wp2_with fail
    go_ret
    exact ⟨rfl, below_a w _⟩
  · rw [decide_eq_false h]
    go_enter Try.func56, Try.ntmps56
    go_wp2_with fail
    go_ret
    exact ⟨rfl, below_a w _⟩

/-- Where a deadline is. -/
def due (f d : Int) : Value := if 0 < d then .tuple #[.int .i64 (f + d), .bool true] else .tuple #[.int .i64 0, .bool false]
set_option maxHeartbeats 1600000 in
theorem at_any (f d : Int) (w : World) (hf : 0 ≤ f ∧ f ≤ 1152921504606846976) (hd : 0 ≤ d ∧ d ≤ 16) : Calls Try.prog 32 #[dl f d] w fun e w' => e = .returned (due f d) ∧ Below w.heap.size w w' := by
  unfold due
  have HI := Lib.hid (fun W => is_any f d W)
  unfold dl at *
  by_cases h : 0 < d
  · rw [decide_eq_true h] at HI
    rw [if_pos h]
    have hw1 : IntKind.i64.wrap (9223372036854775807 - d) = 9223372036854775807 - d := by rw [IntKind.wrap_i64]; omega
    have hm : min f (9223372036854775807 - d) = f := by omega
    have hw2 : IntKind.i64.wrap (f + d) = f + d := by rw [IntKind.wrap_i64]; omega
    clear h hf hd
    go_enter Try.func32, Try.ntmps32
    go_wp2_with fail
    refine (HI.out _).mono ?_
    rintro e w1 ⟨rfl, b1⟩
    have c0 : w1.cell? ⟨w.heap.size, 0, none⟩ = some (.int .i64 f) := (b1.cell (by simp)).trans (by rw [cell_of_row _ w.heap.size 0 _ _ (0, 0) (heap_alloc_new w _)]; rfl)
    have c1 : w1.cell? ⟨w.heap.size, 1, none⟩ = some (.int .i64 d) := (b1.cell (by simp)).trans (by rw [cell_of_row _ w.heap.size 1 _ _ (0, 0) (heap_alloc_new w _)]; rfl)
    have HB := Lib.hid (below_trans (below_a w _) b1)
    clear b1 HI
    go_wp2_with fail
    go_ret2
    exact ⟨rfl, HB.out⟩
  · rw [decide_eq_false h] at HI
    rw [if_neg h]
    clear h hf hd
    go_enter Try.func32, Try.ntmps32
    go_wp2_with fail
    refine (HI.out _).mono ?_
    rintro e w1 ⟨rfl, b1⟩
    have HB := Lib.hid (below_trans (below_a w _) b1)
    clear b1 HI
    go_wp2_with fail
    go_ret2
    exact ⟨rfl, HB.out⟩

/-- How many ticks from one to a later one. -/
def tks (a b : Int) : Int := if b ≤ a then 0 else b - a
set_option maxHeartbeats 1600000 in
theorem ticks_any (a b : Int) (w : World) (ha : 0 ≤ a ∧ a ≤ 1152921504606846976) (hb : 0 ≤ b ∧ b ≤ 1152921504606846976) : Calls Try.prog 66 #[.int .i64 a, .int .i64 b] w fun e w' => e = .returned (.int .i64 (tks a b)) ∧ w' = w := by
  unfold tks
  by_cases h : b ≤ a
  · rw [if_pos h]
    go_enter Try.func66, Try.ntmps66
    go_wp2_with fail
    go_ret
    exact ⟨rfl, rfl⟩
  · rw [if_neg h]
    have h' : decide (b ≤ a) = false := decide_eq_false h
    have h1 : IntKind.u64.wrap b = b := by rw [IntKind.wrap_u64]; omega
    have h2 : IntKind.u64.wrap a = a := by rw [IntKind.wrap_u64]; omega
    have h3 : IntKind.u64.wrap (b - a) = b - a := by rw [IntKind.wrap_u64]; omega
    have hm : min (b - a) 9223372036854775807 = b - a := by omega
    have h4 : IntKind.i64.wrap (b - a) = b - a := by rw [IntKind.wrap_i64]; omega
    clear h ha hb
    go_enter Try.func66, Try.ntmps66
    go_wp2_with fail
    go_ret
    exact ⟨rfl, rfl⟩
end Go.Proofs.Ytnpkmkjenlhkiaa
