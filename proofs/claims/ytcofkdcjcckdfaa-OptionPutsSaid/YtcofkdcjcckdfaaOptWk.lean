/- The walks of the example, and of the laws OptionFinds, OptionCut and OptionKinds. Conditions: what is handed in holds options, or bytes. -/
import Derived.Test.YtcofkdcjcckdfaaOptZ
import Derived.Test.YtcofkdcjcckdfaaOptV
import Derived.Test.YtcofkdcjcckdfaaOptT
import Derived.Test.YtcofkdcjcckdfaaOptFr
namespace Go.Proofs.Ytcofkdcjcckdfaa
set_option linter.unusedVariables false
set_option linter.unusedSimpArgs false
open Go.RowKit

theorem OS.lit {w : World} (o : Opt) (ho : o.ok) (t : TypeId) {g : Nat} (hg : w.heap.size = g) : OS (w.alloc (.cells o.vals.toArray t)) (some ⟨g, 0, none⟩) 1 1 [o] := by
  subst hg
  refine ⟨rfl, Nat.le_refl _, by unfold maxLen; omega, fun x hx => by rw [List.mem_singleton.1 hx]; exact ho, fun _ => ⟨_, 0, rfl, fun j hj => ?_⟩⟩
  obtain rfl : j = 0 := by omega
  exact (Own.new w o.vals t).range
/-- A new slice of one option. -/
theorem wpList_litO {ops : Array Oper} {rest : List Oper} {op : Oper} {a : Act} {w : World} {Q : Exit → Act → World → Prop} (hgd : Region.wanted op (yielded ops a.tmps) = true) (x : Operand) (ho : op.op = .buildSlice 22 1 #[(0, x)]) (o : Opt) (hx : a.eval x = .agg o.vals.toArray) (hok : o.ok) (g : Nat) (hg : w.heap.size = g)
    (h : ∀ w', OS w' (some ⟨g, 0, none⟩) 1 1 [o] → Below w.heap.size w w' → wpList Try.prog ops Q rest (a.put op.dst (.slice (some ⟨g, 0, none⟩) 1 1)) w') : wpList Try.prog ops Q (op :: rest) a w := by
  subst hg
  refine wpList_want hgd fun _ hK => ?_
  have hrun : (Instr.buildSlice 22 1 #[(0, .agg o.vals.toArray)]).run Try.prog w = .ok (.slice (some ⟨w.heap.size, 0, none⟩) 1 1) (w.alloc (.cells o.vals.toArray 31)) := by kernel_rfl
  have hr : (execOp a.eval op).run Try.prog w = .ok (.value (.slice (some ⟨w.heap.size, 0, none⟩) 1 1)) (w.alloc (.cells o.vals.toArray 31)) := by
    simp [execOp, ho, hx, hrun]
  unfold Oper.wp
  rw [hr, Oper.upon_value]
  exact hK _ _ (h _ (OS.lit o hok _ rfl) (below_a w _))

/-- The example. -/
def wO : Opt := ⟨8, 0, 0, 0, 0, 0, 0, true, false, 0, false, 0, 0, false⟩
theorem wO_ok : wO.ok := by
  have h0 : isInt 0 := by unfold isInt; decide
  have h1 : (0 : Nat) < 18446744073709551616 := by decide
  have h2 : (0 : Nat) < 4294967296 := by decide
  exact ⟨by unfold isInt wO; decide, h1, h1, h2, h2, h0, h0, h0, h0, h0⟩
theorem wO_right : rightB wO = true := by decide +kernel
theorem wO_bytes : obs [wO] = [8, 1] := by decide +kernel

set_option maxRecDepth 8000 in
set_option maxHeartbeats 800000 in
theorem wakes_any (w : World) : Calls Try.prog 8 #[] w fun e w' => e = .returned (.bool true) ∧ Below w.heap.size w w' := by
  go_enter Try.func8, Try.ntmps8
  go_wp2_with (first
    | ((with_reducible refine wpList_here ?_); refine wpList_litO (op := ⟨some 5, _, _, _, _, _⟩) rfl (.tmp 4) rfl wO rfl wO_ok _ rfl ?_; intro w1 h1 b1))
  refine (Puts_any _ 1 1 [wO] w1 h1 (by omega)).mono ?_
  rintro e w2 ⟨p1, _, b2⟩
  obtain ⟨A, c, rfl, r2⟩ := p1 (by simp [wO_right])
  rw [wO_bytes] at r2 ⊢
  have b3 := below_trans b1 b2
  clear h1 b1 b2 p1
  go_wp2_with fail
  have hb := below_a w2 (.cells #[.int .u8 8, .int .u8 1] 5)
  refine (Same_yes A _ 2 c 2 2 [8, 1] _ (r2.below hb) (RB.lit w2 [8, 1] 5 (by unfold maxLen; simp))).mono ?_
  rintro e w4 ⟨rfl, b4⟩
  have b5 := below_trans b3 (below_trans hb b4)
  go_wp2_with fail
  go_ret
  exact ⟨rfl, b5⟩
end Go.Proofs.Ytcofkdcjcckdfaa
