/- The comparison of two heads. Condition: each has ten numbers. -/
import Derived.Test.YtbbpemndkphgeaaDoorSegA
namespace Go.Proofs.YtbbpemndkphgeaaDoor
set_option linter.unusedVariables false
set_option linter.unusedSimpArgs false
open Go.RowKit

theorem stoodHead : Tryd.prog.stoodInHeld 46 = false := by kernel_rfl
theorem eqGuardHead : Tryd.prog.eqGuardType Tryd.prog.depth 46 = false := by kernel_rfl
theorem cellU64 (cs : Array Value) (i : Nat) (v : Value) (W : World) (h : cs[i]? = some v) : (part 44 cs i).run Tryd.prog W = .ok v W := by
  simp [part, aggU64, h]
theorem eqU64 (x y : Nat) (W : World) : (Op.equalIn 9999 44 (.int .u64 (x : Int)) (.int .u64 (y : Int))).run Tryd.prog W = .ok (x == y) W := by
  rw [run_equalIn_int W 9998 44 .u64 .u64 _ _ Tryd.underlying44]
  congr 1
  rw [Bool.eq_iff_iff, beq_iff_eq, beq_iff_eq]
  omega

theorem forIn_hv (x y : List Nat) (W : World) : ∀ l : List Nat, (∀ i ∈ l, i < x.length ∧ i < y.length) →
    (forIn l ((none, ()) : Option Bool × Unit) fun i _ => do
      let u ← part 44 (hv x).toArray (i * 1)
      let v ← part 44 (hv y).toArray (i * 1)
      let r ← Op.equalIn 9999 44 u v
      if (!r) = true then pure (ForInStep.done (some false, ())) else pure (ForInStep.yield (none, ()))).run Tryd.prog W = .ok (if l.all (fun i => x.getD i 0 == y.getD i 0) then (none, ()) else (some false, ())) W
  | [], _ => by simp
  | i :: l, h => by
    have ih := forIn_hv x y W l fun j hj => h j (List.mem_cons_of_mem _ hj)
    have h1 := (h i (List.mem_cons_self ..)).1
    have h2 := (h i (List.mem_cons_self ..)).2
    have px := cellU64 (hv x).toArray (i * 1) _ W (by rw [Nat.mul_one, List.getElem?_toArray]; exact hv_at h1)
    have py := cellU64 (hv y).toArray (i * 1) _ W (by rw [Nat.mul_one, List.getElem?_toArray]; exact hv_at h2)
    simp only [List.forIn_cons, Sem.run_bind, px, py, eqU64, Result.andThen_ok, List.all_cons]
    by_cases hb : (x.getD i 0 == y.getD i 0) = true
    · simp only [hb, Bool.not_true, Bool.false_eq_true, if_false, Sem.run_pure, Result.andThen_ok, Bool.true_and]
      exact ih
    · have hf : (x.getD i 0 == y.getD i 0) = false := by simpa using hb
      simp only [hf, Bool.not_false, if_true, Sem.run_pure, Result.andThen_ok, Bool.false_and, Bool.false_eq_true, if_false]

set_option maxRecDepth 8000 in
set_option maxHeartbeats 3200000 in
theorem run_eqlH (x y : List Nat) (hx : x.length = 10) (hy : y.length = 10) (W : World) :
    (binOp .eql 46 (.agg (hv x).toArray) (.agg (hv y).toArray)).run Tryd.prog W = .ok (.bool (x == y)) W := by
  have hall : ((List.range' 0 10).all fun i => x.getD i 0 == y.getD i 0) = (x == y) := by
    match x, hx, y, hy with
    | [a0, a1, a2, a3, a4, a5, a6, a7, a8, a9], _, [b0, b1, b2, b3, b4, b5, b6, b7, b8, b9], _ =>
      simp [List.range']
  rw [run_eql_struct, show (10000 : Nat) = 9999 + 1 from rfl, Op.equalIn]
  simp only [Sem.run_bind, run_underlying Tryd.underlying46, Result.andThen_ok, szU64, Std.Legacy.Range.forIn_eq_forIn_range', Std.Legacy.Range.size, Nat.sub_zero, Nat.add_sub_cancel, Nat.div_one]
  rw [forIn_hv x y W _ (fun i hi => by have := List.mem_range'_1.1 hi; omega), hall]
  cases (x == y) <;> simp
/-- Two heads compared. -/
theorem exec_eqH {W : World} {op : Oper} {a : Act} (x y : Operand) (t : TypeId) (ho : op.op = .binOp .eql 46 x y t) (p q : List Nat) (hp : p.length = 10) (hq : q.length = 10) (hx : a.eval x = .agg (hv p).toArray) (hy : a.eval y = .agg (hv q).toArray) : (execOp a.eval op).run Tryd.prog W = .ok (.value (.bool (p == q))) W := by
  unfold execOp
  simp only [ho, hx, hy, Sem.run_bind, run_eqGuard_agg _ _ _ _ _ _ _ eqGuardHead, Result.andThen_ok, run_eqlH p q hp hq, Sem.run_pure]
/-- Two options told apart. -/
theorem exec_neqO {W : World} {op : Oper} {a : Act} (x y : Operand) (t : TypeId) (ho : op.op = .binOp .neq 52 x y t) (p q : Opt) (hx : a.eval x = .agg p.vals.toArray) (hy : a.eval y = .agg q.vals.toArray) : (execOp a.eval op).run Tryd.prog W = .ok (.value (.bool (!eqO p q))) W := by
  unfold execOp
  simp only [ho, hx, hy, Sem.run_bind, run_eqGuard_agg _ _ _ _ _ _ _ eqGuardOpt, Result.andThen_ok, run_neqO, Sem.run_pure]
end Go.Proofs.YtbbpemndkphgeaaDoor
