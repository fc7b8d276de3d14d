/- append onto a row of the call's own, of elements of any size, from a slice that may be nil, empty or not. Conditions: the element's size and zero are known; at most 2^40 elements, of at most 128 bytes each. -/
import Derived.Test.YtpkhalneclmoeaaVal
import Derived.Deep.Onto
namespace Go.Proofs.Ytpkhalneclmoeaa
set_option linter.unusedVariables false
set_option linter.unusedSimpArgs false
set_option maxRecDepth 20000
open Go.RowKit

/-- The slice '.slice A m c' holds the cells ys, so many each element. -/
def Src (w : World) (A : Option Addr) (m c size : Nat) (ys : List Value) : Prop :=
  ys.length = m * size ∧ m ≤ c ∧ c ≤ 9223372036854775807 ∧ (∀ u ∈ ys, u.oneCell' = true) ∧ (0 < m → ∃ b o, A = some ⟨b, o, none⟩ ∧ w.rangeAt b o ys)
section
variable {w w' : World} {A : Option Addr} {m c size : Nat} {ys : List Value}
theorem Src.below (h : Src w A m c size ys) (b : Below w.heap.size w w') : Src w' A m c size ys :=
  ⟨h.1, h.2.1, h.2.2.1, h.2.2.2.1, fun hm => by
    obtain ⟨g, o, e, hr⟩ := h.2.2.2.2 hm
    exact ⟨g, o, e, range_below hr b⟩⟩
theorem Src.of_own {base : Nat} {e : TypeId} {n : Nat} {A : Option Addr} {k : Nat} (h : w.ownsRow base e size (.slice A k c) n ys) (h1 : ∀ u ∈ ys, u.oneCell' = true) : Src w A n c size ys ∧ k = n := by
  rcases h.2 with ⟨e1, rfl⟩ | ⟨g, cap, cur, e1, hb, hg, hnc, hm, hs, ht⟩
  · injection e1 with e1 e2 e3
    subst e1 e2 e3
    exact ⟨⟨h.1, Nat.le_refl _, Nat.zero_le _, h1, fun h => absurd h (by omega)⟩, rfl⟩
  · injection e1 with e1 e2 e3
    subst e1 e2 e3
    refine ⟨⟨h.1, hnc, by unfold maxLen at hm; omega, h1, fun _ => ⟨g, 0, rfl, fun j u hu => ?_⟩⟩, rfl⟩
    have hj := (List.getElem?_eq_some_iff.1 hu).1
    rw [Nat.zero_add, World.ownsRow.cellAt h j (by rw [← h.1]; exact hj)]
    exact hu
theorem ch_ownrow {base : Nat} {e : TypeId} {v : Value} {n : Nat} {xs : List Value} (h : w.ownsRow base e size v n xs) {g : Nat} (hg : v.ownBlock = some g) : ∃ cs, w.heap[g]? = some (.cells cs e (0, 0)) := by
  rcases h.2 with ⟨rfl, _⟩ | ⟨g', cap, cur, rfl, _, hg', _⟩
  · cases hg
  · injection hg with hg
    subst hg
    exact ⟨cur, hg'⟩
end

section
variable {P : Program} (w : World)
/-- The run of append. -/
theorem app_gen (t ty e : TypeId) (z : Value) (size by_ : Nat) (ht : P.underlying t = some (.slice e)) (hi : (P.info? e).map (fun i => (i.zero, i.size, i.bytes)) = some (some z, size, by_)) (hzs : z.cells.size = size) (hsz : 0 < size) (hby : by_ ≤ 128)
    (base : Nat) (v : Value) (n : Nat) (xs : List Value) (hown : w.ownsRow base e size v n xs)
    (A : Option Addr) (m c : Nat) (ys : List Value) (hy : Src w A m c size ys) (hs : n + m ≤ 1099511627776) (hb : base ≤ w.heap.size) :
    ∃ v' w', (Builtin.append_ #[t, t] ty #[v, .slice A m c]).run P w = .ok v' w' ∧ w'.ownsRow base e size v' (n + m) (xs ++ ys) ∧ w.grownBy w' v.ownBlock ∧ (v'.ownBlock = v.ownBlock ∨ v'.ownBlock = some w.heap.size) := by
  obtain ⟨i, hi, hz, h1, h2⟩ := info_parts hi
  rcases A with _ | ad
  · have hm : m = 0 := by
      rcases Nat.eq_zero_or_pos m with h0 | h0
      · exact h0
      · obtain ⟨_, _, e, _⟩ := hy.2.2.2.2 h0
        cases e
    subst hm
    obtain rfl : ys = [] := List.eq_nil_of_length_eq_zero (by rw [hy.1]; omega)
    refine ⟨v, w, ?_, by simpa using hown, v_g_refl _ _, .inl rfl⟩
    rcases hown.2 with ⟨rfl, rfl⟩ | ⟨g, cap, cur, rfl, _, _, hnc, _⟩
    · simp [Builtin.append_, run_underlying ht, sizeOf, typeInfo, hi, Builtin.lenOf, Builtin.firstCells]
    · simp [Builtin.append_, run_underlying ht, sizeOf, typeInfo, hi, Builtin.lenOf, Builtin.firstCells, hnc, storeCells]
  · obtain ⟨v', w', hrun, g2, g3, _, g5⟩ := run_append_own_at (P := P) w base t ty e i z size by_ ht hi hz h1 h2 hzs hsz v n xs hown ad m c ys
      hy.1 (fun j u hu => by
        have hj := (List.getElem?_eq_some_iff.1 hu).1
        rw [hy.1] at hj
        obtain ⟨b, p, e, hc⟩ := hy.2.2.2.2 (by rcases Nat.eq_zero_or_pos m with h0 | h0; (subst h0; omega); exact h0)
        injection e with e
        subst e
        rw [Addr.add_lit]
        exact hc j u hu) hy.2.2.2.1 (by unfold maxLen; omega) (by
          have : (n + m) * by_ ≤ 1099511627776 * 128 := Nat.mul_le_mul hs hby
          omega) hb
    exact ⟨v', w', hrun, g2, g3, g5⟩
end
/-- .. in a walk. -/
theorem wpList_appG {P : Program} {ops : Array Oper} {rest : List Oper} {o : Oper} {a : Act} {w : World} {Q : Exit → Act → World → Prop} (hgd : o.guard = none) (s x : Operand) (t e : TypeId)
    (ho : o.op = .call { callee := .builtin .append, args := #[s, x], argTypes := #[t, t] }) (z : Value) (size by_ : Nat)
    (ht : P.underlying t = some (.slice e)) (hi : (P.info? e).map (fun i => (i.zero, i.size, i.bytes)) = some (some z, size, by_)) (hzs : z.cells.size = size) (hsz : 0 < size) (hby : by_ ≤ 128)
    (base : Nat) (v : Value) (n : Nat) (xs : List Value) (hs : a.eval s = v) (hown : w.ownsRow base e size v n xs)
    (A : Option Addr) (m c : Nat) (ys : List Value) (hx : a.eval x = .slice A m c) (hy : Src w A m c size ys) (hn : n + m ≤ 1099511627776) (hb : base ≤ w.heap.size)
    (h : ∀ v' w', w'.ownsRow base e size v' (n + m) (xs ++ ys) → w.grownBy w' v.ownBlock → (v'.ownBlock = v.ownBlock ∨ v'.ownBlock = some w.heap.size) → wpList P ops Q rest (a.put o.dst v') w') : wpList P ops Q (o :: rest) a w := by
  obtain ⟨v', w', hrun, h1, h2, h3⟩ := app_gen (P := P) w t o.type e z size by_ ht hi hzs hsz hby base v n xs hown A m c ys hy hn hb
  exact Lib.wpList_append_run w hgd s x t t ho _ _ hs hx v' w' hrun (h v' w' h1 h2 h3)
/-- .. as a step of a region that draws. -/
theorem step_appG {P : Program} {ops : Array Oper} {o : Oper} {a : Act} {w : World} {K : Act → World → Prop} {Q : Exit → Act → World → Prop} {E : Prop} (hgd : o.guard = none) (s x : Operand) (t e : TypeId)
    (ho : o.op = .call { callee := .builtin .append, args := #[s, x], argTypes := #[t, t] }) (z : Value) (size by_ : Nat)
    (ht : P.underlying t = some (.slice e)) (hi : (P.info? e).map (fun i => (i.zero, i.size, i.bytes)) = some (some z, size, by_)) (hzs : z.cells.size = size) (hsz : 0 < size) (hby : by_ ≤ 128)
    (base : Nat) (v : Value) (n : Nat) (xs : List Value) (hs : a.eval s = v) (hown : w.ownsRow base e size v n xs)
    (A : Option Addr) (m c : Nat) (ys : List Value) (hx : a.eval x = .slice A m c) (hy : Src w A m c size ys) (hn : n + m ≤ 1099511627776) (hb : base ≤ w.heap.size)
    (h : ∀ v' w', w'.ownsRow base e size v' (n + m) (xs ++ ys) → w.grownBy w' v.ownBlock → (v'.ownBlock = v.ownBlock ∨ v'.ownBlock = some w.heap.size) → K (a.put o.dst v') w') :
    if Region.wanted o (yielded ops a.tmps) = true then Oper.wp P o a w K Q else E := by
  have hw : Region.wanted o (yielded ops a.tmps) = true := by simp [Region.wanted, hgd]
  rw [if_pos hw]
  obtain ⟨v', w', hrun, h1, h2, h3⟩ := app_gen (P := P) w t o.type e z size by_ ht hi hzs hsz hby base v n xs hown A m c ys hy hn hb
  exact Lib.wp_append_run w s x t t ho _ _ hs hx v' w' hrun (h v' w' h1 h2 h3)
/-- Another step: a literal of one element. -/
theorem step_litG {P : Program} {ops : Array Oper} {op : Oper} {a : Act} {w : World} {K : Act → World → Prop} {Q : Exit → Act → World → Prop} {E : Prop} (hgd : Region.wanted op (yielded ops a.tmps) = true) (x : Operand) (t e : TypeId) (vs : List Value) (ho : op.op = .buildSlice t 1 #[(0, x)])
    (hrun : (Instr.buildSlice t 1 #[(0, .agg vs.toArray)]).run P w = .ok (.slice (some ⟨w.heap.size, 0, none⟩) 1 1) (w.alloc (.cells vs.toArray e))) (hx : a.eval x = .agg vs.toArray) (g : Nat) (hg : w.heap.size = g)
    (h : ∀ w', Own w' g vs → Below w.heap.size w w' → w'.heap.size = g + 1 → K (a.put op.dst (.slice (some ⟨g, 0, none⟩) 1 1)) w') : if Region.wanted op (yielded ops a.tmps) = true then Oper.wp P op a w K Q else E := by
  subst hg
  rw [if_pos hgd]
  unfold Oper.wp
  have hr : (execOp a.eval op).run P w = .ok (.value (.slice (some ⟨w.heap.size, 0, none⟩) 1 1)) (w.alloc (.cells vs.toArray e)) := by simp [execOp, ho, hx, hrun]
  rw [hr, Oper.upon_value]
  exact h _ (Own.new w vs _) (below_a w _) (by simp)
theorem wpList_litG {P : Program} {ops : Array Oper} {rest : List Oper} {op : Oper} {a : Act} {w : World} {Q : Exit → Act → World → Prop} (hgd : Region.wanted op (yielded ops a.tmps) = true) (x : Operand) (t e : TypeId) (vs : List Value) (ho : op.op = .buildSlice t 1 #[(0, x)])
    (hrun : (Instr.buildSlice t 1 #[(0, .agg vs.toArray)]).run P w = .ok (.slice (some ⟨w.heap.size, 0, none⟩) 1 1) (w.alloc (.cells vs.toArray e))) (hx : a.eval x = .agg vs.toArray) (g : Nat) (hg : w.heap.size = g)
    (h : ∀ w', Own w' g vs → Below w.heap.size w w' → w'.heap.size = g + 1 → wpList P ops Q rest (a.put op.dst (.slice (some ⟨g, 0, none⟩) 1 1)) w') : wpList P ops Q (op :: rest) a w := by
  subst hg
  refine wpList_want hgd fun K hK => ?_
  unfold Oper.wp
  have hr : (execOp a.eval op).run P w = .ok (.value (.slice (some ⟨w.heap.size, 0, none⟩) 1 1)) (w.alloc (.cells vs.toArray e)) := by simp [execOp, ho, hx, hrun]
  rw [hr, Oper.upon_value]
  exact hK _ _ (h _ (Own.new w vs _) (below_a w _) (by simp))
end Go.Proofs.Ytpkhalneclmoeaa
