/- Words of our own for rows of values in a block of their own: what a block holds; a variable that holds a row boxed, laid, loaded, stored (cut out of layer 7's). No condition. -/
import Derived.Test.YtpkhalneclmoeaaChg
import Derived.Deep.MidRow
import Derived.Deep.AppendLies
namespace Go.Proofs.Ytpkhalneclmoeaa
set_option linter.unusedVariables false
set_option linter.unusedSimpArgs false
open Go.RowKit

/-- A number that an int may be. -/
def isInt (x : Int) : Prop := -9223372036854775808 ≤ x ∧ x ≤ 9223372036854775807
theorem range_below {w w' : World} {b k : Nat} {vs : List Value} (h : w.rangeAt b k vs) (hb : Below w.heap.size w w') : w'.rangeAt b k vs := fun j v hv => by
  have := h j v hv
  exact (hb.cell (World.block_lt_of_cell? w _ this)).trans this
theorem rangeAt_ch {w w' : World} {m : Nat → Prop} (c : Ch w w' m) {b o : Nat} {x : List Value} (h : w.rangeAt b o x) (hb : ¬ m b) : w'.rangeAt b o x := fun j v hv => c.cell (h j v hv) hb

/-- Block b holds the cells vs and may be written. -/
def Own (w : World) (b : Nat) (vs : List Value) : Prop := ∀ j, j < vs.length → w.cell? ⟨b, j, none⟩ = vs[j]? ∧ w.frozen? ⟨b, j, none⟩ = false
section
variable {w w' : World} {b : Nat} {vs us : List Value}
theorem Own.range (h : Own w b vs) : w.rangeAt b 0 vs := fun j v hv => by
  rw [Nat.zero_add, (h j (List.getElem?_eq_some_iff.1 hv).1).1, hv]
theorem Own.there (h : Own w b vs) : w.there b 0 vs.length := fun j hj => by
  rw [Nat.zero_add, (h j hj).1, List.getElem?_eq_getElem hj]
  exact ⟨rfl, (h j hj).2⟩
theorem Own.new (w : World) (vs : List Value) (t : TypeId) : Own (w.alloc (.cells vs.toArray t)) w.heap.size vs := fun j hj => by
  refine ⟨?_, World.frozen?_alloc_at _ t _ j rfl⟩
  rw [cell_of_row _ w.heap.size j _ t (0, 0) (heap_alloc_new w _), List.getElem?_toArray]
theorem Own.lt (h : Own w b vs) (hn : 0 < vs.length) : b < w.heap.size := by
  have h1 := (h 0 hn).1
  rw [List.getElem?_eq_getElem hn] at h1
  exact World.block_lt_of_cell? w _ h1
theorem Own.far {row : Option Nat} (h : Own w b vs) (hg : w.grownBy w' row) (hne : some b ≠ row) : Own w' b vs := fun j hj =>
  ⟨(hg.cell_far _ (h.lt (by omega)) hne).trans (h j hj).1, (hg.frozen_far _ (h.lt (by omega)) hne).trans (h j hj).2⟩
theorem Own.below (h : Own w b vs) (hb : Below w.heap.size w w') : Own w' b vs := fun j hj =>
  ⟨(hb.cell (h.lt (by omega))).trans (h j hj).1, (hb.frozen (h.lt (by omega))).trans (h j hj).2⟩
theorem Own.put (h : Own w b us) (hl : vs.length = us.length) : Own (w.setCells b 0 vs) b vs := fun j hj => by
  have h1 := World.rangeAt_setCells_same w b 0 vs (by rw [hl]; exact h.there) j _ (List.getElem?_eq_getElem hj)
  rw [Nat.zero_add] at h1
  exact ⟨by rw [h1, List.getElem?_eq_getElem hj], by rw [World.frozen?_setCells]; exact (h j (by omega)).2⟩
theorem Own.set (h : Own w b vs) (k : Nat) (hk : k < vs.length) (v : Value) : Own (w.setCell ⟨b, k, none⟩ v) b (vs.set k v) := fun j hj => by
  rw [List.length_set] at hj
  refine ⟨?_, by rw [World.frozen?_setCell]; exact (h j hj).2⟩
  by_cases e : j = k
  · subst e
    have h1 := (h j hj).1
    rw [List.getElem?_eq_getElem hj] at h1
    rw [World.cell?_setCell_same w _ _ h1, List.getElem?_set_self hj]
  · rw [World.cell?_setCell_other w _ _ _ (by intro h; injection h with _ h; exact e h.symm), (h j hj).1, List.getElem?_set_ne (by omega)]
end

theorem wpList_here {P : Program} {ops : Array Oper} {rest : List Oper} {op : Oper} {a : Act} {w : World} {Q : Exit → Act → World → Prop} (h : wpList P ops Q (op :: rest) a w) : wpList P ops Q (op :: rest) a w := h
theorem v_g_set (w : World) (b k : Nat) (v : Value) : w.grownBy (w.setCell ⟨b, k, none⟩ v) (some b) := ⟨rfl, rfl, rfl, by simp [World.setCell], fun i _ hi => Below.heap_setCell _ _ _ _ (fun e => hi (by rw [e]))⟩
theorem v_g_refl (w : World) (row : Option Nat) : w.grownBy w row := ⟨rfl, rfl, rfl, Nat.le_refl _, fun _ _ _ => rfl⟩
theorem v_g_setCells (b : Nat) : ∀ (vs : List Value) (o : Nat) (w : World), w.grownBy (w.setCells b o vs) (some b)
  | [], _, w => v_g_refl w _
  | v :: r, o, w => (v_g_set w b o v).trans (v_g_setCells b r (o + 1) _)
theorem v_g_below {w w' : World} (h : Below w.heap.size w w') (row : Option Nat) : w.grownBy w' row := ⟨h.os, h.tape, h.output, h.size, fun k hk _ => h.block k hk⟩
theorem v_below_g {B : Nat} {a w w' : World} {b : Nat} (h : Below B a w) (hg : w.grownBy w' (some b)) (hB : B ≤ w.heap.size) (hb : B ≤ b) : Below B a w' := h.grown hg hB fun k hk => by injection hk with hk; omega
theorem v_size_setCells (b : Nat) : ∀ (vs : List Value) (o : Nat) (w : World), (w.setCells b o vs).heap.size = w.heap.size
  | [], _, _ => rfl
  | v :: r, o, w => by rw [World.setCells, v_size_setCells b r (o + 1)]; simp [World.setCell]

section
variable {P : Program} {ops : Array Oper} {rest : List Oper} {o : Oper} {a : Act} {w : World} {Q : Exit → Act → World → Prop}
theorem wpList_want (hw : Region.wanted o (yielded ops a.tmps) = true) (h : ∀ K : Act → World → Prop, (∀ a w, wpList P ops Q rest a w → K a w) → o.wp P a w K Q) : wpList P ops Q (o :: rest) a w :=
  wpList_step fun K hK => by rw [if_pos hw]; exact h K hK
/-- A new variable that holds a row. -/
theorem wpList_boxV (hg : Region.wanted o (yielded ops a.tmps) = true) (t : TypeId) (x : Operand) (ho : o.op = .box t x) (vs : List Value) (hx : a.eval x = .agg vs.toArray) (g : Nat) (hgs : w.heap.size = g)
    (h : ∀ w', Own w' g vs → Below w.heap.size w w' → w'.heap.size = g + 1 → wpList P ops Q rest (a.put o.dst (.pointer (some ⟨g, 0, none⟩))) w') : wpList P ops Q (o :: rest) a w := by
  subst hgs
  refine wpList_want hg fun K hK => ?_
  unfold Oper.wp execOp
  simp only [ho, hx, Sem.run_bind, Instr.box, newVar, newRow, run_newObj_alloc, Sem.run_pure, Result.andThen_ok]
  exact hK _ _ (h _ (Own.new w vs t) (below_a w _) (by simp))
/-- .. that holds its type's zeros. -/
theorem wpList_allocV (hgd : Region.wanted o (yielded ops a.tmps) = true) (t : TypeId) (ho : o.op = .alloc t) (vs : List Value) (hz : (P.info? t).map (·.zero) = some (some (.agg vs.toArray))) (g : Nat) (hg : w.heap.size = g)
    (h : ∀ w', Own w' g vs → Below w.heap.size w w' → w'.heap.size = g + 1 → wpList P ops Q rest (a.put o.dst (.pointer (some ⟨g, 0, none⟩))) w') : wpList P ops Q (o :: rest) a w := by
  subst hg
  refine wpList_want hgd fun K hK => ?_
  cases hi : P.info? t with
  | none => simp [hi] at hz
  | some i =>
    have hz' : i.zero = some (.agg vs.toArray) := by simpa [hi] using hz
    have hrun : (execOp a.eval o).run P w = .ok (.value (.pointer (some ⟨w.heap.size, 0, none⟩))) (w.alloc (.cells vs.toArray t)) := by
      simp [execOp, ho, Instr.alloc, newVar, newRow, zeroValue, typeInfo, hi, hz', Value.cells, Result.andThen]
    unfold Oper.wp
    rw [hrun, Oper.upon_value]
    exact hK _ _ (h _ (Own.new w vs t) (below_a w _) (by simp))
/-- A whole row, loaded from wherever it lies. -/
theorem wpList_loadV (hgd : Region.wanted o (yielded ops a.tmps) = true) (ty : TypeId) (x : Operand) (ho : o.op = .load ty x) (b k : Nat) (vs : List Value) (hx : a.eval x = .pointer (some ⟨b, k, none⟩)) (hA : w.rangeAt b k vs) (d : TypeDesc)
    (hu : P.underlying ty = some d) (hd : d.isRow = true) (hi : (P.info? ty).map (·.size) = some vs.length)
    (h : wpList P ops Q rest (a.put o.dst (.agg vs.toArray)) w) : wpList P ops Q (o :: rest) a w :=
  wpList_want hgd fun _ hK => wp_load_mid ty x ho b k hx vs d hA hu hd hi (hK _ _ h)
/-- .. and stored. -/
theorem wpList_storeV (hgd : Region.wanted o (yielded ops a.tmps) = true) (ty : TypeId) (x y : Operand) (ho : o.op = .store ty x y) (b : Nat) (us vs : List Value) (hx : a.eval x = .pointer (some ⟨b, 0, none⟩)) (hy : a.eval y = .agg vs.toArray) (hA : Own w b us)
    (hl : vs.length = us.length) (h1 : ∀ u ∈ vs, u.oneCell' = true) (hi : (P.info? ty).map (·.size) = some vs.length)
    (h : ∀ w', Own w' b vs → w.grownBy w' (some b) → w'.heap.size = w.heap.size → wpList P ops Q rest (a.put o.dst undef) w') : wpList P ops Q (o :: rest) a w :=
  wpList_want hgd fun _ hK => wp_store_mid ty x y ho b 0 vs.toArray hx hy (by rw [List.size_toArray, hl]; exact hA.there) (by simpa using hi) (all_oneCell_toArray h1) (hK _ _ (h _ (hA.put hl) (v_g_setCells b _ 0 w) (v_size_setCells b _ 0 w)))
/-- An operation that answers a value and leaves the world. -/
theorem wpList_val (hgd : Region.wanted o (yielded ops a.tmps) = true) (v : Value) (hr : (execOp a.eval o).run P w = .ok (.value v) w) (h : wpList P ops Q rest (a.put o.dst v) w) : wpList P ops Q (o :: rest) a w :=
  wpList_want hgd fun _ hK => by
    unfold Oper.wp
    rw [hr, Oper.upon_value]
    exact hK _ _ h
end

/-- A row that a call answers out of its own block. -/
theorem results_c0 {P : Program} {fn : Func} {p : Tmp} {ty : TypeId} (h : fn.results = #[.cell p ty]) (tmps : Array Value) (w : World) (g : Nat) (cs : List Value) (d : TypeDesc)
    (hp : tmps.getD p undef = .pointer (some ⟨g, 0, none⟩)) (hc : w.rangeAt g 0 cs) (hu : P.underlying ty = some d) (hd : d.isRow = true) (hi : (P.info? ty).map (·.size) = some cs.length) :
    (results fn tmps).run P w = .ok (.agg cs.toArray) w := by
  have hp' : tmps[p]?.getD undef = .pointer (some ⟨g, 0, none⟩) := by simpa using hp
  simp [results, h, hp', asAddr, run_loadVar_mid w g 0 ty cs d hc hu hd hi]
end Go.Proofs.Ytpkhalneclmoeaa
