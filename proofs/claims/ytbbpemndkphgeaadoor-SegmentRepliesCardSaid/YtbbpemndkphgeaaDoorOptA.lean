/- Words of our own for options and for rows of values in a block of their own: an option's cells, what a block holds, a row of options; a variable that holds a row boxed, laid, loaded, stored. No condition. -/
import Derived.Test.YtbbpemndkphgeaaDoorBase
import Derived.Deep.MidRow
import Derived.Deep.AppendLies
import Derived.Laws.StructEq
namespace Go.Proofs.YtbbpemndkphgeaaDoor
set_option linter.unusedVariables false
set_option linter.unusedSimpArgs false
open Go.RowKit

/-- An option. -/
structure Opt where
  kind : Int
  key : Nat
  mac : Nat
  token : Nat
  nonce : Nat
  addr : Int
  reason : Int
  backup : Bool
  hasAck : Bool
  ack : Int
  hasMap : Bool
  dsn : Int
  len : Int
  fin : Bool

/-- Its cells. -/
def Opt.vals (o : Opt) : List Value := [.int .i64 o.kind, .int .u64 (o.key : Int), .int .u64 (o.mac : Int), .int .u32 (o.token : Int), .int .u32 (o.nonce : Int), .int .i64 o.addr, .int .i64 o.reason, .bool o.backup, .bool o.hasAck, .int .i64 o.ack, .bool o.hasMap, .int .i64 o.dsn, .int .i64 o.len, .bool o.fin]
/-- Its value. -/
def Opt.val (o : Opt) : Value := .agg o.vals.toArray
theorem Opt.vals_length (o : Opt) : o.vals.length = 14 := rfl
/-- A number that an int may be. -/
def isInt (x : Int) : Prop := -9223372036854775808 ≤ x ∧ x ≤ 9223372036854775807
/-- Each number is one of its kind. -/
structure Opt.ok (o : Opt) : Prop where
  kind : isInt o.kind
  key : o.key < 18446744073709551616
  mac : o.mac < 18446744073709551616
  token : o.token < 4294967296
  nonce : o.nonce < 4294967296
  addr : isInt o.addr
  reason : isInt o.reason
  ack : isInt o.ack
  dsn : isInt o.dsn
  len : isInt o.len
/-- An option of a kind, all else zero. -/
def zK (k : Int) : Opt := ⟨k, 0, 0, 0, 0, 0, 0, false, false, 0, false, 0, 0, false⟩
theorem zK_ok {k : Int} (h : isInt k) : (zK k).ok := by
  have h0 : isInt 0 := by unfold isInt; decide
  have h1 : (0 : Nat) < 18446744073709551616 := by decide
  have h2 : (0 : Nat) < 4294967296 := by decide
  exact ⟨h, h1, h1, h2, h2, h0, h0, h0, h0, h0⟩
/-- Are they the same? -/
def eqO (a b : Opt) : Bool := a.kind == b.kind && a.key == b.key && a.mac == b.mac && a.token == b.token && a.nonce == b.nonce && a.addr == b.addr && a.reason == b.reason && a.backup == b.backup && a.hasAck == b.hasAck && a.ack == b.ack && a.hasMap == b.hasMap && a.dsn == b.dsn && a.len == b.len && a.fin == b.fin
theorem eqO_iff (a b : Opt) : eqO a b = true ↔ a = b := by
  cases a; cases b
  simp only [eqO, Bool.and_eq_true, beq_iff_eq, Opt.mk.injEq, and_assoc]
theorem eqO_same (a : Opt) : eqO a a = true := (eqO_iff a a).2 rfl
theorem vals_one (o : Opt) : ∀ u ∈ o.vals, u.oneCell' = true := by
  intro u hu
  simp only [Opt.vals, List.mem_cons, List.not_mem_nil, or_false] at hu
  rcases hu with rfl | rfl | rfl | rfl | rfl | rfl | rfl | rfl | rfl | rfl | rfl | rfl | rfl | rfl <;> rfl

/-- Block b holds the cells vs and may be written. -/
def Own (w : World) (b : Nat) (vs : List Value) : Prop := ∀ j, j < vs.length → w.cell? ⟨b, j, none⟩ = vs[j]? ∧ w.frozen? ⟨b, j, none⟩ = false
section
variable {w w' : World} {b : Nat} {vs us : List Value}
theorem Own.range (h : Own w b vs) : w.rangeAt b 0 vs := fun j v hv => by
  rw [Nat.zero_add, (h j (List.getElem?_eq_some_iff.1 hv).1).1, hv]
theorem Own.there (h : Own w b vs) : w.there b 0 vs.length := fun j hj => by
  rw [Nat.zero_add, (h j hj).1, List.getElem?_eq_getElem hj]
  exact ⟨rfl, (h j hj).2⟩
theorem Own.new (w : World) (vs : List Value) (t : TypeId) : Own (w.alloc (.cells vs.toArray t)) w.heap.size vs := fun j hj => by
  refine ⟨?_, World.frozen?_alloc_at _ t _ j rfl⟩
  rw [cell_of_row _ w.heap.size j _ t (0, 0) (heap_alloc_new w _), List.getElem?_toArray]
theorem Own.lt (h : Own w b vs) (hn : 0 < vs.length) : b < w.heap.size := by
  have h1 := (h 0 hn).1
  rw [List.getElem?_eq_getElem hn] at h1
  exact World.block_lt_of_cell? w _ h1
theorem Own.far {row : Option Nat} (h : Own w b vs) (hg : w.grownBy w' row) (hne : some b ≠ row) : Own w' b vs := fun j hj =>
  ⟨(hg.cell_far _ (h.lt (by omega)) hne).trans (h j hj).1, (hg.frozen_far _ (h.lt (by omega)) hne).trans (h j hj).2⟩
theorem Own.below (h : Own w b vs) (hb : Below w.heap.size w w') : Own w' b vs := fun j hj =>
  ⟨(hb.cell (h.lt (by omega))).trans (h j hj).1, (hb.frozen (h.lt (by omega))).trans (h j hj).2⟩
theorem Own.put (h : Own w b us) (hl : vs.length = us.length) : Own (w.setCells b 0 vs) b vs := fun j hj => by
  have h1 := World.rangeAt_setCells_same w b 0 vs (by rw [hl]; exact h.there) j _ (List.getElem?_eq_getElem hj)
  rw [Nat.zero_add] at h1
  exact ⟨by rw [h1, List.getElem?_eq_getElem hj], by rw [World.frozen?_setCells]; exact (h j (by omega)).2⟩
theorem Own.set (h : Own w b vs) (k : Nat) (hk : k < vs.length) (v : Value) : Own (w.setCell ⟨b, k, none⟩ v) b (vs.set k v) := fun j hj => by
  rw [List.length_set] at hj
  refine ⟨?_, by rw [World.frozen?_setCell]; exact (h j hj).2⟩
  by_cases e : j = k
  · subst e
    have h1 := (h j hj).1
    rw [List.getElem?_eq_getElem hj] at h1
    rw [World.cell?_setCell_same w _ _ h1, List.getElem?_set_self hj]
  · rw [World.cell?_setCell_other w _ _ _ (by intro h; injection h with _ h; exact e h.symm), (h j hj).1, List.getElem?_set_ne (by omega)]
end

theorem wpList_here {P : Program} {ops : Array Oper} {rest : List Oper} {op : Oper} {a : Act} {w : World} {Q : Exit → Act → World → Prop} (h : wpList P ops Q (op :: rest) a w) : wpList P ops Q (op :: rest) a w := h
theorem v_g_set (w : World) (b k : Nat) (v : Value) : w.grownBy (w.setCell ⟨b, k, none⟩ v) (some b) := ⟨rfl, rfl, rfl, by simp [World.setCell], fun i _ hi => Below.heap_setCell _ _ _ _ (fun e => hi (by rw [e]))⟩
theorem v_g_refl (w : World) (row : Option Nat) : w.grownBy w row := ⟨rfl, rfl, rfl, Nat.le_refl _, fun _ _ _ => rfl⟩
theorem v_g_setCells (b : Nat) : ∀ (vs : List Value) (o : Nat) (w : World), w.grownBy (w.setCells b o vs) (some b)
  | [], _, w => v_g_refl w _
  | v :: r, o, w => (v_g_set w b o v).trans (v_g_setCells b r (o + 1) _)
theorem v_g_below {w w' : World} (h : Below w.heap.size w w') (row : Option Nat) : w.grownBy w' row := ⟨h.os, h.tape, h.output, h.size, fun k hk _ => h.block k hk⟩
theorem v_below_g {B : Nat} {a w w' : World} {b : Nat} (h : Below B a w) (hg : w.grownBy w' (some b)) (hB : B ≤ w.heap.size) (hb : B ≤ b) : Below B a w' := h.grown hg hB fun k hk => by injection hk with hk; omega
theorem v_size_setCells (b : Nat) : ∀ (vs : List Value) (o : Nat) (w : World), (w.setCells b o vs).heap.size = w.heap.size
  | [], _, _ => rfl
  | v :: r, o, w => by rw [World.setCells, v_size_setCells b r (o + 1)]; simp [World.setCell]

section
variable {P : Program} {ops : Array Oper} {rest : List Oper} {o : Oper} {a : Act} {w : World} {Q : Exit → Act → World → Prop}
theorem wpList_want (hw : Region.wanted o (yielded ops a.tmps) = true) (h : ∀ K : Act → World → Prop, (∀ a w, wpList P ops Q rest a w → K a w) → o.wp P a w K Q) : wpList P ops Q (o :: rest) a w :=
  wpList_step fun K hK => by rw [if_pos hw]; exact h K hK
/-- A new variable that holds a row. -/
theorem wpList_boxV (hg : Region.wanted o (yielded ops a.tmps) = true) (t : TypeId) (x : Operand) (ho : o.op = .box t x) (vs : List Value) (hx : a.eval x = .agg vs.toArray) (g : Nat) (hgs : w.heap.size = g)
    (h : ∀ w', Own w' g vs → Below w.heap.size w w' → w'.heap.size = g + 1 → wpList P ops Q rest (a.put o.dst (.pointer (some ⟨g, 0, none⟩))) w') : wpList P ops Q (o :: rest) a w := by
  subst hgs
  refine wpList_want hg fun K hK => ?_
  unfold Oper.wp execOp
  simp only [ho, hx, Sem.run_bind, Instr.box, newVar, newRow, run_newObj_alloc, Sem.run_pure, Result.andThen_ok]
  exact hK _ _ (h _ (Own.new w vs t) (below_a w _) (by simp))
/-- .. that holds its type's zeros. -/
theorem wpList_allocV (hgd : Region.wanted o (yielded ops a.tmps) = true) (t : TypeId) (ho : o.op = .alloc t) (vs : List Value) (hz : (P.info? t).map (·.zero) = some (some (.agg vs.toArray))) (g : Nat) (hg : w.heap.size = g)
    (h : ∀ w', Own w' g vs → Below w.heap.size w w' → w'.heap.size = g + 1 → wpList P ops Q rest (a.put o.dst (.pointer (some ⟨g, 0, none⟩))) w') : wpList P ops Q (o :: rest) a w := by
  subst hg
  refine wpList_want hgd fun K hK => ?_
  cases hi : P.info? t with
  | none => simp [hi] at hz
  | some i =>
    have hz' : i.zero = some (.agg vs.toArray) := by simpa [hi] using hz
    have hrun : (execOp a.eval o).run P w = .ok (.value (.pointer (some ⟨w.heap.size, 0, none⟩))) (w.alloc (.cells vs.toArray t)) := by
      simp [execOp, ho, Instr.alloc, newVar, newRow, zeroValue, typeInfo, hi, hz', Value.cells, Result.andThen]
    unfold Oper.wp
    rw [hrun, Oper.upon_value]
    exact hK _ _ (h _ (Own.new w vs t) (below_a w _) (by simp))
/-- A whole row, loaded from wherever it lies. -/
theorem wpList_loadV (hgd : Region.wanted o (yielded ops a.tmps) = true) (ty : TypeId) (x : Operand) (ho : o.op = .load ty x) (b k : Nat) (vs : List Value) (hx : a.eval x = .pointer (some ⟨b, k, none⟩)) (hA : w.rangeAt b k vs) (d : TypeDesc)
    (hu : P.underlying ty = some d) (hd : d.isRow = true) (hi : (P.info? ty).map (·.size) = some vs.length)
    (h : wpList P ops Q rest (a.put o.dst (.agg vs.toArray)) w) : wpList P ops Q (o :: rest) a w :=
  wpList_want hgd fun _ hK => wp_load_mid ty x ho b k hx vs d hA hu hd hi (hK _ _ h)
/-- .. and stored. -/
theorem wpList_storeV (hgd : Region.wanted o (yielded ops a.tmps) = true) (ty : TypeId) (x y : Operand) (ho : o.op = .store ty x y) (b : Nat) (us vs : List Value) (hx : a.eval x = .pointer (some ⟨b, 0, none⟩)) (hy : a.eval y = .agg vs.toArray) (hA : Own w b us)
    (hl : vs.length = us.length) (h1 : ∀ u ∈ vs, u.oneCell' = true) (hi : (P.info? ty).map (·.size) = some vs.length)
    (h : ∀ w', Own w' b vs → w.grownBy w' (some b) → w'.heap.size = w.heap.size → wpList P ops Q rest (a.put o.dst undef) w') : wpList P ops Q (o :: rest) a w :=
  wpList_want hgd fun _ hK => wp_store_mid ty x y ho b 0 vs.toArray hx hy (by rw [List.size_toArray, hl]; exact hA.there) (by simpa using hi) (all_oneCell_toArray h1) (hK _ _ (h _ (hA.put hl) (v_g_setCells b _ 0 w) (v_size_setCells b _ 0 w)))
/-- An operation that answers a value and leaves the world. -/
theorem wpList_val (hgd : Region.wanted o (yielded ops a.tmps) = true) (v : Value) (hr : (execOp a.eval o).run P w = .ok (.value v) w) (h : wpList P ops Q rest (a.put o.dst v) w) : wpList P ops Q (o :: rest) a w :=
  wpList_want hgd fun _ hK => by
    unfold Oper.wp
    rw [hr, Oper.upon_value]
    exact hK _ _ h
end

/-- The slice '.slice A n c' holds the options os in w. -/
def OS (w : World) (A : Option Addr) (n c : Nat) (os : List Opt) : Prop :=
  os.length = n ∧ n ≤ c ∧ c ≤ maxLen ∧ (∀ o ∈ os, o.ok) ∧ (0 < n → ∃ b o, A = some ⟨b, o, none⟩ ∧ ∀ j, j < n → w.rangeAt b (o + j * 14) (os.getD j (zK 0)).vals)
section
variable {w w' : World} {A : Option Addr} {n c : Nat} {os : List Opt}
theorem OS.len (h : OS w A n c os) : os.length = n := h.1
theorem OS.cap (h : OS w A n c os) : n ≤ c := h.2.1
theorem OS.max (h : OS w A n c os) : c ≤ 9223372036854775807 := by have := h.2.2.1; unfold maxLen at this; omega
theorem OS.ok (h : OS w A n c os) {j : Nat} (hj : j < n) : (os.getD j (zK 0)).ok := by
  refine h.2.2.2.1 _ ?_
  have : j < os.length := by rw [h.len]; exact hj
  simp [List.getD_eq_getElem?_getD, List.getElem?_eq_getElem this]
theorem OS.at_ (h : OS w A n c os) {j : Nat} (hj : j < n) : ∃ b o, A = some ⟨b, o, none⟩ ∧ w.rangeAt b (o + j * 14) (os.getD j (zK 0)).vals := by
  obtain ⟨b, o, e, hc⟩ := h.2.2.2.2 (by omega)
  exact ⟨b, o, e, hc j hj⟩
theorem range_below {b k : Nat} {vs : List Value} (h : w.rangeAt b k vs) (hb : Below w.heap.size w w') : w'.rangeAt b k vs := fun j v hv => by
  have := h j v hv
  exact (hb.cell (World.block_lt_of_cell? w _ this)).trans this
theorem OS.below (h : OS w A n c os) (hb : Below w.heap.size w w') : OS w' A n c os :=
  ⟨h.1, h.2.1, h.2.2.1, h.2.2.2.1, fun hn => by
    obtain ⟨b, o, e, hc⟩ := h.2.2.2.2 hn
    exact ⟨b, o, e, fun j hj => range_below (hc j hj) hb⟩⟩
end

theorem infoOpt : (Tryd.prog.info? 52).map (·.size) = some 14 := by kernel_rfl
theorem zeroOpt : (Tryd.prog.info? 52).map (·.zero) = some (some (.agg (zK 0).vals.toArray)) := by kernel_rfl
theorem descOpt : ∃ fs, Tryd.prog.underlying 52 = some (.struct fs) := ⟨_, Tryd.underlying52⟩

theorem eqGuardOpt : Tryd.prog.eqGuardType Tryd.prog.depth 52 = false := by kernel_rfl
theorem stoodOpt : Tryd.prog.stoodInHeld 52 = false := by kernel_rfl
theorem eqO_ne {a b : Opt} (h : a ≠ b) : eqO a b = false := by
  cases e : eqO a b with
  | false => rfl
  | true => exact absurd ((eqO_iff a b).1 e) h
theorem run_eqlO (a b : Opt) (W : World) : (binOp .eql 52 (.agg a.vals.toArray) (.agg b.vals.toArray)).run Tryd.prog W = .ok (.bool (eqO a b)) W := by
  by_cases h : a = b
  · subst h
    simp [go_sem, Opt.vals, stoodOpt, eqO]
  · rw [eqO_ne h]
    simp [go_sem, Opt.vals, stoodOpt]
    intro h0 h1 h2 h3 h4 h5 h6 h7 h8 h9 h10 h11 h12 h13
    refine h ?_
    cases a; cases b
    simp only [Opt.mk.injEq] at *
    refine ⟨h0, ?_, ?_, ?_, ?_, h5, h6, h7, h8, h9, h10, h11, h12, h13⟩ <;> omega
theorem run_neqO (a b : Opt) (W : World) : (binOp .neq 52 (.agg a.vals.toArray) (.agg b.vals.toArray)).run Tryd.prog W = .ok (.bool (!eqO a b)) W := by
  by_cases h : a = b
  · subst h
    simp [go_sem, Opt.vals, stoodOpt, eqO]
  · rw [eqO_ne h]
    simp [go_sem, Opt.vals, stoodOpt]
    intro h0 h1 h2 h3 h4 h5 h6 h7 h8 h9 h10 h11 h12 h13
    refine h ?_
    cases a; cases b
    simp only [Opt.mk.injEq] at *
    refine ⟨h0, ?_, ?_, ?_, ?_, h5, h6, h7, h8, h9, h10, h11, h12, h13⟩ <;> omega

section
variable {ops : Array Oper} {rest : List Oper} {o : Oper} {a : Act} {w : World} {Q : Exit → Act → World → Prop}
/-- Two options compared. -/
theorem wpList_eqO (hgd : Region.wanted o (yielded ops a.tmps) = true) (x y : Operand) (t : TypeId) (ho : o.op = .binOp .eql 52 x y t) (p q : Opt) (hx : a.eval x = .agg p.vals.toArray) (hy : a.eval y = .agg q.vals.toArray)
    (h : wpList Tryd.prog ops Q rest (a.put o.dst (.bool (eqO p q))) w) : wpList Tryd.prog ops Q (o :: rest) a w :=
  wpList_val hgd _ (by
    unfold execOp
    simp only [ho, hx, hy, Sem.run_bind, run_eqGuard_agg _ _ _ _ _ _ _ eqGuardOpt, Result.andThen_ok, run_eqlO, Sem.run_pure]) h
theorem wpList_neqO (hgd : Region.wanted o (yielded ops a.tmps) = true) (x y : Operand) (t : TypeId) (ho : o.op = .binOp .neq 52 x y t) (p q : Opt) (hx : a.eval x = .agg p.vals.toArray) (hy : a.eval y = .agg q.vals.toArray)
    (h : wpList Tryd.prog ops Q rest (a.put o.dst (.bool (!eqO p q))) w) : wpList Tryd.prog ops Q (o :: rest) a w :=
  wpList_val hgd _ (by
    unfold execOp
    simp only [ho, hx, hy, Sem.run_bind, run_eqGuard_agg _ _ _ _ _ _ _ eqGuardOpt, Result.andThen_ok, run_neqO, Sem.run_pure]) h
end
end Go.Proofs.YtbbpemndkphgeaaDoor
