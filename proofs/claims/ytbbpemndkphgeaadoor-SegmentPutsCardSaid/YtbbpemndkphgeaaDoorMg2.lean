/- Words of our own for options and for rows of values in a block of their own: an option's cells, what a block holds, a row of options; a variable that holds a row boxed, laid, loaded, stored. No condition.
Results that are a variable's whole row beside plain values. No condition.
Layer 7's mathematics: what fields a kind has, the number in a field, an option with a number put in a field, what fields tell as bytes and what bytes tell. No condition.
Words of our own for segments: a segment's cells and what lies behind its slices; the numbers ahead of a segment's bytes; a result that is one variable's whole row. No condition. -/
import Derived.Test.YtbbpemndkphgeaaDoorMg1
import Derived.Deep.MidRow
import Derived.Deep.AppendLies
import Derived.Laws.StructEq
namespace Go.Proofs.YtbbpemndkphgeaaDoor
set_option linter.unusedVariables false
set_option linter.unusedSimpArgs false
open Go.RowKit

/-- An option. -/
structure Opt where
  kind : Int
  key : Nat
  mac : Nat
  token : Nat
  nonce : Nat
  addr : Int
  reason : Int
  backup : Bool
  hasAck : Bool
  ack : Int
  hasMap : Bool
  dsn : Int
  len : Int
  fin : Bool

/-- Its cells. -/
def Opt.vals (o : Opt) : List Value := [.int .i64 o.kind, .int .u64 (o.key : Int), .int .u64 (o.mac : Int), .int .u32 (o.token : Int), .int .u32 (o.nonce : Int), .int .i64 o.addr, .int .i64 o.reason, .bool o.backup, .bool o.hasAck, .int .i64 o.ack, .bool o.hasMap, .int .i64 o.dsn, .int .i64 o.len, .bool o.fin]
/-- Its value. -/
def Opt.val (o : Opt) : Value := .agg o.vals.toArray
theorem Opt.vals_length (o : Opt) : o.vals.length = 14 := rfl
/-- A number that an int may be. -/
def isInt (x : Int) : Prop := -9223372036854775808 ≤ x ∧ x ≤ 9223372036854775807
/-- Each number is one of its kind. -/
structure Opt.ok (o : Opt) : Prop where
  kind : isInt o.kind
  key : o.key < 18446744073709551616
  mac : o.mac < 18446744073709551616
  token : o.token < 4294967296
  nonce : o.nonce < 4294967296
  addr : isInt o.addr
  reason : isInt o.reason
  ack : isInt o.ack
  dsn : isInt o.dsn
  len : isInt o.len
/-- An option of a kind, all else zero. -/
def zK (k : Int) : Opt := ⟨k, 0, 0, 0, 0, 0, 0, false, false, 0, false, 0, 0, false⟩
theorem zK_ok {k : Int} (h : isInt k) : (zK k).ok := by
  have h0 : isInt 0 := by unfold isInt; decide
  have h1 : (0 : Nat) < 18446744073709551616 := by decide
  have h2 : (0 : Nat) < 4294967296 := by decide
  exact ⟨h, h1, h1, h2, h2, h0, h0, h0, h0, h0⟩
/-- Are they the same? -/
def eqO (a b : Opt) : Bool := a.kind == b.kind && a.key == b.key && a.mac == b.mac && a.token == b.token && a.nonce == b.nonce && a.addr == b.addr && a.reason == b.reason && a.backup == b.backup && a.hasAck == b.hasAck && a.ack == b.ack && a.hasMap == b.hasMap && a.dsn == b.dsn && a.len == b.len && a.fin == b.fin
theorem eqO_iff (a b : Opt) : eqO a b = true ↔ a = b := by
  cases a; cases b
  simp only [eqO, Bool.and_eq_true, beq_iff_eq, Opt.mk.injEq, and_assoc]
theorem eqO_same (a : Opt) : eqO a a = true := (eqO_iff a a).2 rfl
theorem vals_one (o : Opt) : ∀ u ∈ o.vals, u.oneCell' = true := by
  intro u hu
  simp only [Opt.vals, List.mem_cons, List.not_mem_nil, or_false] at hu
  rcases hu with rfl | rfl | rfl | rfl | rfl | rfl | rfl | rfl | rfl | rfl | rfl | rfl | rfl | rfl <;> rfl

/-- Block b holds the cells vs and may be written. -/
def Own (w : World) (b : Nat) (vs : List Value) : Prop := ∀ j, j < vs.length → w.cell? ⟨b, j, none⟩ = vs[j]? ∧ w.frozen? ⟨b, j, none⟩ = false
section
variable {w w' : World} {b : Nat} {vs us : List Value}
theorem Own.range (h : Own w b vs) : w.rangeAt b 0 vs := fun j v hv => by
  rw [Nat.zero_add, (h j (List.getElem?_eq_some_iff.1 hv).1).1, hv]
theorem Own.there (h : Own w b vs) : w.there b 0 vs.length := fun j hj => by
  rw [Nat.zero_add, (h j hj).1, List.getElem?_eq_getElem hj]
  exact ⟨rfl, (h j hj).2⟩
theorem Own.new (w : World) (vs : List Value) (t : TypeId) : Own (w.alloc (.cells vs.toArray t)) w.heap.size vs := fun j hj => by
  refine ⟨?_, World.frozen?_alloc_at _ t _ j rfl⟩
  rw [cell_of_row _ w.heap.size j _ t (0, 0) (heap_alloc_new w _), List.getElem?_toArray]
theorem Own.lt (h : Own w b vs) (hn : 0 < vs.length) : b < w.heap.size := by
  have h1 := (h 0 hn).1
  rw [List.getElem?_eq_getElem hn] at h1
  exact World.block_lt_of_cell? w _ h1
theorem Own.far {row : Option Nat} (h : Own w b vs) (hg : w.grownBy w' row) (hne : some b ≠ row) : Own w' b vs := fun j hj =>
  ⟨(hg.cell_far _ (h.lt (by omega)) hne).trans (h j hj).1, (hg.frozen_far _ (h.lt (by omega)) hne).trans (h j hj).2⟩
theorem Own.below (h : Own w b vs) (hb : Below w.heap.size w w') : Own w' b vs := fun j hj =>
  ⟨(hb.cell (h.lt (by omega))).trans (h j hj).1, (hb.frozen (h.lt (by omega))).trans (h j hj).2⟩
theorem Own.put (h : Own w b us) (hl : vs.length = us.length) : Own (w.setCells b 0 vs) b vs := fun j hj => by
  have h1 := World.rangeAt_setCells_same w b 0 vs (by rw [hl]; exact h.there) j _ (List.getElem?_eq_getElem hj)
  rw [Nat.zero_add] at h1
  exact ⟨by rw [h1, List.getElem?_eq_getElem hj], by rw [World.frozen?_setCells]; exact (h j (by omega)).2⟩
theorem Own.set (h : Own w b vs) (k : Nat) (hk : k < vs.length) (v : Value) : Own (w.setCell ⟨b, k, none⟩ v) b (vs.set k v) := fun j hj => by
  rw [List.length_set] at hj
  refine ⟨?_, by rw [World.frozen?_setCell]; exact (h j hj).2⟩
  by_cases e : j = k
  · subst e
    have h1 := (h j hj).1
    rw [List.getElem?_eq_getElem hj] at h1
    rw [World.cell?_setCell_same w _ _ h1, List.getElem?_set_self hj]
  · rw [World.cell?_setCell_other w _ _ _ (by intro h; injection h with _ h; exact e h.symm), (h j hj).1, List.getElem?_set_ne (by omega)]
end

theorem wpList_here {P : Program} {ops : Array Oper} {rest : List Oper} {op : Oper} {a : Act} {w : World} {Q : Exit → Act → World → Prop} (h : wpList P ops Q (op :: rest) a w) : wpList P ops Q (op :: rest) a w := h
theorem v_g_set (w : World) (b k : Nat) (v : Value) : w.grownBy (w.setCell ⟨b, k, none⟩ v) (some b) := ⟨rfl, rfl, rfl, by simp [World.setCell], fun i _ hi => Below.heap_setCell _ _ _ _ (fun e => hi (by rw [e]))⟩
theorem v_g_refl (w : World) (row : Option Nat) : w.grownBy w row := ⟨rfl, rfl, rfl, Nat.le_refl _, fun _ _ _ => rfl⟩
theorem v_g_setCells (b : Nat) : ∀ (vs : List Value) (o : Nat) (w : World), w.grownBy (w.setCells b o vs) (some b)
  | [], _, w => v_g_refl w _
  | v :: r, o, w => (v_g_set w b o v).trans (v_g_setCells b r (o + 1) _)
theorem v_g_below {w w' : World} (h : Below w.heap.size w w') (row : Option Nat) : w.grownBy w' row := ⟨h.os, h.tape, h.output, h.size, fun k hk _ => h.block k hk⟩
theorem v_below_g {B : Nat} {a w w' : World} {b : Nat} (h : Below B a w) (hg : w.grownBy w' (some b)) (hB : B ≤ w.heap.size) (hb : B ≤ b) : Below B a w' := h.grown hg hB fun k hk => by injection hk with hk; omega
theorem v_size_setCells (b : Nat) : ∀ (vs : List Value) (o : Nat) (w : World), (w.setCells b o vs).heap.size = w.heap.size
  | [], _, _ => rfl
  | v :: r, o, w => by rw [World.setCells, v_size_setCells b r (o + 1)]; simp [World.setCell]

section
variable {P : Program} {ops : Array Oper} {rest : List Oper} {o : Oper} {a : Act} {w : World} {Q : Exit → Act → World → Prop}
theorem wpList_want (hw : Region.wanted o (yielded ops a.tmps) = true) (h : ∀ K : Act → World → Prop, (∀ a w, wpList P ops Q rest a w → K a w) → o.wp P a w K Q) : wpList P ops Q (o :: rest) a w :=
  wpList_step fun K hK => by rw [if_pos hw]; exact h K hK
/-- A new variable that holds a row. -/
theorem wpList_boxV (hg : Region.wanted o (yielded ops a.tmps) = true) (t : TypeId) (x : Operand) (ho : o.op = .box t x) (vs : List Value) (hx : a.eval x = .agg vs.toArray) (g : Nat) (hgs : w.heap.size = g)
    (h : ∀ w', Own w' g vs → Below w.heap.size w w' → w'.heap.size = g + 1 → wpList P ops Q rest (a.put o.dst (.pointer (some ⟨g, 0, none⟩))) w') : wpList P ops Q (o :: rest) a w := by
  subst hgs
  refine wpList_want hg fun K hK => ?_
  unfold Oper.wp execOp
  simp only [ho, hx, Sem.run_bind, Instr.box, newVar, newRow, run_newObj_alloc, Sem.run_pure, Result.andThen_ok]
  exact hK _ _ (h _ (Own.new w vs t) (below_a w _) (by simp))
/-- .. that holds its type's zeros. -/
theorem wpList_allocV (hgd : Region.wanted o (yielded ops a.tmps) = true) (t : TypeId) (ho : o.op = .alloc t) (vs : List Value) (hz : (P.info? t).map (·.zero) = some (some (.agg vs.toArray))) (g : Nat) (hg : w.heap.size = g)
    (h : ∀ w', Own w' g vs → Below w.heap.size w w' → w'.heap.size = g + 1 → wpList P ops Q rest (a.put o.dst (.pointer (some ⟨g, 0, none⟩))) w') : wpList P ops Q (o :: rest) a w := by
  subst hg
  refine wpList_want hgd fun K hK => ?_
  cases hi : P.info? t with
  | none => simp [hi] at hz
  | some i =>
    have hz' : i.zero = some (.agg vs.toArray) := by simpa [hi] using hz
    have hrun : (execOp a.eval o).run P w = .ok (.value (.pointer (some ⟨w.heap.size, 0, none⟩))) (w.alloc (.cells vs.toArray t)) := by
      simp [execOp, ho, Instr.alloc, newVar, newRow, zeroValue, typeInfo, hi, hz', Value.cells, Result.andThen]
    unfold Oper.wp
    rw [hrun, Oper.upon_value]
    exact hK _ _ (h _ (Own.new w vs t) (below_a w _) (by simp))
/-- A whole row, loaded from wherever it lies. -/
theorem wpList_loadV (hgd : Region.wanted o (yielded ops a.tmps) = true) (ty : TypeId) (x : Operand) (ho : o.op = .load ty x) (b k : Nat) (vs : List Value) (hx : a.eval x = .pointer (some ⟨b, k, none⟩)) (hA : w.rangeAt b k vs) (d : TypeDesc)
    (hu : P.underlying ty = some d) (hd : d.isRow = true) (hi : (P.info? ty).map (·.size) = some vs.length)
    (h : wpList P ops Q rest (a.put o.dst (.agg vs.toArray)) w) : wpList P ops Q (o :: rest) a w :=
  wpList_want hgd fun _ hK => wp_load_mid ty x ho b k hx vs d hA hu hd hi (hK _ _ h)
/-- .. and stored. -/
theorem wpList_storeV (hgd : Region.wanted o (yielded ops a.tmps) = true) (ty : TypeId) (x y : Operand) (ho : o.op = .store ty x y) (b : Nat) (us vs : List Value) (hx : a.eval x = .pointer (some ⟨b, 0, none⟩)) (hy : a.eval y = .agg vs.toArray) (hA : Own w b us)
    (hl : vs.length = us.length) (h1 : ∀ u ∈ vs, u.oneCell' = true) (hi : (P.info? ty).map (·.size) = some vs.length)
    (h : ∀ w', Own w' b vs → w.grownBy w' (some b) → w'.heap.size = w.heap.size → wpList P ops Q rest (a.put o.dst undef) w') : wpList P ops Q (o :: rest) a w :=
  wpList_want hgd fun _ hK => wp_store_mid ty x y ho b 0 vs.toArray hx hy (by rw [List.size_toArray, hl]; exact hA.there) (by simpa using hi) (all_oneCell_toArray h1) (hK _ _ (h _ (hA.put hl) (v_g_setCells b _ 0 w) (v_size_setCells b _ 0 w)))
/-- An operation that answers a value and leaves the world. -/
theorem wpList_val (hgd : Region.wanted o (yielded ops a.tmps) = true) (v : Value) (hr : (execOp a.eval o).run P w = .ok (.value v) w) (h : wpList P ops Q rest (a.put o.dst v) w) : wpList P ops Q (o :: rest) a w :=
  wpList_want hgd fun _ hK => by
    unfold Oper.wp
    rw [hr, Oper.upon_value]
    exact hK _ _ h
end

/-- The slice '.slice A n c' holds the options os in w. -/
def OS (w : World) (A : Option Addr) (n c : Nat) (os : List Opt) : Prop :=
  os.length = n ∧ n ≤ c ∧ c ≤ maxLen ∧ (∀ o ∈ os, o.ok) ∧ (0 < n → ∃ b o, A = some ⟨b, o, none⟩ ∧ ∀ j, j < n → w.rangeAt b (o + j * 14) (os.getD j (zK 0)).vals)
section
variable {w w' : World} {A : Option Addr} {n c : Nat} {os : List Opt}
theorem OS.len (h : OS w A n c os) : os.length = n := h.1
theorem OS.cap (h : OS w A n c os) : n ≤ c := h.2.1
theorem OS.max (h : OS w A n c os) : c ≤ 9223372036854775807 := by have := h.2.2.1; unfold maxLen at this; omega
theorem OS.ok (h : OS w A n c os) {j : Nat} (hj : j < n) : (os.getD j (zK 0)).ok := by
  refine h.2.2.2.1 _ ?_
  have : j < os.length := by rw [h.len]; exact hj
  simp [List.getD_eq_getElem?_getD, List.getElem?_eq_getElem this]
theorem OS.at_ (h : OS w A n c os) {j : Nat} (hj : j < n) : ∃ b o, A = some ⟨b, o, none⟩ ∧ w.rangeAt b (o + j * 14) (os.getD j (zK 0)).vals := by
  obtain ⟨b, o, e, hc⟩ := h.2.2.2.2 (by omega)
  exact ⟨b, o, e, hc j hj⟩
theorem range_below {b k : Nat} {vs : List Value} (h : w.rangeAt b k vs) (hb : Below w.heap.size w w') : w'.rangeAt b k vs := fun j v hv => by
  have := h j v hv
  exact (hb.cell (World.block_lt_of_cell? w _ this)).trans this
theorem OS.below (h : OS w A n c os) (hb : Below w.heap.size w w') : OS w' A n c os :=
  ⟨h.1, h.2.1, h.2.2.1, h.2.2.2.1, fun hn => by
    obtain ⟨b, o, e, hc⟩ := h.2.2.2.2 hn
    exact ⟨b, o, e, fun j hj => range_below (hc j hj) hb⟩⟩
end

theorem infoOpt : (Tryd.prog.info? 52).map (·.size) = some 14 := by kernel_rfl
theorem zeroOpt : (Tryd.prog.info? 52).map (·.zero) = some (some (.agg (zK 0).vals.toArray)) := by kernel_rfl
theorem descOpt : ∃ fs, Tryd.prog.underlying 52 = some (.struct fs) := ⟨_, Tryd.underlying52⟩

theorem eqGuardOpt : Tryd.prog.eqGuardType Tryd.prog.depth 52 = false := by kernel_rfl
theorem stoodOpt : Tryd.prog.stoodInHeld 52 = false := by kernel_rfl
theorem eqO_ne {a b : Opt} (h : a ≠ b) : eqO a b = false := by
  cases e : eqO a b with
  | false => rfl
  | true => exact absurd ((eqO_iff a b).1 e) h
theorem run_eqlO (a b : Opt) (W : World) : (binOp .eql 52 (.agg a.vals.toArray) (.agg b.vals.toArray)).run Tryd.prog W = .ok (.bool (eqO a b)) W := by
  by_cases h : a = b
  · subst h
    simp [go_sem, Opt.vals, stoodOpt, eqO]
  · rw [eqO_ne h]
    simp [go_sem, Opt.vals, stoodOpt]
    intro h0 h1 h2 h3 h4 h5 h6 h7 h8 h9 h10 h11 h12 h13
    refine h ?_
    cases a; cases b
    simp only [Opt.mk.injEq] at *
    refine ⟨h0, ?_, ?_, ?_, ?_, h5, h6, h7, h8, h9, h10, h11, h12, h13⟩ <;> omega
theorem run_neqO (a b : Opt) (W : World) : (binOp .neq 52 (.agg a.vals.toArray) (.agg b.vals.toArray)).run Tryd.prog W = .ok (.bool (!eqO a b)) W := by
  by_cases h : a = b
  · subst h
    simp [go_sem, Opt.vals, stoodOpt, eqO]
  · rw [eqO_ne h]
    simp [go_sem, Opt.vals, stoodOpt]
    intro h0 h1 h2 h3 h4 h5 h6 h7 h8 h9 h10 h11 h12 h13
    refine h ?_
    cases a; cases b
    simp only [Opt.mk.injEq] at *
    refine ⟨h0, ?_, ?_, ?_, ?_, h5, h6, h7, h8, h9, h10, h11, h12, h13⟩ <;> omega

section
variable {ops : Array Oper} {rest : List Oper} {o : Oper} {a : Act} {w : World} {Q : Exit → Act → World → Prop}
/-- Two options compared. -/
theorem wpList_eqO (hgd : Region.wanted o (yielded ops a.tmps) = true) (x y : Operand) (t : TypeId) (ho : o.op = .binOp .eql 52 x y t) (p q : Opt) (hx : a.eval x = .agg p.vals.toArray) (hy : a.eval y = .agg q.vals.toArray)
    (h : wpList Tryd.prog ops Q rest (a.put o.dst (.bool (eqO p q))) w) : wpList Tryd.prog ops Q (o :: rest) a w :=
  wpList_val hgd _ (by
    unfold execOp
    simp only [ho, hx, hy, Sem.run_bind, run_eqGuard_agg _ _ _ _ _ _ _ eqGuardOpt, Result.andThen_ok, run_eqlO, Sem.run_pure]) h
theorem wpList_neqO (hgd : Region.wanted o (yielded ops a.tmps) = true) (x y : Operand) (t : TypeId) (ho : o.op = .binOp .neq 52 x y t) (p q : Opt) (hx : a.eval x = .agg p.vals.toArray) (hy : a.eval y = .agg q.vals.toArray)
    (h : wpList Tryd.prog ops Q rest (a.put o.dst (.bool (!eqO p q))) w) : wpList Tryd.prog ops Q (o :: rest) a w :=
  wpList_val hgd _ (by
    unfold execOp
    simp only [ho, hx, hy, Sem.run_bind, run_eqGuard_agg _ _ _ _ _ _ _ eqGuardOpt, Result.andThen_ok, run_neqO, Sem.run_pure]) h
end
end Go.Proofs.YtbbpemndkphgeaaDoor

namespace Go.Proofs.YtbbpemndkphgeaaDoor
set_option linter.unusedVariables false
set_option linter.unusedSimpArgs false
open Go.RowKit

/-- An array or struct that a call answers out of its own block, and one or two values beside it. -/
theorem results_c1 {P : Program} {fn : Func} {p q : Tmp} {ty : TypeId} (h : fn.results = #[.cell p ty, .tmp q]) (tmps : Array Value) (w : World) (g : Nat) (cs : List Value) (v : Value) (d : TypeDesc)
    (hp : tmps.getD p undef = .pointer (some ⟨g, 0, none⟩)) (hq : tmps.getD q undef = v) (hc : w.rangeAt g 0 cs) (hu : P.underlying ty = some d) (hd : d.isRow = true) (hi : (P.info? ty).map (·.size) = some cs.length) :
    (results fn tmps).run P w = .ok (.tuple #[.agg cs.toArray, v]) w := by
  have hp' : tmps[p]?.getD undef = .pointer (some ⟨g, 0, none⟩) := by simpa using hp
  have hq' : tmps[q]?.getD undef = v := by simpa using hq
  simp [results, h, hp', hq', asAddr, run_loadVar_mid w g 0 ty cs d hc hu hd hi]
theorem results_c2 {P : Program} {fn : Func} {p q r : Tmp} {ty : TypeId} (h : fn.results = #[.cell p ty, .tmp q, .tmp r]) (tmps : Array Value) (w : World) (g : Nat) (cs : List Value) (v u : Value) (d : TypeDesc)
    (hp : tmps.getD p undef = .pointer (some ⟨g, 0, none⟩)) (hq : tmps.getD q undef = v) (hr : tmps.getD r undef = u) (hc : w.rangeAt g 0 cs) (hu : P.underlying ty = some d) (hd : d.isRow = true) (hi : (P.info? ty).map (·.size) = some cs.length) :
    (results fn tmps).run P w = .ok (.tuple #[.agg cs.toArray, v, u]) w := by
  have hp' : tmps[p]?.getD undef = .pointer (some ⟨g, 0, none⟩) := by simpa using hp
  have hq' : tmps[q]?.getD undef = v := by simpa using hq
  have hr' : tmps[r]?.getD undef = u := by simpa using hr
  simp [results, h, hp', hq', hr', asAddr, run_loadVar_mid w g 0 ty cs d hc hu hd hi]
end Go.Proofs.YtbbpemndkphgeaaDoor

namespace Go.Proofs.YtbbpemndkphgeaaDoor
set_option linter.unusedVariables false
set_option linter.unusedSimpArgs false
open Go.RowKit

/-- An int as a number of 64 bits; a truth as a number. -/
def u64 (x : Int) : Nat := (x % 18446744073709551616).toNat
def b2n (b : Bool) : Nat := if b then 1 else 0
/-- A number of 64 bits as an int. -/
def s64 (n : Nat) : Int := if n < 9223372036854775808 then n else (n : Int) - 18446744073709551616
theorem u64_lt (x : Int) : u64 x < 18446744073709551616 := by unfold u64; omega
theorem u64_int (x : Int) : (u64 x : Int) = x % 18446744073709551616 := by unfold u64; omega
theorem s64_u64 {x : Int} (h : isInt x) : s64 (u64 x) = x := by
  unfold isInt at h
  unfold s64
  have := u64_int x
  split <;> omega
theorem s64_small {n : Nat} (h : n < 9223372036854775808) : s64 n = n := by unfold s64; rw [if_pos h]
theorem s64_isInt {n : Nat} (h : n < 18446744073709551616) : isInt (s64 n) := by unfold isInt s64; split <;> omega
theorem b2n_le (b : Bool) : b2n b ≤ 1 := by cases b <;> decide

/-- The number that stands in the field in place s. -/
def Opt.num (o : Opt) : Nat → Nat
  | 1 => o.key
  | 2 => o.mac
  | 3 => o.token
  | 4 => o.nonce
  | 5 => u64 o.addr
  | 6 => u64 o.reason
  | 7 => b2n o.backup
  | 8 => b2n o.hasAck
  | 9 => u64 o.ack
  | 10 => b2n o.hasMap
  | 11 => u64 o.dsn
  | 12 => u64 o.len
  | 13 => b2n o.fin
  | _ => 0
/-- o, with n in place s. -/
def Opt.put (o : Opt) : Nat → Nat → Opt
  | 1, n => { o with key := n }
  | 2, n => { o with mac := n }
  | 3, n => { o with token := n % 4294967296 }
  | 4, n => { o with nonce := n % 4294967296 }
  | 5, n => { o with addr := s64 n }
  | 6, n => { o with reason := s64 n }
  | 7, n => { o with backup := n == 1 }
  | 8, n => { o with hasAck := n == 1 }
  | 9, n => { o with ack := s64 n }
  | 10, n => { o with hasMap := n == 1 }
  | 11, n => { o with dsn := s64 n }
  | 12, n => { o with len := s64 n }
  | 13, n => { o with fin := n == 1 }
  | _, _ => o
/-- Is a truth in place s? -/
def isB : Nat → Bool
  | 7 => true
  | 8 => true
  | 10 => true
  | 13 => true
  | _ => false
/-- May n be in place s? -/
def okN (s n : Nat) : Bool := if isB s then decide (n ≤ 1) else true
/-- The places. -/
def spot (s : Nat) : Prop := 1 ≤ s ∧ s ≤ 13
theorem spot_or {s : Nat} (h : spot s) : s = 1 ∨ s = 2 ∨ s = 3 ∨ s = 4 ∨ s = 5 ∨ s = 6 ∨ s = 7 ∨ s = 8 ∨ s = 9 ∨ s = 10 ∨ s = 11 ∨ s = 12 ∨ s = 13 := by unfold spot at h; omega
theorem num_lt64 {o : Opt} (h : o.ok) {s : Nat} (hs : spot s) : o.num s < 18446744073709551616 := by
  have h1 := h.key
  have h2 := h.mac
  have h3 := h.token
  have h4 := h.nonce
  rcases spot_or hs with rfl | rfl | rfl | rfl | rfl | rfl | rfl | rfl | rfl | rfl | rfl | rfl | rfl <;> simp only [Opt.num] <;> first | omega | exact u64_lt _ | exact Nat.lt_of_le_of_lt (b2n_le _) (by decide)
theorem put_ok {o : Opt} (h : o.ok) {s n : Nat} (hn : n < 18446744073709551616) (hs : spot s) : (o.put s n).ok := by
  have hi := s64_isInt hn
  obtain ⟨h0, h1, h2, h3, h4, h5, h6, h7, h8, h9⟩ := h
  have hm : n % 4294967296 < 4294967296 := Nat.mod_lt _ (by omega)
  rcases spot_or hs with rfl | rfl | rfl | rfl | rfl | rfl | rfl | rfl | rfl | rfl | rfl | rfl | rfl <;> refine ⟨?_, ?_, ?_, ?_, ?_, ?_, ?_, ?_, ?_, ?_⟩ <;> assumption
theorem put_kind (o : Opt) (s n : Nat) : (o.put s n).kind = o.kind := by
  unfold Opt.put
  split <;> rfl

/-- A kind's fields: each one's place, and how many bytes it has. -/
def tabN : Nat → List (Nat × Nat)
  | 1 => [(1, 8)]
  | 2 => [(3, 4), (4, 4), (5, 1), (7, 1)]
  | 3 => [(2, 8), (4, 4)]
  | 4 => [(2, 8)]
  | 5 => [(8, 1), (9, 4), (10, 1), (11, 4), (12, 1), (13, 1)]
  | 6 => [(5, 1)]
  | 7 => [(5, 1)]
  | 8 => [(7, 1)]
  | 9 => [(11, 4)]
  | 10 => [(1, 8)]
  | 11 => [(6, 1)]
  | _ => []
def tab (k : Int) : List (Nat × Nat) := if k < 0 then [] else tabN k.toNat
theorem tab_neg {k : Int} (h : k < 0) : tab k = [] := by unfold tab; rw [if_pos h]
theorem tab_nat (n : Nat) : tab (n : Int) = tabN n := by unfold tab; rw [if_neg (by omega)]; rfl
theorem tab_far {k : Int} (h : 12 ≤ k) : tab k = [] := by
  obtain ⟨n, rfl⟩ := Int.eq_ofNat_of_zero_le (show 0 ≤ k by omega)
  rw [tab_nat]
  have h' : 12 ≤ n := by omega
  match n, h' with
  | n + 12, _ => rfl
theorem kind_or (k : Int) : k < 0 ∨ 12 ≤ k ∨ k = 0 ∨ k = 1 ∨ k = 2 ∨ k = 3 ∨ k = 4 ∨ k = 5 ∨ k = 6 ∨ k = 7 ∨ k = 8 ∨ k = 9 ∨ k = 10 ∨ k = 11 := by omega
/-- A list of fields that may be. -/
def Fine (l : List (Nat × Nat)) : Prop := (∀ f ∈ l, spot f.1 ∧ 1 ≤ f.2 ∧ f.2 ≤ 8) ∧ l.length ≤ 6 ∧ (l.map (·.1)).Nodup
theorem fine_tabN (n : Nat) : Fine (tabN n) := by
  unfold tabN Fine spot
  split <;> decide
theorem fine_tab (k : Int) : Fine (tab k) := by
  unfold tab
  split
  · exact ⟨by simp, by simp, by simp⟩
  · exact fine_tabN _

/-- Does each field fit into its bytes? How many bytes are they? What do they tell? -/
def fitB (o : Opt) (l : List (Nat × Nat)) : Bool := l.all fun f => decide (o.num f.1 < 256 ^ f.2)
def long (l : List (Nat × Nat)) : Nat := (l.map (·.2)).sum
def toldB (o : Opt) (l : List (Nat × Nat)) : List UInt8 := l.flatMap fun f => be (o.num f.1) f.2
/-- o, with what the bytes b tell in the fields; with zeros in the fields. -/
def prs : Opt → List (Nat × Nat) → List UInt8 → Opt
  | o, [], _ => o
  | o, f :: r, b => prs (o.put f.1 (num (b.take f.2))) r (b.drop f.2)
def okL : List (Nat × Nat) → List UInt8 → Bool
  | [], _ => true
  | f :: r, b => okN f.1 (num (b.take f.2)) && okL r (b.drop f.2)
def bareO (o : Opt) (l : List (Nat × Nat)) : Opt := l.foldl (fun o f => o.put f.1 0) o
theorem toldB_length (o : Opt) (l : List (Nat × Nat)) : (toldB o l).length = long l := by
  induction l with
  | nil => rfl
  | cons f r ih =>
    have : toldB o (f :: r) = be (o.num f.1) f.2 ++ toldB o r := rfl
    rw [this, List.length_append, be_length, ih]
    rfl
end Go.Proofs.YtbbpemndkphgeaaDoor

namespace Go.Proofs.YtbbpemndkphgeaaDoor
set_option linter.unusedVariables false
set_option linter.unusedSimpArgs false
open Go.RowKit

/-- A segment: its fields, its two slices as values, and what these hold. -/
structure Seg where
  src : Int
  dst : Int
  sport : Int
  dport : Int
  seq : Nat
  ack : Nat
  syn : Bool
  acks : Bool
  fin : Bool
  rst : Bool
  win : Int
  oA : Option Addr
  on : Nat
  oc : Nat
  dA : Option Addr
  dn : Nat
  dc : Nat
  os : List Opt
  ds : List UInt8

/-- Its cells. -/
def Seg.vals (s : Seg) : List Value := [.int .i64 s.src, .int .i64 s.dst, .int .i64 s.sport, .int .i64 s.dport, .int .u32 (s.seq : Int), .int .u32 (s.ack : Int), .bool s.syn, .bool s.acks, .bool s.fin, .bool s.rst, .int .i64 s.win, .slice s.oA s.on s.oc, .slice s.dA s.dn s.dc]
theorem Seg.vals_length (s : Seg) : s.vals.length = 13 := rfl
/-- A segment that stands in w. -/
structure SG (w : World) (s : Seg) : Prop where
  src : isInt s.src
  dst : isInt s.dst
  sport : isInt s.sport
  dport : isInt s.dport
  seq : s.seq < 4294967296
  ack : s.ack < 4294967296
  win : isInt s.win
  opts : OS w s.oA s.on s.oc s.os
  data : RB w s.dA s.dn s.dc s.ds
theorem SG.below {w w' : World} {s : Seg} (h : SG w s) (hb : Below w.heap.size w w') : SG w' s := ⟨h.src, h.dst, h.sport, h.dport, h.seq, h.ack, h.win, h.opts.below hb, h.data.below hb⟩
theorem sv_one (s : Seg) : ∀ u ∈ s.vals, u.oneCell' = true := by
  intro u hu
  simp only [Seg.vals, List.mem_cons, List.not_mem_nil, or_false] at hu
  rcases hu with rfl | rfl | rfl | rfl | rfl | rfl | rfl | rfl | rfl | rfl | rfl | rfl | rfl <;> rfl
/-- A segment with nothing, but addresses and ports. -/
def aS (a b c d : Int) : Seg := ⟨a, b, c, d, 0, 0, false, false, false, false, 0, none, 0, 0, none, 0, 0, [], []⟩
def zS : Seg := aS 0 0 0 0
theorem OS.nil_ (w : World) : OS w none 0 0 [] := ⟨rfl, Nat.le_refl _, Nat.zero_le _, by simp, fun h => absurd h (by omega)⟩
theorem aS_ok (w : World) {a b c d : Int} (ha : isInt a) (hb : isInt b) (hc : isInt c) (hd : isInt d) : SG w (aS a b c d) :=
  ⟨ha, hb, hc, hd, Nat.zero_lt_succ _, Nat.zero_lt_succ _, show isInt 0 by unfold isInt; decide, OS.nil_ w, RB.nil_ w⟩
theorem zS_ok (w : World) : SG w zS := aS_ok w (by unfold isInt; decide) (by unfold isInt; decide) (by unfold isInt; decide) (by unfold isInt; decide)
theorem infoSeg : (Tryd.prog.info? 26).map (·.size) = some 13 := by kernel_rfl
theorem zeroSeg : (Tryd.prog.info? 26).map (·.zero) = some (some (.agg zS.vals.toArray)) := by kernel_rfl

/-- Are two segments the same? -/
def SameS (a b : Seg) : Prop := a.src = b.src ∧ a.dst = b.dst ∧ a.sport = b.sport ∧ a.dport = b.dport ∧ a.seq = b.seq ∧ a.ack = b.ack ∧ a.syn = b.syn ∧ a.acks = b.acks ∧ a.fin = b.fin ∧ a.rst = b.rst ∧ a.win = b.win ∧ a.os = b.os ∧ a.ds = b.ds
theorem SameS.refl (a : Seg) : SameS a a := ⟨rfl, rfl, rfl, rfl, rfl, rfl, rfl, rfl, rfl, rfl, rfl, rfl, rfl⟩

/-- Flags as bits. -/
def flN (a b c d : Bool) : Nat := b2n a + 2 * b2n b + 4 * b2n c + 8 * b2n d
theorem flN_lt (a b c d : Bool) : flN a b c d < 16 := by cases a <;> cases b <;> cases c <;> cases d <;> decide
theorem flN_inj {a b c d a' b' c' d' : Bool} (h : flN a b c d = flN a' b' c' d') : a = a' ∧ b = b' ∧ c = c' ∧ d = d' := by
  revert h
  cases a <;> cases b <;> cases c <;> cases d <;> cases a' <;> cases b' <;> cases c' <;> cases d' <;> decide
/-- The numbers ahead of a segment's bytes, as values. -/
def hv (l : List Nat) : List Value := l.map fun (n : Nat) => .int .u64 (n : Int)
theorem hv_length (l : List Nat) : (hv l).length = l.length := by simp [hv]
theorem hv_at {l : List Nat} {k : Nat} (h : k < l.length) : (hv l)[k]? = some (.int .u64 ((l.getD k 0 : Nat) : Int)) := by
  simp [hv, h]
theorem hv_one (l : List Nat) : ∀ u ∈ hv l, u.oneCell' = true := by
  intro u hu
  obtain ⟨x, _, rfl⟩ := List.mem_map.1 hu
  rfl
theorem hv_set (l : List Nat) (k x : Nat) : (hv l).set k (.int .u64 (x : Int)) = hv (l.set k x) := by
  unfold hv
  rw [List.map_set]
/-- A segment's numbers. -/
def Seg.head (s : Seg) : List Nat := [u64 s.src, u64 s.dst, u64 s.sport, u64 s.dport, s.seq, s.ack, flN s.syn s.acks s.fin s.rst, u64 s.win, s.on, s.dn]
/-- How many bytes each has, and all ahead of it. -/
def wd (k : Nat) : Nat := [1, 1, 2, 2, 4, 4, 1, 2, 1, 1].getD k 0
def off (k : Nat) : Nat := [0, 1, 2, 4, 6, 10, 14, 15, 17, 18, 19].getD k 0
theorem off_step {k : Nat} (h : k < 10) : off (k + 1) = off k + wd k ∧ 1 ≤ wd k ∧ wd k ≤ 4 ∧ off (k + 1) ≤ 19 := by
  rcases (by omega : k = 0 ∨ k = 1 ∨ k = 2 ∨ k = 3 ∨ k = 4 ∨ k = 5 ∨ k = 6 ∨ k = 7 ∨ k = 8 ∨ k = 9) with rfl | rfl | rfl | rfl | rfl | rfl | rfl | rfl | rfl | rfl <;> decide
theorem wn_wd {k : Nat} (h : k < 10) : wn (wd k : Int) = wd k := by
  rcases (by omega : k = 0 ∨ k = 1 ∨ k = 2 ∨ k = 3 ∨ k = 4 ∨ k = 5 ∨ k = 6 ∨ k = 7 ∨ k = 8 ∨ k = 9) with rfl | rfl | rfl | rfl | rfl | rfl | rfl | rfl | rfl | rfl <;> decide
/-- The bytes of the first k numbers. -/
def hby (h : List Nat) (k : Nat) : List UInt8 := (List.range k).flatMap fun i => be (h.getD i 0) (wd i)
theorem hby_zero (h : List Nat) : hby h 0 = [] := rfl
theorem hby_step (h : List Nat) (k : Nat) : hby h (k + 1) = hby h k ++ be (h.getD k 0) (wd k) := by
  unfold hby
  rw [List.range_succ, List.flatMap_append]
  simp
theorem hby_length (h : List Nat) : ∀ k, k ≤ 10 → (hby h k).length = off k
  | 0, _ => rfl
  | k + 1, hk => by
    rw [hby_step, List.length_append, hby_length h k (by omega), be_length, (off_step (by omega)).1]

/-- An element of an array that is a value. -/
theorem run_index_row (W : World) (t e : TypeId) (n : Nat) (cs : Array Value) (k : Int) (v : Value) (ht : Tryd.prog.underlying t = some (.array n e)) (hs : ∀ W : World, (sizeOf e).run Tryd.prog W = .ok 1 W) (ha : ∀ W : World, (isAgg e).run Tryd.prog W = .ok false W)
    (h0 : 0 ≤ k) (hk : k < n) (hv : cs[k.toNat]? = some v) : (Instr.index t (.agg cs) (.int .i64 k)).run Tryd.prog W = .ok v W := by
  simp [Instr.index, run_underlying ht, asIntOf, h0, hk, hs, part, ha, hv, show ¬ (n : Int) ≤ k by omega]
theorem szBool (W : World) : (sizeOf 4).run Tryd.prog W = .ok 1 W := by kernel_rfl
theorem aggBool (W : World) : (isAgg 4).run Tryd.prog W = .ok false W := by kernel_rfl
theorem szU64 (W : World) : (sizeOf 44).run Tryd.prog W = .ok 1 W := by kernel_rfl
theorem aggU64 (W : World) : (isAgg 44).run Tryd.prog W = .ok false W := by kernel_rfl
theorem szInt (W : World) : (sizeOf 3).run Tryd.prog W = .ok 1 W := by kernel_rfl
theorem aggInt (W : World) : (isAgg 3).run Tryd.prog W = .ok false W := by kernel_rfl

/-- A row that a call answers out of its own block. -/
theorem results_c0 {P : Program} {fn : Func} {p : Tmp} {ty : TypeId} (h : fn.results = #[.cell p ty]) (tmps : Array Value) (w : World) (g : Nat) (cs : List Value) (d : TypeDesc)
    (hp : tmps.getD p undef = .pointer (some ⟨g, 0, none⟩)) (hc : w.rangeAt g 0 cs) (hu : P.underlying ty = some d) (hd : d.isRow = true) (hi : (P.info? ty).map (·.size) = some cs.length) :
    (results fn tmps).run P w = .ok (.agg cs.toArray) w := by
  have hp' : tmps[p]?.getD undef = .pointer (some ⟨g, 0, none⟩) := by simpa using hp
  simp [results, h, hp', asAddr, run_loadVar_mid w g 0 ty cs d hc hu hd hi]
end Go.Proofs.YtbbpemndkphgeaaDoor
