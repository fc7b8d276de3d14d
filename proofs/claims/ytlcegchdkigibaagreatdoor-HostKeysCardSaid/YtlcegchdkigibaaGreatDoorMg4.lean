/- Out of the rows' condition: the table of digests holds FIPS 180-4's constants. Condition: the listed variables read as the program's text lays them.
Between two worlds: which blocks alone may have turned. No condition.
Words of our own for rows of values in a block of their own: what a block holds; a variable that holds a row boxed, laid, loaded, stored (cut out of layer 7's). No condition.
append onto a row of the call's own, of elements of any size, from a slice that may be nil, empty or not. Conditions: the element's size and zero are known; at most 2^40 elements, of at most 128 bytes each.
A connection in memory: its cells, a leg's cells, a segment's; a sender and a receiver to which nothing was done yet. No condition. -/
import Derived.Test.YtlcegchdkigibaaGreatDoorMg3
import Derived.Test.YtlcegchdkigibaaGreatDoorMg2
import Derived.Maps.AppendAt
import Derived.Maps.OwnSet
import Derived.Maps.RangeWalk
import Derived.Deep.OwnRows
import Derived.Deep.MidRow
import Derived.Deep.AppendLies
import Derived.Deep.Onto
namespace Go.Proofs.YtlcegchdkigibaaGreatDoor
set_option linter.unusedVariables false
set_option linter.unusedSimpArgs false

theorem tab2_of {W : World} (h : laidMetH Tryz.prog [("ferrybridge/close.moves", Rows.laid_ferrybridge_close_moves), ("ferrybridge/sha.factors", Rows.laid_ferrybridge_sha_factors)] W) : LK.Tab W := by
  rw [MakeChecks.laidMetH_plain _ _ _ (by kernel_rfl)] at h
  obtain ⟨ps, ⟨_, _, _, _, _, q, _, _, _, _, hr, _⟩, _⟩ := h
  have hr' : DataW.LaidVars Tryz.prog W (("ferrybridge/sha.factors", Lib.tabData .u32 LK.kz) :: []) q := hr
  obtain ⟨g', t', cs, fuel, p, q2, hg', ht', hvar, hd, _, _⟩ := hr'
  obtain rfl := Option.some.inj (LK.gTab.symm.trans hg')
  obtain rfl := Option.some.inj (LK.gTabType.symm.trans ht')
  have hT : Lib.TabIs Tryz.prog W "ferrybridge/sha.factors" .u32 LK.kz := by
    unfold Lib.TabIs
    rw [hvar, ← Lib.cells_of_tab Tryz.underlying341 Tryz.underlying36 (by kernel_rfl) (by kernel_rfl) hd]
  intro i hi
  rw [hT.cell LK.gTab i hi, LK.kz_kn i hi]
end Go.Proofs.YtlcegchdkigibaaGreatDoor

namespace Go.Proofs.YtlcegchdkigibaaGreatDoor
set_option linter.unusedVariables false
set_option linter.unusedSimpArgs false
open Go.RowKit

/-- Between w and w' nothing has turned but blocks of which that is told. -/
structure Ch (w w' : World) (may : Nat → Prop) : Prop where
  os : w'.os = w.os
  tape : w'.tape = w.tape
  output : w'.output = w.output
  size : w.heap.size ≤ w'.heap.size
  block : ∀ k, k < w.heap.size → ¬ may k → w'.heap[k]? = w.heap[k]?

theorem Ch.refl (w : World) (may : Nat → Prop) : Ch w w may := ⟨rfl, rfl, rfl, Nat.le_refl _, fun _ _ _ => rfl⟩
theorem Ch.trans {a b c : World} {m m' m'' : Nat → Prop} (h : Ch a b m) (k : Ch b c m') (hm : ∀ x, x < a.heap.size → m x → m'' x) (hm' : ∀ x, x < a.heap.size → m' x → m'' x) : Ch a c m'' :=
  ⟨k.os.trans h.os, k.tape.trans h.tape, k.output.trans h.output, Nat.le_trans h.size k.size, fun x hx hn =>
    (k.block x (Nat.lt_of_lt_of_le hx h.size) (fun hc => hn (hm' x hx hc))).trans (h.block x hx (fun hc => hn (hm x hx hc)))⟩
theorem Ch.mono {a b : World} {m m' : Nat → Prop} (h : Ch a b m) (hm : ∀ x, x < a.heap.size → m x → m' x) : Ch a b m' := ⟨h.os, h.tape, h.output, h.size, fun x hx hn => h.block x hx (fun hc => hn (hm x hx hc))⟩
theorem Ch.then_ {a b c : World} {m : Nat → Prop} (h : Ch a b m) (k : Ch b c m) : Ch a c m := h.trans k (fun _ _ x => x) (fun _ _ x => x)
theorem Ch.drew {a b : World} {m : Nat → Prop} (h : Ch a b m) : Ch a b.drew m := ⟨h.os, h.tape, h.output, h.size, h.block⟩
theorem Ch.drewN {a b : World} {m : Nat → Prop} (h : Ch a b m) (n : Nat) : Ch a (b.drewN n) m := ⟨h.os, h.tape, h.output, h.size, h.block⟩
theorem Ch.alloc {a b : World} {m : Nat → Prop} (h : Ch a b m) (o : Obj) : Ch a (b.alloc o) m :=
  h.then_ ⟨rfl, rfl, rfl, by simp, fun k hk _ => Below.heap_alloc b o k hk⟩
theorem Ch.setCell {a b : World} {m : Nat → Prop} (h : Ch a b m) {p : Addr} (hp : p.block < a.heap.size → m p.block) (u : Value) : Ch a (b.setCell p u) m :=
  ⟨h.os, h.tape, h.output, by simpa [World.setCell] using h.size, fun k hk hn => by
    rw [Below.heap_setCell b p u k (fun e => hn (by rw [e]; exact hp (by rw [← e]; exact hk)))]
    exact h.block k hk hn⟩
theorem Ch.grown {a b c : World} {m : Nat → Prop} {row : Option Nat} (h : Ch a b m) (hg : b.grownBy c row) (hr : ∀ k, row = some k → k < a.heap.size → m k) : Ch a c m :=
  h.trans (m' := fun k => row = some k) ⟨hg.os, hg.tape, hg.output, hg.size, fun k hk hn => hg.block k hk (fun e => hn e.symm)⟩ (fun _ _ x => x) (fun x hx e => hr x e hx)
theorem Ch.turned {a b c : World} {m : Nat → Prop} {mb : Nat} (h : Ch a b m) (hg : b.mapTurned c mb) (hm : mb < a.heap.size → m mb) : Ch a c m :=
  h.grown hg.grown fun k e hk => by injection e with e; subst e; exact hm hk
theorem Ch.below {a b : World} {m : Nat → Prop} (h : Ch a b m) (hm : ∀ x, x < a.heap.size → ¬ m x) : Below a.heap.size a b :=
  ⟨h.os, h.tape, h.output, h.size, fun k hk => h.block k hk (hm k hk)⟩
theorem Ch.of_below {a b : World} (m : Nat → Prop) (h : Below a.heap.size a b) : Ch a b m := ⟨h.os, h.tape, h.output, h.size, fun k hk _ => h.block k hk⟩
theorem Ch.cell {a b : World} {m : Nat → Prop} (h : Ch a b m) {p : Addr} {v : Value} (hc : a.cell? p = some v) (hn : ¬ m p.block) : b.cell? p = some v :=
  (World.cell?_of_block (h.block p.block (World.block_lt_of_cell? a p hc) hn)).trans hc

theorem own_ch2 {w w' : World} {base size : Nat} {e : TypeId} {v : Value} {n : Nat} {xs : List Value} {m : Nat → Prop} (h : w.ownsRow base e size v n xs) (c : Ch w w' m) (hm : ∀ g, v.ownBlock = some g → ¬ m g) : w'.ownsRow base e size v n xs := by
  refine ⟨h.1, ?_⟩
  rcases h.2 with hn | ⟨g, cap, cur, hv, hb, hg, rest⟩
  · exact .inl hn
  · exact .inr ⟨g, cap, cur, hv, hb, (c.block g (Array.getElem?_eq_some_iff.1 hg).1 (hm g (by rw [hv]; rfl))).trans hg, rest⟩
theorem own_in {w : World} {base size : Nat} {e : TypeId} {v : Value} {n : Nat} {xs : List Value} (h : w.ownsRow base e size v n xs) {g : Nat} (hg : v.ownBlock = some g) : base ≤ g ∧ g < w.heap.size := by
  rcases h.2 with ⟨rfl, _⟩ | ⟨g', cap, cur, rfl, hb, hg', _⟩
  · cases hg
  · injection hg with hg
    subst hg
    exact ⟨hb, (Array.getElem?_eq_some_iff.1 hg').1⟩
theorem below_dn {B : Nat} {w w' : World} (h : Below B w w') (n : Nat) : Below B w (w'.drewN n) := ⟨h.os, h.tape, h.output, h.size, h.block⟩

end Go.Proofs.YtlcegchdkigibaaGreatDoor

namespace Go.Proofs.YtlcegchdkigibaaGreatDoor
set_option linter.unusedVariables false
set_option linter.unusedSimpArgs false
open Go.RowKit

/-- A number that an int may be. -/
def isInt (x : Int) : Prop := -9223372036854775808 ≤ x ∧ x ≤ 9223372036854775807
theorem range_below {w w' : World} {b k : Nat} {vs : List Value} (h : w.rangeAt b k vs) (hb : Below w.heap.size w w') : w'.rangeAt b k vs := fun j v hv => by
  have := h j v hv
  exact (hb.cell (World.block_lt_of_cell? w _ this)).trans this
theorem rangeAt_ch {w w' : World} {m : Nat → Prop} (c : Ch w w' m) {b o : Nat} {x : List Value} (h : w.rangeAt b o x) (hb : ¬ m b) : w'.rangeAt b o x := fun j v hv => c.cell (h j v hv) hb

/-- Block b holds the cells vs and may be written. -/
def Own (w : World) (b : Nat) (vs : List Value) : Prop := ∀ j, j < vs.length → w.cell? ⟨b, j, none⟩ = vs[j]? ∧ w.frozen? ⟨b, j, none⟩ = false
section
variable {w w' : World} {b : Nat} {vs us : List Value}
theorem Own.range (h : Own w b vs) : w.rangeAt b 0 vs := fun j v hv => by
  rw [Nat.zero_add, (h j (List.getElem?_eq_some_iff.1 hv).1).1, hv]
theorem Own.there (h : Own w b vs) : w.there b 0 vs.length := fun j hj => by
  rw [Nat.zero_add, (h j hj).1, List.getElem?_eq_getElem hj]
  exact ⟨rfl, (h j hj).2⟩
theorem Own.new (w : World) (vs : List Value) (t : TypeId) : Own (w.alloc (.cells vs.toArray t)) w.heap.size vs := fun j hj => by
  refine ⟨?_, World.frozen?_alloc_at _ t _ j rfl⟩
  rw [cell_of_row _ w.heap.size j _ t (0, 0) (heap_alloc_new w _), List.getElem?_toArray]
theorem Own.lt (h : Own w b vs) (hn : 0 < vs.length) : b < w.heap.size := by
  have h1 := (h 0 hn).1
  rw [List.getElem?_eq_getElem hn] at h1
  exact World.block_lt_of_cell? w _ h1
theorem Own.far {row : Option Nat} (h : Own w b vs) (hg : w.grownBy w' row) (hne : some b ≠ row) : Own w' b vs := fun j hj =>
  ⟨(hg.cell_far _ (h.lt (by omega)) hne).trans (h j hj).1, (hg.frozen_far _ (h.lt (by omega)) hne).trans (h j hj).2⟩
theorem Own.below (h : Own w b vs) (hb : Below w.heap.size w w') : Own w' b vs := fun j hj =>
  ⟨(hb.cell (h.lt (by omega))).trans (h j hj).1, (hb.frozen (h.lt (by omega))).trans (h j hj).2⟩
theorem Own.put (h : Own w b us) (hl : vs.length = us.length) : Own (w.setCells b 0 vs) b vs := fun j hj => by
  have h1 := World.rangeAt_setCells_same w b 0 vs (by rw [hl]; exact h.there) j _ (List.getElem?_eq_getElem hj)
  rw [Nat.zero_add] at h1
  exact ⟨by rw [h1, List.getElem?_eq_getElem hj], by rw [World.frozen?_setCells]; exact (h j (by omega)).2⟩
theorem Own.set (h : Own w b vs) (k : Nat) (hk : k < vs.length) (v : Value) : Own (w.setCell ⟨b, k, none⟩ v) b (vs.set k v) := fun j hj => by
  rw [List.length_set] at hj
  refine ⟨?_, by rw [World.frozen?_setCell]; exact (h j hj).2⟩
  by_cases e : j = k
  · subst e
    have h1 := (h j hj).1
    rw [List.getElem?_eq_getElem hj] at h1
    rw [World.cell?_setCell_same w _ _ h1, List.getElem?_set_self hj]
  · rw [World.cell?_setCell_other w _ _ _ (by intro h; injection h with _ h; exact e h.symm), (h j hj).1, List.getElem?_set_ne (by omega)]
end

theorem wpList_here {P : Program} {ops : Array Oper} {rest : List Oper} {op : Oper} {a : Act} {w : World} {Q : Exit → Act → World → Prop} (h : wpList P ops Q (op :: rest) a w) : wpList P ops Q (op :: rest) a w := h
theorem v_g_set (w : World) (b k : Nat) (v : Value) : w.grownBy (w.setCell ⟨b, k, none⟩ v) (some b) := ⟨rfl, rfl, rfl, by simp [World.setCell], fun i _ hi => Below.heap_setCell _ _ _ _ (fun e => hi (by rw [e]))⟩
theorem v_g_refl (w : World) (row : Option Nat) : w.grownBy w row := ⟨rfl, rfl, rfl, Nat.le_refl _, fun _ _ _ => rfl⟩
theorem v_g_setCells (b : Nat) : ∀ (vs : List Value) (o : Nat) (w : World), w.grownBy (w.setCells b o vs) (some b)
  | [], _, w => v_g_refl w _
  | v :: r, o, w => (v_g_set w b o v).trans (v_g_setCells b r (o + 1) _)
theorem v_g_below {w w' : World} (h : Below w.heap.size w w') (row : Option Nat) : w.grownBy w' row := ⟨h.os, h.tape, h.output, h.size, fun k hk _ => h.block k hk⟩
theorem v_below_g {B : Nat} {a w w' : World} {b : Nat} (h : Below B a w) (hg : w.grownBy w' (some b)) (hB : B ≤ w.heap.size) (hb : B ≤ b) : Below B a w' := h.grown hg hB fun k hk => by injection hk with hk; omega
theorem v_size_setCells (b : Nat) : ∀ (vs : List Value) (o : Nat) (w : World), (w.setCells b o vs).heap.size = w.heap.size
  | [], _, _ => rfl
  | v :: r, o, w => by rw [World.setCells, v_size_setCells b r (o + 1)]; simp [World.setCell]

section
variable {P : Program} {ops : Array Oper} {rest : List Oper} {o : Oper} {a : Act} {w : World} {Q : Exit → Act → World → Prop}
theorem wpList_want (hw : Region.wanted o (yielded ops a.tmps) = true) (h : ∀ K : Act → World → Prop, (∀ a w, wpList P ops Q rest a w → K a w) → o.wp P a w K Q) : wpList P ops Q (o :: rest) a w :=
  wpList_step fun K hK => by rw [if_pos hw]; exact h K hK
/-- A new variable that holds a row. -/
theorem wpList_boxV (hg : Region.wanted o (yielded ops a.tmps) = true) (t : TypeId) (x : Operand) (ho : o.op = .box t x) (vs : List Value) (hx : a.eval x = .agg vs.toArray) (g : Nat) (hgs : w.heap.size = g)
    (h : ∀ w', Own w' g vs → Below w.heap.size w w' → w'.heap.size = g + 1 → wpList P ops Q rest (a.put o.dst (.pointer (some ⟨g, 0, none⟩))) w') : wpList P ops Q (o :: rest) a w := by
  subst hgs
  refine wpList_want hg fun K hK => ?_
  unfold Oper.wp execOp
  simp only [ho, hx, Sem.run_bind, Instr.box, newVar, newRow, run_newObj_alloc, Sem.run_pure, Result.andThen_ok]
  exact hK _ _ (h _ (Own.new w vs t) (below_a w _) (by simp))
/-- .. that holds its type's zeros. -/
theorem wpList_allocV (hgd : Region.wanted o (yielded ops a.tmps) = true) (t : TypeId) (ho : o.op = .alloc t) (vs : List Value) (hz : (P.info? t).map (·.zero) = some (some (.agg vs.toArray))) (g : Nat) (hg : w.heap.size = g)
    (h : ∀ w', Own w' g vs → Below w.heap.size w w' → w'.heap.size = g + 1 → wpList P ops Q rest (a.put o.dst (.pointer (some ⟨g, 0, none⟩))) w') : wpList P ops Q (o :: rest) a w := by
  subst hg
  refine wpList_want hgd fun K hK => ?_
  cases hi : P.info? t with
  | none => simp [hi] at hz
  | some i =>
    have hz' : i.zero = some (.agg vs.toArray) := by simpa [hi] using hz
    have hrun : (execOp a.eval o).run P w = .ok (.value (.pointer (some ⟨w.heap.size, 0, none⟩))) (w.alloc (.cells vs.toArray t)) := by
      simp [execOp, ho, Instr.alloc, newVar, newRow, zeroValue, typeInfo, hi, hz', Value.cells, Result.andThen]
    unfold Oper.wp
    rw [hrun, Oper.upon_value]
    exact hK _ _ (h _ (Own.new w vs t) (below_a w _) (by simp))
/-- A whole row, loaded from wherever it lies. -/
theorem wpList_loadV (hgd : Region.wanted o (yielded ops a.tmps) = true) (ty : TypeId) (x : Operand) (ho : o.op = .load ty x) (b k : Nat) (vs : List Value) (hx : a.eval x = .pointer (some ⟨b, k, none⟩)) (hA : w.rangeAt b k vs) (d : TypeDesc)
    (hu : P.underlying ty = some d) (hd : d.isRow = true) (hi : (P.info? ty).map (·.size) = some vs.length)
    (h : wpList P ops Q rest (a.put o.dst (.agg vs.toArray)) w) : wpList P ops Q (o :: rest) a w :=
  wpList_want hgd fun _ hK => wp_load_mid ty x ho b k hx vs d hA hu hd hi (hK _ _ h)
/-- .. and stored. -/
theorem wpList_storeV (hgd : Region.wanted o (yielded ops a.tmps) = true) (ty : TypeId) (x y : Operand) (ho : o.op = .store ty x y) (b : Nat) (us vs : List Value) (hx : a.eval x = .pointer (some ⟨b, 0, none⟩)) (hy : a.eval y = .agg vs.toArray) (hA : Own w b us)
    (hl : vs.length = us.length) (h1 : ∀ u ∈ vs, u.oneCell' = true) (hi : (P.info? ty).map (·.size) = some vs.length)
    (h : ∀ w', Own w' b vs → w.grownBy w' (some b) → w'.heap.size = w.heap.size → wpList P ops Q rest (a.put o.dst undef) w') : wpList P ops Q (o :: rest) a w :=
  wpList_want hgd fun _ hK => wp_store_mid ty x y ho b 0 vs.toArray hx hy (by rw [List.size_toArray, hl]; exact hA.there) (by simpa using hi) (all_oneCell_toArray h1) (hK _ _ (h _ (hA.put hl) (v_g_setCells b _ 0 w) (v_size_setCells b _ 0 w)))
/-- An operation that answers a value and leaves the world. -/
theorem wpList_val (hgd : Region.wanted o (yielded ops a.tmps) = true) (v : Value) (hr : (execOp a.eval o).run P w = .ok (.value v) w) (h : wpList P ops Q rest (a.put o.dst v) w) : wpList P ops Q (o :: rest) a w :=
  wpList_want hgd fun _ hK => by
    unfold Oper.wp
    rw [hr, Oper.upon_value]
    exact hK _ _ h
end

/-- A row that a call answers out of its own block. -/
theorem results_c0 {P : Program} {fn : Func} {p : Tmp} {ty : TypeId} (h : fn.results = #[.cell p ty]) (tmps : Array Value) (w : World) (g : Nat) (cs : List Value) (d : TypeDesc)
    (hp : tmps.getD p undef = .pointer (some ⟨g, 0, none⟩)) (hc : w.rangeAt g 0 cs) (hu : P.underlying ty = some d) (hd : d.isRow = true) (hi : (P.info? ty).map (·.size) = some cs.length) :
    (results fn tmps).run P w = .ok (.agg cs.toArray) w := by
  have hp' : tmps[p]?.getD undef = .pointer (some ⟨g, 0, none⟩) := by simpa using hp
  simp [results, h, hp', asAddr, run_loadVar_mid w g 0 ty cs d hc hu hd hi]
end Go.Proofs.YtlcegchdkigibaaGreatDoor

namespace Go.Proofs.YtlcegchdkigibaaGreatDoor
set_option linter.unusedVariables false
set_option linter.unusedSimpArgs false
set_option maxRecDepth 20000
open Go.RowKit

/-- The slice '.slice A m c' holds the cells ys, so many each element. -/
def Src (w : World) (A : Option Addr) (m c size : Nat) (ys : List Value) : Prop :=
  ys.length = m * size ∧ m ≤ c ∧ c ≤ 9223372036854775807 ∧ (∀ u ∈ ys, u.oneCell' = true) ∧ (0 < m → ∃ b o, A = some ⟨b, o, none⟩ ∧ w.rangeAt b o ys)
section
variable {w w' : World} {A : Option Addr} {m c size : Nat} {ys : List Value}
theorem Src.below (h : Src w A m c size ys) (b : Below w.heap.size w w') : Src w' A m c size ys :=
  ⟨h.1, h.2.1, h.2.2.1, h.2.2.2.1, fun hm => by
    obtain ⟨g, o, e, hr⟩ := h.2.2.2.2 hm
    exact ⟨g, o, e, range_below hr b⟩⟩
theorem Src.of_own {base : Nat} {e : TypeId} {n : Nat} {A : Option Addr} {k : Nat} (h : w.ownsRow base e size (.slice A k c) n ys) (h1 : ∀ u ∈ ys, u.oneCell' = true) : Src w A n c size ys ∧ k = n := by
  rcases h.2 with ⟨e1, rfl⟩ | ⟨g, cap, cur, e1, hb, hg, hnc, hm, hs, ht⟩
  · injection e1 with e1 e2 e3
    subst e1 e2 e3
    exact ⟨⟨h.1, Nat.le_refl _, Nat.zero_le _, h1, fun h => absurd h (by omega)⟩, rfl⟩
  · injection e1 with e1 e2 e3
    subst e1 e2 e3
    refine ⟨⟨h.1, hnc, by unfold maxLen at hm; omega, h1, fun _ => ⟨g, 0, rfl, fun j u hu => ?_⟩⟩, rfl⟩
    have hj := (List.getElem?_eq_some_iff.1 hu).1
    rw [Nat.zero_add, World.ownsRow.cellAt h j (by rw [← h.1]; exact hj)]
    exact hu
theorem ch_ownrow {base : Nat} {e : TypeId} {v : Value} {n : Nat} {xs : List Value} (h : w.ownsRow base e size v n xs) {g : Nat} (hg : v.ownBlock = some g) : ∃ cs, w.heap[g]? = some (.cells cs e (0, 0)) := by
  rcases h.2 with ⟨rfl, _⟩ | ⟨g', cap, cur, rfl, _, hg', _⟩
  · cases hg
  · injection hg with hg
    subst hg
    exact ⟨cur, hg'⟩
end

section
variable {P : Program} (w : World)
/-- The run of append. -/
theorem app_gen (t ty e : TypeId) (z : Value) (size by_ : Nat) (ht : P.underlying t = some (.slice e)) (hi : (P.info? e).map (fun i => (i.zero, i.size, i.bytes)) = some (some z, size, by_)) (hzs : z.cells.size = size) (hsz : 0 < size) (hby : by_ ≤ 128)
    (base : Nat) (v : Value) (n : Nat) (xs : List Value) (hown : w.ownsRow base e size v n xs)
    (A : Option Addr) (m c : Nat) (ys : List Value) (hy : Src w A m c size ys) (hs : n + m ≤ 1099511627776) (hb : base ≤ w.heap.size) :
    ∃ v' w', (Builtin.append_ #[t, t] ty #[v, .slice A m c]).run P w = .ok v' w' ∧ w'.ownsRow base e size v' (n + m) (xs ++ ys) ∧ w.grownBy w' v.ownBlock ∧ (v'.ownBlock = v.ownBlock ∨ v'.ownBlock = some w.heap.size) := by
  obtain ⟨i, hi, hz, h1, h2⟩ := info_parts hi
  rcases A with _ | ad
  · have hm : m = 0 := by
      rcases Nat.eq_zero_or_pos m with h0 | h0
      · exact h0
      · obtain ⟨_, _, e, _⟩ := hy.2.2.2.2 h0
        cases e
    subst hm
    obtain rfl : ys = [] := List.eq_nil_of_length_eq_zero (by rw [hy.1]; omega)
    refine ⟨v, w, ?_, by simpa using hown, v_g_refl _ _, .inl rfl⟩
    rcases hown.2 with ⟨rfl, rfl⟩ | ⟨g, cap, cur, rfl, _, _, hnc, _⟩
    · simp [Builtin.append_, run_underlying ht, sizeOf, typeInfo, hi, Builtin.lenOf, Builtin.firstCells]
    · simp [Builtin.append_, run_underlying ht, sizeOf, typeInfo, hi, Builtin.lenOf, Builtin.firstCells, hnc, storeCells]
  · obtain ⟨v', w', hrun, g2, g3, _, g5⟩ := run_append_own_at (P := P) w base t ty e i z size by_ ht hi hz h1 h2 hzs hsz v n xs hown ad m c ys
      hy.1 (fun j u hu => by
        have hj := (List.getElem?_eq_some_iff.1 hu).1
        rw [hy.1] at hj
        obtain ⟨b, p, e, hc⟩ := hy.2.2.2.2 (by rcases Nat.eq_zero_or_pos m with h0 | h0; (subst h0; omega); exact h0)
        injection e with e
        subst e
        rw [Addr.add_lit]
        exact hc j u hu) hy.2.2.2.1 (by unfold maxLen; omega) (by
          have : (n + m) * by_ ≤ 1099511627776 * 128 := Nat.mul_le_mul hs hby
          omega) hb
    exact ⟨v', w', hrun, g2, g3, g5⟩
end
/-- .. in a walk. -/
theorem wpList_appG {P : Program} {ops : Array Oper} {rest : List Oper} {o : Oper} {a : Act} {w : World} {Q : Exit → Act → World → Prop} (hgd : o.guard = none) (s x : Operand) (t e : TypeId)
    (ho : o.op = .call { callee := .builtin .append, args := #[s, x], argTypes := #[t, t] }) (z : Value) (size by_ : Nat)
    (ht : P.underlying t = some (.slice e)) (hi : (P.info? e).map (fun i => (i.zero, i.size, i.bytes)) = some (some z, size, by_)) (hzs : z.cells.size = size) (hsz : 0 < size) (hby : by_ ≤ 128)
    (base : Nat) (v : Value) (n : Nat) (xs : List Value) (hs : a.eval s = v) (hown : w.ownsRow base e size v n xs)
    (A : Option Addr) (m c : Nat) (ys : List Value) (hx : a.eval x = .slice A m c) (hy : Src w A m c size ys) (hn : n + m ≤ 1099511627776) (hb : base ≤ w.heap.size)
    (h : ∀ v' w', w'.ownsRow base e size v' (n + m) (xs ++ ys) → w.grownBy w' v.ownBlock → (v'.ownBlock = v.ownBlock ∨ v'.ownBlock = some w.heap.size) → wpList P ops Q rest (a.put o.dst v') w') : wpList P ops Q (o :: rest) a w := by
  obtain ⟨v', w', hrun, h1, h2, h3⟩ := app_gen (P := P) w t o.type e z size by_ ht hi hzs hsz hby base v n xs hown A m c ys hy hn hb
  exact Lib.wpList_append_run w hgd s x t t ho _ _ hs hx v' w' hrun (h v' w' h1 h2 h3)
/-- .. as a step of a region that draws. -/
theorem step_appG {P : Program} {ops : Array Oper} {o : Oper} {a : Act} {w : World} {K : Act → World → Prop} {Q : Exit → Act → World → Prop} {E : Prop} (hgd : o.guard = none) (s x : Operand) (t e : TypeId)
    (ho : o.op = .call { callee := .builtin .append, args := #[s, x], argTypes := #[t, t] }) (z : Value) (size by_ : Nat)
    (ht : P.underlying t = some (.slice e)) (hi : (P.info? e).map (fun i => (i.zero, i.size, i.bytes)) = some (some z, size, by_)) (hzs : z.cells.size = size) (hsz : 0 < size) (hby : by_ ≤ 128)
    (base : Nat) (v : Value) (n : Nat) (xs : List Value) (hs : a.eval s = v) (hown : w.ownsRow base e size v n xs)
    (A : Option Addr) (m c : Nat) (ys : List Value) (hx : a.eval x = .slice A m c) (hy : Src w A m c size ys) (hn : n + m ≤ 1099511627776) (hb : base ≤ w.heap.size)
    (h : ∀ v' w', w'.ownsRow base e size v' (n + m) (xs ++ ys) → w.grownBy w' v.ownBlock → (v'.ownBlock = v.ownBlock ∨ v'.ownBlock = some w.heap.size) → K (a.put o.dst v') w') :
    if Region.wanted o (yielded ops a.tmps) = true then Oper.wp P o a w K Q else E := by
  have hw : Region.wanted o (yielded ops a.tmps) = true := by simp [Region.wanted, hgd]
  rw [if_pos hw]
  obtain ⟨v', w', hrun, h1, h2, h3⟩ := app_gen (P := P) w t o.type e z size by_ ht hi hzs hsz hby base v n xs hown A m c ys hy hn hb
  exact Lib.wp_append_run w s x t t ho _ _ hs hx v' w' hrun (h v' w' h1 h2 h3)
/-- Another step: a literal of one element. -/
theorem step_litG {P : Program} {ops : Array Oper} {op : Oper} {a : Act} {w : World} {K : Act → World → Prop} {Q : Exit → Act → World → Prop} {E : Prop} (hgd : Region.wanted op (yielded ops a.tmps) = true) (x : Operand) (t e : TypeId) (vs : List Value) (ho : op.op = .buildSlice t 1 #[(0, x)])
    (hrun : (Instr.buildSlice t 1 #[(0, .agg vs.toArray)]).run P w = .ok (.slice (some ⟨w.heap.size, 0, none⟩) 1 1) (w.alloc (.cells vs.toArray e))) (hx : a.eval x = .agg vs.toArray) (g : Nat) (hg : w.heap.size = g)
    (h : ∀ w', Own w' g vs → Below w.heap.size w w' → w'.heap.size = g + 1 → K (a.put op.dst (.slice (some ⟨g, 0, none⟩) 1 1)) w') : if Region.wanted op (yielded ops a.tmps) = true then Oper.wp P op a w K Q else E := by
  subst hg
  rw [if_pos hgd]
  unfold Oper.wp
  have hr : (execOp a.eval op).run P w = .ok (.value (.slice (some ⟨w.heap.size, 0, none⟩) 1 1)) (w.alloc (.cells vs.toArray e)) := by simp [execOp, ho, hx, hrun]
  rw [hr, Oper.upon_value]
  exact h _ (Own.new w vs _) (below_a w _) (by simp)
theorem wpList_litG {P : Program} {ops : Array Oper} {rest : List Oper} {op : Oper} {a : Act} {w : World} {Q : Exit → Act → World → Prop} (hgd : Region.wanted op (yielded ops a.tmps) = true) (x : Operand) (t e : TypeId) (vs : List Value) (ho : op.op = .buildSlice t 1 #[(0, x)])
    (hrun : (Instr.buildSlice t 1 #[(0, .agg vs.toArray)]).run P w = .ok (.slice (some ⟨w.heap.size, 0, none⟩) 1 1) (w.alloc (.cells vs.toArray e))) (hx : a.eval x = .agg vs.toArray) (g : Nat) (hg : w.heap.size = g)
    (h : ∀ w', Own w' g vs → Below w.heap.size w w' → w'.heap.size = g + 1 → wpList P ops Q rest (a.put op.dst (.slice (some ⟨g, 0, none⟩) 1 1)) w') : wpList P ops Q (op :: rest) a w := by
  subst hg
  refine wpList_want hgd fun K hK => ?_
  unfold Oper.wp
  have hr : (execOp a.eval op).run P w = .ok (.value (.slice (some ⟨w.heap.size, 0, none⟩) 1 1)) (w.alloc (.cells vs.toArray e)) := by simp [execOp, ho, hx, hrun]
  rw [hr, Oper.upon_value]
  exact hK _ _ (h _ (Own.new w vs _) (below_a w _) (by simp))
end Go.Proofs.YtlcegchdkigibaaGreatDoor

namespace Go.Proofs.YtlcegchdkigibaaGreatDoor
set_option linter.unusedVariables false
set_option linter.unusedSimpArgs false
set_option maxRecDepth 20000
open Go.RowKit Go.Lib

def cptr (b : Nat) : Value := .pointer (some ⟨b, 0, none⟩)
/-- What a connection's cells hold. -/
structure Cv where
  key : Nat
  oth : Nat
  op : Int
  tp : Int
  st : Int
  er : Int
  la : Int
  cl : Bool
  sb : Nat
  rb : Nat
  pb : Nat
  lv : Value
  md : Int
  ho : Int
  ls : Int
  bg : Int
  wb : Nat
  a0 : Int
  a1 : Int
  a2 : Int
  a3 : Int
  a4 : Int
  tod : Int
  asd : Int
  sv : Value
def Cv.cs (c : Cv) : Array Value := #[.int .u64 (c.key : Int), .int .u64 (c.oth : Int), .int .i64 c.op, .int .i64 c.tp, .int .i64 c.st, .int .i64 c.er, .int .i64 c.la, .bool c.cl, cptr c.sb, cptr c.rb, cptr c.pb, c.lv, .int .i64 c.md, .int .i64 c.ho, .int .i64 c.ls, .int .i64 c.bg, cptr c.wb,
  .int .i64 c.a0, .int .i64 c.a1, .int .i64 c.a2, .int .i64 c.a3, .int .i64 c.a4, .int .i64 c.tod, .int .i64 c.asd, c.sv]
/-- At block b a connection's cells stand. -/
def Ca (w : World) (b : Nat) (c : Cv) : Prop := w.heap[b]? = some (.cells c.cs 136 (0, 0))
section
variable {w w' : World} {b : Nat} {c : Cv}
theorem Ca.lt (h : Ca w b c) : b < w.heap.size := (Array.getElem?_eq_some_iff.1 h).1
theorem Ca.at_ (h : Ca w b c) (j : Nat) : w.cell? ⟨b, j, none⟩ = c.cs[j]? := cell_of_row w b j _ _ (0, 0) h
theorem Ca.fz (h : Ca w b c) (j : Nat) : w.frozen? ⟨b, j, none⟩ = false := by simp [World.frozen?, show w.heap[b]? = _ from h]
theorem Ca.ch (h : Ca w b c) {m : Nat → Prop} (k : Ch w w' m) (hb : ¬ m b) : Ca w' b c := (k.block b h.lt hb).trans h
theorem Ca.below (h : Ca w b c) (k : Below w.heap.size w w') : Ca w' b c := (k.block b h.lt).trans h
theorem Ca.set (h : Ca w b c) (k : Nat) (v : Value) (c' : Cv) (hc : c.cs.setIfInBounds k v = c'.cs) : Ca (w.setCell ⟨b, k, none⟩ v) b c' := by
  have := h
  unfold Ca at *
  simp [World.setCell, Array.getElem?_modify, this, hc]
theorem Ca.key_ (h : Ca w b c) : w.cell? ⟨b, 0, none⟩ = some (.int .u64 (c.key : Int)) := by rw [h.at_ 0]; rfl
theorem Ca.oth_ (h : Ca w b c) : w.cell? ⟨b, 1, none⟩ = some (.int .u64 (c.oth : Int)) := by rw [h.at_ 1]; rfl
theorem Ca.op_ (h : Ca w b c) : w.cell? ⟨b, 2, none⟩ = some (.int .i64 c.op) := by rw [h.at_ 2]; rfl
theorem Ca.tp_ (h : Ca w b c) : w.cell? ⟨b, 3, none⟩ = some (.int .i64 c.tp) := by rw [h.at_ 3]; rfl
theorem Ca.st_ (h : Ca w b c) : w.cell? ⟨b, 4, none⟩ = some (.int .i64 c.st) := by rw [h.at_ 4]; rfl
theorem Ca.er_ (h : Ca w b c) : w.cell? ⟨b, 5, none⟩ = some (.int .i64 c.er) := by rw [h.at_ 5]; rfl
theorem Ca.la_ (h : Ca w b c) : w.cell? ⟨b, 6, none⟩ = some (.int .i64 c.la) := by rw [h.at_ 6]; rfl
theorem Ca.cl_ (h : Ca w b c) : w.cell? ⟨b, 7, none⟩ = some (.bool c.cl) := by rw [h.at_ 7]; rfl
theorem Ca.sb_ (h : Ca w b c) : w.cell? ⟨b, 8, none⟩ = some (.pointer (some ⟨c.sb, 0, none⟩)) := by rw [h.at_ 8]; rfl
theorem Ca.rb_ (h : Ca w b c) : w.cell? ⟨b, 9, none⟩ = some (.pointer (some ⟨c.rb, 0, none⟩)) := by rw [h.at_ 9]; rfl
theorem Ca.pb_ (h : Ca w b c) : w.cell? ⟨b, 10, none⟩ = some (.pointer (some ⟨c.pb, 0, none⟩)) := by rw [h.at_ 10]; rfl
theorem Ca.lv_ (h : Ca w b c) : w.cell? ⟨b, 11, none⟩ = some c.lv := by rw [h.at_ 11]; rfl
theorem Ca.md_ (h : Ca w b c) : w.cell? ⟨b, 12, none⟩ = some (.int .i64 c.md) := by rw [h.at_ 12]; rfl
theorem Ca.ho_ (h : Ca w b c) : w.cell? ⟨b, 13, none⟩ = some (.int .i64 c.ho) := by rw [h.at_ 13]; rfl
theorem Ca.ls_ (h : Ca w b c) : w.cell? ⟨b, 14, none⟩ = some (.int .i64 c.ls) := by rw [h.at_ 14]; rfl
theorem Ca.bg_ (h : Ca w b c) : w.cell? ⟨b, 15, none⟩ = some (.int .i64 c.bg) := by rw [h.at_ 15]; rfl
theorem Ca.wb_ (h : Ca w b c) : w.cell? ⟨b, 16, none⟩ = some (.pointer (some ⟨c.wb, 0, none⟩)) := by rw [h.at_ 16]; rfl
theorem Ca.a0_ (h : Ca w b c) : w.cell? ⟨b, 17, none⟩ = some (.int .i64 c.a0) := by rw [h.at_ 17]; rfl
theorem Ca.a1_ (h : Ca w b c) : w.cell? ⟨b, 18, none⟩ = some (.int .i64 c.a1) := by rw [h.at_ 18]; rfl
theorem Ca.a2_ (h : Ca w b c) : w.cell? ⟨b, 19, none⟩ = some (.int .i64 c.a2) := by rw [h.at_ 19]; rfl
theorem Ca.a3_ (h : Ca w b c) : w.cell? ⟨b, 20, none⟩ = some (.int .i64 c.a3) := by rw [h.at_ 20]; rfl
theorem Ca.a4_ (h : Ca w b c) : w.cell? ⟨b, 21, none⟩ = some (.int .i64 c.a4) := by rw [h.at_ 21]; rfl
theorem Ca.to_ (h : Ca w b c) : w.cell? ⟨b, 22, none⟩ = some (.int .i64 c.tod) := by rw [h.at_ 22]; rfl
theorem Ca.as_ (h : Ca w b c) : w.cell? ⟨b, 23, none⟩ = some (.int .i64 c.asd) := by rw [h.at_ 23]; rfl
theorem Ca.sv_ (h : Ca w b c) : w.cell? ⟨b, 24, none⟩ = some c.sv := by rw [h.at_ 24]; rfl
end

/-- An option. -/
structure Opn where
  kind : Int
  key : Nat
  mac : Nat
  token : Nat
  nonce : Nat
  addr : Int
  reason : Int
  backup : Bool
  hasAck : Bool
  ack : Int
  hasMap : Bool
  dsn : Int
  len : Int
  fin : Bool
def Opn.vals (o : Opn) : List Value := [.int .i64 o.kind, .int .u64 (o.key : Int), .int .u64 (o.mac : Int), .int .u32 (o.token : Int), .int .u32 (o.nonce : Int), .int .i64 o.addr, .int .i64 o.reason, .bool o.backup, .bool o.hasAck, .int .i64 o.ack, .bool o.hasMap, .int .i64 o.dsn, .int .i64 o.len, .bool o.fin]
theorem Opn.vals_length (o : Opn) : o.vals.length = 14 := rfl
def Opn.none_ : Opn := ⟨0, 0, 0, 0, 0, 0, 0, false, false, 0, false, 0, 0, false⟩
def Opn.capable (k : Nat) : Opn := { Opn.none_ with kind := 1, key := k }
theorem opn_one (o : Opn) : ∀ u ∈ o.vals, u.oneCell' = true := by
  intro u hu
  simp only [Opn.vals, List.mem_cons, List.not_mem_nil, or_false] at hu
  rcases hu with rfl | rfl | rfl | rfl | rfl | rfl | rfl | rfl | rfl | rfl | rfl | rfl | rfl | rfl <;> rfl
theorem infoOpn : (Tryz.prog.info? 112).map (·.size) = some 14 := by kernel_rfl
theorem zeroOpn : (Tryz.prog.info? 112).map (·.zero) = some (some (.agg Opn.none_.vals.toArray)) := by kernel_rfl
theorem litOpn (w : World) (o : Opn) : (Instr.buildSlice 37 1 #[(0, .agg o.vals.toArray)]).run Tryz.prog w = .ok (.slice (some ⟨w.heap.size, 0, none⟩) 1 1) (w.alloc (.cells o.vals.toArray 112)) := by kernel_rfl

/-- What a leg's cells hold. -/
structure Lc where
  fl : Value
  ow : Int
  ot : Int
  bk : Bool
  nm : Int
  aw : Int
  no : Nat
  ba : Nat
  he : Opn
  pr : Value
def Lc.cs (l : Lc) : Array Value := (([l.fl, .int .i64 l.ow, .int .i64 l.ot, .bool l.bk, .int .i64 l.nm, .int .i64 l.aw, .int .u32 (l.no : Int), .int .u32 (l.ba : Int)] ++ l.he.vals) ++ [l.pr]).toArray
/-- At block b a leg's cells stand. -/
def La (w : World) (b : Nat) (l : Lc) : Prop := w.heap[b]? = some (.cells l.cs 114 (0, 0))
section
variable {w w' : World} {b : Nat} {l : Lc}
theorem La.lt (h : La w b l) : b < w.heap.size := (Array.getElem?_eq_some_iff.1 h).1
theorem La.at_ (h : La w b l) (j : Nat) : w.cell? ⟨b, j, none⟩ = l.cs[j]? := cell_of_row w b j _ _ (0, 0) h
theorem La.fz (h : La w b l) (j : Nat) : w.frozen? ⟨b, j, none⟩ = false := by simp [World.frozen?, show w.heap[b]? = _ from h]
theorem La.ch (h : La w b l) {m : Nat → Prop} (k : Ch w w' m) (hb : ¬ m b) : La w' b l := (k.block b h.lt hb).trans h
theorem La.below (h : La w b l) (k : Below w.heap.size w w') : La w' b l := (k.block b h.lt).trans h
theorem La.set (h : La w b l) (k : Nat) (v : Value) (l' : Lc) (hc : l.cs.setIfInBounds k v = l'.cs) : La (w.setCell ⟨b, k, none⟩ v) b l' := by
  have := h
  unfold La at *
  simp [World.setCell, Array.getElem?_modify, this, hc]
theorem La.fl_ (h : La w b l) : w.cell? ⟨b, 0, none⟩ = some l.fl := by rw [h.at_ 0]; rfl
theorem La.ow_ (h : La w b l) : w.cell? ⟨b, 1, none⟩ = some (.int .i64 l.ow) := by rw [h.at_ 1]; rfl
theorem La.ot_ (h : La w b l) : w.cell? ⟨b, 2, none⟩ = some (.int .i64 l.ot) := by rw [h.at_ 2]; rfl
theorem La.bk_ (h : La w b l) : w.cell? ⟨b, 3, none⟩ = some (.bool l.bk) := by rw [h.at_ 3]; rfl
theorem La.nm_ (h : La w b l) : w.cell? ⟨b, 4, none⟩ = some (.int .i64 l.nm) := by rw [h.at_ 4]; rfl
theorem La.aw_ (h : La w b l) : w.cell? ⟨b, 5, none⟩ = some (.int .i64 l.aw) := by rw [h.at_ 5]; rfl
theorem La.pr_ (h : La w b l) : w.cell? ⟨b, 22, none⟩ = some l.pr := by rw [h.at_ 22]; rfl
theorem La.he_ (h : La w b l) : w.rangeAt b 8 l.he.vals := by
  intro j v hv
  have hj : j < 14 := (List.getElem?_eq_some_iff.1 hv).1
  rw [h.at_ (8 + j)]
  unfold Lc.cs
  rw [List.getElem?_toArray, List.getElem?_append_left (by simp [Opn.vals]; omega), List.getElem?_append_right (by simp)]
  simpa using hv
end

/-- A segment's cells. -/
structure Sgc where
  src : Int
  dst : Int
  sp : Int
  dp : Int
  seq : Nat
  ack : Nat
  syn : Bool
  acks : Bool
  fin : Bool
  rst : Bool
  win : Int
  ov : Value
  dv : Value
def Sgc.vals (s : Sgc) : List Value := [.int .i64 s.src, .int .i64 s.dst, .int .i64 s.sp, .int .i64 s.dp, .int .u32 (s.seq : Int), .int .u32 (s.ack : Int), .bool s.syn, .bool s.acks, .bool s.fin, .bool s.rst, .int .i64 s.win, s.ov, s.dv]
theorem Sgc.vals_length (s : Sgc) : s.vals.length = 13 := rfl
def zSg : Sgc := ⟨0, 0, 0, 0, 0, 0, false, false, false, false, 0, .slice none 0 0, .slice none 0 0⟩
/-- All of them. -/
def sgv (l : List Sgc) : List Value := l.flatMap Sgc.vals
theorem sgv_append (l r : List Sgc) : sgv (l ++ r) = sgv l ++ sgv r := by simp [sgv]
theorem sgv_one (s : Sgc) : sgv [s] = s.vals := by simp [sgv]
theorem sgv_length (l : List Sgc) : (sgv l).length = l.length * 13 := by
  induction l with
  | nil => rfl
  | cons o r ih =>
    have : sgv (o :: r) = o.vals ++ sgv r := rfl
    rw [this, List.length_append, ih, o.vals_length, List.length_cons]
    omega
theorem sgv_at (l : List Sgc) : ∀ (j i : Nat), j < l.length → i < 13 → (sgv l)[j * 13 + i]? = (l.getD j zSg).vals[i]? := by
  induction l with
  | nil => intro j i hj; simp at hj
  | cons o r ih =>
    intro j i hj hi
    have e : sgv (o :: r) = o.vals ++ sgv r := rfl
    rw [e]
    cases j with
    | zero =>
      rw [List.getElem?_append_left (by rw [o.vals_length]; omega), Nat.zero_mul, Nat.zero_add]
      rfl
    | succ j =>
      rw [List.getElem?_append_right (by rw [o.vals_length]; omega), o.vals_length, show (j + 1) * 13 + i - 13 = j * 13 + i from by omega, ih j i (by simpa using hj) hi]
      rfl
/-- Slices are one cell. -/
def isSl (v : Value) : Prop := ∃ A n c, v = .slice A n c
theorem sgc_one (s : Sgc) (h1 : isSl s.ov) (h2 : isSl s.dv) : ∀ u ∈ s.vals, u.oneCell' = true := by
  obtain ⟨A, n, c, h1⟩ := h1
  obtain ⟨B, m, d, h2⟩ := h2
  intro u hu
  simp only [Sgc.vals, List.mem_cons, List.not_mem_nil, or_false] at hu
  rcases hu with rfl | rfl | rfl | rfl | rfl | rfl | rfl | rfl | rfl | rfl | rfl | hu | hu
  all_goals first | rfl | (rw [hu, h1]; rfl) | (rw [hu, h2]; rfl)
theorem infoSgc : (Tryz.prog.info? 40).map (fun i => (i.zero, i.size, i.bytes)) = some (some (.agg zSg.vals.toArray), 13, 104) := by kernel_rfl
theorem sizeSgc : (Tryz.prog.info? 40).map (·.size) = some 13 := by kernel_rfl
theorem zeroSgc : (Tryz.prog.info? 40).map (·.zero) = some (some (.agg zSg.vals.toArray)) := by kernel_rfl

/-- A sender to which nothing was done yet, and its set. -/
structure Sn (w : World) (sb ob : Nat) : Prop where
  s : w.heap[sb]? = some (.cells #[cptr ob, .slice none 0 0, .int .i64 1, .int .i64 1, .int .i64 33, .bool false, .bool false] 180 (0, 0))
  o : w.heap[ob]? = some (.cells #[.slice none 0 0] 294 (0, 0))
/-- A receiver to which nothing came yet, its set and its map. -/
structure Rn (w : World) (rb ob mb : Nat) : Prop where
  r : w.heap[rb]? = some (.cells #[.int .i64 1, .slice none 0 0, cptr ob, .map (some mb), .int .i64 0] 184 (0, 0))
  o : w.heap[ob]? = some (.cells #[.slice none 0 0] 294 (0, 0))
  m : w.heap[mb]? = some (.map #[] 0)
section
variable {w w' : World} {sb rb ob mb : Nat} {m : Nat → Prop}
theorem Sn.ch (h : Sn w sb ob) (k : Ch w w' m) (h1 : ¬ m sb) (h2 : ¬ m ob) : Sn w' sb ob := ⟨(k.block _ (Array.getElem?_eq_some_iff.1 h.s).1 h1).trans h.s, (k.block _ (Array.getElem?_eq_some_iff.1 h.o).1 h2).trans h.o⟩
theorem Sn.below (h : Sn w sb ob) (b : Below w.heap.size w w') : Sn w' sb ob := h.ch (Ch.of_below (fun _ => False) b) id id
theorem Sn.lt (h : Sn w sb ob) : sb < w.heap.size ∧ ob < w.heap.size := ⟨(Array.getElem?_eq_some_iff.1 h.s).1, (Array.getElem?_eq_some_iff.1 h.o).1⟩
theorem Rn.ch (h : Rn w rb ob mb) (k : Ch w w' m) (h1 : ¬ m rb) (h2 : ¬ m ob) (h3 : ¬ m mb) : Rn w' rb ob mb :=
  ⟨(k.block _ (Array.getElem?_eq_some_iff.1 h.r).1 h1).trans h.r, (k.block _ (Array.getElem?_eq_some_iff.1 h.o).1 h2).trans h.o, (k.block _ (Array.getElem?_eq_some_iff.1 h.m).1 h3).trans h.m⟩
theorem Rn.below (h : Rn w rb ob mb) (b : Below w.heap.size w w') : Rn w' rb ob mb := h.ch (Ch.of_below (fun _ => False) b) id id id
theorem Rn.lt (h : Rn w rb ob mb) : rb < w.heap.size ∧ ob < w.heap.size ∧ mb < w.heap.size := ⟨(Array.getElem?_eq_some_iff.1 h.r).1, (Array.getElem?_eq_some_iff.1 h.o).1, (Array.getElem?_eq_some_iff.1 h.m).1⟩
end
end Go.Proofs.YtlcegchdkigibaaGreatDoor
