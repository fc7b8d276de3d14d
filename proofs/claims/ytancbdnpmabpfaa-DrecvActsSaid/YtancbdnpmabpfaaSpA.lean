/- Runs of numbers in memory: rows of structs of two numbers, somewhere in a block; copying, clearing and appending them. No condition. -/
import Derived.Test.YtancbdnpmabpfaaChecked
import Derived.Test.YtancbdnpmabpfaaChg
import Derived.WalkKit
import Derived.Deep.QuietTactic
import Derived.BigQuiet
import Derived.Lib.MinMax
import Derived.WalkLawsBesides
import Derived.OpenShut
import Derived.WalkSpells
import Derived.Maps.AppendAt
import Derived.Maps.OwnSet
import Derived.Deep.OwnRows
import Derived.Deep.MidRow
import Derived.Deep.RegionLaw
import Derived.Deep.RegionHeld3
import Derived.Laws.IdiomCopy
import Derived.Lib.Overlaps
import Derived.Lib.AppendZerosOnto
import Derived.Lib.Hide
namespace Go.Proofs.Ytancbdnpmabpfaa
set_option linter.unusedVariables false
set_option linter.unusedSimpArgs false
open Go.RowKit

def ptr (b : Nat) : Value := .pointer (some ⟨b, 0, none⟩)


theorem Ch.setCells {a : World} {m : Nat → Prop} {g : Nat} (hp : g < a.heap.size → m g) : ∀ (vs : List Value) (o : Nat) {b : World}, Ch a b m → Ch a (b.setCells g o vs) m
  | [], _, _, h => h
  | v :: r, o, b, h => by
    rw [World.setCells]
    exact Ch.setCells hp r (o + 1) (h.setCell (p := ⟨g, o, none⟩) hp v)
theorem below_cell {a b : World} (h : Below a.heap.size a b) {p : Addr} {v : Value} (hc : a.cell? p = some v) : b.cell? p = some v :=
  (World.cell?_of_block (h.block p.block (World.block_lt_of_cell? a p hc))).trans hc

/-- Runs: where they begin, how long they are. -/
abbrev Rn := Int × Int
def rv : List Rn → List Value
  | [] => []
  | r :: l => .int .i64 r.1 :: .int .i64 r.2 :: rv l
theorem rv_append (l r : List Rn) : rv (l ++ r) = rv l ++ rv r := by
  induction l with
  | nil => rfl
  | cons p l ih => simp [rv, ih]
theorem rv_length (l : List Rn) : (rv l).length = l.length * 2 := by
  induction l with
  | nil => rfl
  | cons p l ih => simp [rv, ih]; omega
theorem rv_one (l : List Rn) : ∀ v ∈ rv l, v.oneCell' = true := by
  induction l with
  | nil => intro v hv; cases hv
  | cons p l ih =>
    intro v hv
    simp only [rv, List.mem_cons] at hv
    rcases hv with rfl | rfl | hv
    · rfl
    · rfl
    · exact ih v hv
theorem rv_at (l : List Rn) : ∀ j, j < l.length → (rv l)[j * 2]? = some (.int .i64 (l.getD j (0, 0)).1) ∧ (rv l)[j * 2 + 1]? = some (.int .i64 (l.getD j (0, 0)).2) := by
  induction l with
  | nil => intro j hj; simp at hj
  | cons p l ih =>
    intro j hj
    cases j with
    | zero => exact ⟨rfl, rfl⟩
    | succ j =>
      have := ih j (by simpa using hj)
      rw [show (j + 1) * 2 = j * 2 + 1 + 1 from by omega]
      simpa [rv] using this

theorem rangeAt_append {w : World} {b o : Nat} {x y : List Value} : w.rangeAt b o (x ++ y) ↔ w.rangeAt b o x ∧ w.rangeAt b (o + x.length) y := by
  constructor
  · intro h
    refine ⟨fun j v hv => h j v ?_, fun j v hv => ?_⟩
    · have := (List.getElem?_eq_some_iff.1 hv).1
      rw [List.getElem?_append_left this]
      exact hv
    · rw [Nat.add_assoc]
      refine h (x.length + j) v ?_
      rw [List.getElem?_append_right (by omega)]
      simpa using hv
  · rintro ⟨h1, h2⟩ j v hv
    rcases Nat.lt_or_ge j x.length with hj | hj
    · rw [List.getElem?_append_left hj] at hv
      exact h1 j v hv
    · rw [List.getElem?_append_right hj] at hv
      have := h2 _ v hv
      rwa [show o + x.length + (j - x.length) = o + j from by omega] at this
theorem rangeAt_ch {w w' : World} {m : Nat → Prop} (c : Ch w w' m) {b o : Nat} {x : List Value} (h : w.rangeAt b o x) (hb : ¬ m b) : w'.rangeAt b o x := fun j v hv => c.cell (h j v hv) hb

theorem infoRun : (Try.prog.info? 61).map (fun i => (i.zero, i.size, i.bytes)) = some (some (.agg #[.int .i64 0, .int .i64 0]), 2, 16) := by kernel_rfl

/-- A slice holds runs. -/
def Row (w : World) (v : Value) (l : List Rn) : Prop :=
  (v = .slice none 0 0 ∧ l = []) ∨ ∃ g o c cs, v = .slice (some ⟨g, o, none⟩) l.length c ∧ w.heap[g]? = some (.cells cs 61 (0, 0)) ∧ l.length ≤ c ∧ c ≤ 9223372036854775807 ∧ o + c * 2 ≤ cs.size ∧ w.rangeAt g o (rv l)

theorem there_of {w : World} {g : Nat} {cs : Array Value} {t : TypeId} (h : w.heap[g]? = some (.cells cs t (0, 0))) {o n : Nat} (hn : o + n ≤ cs.size) : w.there g o n := fun j hj => by
  refine ⟨?_, by simp [World.frozen?, h]⟩
  rw [cell_of_row w g (o + j) cs t (0, 0) h]
  simp [show o + j < cs.size from by omega]
theorem frozen_of {w : World} {g : Nat} {cs : Array Value} {t : TypeId} (h : w.heap[g]? = some (.cells cs t (0, 0))) (j : Nat) : w.frozen? ⟨g, j, none⟩ = false := by simp [World.frozen?, h]

theorem heap_setCells {g : Nat} {t : TypeId} {fr : Nat × Nat} : ∀ (vs : List Value) (o : Nat) (w : World) (cs : Array Value), w.heap[g]? = some (.cells cs t fr) → ∃ cs', (w.setCells g o vs).heap[g]? = some (.cells cs' t fr) ∧ cs'.size = cs.size
  | [], _, _, cs, h => ⟨cs, h, rfl⟩
  | v :: r, o, w, cs, h => by
    have h1 : (w.setCell ⟨g, o, none⟩ v).heap[g]? = some (.cells (cs.setIfInBounds o v) t fr) := by simp [World.setCell, Array.getElem?_modify, h]
    obtain ⟨cs', h2, h3⟩ := heap_setCells r (o + 1) _ _ h1
    exact ⟨cs', h2, by rw [h3]; simp⟩

section
variable {w w' : World} {v : Value} {l : List Rn}
theorem Row.lt (h : Row w v l) {g : Nat} (hg : v.ownBlock = some g) : g < w.heap.size := by
  rcases h with ⟨rfl, _⟩ | ⟨g', o, c, cs, rfl, hb, _⟩
  · cases hg
  · injection hg with hg
    subst hg
    exact (Array.getElem?_eq_some_iff.1 hb).1
theorem Row.ch (h : Row w v l) {m : Nat → Prop} (c : Ch w w' m) (hm : ∀ g, v.ownBlock = some g → ¬ m g) : Row w' v l := by
  rcases h with hn | ⟨g, o, k, cs, rfl, hb, h1, h2, h3, h4⟩
  · exact .inl hn
  · exact .inr ⟨g, o, k, cs, rfl, (c.block g (Array.getElem?_eq_some_iff.1 hb).1 (hm g rfl)).trans hb, h1, h2, h3, rangeAt_ch c h4 (hm g rfl)⟩
theorem Row.below (h : Row w v l) (b : Below w.heap.size w w') : Row w' v l := h.ch (Ch.of_below (fun _ => False) b) fun _ _ e => e
theorem Row.slice (h : Row w v l) : ∃ A c, v = .slice A l.length c ∧ l.length ≤ c ∧ c ≤ 9223372036854775807 := by
  rcases h with ⟨rfl, rfl⟩ | ⟨g, o, c, cs, rfl, _, h1, h2, _⟩
  · exact ⟨none, 0, rfl, Nat.le_refl _, by omega⟩
  · exact ⟨_, c, rfl, h1, h2⟩
theorem Row.cells {A : Option Addr} {n c : Nat} (h : Row w (.slice A n c) l) {j : Nat} (hj : j < l.length) : ∃ g o, A = some ⟨g, o, none⟩ ∧ w.cell? ⟨g, o + j * 2, none⟩ = some (.int .i64 (l.getD j (0, 0)).1) ∧ w.cell? ⟨g, o + j * 2 + 1, none⟩ = some (.int .i64 (l.getD j (0, 0)).2) ∧ ∀ i, w.frozen? ⟨g, i, none⟩ = false := by
  rcases h with ⟨_, rfl⟩ | ⟨g, o, k, cs, hv, hb, _, _, _, h4⟩
  · simp at hj
  · injection hv with hv _ _
    obtain ⟨a1, a2⟩ := rv_at l j hj
    exact ⟨g, o, hv, h4 _ _ a1, by rw [Nat.add_assoc]; exact h4 _ _ a2, frozen_of hb⟩
end

section
variable {P : Program} (w : World)
/-- copy of structs of two cells. -/
theorem run_copy2 (dT sT ty elem : TypeId) (b o dLen dCap ab ao sLen sCap : Nat) (cs : List Value)
    (hu : P.underlying dT = some (.slice elem)) (hs : (P.info? elem).map (·.size) = some 2) (hn : cs.length = Nat.min sLen dLen * 2)
    (hsrc : w.rangeAt ab ao cs) (ht : w.there b o cs.length) (h1 : ∀ v ∈ cs, v.oneCell' = true) :
    (Builtin.copy_ #[dT, sT] ty #[.slice (some ⟨b, o, none⟩) dLen dCap, .slice (some ⟨ab, ao, none⟩) sLen sCap]).run P w = .ok (goInt (Nat.min sLen dLen)) (w.setCells b o cs) := by
  have hl := run_loadCells_list (P := P) w ⟨ab, ao, none⟩ cs (fun j v hv => by rw [Addr.add_mid]; exact hsrc j v hv)
  have hst := run_storeCells_cells (P := P) b o cs 0 w (by simpa using fun j hj => (ht j hj).1) (by simpa using fun j hj => (ht j hj).2) h1
  cases hq : P.info? elem with
  | none => simp [hq] at hs
  | some i =>
    have hi : i.size = 2 := by simpa [hq] using hs
    simp [Builtin.copy_, run_underlying hu, Builtin.lenOf, Builtin.firstCells, sizeOf, typeInfo, hq, hi, ← hn, hl, hst]
/-- clear of structs of two numbers. -/
theorem run_clear2 (t e ty : TypeId) (hu : P.underlying t = some (.slice e)) (hi : (P.info? e).map (fun i => (i.zero, i.size, i.bytes)) = some (some (.agg #[.int .i64 0, .int .i64 0]), 2, 16)) (A : Option Addr) (b o n c : Nat) (hA : 0 < n → A = some ⟨b, o, none⟩)
    (ht : w.there b o (n * 2)) : ∃ zs : List Value, zs.length = n * 2 ∧ (Builtin.clear_ #[t] ty #[.slice A n c]).run P w = .ok (.tuple #[]) (w.setCells b o zs) := by
  obtain ⟨i, hi, hzz⟩ := Option.map_eq_some_iff.1 hi
  simp only [Prod.mk.injEq] at hzz
  obtain ⟨hz, h2, h3⟩ := hzz
  cases n with
  | zero =>
    refine ⟨[], rfl, ?_⟩
    cases A <;> simp [Builtin.clear_, run_underlying hu, World.setCells]
  | succ n =>
    rw [hA (by omega)]
    let zs := (Builtin.zeroCells #[Value.int .i64 0, Value.int .i64 0] (n + 1)).toList
    have hlen : zs.length = (n + 1) * 2 := by simp [zs, Builtin.zeroCells]
    have hone : ∀ v ∈ zs, v.oneCell' = true := by
      intro v hv
      simp [zs, Builtin.zeroCells] at hv
      obtain ⟨a, ha, rfl⟩ := hv
      have : a % 2 = 0 ∨ a % 2 = 1 := by omega
      rcases this with h | h <;> simp [h, Value.oneCell']
    have hst := run_storeCells_cells (P := P) b o zs 0 w (by simpa using fun j hj => (ht j (by omega)).1) (by simpa using fun j hj => (ht j (by omega)).2) hone
    simp only [Nat.add_zero] at hst
    refine ⟨zs, hlen, ?_⟩
    simp only [zs] at hst ⊢
    simp [Builtin.clear_, run_underlying hu, zeroValue, typeInfo, hi, hz, Value.cells, hst]
/-- append of one struct of two numbers where there is room. -/
theorem run_room2 (t e ty : TypeId) (hu : P.underlying t = some (.slice e)) (hi : (P.info? e).map (fun i => (i.zero, i.size, i.bytes)) = some (some (.agg #[.int .i64 0, .int .i64 0]), 2, 16)) (g o n c b xc : Nat) (x : Rn) (hx : w.rangeAt b 0 (rv [x])) (hr : n + 1 ≤ c) (ht : w.there g (o + n * 2) 2) :
    (Builtin.append_ #[t, t] ty #[.slice (some ⟨g, o, none⟩) n c, .slice (some ⟨b, 0, none⟩) 1 xc]).run P w = .ok (.slice (some ⟨g, o, none⟩) (n + 1) c) (w.setCells g (o + n * 2) (rv [x])) := by
  obtain ⟨i, hi, hzz⟩ := Option.map_eq_some_iff.1 hi
  simp only [Prod.mk.injEq] at hzz
  obtain ⟨hz, h2, h3⟩ := hzz
  have hl := run_loadCells_list (P := P) w ⟨b, 0, none⟩ (rv [x]) (fun j v hv => by rw [Addr.add_mid]; exact hx j v hv)
  have hst := run_storeCells_cells (P := P) g (o + n * 2) (rv [x]) 0 w (by simpa using fun j hj => (ht j (by simpa [rv] using hj)).1) (by simpa using fun j hj => (ht j (by simpa [rv] using hj)).2) (rv_one _)
  have hlen : (rv [x]).length = 2 := rfl
  rw [hlen] at hl
  simp only [Nat.add_zero] at hst
  simp [Builtin.append_, run_underlying hu, sizeOf, typeInfo, hi, h2, Builtin.lenOf, Builtin.firstCells, hl, hst, hr, Addr.add_mid]
/-- append of one struct of two numbers where there is none. -/
theorem run_grow2 (t e ty : TypeId) (hu : P.underlying t = some (.slice e)) (hi : (P.info? e).map (fun i => (i.zero, i.size, i.bytes)) = some (some (.agg #[.int .i64 0, .int .i64 0]), 2, 16)) (g o n c b xc : Nat) (cs : List Value) (hcs : cs.length = n * 2) (hc : w.rangeAt g o cs) (x : Rn) (hx : w.rangeAt b 0 (rv [x])) (hr : c < n + 1) (hn : n ≤ 1099511627776) :
    ∃ c' zs, n + 1 ≤ c' ∧ c' ≤ 9223372036854775807 ∧ zs.length = (c' - (n + 1)) * 2 ∧ (Builtin.append_ #[t, t] ty #[.slice (some ⟨g, o, none⟩) n c, .slice (some ⟨b, 0, none⟩) 1 xc]).run P w = .ok (.slice (some ⟨w.heap.size, 0, none⟩) (n + 1) c') (w.drew.alloc (.cells (cs ++ rv [x] ++ zs).toArray e)) := by
  obtain ⟨i, hi, hzz⟩ := Option.map_eq_some_iff.1 hi
  simp only [Prod.mk.injEq] at hzz
  obtain ⟨hz, h2, h3⟩ := hzz
  refine ⟨grownCap w (n + 1) c e, (Builtin.zeroCells (Value.agg #[.int .i64 0, .int .i64 0]).cells (grownCap w (n + 1) c e - (n + 1))).toList, grownCap_ge w (n + 1) c e, grownCap_le_maxLen w (n + 1) c e (by unfold maxLen; omega), by simp [Builtin.zeroCells, Value.cells], ?_⟩
  rw [run_append_grow (P := P) w t ty e i _ hu hi hz ⟨g, o, none⟩ n c cs (by rw [h2]; exact hcs) (fun j v hv => by rw [Addr.add_mid]; exact hc j v hv) ⟨b, 0, none⟩ 1 xc (rv [x]) (by rw [h2]; rfl) (fun j v hv => by rw [Addr.add_mid]; exact hx j v hv) hr (by omega) (growslice_fits hr (by rw [h3]; omega))]
  congr 3
  apply Array.ext'
  simp [List.append_assoc]
/-- append of one struct of two numbers onto nil. -/
theorem run_nil2 (t e ty : TypeId) (hu : P.underlying t = some (.slice e)) (hi : (P.info? e).map (fun i => (i.zero, i.size, i.bytes)) = some (some (.agg #[.int .i64 0, .int .i64 0]), 2, 16)) (b xc : Nat) (x : Rn) (hx : w.rangeAt b 0 (rv [x])) :
    ∃ c' zs, 1 ≤ c' ∧ c' ≤ 9223372036854775807 ∧ zs.length = (c' - 1) * 2 ∧ (Builtin.append_ #[t, t] ty #[.slice none 0 0, .slice (some ⟨b, 0, none⟩) 1 xc]).run P w = .ok (.slice (some ⟨w.heap.size, 0, none⟩) 1 c') (w.drew.alloc (.cells (rv [x] ++ zs).toArray e)) := by
  obtain ⟨i, hi, hzz⟩ := Option.map_eq_some_iff.1 hi
  simp only [Prod.mk.injEq] at hzz
  obtain ⟨hz, h2, h3⟩ := hzz
  refine ⟨grownCap w 1 0 e, (Builtin.zeroCells (Value.agg #[.int .i64 0, .int .i64 0]).cells (grownCap w 1 0 e - 1)).toList, grownCap_ge w 1 0 e, grownCap_le_maxLen w 1 0 e (by unfold maxLen; omega), by simp [Builtin.zeroCells, Value.cells], ?_⟩
  rw [run_append_nil (P := P) w t ty e i _ hu hi hz ⟨b, 0, none⟩ 1 xc (rv [x]) (by rw [h2]; rfl) (fun j v hv => by rw [Addr.add_mid]; exact hx j v hv) (by omega) (by omega) (by omega)]
  congr 3
  apply Array.ext'
  simp [List.append_assoc]
/-- append of k zeros where there is no room. -/
theorem run_zeros2 (t tn e ty : TypeId) (hu : P.underlying t = some (.slice e)) (htn : P.underlying tn = some (.int .i64)) (hi : (P.info? e).map (fun i => (i.zero, i.size, i.bytes)) = some (some (.agg #[.int .i64 0, .int .i64 0]), 2, 16)) (g o n c k : Nat) (cs : List Value) (hcs : cs.length = n * 2) (hc : w.rangeAt g o cs) (hk : 0 < k) (hr : c < n + k) (hn : n + k ≤ 1099511627777) :
    ∃ c' zs, n + k ≤ c' ∧ c' ≤ 9223372036854775807 ∧ zs.length = (c' - n) * 2 ∧ (Builtin.append_ #[t, tn] ty #[.slice (some ⟨g, o, none⟩) n c, .int .i64 (k : Int)]).run P w = .ok (.slice (some ⟨w.heap.size, 0, none⟩) (n + k) c') (w.drew.alloc (.cells (cs ++ zs).toArray e)) := by
  obtain ⟨i, hi, hzz⟩ := Option.map_eq_some_iff.1 hi
  simp only [Prod.mk.injEq] at hzz
  obtain ⟨hz, h2, h3⟩ := hzz
  have hge := grownCap_ge w (n + k) c e
  refine ⟨grownCap w (n + k) c e, (Builtin.zeroCells (Value.agg #[.int .i64 0, .int .i64 0]).cells k).toList ++ (Builtin.zeroCells (Value.agg #[.int .i64 0, .int .i64 0]).cells (grownCap w (n + k) c e - (n + k))).toList, hge, grownCap_le_maxLen w (n + k) c e (by unfold maxLen; omega), by simp [Builtin.zeroCells, Value.cells]; omega, ?_⟩
  rw [Lib.run_append_grow_zeros (P := P) w t tn ty e i _ .i64 .i64 hu htn hi hz (some ⟨g, o, none⟩) n c cs (by rw [h2]; exact run_firstCells_some w.drew 2 n ⟨g, o, none⟩ n c cs hcs (fun j v hv => by rw [Addr.add_mid]; simpa using hc j v hv)) k hk (by omega) hr (by omega) (by rw [h3]; omega) (growslice_fits hr (by rw [h3]; omega))]
  congr 3
  apply Array.ext'
  simp [List.append_assoc]

theorem wpList_copy2 {ops : Array Oper} {rest : List Oper} {o : Oper} {a : Act} {Q : Exit → Act → World → Prop} (hgd : o.guard = none) (d s : Operand) (t t' : TypeId)
    (ho : o.op = .call { callee := .builtin .copy, args := #[d, s], argTypes := #[t, t'] }) (v u : Value) (hd : a.eval d = v) (hs : a.eval s = u) {v' : Value} {w' : World}
    (hr : (Builtin.copy_ #[t, t'] o.type #[v, u]).run P w = .ok v' w') (h : wpList P ops Q rest (a.put o.dst v') w') : wpList P ops Q (o :: rest) a w :=
  wpList_plain hgd fun _ hK => by
    unfold Oper.wp execOp
    simp only [ho, resolve, invoke, builtin, Sem.run_bind, Sem.run_pure, Result.andThen_ok, List.map_toArray, List.map_cons, List.map_nil, hd, hs, hr]
    exact hK _ _ h
theorem wpList_clear2 {ops : Array Oper} {rest : List Oper} {o : Oper} {a : Act} {Q : Exit → Act → World → Prop} (hgd : o.guard = none) (d : Operand) (t : TypeId)
    (ho : o.op = .call { callee := .builtin .clear, args := #[d], argTypes := #[t] }) (v : Value) (hd : a.eval d = v) {v' : Value} {w' : World}
    (hr : (Builtin.clear_ #[t] o.type #[v]).run P w = .ok v' w') (h : wpList P ops Q rest (a.put o.dst v') w') : wpList P ops Q (o :: rest) a w :=
  wpList_plain hgd fun _ hK => by
    unfold Oper.wp execOp
    simp only [ho, resolve, invoke, builtin, Sem.run_bind, Sem.run_pure, Result.andThen_ok, List.map_toArray, List.map_cons, List.map_nil, hd, hr]
    exact hK _ _ h
theorem step_copy2 {ops : Array Oper} {o : Oper} {a : Act} {K : Act → World → Prop} {Q : Exit → Act → World → Prop} {E : Prop}
    (hg : o.guard = none) (d x : Operand) (dT sT : TypeId) (hop : o.op = Op.call { callee := Callee.builtin Builtin.copy, args := #[d, x], argTypes := #[dT, sT] })
    (v u : Value) (hd : a.eval d = v) (hx : a.eval x = u) {v' : Value} {w' : World} (hr : (Builtin.copy_ #[dT, sT] o.type #[v, u]).run P w = .ok v' w') (hK : K (a.put o.dst v') w') :
    if Region.wanted o (yielded ops a.tmps) = true then Oper.wp P o a w K Q else E := by
  have hw : Region.wanted o (yielded ops a.tmps) = true := by simp [Region.wanted, hg]
  rw [if_pos hw]
  unfold Oper.wp
  simp [execOp, hop, resolve, invoke, builtin, hd, hx, hr, Result.andThen]
  exact hK
end
end Go.Proofs.Ytancbdnpmabpfaa
