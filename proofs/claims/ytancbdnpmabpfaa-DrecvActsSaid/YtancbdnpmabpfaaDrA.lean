/- Bytes and truths in memory; maps of numbers to bytes; one cell stored. Conditions: at most 2^40 of each. -/
import Derived.Test.YtancbdnpmabpfaaDsA
import Derived.Test.YtancbdnpmabpfaaSpG
import Derived.Maps.Own
import Derived.Deep.Onto
import Derived.Laws.BytesArg
import Derived.Laws.IdiomStrings
import Derived.Lib.SlBytesConst
namespace Go.Proofs.Ytancbdnpmabpfaa
set_option linter.unusedVariables false
set_option linter.unusedSimpArgs false
open Go.RowKit Go.Lib

set_option maxHeartbeats 1600000 in
theorem cloneB_any {w : World} {A : Option Addr} {n c : Nat} {l : List UInt8} (h : RB w A n c l) (h0 : 0 < n) (hn : n ≤ 1099511627776) : Calls Try.prog 52 #[.slice A n c] w (OwnMade w n l) := by
  obtain ⟨g, o, rfl, _⟩ := h.at_ h0
  have he : ∀ W, (binOp .eql 28 (.slice (some ⟨g, o, none⟩) n c) (.slice none 0 0)).run Try.prog W = .ok (.bool false) W := fun W => run_eql_slice_nil W _ _ _ n c 0 0 undByte
  go_enter Try.func52, Try.ntmps52
  go_wp2_with (at_builtin; refine wpList_app_lit rfl _ _ _ _ rfl undByte infoByte rfl _ n c l rfl h hn ?_; intro A' c' w' q1 q2 q3)
  go_ret
  exact ⟨_, _, rfl, q1, q2, q3⟩
theorem row_obj {w : World} {v : Value} {l : List Rn} (h : Row w v l) {g : Nat} (hg : v.ownBlock = some g) : ∃ cs, w.heap[g]? = some (.cells cs 61 (0, 0)) := by
  rcases h with ⟨rfl, _⟩ | ⟨g', o, c, cs, rfl, hb, _⟩
  · cases hg
  · injection hg with hg
    subst hg
    exact ⟨cs, hb⟩
theorem own_obj {w : World} {base n : Nat} {e : TypeId} {v : Value} {xs : List Value} (h : w.ownsRow base e 1 v n xs) {g : Nat} (hg : v.ownBlock = some g) : ∃ cs, w.heap[g]? = some (.cells cs e (0, 0)) := by
  rcases h.2 with ⟨rfl, _⟩ | ⟨g', cap, cur, rfl, hb, hg', _⟩
  · cases hg
  · injection hg with hg
    subst hg
    exact ⟨cur, hg'⟩
theorem two_types {w : World} {g : Nat} {a b : Array Value} {t u : TypeId} (h : w.heap[g]? = some (.cells a t (0, 0))) (k : w.heap[g]? = some (.cells b u (0, 0))) (hne : t ≠ u) : False := by
  rw [h] at k
  injection k with k
  injection k with _ k
  exact hne k
theorem blk_set {w : World} {g : Nat} {cs : Array Value} {t : TypeId} (h : w.heap[g]? = some (.cells cs t (0, 0))) (j : Nat) (u : Value) : (w.setCell ⟨g, j, none⟩ u).heap[g]? = some (.cells (cs.setIfInBounds j u) t (0, 0)) := by
  simp [World.setCell, Array.getElem?_modify, h]

/-! Truths. -/
/-- The truths l, as the cells of a row hold them. -/
def bo (l : List Bool) : List Value := l.map .bool
theorem bo_length (l : List Bool) : (bo l).length = l.length := by simp [bo]
theorem bo_append (l r : List Bool) : bo (l ++ r) = bo l ++ bo r := by simp [bo]
theorem bo_set (l : List Bool) (j : Nat) (b : Bool) : (bo l).set j (.bool b) = bo (l.set j b) := by unfold bo; rw [List.map_set]
theorem infoBool : (Try.prog.info? 4).map (fun i => (i.zero, i.size, i.bytes)) = some (some (.bool false), 1, 1) := by kernel_rfl
theorem own_bool {w : World} {base n : Nat} {v : Value} {l : List Bool} (h : w.ownsRow base 4 1 v n (bo l)) {j : Nat} (hj : j < n) :
    ∃ g cap, v = .slice (some ⟨g, 0, none⟩) n cap ∧ base ≤ g ∧ n ≤ cap ∧ cap ≤ 9223372036854775807 ∧ w.cell? ⟨g, j, none⟩ = some (.bool (l.getD j false)) ∧ (∀ i, w.frozen? ⟨g, i, none⟩ = false) ∧ ∀ b, (w.setCell ⟨g, j, none⟩ (.bool b)).ownsRow base 4 1 v n (bo (l.set j b)) := by
  have hl : l.length = n := by have := h.1; rw [bo_length] at this; omega
  rcases h.2 with ⟨_, e⟩ | ⟨g, cap, cur, rfl, hb, hg, hnc, hm, _, _⟩
  · omega
  · refine ⟨g, cap, rfl, hb, hnc, by unfold maxLen at hm; exact hm, ?_, fun i => World.ownsRow.frozenAt h i, fun b => ?_⟩
    · rw [World.ownsRow.cellAt h j (by omega)]
      have hj' : j < l.length := by omega
      simp [bo, hj']
    · rw [← bo_set]
      exact (World.ownsRow.stored h j (.bool b)).1
/-- What 'string(b)' gives. -/
theorem rb_text {P : Program} {w : World} {A : Option Addr} {n c : Nat} {l : List UInt8} (h : RB w A n c l) (src e dst : TypeId) (hs : P.underlying src = some (.slice e)) (he : P.underlying e = some (.int .u8)) (hd : P.underlying dst = some .string) :
    (convert src dst (.slice A n c)).run P w = .ok (.string ⟨l.toArray⟩) w := by
  obtain ⟨rfl, h2, h3, h4⟩ := h
  rcases Nat.eq_zero_or_pos l.length with h0 | h0
  · obtain rfl : l = [] := List.eq_nil_of_length_eq_zero h0
    cases A with
    | none => exact run_convert_bytes_nil (P := P) w src e hs he _ _ dst hd
    | some a => exact run_convert_bytes_back (P := P) w src dst e a c [] hs he hd (fun j hj => absurd hj (by simp))
  · obtain ⟨b, o, rfl, hc⟩ := h4 h0
    refine run_convert_bytes_back (P := P) w src dst e _ c l hs he hd (fun j hj => ?_)
    rw [Addr.add_lit, hc j hj]
    simp [hj]
theorem rb_litf (w : World) (l : List UInt8) (t : TypeId) (fr : Nat × Nat) (hl : l.length ≤ maxLen) : RB (w.alloc (.cells (bv l).toArray t fr)) (some ⟨w.heap.size, 0, none⟩) l.length l.length l := by
  refine ⟨rfl, Nat.le_refl _, hl, fun _ => ⟨_, 0, rfl, fun j hj => ?_⟩⟩
  rw [Nat.zero_add]
  have h := cell_of_row (w.alloc (.cells (bv l).toArray t fr)) w.heap.size j (bv l).toArray t fr (heap_alloc_new w _)
  rw [h]
  simpa using bv_at l j hj
theorem text_at (w : World) (C : Array Value) (n c : Nat) :
    (convert 28 28 (.slice (some ⟨w.heap.size, 0, none⟩) n c)).run Try.prog (w.alloc (.cells C 5)) = .ok (.slice (some ⟨w.heap.size, 0, none⟩) n c) (w.alloc (.cells C 5 (C.size, C.size + 1))) :=
  Lib.run_convert_bytes_const (P := Try.prog) w 28 5 C n c Try.underlying28 Try.underlying5

section
variable {P : Program} {ops : Array Oper} {rest : List Oper} {o : Oper} {a : Act} {w : World} {Q : Exit → Act → World → Prop}
theorem wpList_want (hw : Region.wanted o (yielded ops a.tmps) = true) (h : ∀ K : Act → World → Prop, (∀ a w, wpList P ops Q rest a w → K a w) → o.wp P a w K Q) : wpList P ops Q (o :: rest) a w :=
  wpList_step fun K hK => by rw [if_pos hw]; exact h K hK
end
/-- One cell stored, wherever it lies. -/
theorem wpList_setC {P : Program} {ops : Array Oper} {rest : List Oper} {o : Oper} {a : Act} {w : World} {Q : Exit → Act → World → Prop} (hgd : Region.wanted o (yielded ops a.tmps) = true) (ty : TypeId) (x y : Operand) (ho : o.op = .store ty x y) (b k : Nat) (u v : Value) (hx : a.eval x = .pointer (some ⟨b, k, none⟩)) (hy : a.eval y = v) (hc : w.cell? ⟨b, k, none⟩ = some u) (hf : w.frozen? ⟨b, k, none⟩ = false)
    (h1 : v.oneCell' = true) (hi : (P.info? ty).map (·.size) = some 1) (h : wpList P ops Q rest (a.put o.dst undef) (w.setCell ⟨b, k, none⟩ v)) : wpList P ops Q (o :: rest) a w := by
  refine wpList_want hgd fun K hK => ?_
  have := run_storeCells_cells (P := P) b k [v] 0 w (fun j hj => by simp at hj; subst hj; simp [hc]) (fun j hj => by simp at hj; subst hj; simpa using hf) (fun u hu => by simp at hu; subst hu; exact h1)
  simp only [Nat.add_zero] at this
  have hvc : v.cells = #[v] := by cases v <;> first | rfl | cases h1
  have hrun : (storeVar ty ⟨b, k, none⟩ v).run P w = .ok () (w.setCells b k [v]) := by
    cases hq : P.info? ty with
    | none => simp [hq] at hi
    | some i =>
      have hs : i.size = 1 := by simpa [hq] using hi
      simp [storeVar, sizeOf, typeInfo, hq, hvc, hs, this]
  unfold Oper.wp execOp
  simp only [ho, hx, hy, Instr.storeAt, Instr.sureAddr, Sem.run_bind, Sem.run_pure, Result.andThen_ok, hrun]
  exact hK _ _ h

/-- The slice '.slice A m c' holds the cells ys, so many each element. -/
def Src (w : World) (A : Option Addr) (m c size : Nat) (ys : List Value) : Prop :=
  ys.length = m * size ∧ m ≤ c ∧ c ≤ 9223372036854775807 ∧ (∀ u ∈ ys, u.oneCell' = true) ∧ (0 < m → ∃ b o, A = some ⟨b, o, none⟩ ∧ w.rangeAt b o ys)
section
variable {P : Program} (w : World)
/-- The run of append. -/
theorem app_gen (t ty e : TypeId) (z : Value) (size by_ : Nat) (ht : P.underlying t = some (.slice e)) (hi : (P.info? e).map (fun i => (i.zero, i.size, i.bytes)) = some (some z, size, by_)) (hzs : z.cells.size = size) (hsz : 0 < size) (hby : by_ ≤ 128)
    (base : Nat) (v : Value) (n : Nat) (xs : List Value) (hown : w.ownsRow base e size v n xs)
    (A : Option Addr) (m c : Nat) (ys : List Value) (hy : Src w A m c size ys) (hs : n + m ≤ 1099511627776) (hb : base ≤ w.heap.size) :
    ∃ v' w', (Builtin.append_ #[t, t] ty #[v, .slice A m c]).run P w = .ok v' w' ∧ w'.ownsRow base e size v' (n + m) (xs ++ ys) ∧ w.grownBy w' v.ownBlock ∧ (v'.ownBlock = v.ownBlock ∨ v'.ownBlock = some w.heap.size) := by
  obtain ⟨i, hi, hz, h1, h2⟩ := info_parts hi
  rcases A with _ | ad
  · have hm : m = 0 := by
      rcases Nat.eq_zero_or_pos m with h0 | h0
      · exact h0
      · obtain ⟨_, _, e, _⟩ := hy.2.2.2.2 h0
        cases e
    subst hm
    obtain rfl : ys = [] := List.eq_nil_of_length_eq_zero (by rw [hy.1]; omega)
    refine ⟨v, w, ?_, by simpa using hown, World.grownBy.refl w _, .inl rfl⟩
    rcases hown.2 with ⟨rfl, rfl⟩ | ⟨g, cap, cur, rfl, _, _, hnc, _⟩
    · simp [Builtin.append_, run_underlying ht, sizeOf, typeInfo, hi, Builtin.lenOf, Builtin.firstCells]
    · simp [Builtin.append_, run_underlying ht, sizeOf, typeInfo, hi, Builtin.lenOf, Builtin.firstCells, hnc, storeCells]
  · obtain ⟨v', w', hrun, g2, g3, _, g5⟩ := run_append_own_at (P := P) w base t ty e i z size by_ ht hi hz h1 h2 hzs hsz v n xs hown ad m c ys
      hy.1 (fun j u hu => by
        have hj := (List.getElem?_eq_some_iff.1 hu).1
        rw [hy.1] at hj
        obtain ⟨b, p, e, hc⟩ := hy.2.2.2.2 (by rcases Nat.eq_zero_or_pos m with h0 | h0; (subst h0; omega); exact h0)
        injection e with e
        subst e
        rw [Addr.add_lit]
        exact hc j u hu) hy.2.2.2.1 (by unfold maxLen; omega) (by
          have : (n + m) * by_ ≤ 1099511627776 * 128 := Nat.mul_le_mul hs hby
          omega) hb
    exact ⟨v', w', hrun, g2, g3, g5⟩
end
/-- .. in a walk. -/
theorem wpList_appG {P : Program} {ops : Array Oper} {rest : List Oper} {o : Oper} {a : Act} {w : World} {Q : Exit → Act → World → Prop} (hgd : o.guard = none) (s x : Operand) (t e : TypeId)
    (ho : o.op = .call { callee := .builtin .append, args := #[s, x], argTypes := #[t, t] }) (z : Value) (size by_ : Nat)
    (ht : P.underlying t = some (.slice e)) (hi : (P.info? e).map (fun i => (i.zero, i.size, i.bytes)) = some (some z, size, by_)) (hzs : z.cells.size = size) (hsz : 0 < size) (hby : by_ ≤ 128)
    (base : Nat) (v : Value) (n : Nat) (xs : List Value) (hs : a.eval s = v) (hown : w.ownsRow base e size v n xs)
    (A : Option Addr) (m c : Nat) (ys : List Value) (hx : a.eval x = .slice A m c) (hy : Src w A m c size ys) (hn : n + m ≤ 1099511627776) (hb : base ≤ w.heap.size)
    (h : ∀ v' w', w'.ownsRow base e size v' (n + m) (xs ++ ys) → w.grownBy w' v.ownBlock → (v'.ownBlock = v.ownBlock ∨ v'.ownBlock = some w.heap.size) → wpList P ops Q rest (a.put o.dst v') w') : wpList P ops Q (o :: rest) a w := by
  obtain ⟨v', w', hrun, h1, h2, h3⟩ := app_gen (P := P) w t o.type e z size by_ ht hi hzs hsz hby base v n xs hown A m c ys hy hn hb
  exact Lib.wpList_append_run w hgd s x t t ho _ _ hs hx v' w' hrun (h v' w' h1 h2 h3)
theorem rb_bool (w : World) : Src (w.alloc (.cells #[.bool false] 4)) (some ⟨w.heap.size, 0, none⟩) 1 1 1 (bo [false]) := by
  refine ⟨rfl, Nat.le_refl _, by omega, fun u hu => ?_, fun _ => ⟨w.heap.size, 0, rfl, fun j v hv => ?_⟩⟩
  · simp [bo] at hu
    subst hu
    rfl
  · rw [cell_of_row _ _ _ _ _ _ (heap_alloc_new w _)]
    simpa [bo] using hv

/-! Maps of numbers to bytes. -/
theorem keyInt : Maps.Keyed Try.prog 3 := Maps.int_keyed Try.underlying3
theorem isI.wf {h : Int} (i : isI h) : (Lit.int .i64 h).wf = true := by
  unfold isI at i
  simp [Lit.wf, IntKind.min, IntKind.max, IntKind.bits, IntKind.signed]
  omega
theorem keyOfInt {h : Int} (i : isI h) : keyOf Try.prog 3 (.int .i64 h) = some (.int .i64 h) := Maps.keyOf_int_mk Try.underlying3 i.wf
theorem isKeyI (h : Int) (i : isI h) : WideAt.IsKeyLit (.int .i64 h) := by
  first
    | exact trivial
    | simp [WideAt.IsKeyLit]
theorem wfB (b : UInt8) : (Lit.int .u8 (b.toNat : Int)).wf = true := by
  have := b.toNat_lt
  simp [Lit.wf, IntKind.min, IntKind.max, IntKind.bits, IntKind.signed]
  omega
theorem peByte (b : UInt8) : plainElem (H := Unit) Try.prog 5 (.int .u8 (b.toNat : Int)) = some (.lit (.int .u8 (b.toNat : Int)), []) := plainElem_int Try.underlying5 (wfB b)
/-- Block mb is a map of n numbers: F says which byte a number has. -/
def MapV (w : World) (mb : Nat) (F : Int → Option UInt8) (n : Nat) : Prop :=
  ∃ D : DataW Unit, w.ownsMap Try.prog 3 (plainElem Try.prog 5) mb n D ∧ Maps.size D = n ∧ (∀ h, isI h → Maps.has D (.int .i64 h) = (F h).isSome) ∧ ∀ h b, isI h → F h = some b → ∀ z, D.atKey (.int .i64 h) z = .lit (.int .u8 (b.toNat : Int))
section
variable {w w' : World} {mb n : Nat} {F : Int → Option UInt8}
theorem MapV.lt (h : MapV w mb F n) : mb < w.heap.size := h.elim fun _ h => h.1.lt
theorem MapV.keep (h : MapV w mb F n) (e : w'.heap[mb]? = w.heap[mb]?) : MapV w' mb F n := by
  obtain ⟨D, ⟨es, cl, hb, rest⟩, r2⟩ := h
  exact ⟨D, ⟨es, cl, e.trans hb, rest⟩, r2⟩
theorem MapV.made (w : World) (F : Int → Option UInt8) (hF : ∀ h, F h = none) : MapV (w.alloc (.map #[] 0)) w.heap.size F 0 :=
  ⟨.map [], World.ownsMap_made w _ _ _, rfl, fun h _ => by rw [hF h]; rfl, fun h _ _ hh => by rw [hF h] at hh; cases hh⟩
theorem MapV.obj (h : MapV w mb F n) : ∃ es cl, w.heap[mb]? = some (.map es cl) := by
  obtain ⟨D, ⟨es, cl, hb, rest⟩, r2⟩ := h
  exact ⟨es, cl, hb⟩
theorem MapV.congr (h : MapV w mb F n) {G : Int → Option UInt8} (hG : ∀ k, F k = G k) : MapV w mb G n := by
  have : F = G := funext hG
  rwa [← this]
theorem MapV.look (hM : MapV w mb F n) {h : Int} (i : isI h) {b : UInt8} (hF : F h = some b) (W : World) (hW : W.heap[mb]? = w.heap[mb]?) : (Instr.lookup 48 (.map (some mb)) (.int .i64 h) false).run Try.prog W = .ok (.int .u8 (b.toNat : Int)) W := by
  obtain ⟨D, hown, _, h1, h2⟩ := hM.keep hW
  obtain ⟨v, ps, hrun, hv⟩ := hown.lookup keyInt Try.underlying48 (Try.zeroValue5 W) (plainElem_int Try.underlying5 (by decide)) (keyOfInt i)
  rw [h2 h b i hF] at hv
  obtain ⟨a, rfl, hz, _⟩ := plainElem_int_inv Try.underlying5 hv
  simp only [Prod.mk.injEq, DataW.lit.injEq, Lit.int.injEq, true_and] at hz
  rw [hz.1]
  exact hrun
end
section
variable {w : World} {ops : Array Oper} {rest : List Oper} {o : Oper} {a : Act} {Q : Exit → Act → World → Prop} {mb n : Nat} {F : Int → Option UInt8}
theorem wpList_delV (hg : o.guard = none) (m x : Operand) (hop : o.op = Op.call { callee := Callee.builtin Builtin.delete, args := #[m, x], argTypes := #[48, 3] }) (hm : a.eval m = .map (some mb)) (hM : MapV w mb F n) {h : Int} (i : isI h) (hx : a.eval x = .int .i64 h) {b : UInt8} (hF : F h = some b)
    (hK : ∀ w', MapV w' mb (fun k => if k = h then none else F k) (n - 1) → w.mapTurned w' mb → wpList Try.prog ops Q rest (a.put o.dst (.tuple #[])) w') :
    wpList Try.prog ops Q (o :: rest) a w := by
  obtain ⟨D, hown, hsz, h1, h2⟩ := hM
  refine wpList_delete_own w hg m x 48 3 hop 5 keyInt Try.underlying48 (plainElem Try.prog 5) mb n D hm hown (.int .i64 h) (.int .i64 h) hx (keyOfInt i) fun w' hown' ht => hK w' ?_ ht
  have hs := Maps.size_del (k := .int .i64 h) (hown.tidy keyInt)
  rw [h1 h i, hF, hsz] at hs
  simp at hs
  have hs1 : Maps.size (D.del (.int .i64 h)) = n - 1 := by omega
  refine ⟨D.del (.int .i64 h), ?_, hs1, fun k ik => ?_, fun k b' ik hk z => ?_⟩
  · obtain ⟨es, cl, hb, hf, hle, he⟩ := hown'
    refine ⟨es, cl, hb, hf, ?_, he⟩
    rw [he] at hs1
    simp only [Maps.size, length_sorted, List.length_map, Array.length_toList] at hs1
    omega
  · show Maps.has _ _ = (if k = h then none else F k).isSome
    by_cases e : k = h
    · subst e
      rw [if_pos rfl, Maps.has_del_same]
      rfl
    · rw [if_neg e, Maps.has_del_other (fun e' => e (by injection e')), h1 k ik]
  · replace hk : (if k = h then none else F k) = some b' := hk
    by_cases e : k = h
    · subst e
      rw [if_pos rfl] at hk
      cases hk
    · rw [if_neg e] at hk
      rw [Maps.atKey_del_other (fun e' => e (by injection e'))]
      exact h2 k b' ik hk z
theorem wpList_putV (hg : o.guard = none) (m x v : Operand) (hop : o.op = Op.mapUpdate 48 m x v) (hm : a.eval m = .map (some mb)) (hM : MapV w mb F n) {h : Int} (i : isI h) (hx : a.eval x = .int .i64 h) (hF : F h = none) {b : UInt8} (hv : a.eval v = .int .u8 (b.toNat : Int)) (hn : n ≤ 1099511627776)
    (hK : ∀ w', MapV w' mb (fun k => if k = h then some b else F k) (n + 1) → w.mapTurned w' mb → wpList Try.prog ops Q rest (a.put o.dst undef) w') :
    wpList Try.prog ops Q (o :: rest) a w := by
  obtain ⟨D, hown, hsz, h1, h2⟩ := hM
  refine wpList_mapUpdate_in w hg m x v 48 hop 3 5 keyInt Try.underlying48 (plainElem Try.prog 5) mb n D hm hown (by unfold maxLen; omega) (.int .i64 h) (.int .u8 (b.toNat : Int)) (.int .i64 h) hx hv (keyOfInt i) _ [] (peByte b) fun w' hown' ht => hK w' ?_ ht
  have hs := Maps.size_put (k := .int .i64 h) (hown.tidy keyInt) (.lit (.int .u8 (b.toNat : Int)))
  rw [h1 h i, hF, hsz] at hs
  simp at hs
  refine ⟨_, hown', hs, fun k ik => ?_, fun k b' ik hk z => ?_⟩
  · show Maps.has _ _ = (if k = h then some b else F k).isSome
    by_cases e : k = h
    · subst e
      rw [if_pos rfl, Maps.has_put_same hown.isMap (isKeyI k i)]
      rfl
    · rw [if_neg e, Maps.has_put_other (fun e' => e (by injection e')), h1 k ik]
  · replace hk : (if k = h then some b else F k) = some b' := hk
    by_cases e : k = h
    · subst e
      rw [if_pos rfl] at hk
      injection hk with hk
      subst hk
      exact Maps.atKey_put_same hown.isMap (isKeyI k i) _ _
    · rw [if_neg e] at hk
      rw [Maps.atKey_put_other (fun e' => e (by injection e'))]
      exact h2 k b' ik hk z
end
end Go.Proofs.Ytancbdnpmabpfaa
