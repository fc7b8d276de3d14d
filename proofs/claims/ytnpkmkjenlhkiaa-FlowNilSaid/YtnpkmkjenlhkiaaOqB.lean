/- One cell of a row stored; bytes copied into new memory; a piece stored into a row; a piece, or pieces, appended to a row. Conditions: rows of at most 2^40 pieces. -/
import Derived.Test.YtnpkmkjenlhkiaaOqA
import Derived.Lib.AppendZerosOnto
import Derived.Laws.IdiomCopy
namespace Go.Proofs.Ytnpkmkjenlhkiaa
set_option linter.unusedVariables false
set_option linter.unusedSimpArgs false
set_option maxRecDepth 20000
open Go.RowKit

theorem cells_out {w : World} {g o : Nat} {vs : List Value} {k i : Nat} (h : k ≠ g ∨ i < o ∨ o + vs.length ≤ i) : (w.setCells g o vs).cell? ⟨k, i, none⟩ = w.cell? ⟨k, i, none⟩ :=
  World.cell?_setCells_out g vs o w ⟨k, i, none⟩ (fun h1 h2 => by
    rcases h with h | h
    · exact absurd h1 h
    · exact h)

section
variable {P : Program} {ops : Array Oper} {rest : List Oper} {o : Oper} {a : Act} {w : World} {Q : Exit → Act → World → Prop}
/-- One cell of a row in a block of its own, stored. -/
theorem wpList_setV (hgd : Region.wanted o (yielded ops a.tmps) = true) (ty : TypeId) (x y : Operand) (ho : o.op = .store ty x y) (b k : Nat) (us : List Value) (v : Value) (hx : a.eval x = .pointer (some ⟨b, k, none⟩)) (hy : a.eval y = v) (hA : Own w b us)
    (hk : k < us.length) (h1 : v.oneCell' = true) (hi : (P.info? ty).map (·.size) = some 1)
    (h : ∀ w', Own w' b (us.set k v) → w.grownBy w' (some b) → w'.heap.size = w.heap.size → wpList P ops Q rest (a.put o.dst undef) w') : wpList P ops Q (o :: rest) a w := by
  refine wpList_want hgd fun K hK => ?_
  have hc := (hA k hk).1
  rw [List.getElem?_eq_getElem hk] at hc
  have := run_storeCells_cells (P := P) b k [v] 0 w (fun j hj => by simp at hj; subst hj; simp [hc]) (fun j hj => by simp at hj; subst hj; simpa using (hA k hk).2) (fun u hu => by simp at hu; subst hu; exact h1)
  simp only [Nat.add_zero] at this
  have hvc : v.cells = #[v] := by cases v <;> first | rfl | cases h1
  have hrun : (storeVar ty ⟨b, k, none⟩ v).run P w = .ok () (w.setCells b k [v]) := by
    cases hq : P.info? ty with
    | none => simp [hq] at hi
    | some i =>
      have hs : i.size = 1 := by simpa [hq] using hi
      simp [storeVar, sizeOf, typeInfo, hq, hvc, hs, this]
  unfold Oper.wp execOp
  simp only [ho, hx, hy, Instr.storeAt, Instr.sureAddr, Sem.run_bind, Sem.run_pure, Result.andThen_ok, hrun]
  exact hK _ _ (h _ (hA.set k hk v) (v_g_setCells b [v] k w) (v_size_setCells b [v] k w))

/-- copy of bytes onto a row of the call's own that is as long. -/
theorem copyB_run (dT ty e : TypeId) (hu : P.underlying dT = some (.slice e)) (hs : (P.info? e).map (·.size) = some 1) (base g n : Nat) (xs : List Value) (h0 : w.ownsRow base e 1 (.slice (some ⟨g, 0, none⟩) n n) n xs)
    (A : Option Addr) (c : Nat) (l : List UInt8) (h : RB w A n c l) (hn : 0 < n) :
    ∃ w', (Builtin.copy_ #[dT, dT] ty #[.slice (some ⟨g, 0, none⟩) n n, .slice A n c]).run P w = .ok (goInt n) w' ∧ w'.ownsRow base e 1 (.slice (some ⟨g, 0, none⟩) n n) n (bv l) ∧ w.grownBy w' (some g) ∧ w'.heap.size = w.heap.size := by
  have hl := h.len
  obtain ⟨b', o', rfl, hc⟩ := h.2.2.2 hn
  have h0' := h0
  rcases h0.2 with ⟨hv, _⟩ | ⟨g', cap, cur, hv, hb, hg, hnc, hm, hsz, ht⟩
  · cases hv
  injection hv with hv _ hv2
  injection hv with hv
  injection hv with hv
  subst hv hv2
  have hth : w.there g 0 n := there_of hg (by omega)
  have hrun := run_copy_cells (P := P) w dT dT ty e g 0 n n ⟨b', o', none⟩ n c (bv l) hu hs (by rw [bv_length, hl]; exact (Nat.min_self n).symm)
    (fun j v hv => by
      obtain ⟨hj, rfl⟩ := bv_get l j v hv
      rw [Addr.add_lit]
      exact hc j (by omega))
    (fun j hj => by rw [bv_length] at hj; exact (hth j (by omega)).1)
    (fun j hj => by rw [bv_length] at hj; exact (hth j (by omega)).2) (bv_one l)
  rw [bv_length, hl] at hrun
  obtain ⟨cs', h1, h2⟩ := heap_setCells (bv l) 0 w cur hg
  exact ⟨_, hrun, own_of_range h1 hb hnc hm (by rw [h2, hsz]) (by rw [bv_length]; omega) (World.rangeAt_setCells_same w g 0 (bv l) (by rw [bv_length, hl]; exact hth)), v_g_setCells g (bv l) 0 w, v_size_setCells g (bv l) 0 w⟩
theorem wpList_copyB (hgd : o.guard = none) (d s : Operand) (dT e : TypeId)
    (ho : o.op = .call { callee := .builtin .copy, args := #[d, s], argTypes := #[dT, dT] }) (hu : P.underlying dT = some (.slice e)) (hs : (P.info? e).map (·.size) = some 1) (base g n : Nat) (xs : List Value) (h0 : w.ownsRow base e 1 (.slice (some ⟨g, 0, none⟩) n n) n xs)
    (A : Option Addr) (c : Nat) (l : List UInt8) (h : RB w A n c l) (hn : 0 < n) (hd : a.eval d = .slice (some ⟨g, 0, none⟩) n n) (hx : a.eval s = .slice A n c)
    (hK : ∀ w', w'.ownsRow base e 1 (.slice (some ⟨g, 0, none⟩) n n) n (bv l) → w.grownBy w' (some g) → w'.heap.size = w.heap.size → wpList P ops Q rest (a.put o.dst (goInt n)) w') : wpList P ops Q (o :: rest) a w := by
  obtain ⟨w', hrun, h1, h2, h3⟩ := copyB_run (P := P) dT o.type e hu hs base g n xs h0 A c l h hn
  refine wpList_plain hgd fun K hK' => ?_
  unfold Oper.wp execOp
  simp only [ho, resolve, invoke, builtin, Sem.run_bind, Sem.run_pure, Result.andThen_ok, List.map_toArray, List.map_cons, List.map_nil, hd, hx, hrun]
  exact hK' _ _ (hK w' h1 h2 h3)
/-- A new row of bytes. -/
theorem wpList_makeB (hgd : o.guard = none) (l c : Operand) (t e : TypeId) (ho : o.op = .makeSlice t l c) (hu : P.underlying t = some (.slice e)) (hi : (P.info? e).map (fun i => (i.zero, i.size, i.bytes)) = some (some (.int .u8 0), 1, 1))
    (n : Nat) (hl : a.eval l = .int .i64 (n : Int)) (hc : a.eval c = .int .i64 (n : Int)) (hn : n ≤ 281474976710656) (g : Nat) (hg : w.heap.size = g)
    (hK : ∀ xs w', w'.ownsRow w.heap.size e 1 (.slice (some ⟨g, 0, none⟩) n n) n xs → Below w.heap.size w w' → wpList P ops Q rest (a.put o.dst (.slice (some ⟨g, 0, none⟩) n n)) w') : wpList P ops Q (o :: rest) a w := by
  subst hg
  obtain ⟨i, hi, hz, h1, h2⟩ := info_parts hi
  refine wpList_make_full w hgd l c t ho w.heap.size e i _ 1 hu hi hz h1 .i64 .i64 n n n hl hc rfl rfl (by rw [h2]; omega) (by unfold maxLen; omega) (Nat.le_refl _) fun w' h3 h4 => hK _ w' h3 ((Below.refl _ _).grown h4 (Nat.le_refl _) fun k hk => by cases hk)
/-- A new row of pieces. -/
theorem wpList_makeP (hgd : o.guard = none) (l c : Operand) (t e : TypeId) (ho : o.op = .makeSlice t l c) (hu : P.underlying t = some (.slice e)) (hi : (P.info? e).map (fun i => (i.zero, i.size, i.bytes)) = some (some (.agg zP.vals.toArray), 6, 48))
    (n : Nat) (hl : a.eval l = .int .i64 (n : Int)) (hc : a.eval c = .int .i64 (n : Int)) (hn : n ≤ 1099511627776) (g : Nat) (hg : w.heap.size = g)
    (hK : ∀ xs w', w'.ownsRow w.heap.size e 6 (.slice (some ⟨g, 0, none⟩) n n) n xs → Below w.heap.size w w' → wpList P ops Q rest (a.put o.dst (.slice (some ⟨g, 0, none⟩) n n)) w') : wpList P ops Q (o :: rest) a w := by
  subst hg
  obtain ⟨i, hi, hz, h1, h2⟩ := info_parts hi
  refine wpList_make_full w hgd l c t ho w.heap.size e i _ 6 hu hi hz h1 .i64 .i64 n n n hl hc rfl rfl (by rw [h2]; omega) (by unfold maxLen; omega) (Nat.le_refl _) fun w' h3 h4 => hK _ w' h3 ((Below.refl _ _).grown h4 (Nat.le_refl _) fun k hk => by cases hk)
/-- copy of pieces onto a row of the call's own that is as long. -/
theorem copyP_run (dT ty e : TypeId) (hu : P.underlying dT = some (.slice e)) (hs : (P.info? e).map (·.size) = some 6) (base g n : Nat) (xs : List Value) (h0 : w.ownsRow base e 6 (.slice (some ⟨g, 0, none⟩) n n) n xs)
    (A : Option Addr) (c : Nat) (l : List Pc) (h : PS w A n c l) :
    ∃ w', (Builtin.copy_ #[dT, dT] ty #[.slice (some ⟨g, 0, none⟩) n n, .slice A n c]).run P w = .ok (goInt n) w' ∧ w'.ownsRow base e 6 (.slice (some ⟨g, 0, none⟩) n n) n (pv l) ∧ w.grownBy w' (some g) ∧ w'.heap.size = w.heap.size := by
  have hl := h.len
  rcases h0.2 with ⟨hv, _⟩ | ⟨g', cap, cur, hv, hb, hg, hnc, hm, hsz, ht⟩
  · cases hv
  injection hv with hv _ hv2
  injection hv with hv
  injection hv with hv
  subst hv hv2
  rcases Nat.eq_zero_or_pos n with hz | hn
  · subst hz
    obtain rfl : l = [] := List.eq_nil_of_length_eq_zero hl
    have hl0 : ∀ (x : Addr), (loadCells x 0).run P w = .ok #[] w := fun x => by simpa using run_loadCells_list (P := P) w x [] (by simp)
    refine ⟨w, ?_, ⟨rfl, .inr ⟨g, 0, cur, rfl, hb, hg, hnc, hm, hsz, rfl⟩⟩, v_g_refl _ _, rfl⟩
    cases hq : P.info? e with
    | none => simp [hq] at hs
    | some i => cases A <;> simp [Builtin.copy_, run_underlying hu, Builtin.lenOf, Builtin.firstCells, sizeOf, typeInfo, hq, storeCells, hl0]
  · obtain ⟨b', o', rfl, hc⟩ := h.2.2.2.2 hn
    have hth : w.there g 0 (n * 6) := there_of hg (by omega)
    have hpl : (pv l).length = n * 6 := by rw [pv_length, hl]
    have hld := run_loadCells_list (P := P) w ⟨b', o', none⟩ (pv l) (fun j v hv => by rw [Addr.add_mid]; exact hc j v hv)
    have hst := run_storeCells_cells (P := P) g 0 (pv l) 0 w (fun j hj => by rw [hpl] at hj; simpa using (hth j hj).1) (fun j hj => by rw [hpl] at hj; simpa using (hth j hj).2) (pv_one l)
    have hrun : (Builtin.copy_ #[dT, dT] ty #[.slice (some ⟨g, 0, none⟩) n n, .slice (some ⟨b', o', none⟩) n c]).run P w = .ok (goInt n) (w.setCells g 0 (pv l)) := by
      cases hq : P.info? e with
      | none => simp [hq] at hs
      | some i =>
        have hi : i.size = 6 := by simpa [hq] using hs
        rw [hpl] at hld
        simp [Builtin.copy_, run_underlying hu, Builtin.lenOf, Builtin.firstCells, sizeOf, typeInfo, hq, hi, hld, hst]
    obtain ⟨cs', h1, h2⟩ := heap_setCells (pv l) 0 w cur hg
    exact ⟨_, hrun, own_of_range h1 hb hnc hm (by rw [h2, hsz]) hpl (World.rangeAt_setCells_same w g 0 (pv l) (by rw [hpl]; exact hth)), v_g_setCells g (pv l) 0 w, v_size_setCells g (pv l) 0 w⟩
theorem wpList_copyP (hgd : o.guard = none) (d s : Operand) (dT e : TypeId)
    (ho : o.op = .call { callee := .builtin .copy, args := #[d, s], argTypes := #[dT, dT] }) (hu : P.underlying dT = some (.slice e)) (hs : (P.info? e).map (·.size) = some 6) (base g n : Nat) (xs : List Value) (h0 : w.ownsRow base e 6 (.slice (some ⟨g, 0, none⟩) n n) n xs)
    (A : Option Addr) (c : Nat) (l : List Pc) (h : PS w A n c l) (hd : a.eval d = .slice (some ⟨g, 0, none⟩) n n) (hx : a.eval s = .slice A n c)
    (hK : ∀ w', w'.ownsRow base e 6 (.slice (some ⟨g, 0, none⟩) n n) n (pv l) → w.grownBy w' (some g) → w'.heap.size = w.heap.size → wpList P ops Q rest (a.put o.dst (goInt n)) w') : wpList P ops Q (o :: rest) a w := by
  obtain ⟨w', hrun, h1, h2, h3⟩ := copyP_run (P := P) dT o.type e hu hs base g n xs h0 A c l h
  refine wpList_plain hgd fun K hK' => ?_
  unfold Oper.wp execOp
  simp only [ho, resolve, invoke, builtin, Sem.run_bind, Sem.run_pure, Result.andThen_ok, List.map_toArray, List.map_cons, List.map_nil, hd, hx, hrun]
  exact hK' _ _ (hK w' h1 h2 h3)
theorem getD_set {l : List Pc} {j i : Nat} {p : Pc} (hj : j < l.length) : (l.set j p).getD i zP = if i = j then p else l.getD i zP := by
  by_cases e : i = j
  · subst e
    simp [hj]
  · have e2 : j ≠ i := fun h => e h.symm
    simp [List.getElem?_set_ne e2, e]
/-- A piece stored into a row. -/
theorem wpList_storeR (hgd : Region.wanted o (yielded ops a.tmps) = true) (ty e : TypeId) (x y : Operand) (ho : o.op = .store ty x y) (base g n c j : Nat) (l : List Pc) (p : Pc) (hx : a.eval x = .pointer (some ⟨g, j * 6, none⟩)) (hy : a.eval y = .agg p.vals.toArray)
    (hown : w.ownsRow base e 6 (.slice (some ⟨g, 0, none⟩) n c) n (pv l)) (hj : j < n) (hi : (P.info? ty).map (·.size) = some 6)
    (h : ∀ w', w'.ownsRow base e 6 (.slice (some ⟨g, 0, none⟩) n c) n (pv (l.set j p)) → w.grownBy w' (some g) → w'.heap.size = w.heap.size → wpList P ops Q rest (a.put o.dst undef) w') : wpList P ops Q (o :: rest) a w := by
  have hl : l.length = n := by have h1 := hown.1; rw [pv_length] at h1; omega
  rcases hown.2 with ⟨hv, _⟩ | ⟨g', cap, cur, hv, hb, hg, hnc, hm, hsz, ht⟩
  · cases hv
  injection hv with hv _ hv2
  injection hv with hv
  injection hv with hv
  subst hv hv2
  have hth : w.there g (j * 6) 6 := there_of hg (by omega)
  refine wpList_want hgd fun _ hK => wp_store_mid ty x y ho g (j * 6) p.vals.toArray hx hy (by rw [List.size_toArray]; exact hth) (by rw [List.size_toArray]; exact hi) (all_oneCell_toArray (pc_one p)) (hK _ _ ?_)
  obtain ⟨cs', h1, h2⟩ := heap_setCells p.vals (j * 6) w cur hg
  refine h _ (own_of_range h1 hb hnc hm (by rw [h2, hsz]) (by rw [pv_length, List.length_set, hl]) (range_pv.2 fun i hi2 k v hv => ?_)) (v_g_setCells g p.vals (j * 6) w) (v_size_setCells g p.vals (j * 6) w)
  rw [List.length_set] at hi2
  have hk6 : k < 6 := (List.getElem?_eq_some_iff.1 hv).1
  rw [getD_set (by omega)] at hv
  rw [Nat.zero_add]
  by_cases e : i = j
  · subst e
    rw [if_pos rfl] at hv
    exact World.rangeAt_setCells_same w g (i * 6) p.vals (by exact hth) k v hv
  · rw [if_neg e] at hv
    rw [cells_out (by right; rw [p.vals_length]; omega), World.ownsRow.cellAt hown (i * 6 + k) (by omega), pv_at l i k (by omega) hk6]
    exact hv
end

section
variable {P : Program} (w : World)
/-- A row in a new block. -/
theorem Row.new (base : Nat) (hb : base ≤ w.heap.size) (cs : Array Value) (l : List Pc) (c : Nat) (zs : List Value) (hcs : cs.toList = pv l ++ zs) (hc : l.length ≤ c) (hm : c ≤ 9223372036854775807) (hz : zs.length + l.length * 6 = c * 6) :
    Row (w.drew.alloc (.cells cs 52)) base (.slice (some ⟨w.heap.size, 0, none⟩) l.length c) l := by
  have hsz : cs.size = c * 6 := by
    rw [← Array.length_toList, hcs, List.length_append, pv_length]
    omega
  refine .inr ⟨w.heap.size, 0, c, cs, rfl, hb, heap_alloc_new w.drew _, hc, hm, by omega, fun j u hu => ?_⟩
  have hj := (List.getElem?_eq_some_iff.1 hu).1
  rw [Nat.zero_add, cell_of_row _ w.heap.size j cs _ (0, 0) (heap_alloc_new w.drew _), ← Array.getElem?_toList, hcs, List.getElem?_append_left hj]
  exact hu
theorem zeros_length (k : Nat) : (Builtin.zeroCells (Value.agg zP.vals.toArray).cells k).toList.length = k * 6 := by simp [Builtin.zeroCells, Value.cells, Pc.vals]
/-- append of one piece to a row, wherever it begins. -/
theorem app_row (t ty : TypeId) (hu : P.underlying t = some (.slice 52)) (hi : (P.info? 52).map (fun i => (i.zero, i.size, i.bytes)) = some (some (.agg zP.vals.toArray), 6, 48))
    (base : Nat) (v : Value) (l : List Pc) (h : Row w base v l) (b xc : Nat) (x : Pc) (hx : w.rangeAt b 0 x.vals) (hn : l.length ≤ 1099511627776) (hb : base ≤ w.heap.size) :
    ∃ v' w', (Builtin.append_ #[t, t] ty #[v, .slice (some ⟨b, 0, none⟩) 1 xc]).run P w = .ok v' w' ∧ Row w' base v' (l ++ [x]) ∧ w.grownBy w' v.ownBlock ∧ (v'.ownBlock = v.ownBlock ∨ v'.ownBlock = some w.heap.size) := by
  obtain ⟨i, hi, hzz⟩ := Option.map_eq_some_iff.1 hi
  simp only [Prod.mk.injEq] at hzz
  obtain ⟨hz, h2, h3⟩ := hzz
  have hlen : x.vals.length = 6 := rfl
  have hxl := run_loadCells_list (P := P) w ⟨b, 0, none⟩ x.vals (fun j v hv => by rw [Addr.add_mid]; exact hx j v hv)
  rw [hlen] at hxl
  rcases h with ⟨rfl, rfl⟩ | ⟨g, o, c, cs, rfl, hbg, hg, h4, h5, h6, h7⟩
  · have hge := grownCap_ge w 1 0 52
    have hle := grownCap_le_maxLen w 1 0 52 (by unfold maxLen; omega)
    unfold maxLen at hle
    refine ⟨_, _, run_append_nil (P := P) w t ty 52 i _ hu hi hz ⟨b, 0, none⟩ 1 xc x.vals (by rw [h2]; rfl) (fun j v hv => by rw [Addr.add_mid]; exact hx j v hv) (by omega) (by omega) (by omega), ?_, ⟨rfl, rfl, rfl, by simp, fun k hk _ => Below.heap_alloc w.drew _ k hk⟩, .inr rfl⟩
    refine Row.new w base hb _ [x] _ (Builtin.zeroCells (Value.agg zP.vals.toArray).cells (grownCap w 1 0 52 - 1)).toList (by simp [pv]) hge hle ?_
    rw [zeros_length]
    simp
    omega
  · by_cases hroom : l.length + 1 ≤ c
    · have hth : w.there g (o + l.length * 6) 6 := there_of hg (by omega)
      have hst := run_storeCells_cells (P := P) g (o + l.length * 6) x.vals 0 w (by simpa using fun j hj => (hth j (by simpa [Pc.vals] using hj)).1) (by simpa using fun j hj => (hth j (by simpa [Pc.vals] using hj)).2) (pc_one _)
      simp only [Nat.add_zero] at hst
      obtain ⟨cs', k1, k2⟩ := heap_setCells x.vals (o + l.length * 6) w cs hg
      refine ⟨.slice (some ⟨g, o, none⟩) (l.length + 1) c, w.setCells g (o + l.length * 6) x.vals, ?_, .inr ⟨g, o, c, cs', by simp, hbg, k1, by simpa using hroom, h5, by omega, ?_⟩, v_g_setCells _ _ _ _, .inl rfl⟩
      · simp [Builtin.append_, run_underlying hu, sizeOf, typeInfo, hi, h2, Builtin.lenOf, Builtin.firstCells, hxl, hst, hroom, Addr.add_mid]
      · rw [pv_append, pv_one1, rangeAt_append]
        constructor
        · intro j u hu'
          have hj := (List.getElem?_eq_some_iff.1 hu').1
          rw [pv_length] at hj
          rw [cells_out (by right; left; omega)]
          exact h7 j u hu'
        · rw [pv_length]
          exact World.rangeAt_setCells_same w g _ x.vals (by exact hth)
    · have hr : c < l.length + 1 := by omega
      have hpl : (pv l).length = l.length * 6 := pv_length l
      have hge := grownCap_ge w (l.length + 1) c 52
      have hle := grownCap_le_maxLen w (l.length + 1) c 52 (by unfold maxLen; omega)
      unfold maxLen at hle
      refine ⟨_, _, run_append_grow (P := P) w t ty 52 i _ hu hi hz ⟨g, o, none⟩ l.length c (pv l) (by rw [h2]; exact hpl) (fun j v hv => by rw [Addr.add_mid]; exact h7 j v hv) ⟨b, 0, none⟩ 1 xc x.vals (by rw [h2]; rfl) (fun j v hv => by rw [Addr.add_mid]; exact hx j v hv) hr (by omega) (growslice_fits hr (by rw [h3]; omega)), ?_, ⟨rfl, rfl, rfl, by simp, fun k hk _ => Below.heap_alloc w.drew _ k hk⟩, .inr rfl⟩
      have hll : (l ++ [x]).length = l.length + 1 := by simp
      have hR := Row.new w base hb ((pv l ++ x.vals).toArray ++ Builtin.zeroCells (Value.agg zP.vals.toArray).cells (grownCap w (l.length + 1) c 52 - (l.length + 1))) (l ++ [x]) (grownCap w (l.length + 1) c 52) (Builtin.zeroCells (Value.agg zP.vals.toArray).cells (grownCap w (l.length + 1) c 52 - (l.length + 1))).toList (by simp [pv]) (by omega) hle (by rw [zeros_length, hll]; omega)
      rw [hll] at hR
      simpa using hR
end
theorem wpList_appR {ops : Array Oper} {rest : List Oper} {o : Oper} {a : Act} {w : World} {Q : Exit → Act → World → Prop} (hgd : o.guard = none) (s x : Operand)
    (ho : o.op = .call { callee := .builtin .append, args := #[s, x], argTypes := #[42, 42] })
    (base : Nat) (v : Value) (l : List Pc) (hs : a.eval s = v) (h0 : Row w base v l) (b xc : Nat) (y : Pc) (hx : a.eval x = .slice (some ⟨b, 0, none⟩) 1 xc) (hy : w.rangeAt b 0 y.vals) (hn : l.length ≤ 1099511627776) (hb : base ≤ w.heap.size)
    (h : ∀ v' w', Row w' base v' (l ++ [y]) → w.grownBy w' v.ownBlock → (v'.ownBlock = v.ownBlock ∨ v'.ownBlock = some w.heap.size) → wpList Try.prog ops Q rest (a.put o.dst v') w') : wpList Try.prog ops Q (o :: rest) a w := by
  obtain ⟨v', w', hrun, h1, h2, h3⟩ := app_row (P := Try.prog) w 42 o.type Try.underlying42 infoPcF base v l h0 b xc y hy hn hb
  exact Lib.wpList_append_run w hgd s x 42 42 ho _ _ hs hx v' w' hrun (h v' w' h1 h2 h3)
/-- append of pieces to a row of the call's own. -/
theorem wpList_appPs {ops : Array Oper} {rest : List Oper} {o : Oper} {a : Act} {w : World} {Q : Exit → Act → World → Prop} (hgd : o.guard = none) (s x : Operand)
    (ho : o.op = .call { callee := .builtin .append, args := #[s, x], argTypes := #[42, 42] })
    (base : Nat) (v : Value) (n : Nat) (l : List Pc) (hs : a.eval s = v) (hown : w.ownsRow base 52 6 v n (pv l))
    (A : Option Addr) (m c : Nat) (r : List Pc) (hx : a.eval x = .slice A m c) (hy : PS w A m c r) (hn : n + m ≤ 1099511627776) (hb : base ≤ w.heap.size)
    (h : ∀ v' w', w'.ownsRow base 52 6 v' (n + m) (pv (l ++ r)) → w.grownBy w' v.ownBlock → (v'.ownBlock = v.ownBlock ∨ v'.ownBlock = some w.heap.size) → wpList Try.prog ops Q rest (a.put o.dst v') w') : wpList Try.prog ops Q (o :: rest) a w := by
  obtain ⟨i, hi, hz, h1, h2⟩ := info_parts infoPcF
  have hl := hy.len
  rcases A with _ | ad
  · have hm : m = 0 := by
      rcases Nat.eq_zero_or_pos m with h0 | h0
      · exact h0
      · obtain ⟨_, _, e, _⟩ := hy.2.2.2.2 h0
        cases e
    subst hm
    obtain rfl : r = [] := List.eq_nil_of_length_eq_zero hl
    have hrun := app_none (P := Try.prog) w base 42 o.type 52 i Try.underlying42 hi v n c
    refine Lib.wpList_append_run w hgd s x 42 42 ho _ _ hs hx v w ?_ (h v w (by simpa using hown) (v_g_refl _ _) (.inl rfl))
    rcases hown.2 with ⟨rfl, rfl⟩ | ⟨g, cap, cur, rfl, _, _, hnc, _⟩
    · simp [Builtin.append_, run_underlying Try.underlying42, sizeOf, typeInfo, hi, Builtin.lenOf, Builtin.firstCells]
    · simp [Builtin.append_, run_underlying Try.underlying42, sizeOf, typeInfo, hi, Builtin.lenOf, Builtin.firstCells, hnc, storeCells]
  · have hpl : (pv r).length = m * 6 := by rw [pv_length, hl]
    obtain ⟨v', w', hrun, g2, g3, _, g5⟩ := run_append_own_at (P := Try.prog) w base 42 o.type 52 i _ 6 48 Try.underlying42 hi hz h1 h2 rfl (by decide) v n (pv l) hown ad m c (pv r)
      hpl (fun j u hu => by
        have hj := (List.getElem?_eq_some_iff.1 hu).1
        obtain ⟨b, p, e, hc⟩ := hy.2.2.2.2 (by omega)
        injection e with e
        subst e
        rw [Addr.add_lit]
        exact hc j u hu) (pv_one r) (by unfold maxLen; omega) (by omega) hb
    rw [← pv_append] at g2
    exact Lib.wpList_append_run w hgd s x 42 42 ho _ _ hs hx v' w' hrun (h v' w' g2 g3 g5)
end Go.Proofs.Ytnpkmkjenlhkiaa
