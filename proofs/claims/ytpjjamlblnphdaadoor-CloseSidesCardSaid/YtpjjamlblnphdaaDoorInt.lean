/- Words of our own for rows of numbers, without any program: what it says that a slice value holds given numbers of one kind; append of numbers onto a slice that the call owns, as one step of a walk. Condition: what comes out is at most 2^40 numbers long. -/
import Derived.Test.YtpjjamlblnphdaaDoorApp
namespace Go.Proofs.YtpjjamlblnphdaaDoor
set_option linter.unusedVariables false
set_option linter.unusedSimpArgs false
open Go.RowKit

/-- The numbers zs, as the cells of a row hold them. -/
def iv (k : IntKind) (zs : List Int) : List Value := zs.map fun z => .int k z
theorem iv_length (k : IntKind) (zs : List Int) : (iv k zs).length = zs.length := by simp [iv]
theorem iv_append (k : IntKind) (zs ys : List Int) : iv k (zs ++ ys) = iv k zs ++ iv k ys := by simp [iv]
theorem iv_get (k : IntKind) (zs : List Int) (j : Nat) (u : Value) (h : (iv k zs)[j]? = some u) : j < zs.length ∧ u = .int k (zs.getD j 0) := by
  simp only [iv, List.getElem?_map, Option.map_eq_some_iff] at h
  obtain ⟨x, hx, rfl⟩ := h
  obtain ⟨hj, rfl⟩ := List.getElem?_eq_some_iff.1 hx
  exact ⟨hj, by simp [hj]⟩
theorem iv_at (k : IntKind) (zs : List Int) (j : Nat) (h : j < zs.length) : (iv k zs)[j]? = some (.int k (zs.getD j 0)) := by
  simp [iv, h]
theorem iv_one (k : IntKind) (zs : List Int) : ∀ u ∈ iv k zs, u.oneCell' = true := by
  intro u hu
  obtain ⟨x, _, rfl⟩ := List.mem_map.1 hu
  rfl

/-- The slice '.slice A n c' holds the numbers zs in w. -/
def RI (k : IntKind) (w : World) (A : Option Addr) (n c : Nat) (zs : List Int) : Prop :=
  zs.length = n ∧ n ≤ c ∧ c ≤ maxLen ∧ (0 < n → ∃ b o, A = some ⟨b, o, none⟩ ∧ ∀ j, j < n → w.cell? ⟨b, o + j, none⟩ = some (.int k (zs.getD j 0)))

section
variable {k : IntKind} {w w' : World} {A : Option Addr} {n c : Nat} {zs : List Int}
theorem RI.len (h : RI k w A n c zs) : zs.length = n := h.1
theorem RI.cap (h : RI k w A n c zs) : n ≤ c := h.2.1
theorem RI.max (h : RI k w A n c zs) : c ≤ 9223372036854775807 := by have := h.2.2.1; unfold maxLen at this; omega
theorem RI.at_ (h : RI k w A n c zs) {j : Nat} (hj : j < n) : ∃ b o, A = some ⟨b, o, none⟩ ∧ w.cell? ⟨b, o + j, none⟩ = some (.int k (zs.getD j 0)) := by
  obtain ⟨b, o, e, hc⟩ := h.2.2.2 (by omega)
  exact ⟨b, o, e, hc j hj⟩
theorem RI.cell {b o : Nat} (h : RI k w (some ⟨b, o, none⟩) n c zs) {j : Nat} (hj : j < n) : w.cell? ⟨b, o + j, none⟩ = some (.int k (zs.getD j 0)) := by
  obtain ⟨b', o', e, hc⟩ := h.at_ hj
  injection e with e
  injection e with e1 e2
  subst e1 e2
  exact hc
theorem RI.nil_ (k : IntKind) (w : World) : RI k w none 0 0 [] := ⟨rfl, Nat.le_refl _, Nat.zero_le _, fun h => absurd h (by omega)⟩
theorem RI.keep (h : RI k w A n c zs) (hk : ∀ p : Addr, p.block < w.heap.size → w'.cell? p = w.cell? p) : RI k w' A n c zs :=
  ⟨h.1, h.2.1, h.2.2.1, fun hn => by
    obtain ⟨b, o, e, hc⟩ := h.2.2.2 hn
    exact ⟨b, o, e, fun j hj => (hk _ (World.block_lt_of_cell? w _ (hc j hj))).trans (hc j hj)⟩⟩
theorem RI.below (h : RI k w A n c zs) (hb : Below w.heap.size w w') : RI k w' A n c zs := h.keep fun _ hp => hb.cell hp
theorem RI.alloc (h : RI k w A n c zs) (o : Obj) : RI k (w.alloc o) A n c zs := h.keep fun p hp => World.cell?_alloc_lt w o p hp
theorem RI.of_own {base : Nat} {e : TypeId} {v : Value} (h : w.ownsRow base e 1 v n (iv k zs)) : ∃ A c, v = .slice A n c ∧ RI k w A n c zs ∧ v.ownBlock = A.map (·.block) := by
  have hl : zs.length = n := by have := h.1; rw [iv_length] at this; omega
  rcases h.2 with ⟨rfl, rfl⟩ | ⟨g, cap, cur, rfl, hb, hg, hnc, hm, hs, ht⟩
  · obtain rfl : zs = [] := List.eq_nil_of_length_eq_zero hl
    exact ⟨none, 0, rfl, RI.nil_ k w, rfl⟩
  · refine ⟨_, cap, rfl, ⟨hl, hnc, hm, fun hn => ⟨g, 0, rfl, fun j hj => ?_⟩⟩, rfl⟩
    have := World.ownsRow.cellAt h j (by omega)
    rw [Nat.zero_add, this, iv_at k zs j (by omega)]
/-- A slice of numbers that came in: it holds some numbers of its kind. -/
theorem RI.of_row {a : Option Addr} {len cap : Nat} {ys : List Int}
    (h : (a = none ∧ len = 0 ∧ cap = 0 ∧ ys = []) ∨ ∃ x, a = some x ∧ len ≤ cap ∧ cap ≤ maxLen ∧ ys.length = cap ∧ (∀ i, i < ys.length → w.cell? (x.add i) = some (.int k (ys.getD i 0))) ∧ ∀ n ∈ ys, (Lit.int k n).wf = true) :
    ∃ zs, RI k w a len cap zs ∧ ∀ z ∈ zs, (Lit.int k z).wf = true := by
  rcases h with ⟨rfl, rfl, rfl, rfl⟩ | ⟨x, rfl, h1, h2, h3, h4, h5⟩
  · exact ⟨[], RI.nil_ k w, fun z hz => absurd hz (by simp)⟩
  · refine ⟨ys.take len, ⟨by rw [List.length_take]; omega, h1, h2, fun hn => ?_⟩, fun z hz => h5 z (List.mem_of_mem_take hz)⟩
    obtain ⟨b, o, s⟩ := x
    have hc0 := h4 0 (by omega)
    have hs : s = none := by simpa [Addr.add] using World.cell?_spot hc0
    subst hs
    refine ⟨b, o, rfl, fun j hj => ?_⟩
    have hc := h4 j (by omega)
    rw [Addr.add_lit] at hc
    rw [hc]
    simp [hj]
end

/-- A literal of numbers, as it lies in its new block. -/
theorem RI.lit (k : IntKind) (w : World) (zs : List Int) (t : TypeId) (hl : zs.length ≤ maxLen) : RI k (w.alloc (.cells (iv k zs).toArray t)) (some ⟨w.heap.size, 0, none⟩) zs.length zs.length zs := by
  refine ⟨rfl, Nat.le_refl _, hl, fun _ => ⟨_, 0, rfl, fun j hj => ?_⟩⟩
  rw [Nat.zero_add]
  have h := cell_of_row (w.alloc (.cells (iv k zs).toArray t)) w.heap.size j (iv k zs).toArray t (0, 0) (heap_alloc_new w _)
  rw [h]
  simpa using iv_at k zs j hj

section
variable {P : Program} (w : World)

theorem appi_none (base : Nat) (t ty e : TypeId) (i : TypeInfo) (ht : P.underlying t = some (.slice e)) (hi : P.info? e = some i)
    (v : Value) (n c : Nat) (xs : List Value) (hown : w.ownsRow base e 1 v n xs) : (Builtin.append_ #[t, t] ty #[v, .slice none 0 c]).run P w = .ok v w := by
  rcases hown.2 with ⟨rfl, rfl⟩ | ⟨g, cap, cur, rfl, _, _, hnc, _⟩
  · simp [Builtin.append_, run_underlying ht, sizeOf, typeInfo, hi, Builtin.lenOf, Builtin.firstCells]
  · simp [Builtin.append_, run_underlying ht, sizeOf, typeInfo, hi, Builtin.lenOf, Builtin.firstCells, hnc, storeCells]

theorem appi_run (k : IntKind) (t ty e : TypeId) (by_ : Nat) (ht : P.underlying t = some (.slice e)) (hi : (P.info? e).map (fun i => (i.zero, i.size, i.bytes)) = some (some (.int k 0), 1, by_)) (h8 : by_ ≤ 8)
    (base : Nat) (v : Value) (n : Nat) (l : List Int) (hown : w.ownsRow base e 1 v n (iv k l))
    (A : Option Addr) (m c : Nat) (r : List Int) (hr : RI k w A m c r) (hs : n + m ≤ 1099511627776) (hb : base ≤ w.heap.size) :
    ∃ v' w', (Builtin.append_ #[t, t] ty #[v, .slice A m c]).run P w = .ok v' w' ∧ w'.ownsRow base e 1 v' (n + m) (iv k (l ++ r)) ∧ w.grownBy w' v.ownBlock ∧
      (v'.ownBlock = v.ownBlock ∨ v'.ownBlock = some w.heap.size) := by
  obtain ⟨i, hi, hz, h1, h2⟩ := info_parts hi
  obtain ⟨rfl, hmc, hcm, hc⟩ := hr
  rcases A with _ | ad
  · have hm : r.length = 0 := by
      rcases Nat.eq_zero_or_pos r.length with h0 | h0
      · exact h0
      · obtain ⟨b, o, h, _⟩ := hc h0
        cases h
    obtain rfl : r = [] := List.eq_nil_of_length_eq_zero hm
    exact ⟨v, w, appi_none w base t ty e i ht hi v n c _ hown, by simpa using hown, World.grownBy.refl w _, .inl rfl⟩
  · have hcells : ∀ j u, (iv k r)[j]? = some u → w.cell? (ad.add j) = some u := by
      intro j u hu
      obtain ⟨hj, rfl⟩ := iv_get k r j u hu
      obtain ⟨b, o, h, hcc⟩ := hc (by omega)
      injection h with h
      subst h
      rw [Addr.add_lit]
      exact hcc j hj
    have hbb : (n + r.length) * by_ ≤ 140737488355328 := Nat.le_trans (Nat.mul_le_mul hs h8) (by decide)
    obtain ⟨v', w', hrun, g2, g3, _, g5⟩ := run_append_own_at (P := P) w base t ty e i _ 1 by_ ht hi hz h1 h2 rfl (by decide) v n (iv k l) hown ad r.length c (iv k r)
      (by rw [iv_length, Nat.mul_one]) hcells (iv_one k r) (by unfold maxLen; omega) hbb hb
    exact ⟨v', w', hrun, by rw [iv_append]; exact g2, g3, g5⟩

theorem below_growni {W w w' : World} {v : Value} {n : Nat} {e : TypeId} {xs : List Value} (h : Below W.heap.size W w) (hown : w.ownsRow W.heap.size e 1 v n xs) (hg : w.grownBy w' v.ownBlock) : Below W.heap.size W w' :=
  h.grown hg h.size fun k hk => (hown.lt k hk).1

/-- append of numbers onto what the call owns. -/
theorem wpList_appi {W w : World} {ops : Array Oper} {rest : List Oper} {o : Oper} {a : Act} {Q : Exit → Act → World → Prop} (hgd : o.guard = none) (s x : Operand) (k : IntKind) (t e : TypeId) (by_ : Nat)
    (ho : o.op = .call { callee := .builtin .append, args := #[s, x], argTypes := #[t, t] })
    (ht : P.underlying t = some (.slice e)) (hi : (P.info? e).map (fun i => (i.zero, i.size, i.bytes)) = some (some (.int k 0), 1, by_)) (h8 : by_ ≤ 8)
    (v : Value) (n : Nat) (l : List Int) (hs : a.eval s = v) (hown : w.ownsRow W.heap.size e 1 v n (iv k l)) (hb : Below W.heap.size W w)
    (A : Option Addr) (m c : Nat) (r : List Int) (hx : a.eval x = .slice A m c) (hr : RI k w A m c r) (h40 : n + m ≤ 1099511627776)
    (h : ∀ A' c' w', RI k w' A' (n + m) c' (l ++ r) → w'.ownsRow W.heap.size e 1 (.slice A' (n + m) c') (n + m) (iv k (l ++ r)) → Below W.heap.size W w' → wpList P ops Q rest (a.put o.dst (.slice A' (n + m) c')) w') :
    wpList P ops Q (o :: rest) a w := by
  obtain ⟨v', w', hrun, h1, h2, h3⟩ := appi_run (P := P) w k t o.type e by_ ht hi h8 W.heap.size v n l hown A m c r hr h40 hb.size
  have hb' := below_growni hb hown h2
  obtain ⟨A', c', rfl, hr', _⟩ := RI.of_own h1
  exact Lib.wpList_append_run w hgd s x t t ho _ _ hs hx _ w' hrun (h A' c' w' hr' h1 hb')
/-- append of numbers onto a literal without elements. -/
theorem wpList_appi_lit {W : World} {ops : Array Oper} {rest : List Oper} {o : Oper} {a : Act} {Q : Exit → Act → World → Prop} (hgd : o.guard = none) (s x : Operand) (k : IntKind) (t e : TypeId) (by_ : Nat)
    (ho : o.op = .call { callee := .builtin .append, args := #[s, x], argTypes := #[t, t] })
    (ht : P.underlying t = some (.slice e)) (hi : (P.info? e).map (fun i => (i.zero, i.size, i.bytes)) = some (some (.int k 0), 1, by_)) (h8 : by_ ≤ 8)
    (hs : a.eval s = .slice (some ⟨W.heap.size, 0, none⟩) 0 0)
    (A : Option Addr) (m c : Nat) (r : List Int) (hx : a.eval x = .slice A m c) (hr : RI k W A m c r) (h40 : m ≤ 1099511627776)
    (h : ∀ A' c' w', RI k w' A' m c' r → w'.ownsRow W.heap.size e 1 (.slice A' m c') m (iv k r) → Below W.heap.size W w' → wpList P ops Q rest (a.put o.dst (.slice A' m c')) w') :
    wpList P ops Q (o :: rest) a (W.alloc (.cells #[] e)) := by
  have hown := World.ownsRow_lit (base := W.heap.size) (e := e) (size := 1) W #[] 0 (Nat.le_refl _) (Nat.zero_le _) rfl
  refine wpList_appi (W := W) hgd s x k t e by_ ho ht hi h8 _ 0 [] hs hown ((Below.refl _ _).alloc (Nat.le_refl _) _) A m c r hx (hr.alloc _) (by omega) fun A' c' w' h1 h2 h3 => ?_
  rw [Nat.zero_add, List.nil_append] at h1 h2
  rw [Nat.zero_add]
  exact h A' c' w' h1 h2 h3
end

/-- A row of numbers of the call's own, of which one was written. -/
theorem owni_set {w : World} {base g n cap j : Nat} {k : IntKind} {e : TypeId} {l : List Int} {x : Int} (h : w.ownsRow base e 1 (.slice (some ⟨g, 0, none⟩) n cap) n (iv k l)) :
    (w.setCell ⟨g, j, none⟩ (.int k x)).ownsRow base e 1 (.slice (some ⟨g, 0, none⟩) n cap) n (iv k (l.set j x)) := by
  have h1 := (World.ownsRow.stored h j (.int k x)).1
  have e1 : (iv k l).set j (.int k x) = iv k (l.set j x) := by
    unfold iv
    rw [List.map_set]
  rw [e1] at h1
  exact h1
theorem owni_at {w : World} {base n : Nat} {k : IntKind} {e : TypeId} {v : Value} {l : List Int} (h : w.ownsRow base e 1 v n (iv k l)) (hn : 0 < n) :
    ∃ g cap, v = .slice (some ⟨g, 0, none⟩) n cap ∧ base ≤ g ∧ cap ≤ 9223372036854775807 ∧ n ≤ cap ∧ ∀ j, j < n → w.cell? ⟨g, j, none⟩ = some (.int k (l.getD j 0)) ∧ w.frozen? ⟨g, j, none⟩ = false := by
  have hl : l.length = n := by have := h.1; rw [iv_length] at this; omega
  rcases h.2 with ⟨rfl, rfl⟩ | ⟨g, cap, cur, rfl, hb, hg, hnc, hm, hs, ht⟩
  · omega
  · refine ⟨g, cap, rfl, hb, by unfold maxLen at hm; omega, hnc, fun j hj => ⟨?_, World.ownsRow.frozenAt h j⟩⟩
    rw [World.ownsRow.cellAt h j (by omega), iv_at k l j (by omega)]
end Go.Proofs.YtpjjamlblnphdaaDoor
