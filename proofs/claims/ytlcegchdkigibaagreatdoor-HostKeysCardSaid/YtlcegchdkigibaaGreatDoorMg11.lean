/- Words of our own for pieces: a piece's cells, what it says, what lies behind its data; rows of pieces. No condition.
One cell of a row stored; bytes copied into new memory; a piece stored into a row; a piece, or pieces, appended to a row. Conditions: rows of at most 2^40 pieces.
The contract of a piece copied. Condition: the piece stands, its data are at most 2^48 bytes.
The contracts of a piece's length. Condition: the piece stands, its data are at most 2^40 bytes.
The contract of pieces copied. Condition: they stand, at most 2^40, with data of at most 2^40 bytes each. -/
import Derived.Test.YtlcegchdkigibaaGreatDoorMg4
import Derived.Lib.AppendZerosOnto
import Derived.Laws.IdiomCopy
namespace Go.Proofs.YtlcegchdkigibaaGreatDoor.LF
set_option linter.unusedVariables false
set_option linter.unusedSimpArgs false
open Go.RowKit

/-- 0 or 1. -/
def bn (b : Bool) : Nat := if b = true then 1 else 0
/-- What a piece says. -/
structure Ky where
  seq : Nat
  syn : Bool
  fin : Bool
  dsn : Int
  last : Bool
  ds : List UInt8
/-- Its length in numbers. -/
def Ky.len (k : Ky) : Nat := k.ds.length + bn k.syn + bn k.fin
/-- A piece: its fields, its data as a slice, and the bytes that it holds. -/
structure Pc where
  seq : Nat
  syn : Bool
  fin : Bool
  dA : Option Addr
  dn : Nat
  dc : Nat
  dsn : Int
  last : Bool
  ds : List UInt8
def Pc.key (p : Pc) : Ky := ⟨p.seq, p.syn, p.fin, p.dsn, p.last, p.ds⟩
/-- Its cells. -/
def Pc.vals (p : Pc) : List Value := [.int .u32 (p.seq : Int), .bool p.syn, .bool p.fin, .slice p.dA p.dn p.dc, .int .i64 p.dsn, .bool p.last]
theorem Pc.vals_length (p : Pc) : p.vals.length = 6 := rfl
theorem pc_one (p : Pc) : ∀ u ∈ p.vals, u.oneCell' = true := by
  intro u hu
  simp only [Pc.vals, List.mem_cons, List.not_mem_nil, or_false] at hu
  rcases hu with rfl | rfl | rfl | rfl | rfl | rfl <;> rfl
/-- A piece without anything. -/
def zP : Pc := ⟨0, false, false, none, 0, 0, 0, false, []⟩
instance : Inhabited Pc := ⟨zP⟩
/-- A piece that stands in w. -/
structure PG (w : World) (p : Pc) : Prop where
  seq : p.seq < 4294967296
  dsn : isInt p.dsn
  data : RB w p.dA p.dn p.dc p.ds
theorem PG.below {w w' : World} {p : Pc} (h : PG w p) (hb : Below w.heap.size w w') : PG w' p := ⟨h.seq, h.dsn, h.data.below hb⟩
theorem zP_ok (w : World) : PG w zP := ⟨Nat.zero_lt_succ _, (by unfold isInt zP; decide), RB.nil_ w⟩

theorem infoPc : (Tryz.prog.info? 209).map (·.size) = some 6 := by kernel_rfl
theorem zeroPc : (Tryz.prog.info? 209).map (·.zero) = some (some (.agg zP.vals.toArray)) := by kernel_rfl
theorem infoPcF : (Tryz.prog.info? 209).map (fun i => (i.zero, i.size, i.bytes)) = some (some (.agg zP.vals.toArray), 6, 48) := by kernel_rfl

/-- Data that lie in memory of their own, newer than base. -/
def OD (base : Nat) (w : World) (p : Pc) : Prop := w.ownsRow base 5 1 (.slice p.dA p.dn p.dc) p.dn (bv p.ds)
/-- A piece that stands, whose data lie so. -/
structure PO (base : Nat) (w : World) (p : Pc) : Prop where
  seq : p.seq < 4294967296
  dsn : isInt p.dsn
  data : OD base w p
theorem PO.pg {base : Nat} {w : World} {p : Pc} (h : PO base w p) : PG w p := by
  obtain ⟨A, c, e, hr, _⟩ := RB.of_own h.data
  injection e with e1 e2 e3
  refine ⟨h.seq, h.dsn, ?_⟩
  rw [e1, e3]
  exact hr
theorem PO.below {base : Nat} {w w' : World} {p : Pc} (h : PO base w p) (hb : Below w.heap.size w w') : PO base w' p := ⟨h.seq, h.dsn, own_below h.data hb⟩
theorem PO.mono {base base' : Nat} {w : World} {p : Pc} (h : PO base w p) (hb : base' ≤ base) : PO base' w p := ⟨h.seq, h.dsn, own_mono h.data hb⟩
/-- The block in which a piece's data lie, if there are any. -/
def Pc.blk (p : Pc) : Option Nat := (Value.slice p.dA p.dn p.dc).ownBlock
theorem PO.ch {base : Nat} {w w' : World} {p : Pc} (h : PO base w p) {m : Nat → Prop} (c : Ch w w' m) (hm : ∀ g, p.blk = some g → ¬ m g) : PO base w' p := ⟨h.seq, h.dsn, own_ch2 h.data c hm⟩
theorem PO.lt {base : Nat} {w : World} {p : Pc} (h : PO base w p) {g : Nat} (hg : p.blk = some g) : base ≤ g ∧ g < w.heap.size := own_in h.data hg
/-- Such a block is one of bytes. -/
theorem PO.obj {base : Nat} {w : World} {p : Pc} (h : PO base w p) {g : Nat} (hg : p.blk = some g) : ∃ cs, w.heap[g]? = some (.cells cs 5 (0, 0)) := by
  rcases h.data.2 with ⟨e, _⟩ | ⟨g', cap, cur, e, _, hg', _⟩
  · unfold Pc.blk at hg
    rw [e] at hg
    cases hg
  · unfold Pc.blk at hg
    rw [e] at hg
    injection hg with hg
    subst hg
    exact ⟨cur, hg'⟩

/-- Pieces, as cells. -/
def pv (l : List Pc) : List Value := l.flatMap Pc.vals
theorem pv_append (l r : List Pc) : pv (l ++ r) = pv l ++ pv r := by simp [pv]
theorem pv_one1 (p : Pc) : pv [p] = p.vals := by simp [pv]
theorem pv_length (l : List Pc) : (pv l).length = l.length * 6 := by
  induction l with
  | nil => rfl
  | cons o r ih =>
    have : pv (o :: r) = o.vals ++ pv r := rfl
    rw [this, List.length_append, ih, o.vals_length, List.length_cons]
    omega
theorem pv_one (l : List Pc) : ∀ u ∈ pv l, u.oneCell' = true := by
  intro u hu
  obtain ⟨p, _, hp⟩ := List.mem_flatMap.1 hu
  exact pc_one p u hp
theorem pv_at (l : List Pc) : ∀ (j i : Nat), j < l.length → i < 6 → (pv l)[j * 6 + i]? = (l.getD j zP).vals[i]? := by
  induction l with
  | nil => intro j i hj; simp at hj
  | cons o r ih =>
    intro j i hj hi
    have e : pv (o :: r) = o.vals ++ pv r := rfl
    rw [e]
    cases j with
    | zero =>
      rw [List.getElem?_append_left (by rw [o.vals_length]; omega), Nat.zero_mul, Nat.zero_add]
      rfl
    | succ j =>
      rw [List.getElem?_append_right (by rw [o.vals_length]; omega), o.vals_length, show (j + 1) * 6 + i - 6 = j * 6 + i from by omega, ih j i (by simpa using hj) hi]
      rfl
theorem rangeAt_append {w : World} {b o : Nat} {x y : List Value} : w.rangeAt b o (x ++ y) ↔ w.rangeAt b o x ∧ w.rangeAt b (o + x.length) y := by
  constructor
  · intro h
    refine ⟨fun j v hv => h j v ?_, fun j v hv => ?_⟩
    · have := (List.getElem?_eq_some_iff.1 hv).1
      rw [List.getElem?_append_left this]
      exact hv
    · rw [Nat.add_assoc]
      refine h (x.length + j) v ?_
      rw [List.getElem?_append_right (by omega)]
      simpa using hv
  · rintro ⟨h1, h2⟩ j v hv
    rcases Nat.lt_or_ge j x.length with hj | hj
    · rw [List.getElem?_append_left hj] at hv
      exact h1 j v hv
    · rw [List.getElem?_append_right hj] at hv
      have := h2 _ v hv
      rwa [show o + x.length + (j - x.length) = o + j from by omega] at this
/-- Pieces that lie one behind the other, each by itself. -/
theorem range_pv {w : World} {b o : Nat} {l : List Pc} : w.rangeAt b o (pv l) ↔ ∀ j, j < l.length → w.rangeAt b (o + j * 6) (l.getD j zP).vals := by
  constructor
  · intro h j hj i v hv
    have hi : i < 6 := (List.getElem?_eq_some_iff.1 hv).1
    rw [Nat.add_assoc]
    refine h _ _ ?_
    rw [pv_at l j i hj hi]
    exact hv
  · intro h j v hv
    have hj := (List.getElem?_eq_some_iff.1 hv).1
    rw [pv_length] at hj
    have e := pv_at l (j / 6) (j % 6) (by omega) (by omega)
    rw [show j / 6 * 6 + j % 6 = j from by omega, hv] at e
    have := h (j / 6) (by omega) (j % 6) v e.symm
    rwa [show o + j / 6 * 6 + j % 6 = o + j from by omega] at this

/-- The slice '.slice A n c' holds the pieces l in w. -/
def PS (w : World) (A : Option Addr) (n c : Nat) (l : List Pc) : Prop :=
  l.length = n ∧ n ≤ c ∧ c ≤ maxLen ∧ (∀ p ∈ l, PG w p) ∧ (0 < n → ∃ b o, A = some ⟨b, o, none⟩ ∧ w.rangeAt b o (pv l))
section
variable {w w' : World} {A : Option Addr} {n c : Nat} {l : List Pc}
theorem PS.len (h : PS w A n c l) : l.length = n := h.1
theorem PS.cap (h : PS w A n c l) : n ≤ c := h.2.1
theorem PS.max (h : PS w A n c l) : c ≤ 9223372036854775807 := by have := h.2.2.1; unfold maxLen at this; omega
theorem getD_memP {l : List Pc} {j : Nat} (hj : j < l.length) : l.getD j zP ∈ l := by
  rw [List.getD_eq_getElem?_getD, List.getElem?_eq_getElem hj]
  exact List.getElem_mem _
theorem PS.ok (h : PS w A n c l) {j : Nat} (hj : j < n) : PG w (l.getD j zP) := h.2.2.2.1 _ (getD_memP (by rw [h.len]; exact hj))
theorem PS.at_ (h : PS w A n c l) {j : Nat} (hj : j < n) : ∃ b o, A = some ⟨b, o, none⟩ ∧ w.rangeAt b (o + j * 6) (l.getD j zP).vals := by
  obtain ⟨b, o, e, hc⟩ := h.2.2.2.2 (by omega)
  exact ⟨b, o, e, range_pv.1 hc j (by rw [h.len]; exact hj)⟩
theorem PS.below (h : PS w A n c l) (hb : Below w.heap.size w w') : PS w' A n c l :=
  ⟨h.1, h.2.1, h.2.2.1, fun p hp => (h.2.2.2.1 p hp).below hb, fun hn => by
    obtain ⟨b, o, e, hc⟩ := h.2.2.2.2 hn
    exact ⟨b, o, e, range_below hc hb⟩⟩
theorem PS.nil_ (w : World) : PS w none 0 0 [] := ⟨rfl, Nat.le_refl _, Nat.zero_le _, by simp, fun h => absurd h (by omega)⟩
end

theorem frozen_of {w : World} {g : Nat} {cs : Array Value} {t : TypeId} (h : w.heap[g]? = some (.cells cs t (0, 0))) (j : Nat) : w.frozen? ⟨g, j, none⟩ = false := by simp [World.frozen?, h]
theorem there_of {w : World} {g : Nat} {cs : Array Value} {t : TypeId} (h : w.heap[g]? = some (.cells cs t (0, 0))) {o n : Nat} (hn : o + n ≤ cs.size) : w.there g o n := fun j hj => by
  refine ⟨?_, by simp [World.frozen?, h]⟩
  rw [cell_of_row w g (o + j) cs t (0, 0) h]
  simp [show o + j < cs.size from by omega]
theorem heap_setCells {g : Nat} {t : TypeId} {fr : Nat × Nat} : ∀ (vs : List Value) (o : Nat) (w : World) (cs : Array Value), w.heap[g]? = some (.cells cs t fr) → ∃ cs', (w.setCells g o vs).heap[g]? = some (.cells cs' t fr) ∧ cs'.size = cs.size
  | [], _, _, cs, h => ⟨cs, h, rfl⟩
  | v :: r, o, w, cs, h => by
    have h1 : (w.setCell ⟨g, o, none⟩ v).heap[g]? = some (.cells (cs.setIfInBounds o v) t fr) := by simp [World.setCell, Array.getElem?_modify, h]
    obtain ⟨cs', h2, h3⟩ := heap_setCells r (o + 1) _ _ h1
    exact ⟨cs', h2, by rw [h3]; simp⟩
/-- A row that begins at its block's beginning, by its cells. -/
theorem own_of_range {w : World} {base g n cap size : Nat} {e : TypeId} {cs : Array Value} {xs : List Value} (hg : w.heap[g]? = some (.cells cs e (0, 0))) (hb : base ≤ g) (hn : n ≤ cap) (hm : cap ≤ maxLen) (hs : cs.size = cap * size) (hl : xs.length = n * size) (hr : w.rangeAt g 0 xs) :
    w.ownsRow base e size (.slice (some ⟨g, 0, none⟩) n cap) n xs := by
  refine ⟨hl, .inr ⟨g, cap, cs, rfl, hb, hg, hn, hm, hs, ?_⟩⟩
  have hle : n * size ≤ cs.size := by rw [hs]; exact Nat.mul_le_mul_right _ hn
  apply List.ext_getElem?
  intro j
  rcases Nat.lt_or_ge j (n * size) with hj | hj
  · have h1 := hr j _ (List.getElem?_eq_getElem (show j < xs.length by omega))
    rw [Nat.zero_add, cell_of_row w g j cs e (0, 0) hg] at h1
    rw [List.getElem?_take, if_pos hj, List.getElem?_eq_getElem (show j < xs.length by omega), ← h1]
    simp
  · rw [List.getElem?_eq_none (show (List.take (n * size) cs.toList).length ≤ j by rw [List.length_take]; omega), List.getElem?_eq_none (show xs.length ≤ j by omega)]

/-- A row of the call's own, or of a struct's own: wherever it begins in its block. -/
def Row (w : World) (base : Nat) (v : Value) (l : List Pc) : Prop :=
  (v = .slice none 0 0 ∧ l = []) ∨ ∃ g o c cs, v = .slice (some ⟨g, o, none⟩) l.length c ∧ base ≤ g ∧ w.heap[g]? = some (.cells cs 209 (0, 0)) ∧ l.length ≤ c ∧ c ≤ 9223372036854775807 ∧ o + c * 6 ≤ cs.size ∧ w.rangeAt g o (pv l)
section
variable {w w' : World} {base : Nat} {v : Value} {l : List Pc}
theorem Row.in_ (h : Row w base v l) {g : Nat} (hg : v.ownBlock = some g) : base ≤ g ∧ g < w.heap.size := by
  rcases h with ⟨rfl, _⟩ | ⟨g', o, c, cs, rfl, hb, hh, _⟩
  · cases hg
  · injection hg with hg
    subst hg
    exact ⟨hb, (Array.getElem?_eq_some_iff.1 hh).1⟩
theorem Row.obj (h : Row w base v l) {g : Nat} (hg : v.ownBlock = some g) : ∃ cs, w.heap[g]? = some (.cells cs 209 (0, 0)) := by
  rcases h with ⟨rfl, _⟩ | ⟨g', o, c, cs, rfl, hb, hh, _⟩
  · cases hg
  · injection hg with hg
    subst hg
    exact ⟨cs, hh⟩
theorem Row.ch (h : Row w base v l) {m : Nat → Prop} (c : Ch w w' m) (hm : ∀ g, v.ownBlock = some g → ¬ m g) : Row w' base v l := by
  rcases h with hn | ⟨g, o, k, cs, rfl, hb, hh, h1, h2, h3, h4⟩
  · exact .inl hn
  · exact .inr ⟨g, o, k, cs, rfl, hb, (c.block g (Array.getElem?_eq_some_iff.1 hh).1 (hm g rfl)).trans hh, h1, h2, h3, rangeAt_ch c h4 (hm g rfl)⟩
theorem Row.below (h : Row w base v l) (b : Below w.heap.size w w') : Row w' base v l := h.ch (Ch.of_below (fun _ => False) b) fun _ _ e => e
theorem Row.mono {base' : Nat} (h : Row w base v l) (hb : base' ≤ base) : Row w base' v l := by
  rcases h with hn | ⟨g, o, c, cs, hv, hg, rest⟩
  · exact .inl hn
  · exact .inr ⟨g, o, c, cs, hv, Nat.le_trans hb hg, rest⟩
theorem Row.slice (h : Row w base v l) : ∃ A c, v = .slice A l.length c ∧ l.length ≤ c ∧ c ≤ 9223372036854775807 := by
  rcases h with ⟨rfl, rfl⟩ | ⟨g, o, c, cs, rfl, _, _, h1, h2, _⟩
  · exact ⟨none, 0, rfl, Nat.le_refl _, by omega⟩
  · exact ⟨_, c, rfl, h1, h2⟩
theorem Row.ps {A : Option Addr} {n c : Nat} (h : Row w base (.slice A n c) l) (hg : ∀ p ∈ l, PG w p) : PS w A n c l := by
  rcases h with ⟨e, rfl⟩ | ⟨g, o, k, cs, e, _, _, h1, h2, _, h4⟩
  · injection e with e1 e2 e3
    subst e1 e2 e3
    exact PS.nil_ w
  · injection e with e1 e2 e3
    subst e1 e2 e3
    exact ⟨rfl, h1, by unfold maxLen; omega, hg, fun _ => ⟨g, o, rfl, h4⟩⟩
theorem Row.of_own {n : Nat} (h : w.ownsRow base 209 6 v n (pv l)) : Row w base v l ∧ l.length = n := by
  have hl : l.length = n := by have h1 := h.1; rw [pv_length] at h1; omega
  rcases h.2 with ⟨rfl, rfl⟩ | ⟨g, cap, cur, rfl, hb, hg, hnc, hm, hs, ht⟩
  · exact ⟨.inl ⟨rfl, List.eq_nil_of_length_eq_zero hl⟩, hl⟩
  · refine ⟨.inr ⟨g, 0, cap, cur, by rw [hl], hb, hg, by omega, by unfold maxLen at hm; omega, by omega, fun j u hu => ?_⟩, hl⟩
    have hj := (List.getElem?_eq_some_iff.1 hu).1
    rw [Nat.zero_add, World.ownsRow.cellAt h j (by rw [← h.1]; exact hj)]
    exact hu
end
end Go.Proofs.YtlcegchdkigibaaGreatDoor.LF

namespace Go.Proofs.YtlcegchdkigibaaGreatDoor.LF
set_option linter.unusedVariables false
set_option linter.unusedSimpArgs false
set_option maxRecDepth 20000
open Go.RowKit

theorem cells_out {w : World} {g o : Nat} {vs : List Value} {k i : Nat} (h : k ≠ g ∨ i < o ∨ o + vs.length ≤ i) : (w.setCells g o vs).cell? ⟨k, i, none⟩ = w.cell? ⟨k, i, none⟩ :=
  World.cell?_setCells_out g vs o w ⟨k, i, none⟩ (fun h1 h2 => by
    rcases h with h | h
    · exact absurd h1 h
    · exact h)

section
variable {P : Program} {ops : Array Oper} {rest : List Oper} {o : Oper} {a : Act} {w : World} {Q : Exit → Act → World → Prop}
/-- One cell of a row in a block of its own, stored. -/
theorem wpList_setV (hgd : Region.wanted o (yielded ops a.tmps) = true) (ty : TypeId) (x y : Operand) (ho : o.op = .store ty x y) (b k : Nat) (us : List Value) (v : Value) (hx : a.eval x = .pointer (some ⟨b, k, none⟩)) (hy : a.eval y = v) (hA : Own w b us)
    (hk : k < us.length) (h1 : v.oneCell' = true) (hi : (P.info? ty).map (·.size) = some 1)
    (h : ∀ w', Own w' b (us.set k v) → w.grownBy w' (some b) → w'.heap.size = w.heap.size → wpList P ops Q rest (a.put o.dst undef) w') : wpList P ops Q (o :: rest) a w := by
  refine wpList_want hgd fun K hK => ?_
  have hc := (hA k hk).1
  rw [List.getElem?_eq_getElem hk] at hc
  have := run_storeCells_cells (P := P) b k [v] 0 w (fun j hj => by simp at hj; subst hj; simp [hc]) (fun j hj => by simp at hj; subst hj; simpa using (hA k hk).2) (fun u hu => by simp at hu; subst hu; exact h1)
  simp only [Nat.add_zero] at this
  have hvc : v.cells = #[v] := by cases v <;> first | rfl | cases h1
  have hrun : (storeVar ty ⟨b, k, none⟩ v).run P w = .ok () (w.setCells b k [v]) := by
    cases hq : P.info? ty with
    | none => simp [hq] at hi
    | some i =>
      have hs : i.size = 1 := by simpa [hq] using hi
      simp [storeVar, sizeOf, typeInfo, hq, hvc, hs, this]
  unfold Oper.wp execOp
  simp only [ho, hx, hy, Instr.storeAt, Instr.sureAddr, Sem.run_bind, Sem.run_pure, Result.andThen_ok, hrun]
  exact hK _ _ (h _ (hA.set k hk v) (v_g_setCells b [v] k w) (v_size_setCells b [v] k w))

/-- copy of bytes onto a row of the call's own that is as long. -/
theorem copyB_run (dT ty e : TypeId) (hu : P.underlying dT = some (.slice e)) (hs : (P.info? e).map (·.size) = some 1) (base g n : Nat) (xs : List Value) (h0 : w.ownsRow base e 1 (.slice (some ⟨g, 0, none⟩) n n) n xs)
    (A : Option Addr) (c : Nat) (l : List UInt8) (h : RB w A n c l) (hn : 0 < n) :
    ∃ w', (Builtin.copy_ #[dT, dT] ty #[.slice (some ⟨g, 0, none⟩) n n, .slice A n c]).run P w = .ok (goInt n) w' ∧ w'.ownsRow base e 1 (.slice (some ⟨g, 0, none⟩) n n) n (bv l) ∧ w.grownBy w' (some g) ∧ w'.heap.size = w.heap.size := by
  have hl := h.len
  obtain ⟨b', o', rfl, hc⟩ := h.2.2.2 hn
  have h0' := h0
  rcases h0.2 with ⟨hv, _⟩ | ⟨g', cap, cur, hv, hb, hg, hnc, hm, hsz, ht⟩
  · cases hv
  injection hv with hv _ hv2
  injection hv with hv
  injection hv with hv
  subst hv hv2
  have hth : w.there g 0 n := there_of hg (by omega)
  have hrun := run_copy_cells (P := P) w dT dT ty e g 0 n n ⟨b', o', none⟩ n c (bv l) hu hs (by rw [bv_length, hl]; exact (Nat.min_self n).symm)
    (fun j v hv => by
      obtain ⟨hj, rfl⟩ := bv_get l j v hv
      rw [Addr.add_lit]
      exact hc j (by omega))
    (fun j hj => by rw [bv_length] at hj; exact (hth j (by omega)).1)
    (fun j hj => by rw [bv_length] at hj; exact (hth j (by omega)).2) (bv_one l)
  rw [bv_length, hl] at hrun
  obtain ⟨cs', h1, h2⟩ := heap_setCells (bv l) 0 w cur hg
  exact ⟨_, hrun, own_of_range h1 hb hnc hm (by rw [h2, hsz]) (by rw [bv_length]; omega) (World.rangeAt_setCells_same w g 0 (bv l) (by rw [bv_length, hl]; exact hth)), v_g_setCells g (bv l) 0 w, v_size_setCells g (bv l) 0 w⟩
theorem wpList_copyB (hgd : o.guard = none) (d s : Operand) (dT e : TypeId)
    (ho : o.op = .call { callee := .builtin .copy, args := #[d, s], argTypes := #[dT, dT] }) (hu : P.underlying dT = some (.slice e)) (hs : (P.info? e).map (·.size) = some 1) (base g n : Nat) (xs : List Value) (h0 : w.ownsRow base e 1 (.slice (some ⟨g, 0, none⟩) n n) n xs)
    (A : Option Addr) (c : Nat) (l : List UInt8) (h : RB w A n c l) (hn : 0 < n) (hd : a.eval d = .slice (some ⟨g, 0, none⟩) n n) (hx : a.eval s = .slice A n c)
    (hK : ∀ w', w'.ownsRow base e 1 (.slice (some ⟨g, 0, none⟩) n n) n (bv l) → w.grownBy w' (some g) → w'.heap.size = w.heap.size → wpList P ops Q rest (a.put o.dst (goInt n)) w') : wpList P ops Q (o :: rest) a w := by
  obtain ⟨w', hrun, h1, h2, h3⟩ := copyB_run (P := P) dT o.type e hu hs base g n xs h0 A c l h hn
  refine wpList_plain hgd fun K hK' => ?_
  unfold Oper.wp execOp
  simp only [ho, resolve, invoke, builtin, Sem.run_bind, Sem.run_pure, Result.andThen_ok, List.map_toArray, List.map_cons, List.map_nil, hd, hx, hrun]
  exact hK' _ _ (hK w' h1 h2 h3)
/-- A new row of bytes. -/
theorem wpList_makeB (hgd : o.guard = none) (l c : Operand) (t e : TypeId) (ho : o.op = .makeSlice t l c) (hu : P.underlying t = some (.slice e)) (hi : (P.info? e).map (fun i => (i.zero, i.size, i.bytes)) = some (some (.int .u8 0), 1, 1))
    (n : Nat) (hl : a.eval l = .int .i64 (n : Int)) (hc : a.eval c = .int .i64 (n : Int)) (hn : n ≤ 281474976710656) (g : Nat) (hg : w.heap.size = g)
    (hK : ∀ xs w', w'.ownsRow w.heap.size e 1 (.slice (some ⟨g, 0, none⟩) n n) n xs → Below w.heap.size w w' → wpList P ops Q rest (a.put o.dst (.slice (some ⟨g, 0, none⟩) n n)) w') : wpList P ops Q (o :: rest) a w := by
  subst hg
  obtain ⟨i, hi, hz, h1, h2⟩ := info_parts hi
  refine wpList_make_full w hgd l c t ho w.heap.size e i _ 1 hu hi hz h1 .i64 .i64 n n n hl hc rfl rfl (by rw [h2]; omega) (by unfold maxLen; omega) (Nat.le_refl _) fun w' h3 h4 => hK _ w' h3 ((Below.refl _ _).grown h4 (Nat.le_refl _) fun k hk => by cases hk)
/-- A new row of pieces. -/
theorem wpList_makeP (hgd : o.guard = none) (l c : Operand) (t e : TypeId) (ho : o.op = .makeSlice t l c) (hu : P.underlying t = some (.slice e)) (hi : (P.info? e).map (fun i => (i.zero, i.size, i.bytes)) = some (some (.agg zP.vals.toArray), 6, 48))
    (n : Nat) (hl : a.eval l = .int .i64 (n : Int)) (hc : a.eval c = .int .i64 (n : Int)) (hn : n ≤ 1099511627776) (g : Nat) (hg : w.heap.size = g)
    (hK : ∀ xs w', w'.ownsRow w.heap.size e 6 (.slice (some ⟨g, 0, none⟩) n n) n xs → Below w.heap.size w w' → wpList P ops Q rest (a.put o.dst (.slice (some ⟨g, 0, none⟩) n n)) w') : wpList P ops Q (o :: rest) a w := by
  subst hg
  obtain ⟨i, hi, hz, h1, h2⟩ := info_parts hi
  refine wpList_make_full w hgd l c t ho w.heap.size e i _ 6 hu hi hz h1 .i64 .i64 n n n hl hc rfl rfl (by rw [h2]; omega) (by unfold maxLen; omega) (Nat.le_refl _) fun w' h3 h4 => hK _ w' h3 ((Below.refl _ _).grown h4 (Nat.le_refl _) fun k hk => by cases hk)
/-- copy of pieces onto a row of the call's own that is as long. -/
theorem copyP_run (dT ty e : TypeId) (hu : P.underlying dT = some (.slice e)) (hs : (P.info? e).map (·.size) = some 6) (base g n : Nat) (xs : List Value) (h0 : w.ownsRow base e 6 (.slice (some ⟨g, 0, none⟩) n n) n xs)
    (A : Option Addr) (c : Nat) (l : List Pc) (h : PS w A n c l) :
    ∃ w', (Builtin.copy_ #[dT, dT] ty #[.slice (some ⟨g, 0, none⟩) n n, .slice A n c]).run P w = .ok (goInt n) w' ∧ w'.ownsRow base e 6 (.slice (some ⟨g, 0, none⟩) n n) n (pv l) ∧ w.grownBy w' (some g) ∧ w'.heap.size = w.heap.size := by
  have hl := h.len
  rcases h0.2 with ⟨hv, _⟩ | ⟨g', cap, cur, hv, hb, hg, hnc, hm, hsz, ht⟩
  · cases hv
  injection hv with hv _ hv2
  injection hv with hv
  injection hv with hv
  subst hv hv2
  rcases Nat.eq_zero_or_pos n with hz | hn
  · subst hz
    obtain rfl : l = [] := List.eq_nil_of_length_eq_zero hl
    have hl0 : ∀ (x : Addr), (loadCells x 0).run P w = .ok #[] w := fun x => by simpa using run_loadCells_list (P := P) w x [] (by simp)
    refine ⟨w, ?_, ⟨rfl, .inr ⟨g, 0, cur, rfl, hb, hg, hnc, hm, hsz, rfl⟩⟩, v_g_refl _ _, rfl⟩
    cases hq : P.info? e with
    | none => simp [hq] at hs
    | some i => cases A <;> simp [Builtin.copy_, run_underlying hu, Builtin.lenOf, Builtin.firstCells, sizeOf, typeInfo, hq, storeCells, hl0]
  · obtain ⟨b', o', rfl, hc⟩ := h.2.2.2.2 hn
    have hth : w.there g 0 (n * 6) := there_of hg (by omega)
    have hpl : (pv l).length = n * 6 := by rw [pv_length, hl]
    have hld := run_loadCells_list (P := P) w ⟨b', o', none⟩ (pv l) (fun j v hv => by rw [Addr.add_mid]; exact hc j v hv)
    have hst := run_storeCells_cells (P := P) g 0 (pv l) 0 w (fun j hj => by rw [hpl] at hj; simpa using (hth j hj).1) (fun j hj => by rw [hpl] at hj; simpa using (hth j hj).2) (pv_one l)
    have hrun : (Builtin.copy_ #[dT, dT] ty #[.slice (some ⟨g, 0, none⟩) n n, .slice (some ⟨b', o', none⟩) n c]).run P w = .ok (goInt n) (w.setCells g 0 (pv l)) := by
      cases hq : P.info? e with
      | none => simp [hq] at hs
      | some i =>
        have hi : i.size = 6 := by simpa [hq] using hs
        rw [hpl] at hld
        simp [Builtin.copy_, run_underlying hu, Builtin.lenOf, Builtin.firstCells, sizeOf, typeInfo, hq, hi, hld, hst]
    obtain ⟨cs', h1, h2⟩ := heap_setCells (pv l) 0 w cur hg
    exact ⟨_, hrun, own_of_range h1 hb hnc hm (by rw [h2, hsz]) hpl (World.rangeAt_setCells_same w g 0 (pv l) (by rw [hpl]; exact hth)), v_g_setCells g (pv l) 0 w, v_size_setCells g (pv l) 0 w⟩
theorem wpList_copyP (hgd : o.guard = none) (d s : Operand) (dT e : TypeId)
    (ho : o.op = .call { callee := .builtin .copy, args := #[d, s], argTypes := #[dT, dT] }) (hu : P.underlying dT = some (.slice e)) (hs : (P.info? e).map (·.size) = some 6) (base g n : Nat) (xs : List Value) (h0 : w.ownsRow base e 6 (.slice (some ⟨g, 0, none⟩) n n) n xs)
    (A : Option Addr) (c : Nat) (l : List Pc) (h : PS w A n c l) (hd : a.eval d = .slice (some ⟨g, 0, none⟩) n n) (hx : a.eval s = .slice A n c)
    (hK : ∀ w', w'.ownsRow base e 6 (.slice (some ⟨g, 0, none⟩) n n) n (pv l) → w.grownBy w' (some g) → w'.heap.size = w.heap.size → wpList P ops Q rest (a.put o.dst (goInt n)) w') : wpList P ops Q (o :: rest) a w := by
  obtain ⟨w', hrun, h1, h2, h3⟩ := copyP_run (P := P) dT o.type e hu hs base g n xs h0 A c l h
  refine wpList_plain hgd fun K hK' => ?_
  unfold Oper.wp execOp
  simp only [ho, resolve, invoke, builtin, Sem.run_bind, Sem.run_pure, Result.andThen_ok, List.map_toArray, List.map_cons, List.map_nil, hd, hx, hrun]
  exact hK' _ _ (hK w' h1 h2 h3)
theorem getD_set {l : List Pc} {j i : Nat} {p : Pc} (hj : j < l.length) : (l.set j p).getD i zP = if i = j then p else l.getD i zP := by
  by_cases e : i = j
  · subst e
    simp [hj]
  · have e2 : j ≠ i := fun h => e h.symm
    simp [List.getElem?_set_ne e2, e]
/-- A piece stored into a row. -/
theorem wpList_storeR (hgd : Region.wanted o (yielded ops a.tmps) = true) (ty e : TypeId) (x y : Operand) (ho : o.op = .store ty x y) (base g n c j : Nat) (l : List Pc) (p : Pc) (hx : a.eval x = .pointer (some ⟨g, j * 6, none⟩)) (hy : a.eval y = .agg p.vals.toArray)
    (hown : w.ownsRow base e 6 (.slice (some ⟨g, 0, none⟩) n c) n (pv l)) (hj : j < n) (hi : (P.info? ty).map (·.size) = some 6)
    (h : ∀ w', w'.ownsRow base e 6 (.slice (some ⟨g, 0, none⟩) n c) n (pv (l.set j p)) → w.grownBy w' (some g) → w'.heap.size = w.heap.size → wpList P ops Q rest (a.put o.dst undef) w') : wpList P ops Q (o :: rest) a w := by
  have hl : l.length = n := by have h1 := hown.1; rw [pv_length] at h1; omega
  rcases hown.2 with ⟨hv, _⟩ | ⟨g', cap, cur, hv, hb, hg, hnc, hm, hsz, ht⟩
  · cases hv
  injection hv with hv _ hv2
  injection hv with hv
  injection hv with hv
  subst hv hv2
  have hth : w.there g (j * 6) 6 := there_of hg (by omega)
  refine wpList_want hgd fun _ hK => wp_store_mid ty x y ho g (j * 6) p.vals.toArray hx hy (by rw [List.size_toArray]; exact hth) (by rw [List.size_toArray]; exact hi) (all_oneCell_toArray (pc_one p)) (hK _ _ ?_)
  obtain ⟨cs', h1, h2⟩ := heap_setCells p.vals (j * 6) w cur hg
  refine h _ (own_of_range h1 hb hnc hm (by rw [h2, hsz]) (by rw [pv_length, List.length_set, hl]) (range_pv.2 fun i hi2 k v hv => ?_)) (v_g_setCells g p.vals (j * 6) w) (v_size_setCells g p.vals (j * 6) w)
  rw [List.length_set] at hi2
  have hk6 : k < 6 := (List.getElem?_eq_some_iff.1 hv).1
  rw [getD_set (by omega)] at hv
  rw [Nat.zero_add]
  by_cases e : i = j
  · subst e
    rw [if_pos rfl] at hv
    exact World.rangeAt_setCells_same w g (i * 6) p.vals (by exact hth) k v hv
  · rw [if_neg e] at hv
    rw [cells_out (by right; rw [p.vals_length]; omega), World.ownsRow.cellAt hown (i * 6 + k) (by omega), pv_at l i k (by omega) hk6]
    exact hv
end

section
variable {P : Program} (w : World)
/-- A row in a new block. -/
theorem Row.new (base : Nat) (hb : base ≤ w.heap.size) (cs : Array Value) (l : List Pc) (c : Nat) (zs : List Value) (hcs : cs.toList = pv l ++ zs) (hc : l.length ≤ c) (hm : c ≤ 9223372036854775807) (hz : zs.length + l.length * 6 = c * 6) :
    Row (w.drew.alloc (.cells cs 209)) base (.slice (some ⟨w.heap.size, 0, none⟩) l.length c) l := by
  have hsz : cs.size = c * 6 := by
    rw [← Array.length_toList, hcs, List.length_append, pv_length]
    omega
  refine .inr ⟨w.heap.size, 0, c, cs, rfl, hb, heap_alloc_new w.drew _, hc, hm, by omega, fun j u hu => ?_⟩
  have hj := (List.getElem?_eq_some_iff.1 hu).1
  rw [Nat.zero_add, cell_of_row _ w.heap.size j cs _ (0, 0) (heap_alloc_new w.drew _), ← Array.getElem?_toList, hcs, List.getElem?_append_left hj]
  exact hu
theorem zeros_length (k : Nat) : (Builtin.zeroCells (Value.agg zP.vals.toArray).cells k).toList.length = k * 6 := by simp [Builtin.zeroCells, Value.cells, Pc.vals]
/-- append of one piece to a row, wherever it begins. -/
theorem app_row (t ty : TypeId) (hu : P.underlying t = some (.slice 209)) (hi : (P.info? 209).map (fun i => (i.zero, i.size, i.bytes)) = some (some (.agg zP.vals.toArray), 6, 48))
    (base : Nat) (v : Value) (l : List Pc) (h : Row w base v l) (b xc : Nat) (x : Pc) (hx : w.rangeAt b 0 x.vals) (hn : l.length ≤ 1099511627776) (hb : base ≤ w.heap.size) :
    ∃ v' w', (Builtin.append_ #[t, t] ty #[v, .slice (some ⟨b, 0, none⟩) 1 xc]).run P w = .ok v' w' ∧ Row w' base v' (l ++ [x]) ∧ w.grownBy w' v.ownBlock ∧ (v'.ownBlock = v.ownBlock ∨ v'.ownBlock = some w.heap.size) := by
  obtain ⟨i, hi, hzz⟩ := Option.map_eq_some_iff.1 hi
  simp only [Prod.mk.injEq] at hzz
  obtain ⟨hz, h2, h3⟩ := hzz
  have hlen : x.vals.length = 6 := rfl
  have hxl := run_loadCells_list (P := P) w ⟨b, 0, none⟩ x.vals (fun j v hv => by rw [Addr.add_mid]; exact hx j v hv)
  rw [hlen] at hxl
  rcases h with ⟨rfl, rfl⟩ | ⟨g, o, c, cs, rfl, hbg, hg, h4, h5, h6, h7⟩
  · have hge := grownCap_ge w 1 0 209
    have hle := grownCap_le_maxLen w 1 0 209 (by unfold maxLen; omega)
    unfold maxLen at hle
    refine ⟨_, _, run_append_nil (P := P) w t ty 209 i _ hu hi hz ⟨b, 0, none⟩ 1 xc x.vals (by rw [h2]; rfl) (fun j v hv => by rw [Addr.add_mid]; exact hx j v hv) (by omega) (by omega) (by omega), ?_, ⟨rfl, rfl, rfl, by simp, fun k hk _ => Below.heap_alloc w.drew _ k hk⟩, .inr rfl⟩
    refine Row.new w base hb _ [x] _ (Builtin.zeroCells (Value.agg zP.vals.toArray).cells (grownCap w 1 0 209 - 1)).toList (by simp [pv]) hge hle ?_
    rw [zeros_length]
    simp
    omega
  · by_cases hroom : l.length + 1 ≤ c
    · have hth : w.there g (o + l.length * 6) 6 := there_of hg (by omega)
      have hst := run_storeCells_cells (P := P) g (o + l.length * 6) x.vals 0 w (by simpa using fun j hj => (hth j (by simpa [Pc.vals] using hj)).1) (by simpa using fun j hj => (hth j (by simpa [Pc.vals] using hj)).2) (pc_one _)
      simp only [Nat.add_zero] at hst
      obtain ⟨cs', k1, k2⟩ := heap_setCells x.vals (o + l.length * 6) w cs hg
      refine ⟨.slice (some ⟨g, o, none⟩) (l.length + 1) c, w.setCells g (o + l.length * 6) x.vals, ?_, .inr ⟨g, o, c, cs', by simp, hbg, k1, by simpa using hroom, h5, by omega, ?_⟩, v_g_setCells _ _ _ _, .inl rfl⟩
      · simp [Builtin.append_, run_underlying hu, sizeOf, typeInfo, hi, h2, Builtin.lenOf, Builtin.firstCells, hxl, hst, hroom, Addr.add_mid]
      · rw [pv_append, pv_one1, rangeAt_append]
        constructor
        · intro j u hu'
          have hj := (List.getElem?_eq_some_iff.1 hu').1
          rw [pv_length] at hj
          rw [cells_out (by right; left; omega)]
          exact h7 j u hu'
        · rw [pv_length]
          exact World.rangeAt_setCells_same w g _ x.vals (by exact hth)
    · have hr : c < l.length + 1 := by omega
      have hpl : (pv l).length = l.length * 6 := pv_length l
      have hge := grownCap_ge w (l.length + 1) c 209
      have hle := grownCap_le_maxLen w (l.length + 1) c 209 (by unfold maxLen; omega)
      unfold maxLen at hle
      refine ⟨_, _, run_append_grow (P := P) w t ty 209 i _ hu hi hz ⟨g, o, none⟩ l.length c (pv l) (by rw [h2]; exact hpl) (fun j v hv => by rw [Addr.add_mid]; exact h7 j v hv) ⟨b, 0, none⟩ 1 xc x.vals (by rw [h2]; rfl) (fun j v hv => by rw [Addr.add_mid]; exact hx j v hv) hr (by omega) (growslice_fits hr (by rw [h3]; omega)), ?_, ⟨rfl, rfl, rfl, by simp, fun k hk _ => Below.heap_alloc w.drew _ k hk⟩, .inr rfl⟩
      have hll : (l ++ [x]).length = l.length + 1 := by simp
      have hR := Row.new w base hb ((pv l ++ x.vals).toArray ++ Builtin.zeroCells (Value.agg zP.vals.toArray).cells (grownCap w (l.length + 1) c 209 - (l.length + 1))) (l ++ [x]) (grownCap w (l.length + 1) c 209) (Builtin.zeroCells (Value.agg zP.vals.toArray).cells (grownCap w (l.length + 1) c 209 - (l.length + 1))).toList (by simp [pv]) (by omega) hle (by rw [zeros_length, hll]; omega)
      rw [hll] at hR
      simpa using hR
end
theorem wpList_appR {ops : Array Oper} {rest : List Oper} {o : Oper} {a : Act} {w : World} {Q : Exit → Act → World → Prop} (hgd : o.guard = none) (s x : Operand)
    (ho : o.op = .call { callee := .builtin .append, args := #[s, x], argTypes := #[228, 228] })
    (base : Nat) (v : Value) (l : List Pc) (hs : a.eval s = v) (h0 : Row w base v l) (b xc : Nat) (y : Pc) (hx : a.eval x = .slice (some ⟨b, 0, none⟩) 1 xc) (hy : w.rangeAt b 0 y.vals) (hn : l.length ≤ 1099511627776) (hb : base ≤ w.heap.size)
    (h : ∀ v' w', Row w' base v' (l ++ [y]) → w.grownBy w' v.ownBlock → (v'.ownBlock = v.ownBlock ∨ v'.ownBlock = some w.heap.size) → wpList Tryz.prog ops Q rest (a.put o.dst v') w') : wpList Tryz.prog ops Q (o :: rest) a w := by
  obtain ⟨v', w', hrun, h1, h2, h3⟩ := app_row (P := Tryz.prog) w 228 o.type Tryz.underlying228 infoPcF base v l h0 b xc y hy hn hb
  exact Lib.wpList_append_run w hgd s x 228 228 ho _ _ hs hx v' w' hrun (h v' w' h1 h2 h3)
/-- append of pieces to a row of the call's own. -/
theorem wpList_appPs {ops : Array Oper} {rest : List Oper} {o : Oper} {a : Act} {w : World} {Q : Exit → Act → World → Prop} (hgd : o.guard = none) (s x : Operand)
    (ho : o.op = .call { callee := .builtin .append, args := #[s, x], argTypes := #[228, 228] })
    (base : Nat) (v : Value) (n : Nat) (l : List Pc) (hs : a.eval s = v) (hown : w.ownsRow base 209 6 v n (pv l))
    (A : Option Addr) (m c : Nat) (r : List Pc) (hx : a.eval x = .slice A m c) (hy : PS w A m c r) (hn : n + m ≤ 1099511627776) (hb : base ≤ w.heap.size)
    (h : ∀ v' w', w'.ownsRow base 209 6 v' (n + m) (pv (l ++ r)) → w.grownBy w' v.ownBlock → (v'.ownBlock = v.ownBlock ∨ v'.ownBlock = some w.heap.size) → wpList Tryz.prog ops Q rest (a.put o.dst v') w') : wpList Tryz.prog ops Q (o :: rest) a w := by
  obtain ⟨i, hi, hz, h1, h2⟩ := info_parts infoPcF
  have hl := hy.len
  rcases A with _ | ad
  · have hm : m = 0 := by
      rcases Nat.eq_zero_or_pos m with h0 | h0
      · exact h0
      · obtain ⟨_, _, e, _⟩ := hy.2.2.2.2 h0
        cases e
    subst hm
    obtain rfl : r = [] := List.eq_nil_of_length_eq_zero hl
    have hrun := app_none (P := Tryz.prog) w base 228 o.type 209 i Tryz.underlying228 hi v n c
    refine Lib.wpList_append_run w hgd s x 228 228 ho _ _ hs hx v w ?_ (h v w (by simpa using hown) (v_g_refl _ _) (.inl rfl))
    rcases hown.2 with ⟨rfl, rfl⟩ | ⟨g, cap, cur, rfl, _, _, hnc, _⟩
    · simp [Builtin.append_, run_underlying Tryz.underlying228, sizeOf, typeInfo, hi, Builtin.lenOf, Builtin.firstCells]
    · simp [Builtin.append_, run_underlying Tryz.underlying228, sizeOf, typeInfo, hi, Builtin.lenOf, Builtin.firstCells, hnc, storeCells]
  · have hpl : (pv r).length = m * 6 := by rw [pv_length, hl]
    obtain ⟨v', w', hrun, g2, g3, _, g5⟩ := run_append_own_at (P := Tryz.prog) w base 228 o.type 209 i _ 6 48 Tryz.underlying228 hi hz h1 h2 rfl (by decide) v n (pv l) hown ad m c (pv r)
      hpl (fun j u hu => by
        have hj := (List.getElem?_eq_some_iff.1 hu).1
        obtain ⟨b, p, e, hc⟩ := hy.2.2.2.2 (by omega)
        injection e with e
        subst e
        rw [Addr.add_lit]
        exact hc j u hu) (pv_one r) (by unfold maxLen; omega) (by omega) hb
    rw [← pv_append] at g2
    exact Lib.wpList_append_run w hgd s x 228 228 ho _ _ hs hx v' w' hrun (h v' w' g2 g3 g5)
end Go.Proofs.YtlcegchdkigibaaGreatDoor.LF

namespace Go.Proofs.YtlcegchdkigibaaGreatDoor.LF
set_option linter.unusedVariables false
set_option linter.unusedSimpArgs false
open Go.RowKit

theorem sizeSl : (Tryz.prog.info? 38).map (·.size) = some 1 := by kernel_rfl
theorem sizeByte : (Tryz.prog.info? 5).map (·.size) = some 1 := by kernel_rfl
/-- What a call leaves that answers a piece that says k, with data of its own. -/
def CopP (w : World) (k : Ky) (e : Ending) (w' : World) : Prop := ∃ q : Pc, e = .returned (.agg q.vals.toArray) ∧ q.key = k ∧ PO w.heap.size w' q ∧ Below w.heap.size w w'

set_option maxRecDepth 8000 in
set_option maxHeartbeats 1600000 in
theorem copied_any (p : Pc) (w : World) (h : PG w p) (hd : p.dn ≤ 281474976710656) :
    Calls Tryz.prog 315 #[.agg p.vals.toArray] w (CopP w p.key) := by
  have hcp := h.data.cap
  have hmx := h.data.max
  have H := Lib.hid h
  have HL := Lib.hid h.data.len
  clear h
  by_cases hn : p.dn = 0
  · have hgt : decide ((0 : Int) < (p.dn : Int)) = false := decide_eq_false (by omega)
    go_enter Tryz.func315, Tryz.ntmps315
    go_wp2_with (first
      | ((with_reducible refine wpList_here ?_); refine wpList_boxV (o := ⟨some 1, _, _, _, _, _⟩) rfl 209 (.tmp 0) rfl p.vals rfl _ rfl ?_; intro w1 z1 b1 s1)
      | ((with_reducible refine wpList_here ?_); refine wpList_allocV (o := ⟨some 2, _, _, _, _, _⟩) rfl 209 rfl zP.vals zeroPc _ s1 ?_; intro w2 z2 b2 s2; have z3 := z1.below b2; have k3 : w2.cell? ⟨w.heap.size, 3, none⟩ = some (.slice p.dA p.dn p.dc) := (z3 3 (by rw [p.vals_length]; omega)).1; have b3 := below_trans b1 b2)
      | ((with_reducible refine wpList_here ?_); refine wpList_setV rfl 38 (.tmp 17) (.tmp 16) rfl _ 3 p.vals (.slice none 0 0) rfl rfl z3 (by rw [p.vals_length]; omega) rfl sizeSl ?_; intro w4 z4 g4 s4; have z5 : Own w4 w.heap.size ({ p with dA := none, dn := 0, dc := 0, ds := [] } : Pc).vals := z4; have z6 := z2.far g4 (by intro e; injection e with e; omega))
      | ((with_reducible refine wpList_here ?_); refine wpList_loadV (o := ⟨some 18, _, _, _, _, _⟩) rfl 209 (.tmp 1) rfl _ _ _ rfl z5.range _ Tryz.underlying209 rfl infoPc ?_)
      | ((with_reducible refine wpList_here ?_); refine wpList_storeV rfl 209 (.tmp 2) (.tmp 18) rfl _ _ _ rfl rfl z6 rfl (pc_one _) infoPc ?_; intro w7 z7 g7 s7))
    have b4 := v_below_g b3 g4 b3.size (Nat.le_refl _)
    have b7 := v_below_g b4 g7 b4.size (by omega)
    have hl0 : p.ds = [] := List.eq_nil_of_length_eq_zero (by rw [HL.out]; exact hn)
    exact bodyPost_ret (results_c0 rfl _ _ (w.heap.size + 1) _ _ rfl z7.range Tryz.underlying209 rfl infoPc) rfl ⟨_, rfl, by unfold Pc.key; rw [hl0], ⟨H.out.seq, H.out.dsn, World.ownsRow_nil _ _ _ _⟩, b7⟩
  · have hgt : (0 : Int) < (p.dn : Int) := by omega
    have hpos : 0 < p.dn := by omega
    go_enter Tryz.func315, Tryz.ntmps315
    go_wp2_with (first
      | ((with_reducible refine wpList_here ?_); refine wpList_boxV (o := ⟨some 1, _, _, _, _, _⟩) rfl 209 (.tmp 0) rfl p.vals rfl _ rfl ?_; intro w1 z1 b1 s1)
      | ((with_reducible refine wpList_here ?_); refine wpList_allocV (o := ⟨some 2, _, _, _, _, _⟩) rfl 209 rfl zP.vals zeroPc _ s1 ?_; intro w2 z2 b2 s2; have z3 := z1.below b2; have k3 : w2.cell? ⟨w.heap.size, 3, none⟩ = some (.slice p.dA p.dn p.dc) := (z3 3 (by rw [p.vals_length]; omega)).1; have b3 := below_trans b1 b2; have r3 := H.out.data.below b3)
      | (at_make; refine wpList_makeB rfl (.tmp 10) (.tmp 10) 38 5 rfl Tryz.underlying38 infoByte p.dn rfl rfl hd _ s2 ?_; intro xs w4 o4 b4; have z4 := z3.below b4; have y4 := z2.below b4; have r4 := r3.below b4; have b5 := below_trans b3 b4; have k5 : w4.cell? ⟨w.heap.size, 3, none⟩ = some (.slice p.dA p.dn p.dc) := (z4 3 (by rw [p.vals_length]; omega)).1; have s4 := b4.size; clear k3 z3 z2 r3 z1)
      | ((with_reducible refine wpList_here ?_); refine wpList_copyB rfl (.tmp 12) (.tmp 14) 38 5 rfl Tryz.underlying38 sizeByte _ _ p.dn xs o4 p.dA p.dc p.ds r4 hpos rfl rfl ?_; intro w6 o6 g6 s6; have z6 := z4.far g6 (by intro e; injection e with e; omega); have y6 := y4.far g6 (by intro e; injection e with e; omega); have b6 := v_below_g b5 g6 b5.size (by omega); clear z4 y4 r4 o4 k5)
      | ((with_reducible refine wpList_here ?_); refine wpList_setV rfl 38 (.tmp 17) (.tmp 16) rfl _ 3 p.vals (.slice (some ⟨w.heap.size + 1 + 1, 0, none⟩) p.dn p.dn) rfl rfl z6 (by rw [p.vals_length]; omega) rfl sizeSl ?_; intro w7 z7 g7 s7; have z8 : Own w7 w.heap.size ({ p with dA := some ⟨w.heap.size + 1 + 1, 0, none⟩, dc := p.dn } : Pc).vals := z7; have y8 := y6.far g7 (by intro e; injection e with e; omega); have o8 := o6.kept g7 (Or.inr (fun e => by have h1 : w.heap.size + 1 + 1 = w.heap.size := Option.some.inj e; omega)); have b8 := v_below_g b6 g7 b6.size (Nat.le_refl _); clear z7 y6 o6)
      | ((with_reducible refine wpList_here ?_); refine wpList_loadV (o := ⟨some 18, _, _, _, _, _⟩) rfl 209 (.tmp 1) rfl _ _ _ rfl z8.range _ Tryz.underlying209 rfl infoPc ?_)
      | ((with_reducible refine wpList_here ?_); refine wpList_storeV rfl 209 (.tmp 2) (.tmp 18) rfl _ _ _ rfl rfl y8 rfl (pc_one _) infoPc ?_; intro w9 z9 g9 s9; have o9 := o8.kept g9 (Or.inr (fun e => by have h1 : w.heap.size + 1 + 1 = w.heap.size + 1 := Option.some.inj e; omega))))
    have b9 := v_below_g b8 g9 b8.size (by omega)
    exact bodyPost_ret (results_c0 rfl _ _ (w.heap.size + 1) _ _ rfl z9.range Tryz.underlying209 rfl infoPc) rfl ⟨_, rfl, rfl, ⟨H.out.seq, H.out.dsn, own_mono o9 (by omega)⟩, b9⟩
end Go.Proofs.YtlcegchdkigibaaGreatDoor.LF

namespace Go.Proofs.YtlcegchdkigibaaGreatDoor.LF
set_option linter.unusedVariables false
set_option linter.unusedSimpArgs false
open Go.RowKit

/-- An element of an array that is a value. -/
theorem run_index_row (W : World) (t e : TypeId) (n : Nat) (cs : Array Value) (k : Int) (v : Value) (ht : Tryz.prog.underlying t = some (.array n e)) (hs : ∀ W : World, (sizeOf e).run Tryz.prog W = .ok 1 W) (ha : ∀ W : World, (isAgg e).run Tryz.prog W = .ok false W)
    (h0 : 0 ≤ k) (hk : k < n) (hv : cs[k.toNat]? = some v) : (Instr.index t (.agg cs) (.int .i64 k)).run Tryz.prog W = .ok v W := by
  simp [Instr.index, run_underlying ht, asIntOf, h0, hk, hs, part, ha, hv, show ¬ (n : Int) ≤ k by omega]
theorem szBool (W : World) : (sizeOf 4).run Tryz.prog W = .ok 1 W := by kernel_rfl
theorem aggBool (W : World) : (isAgg 4).run Tryz.prog W = .ok false W := by kernel_rfl

/-- The cells of a segment with two flags and data alone. -/
def sgv (syn fin : Bool) (A : Option Addr) (n c : Nat) : List Value := [.int .i64 0, .int .i64 0, .int .i64 0, .int .i64 0, .int .u32 0, .int .u32 0, .bool syn, .bool false, .bool fin, .bool false, .int .i64 0, .slice none 0 0, .slice A n c]
theorem sgv_length (syn fin : Bool) (A : Option Addr) (n c : Nat) : (sgv syn fin A n c).length = 13 := rfl

set_option maxRecDepth 8000 in
set_option maxHeartbeats 1600000 in
theorem Long_any (syn fin : Bool) (dA : Option Addr) (dn dc : Nat) (w : World) (hl : dn ≤ dc) (hm : dc ≤ 9223372036854775807) (hd : dn ≤ 1099511627776) :
    Calls Tryz.prog 38 #[.agg (sgv syn fin dA dn dc).toArray] w fun e w' => e = .returned (.int .i64 ((dn + bn syn + bn fin : Nat) : Int)) ∧ Below w.heap.size w w' := by
  cases syn <;> cases fin
  · go_enter Tryz.func38, Tryz.ntmps38
    go_wp2_with (first
      | ((with_reducible refine wpList_here ?_); refine wpList_boxV (o := ⟨some 1, _, _, _, _, _⟩) rfl 40 (.tmp 0) rfl (sgv false false dA dn dc) rfl _ rfl ?_; intro w1 z1 b1 s1; have k6 : w1.cell? ⟨w.heap.size, 6, none⟩ = some (.bool false) := (z1 6 (by rw [sgv_length]; omega)).1; have k8 : w1.cell? ⟨w.heap.size, 8, none⟩ = some (.bool false) := (z1 8 (by rw [sgv_length]; omega)).1; have k12 : w1.cell? ⟨w.heap.size, 12, none⟩ = some (.slice dA dn dc) := (z1 12 (by rw [sgv_length]; omega)).1))
    have i0 := fun W => run_index_row W 122 4 2 #[.bool false, .bool false] 0 _ Tryz.underlying122 szBool aggBool (by omega) (by omega) rfl
    have i1 := fun W => run_index_row W 122 4 2 #[.bool false, .bool false] 1 _ Tryz.underlying122 szBool aggBool (by omega) (by omega) rfl
    go_loopw [3, 14] (fun x i wr => wr = w1 ∧ ((i = .int .i64 0 ∧ x = .int .i64 (dn : Int)) ∨ (i = .int .i64 1 ∧ x = .int .i64 ((dn + bn false : Nat) : Int)) ∨ (i = .int .i64 2 ∧ x = .int .i64 ((dn + bn false + bn false : Nat) : Int)))) (fun _ i _ => 2 - (intOf i).toNat)
    case atStart => exact ⟨rfl, Or.inl ⟨rfl, rfl⟩⟩
    case round =>
      obtain ⟨rfl, ⟨rfl, rfl⟩ | ⟨rfl, rfl⟩ | ⟨rfl, rfl⟩⟩ := hrel
      · go_wp2
        go_roundw
        case rel => exact ⟨trivial, Or.inr (Or.inl ⟨rfl, rfl⟩)⟩
        case measure => simp [intOf]
      · simp only [bn, if_true, Bool.false_eq_true, if_false, Nat.add_zero]
        go_wp2
        go_roundw
        case rel => exact ⟨trivial, Or.inr (Or.inr ⟨rfl, rfl⟩)⟩
        case measure => simp [intOf]
      · go_wp2
        go_ret
        exact ⟨rfl, b1⟩
  · go_enter Tryz.func38, Tryz.ntmps38
    go_wp2_with (first
      | ((with_reducible refine wpList_here ?_); refine wpList_boxV (o := ⟨some 1, _, _, _, _, _⟩) rfl 40 (.tmp 0) rfl (sgv false true dA dn dc) rfl _ rfl ?_; intro w1 z1 b1 s1; have k6 : w1.cell? ⟨w.heap.size, 6, none⟩ = some (.bool false) := (z1 6 (by rw [sgv_length]; omega)).1; have k8 : w1.cell? ⟨w.heap.size, 8, none⟩ = some (.bool true) := (z1 8 (by rw [sgv_length]; omega)).1; have k12 : w1.cell? ⟨w.heap.size, 12, none⟩ = some (.slice dA dn dc) := (z1 12 (by rw [sgv_length]; omega)).1))
    have i0 := fun W => run_index_row W 122 4 2 #[.bool false, .bool true] 0 _ Tryz.underlying122 szBool aggBool (by omega) (by omega) rfl
    have i1 := fun W => run_index_row W 122 4 2 #[.bool false, .bool true] 1 _ Tryz.underlying122 szBool aggBool (by omega) (by omega) rfl
    go_loopw [3, 14] (fun x i wr => wr = w1 ∧ ((i = .int .i64 0 ∧ x = .int .i64 (dn : Int)) ∨ (i = .int .i64 1 ∧ x = .int .i64 ((dn + bn false : Nat) : Int)) ∨ (i = .int .i64 2 ∧ x = .int .i64 ((dn + bn false + bn true : Nat) : Int)))) (fun _ i _ => 2 - (intOf i).toNat)
    case atStart => exact ⟨rfl, Or.inl ⟨rfl, rfl⟩⟩
    case round =>
      obtain ⟨rfl, ⟨rfl, rfl⟩ | ⟨rfl, rfl⟩ | ⟨rfl, rfl⟩⟩ := hrel
      · go_wp2
        go_roundw
        case rel => exact ⟨trivial, Or.inr (Or.inl ⟨rfl, rfl⟩)⟩
        case measure => simp [intOf]
      · simp only [bn, if_true, Bool.false_eq_true, if_false, Nat.add_zero]
        go_wp2
        go_roundw
        case rel => exact ⟨trivial, Or.inr (Or.inr ⟨rfl, rfl⟩)⟩
        case measure => simp [intOf]
      · go_wp2
        go_ret
        exact ⟨rfl, b1⟩
  · go_enter Tryz.func38, Tryz.ntmps38
    go_wp2_with (first
      | ((with_reducible refine wpList_here ?_); refine wpList_boxV (o := ⟨some 1, _, _, _, _, _⟩) rfl 40 (.tmp 0) rfl (sgv true false dA dn dc) rfl _ rfl ?_; intro w1 z1 b1 s1; have k6 : w1.cell? ⟨w.heap.size, 6, none⟩ = some (.bool true) := (z1 6 (by rw [sgv_length]; omega)).1; have k8 : w1.cell? ⟨w.heap.size, 8, none⟩ = some (.bool false) := (z1 8 (by rw [sgv_length]; omega)).1; have k12 : w1.cell? ⟨w.heap.size, 12, none⟩ = some (.slice dA dn dc) := (z1 12 (by rw [sgv_length]; omega)).1))
    have i0 := fun W => run_index_row W 122 4 2 #[.bool true, .bool false] 0 _ Tryz.underlying122 szBool aggBool (by omega) (by omega) rfl
    have i1 := fun W => run_index_row W 122 4 2 #[.bool true, .bool false] 1 _ Tryz.underlying122 szBool aggBool (by omega) (by omega) rfl
    go_loopw [3, 14] (fun x i wr => wr = w1 ∧ ((i = .int .i64 0 ∧ x = .int .i64 (dn : Int)) ∨ (i = .int .i64 1 ∧ x = .int .i64 ((dn + bn true : Nat) : Int)) ∨ (i = .int .i64 2 ∧ x = .int .i64 ((dn + bn true + bn false : Nat) : Int)))) (fun _ i _ => 2 - (intOf i).toNat)
    case atStart => exact ⟨rfl, Or.inl ⟨rfl, rfl⟩⟩
    case round =>
      obtain ⟨rfl, ⟨rfl, rfl⟩ | ⟨rfl, rfl⟩ | ⟨rfl, rfl⟩⟩ := hrel
      · go_wp2
        go_roundw
        case rel => exact ⟨trivial, Or.inr (Or.inl ⟨rfl, rfl⟩)⟩
        case measure => simp [intOf]
      · simp only [bn, if_true, Bool.false_eq_true, if_false, Nat.add_zero]
        go_wp2
        go_roundw
        case rel => exact ⟨trivial, Or.inr (Or.inr ⟨rfl, rfl⟩)⟩
        case measure => simp [intOf]
      · go_wp2
        go_ret
        exact ⟨rfl, b1⟩
  · go_enter Tryz.func38, Tryz.ntmps38
    go_wp2_with (first
      | ((with_reducible refine wpList_here ?_); refine wpList_boxV (o := ⟨some 1, _, _, _, _, _⟩) rfl 40 (.tmp 0) rfl (sgv true true dA dn dc) rfl _ rfl ?_; intro w1 z1 b1 s1; have k6 : w1.cell? ⟨w.heap.size, 6, none⟩ = some (.bool true) := (z1 6 (by rw [sgv_length]; omega)).1; have k8 : w1.cell? ⟨w.heap.size, 8, none⟩ = some (.bool true) := (z1 8 (by rw [sgv_length]; omega)).1; have k12 : w1.cell? ⟨w.heap.size, 12, none⟩ = some (.slice dA dn dc) := (z1 12 (by rw [sgv_length]; omega)).1))
    have i0 := fun W => run_index_row W 122 4 2 #[.bool true, .bool true] 0 _ Tryz.underlying122 szBool aggBool (by omega) (by omega) rfl
    have i1 := fun W => run_index_row W 122 4 2 #[.bool true, .bool true] 1 _ Tryz.underlying122 szBool aggBool (by omega) (by omega) rfl
    go_loopw [3, 14] (fun x i wr => wr = w1 ∧ ((i = .int .i64 0 ∧ x = .int .i64 (dn : Int)) ∨ (i = .int .i64 1 ∧ x = .int .i64 ((dn + bn true : Nat) : Int)) ∨ (i = .int .i64 2 ∧ x = .int .i64 ((dn + bn true + bn true : Nat) : Int)))) (fun _ i _ => 2 - (intOf i).toNat)
    case atStart => exact ⟨rfl, Or.inl ⟨rfl, rfl⟩⟩
    case round =>
      obtain ⟨rfl, ⟨rfl, rfl⟩ | ⟨rfl, rfl⟩ | ⟨rfl, rfl⟩⟩ := hrel
      · go_wp2
        go_roundw
        case rel => exact ⟨trivial, Or.inr (Or.inl ⟨rfl, rfl⟩)⟩
        case measure => simp [intOf]
      · simp only [bn, if_true, Bool.false_eq_true, if_false, Nat.add_zero]
        go_wp2
        go_roundw
        case rel => exact ⟨trivial, Or.inr (Or.inr ⟨rfl, rfl⟩)⟩
        case measure => simp [intOf]
      · go_wp2
        go_ret
        exact ⟨rfl, b1⟩

/-- A new variable's cells. -/
theorem new_pc (w : World) (p : Pc) : Own (w.alloc (.cells #[.int .u32 (p.seq : Int), .bool p.syn, .bool p.fin, .slice p.dA p.dn p.dc, .int .i64 p.dsn, .bool p.last] 209)) w.heap.size p.vals := Own.new w p.vals _
theorem len_pc {p : Pc} {w : World} (h : PG w p) : p.key.len = p.dn + bn p.syn + bn p.fin := by
  unfold Ky.len Pc.key
  rw [h.data.len]

set_option maxRecDepth 8000 in
set_option maxHeartbeats 1600000 in
theorem long_any (p : Pc) (w : World) (h : PG w p) (hd : p.dn ≤ 1099511627776) :
    Calls Tryz.prog 316 #[.agg p.vals.toArray] w fun e w' => e = .returned (.int .i64 (p.key.len : Int)) ∧ Below w.heap.size w w' := by
  have HL := Lib.hid (fun W => Long_any p.syn p.fin p.dA p.dn p.dc W h.data.cap h.data.max hd)
  rw [← len_pc h] at HL
  generalize p.key.len = n at *
  clear h
  go_enter Tryz.func316, Tryz.ntmps316
  go_wp2_with (first
    | ((with_reducible refine wpList_here ?_); refine wpList_boxV (o := ⟨some 1, _, _, _, _, _⟩) rfl 209 (.tmp 0) rfl p.vals rfl _ rfl ?_; intro w1 z1 b1 s1; have k1 : w1.cell? ⟨w.heap.size, 1, none⟩ = some (.bool p.syn) := (z1 1 (by rw [p.vals_length]; omega)).1; have k2 : w1.cell? ⟨w.heap.size, 2, none⟩ = some (.bool p.fin) := (z1 2 (by rw [p.vals_length]; omega)).1; have k3 : w1.cell? ⟨w.heap.size, 3, none⟩ = some (.slice p.dA p.dn p.dc) := (z1 3 (by rw [p.vals_length]; omega)).1)
    | (go_at_call 38; refine (HL.out _).mono ?_; rintro e w2 ⟨rfl, b2⟩))
  go_ret
  exact ⟨rfl, below_trans b1 b2⟩

end Go.Proofs.YtlcegchdkigibaaGreatDoor.LF

namespace Go.Proofs.YtlcegchdkigibaaGreatDoor.LF
set_option linter.unusedVariables false
set_option linter.unusedSimpArgs false
open Go.RowKit

theorem PO.kept {base : Nat} {w w' : World} {row : Option Nat} {p : Pc} (h : PO base w p) (hg : w.grownBy w' row) (hne : p.blk = none ∨ p.blk ≠ row) : PO base w' p := ⟨h.seq, h.dsn, h.data.kept hg hne⟩
/-- Pieces with data of their own, that say ks. -/
def Own6 (base : Nat) (w : World) (v : Value) (ks : List Ky) : Prop := ∃ qs : List Pc, w.ownsRow base 209 6 v ks.length (pv qs) ∧ qs.map Pc.key = ks ∧ ∀ q ∈ qs, PO base w q
/-- What a call leaves that answers such pieces. -/
def AllP (w : World) (ks : List Ky) (e : Ending) (w' : World) : Prop := ∃ v, e = .returned v ∧ Own6 w.heap.size w' v ks ∧ Below w.heap.size w w'

theorem mid_get {qs l : List Pc} {j : Nat} (h : qs.length = j) (hj : j < l.length) : (qs ++ l.drop j).getD j zP = l.getD j zP := by
  subst h
  simp [List.getD_eq_getElem?_getD, List.getElem?_append_right]
theorem mid_set {qs l : List Pc} {j : Nat} (h : qs.length = j) (hj : j < l.length) (q : Pc) : (qs ++ l.drop j).set j q = (qs ++ [q]) ++ l.drop (j + 1) := by
  subst h
  rw [List.set_append_right _ _ (Nat.le_refl _), Nat.sub_self, List.drop_eq_getElem_cons hj, List.set_cons_zero, List.append_assoc]
  rfl
theorem take_keyP {l : List Pc} {j : Nat} (hj : j < l.length) : (l.take (j + 1)).map Pc.key = (l.take j).map Pc.key ++ [(l.getD j zP).key] := by
  rw [List.take_succ_eq_append_getElem hj, List.map_append]
  simp [List.getD_eq_getElem?_getD, hj]
theorem own_rangeP {w : World} {base g n c j : Nat} {l : List Pc} (h : w.ownsRow base 209 6 (.slice (some ⟨g, 0, none⟩) n c) n (pv l)) (hj : j < n) : w.rangeAt g (j * 6) (l.getD j zP).vals := by
  have hl := h.1
  rw [pv_length] at hl
  intro k v hv
  have hk : k < 6 := (List.getElem?_eq_some_iff.1 hv).1
  rw [World.ownsRow.cellAt h (j * 6 + k) (by omega), pv_at l j k (by omega) hk]
  exact hv

set_option maxRecDepth 8000 in
set_option maxHeartbeats 3200000 in
theorem all_any (A : Option Addr) (n c : Nat) (l : List Pc) (w : World) (h : PS w A n c l) (hn : n ≤ 1099511627776) (hd : ∀ p ∈ l, p.dn ≤ 1099511627776) :
    Calls Tryz.prog 400 #[.slice A n c] w (AllP w (l.map Pc.key)) := by
  have hcp := h.cap
  have hmx := h.max
  have HLN := Lib.hid h.len
  have HP := Lib.hid h
  have HD := Lib.hid hd
  clear hd
  go_enter Tryz.func400, Tryz.ntmps400
  go_wp2_with (first
    | (at_make; refine wpList_makeP rfl (.tmp 7) (.tmp 7) 228 209 rfl Tryz.underlying228 infoPcF n rfl rfl hn _ rfl ?_; intro xs w1 o1 b1; have h1 := h.below b1; clear h)
    | ((with_reducible refine wpList_here ?_); refine wpList_copyP rfl (.tmp 9) (.tmp 10) 228 209 rfl Tryz.underlying228 infoPc _ _ n xs o1 A c l h1 rfl rfl ?_; intro w2 o2 g2 s2; have b2 := v_below_g b1 g2 b1.size (Nat.le_refl _); clear o1 h1))
  go_loopw [14] (fun i wr => ∃ (j : Nat) (qs : List Pc), j ≤ n ∧ i = .int .i64 j ∧ qs.length = j ∧ qs.map Pc.key = (l.take j).map Pc.key ∧ (∀ q ∈ qs, PO w.heap.size wr q) ∧ wr.ownsRow w.heap.size 209 6 (.slice (some ⟨w.heap.size, 0, none⟩) n n) n (pv (qs ++ l.drop j)) ∧ Below w.heap.size w wr) (fun i _ => n - (intOf i).toNat)
  case atStart => exact ⟨0, [], Nat.zero_le _, rfl, rfl, rfl, (fun q hq => by cases hq), o2, b2⟩
  case round =>
    obtain ⟨j, qs, hj, rfl, hql, hqk, hqo, ho, hb⟩ := hrel
    have HQL := Lib.hid hql
    have HQK := Lib.hid hqk
    have HQO := Lib.hid hqo
    clear hql hqk hqo
    by_cases hlt : j < n
    · have hjl : j < l.length := by rw [HLN.out]; exact hlt
      have HT := Lib.hid (take_keyP hjl)
      have HS := Lib.hid (mid_set (qs := qs) HQL.out hjl)
      have hr := own_rangeP ho hlt
      rw [mid_get HQL.out hjl] at hr
      have HO := Lib.hid ho
      have HPG := Lib.hid ((HP.out.ok hlt).below hb)
      have HDN := Lib.hid (HD.out _ (getD_memP hjl))
      have HB := Lib.hid hb
      clear ho hjl
      generalize l.getD j zP = p at *
      go_wp2_with (first
        | ((with_reducible refine wpList_here ?_); refine wpList_loadV (o := ⟨some 18, _, _, _, _, _⟩) rfl 209 (.tmp 17) rfl _ _ p.vals rfl hr _ Tryz.underlying209 rfl infoPc ?_)
        | ((with_reducible refine wpList_here ?_); refine wpList_allocV (o := ⟨some 5, _, _, _, _, _⟩) rfl 209 rfl zP.vals zeroPc _ rfl ?_; intro w4 z4 b4 s4)
        | ((with_reducible refine wpList_here ?_); refine wpList_storeV rfl 209 (.tmp 5) (.tmp 18) rfl _ _ p.vals rfl rfl z4 rfl (pc_one p) infoPc ?_; intro w5 z5 g5 s5; have b5 := v_below_g b4 g5 b4.size (Nat.le_refl _); clear z4 b4 g5)
        | ((with_reducible refine wpList_here ?_); refine wpList_loadV (o := ⟨some 21, _, _, _, _, _⟩) rfl 209 (.tmp 5) rfl _ _ p.vals rfl z5.range _ Tryz.underlying209 rfl infoPc ?_)
        | (go_at_call 315; refine (copied_any p w5 (HPG.out.below b5) (by have := HDN.out; omega)).mono ?_; rintro e w6 ⟨q, rfl, hqk, hqo, b6⟩; have b7 := below_trans b5 b6; have o7 := own_below HO.out b7; have HK6 := Lib.hid hqk; have HO6 := Lib.hid hqo; clear z5 hqk hqo hr)
        | ((with_reducible refine wpList_here ?_); refine wpList_storeR rfl 209 209 (.tmp 23) (.tmp 22) rfl _ _ n n j _ q rfl rfl o7 hlt infoPc ?_; intro w8 o8 g8 s8))
      have hs6 := HB.out.size
      have b8 := v_below_g (below_trans HB.out b7) g8 (by have := b7.size; omega) (Nat.le_refl _)
      rw [HS.out] at o8
      have hall : ∀ x ∈ qs ++ [q], PO w.heap.size w8 x := fun x hx => by
        rcases List.mem_append.1 hx with hx | hx
        · have h1 := (HQO.out x hx).below b7
          refine h1.kept g8 (Or.inr fun e => ?_)
          obtain ⟨cs, h2⟩ := (HQO.out x hx).obj e
          rcases HO.out.2 with ⟨hv, _⟩ | ⟨g', cap, cur, hv, _, hg, _⟩
          · cases hv
          · injection hv with hv
            injection hv with hv
            injection hv with hv
            rw [← hv, h2] at hg
            injection hg with hg
            injection hg with _ hg
            exact absurd hg (by decide)
        · simp at hx
          subst hx
          have h1 := HO6.out
          refine (h1.mono (by have := b5.size; omega)).kept g8 (Or.inr fun e => ?_)
          have := (h1.lt e).1
          have := b5.size
          have := (HO.out.lt w.heap.size rfl).2
          omega
      go_roundw
      case rel => exact ⟨j + 1, qs ++ [q], by omega, by go_num, by simp [HQL.out], by rw [HT.out, List.map_append, HQK.out]; simp [HK6.out], hall, o8, b8⟩
      case measure => simp [intOf]; omega
    · obtain rfl : j = n := by omega
      rw [List.drop_eq_nil_of_le (by rw [HLN.out]; exact Nat.le_refl _), List.append_nil] at ho
      have hk := HQK.out
      rw [List.take_of_length_le (by rw [HLN.out]; exact Nat.le_refl _)] at hk
      have hln : (l.map Pc.key).length = j := by rw [List.length_map, HLN.out]
      have HR : Hid (Own6 w.heap.size wr (.slice (some ⟨w.heap.size, 0, none⟩) j j) (l.map Pc.key)) := Lib.hid ⟨qs, by rw [hln]; exact ho, hk, HQO.out⟩
      clear hk ho hln
      go_wp2_with fail
      go_ret
      exact ⟨_, rfl, HR.out, hb⟩
end Go.Proofs.YtlcegchdkigibaaGreatDoor.LF
