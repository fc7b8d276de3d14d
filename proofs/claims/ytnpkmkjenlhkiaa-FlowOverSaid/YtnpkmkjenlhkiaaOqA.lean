/- Words of our own for pieces: a piece's cells, what it says, what lies behind its data; rows of pieces. No condition. -/
import Derived.Test.YtnpkmkjenlhkiaaVal
namespace Go.Proofs.Ytnpkmkjenlhkiaa
set_option linter.unusedVariables false
set_option linter.unusedSimpArgs false
open Go.RowKit

/-- 0 or 1. -/
def bn (b : Bool) : Nat := if b = true then 1 else 0
/-- What a piece says. -/
structure Ky where
  seq : Nat
  syn : Bool
  fin : Bool
  dsn : Int
  last : Bool
  ds : List UInt8
/-- Its length in numbers. -/
def Ky.len (k : Ky) : Nat := k.ds.length + bn k.syn + bn k.fin
/-- A piece: its fields, its data as a slice, and the bytes that it holds. -/
structure Pc where
  seq : Nat
  syn : Bool
  fin : Bool
  dA : Option Addr
  dn : Nat
  dc : Nat
  dsn : Int
  last : Bool
  ds : List UInt8
def Pc.key (p : Pc) : Ky := ⟨p.seq, p.syn, p.fin, p.dsn, p.last, p.ds⟩
/-- Its cells. -/
def Pc.vals (p : Pc) : List Value := [.int .u32 (p.seq : Int), .bool p.syn, .bool p.fin, .slice p.dA p.dn p.dc, .int .i64 p.dsn, .bool p.last]
theorem Pc.vals_length (p : Pc) : p.vals.length = 6 := rfl
theorem pc_one (p : Pc) : ∀ u ∈ p.vals, u.oneCell' = true := by
  intro u hu
  simp only [Pc.vals, List.mem_cons, List.not_mem_nil, or_false] at hu
  rcases hu with rfl | rfl | rfl | rfl | rfl | rfl <;> rfl
/-- A piece without anything. -/
def zP : Pc := ⟨0, false, false, none, 0, 0, 0, false, []⟩
instance : Inhabited Pc := ⟨zP⟩
/-- A piece that stands in w. -/
structure PG (w : World) (p : Pc) : Prop where
  seq : p.seq < 4294967296
  dsn : isInt p.dsn
  data : RB w p.dA p.dn p.dc p.ds
theorem PG.below {w w' : World} {p : Pc} (h : PG w p) (hb : Below w.heap.size w w') : PG w' p := ⟨h.seq, h.dsn, h.data.below hb⟩
theorem zP_ok (w : World) : PG w zP := ⟨Nat.zero_lt_succ _, (by unfold isInt zP; decide), RB.nil_ w⟩

theorem infoPc : (Try.prog.info? 52).map (·.size) = some 6 := by kernel_rfl
theorem zeroPc : (Try.prog.info? 52).map (·.zero) = some (some (.agg zP.vals.toArray)) := by kernel_rfl
theorem infoPcF : (Try.prog.info? 52).map (fun i => (i.zero, i.size, i.bytes)) = some (some (.agg zP.vals.toArray), 6, 48) := by kernel_rfl

/-- Data that lie in memory of their own, newer than base. -/
def OD (base : Nat) (w : World) (p : Pc) : Prop := w.ownsRow base 5 1 (.slice p.dA p.dn p.dc) p.dn (bv p.ds)
/-- A piece that stands, whose data lie so. -/
structure PO (base : Nat) (w : World) (p : Pc) : Prop where
  seq : p.seq < 4294967296
  dsn : isInt p.dsn
  data : OD base w p
theorem PO.pg {base : Nat} {w : World} {p : Pc} (h : PO base w p) : PG w p := by
  obtain ⟨A, c, e, hr, _⟩ := RB.of_own h.data
  injection e with e1 e2 e3
  refine ⟨h.seq, h.dsn, ?_⟩
  rw [e1, e3]
  exact hr
theorem PO.below {base : Nat} {w w' : World} {p : Pc} (h : PO base w p) (hb : Below w.heap.size w w') : PO base w' p := ⟨h.seq, h.dsn, own_below h.data hb⟩
theorem PO.mono {base base' : Nat} {w : World} {p : Pc} (h : PO base w p) (hb : base' ≤ base) : PO base' w p := ⟨h.seq, h.dsn, own_mono h.data hb⟩
/-- The block in which a piece's data lie, if there are any. -/
def Pc.blk (p : Pc) : Option Nat := (Value.slice p.dA p.dn p.dc).ownBlock
theorem PO.ch {base : Nat} {w w' : World} {p : Pc} (h : PO base w p) {m : Nat → Prop} (c : Ch w w' m) (hm : ∀ g, p.blk = some g → ¬ m g) : PO base w' p := ⟨h.seq, h.dsn, own_ch2 h.data c hm⟩
theorem PO.lt {base : Nat} {w : World} {p : Pc} (h : PO base w p) {g : Nat} (hg : p.blk = some g) : base ≤ g ∧ g < w.heap.size := own_in h.data hg
/-- Such a block is one of bytes. -/
theorem PO.obj {base : Nat} {w : World} {p : Pc} (h : PO base w p) {g : Nat} (hg : p.blk = some g) : ∃ cs, w.heap[g]? = some (.cells cs 5 (0, 0)) := by
  rcases h.data.2 with ⟨e, _⟩ | ⟨g', cap, cur, e, _, hg', _⟩
  · unfold Pc.blk at hg
    rw [e] at hg
    cases hg
  · unfold Pc.blk at hg
    rw [e] at hg
    injection hg with hg
    subst hg
    exact ⟨cur, hg'⟩

/-- Pieces, as cells. -/
def pv (l : List Pc) : List Value := l.flatMap Pc.vals
theorem pv_append (l r : List Pc) : pv (l ++ r) = pv l ++ pv r := by simp [pv]
theorem pv_one1 (p : Pc) : pv [p] = p.vals := by simp [pv]
theorem pv_length (l : List Pc) : (pv l).length = l.length * 6 := by
  induction l with
  | nil => rfl
  | cons o r ih =>
    have : pv (o :: r) = o.vals ++ pv r := rfl
    rw [this, List.length_append, ih, o.vals_length, List.length_cons]
    omega
theorem pv_one (l : List Pc) : ∀ u ∈ pv l, u.oneCell' = true := by
  intro u hu
  obtain ⟨p, _, hp⟩ := List.mem_flatMap.1 hu
  exact pc_one p u hp
theorem pv_at (l : List Pc) : ∀ (j i : Nat), j < l.length → i < 6 → (pv l)[j * 6 + i]? = (l.getD j zP).vals[i]? := by
  induction l with
  | nil => intro j i hj; simp at hj
  | cons o r ih =>
    intro j i hj hi
    have e : pv (o :: r) = o.vals ++ pv r := rfl
    rw [e]
    cases j with
    | zero =>
      rw [List.getElem?_append_left (by rw [o.vals_length]; omega), Nat.zero_mul, Nat.zero_add]
      rfl
    | succ j =>
      rw [List.getElem?_append_right (by rw [o.vals_length]; omega), o.vals_length, show (j + 1) * 6 + i - 6 = j * 6 + i from by omega, ih j i (by simpa using hj) hi]
      rfl
theorem rangeAt_append {w : World} {b o : Nat} {x y : List Value} : w.rangeAt b o (x ++ y) ↔ w.rangeAt b o x ∧ w.rangeAt b (o + x.length) y := by
  constructor
  · intro h
    refine ⟨fun j v hv => h j v ?_, fun j v hv => ?_⟩
    · have := (List.getElem?_eq_some_iff.1 hv).1
      rw [List.getElem?_append_left this]
      exact hv
    · rw [Nat.add_assoc]
      refine h (x.length + j) v ?_
      rw [List.getElem?_append_right (by omega)]
      simpa using hv
  · rintro ⟨h1, h2⟩ j v hv
    rcases Nat.lt_or_ge j x.length with hj | hj
    · rw [List.getElem?_append_left hj] at hv
      exact h1 j v hv
    · rw [List.getElem?_append_right hj] at hv
      have := h2 _ v hv
      rwa [show o + x.length + (j - x.length) = o + j from by omega] at this
/-- Pieces that lie one behind the other, each by itself. -/
theorem range_pv {w : World} {b o : Nat} {l : List Pc} : w.rangeAt b o (pv l) ↔ ∀ j, j < l.length → w.rangeAt b (o + j * 6) (l.getD j zP).vals := by
  constructor
  · intro h j hj i v hv
    have hi : i < 6 := (List.getElem?_eq_some_iff.1 hv).1
    rw [Nat.add_assoc]
    refine h _ _ ?_
    rw [pv_at l j i hj hi]
    exact hv
  · intro h j v hv
    have hj := (List.getElem?_eq_some_iff.1 hv).1
    rw [pv_length] at hj
    have e := pv_at l (j / 6) (j % 6) (by omega) (by omega)
    rw [show j / 6 * 6 + j % 6 = j from by omega, hv] at e
    have := h (j / 6) (by omega) (j % 6) v e.symm
    rwa [show o + j / 6 * 6 + j % 6 = o + j from by omega] at this

/-- The slice '.slice A n c' holds the pieces l in w. -/
def PS (w : World) (A : Option Addr) (n c : Nat) (l : List Pc) : Prop :=
  l.length = n ∧ n ≤ c ∧ c ≤ maxLen ∧ (∀ p ∈ l, PG w p) ∧ (0 < n → ∃ b o, A = some ⟨b, o, none⟩ ∧ w.rangeAt b o (pv l))
section
variable {w w' : World} {A : Option Addr} {n c : Nat} {l : List Pc}
theorem PS.len (h : PS w A n c l) : l.length = n := h.1
theorem PS.cap (h : PS w A n c l) : n ≤ c := h.2.1
theorem PS.max (h : PS w A n c l) : c ≤ 9223372036854775807 := by have := h.2.2.1; unfold maxLen at this; omega
theorem getD_memP {l : List Pc} {j : Nat} (hj : j < l.length) : l.getD j zP ∈ l := by
  rw [List.getD_eq_getElem?_getD, List.getElem?_eq_getElem hj]
  exact List.getElem_mem _
theorem PS.ok (h : PS w A n c l) {j : Nat} (hj : j < n) : PG w (l.getD j zP) := h.2.2.2.1 _ (getD_memP (by rw [h.len]; exact hj))
theorem PS.at_ (h : PS w A n c l) {j : Nat} (hj : j < n) : ∃ b o, A = some ⟨b, o, none⟩ ∧ w.rangeAt b (o + j * 6) (l.getD j zP).vals := by
  obtain ⟨b, o, e, hc⟩ := h.2.2.2.2 (by omega)
  exact ⟨b, o, e, range_pv.1 hc j (by rw [h.len]; exact hj)⟩
theorem PS.below (h : PS w A n c l) (hb : Below w.heap.size w w') : PS w' A n c l :=
  ⟨h.1, h.2.1, h.2.2.1, fun p hp => (h.2.2.2.1 p hp).below hb, fun hn => by
    obtain ⟨b, o, e, hc⟩ := h.2.2.2.2 hn
    exact ⟨b, o, e, range_below hc hb⟩⟩
theorem PS.nil_ (w : World) : PS w none 0 0 [] := ⟨rfl, Nat.le_refl _, Nat.zero_le _, by simp, fun h => absurd h (by omega)⟩
end

theorem frozen_of {w : World} {g : Nat} {cs : Array Value} {t : TypeId} (h : w.heap[g]? = some (.cells cs t (0, 0))) (j : Nat) : w.frozen? ⟨g, j, none⟩ = false := by simp [World.frozen?, h]
theorem there_of {w : World} {g : Nat} {cs : Array Value} {t : TypeId} (h : w.heap[g]? = some (.cells cs t (0, 0))) {o n : Nat} (hn : o + n ≤ cs.size) : w.there g o n := fun j hj => by
  refine ⟨?_, by simp [World.frozen?, h]⟩
  rw [cell_of_row w g (o + j) cs t (0, 0) h]
  simp [show o + j < cs.size from by omega]
theorem heap_setCells {g : Nat} {t : TypeId} {fr : Nat × Nat} : ∀ (vs : List Value) (o : Nat) (w : World) (cs : Array Value), w.heap[g]? = some (.cells cs t fr) → ∃ cs', (w.setCells g o vs).heap[g]? = some (.cells cs' t fr) ∧ cs'.size = cs.size
  | [], _, _, cs, h => ⟨cs, h, rfl⟩
  | v :: r, o, w, cs, h => by
    have h1 : (w.setCell ⟨g, o, none⟩ v).heap[g]? = some (.cells (cs.setIfInBounds o v) t fr) := by simp [World.setCell, Array.getElem?_modify, h]
    obtain ⟨cs', h2, h3⟩ := heap_setCells r (o + 1) _ _ h1
    exact ⟨cs', h2, by rw [h3]; simp⟩
/-- A row that begins at its block's beginning, by its cells. -/
theorem own_of_range {w : World} {base g n cap size : Nat} {e : TypeId} {cs : Array Value} {xs : List Value} (hg : w.heap[g]? = some (.cells cs e (0, 0))) (hb : base ≤ g) (hn : n ≤ cap) (hm : cap ≤ maxLen) (hs : cs.size = cap * size) (hl : xs.length = n * size) (hr : w.rangeAt g 0 xs) :
    w.ownsRow base e size (.slice (some ⟨g, 0, none⟩) n cap) n xs := by
  refine ⟨hl, .inr ⟨g, cap, cs, rfl, hb, hg, hn, hm, hs, ?_⟩⟩
  have hle : n * size ≤ cs.size := by rw [hs]; exact Nat.mul_le_mul_right _ hn
  apply List.ext_getElem?
  intro j
  rcases Nat.lt_or_ge j (n * size) with hj | hj
  · have h1 := hr j _ (List.getElem?_eq_getElem (show j < xs.length by omega))
    rw [Nat.zero_add, cell_of_row w g j cs e (0, 0) hg] at h1
    rw [List.getElem?_take, if_pos hj, List.getElem?_eq_getElem (show j < xs.length by omega), ← h1]
    simp
  · rw [List.getElem?_eq_none (show (List.take (n * size) cs.toList).length ≤ j by rw [List.length_take]; omega), List.getElem?_eq_none (show xs.length ≤ j by omega)]

/-- A row of the call's own, or of a struct's own: wherever it begins in its block. -/
def Row (w : World) (base : Nat) (v : Value) (l : List Pc) : Prop :=
  (v = .slice none 0 0 ∧ l = []) ∨ ∃ g o c cs, v = .slice (some ⟨g, o, none⟩) l.length c ∧ base ≤ g ∧ w.heap[g]? = some (.cells cs 52 (0, 0)) ∧ l.length ≤ c ∧ c ≤ 9223372036854775807 ∧ o + c * 6 ≤ cs.size ∧ w.rangeAt g o (pv l)
section
variable {w w' : World} {base : Nat} {v : Value} {l : List Pc}
theorem Row.in_ (h : Row w base v l) {g : Nat} (hg : v.ownBlock = some g) : base ≤ g ∧ g < w.heap.size := by
  rcases h with ⟨rfl, _⟩ | ⟨g', o, c, cs, rfl, hb, hh, _⟩
  · cases hg
  · injection hg with hg
    subst hg
    exact ⟨hb, (Array.getElem?_eq_some_iff.1 hh).1⟩
theorem Row.obj (h : Row w base v l) {g : Nat} (hg : v.ownBlock = some g) : ∃ cs, w.heap[g]? = some (.cells cs 52 (0, 0)) := by
  rcases h with ⟨rfl, _⟩ | ⟨g', o, c, cs, rfl, hb, hh, _⟩
  · cases hg
  · injection hg with hg
    subst hg
    exact ⟨cs, hh⟩
theorem Row.ch (h : Row w base v l) {m : Nat → Prop} (c : Ch w w' m) (hm : ∀ g, v.ownBlock = some g → ¬ m g) : Row w' base v l := by
  rcases h with hn | ⟨g, o, k, cs, rfl, hb, hh, h1, h2, h3, h4⟩
  · exact .inl hn
  · exact .inr ⟨g, o, k, cs, rfl, hb, (c.block g (Array.getElem?_eq_some_iff.1 hh).1 (hm g rfl)).trans hh, h1, h2, h3, rangeAt_ch c h4 (hm g rfl)⟩
theorem Row.below (h : Row w base v l) (b : Below w.heap.size w w') : Row w' base v l := h.ch (Ch.of_below (fun _ => False) b) fun _ _ e => e
theorem Row.mono {base' : Nat} (h : Row w base v l) (hb : base' ≤ base) : Row w base' v l := by
  rcases h with hn | ⟨g, o, c, cs, hv, hg, rest⟩
  · exact .inl hn
  · exact .inr ⟨g, o, c, cs, hv, Nat.le_trans hb hg, rest⟩
theorem Row.slice (h : Row w base v l) : ∃ A c, v = .slice A l.length c ∧ l.length ≤ c ∧ c ≤ 9223372036854775807 := by
  rcases h with ⟨rfl, rfl⟩ | ⟨g, o, c, cs, rfl, _, _, h1, h2, _⟩
  · exact ⟨none, 0, rfl, Nat.le_refl _, by omega⟩
  · exact ⟨_, c, rfl, h1, h2⟩
theorem Row.ps {A : Option Addr} {n c : Nat} (h : Row w base (.slice A n c) l) (hg : ∀ p ∈ l, PG w p) : PS w A n c l := by
  rcases h with ⟨e, rfl⟩ | ⟨g, o, k, cs, e, _, _, h1, h2, _, h4⟩
  · injection e with e1 e2 e3
    subst e1 e2 e3
    exact PS.nil_ w
  · injection e with e1 e2 e3
    subst e1 e2 e3
    exact ⟨rfl, h1, by unfold maxLen; omega, hg, fun _ => ⟨g, o, rfl, h4⟩⟩
theorem Row.of_own {n : Nat} (h : w.ownsRow base 52 6 v n (pv l)) : Row w base v l ∧ l.length = n := by
  have hl : l.length = n := by have h1 := h.1; rw [pv_length] at h1; omega
  rcases h.2 with ⟨rfl, rfl⟩ | ⟨g, cap, cur, rfl, hb, hg, hnc, hm, hs, ht⟩
  · exact ⟨.inl ⟨rfl, List.eq_nil_of_length_eq_zero hl⟩, hl⟩
  · refine ⟨.inr ⟨g, 0, cap, cur, by rw [hl], hb, hg, by omega, by unfold maxLen at hm; omega, by omega, fun j u hu => ?_⟩, hl⟩
    have hj := (List.getElem?_eq_some_iff.1 hu).1
    rw [Nat.zero_add, World.ownsRow.cellAt h j (by rw [← h.1]; exact hj)]
    exact hu
end
end Go.Proofs.Ytnpkmkjenlhkiaa
