/- A wheel's memory: nests of sixteen lists each, whose rows hold timers; labels that say which block is what; what a step may change. No condition. -/
import Derived.Test.YtkmhgcdjmfafhaaChecked
import Derived.Below
import Derived.Maps.AppendAt
import Derived.Maps.OwnSet
import Derived.Deep.OwnRows
import Derived.WalkKit
import Derived.IntWalk
import Derived.Deep.QuietTactic
import Derived.BigQuiet
import Derived.Deep.RegionHeld3
import Derived.Lib.Hide
import Derived.Lib.MinMax
import Derived.WalkLawsBesides
import Derived.OpenShut
import Derived.WalkSpells
namespace Go.Proofs.Ytkmhgcdjmfafhaa
set_option linter.unusedVariables false
set_option linter.unusedSimpArgs false
open Go.RowKit

def ptr (b : Nat) : Value := .pointer (some ⟨b, 0, none⟩)
def num (n : Int) : Value := .int .i64 n
theorem ptr_one (l : List Nat) : ∀ u ∈ l.map ptr, u.oneCell' = true := by
  intro u hu
  obtain ⟨x, _, rfl⟩ := List.mem_map.1 hu
  rfl

/-- How many ticks wide a list of ring r is. -/
def wide (r : Nat) : Nat := if r = 0 then 1 else if r = 1 then 16 else 256

/-- f, but x at r and i. -/
def up2 {α : Type} (f : Nat → Nat → α) (r i : Nat) (x : α) : Nat → Nat → α := fun r' i' => if r' = r ∧ i' = i then x else f r' i'
theorem up2_same {α : Type} (f : Nat → Nat → α) (r i : Nat) (x : α) : up2 f r i x r i = x := by simp [up2]
theorem up2_other {α : Type} (f : Nat → Nat → α) {r i r' i' : Nat} (x : α) (h : ¬(r' = r ∧ i' = i)) : up2 f r i x r' i' = f r' i' := by simp [up2, h]

/-- Between w and w' nothing has turned but blocks of which that is told. -/
structure Ch (w w' : World) (may : Nat → Prop) : Prop where
  os : w'.os = w.os
  tape : w'.tape = w.tape
  output : w'.output = w.output
  size : w.heap.size ≤ w'.heap.size
  block : ∀ k, k < w.heap.size → ¬ may k → w'.heap[k]? = w.heap[k]?

theorem Ch.refl (w : World) (may : Nat → Prop) : Ch w w may := ⟨rfl, rfl, rfl, Nat.le_refl _, fun _ _ _ => rfl⟩
theorem Ch.trans {a b c : World} {m m' m'' : Nat → Prop} (h : Ch a b m) (k : Ch b c m') (hm : ∀ x, x < a.heap.size → m x → m'' x) (hm' : ∀ x, x < a.heap.size → m' x → m'' x) : Ch a c m'' :=
  ⟨k.os.trans h.os, k.tape.trans h.tape, k.output.trans h.output, Nat.le_trans h.size k.size, fun x hx hn =>
    (k.block x (Nat.lt_of_lt_of_le hx h.size) (fun hc => hn (hm' x hx hc))).trans (h.block x hx (fun hc => hn (hm x hx hc)))⟩
theorem Ch.mono {a b : World} {m m' : Nat → Prop} (h : Ch a b m) (hm : ∀ x, x < a.heap.size → m x → m' x) : Ch a b m' := ⟨h.os, h.tape, h.output, h.size, fun x hx hn => h.block x hx (fun hc => hn (hm x hx hc))⟩
theorem Ch.then_ {a b c : World} {m : Nat → Prop} (h : Ch a b m) (k : Ch b c m) : Ch a c m := h.trans k (fun _ _ x => x) (fun _ _ x => x)
theorem Ch.drew {a b : World} {m : Nat → Prop} (h : Ch a b m) : Ch a b.drew m := ⟨h.os, h.tape, h.output, h.size, h.block⟩
theorem Ch.drewN {a b : World} {m : Nat → Prop} (h : Ch a b m) (n : Nat) : Ch a (b.drewN n) m := ⟨h.os, h.tape, h.output, h.size, h.block⟩
theorem Ch.alloc {a b : World} {m : Nat → Prop} (h : Ch a b m) (o : Obj) : Ch a (b.alloc o) m :=
  h.then_ ⟨rfl, rfl, rfl, by simp, fun k hk _ => Below.heap_alloc b o k hk⟩
theorem Ch.setCell {a b : World} {m : Nat → Prop} (h : Ch a b m) {p : Addr} (hp : p.block < a.heap.size → m p.block) (u : Value) : Ch a (b.setCell p u) m :=
  ⟨h.os, h.tape, h.output, by simpa [World.setCell] using h.size, fun k hk hn => by
    rw [Below.heap_setCell b p u k (fun e => hn (by rw [e]; exact hp (by rw [← e]; exact hk)))]
    exact h.block k hk hn⟩
theorem Ch.grown {a b c : World} {m : Nat → Prop} {row : Option Nat} (h : Ch a b m) (hg : b.grownBy c row) (hr : ∀ k, row = some k → k < a.heap.size → m k) : Ch a c m :=
  h.trans (m' := fun k => row = some k) ⟨hg.os, hg.tape, hg.output, hg.size, fun k hk hn => hg.block k hk (fun e => hn e.symm)⟩ (fun _ _ x => x) (fun x hx e => hr x e hx)
theorem Ch.turned {a b c : World} {m : Nat → Prop} {mb : Nat} (h : Ch a b m) (hg : b.mapTurned c mb) (hm : mb < a.heap.size → m mb) : Ch a c m :=
  h.grown hg.grown fun k e hk => by injection e with e; subst e; exact hm hk
theorem Ch.below {a b : World} {m : Nat → Prop} (h : Ch a b m) (hm : ∀ x, x < a.heap.size → ¬ m x) : Below a.heap.size a b :=
  ⟨h.os, h.tape, h.output, h.size, fun k hk => h.block k hk (hm k hk)⟩
theorem Ch.of_below {a b : World} (m : Nat → Prop) (h : Below a.heap.size a b) : Ch a b m := ⟨h.os, h.tape, h.output, h.size, fun k hk _ => h.block k hk⟩
theorem Ch.cell {a b : World} {m : Nat → Prop} (h : Ch a b m) {p : Addr} {v : Value} (hc : a.cell? p = some v) (hn : ¬ m p.block) : b.cell? p = some v :=
  (World.cell?_of_block (h.block p.block (World.block_lt_of_cell? a p hc) hn)).trans hc

/-- Block b is a timer, at place q of its list. -/
def TimAt (w : World) (hd : Nat → Int) (tk : Nat → Nat) (b q : Nat) : Prop := w.heap[b]? = some (.cells #[num (hd b), num (tk b), num q] 66 (0, 0))
def Tim (w : World) (hd : Nat → Int) (tk : Nat → Nat) (b : Nat) : Prop := ∃ q, TimAt w hd tk b q

section
variable {w w' : World} {hd : Nat → Int} {tk : Nat → Nat} {b q : Nat}
theorem TimAt.lt (h : TimAt w hd tk b q) : b < w.heap.size := (Array.getElem?_eq_some_iff.1 h).1
theorem TimAt.c0 (h : TimAt w hd tk b q) : w.cell? ⟨b, 0, none⟩ = some (.int .i64 (hd b)) := by rw [cell_of_row w b 0 _ _ (0, 0) h]; rfl
theorem TimAt.c1 (h : TimAt w hd tk b q) : w.cell? ⟨b, 1, none⟩ = some (.int .i64 (tk b : Int)) := by rw [cell_of_row w b 1 _ _ (0, 0) h]; rfl
theorem TimAt.c2 (h : TimAt w hd tk b q) : w.cell? ⟨b, 2, none⟩ = some (.int .i64 (q : Int)) := by rw [cell_of_row w b 2 _ _ (0, 0) h]; rfl
theorem TimAt.fz (h : TimAt w hd tk b q) (j : Nat) : w.frozen? ⟨b, j, none⟩ = false := by simp [World.frozen?, show w.heap[b]? = _ from h]
theorem TimAt.keep (h : TimAt w hd tk b q) (e : w'.heap[b]? = w.heap[b]?) : TimAt w' hd tk b q := e.trans h
theorem TimAt.put (h : TimAt w hd tk b q) (p : Nat) : TimAt (w.setCell ⟨b, 2, none⟩ (.int .i64 (p : Int))) hd tk b p := by
  unfold TimAt at h ⊢
  simp [World.setCell, Array.getElem?_modify, h]
  rfl
theorem Tim.lt (h : Tim w hd tk b) : b < w.heap.size := h.elim fun _ h => TimAt.lt h
theorem Tim.keep (h : Tim w hd tk b) (e : w'.heap[b]? = w.heap[b]?) : Tim w' hd tk b := h.elim fun q h => ⟨q, h.keep e⟩
theorem Tim.put (h : Tim w hd tk b) (p : Nat) : TimAt (w.setCell ⟨b, 2, none⟩ (.int .i64 (p : Int))) hd tk b p := h.elim fun _ h => h.put p
end

/-- The cells of the nest of ring r. -/
def nestF (nb : Nat → Nat) (V : Nat → Nat → Value) (r j : Nat) : Value :=
  if j = 0 then .int .i64 (wide r : Nat) else if j = 17 then (if r = 0 then .pointer none else ptr (nb (r - 1))) else V r (j - 1)

/-- Three nests stand in w, with their lists: labels tell which block is what (10: a nest; 100: a list's row; 3: a timer; 0: none of these). -/
structure Rings (w : World) (lab : Nat → Nat) (nb : Nat → Nat) (V : Nat → Nat → Value) (L : Nat → Nat → List Nat) (hd : Nat → Int) (tk : Nat → Nat) : Prop where
  nest : ∀ r, r < 3 → lab (nb r) = 10 + r ∧ w.rowIs (nb r) 79 18 (nestF nb V r)
  row : ∀ r i, r < 3 → i < 16 → w.ownsRow 0 64 1 (V r i) (L r i).length ((L r i).map ptr) ∧ ∀ g, (V r i).ownBlock = some g → lab g = 100 + 16 * r + i
  tim : ∀ r i, r < 3 → i < 16 → ∀ j b, (L r i)[j]? = some b → lab b = 3 ∧ TimAt w hd tk b j
  lt : ∀ b, lab b ≠ 0 → b < w.heap.size

section
variable {w w' : World} {lab : Nat → Nat} {nb : Nat → Nat} {V : Nat → Nat → Value} {L : Nat → Nat → List Nat} {hd : Nat → Int} {tk : Nat → Nat}

theorem slice_of_own {w : World} {e : TypeId} {v : Value} {n : Nat} {xs : List Value} (h : w.ownsRow 0 e 1 v n xs) : ∃ A c, v = .slice A n c ∧ n ≤ c ∧ c ≤ 9223372036854775807 ∧ (A = none ∧ n = 0 ∧ c = 0 ∨ ∃ g, A = some ⟨g, 0, none⟩ ∧ v.ownBlock = some g) := by
  rcases h.2 with ⟨rfl, rfl⟩ | ⟨g, cap, cur, rfl, _, hg, h1, h2, _⟩
  · exact ⟨none, 0, rfl, Nat.le_refl _, by omega, .inl ⟨rfl, rfl, rfl⟩⟩
  · exact ⟨_, cap, rfl, h1, by unfold maxLen at h2; omega, .inr ⟨g, rfl, rfl⟩⟩

/-- A list's block and the blocks of other things are not the same. -/
theorem Rings.list_cell (R : Rings w lab nb V L hd tk) {r i : Nat} (hr : r < 3) (hi : i < 16) : w.cell? ⟨nb r, 1 + i, none⟩ = some (V r i) ∧ w.frozen? ⟨nb r, 1 + i, none⟩ = false := by
  have h := (R.nest r hr).2
  refine ⟨?_, h.frozen _⟩
  rw [h.cell (by omega)]
  unfold nestF
  rw [if_neg (by omega), if_neg (by omega), Nat.add_sub_cancel_left]
theorem Rings.wide_cell (R : Rings w lab nb V L hd tk) {r : Nat} (hr : r < 3) : w.cell? ⟨nb r, 0, none⟩ = some (.int .i64 (wide r : Nat)) := by
  rw [(R.nest r hr).2.cell (by omega)]
  simp [nestF]
theorem Rings.in_cell (R : Rings w lab nb V L hd tk) {r : Nat} (hr : r < 3) : w.cell? ⟨nb r, 17, none⟩ = some (if r = 0 then .pointer none else ptr (nb (r - 1))) := by
  rw [(R.nest r hr).2.cell (by omega)]
  simp [nestF]

/-- A timer stands in one place alone of its list. -/
theorem Rings.nodup (R : Rings w lab nb V L hd tk) {r i : Nat} (hr : r < 3) (hi : i < 16) : (L r i).Nodup := by
  rw [List.Nodup, List.pairwise_iff_getElem]
  intro a b ha hb hab e
  have h1 := (R.tim r i hr hi a _ (List.getElem?_eq_getElem ha)).2
  have h2 := (R.tim r i hr hi b _ (List.getElem?_eq_getElem hb)).2
  rw [← e] at h2
  have h3 := h1.c2.symm.trans h2.c2
  injection h3 with h3
  injection h3 with _ h3
  omega

/-- What is kept, as long as none of its blocks turn. -/
theorem Rings.keep (R : Rings w lab nb V L hd tk) (hs : w.heap.size ≤ w'.heap.size) (h : ∀ k, (lab k = 3 ∨ 10 ≤ lab k) → w'.heap[k]? = w.heap[k]?) : Rings w' lab nb V L hd tk where
  nest r hr := ⟨(R.nest r hr).1, (R.nest r hr).2.of_block (h _ (.inr (by have := (R.nest r hr).1; omega)))⟩
  row r i hr hi := by
    obtain ⟨h1, h2⟩ := R.row r i hr hi
    refine ⟨⟨h1.1, ?_⟩, h2⟩
    rcases h1.2 with hn | ⟨g, cap, cur, hv, hb, hg, rest⟩
    · exact .inl hn
    · exact .inr ⟨g, cap, cur, hv, hb, (h g (.inr (by have := h2 g (by rw [hv]; rfl); omega))).trans hg, rest⟩
  tim r i hr hi j b hj := ⟨(R.tim r i hr hi j b hj).1, (R.tim r i hr hi j b hj).2.keep (h b (.inl (R.tim r i hr hi j b hj).1))⟩
  lt b hb := Nat.lt_of_lt_of_le (R.lt b hb) hs
theorem Rings.drew (R : Rings w lab nb V L hd tk) : Rings w.drew lab nb V L hd tk := R.keep (Nat.le_refl _) fun _ _ => rfl
theorem Rings.drewN (R : Rings w lab nb V L hd tk) (n : Nat) : Rings (w.drewN n) lab nb V L hd tk := R.keep (Nat.le_refl _) fun _ _ => rfl
theorem Rings.alloc (R : Rings w lab nb V L hd tk) (o : Obj) : Rings (w.alloc o) lab nb V L hd tk :=
  R.keep (by simp) fun k hk => Below.heap_alloc w o k (R.lt k (by omega))
theorem Rings.ch (R : Rings w lab nb V L hd tk) {m : Nat → Prop} (h : Ch w w' m) (hm : ∀ k, m k → lab k ≠ 3 ∧ lab k < 10) : Rings w' lab nb V L hd tk :=
  R.keep h.size fun k hk => h.block k (R.lt k (by omega)) fun hc => by have := hm k hc; omega

/-- The labels with one more row. -/
def labR (lab : Nat → Nat) (v : Value) (r i : Nat) : Nat → Nat := fun k => if v.ownBlock = some k then 100 + 16 * r + i else lab k

/-- A list of the rings with another content: what was written lies in its nest, its own row, and one timer's place. -/
theorem Rings.turn (R : Rings w lab nb V L hd tk) {r i : Nat} (hr : r < 3) (hi : i < 16) {v : Value} {l : List Nat} {m : Nat → Prop} (hc : Ch w w' m)
    (hm : ∀ k, m k → lab k = 10 + r ∨ lab k = 100 + 16 * r + i ∨ lab k = 3 ∧ ∀ r' i', r' < 3 → i' < 16 → ¬(r' = r ∧ i' = i) → k ∉ L r' i')
    (hn : w'.rowIs (nb r) 79 18 (fun j => if j = 1 + i then v else nestF nb V r j))
    (hv : w'.ownsRow 0 64 1 v l.length (l.map ptr)) (hb : ∀ g, v.ownBlock = some g → (lab g = 100 + 16 * r + i ∨ w.heap.size ≤ g))
    (ht : ∀ j b, l[j]? = some b → lab b = 3 ∧ TimAt w' hd tk b j) : Rings w' (labR lab v r i) nb (up2 V r i v) (up2 L r i l) hd tk := by
  have hl : ∀ k, lab k ≠ 0 → lab k ≠ 100 + 16 * r + i → labR lab v r i k = lab k := by
    intro k h0 h1
    unfold labR
    split
    · rename_i e
      rcases hb k e with h | h
      · exact absurd h h1
      · have := R.lt k h0
        omega
    · rfl
  have same : ∀ k, lab k ≠ 0 → lab k ≠ 10 + r → lab k ≠ 100 + 16 * r + i → lab k ≠ 3 → w'.heap[k]? = w.heap[k]? := by
    intro k h0 h1 h2 h3
    refine hc.block k (R.lt k h0) fun hx => ?_
    rcases hm k hx with h | h | h
    · exact h1 h
    · exact h2 h
    · exact h3 h.1
  refine ⟨fun r' hr' => ?_, fun r' i' hr' hi' => ?_, fun r' i' hr' hi' j b hj => ?_, fun b hb' => ?_⟩
  · obtain ⟨h1, h2⟩ := R.nest r' hr'
    refine ⟨by rw [hl _ (by omega) (by omega)]; exact h1, ?_⟩
    by_cases e : r' = r
    · subst e
      refine hn.congr fun j hj => ?_
      unfold nestF up2
      by_cases e : j = 1 + i
      · subst e
        rw [if_pos rfl, if_neg (by omega), if_neg (by omega), Nat.add_sub_cancel_left, if_pos ⟨rfl, rfl⟩]
      · rw [if_neg e]
        by_cases h0 : j = 0
        · simp [h0]
        · by_cases h7 : j = 17
          · simp [h7]
          · rw [if_neg h0, if_neg h7, if_neg h0, if_neg h7, if_neg (by omega)]
    · refine (h2.of_block (same _ (by omega) (by omega) (by omega) (by omega))).congr fun j hj => ?_
      unfold nestF up2
      simp [e]
  · by_cases e : r' = r ∧ i' = i
    · obtain ⟨rfl, rfl⟩ := e
      rw [up2_same, up2_same]
      refine ⟨hv, fun g hg => ?_⟩
      unfold labR
      rw [if_pos hg]
    · rw [up2_other _ _ e, up2_other _ _ e]
      obtain ⟨h1, h2⟩ := R.row r' i' hr' hi'
      refine ⟨⟨h1.1, ?_⟩, fun g hg => by rw [hl g (by rw [h2 g hg]; omega) (by rw [h2 g hg]; omega)]; exact h2 g hg⟩
      rcases h1.2 with hn | ⟨g, cap, cur, hv', hb', hg, rest⟩
      · exact .inl hn
      · have h3 := h2 g (by rw [hv']; rfl)
        exact .inr ⟨g, cap, cur, hv', hb', (same g (by omega) (by omega) (by omega) (by omega)).trans hg, rest⟩
  · by_cases e : r' = r ∧ i' = i
    · obtain ⟨rfl, rfl⟩ := e
      rw [up2_same] at hj
      obtain ⟨h1, h2⟩ := ht j b hj
      exact ⟨by rw [hl b (by omega) (by omega)]; exact h1, h2⟩
    · rw [up2_other _ _ e] at hj
      obtain ⟨h1, h2⟩ := R.tim r' i' hr' hi' j b hj
      refine ⟨by rw [hl b (by omega) (by omega)]; exact h1, h2.keep (hc.block b h2.lt fun hx => ?_)⟩
      rcases hm b hx with h | h | h
      · omega
      · omega
      · exact h.2 r' i' hr' hi' e (List.mem_of_getElem? hj)
  · unfold labR at hb'
    split at hb'
    · rename_i e
      exact (hv.lt b e).2
    · exact Nat.lt_of_lt_of_le (R.lt b hb') hc.size
end

theorem infoTim : (Try.prog.info? 64).map (fun i => (i.zero, i.size, i.bytes)) = some (some (.pointer none), 1, 8) := by kernel_rfl
theorem cell_new (w : World) (v : Value) (t : TypeId) : (w.alloc (.cells #[v] t)).cell? ⟨w.heap.size, 0, none⟩ = some v := by
  rw [cell_of_row (w.alloc (.cells #[v] t)) w.heap.size 0 #[v] t (0, 0) (heap_alloc_new w _)]
  rfl

/-- append of one value, onto a row that is known. -/
theorem wpList_app1 {P : Program} {w : World} {ops : Array Oper} {rest : List Oper} {o : Oper} {a : Act} {Q : Exit → Act → World → Prop} (hgd : o.guard = none) (s x : Operand) (t e : TypeId)
    (ho : o.op = .call { callee := .builtin .append, args := #[s, x], argTypes := #[t, t] })
    (z : Value) (bytes : Nat) (ht : P.underlying t = some (.slice e)) (hi : (P.info? e).map (fun i => (i.zero, i.size, i.bytes)) = some (some z, 1, bytes)) (hzs : z.cells.size = 1) (h8 : bytes ≤ 64)
    (v : Value) (n : Nat) (xs : List Value) (hs : a.eval s = v) (hown : w.ownsRow 0 e 1 v n xs)
    (g : Nat) (u : Value) (hx : a.eval x = .slice (some ⟨g, 0, none⟩) 1 1) (hc : w.cell? ⟨g, 0, none⟩ = some u) (h1 : u.oneCell' = true) (h40 : n ≤ 1099511627776)
    (h : ∀ v' w', w'.ownsRow 0 e 1 v' (n + 1) (xs ++ [u]) → w.grownBy w' v.ownBlock → (v'.ownBlock = v.ownBlock ∨ v'.ownBlock = some w.heap.size) → wpList P ops Q rest (a.put o.dst v') w') :
    wpList P ops Q (o :: rest) a w := by
  obtain ⟨i, hi, hzz⟩ := Option.map_eq_some_iff.1 hi
  simp only [Prod.mk.injEq] at hzz
  obtain ⟨hz, h2, h3⟩ := hzz
  refine wpList_append_own_at (P := P) w hgd s x t ho 0 e i z 1 bytes ht hi hz h2 h3 hzs (by decide) v n xs hs hown ⟨g, 0, none⟩ 1 1 [u] hx rfl ?_ (by simpa using h1) (by unfold maxLen; omega) ?_ (Nat.zero_le _) fun v' w' a1 a2 _ a4 => h v' w' a1 a2 a4
  · intro j u' hj
    match j, hj with
    | 0, hj =>
      simp at hj
      subst hj
      simpa [Addr.add] using hc
  · have : (n + 1) * bytes ≤ (n + 1) * 64 := Nat.mul_le_mul_left _ h8
    omega

end Go.Proofs.Ytkmhgcdjmfafhaa
