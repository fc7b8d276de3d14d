/- A wheel's memory: nests of sixteen lists each, whose rows hold timers; labels that say which block is what; what a step may change. No condition.
Where a tick's timers stand: the contracts of stretch, of and home. Condition: the rings stand, the ticks are at least 0.
A timer is put to a list: the contract of add. Condition: the rings stand, the timer is in no list, the list isn't too long.
A timer is taken out of its list: the contract of drop. Condition: the rings stand, the timer is at its place of the list.
A list is emptied: the contract of empty. Condition: the rings stand.
Which lists hold which timers while time goes on by one tick: mathematics without memory. No condition. -/
import Derived.Test.YtlcegchdkigibaaGreatDoorChecked
import Derived.Below
import Derived.Maps.AppendAt
import Derived.Maps.OwnSet
import Derived.Deep.OwnRows
import Derived.WalkKit
import Derived.IntWalk
import Derived.Deep.QuietTactic
import Derived.BigQuiet
import Derived.Deep.RegionHeld3
import Derived.Lib.Hide
import Derived.Lib.MinMax
import Derived.WalkLawsBesides
import Derived.OpenShut
import Derived.WalkSpells
namespace Go.Proofs.YtlcegchdkigibaaGreatDoor.LW
set_option linter.unusedVariables false
set_option linter.unusedSimpArgs false
open Go.RowKit

def ptr (b : Nat) : Value := .pointer (some ⟨b, 0, none⟩)
def num (n : Int) : Value := .int .i64 n
theorem ptr_one (l : List Nat) : ∀ u ∈ l.map ptr, u.oneCell' = true := by
  intro u hu
  obtain ⟨x, _, rfl⟩ := List.mem_map.1 hu
  rfl

/-- How many ticks wide a list of ring r is. -/
def wide (r : Nat) : Nat := if r = 0 then 1 else if r = 1 then 16 else 256

/-- f, but x at r and i. -/
def up2 {α : Type} (f : Nat → Nat → α) (r i : Nat) (x : α) : Nat → Nat → α := fun r' i' => if r' = r ∧ i' = i then x else f r' i'
theorem up2_same {α : Type} (f : Nat → Nat → α) (r i : Nat) (x : α) : up2 f r i x r i = x := by simp [up2]
theorem up2_other {α : Type} (f : Nat → Nat → α) {r i r' i' : Nat} (x : α) (h : ¬(r' = r ∧ i' = i)) : up2 f r i x r' i' = f r' i' := by simp [up2, h]

/-- Between w and w' nothing has turned but blocks of which that is told. -/
structure Ch (w w' : World) (may : Nat → Prop) : Prop where
  os : w'.os = w.os
  tape : w'.tape = w.tape
  output : w'.output = w.output
  size : w.heap.size ≤ w'.heap.size
  block : ∀ k, k < w.heap.size → ¬ may k → w'.heap[k]? = w.heap[k]?

theorem Ch.refl (w : World) (may : Nat → Prop) : Ch w w may := ⟨rfl, rfl, rfl, Nat.le_refl _, fun _ _ _ => rfl⟩
theorem Ch.trans {a b c : World} {m m' m'' : Nat → Prop} (h : Ch a b m) (k : Ch b c m') (hm : ∀ x, x < a.heap.size → m x → m'' x) (hm' : ∀ x, x < a.heap.size → m' x → m'' x) : Ch a c m'' :=
  ⟨k.os.trans h.os, k.tape.trans h.tape, k.output.trans h.output, Nat.le_trans h.size k.size, fun x hx hn =>
    (k.block x (Nat.lt_of_lt_of_le hx h.size) (fun hc => hn (hm' x hx hc))).trans (h.block x hx (fun hc => hn (hm x hx hc)))⟩
theorem Ch.mono {a b : World} {m m' : Nat → Prop} (h : Ch a b m) (hm : ∀ x, x < a.heap.size → m x → m' x) : Ch a b m' := ⟨h.os, h.tape, h.output, h.size, fun x hx hn => h.block x hx (fun hc => hn (hm x hx hc))⟩
theorem Ch.then_ {a b c : World} {m : Nat → Prop} (h : Ch a b m) (k : Ch b c m) : Ch a c m := h.trans k (fun _ _ x => x) (fun _ _ x => x)
theorem Ch.drew {a b : World} {m : Nat → Prop} (h : Ch a b m) : Ch a b.drew m := ⟨h.os, h.tape, h.output, h.size, h.block⟩
theorem Ch.drewN {a b : World} {m : Nat → Prop} (h : Ch a b m) (n : Nat) : Ch a (b.drewN n) m := ⟨h.os, h.tape, h.output, h.size, h.block⟩
theorem Ch.alloc {a b : World} {m : Nat → Prop} (h : Ch a b m) (o : Obj) : Ch a (b.alloc o) m :=
  h.then_ ⟨rfl, rfl, rfl, by simp, fun k hk _ => Below.heap_alloc b o k hk⟩
theorem Ch.setCell {a b : World} {m : Nat → Prop} (h : Ch a b m) {p : Addr} (hp : p.block < a.heap.size → m p.block) (u : Value) : Ch a (b.setCell p u) m :=
  ⟨h.os, h.tape, h.output, by simpa [World.setCell] using h.size, fun k hk hn => by
    rw [Below.heap_setCell b p u k (fun e => hn (by rw [e]; exact hp (by rw [← e]; exact hk)))]
    exact h.block k hk hn⟩
theorem Ch.grown {a b c : World} {m : Nat → Prop} {row : Option Nat} (h : Ch a b m) (hg : b.grownBy c row) (hr : ∀ k, row = some k → k < a.heap.size → m k) : Ch a c m :=
  h.trans (m' := fun k => row = some k) ⟨hg.os, hg.tape, hg.output, hg.size, fun k hk hn => hg.block k hk (fun e => hn e.symm)⟩ (fun _ _ x => x) (fun x hx e => hr x e hx)
theorem Ch.turned {a b c : World} {m : Nat → Prop} {mb : Nat} (h : Ch a b m) (hg : b.mapTurned c mb) (hm : mb < a.heap.size → m mb) : Ch a c m :=
  h.grown hg.grown fun k e hk => by injection e with e; subst e; exact hm hk
theorem Ch.below {a b : World} {m : Nat → Prop} (h : Ch a b m) (hm : ∀ x, x < a.heap.size → ¬ m x) : Below a.heap.size a b :=
  ⟨h.os, h.tape, h.output, h.size, fun k hk => h.block k hk (hm k hk)⟩
theorem Ch.of_below {a b : World} (m : Nat → Prop) (h : Below a.heap.size a b) : Ch a b m := ⟨h.os, h.tape, h.output, h.size, fun k hk _ => h.block k hk⟩
theorem Ch.cell {a b : World} {m : Nat → Prop} (h : Ch a b m) {p : Addr} {v : Value} (hc : a.cell? p = some v) (hn : ¬ m p.block) : b.cell? p = some v :=
  (World.cell?_of_block (h.block p.block (World.block_lt_of_cell? a p hc) hn)).trans hc

/-- Block b is a timer, at place q of its list. -/
def TimAt (w : World) (hd : Nat → Int) (tk : Nat → Nat) (b q : Nat) : Prop := w.heap[b]? = some (.cells #[num (hd b), num (tk b), num q] 242 (0, 0))
def Tim (w : World) (hd : Nat → Int) (tk : Nat → Nat) (b : Nat) : Prop := ∃ q, TimAt w hd tk b q

section
variable {w w' : World} {hd : Nat → Int} {tk : Nat → Nat} {b q : Nat}
theorem TimAt.lt (h : TimAt w hd tk b q) : b < w.heap.size := (Array.getElem?_eq_some_iff.1 h).1
theorem TimAt.c0 (h : TimAt w hd tk b q) : w.cell? ⟨b, 0, none⟩ = some (.int .i64 (hd b)) := by rw [cell_of_row w b 0 _ _ (0, 0) h]; rfl
theorem TimAt.c1 (h : TimAt w hd tk b q) : w.cell? ⟨b, 1, none⟩ = some (.int .i64 (tk b : Int)) := by rw [cell_of_row w b 1 _ _ (0, 0) h]; rfl
theorem TimAt.c2 (h : TimAt w hd tk b q) : w.cell? ⟨b, 2, none⟩ = some (.int .i64 (q : Int)) := by rw [cell_of_row w b 2 _ _ (0, 0) h]; rfl
theorem TimAt.fz (h : TimAt w hd tk b q) (j : Nat) : w.frozen? ⟨b, j, none⟩ = false := by simp [World.frozen?, show w.heap[b]? = _ from h]
theorem TimAt.keep (h : TimAt w hd tk b q) (e : w'.heap[b]? = w.heap[b]?) : TimAt w' hd tk b q := e.trans h
theorem TimAt.put (h : TimAt w hd tk b q) (p : Nat) : TimAt (w.setCell ⟨b, 2, none⟩ (.int .i64 (p : Int))) hd tk b p := by
  unfold TimAt at h ⊢
  simp [World.setCell, Array.getElem?_modify, h]
  rfl
theorem Tim.lt (h : Tim w hd tk b) : b < w.heap.size := h.elim fun _ h => TimAt.lt h
theorem Tim.keep (h : Tim w hd tk b) (e : w'.heap[b]? = w.heap[b]?) : Tim w' hd tk b := h.elim fun q h => ⟨q, h.keep e⟩
theorem Tim.put (h : Tim w hd tk b) (p : Nat) : TimAt (w.setCell ⟨b, 2, none⟩ (.int .i64 (p : Int))) hd tk b p := h.elim fun _ h => h.put p
end

/-- The cells of the nest of ring r. -/
def nestF (nb : Nat → Nat) (V : Nat → Nat → Value) (r j : Nat) : Value :=
  if j = 0 then .int .i64 (wide r : Nat) else if j = 17 then (if r = 0 then .pointer none else ptr (nb (r - 1))) else V r (j - 1)

/-- Three nests stand in w, with their lists: labels tell which block is what (10: a nest; 100: a list's row; 3: a timer; 0: none of these). -/
structure Rings (w : World) (lab : Nat → Nat) (nb : Nat → Nat) (V : Nat → Nat → Value) (L : Nat → Nat → List Nat) (hd : Nat → Int) (tk : Nat → Nat) : Prop where
  nest : ∀ r, r < 3 → lab (nb r) = 10 + r ∧ w.rowIs (nb r) 305 18 (nestF nb V r)
  row : ∀ r i, r < 3 → i < 16 → w.ownsRow 0 240 1 (V r i) (L r i).length ((L r i).map ptr) ∧ ∀ g, (V r i).ownBlock = some g → lab g = 100 + 16 * r + i
  tim : ∀ r i, r < 3 → i < 16 → ∀ j b, (L r i)[j]? = some b → lab b = 3 ∧ TimAt w hd tk b j
  lt : ∀ b, lab b ≠ 0 → b < w.heap.size

section
variable {w w' : World} {lab : Nat → Nat} {nb : Nat → Nat} {V : Nat → Nat → Value} {L : Nat → Nat → List Nat} {hd : Nat → Int} {tk : Nat → Nat}

theorem slice_of_own {w : World} {e : TypeId} {v : Value} {n : Nat} {xs : List Value} (h : w.ownsRow 0 e 1 v n xs) : ∃ A c, v = .slice A n c ∧ n ≤ c ∧ c ≤ 9223372036854775807 ∧ (A = none ∧ n = 0 ∧ c = 0 ∨ ∃ g, A = some ⟨g, 0, none⟩ ∧ v.ownBlock = some g) := by
  rcases h.2 with ⟨rfl, rfl⟩ | ⟨g, cap, cur, rfl, _, hg, h1, h2, _⟩
  · exact ⟨none, 0, rfl, Nat.le_refl _, by omega, .inl ⟨rfl, rfl, rfl⟩⟩
  · exact ⟨_, cap, rfl, h1, by unfold maxLen at h2; omega, .inr ⟨g, rfl, rfl⟩⟩

/-- A list's block and the blocks of other things are not the same. -/
theorem Rings.list_cell (R : Rings w lab nb V L hd tk) {r i : Nat} (hr : r < 3) (hi : i < 16) : w.cell? ⟨nb r, 1 + i, none⟩ = some (V r i) ∧ w.frozen? ⟨nb r, 1 + i, none⟩ = false := by
  have h := (R.nest r hr).2
  refine ⟨?_, h.frozen _⟩
  rw [h.cell (by omega)]
  unfold nestF
  rw [if_neg (by omega), if_neg (by omega), Nat.add_sub_cancel_left]
theorem Rings.wide_cell (R : Rings w lab nb V L hd tk) {r : Nat} (hr : r < 3) : w.cell? ⟨nb r, 0, none⟩ = some (.int .i64 (wide r : Nat)) := by
  rw [(R.nest r hr).2.cell (by omega)]
  simp [nestF]
theorem Rings.in_cell (R : Rings w lab nb V L hd tk) {r : Nat} (hr : r < 3) : w.cell? ⟨nb r, 17, none⟩ = some (if r = 0 then .pointer none else ptr (nb (r - 1))) := by
  rw [(R.nest r hr).2.cell (by omega)]
  simp [nestF]

/-- A timer stands in one place alone of its list. -/
theorem Rings.nodup (R : Rings w lab nb V L hd tk) {r i : Nat} (hr : r < 3) (hi : i < 16) : (L r i).Nodup := by
  rw [List.Nodup, List.pairwise_iff_getElem]
  intro a b ha hb hab e
  have h1 := (R.tim r i hr hi a _ (List.getElem?_eq_getElem ha)).2
  have h2 := (R.tim r i hr hi b _ (List.getElem?_eq_getElem hb)).2
  rw [← e] at h2
  have h3 := h1.c2.symm.trans h2.c2
  injection h3 with h3
  injection h3 with _ h3
  omega

/-- What is kept, as long as none of its blocks turn. -/
theorem Rings.keep (R : Rings w lab nb V L hd tk) (hs : w.heap.size ≤ w'.heap.size) (h : ∀ k, (lab k = 3 ∨ 10 ≤ lab k) → w'.heap[k]? = w.heap[k]?) : Rings w' lab nb V L hd tk where
  nest r hr := ⟨(R.nest r hr).1, (R.nest r hr).2.of_block (h _ (.inr (by have := (R.nest r hr).1; omega)))⟩
  row r i hr hi := by
    obtain ⟨h1, h2⟩ := R.row r i hr hi
    refine ⟨⟨h1.1, ?_⟩, h2⟩
    rcases h1.2 with hn | ⟨g, cap, cur, hv, hb, hg, rest⟩
    · exact .inl hn
    · exact .inr ⟨g, cap, cur, hv, hb, (h g (.inr (by have := h2 g (by rw [hv]; rfl); omega))).trans hg, rest⟩
  tim r i hr hi j b hj := ⟨(R.tim r i hr hi j b hj).1, (R.tim r i hr hi j b hj).2.keep (h b (.inl (R.tim r i hr hi j b hj).1))⟩
  lt b hb := Nat.lt_of_lt_of_le (R.lt b hb) hs
theorem Rings.drew (R : Rings w lab nb V L hd tk) : Rings w.drew lab nb V L hd tk := R.keep (Nat.le_refl _) fun _ _ => rfl
theorem Rings.drewN (R : Rings w lab nb V L hd tk) (n : Nat) : Rings (w.drewN n) lab nb V L hd tk := R.keep (Nat.le_refl _) fun _ _ => rfl
theorem Rings.alloc (R : Rings w lab nb V L hd tk) (o : Obj) : Rings (w.alloc o) lab nb V L hd tk :=
  R.keep (by simp) fun k hk => Below.heap_alloc w o k (R.lt k (by omega))
theorem Rings.ch (R : Rings w lab nb V L hd tk) {m : Nat → Prop} (h : Ch w w' m) (hm : ∀ k, m k → lab k ≠ 3 ∧ lab k < 10) : Rings w' lab nb V L hd tk :=
  R.keep h.size fun k hk => h.block k (R.lt k (by omega)) fun hc => by have := hm k hc; omega

/-- The labels with one more row. -/
def labR (lab : Nat → Nat) (v : Value) (r i : Nat) : Nat → Nat := fun k => if v.ownBlock = some k then 100 + 16 * r + i else lab k

/-- A list of the rings with another content: what was written lies in its nest, its own row, and one timer's place. -/
theorem Rings.turn (R : Rings w lab nb V L hd tk) {r i : Nat} (hr : r < 3) (hi : i < 16) {v : Value} {l : List Nat} {m : Nat → Prop} (hc : Ch w w' m)
    (hm : ∀ k, m k → lab k = 10 + r ∨ lab k = 100 + 16 * r + i ∨ lab k = 3 ∧ ∀ r' i', r' < 3 → i' < 16 → ¬(r' = r ∧ i' = i) → k ∉ L r' i')
    (hn : w'.rowIs (nb r) 305 18 (fun j => if j = 1 + i then v else nestF nb V r j))
    (hv : w'.ownsRow 0 240 1 v l.length (l.map ptr)) (hb : ∀ g, v.ownBlock = some g → (lab g = 100 + 16 * r + i ∨ w.heap.size ≤ g))
    (ht : ∀ j b, l[j]? = some b → lab b = 3 ∧ TimAt w' hd tk b j) : Rings w' (labR lab v r i) nb (up2 V r i v) (up2 L r i l) hd tk := by
  have hl : ∀ k, lab k ≠ 0 → lab k ≠ 100 + 16 * r + i → labR lab v r i k = lab k := by
    intro k h0 h1
    unfold labR
    split
    · rename_i e
      rcases hb k e with h | h
      · exact absurd h h1
      · have := R.lt k h0
        omega
    · rfl
  have same : ∀ k, lab k ≠ 0 → lab k ≠ 10 + r → lab k ≠ 100 + 16 * r + i → lab k ≠ 3 → w'.heap[k]? = w.heap[k]? := by
    intro k h0 h1 h2 h3
    refine hc.block k (R.lt k h0) fun hx => ?_
    rcases hm k hx with h | h | h
    · exact h1 h
    · exact h2 h
    · exact h3 h.1
  refine ⟨fun r' hr' => ?_, fun r' i' hr' hi' => ?_, fun r' i' hr' hi' j b hj => ?_, fun b hb' => ?_⟩
  · obtain ⟨h1, h2⟩ := R.nest r' hr'
    refine ⟨by rw [hl _ (by omega) (by omega)]; exact h1, ?_⟩
    by_cases e : r' = r
    · subst e
      refine hn.congr fun j hj => ?_
      unfold nestF up2
      by_cases e : j = 1 + i
      · subst e
        rw [if_pos rfl, if_neg (by omega), if_neg (by omega), Nat.add_sub_cancel_left, if_pos ⟨rfl, rfl⟩]
      · rw [if_neg e]
        by_cases h0 : j = 0
        · simp [h0]
        · by_cases h7 : j = 17
          · simp [h7]
          · rw [if_neg h0, if_neg h7, if_neg h0, if_neg h7, if_neg (by omega)]
    · refine (h2.of_block (same _ (by omega) (by omega) (by omega) (by omega))).congr fun j hj => ?_
      unfold nestF up2
      simp [e]
  · by_cases e : r' = r ∧ i' = i
    · obtain ⟨rfl, rfl⟩ := e
      rw [up2_same, up2_same]
      refine ⟨hv, fun g hg => ?_⟩
      unfold labR
      rw [if_pos hg]
    · rw [up2_other _ _ e, up2_other _ _ e]
      obtain ⟨h1, h2⟩ := R.row r' i' hr' hi'
      refine ⟨⟨h1.1, ?_⟩, fun g hg => by rw [hl g (by rw [h2 g hg]; omega) (by rw [h2 g hg]; omega)]; exact h2 g hg⟩
      rcases h1.2 with hn | ⟨g, cap, cur, hv', hb', hg, rest⟩
      · exact .inl hn
      · have h3 := h2 g (by rw [hv']; rfl)
        exact .inr ⟨g, cap, cur, hv', hb', (same g (by omega) (by omega) (by omega) (by omega)).trans hg, rest⟩
  · by_cases e : r' = r ∧ i' = i
    · obtain ⟨rfl, rfl⟩ := e
      rw [up2_same] at hj
      obtain ⟨h1, h2⟩ := ht j b hj
      exact ⟨by rw [hl b (by omega) (by omega)]; exact h1, h2⟩
    · rw [up2_other _ _ e] at hj
      obtain ⟨h1, h2⟩ := R.tim r' i' hr' hi' j b hj
      refine ⟨by rw [hl b (by omega) (by omega)]; exact h1, h2.keep (hc.block b h2.lt fun hx => ?_)⟩
      rcases hm b hx with h | h | h
      · omega
      · omega
      · exact h.2 r' i' hr' hi' e (List.mem_of_getElem? hj)
  · unfold labR at hb'
    split at hb'
    · rename_i e
      exact (hv.lt b e).2
    · exact Nat.lt_of_lt_of_le (R.lt b hb') hc.size
end

theorem infoTim : (Tryz.prog.info? 240).map (fun i => (i.zero, i.size, i.bytes)) = some (some (.pointer none), 1, 8) := by kernel_rfl
theorem cell_new (w : World) (v : Value) (t : TypeId) : (w.alloc (.cells #[v] t)).cell? ⟨w.heap.size, 0, none⟩ = some v := by
  rw [cell_of_row (w.alloc (.cells #[v] t)) w.heap.size 0 #[v] t (0, 0) (heap_alloc_new w _)]
  rfl

/-- append of one value, onto a row that is known. -/
theorem wpList_app1 {P : Program} {w : World} {ops : Array Oper} {rest : List Oper} {o : Oper} {a : Act} {Q : Exit → Act → World → Prop} (hgd : o.guard = none) (s x : Operand) (t e : TypeId)
    (ho : o.op = .call { callee := .builtin .append, args := #[s, x], argTypes := #[t, t] })
    (z : Value) (bytes : Nat) (ht : P.underlying t = some (.slice e)) (hi : (P.info? e).map (fun i => (i.zero, i.size, i.bytes)) = some (some z, 1, bytes)) (hzs : z.cells.size = 1) (h8 : bytes ≤ 64)
    (v : Value) (n : Nat) (xs : List Value) (hs : a.eval s = v) (hown : w.ownsRow 0 e 1 v n xs)
    (g : Nat) (u : Value) (hx : a.eval x = .slice (some ⟨g, 0, none⟩) 1 1) (hc : w.cell? ⟨g, 0, none⟩ = some u) (h1 : u.oneCell' = true) (h40 : n ≤ 1099511627776)
    (h : ∀ v' w', w'.ownsRow 0 e 1 v' (n + 1) (xs ++ [u]) → w.grownBy w' v.ownBlock → (v'.ownBlock = v.ownBlock ∨ v'.ownBlock = some w.heap.size) → wpList P ops Q rest (a.put o.dst v') w') :
    wpList P ops Q (o :: rest) a w := by
  obtain ⟨i, hi, hzz⟩ := Option.map_eq_some_iff.1 hi
  simp only [Prod.mk.injEq] at hzz
  obtain ⟨hz, h2, h3⟩ := hzz
  refine wpList_append_own_at (P := P) w hgd s x t ho 0 e i z 1 bytes ht hi hz h2 h3 hzs (by decide) v n xs hs hown ⟨g, 0, none⟩ 1 1 [u] hx rfl ?_ (by simpa using h1) (by unfold maxLen; omega) ?_ (Nat.zero_le _) fun v' w' a1 a2 _ a4 => h v' w' a1 a2 a4
  · intro j u' hj
    match j, hj with
    | 0, hj =>
      simp at hj
      subst hj
      simpa [Addr.add] using hc
  · have : (n + 1) * bytes ≤ (n + 1) * 64 := Nat.mul_le_mul_left _ h8
    omega

end Go.Proofs.YtlcegchdkigibaaGreatDoor.LW

namespace Go.Proofs.YtlcegchdkigibaaGreatDoor.LW
set_option linter.unusedVariables false
set_option linter.unusedSimpArgs false
open Go.RowKit

/-- Nothing but draws. -/
def Dr (w w' : World) : Prop := ∃ n, w' = w.drewN n

set_option maxHeartbeats 800000 in
theorem stretch_any (b d t : Nat) (w : World) (h : w.cell? ⟨b, 0, none⟩ = some (.int .i64 (d : Nat))) (hd : 0 < d) (ht : t ≤ 4611686018427387904) :
    Calls Tryz.prog 337 #[ptr b, .int .i64 (t : Int)] w fun e w' => e = .returned (.int .i64 ((t / d : Nat) : Int)) ∧ w' = w := by
  have hq : (t : Int).tdiv (d : Int) = ((t / d : Nat) : Int) := (Int.ofNat_tdiv t d).symm
  have hle : t / d ≤ t := Nat.div_le_self t d
  have hz : ¬ (d : Int) = 0 := by omega
  generalize t / d = q at *
  unfold ptr
  go_enter Tryz.func337, Tryz.ntmps337
  go_wp2_with fail
  go_ret
  exact ⟨rfl, rfl⟩

set_option maxHeartbeats 800000 in
theorem of_any (b d t : Nat) (w : World) (h : w.cell? ⟨b, 0, none⟩ = some (.int .i64 (d : Nat))) (hd : 0 < d) (ht : t ≤ 4611686018427387904) :
    Calls Tryz.prog 269 #[ptr b, .int .i64 (t : Int)] w fun e w' => e = .returned (.pointer (some ⟨b, 1 + t / d % 16, none⟩)) ∧ Dr w w' := by
  have HS := Lib.hid (fun n => stretch_any b d t (w.drewN n) h hd ht)
  unfold ptr at *
  have hle : t / d ≤ t := Nat.div_le_self t d
  have hq : ((t / d : Nat) : Int).tmod 16 = ((t / d % 16 : Nat) : Int) := (Int.ofNat_tmod (t / d) 16).symm
  generalize t / d = q at *
  have hlt : q % 16 < 16 := Nat.mod_lt _ (by decide)
  generalize q % 16 = i at *
  go_enter Tryz.func269, Tryz.ntmps269
  go_wp2_with fail
  go_quiet (first | (go_at_call_of 337 (Value.pointer (some ⟨b, 0, none⟩)); exact Calls.quiet_of_same (HS.out _)))
  go_wp2_with fail
  go_ret
  exact ⟨rfl, _, rfl⟩

theorem Dr.trans {a b c : World} (h : Dr a b) (k : Dr b c) : Dr a c := by
  obtain ⟨n, rfl⟩ := h
  obtain ⟨m, rfl⟩ := k
  exact ⟨n + m, by simp [World.drewN_drewN]⟩

set_option maxHeartbeats 800000 in
theorem home_leaf (b d t n : Nat) (w : World) (h : w.cell? ⟨b, 0, none⟩ = some (.int .i64 (d : Nat))) (hd : 0 < d) (ht : t ≤ 4611686018427387904) (h17 : w.cell? ⟨b, 17, none⟩ = some (.pointer none)) :
    Calls Tryz.prog 352 #[ptr b, .int .i64 (t : Int), .int .i64 (n : Int)] w fun e w' => e = .returned (.pointer (some ⟨b, 1 + t / d % 16, none⟩)) ∧ Dr w w' := by
  have HO := Lib.hid (fun m => of_any b d t (w.drewN m) h hd ht)
  generalize t / d % 16 = i at *
  unfold ptr at *
  go_enter Tryz.func352, Tryz.ntmps352
  go_wp2_with fail
  go_quiet (fail)
  go_wp2_with (first | (go_at_call 269; refine (HO.out _).mono ?_; rintro e w1 ⟨rfl, m, rfl⟩))
  go_ret
  exact ⟨rfl, _, rfl⟩

set_option maxHeartbeats 1600000 in
theorem home_out (b b2 d t n : Nat) (w : World) (h : w.cell? ⟨b, 0, none⟩ = some (.int .i64 (d : Nat))) (hd : 0 < d) (ht : t ≤ 4611686018427387904) (hn : n ≤ 4611686018427387904) (h17 : w.cell? ⟨b, 17, none⟩ = some (.pointer (some ⟨b2, 0, none⟩)))
    (hne : t / d ≠ n / d) :
    Calls Tryz.prog 352 #[ptr b, .int .i64 (t : Int), .int .i64 (n : Int)] w fun e w' => e = .returned (.pointer (some ⟨b, 1 + t / d % 16, none⟩)) ∧ Dr w w' := by
  have HO := Lib.hid (fun m => of_any b d t (w.drewN m) h hd ht)
  have H1 := Lib.hid (fun m => stretch_any b d t (w.drewN m) h hd ht)
  have H2 := Lib.hid (fun m => stretch_any b d n (w.drewN m) h hd hn)
  generalize t / d % 16 = i at *
  have hc : ((((t / d : Nat) : Int)) == (((n / d : Nat) : Int))) = false := by rw [beq_eq_false_iff_ne]; omega
  generalize t / d = q1 at *
  generalize n / d = q2 at *
  unfold ptr at *
  go_enter Tryz.func352, Tryz.ntmps352
  go_wp2_with fail
  go_quiet (first | (go_at_call_of 337 (Value.int IntKind.i64 (t : Int)); exact Calls.quiet_of_same (H1.out _)) | (go_at_call_of 337 (Value.int IntKind.i64 (n : Int)); exact Calls.quiet_of_same (H2.out _)))
  go_wp2_with (first | (go_at_call 269; refine (HO.out _).mono ?_; rintro e w1 ⟨rfl, m, rfl⟩))
  go_ret
  exact ⟨rfl, _, rfl⟩

set_option maxHeartbeats 1600000 in
theorem home_in (b b2 d t n : Nat) (w : World) (p : Addr) (h : w.cell? ⟨b, 0, none⟩ = some (.int .i64 (d : Nat))) (hd : 0 < d) (ht : t ≤ 4611686018427387904) (hn : n ≤ 4611686018427387904) (h17 : w.cell? ⟨b, 17, none⟩ = some (.pointer (some ⟨b2, 0, none⟩)))
    (he : t / d = n / d)
    (HI : ∀ m, Calls Tryz.prog 352 #[ptr b2, .int .i64 (t : Int), .int .i64 (n : Int)] (w.drewN m) fun e w' => e = .returned (.pointer (some p)) ∧ Dr (w.drewN m) w') :
    Calls Tryz.prog 352 #[ptr b, .int .i64 (t : Int), .int .i64 (n : Int)] w fun e w' => e = .returned (.pointer (some p)) ∧ Dr w w' := by
  have HO := Lib.hid HI
  clear HI
  have H1 := Lib.hid (fun m => stretch_any b d t (w.drewN m) h hd ht)
  have H2 := Lib.hid (fun m => stretch_any b d n (w.drewN m) h hd hn)
  have hc : ((((t / d : Nat) : Int)) == (((n / d : Nat) : Int))) = true := by rw [beq_iff_eq]; omega
  generalize t / d = q1 at *
  generalize n / d = q2 at *
  subst he
  clear hc
  unfold ptr at *
  go_enter Tryz.func352, Tryz.ntmps352
  go_wp2_with fail
  go_quiet (first | (go_at_call_of 337 (Value.int IntKind.i64 (t : Int)); exact Calls.quiet_of_same (H1.out _)) | (go_at_call_of 337 (Value.int IntKind.i64 (n : Int)); exact Calls.quiet_of_same (H2.out _)))
  go_wp2_with (first | (go_at_call 352; refine (HO.out _).mono ?_; rintro e w1 ⟨rfl, m, rfl⟩))
  go_ret
  exact ⟨rfl, _, rfl⟩

/-- The ring in which a tick's timers stand at n, from ring r inward. -/
def hmR : Nat → Nat → Nat → Nat
  | 0, _, _ => 0
  | r + 1, t, n => if t / wide (r + 1) = n / wide (r + 1) then hmR r t n else r + 1
theorem hmR_le (r t n : Nat) : hmR r t n ≤ r := by
  induction r with
  | zero => exact Nat.le_refl _
  | succ r ih => unfold hmR; split <;> omega
theorem wide_pos (r : Nat) : 0 < wide r := by unfold wide; split <;> (try split) <;> omega

theorem home_any {lab : Nat → Nat} {nb : Nat → Nat} {V : Nat → Nat → Value} {L : Nat → Nat → List Nat} {hd : Nat → Int} {tk : Nat → Nat} (t n : Nat) (ht : t ≤ 4611686018427387904) (hn : n ≤ 4611686018427387904) :
    ∀ r, r < 3 → ∀ (w : World), Rings w lab nb V L hd tk → Calls Tryz.prog 352 #[ptr (nb r), .int .i64 (t : Int), .int .i64 (n : Int)] w fun e w' => e = .returned (.pointer (some ⟨nb (hmR r t n), 1 + t / wide (hmR r t n) % 16, none⟩)) ∧ Dr w w'
  | 0, hr, w, R => by
    have h17 := R.in_cell hr
    rw [if_pos rfl] at h17
    exact home_leaf (nb 0) (wide 0) t n w (R.wide_cell hr) (wide_pos 0) ht h17
  | r + 1, hr, w, R => by
    have h17 := R.in_cell hr
    rw [if_neg (by omega), Nat.add_sub_cancel] at h17
    unfold hmR
    by_cases e : t / wide (r + 1) = n / wide (r + 1)
    · rw [if_pos e]
      exact home_in (nb (r + 1)) (nb r) (wide (r + 1)) t n w _ (R.wide_cell hr) (wide_pos _) ht hn h17 e fun m => home_any t n ht hn r (by omega) (w.drewN m) (R.drewN m)
    · rw [if_neg e]
      exact home_out (nb (r + 1)) (nb r) (wide (r + 1)) t n w (R.wide_cell hr) (wide_pos _) ht hn h17 e

end Go.Proofs.YtlcegchdkigibaaGreatDoor.LW

namespace Go.Proofs.YtlcegchdkigibaaGreatDoor.LW
set_option linter.unusedVariables false
set_option linter.unusedSimpArgs false
open Go.RowKit

theorem row_set {w : World} {e : TypeId} {v : Value} {n : Nat} {xs : List Value} (h : w.ownsRow 0 e 1 v n xs) {p : Addr} (hp : ∀ g, v.ownBlock = some g → g ≠ p.block) (u : Value) : (w.setCell p u).ownsRow 0 e 1 v n xs := by
  refine ⟨h.1, ?_⟩
  rcases h.2 with hn | ⟨g, cap, cur, hv, hb, hg, rest⟩
  · exact .inl hn
  · exact .inr ⟨g, cap, cur, hv, hb, (Below.heap_setCell w p u g (hp g (by rw [hv]; rfl))).trans hg, rest⟩
theorem cell_set_ne {w : World} {b o c q : Nat} {v u : Value} (h : w.cell? ⟨b, o, none⟩ = some v) (hn : b ≠ c) : (w.setCell ⟨c, q, none⟩ u).cell? ⟨b, o, none⟩ = some v :=
  (World.cell?_of_block (w := w) (Below.heap_setCell w ⟨c, q, none⟩ u b hn)).trans h
theorem fz_set {w : World} {p q : Addr} {u : Value} (h : w.frozen? p = false) : (w.setCell q u).frozen? p = false := by rw [World.frozen?_setCell]; exact h

set_option maxHeartbeats 1600000 in
theorem add_any {lab : Nat → Nat} {nb : Nat → Nat} {V : Nat → Nat → Value} {L : Nat → Nat → List Nat} {hd : Nat → Int} {tk : Nat → Nat} {w : World} (R : Rings w lab nb V L hd tk) {r i b : Nat} (hr : r < 3) (hi : i < 16)
    (hb : lab b = 3) (hT : Tim w hd tk b) (hno : ∀ r' i', r' < 3 → i' < 16 → b ∉ L r' i') (hlen : (L r i).length ≤ 1099511627776) :
    Calls Tryz.prog 270 #[.pointer (some ⟨nb r, 1 + i, none⟩), ptr b] w fun e w' => e = .returned (.tuple #[]) ∧
      ∃ v, Rings w' (labR lab v r i) nb (up2 V r i v) (up2 L r i (L r i ++ [b])) hd tk ∧ Ch w w' (fun k => k = b ∨ lab k = 10 + r ∨ lab k = 100 + 16 * r + i) ∧ (∀ k, lab k = 3 → Tim w hd tk k → Tim w' hd tk k) ∧
        ∀ g, v.ownBlock = some g → lab g = 100 + 16 * r + i ∨ w.heap.size ≤ g := by
  obtain ⟨c1, f1⟩ := R.list_cell hr hi
  obtain ⟨row, rlab⟩ := R.row r i hr hi
  have nst := R.nest r hr
  obtain ⟨A, c, hv, hnc, hcm, _⟩ := slice_of_own row
  have hT0 := hT
  obtain ⟨q, T⟩ := hT
  have t2 := T.c2
  have tz := T.fz 2
  have hlt := T.lt
  have hne : nb r ≠ b := fun e => by have := nst.1; rw [e, hb] at this; omega
  generalize hn : (L r i).length = n at *
  -- the row as it will be seen by append
  have hown : ((w.setCell ⟨b, 2, none⟩ (.int .i64 (n : Int))).alloc (.cells #[ptr b] 240)).ownsRow 0 240 1 (.slice A n c) n ((L r i).map ptr) := by
    rw [← hv]
    exact (row_set row (fun g hg e => by have h1 := rlab g hg; simp only at e; rw [e, hb] at h1; omega) _).alloc _
  have hcell := cell_new (w.setCell ⟨b, 2, none⟩ (.int .i64 (n : Int))) (ptr b) 240
  rw [show (w.setCell ⟨b, 2, none⟩ (.int .i64 (n : Int))).heap.size = w.heap.size from by simp [World.setCell]] at hcell
  have c2 : (w.setCell ⟨b, 2, none⟩ (.int .i64 (n : Int))).cell? ⟨nb r, 1 + i, none⟩ = some (.slice A n c) := by rw [← hv]; exact cell_set_ne c1 hne
  have f2 : (w.setCell ⟨b, 2, none⟩ (.int .i64 (n : Int))).frozen? ⟨nb r, 1 + i, none⟩ = false := fz_set f1
  have K3 := Lib.hid (show ∀ w', ((w.setCell ⟨b, 2, none⟩ (.int .i64 (n : Int))).alloc (.cells #[ptr b] 240)).grownBy w' (Value.slice A n c).ownBlock → w'.cell? ⟨nb r, 1 + i, none⟩ = some (.slice A n c) ∧ w'.frozen? ⟨nb r, 1 + i, none⟩ = false from fun w' g => by
    have hx : some (nb r) ≠ (Value.slice A n c).ownBlock := fun e => by
      have h1 := rlab (nb r) (by rw [hv]; exact e.symm)
      have := nst.1
      omega
    have hlt2 : nb r < (w.setCell ⟨b, 2, none⟩ (.int .i64 (n : Int))).heap.size := by simpa [World.setCell] using nst.2.lt
    refine ⟨g.cell ((World.cell?_alloc_lt _ _ _ hlt2).trans c2) hx, ?_⟩
    rw [World.frozen?_of_block (g.block (nb r) (by simp [World.setCell]; have := nst.2.lt; omega) hx), World.frozen?_of_block (Below.heap_alloc _ _ (nb r) hlt2)]
    exact f2)
  have HB := Lib.hid (show ∀ g, (Value.slice A n c).ownBlock = some g → lab g = 100 + 16 * r + i from fun g hg => rlab g (by rw [hv]; exact hg))
  rw [hv] at c1
  have T1 := Lib.hid (T.put n)
  have HV := Lib.hid hv
  have HN := Lib.hid hn
  have HC := Lib.hid (((Ch.refl w (fun k => k = b ∨ lab k = 10 + r ∨ lab k = 100 + 16 * r + i)).setCell (p := ⟨b, 2, none⟩) (fun _ => .inl rfl) (.int .i64 (n : Int))).alloc (.cells #[ptr b] 240))
  clear hv hn
  generalize hg0 : nb r = g0 at *
  have HG := Lib.hid hg0
  clear hg0
  unfold ptr at *
  go_enter Tryz.func270, Tryz.ntmps270
  go_wp2_with (first
    | (at_builtin; refine wpList_app1 (P := Tryz.prog) rfl _ _ 238 240 rfl _ _ Tryz.underlying238 infoTim rfl (by decide) (.slice A n c) _ _ rfl hown _ _ rfl hcell rfl hlen ?_; intro v' w' o1 o2 o3; obtain ⟨c3, f3⟩ := K3.out w' o2; have O1 := Lib.hid o1; obtain ⟨A', c', rfl, _⟩ := slice_of_own o1; clear o1))
  go_end0
  have hv := HV.out
  have hn := HN.out
  have hg0 := HG.out
  subst hg0
  have HC2 : Ch w (w'.setCell ⟨nb r, 1 + i, none⟩ (.slice A' (n + 1) c')) (fun k => k = b ∨ lab k = 10 + r ∨ lab k = 100 + 16 * r + i) :=
    ((HC.out).grown o2 fun k hk _ => .inr (.inr (HB.out k hk))).setCell (fun _ => .inr (.inl nst.1)) _
  have o1 := O1.out
  have tw : TimAt w' hd tk b n := (T1.out).keep ((o2.block b (by simp [World.setCell]; omega) (fun e => by have := HB.out b e.symm; omega)).trans (Below.heap_alloc _ _ b (by simpa [World.setCell] using hlt)))
  have tw2 : TimAt (w'.setCell ⟨nb r, 1 + i, none⟩ (.slice A' (n + 1) c')) hd tk b n := tw.keep (Below.heap_setCell _ _ _ _ (fun e => hne e.symm))
  have hown2 : (w'.setCell ⟨nb r, 1 + i, none⟩ (.slice A' (n + 1) c')).ownsRow 0 240 1 (.slice A' (n + 1) c') (n + 1) ((L r i ++ [b]).map ptr) := by
    refine row_set ?_ (fun g hg e => ?_) _
    · rw [List.map_append]; exact o1
    · simp only at e
      rcases o3 with h | h
      · have h1 := HB.out g (h ▸ hg)
        have := nst.1
        rw [e] at h1
        omega
      · rw [hg] at h
        injection h with h
        have := nst.2.lt
        simp [World.setCell] at h
        omega
  have hbb : ∀ g, (Value.slice A' (n + 1) c').ownBlock = some g → lab g = 100 + 16 * r + i ∨ w.heap.size ≤ g := fun g hg => by
    rcases o3 with h | h
    · exact .inl (HB.out g (h ▸ hg))
    · rw [hg] at h
      injection h with h
      simp [World.setCell] at h
      exact .inr (by omega)
  refine ⟨rfl, .slice A' (n + 1) c', R.turn hr hi HC2 (fun k hk => ?_) ?_ ?_ hbb (fun j x hj => ?_), HC2, fun k hk0 => ?_, hbb⟩
  · rcases hk with rfl | h | h
    · exact .inr (.inr ⟨hb, fun r' i' h1 h2 _ => hno r' i' h1 h2⟩)
    · exact .inl h
    · exact .inr (.inl h)
  · have hrow : w'.rowIs (nb r) 305 18 (nestF nb V r) := nst.2.of_block ((o2.block (nb r) (by simp [World.setCell]; have := nst.2.lt; omega) (fun e => by have h1 := HB.out _ e.symm; have := nst.1; omega)).trans ((Below.heap_alloc _ _ _ (by simpa [World.setCell] using nst.2.lt)).trans (Below.heap_setCell _ _ _ _ hne)))
    exact hrow.set (1 + i) _
  · rw [List.length_append, hn]
    exact hown2
  · by_cases h : j < (L r i).length
    · rw [List.getElem?_append_left h] at hj
      obtain ⟨h1, h2⟩ := R.tim r i hr hi j x hj
      exact ⟨h1, h2.keep (HC2.block x h2.lt fun hk => by
        rcases hk with rfl | h | h
        · exact hno r i hr hi (List.mem_of_getElem? hj)
        · omega
        · omega)⟩
    · rw [List.getElem?_append_right (by omega)] at hj
      have hj0 : j - (L r i).length = 0 := by
        have := (List.getElem?_eq_some_iff.1 hj).1
        simp at this
        omega
      rw [hj0] at hj
      simp at hj
      subst hj
      obtain rfl : j = n := by omega
      exact ⟨hb, tw2⟩
  · intro hT
    by_cases e : k = b
    · subst e
      exact ⟨n, tw2⟩
    · exact hT.keep (HC2.block k hT.lt fun h => by
        rcases h with h | h | h
        · exact e h
        · omega
        · omega)

end Go.Proofs.YtlcegchdkigibaaGreatDoor.LW

namespace Go.Proofs.YtlcegchdkigibaaGreatDoor.LW
set_option linter.unusedVariables false
set_option linter.unusedSimpArgs false
open Go.RowKit

/-- The list without its j-th: the last one comes to its place. -/
def sd (xs : List Nat) (j : Nat) : List Nat := (xs.set j (xs.getD (xs.length - 1) 0)).take (xs.length - 1)
theorem mem_sd {xs : List Nat} (hnd : xs.Nodup) {j b : Nat} (hj : xs[j]? = some b) (x : Nat) : x ∈ sd xs j ↔ x ∈ xs ∧ x ≠ b := by
  obtain ⟨hlt, hb⟩ := List.getElem?_eq_some_iff.1 hj
  have inj : ∀ a c (ha : a < xs.length) (hc : c < xs.length), xs[a] = xs[c] → a = c := fun a c ha hc e => (List.getElem_inj hnd).1 e
  have hl : (sd xs j).length = xs.length - 1 := by unfold sd; simp
  have get : ∀ k (hk : k < xs.length - 1), (sd xs j)[k]'(by omega) = if j = k then xs[xs.length - 1]'(by omega) else xs[k]'(by omega) := by
    intro k hk
    unfold sd
    rw [List.getElem_take, List.getElem_set]
    split
    · simp [List.getElem?_eq_getElem (show xs.length - 1 < xs.length by omega)]
    · rfl
  constructor
  · intro hx
    obtain ⟨k, hk, rfl⟩ := List.getElem_of_mem hx
    rw [hl] at hk
    rw [get k hk]
    split
    · refine ⟨List.getElem_mem _, fun e => ?_⟩
      have := inj _ _ _ _ (e.trans hb.symm)
      omega
    · rename_i hne
      refine ⟨List.getElem_mem _, fun e => hne ?_⟩
      exact (inj _ _ _ _ (e.trans hb.symm)).symm
  · rintro ⟨hx, hne⟩
    obtain ⟨k, hk, rfl⟩ := List.getElem_of_mem hx
    have hkj : k ≠ j := fun e => hne (by subst e; exact hb)
    by_cases h : k = xs.length - 1
    · have h1 := get j (by omega)
      rw [if_pos rfl] at h1
      subst h
      rw [← h1]
      exact List.getElem_mem _
    · have h1 := get k (by omega)
      rw [if_neg (fun e => hkj e.symm)] at h1
      rw [← h1]
      exact List.getElem_mem _

theorem row_short {w : World} {e : TypeId} {g m c : Nat} {xs : List Value} (h : w.ownsRow 0 e 1 (.slice (some ⟨g, 0, none⟩) (m + 1) c) (m + 1) xs) : w.ownsRow 0 e 1 (.slice (some ⟨g, 0, none⟩) m c) m (xs.take m) := by
  obtain ⟨h1, h2⟩ := h
  refine ⟨by rw [List.length_take]; omega, ?_⟩
  rcases h2 with ⟨h2, _⟩ | ⟨g', cap, cur, hv, hb, hg, hn, hm, hs, ht⟩
  · cases h2
  · injection hv with h3 h4 h5
    injection h3 with h3
    injection h3 with h3
    subst h3
    subst h5
    refine .inr ⟨g, c, cur, rfl, hb, hg, by omega, hm, hs, ?_⟩
    rw [← ht, List.take_take]
    congr 1
    omega

set_option maxHeartbeats 1600000 in
theorem drop_any {lab : Nat → Nat} {nb : Nat → Nat} {V : Nat → Nat → Value} {L : Nat → Nat → List Nat} {hd : Nat → Int} {tk : Nat → Nat} {w : World} (R : Rings w lab nb V L hd tk) {r i b j : Nat} (hr : r < 3) (hi : i < 16)
    (hj : (L r i)[j]? = some b) (hno : ∀ r' i', r' < 3 → i' < 16 → ¬(r' = r ∧ i' = i) → ∀ x ∈ L r i, x ∉ L r' i') :
    Calls Tryz.prog 353 #[.pointer (some ⟨nb r, 1 + i, none⟩), ptr b] w fun e w' => e = .returned (.tuple #[]) ∧
      ∃ v, Rings w' lab nb (up2 V r i v) (up2 L r i (sd (L r i) j)) hd tk ∧ Ch w w' (fun k => lab k = 3 ∨ lab k = 10 + r ∨ lab k = 100 + 16 * r + i) ∧ (∀ k, lab k = 3 → Tim w hd tk k → Tim w' hd tk k) := by
  obtain ⟨c1, f1⟩ := R.list_cell hr hi
  obtain ⟨row, rlab⟩ := R.row r i hr hi
  have nst := R.nest r hr
  obtain ⟨hb, T⟩ := R.tim r i hr hi j b hj
  obtain ⟨hlt, hbj⟩ := List.getElem?_eq_some_iff.1 hj
  obtain ⟨m, hm⟩ : ∃ m, (L r i).length = m + 1 := ⟨(L r i).length - 1, by omega⟩
  have hmv : (L r i)[m]? = some ((L r i)[m]'(by omega)) := List.getElem?_eq_getElem (by omega)
  generalize hmve : (L r i)[m]'(by omega) = mv at hmv
  obtain ⟨hbm, TM⟩ := R.tim r i hr hi m mv hmv
  have hL : sd (L r i) j = ((L r i).set j mv).take m := by
    unfold sd
    rw [hm, Nat.add_sub_cancel, List.getD_eq_getElem?_getD, hmv]
    rfl
  obtain ⟨A, c, hv, hnc, hcm, hA⟩ := slice_of_own row
  rcases hA with ⟨_, h0, _⟩ | ⟨g, rfl, hg⟩
  · omega
  have hlg := rlab g hg
  rw [hv, hm] at row c1
  rw [hm] at hnc
  have gm : w.cell? ⟨g, m, none⟩ = some (ptr mv) := by
    rw [World.ownsRow.cellAt row m (by omega)]
    simp [hmv]
  have gj : w.cell? ⟨g, j, none⟩ = some (ptr b) := by
    rw [World.ownsRow.cellAt row j (by omega)]
    simp [hj]
  have fg : ∀ q, w.frozen? ⟨g, q, none⟩ = false := fun q => World.ownsRow.frozenAt row q
  have n1 : nb r ≠ g := fun e => by have := nst.1; rw [e] at this; omega
  have n2 : nb r ≠ mv := fun e => by have := nst.1; rw [e] at this; omega
  have n3 : g ≠ mv := fun e => by rw [e] at hlg; omega
  have t2 := T.c2
  have tf := T.fz 2
  have m2 := TM.c2
  have mf := TM.fz 2
  have fgj := fg j
  have fgm := fg m
  have hw1 : wrap64 (((m + 1 : Nat) : Int) - 1) = (m : Nat) := by unfold wrap64; omega
  have hjm : j < m + 1 := by omega
  generalize hg0 : nb r = g0 at *
  have HG := Lib.hid hg0
  clear hg0
  unfold ptr at *
  go_enter Tryz.func353, Tryz.ntmps353
  go_wp2_with fail
  go_region
  generalize hW2 : (((w.setCell ⟨g, j, none⟩ (Value.pointer (some ⟨mv, 0, none⟩))).setCell ⟨mv, 2, none⟩ (Value.int IntKind.i64 (j : Int))).drew) = W2
  have c3 : W2.cell? ⟨g0, 1 + i, none⟩ = some (.slice (some ⟨g, 0, none⟩) (m + 1) c) := by rw [← hW2]; exact cell_set_ne (cell_set_ne c1 n1) n2
  have f3 : W2.frozen? ⟨g0, 1 + i, none⟩ = false := by rw [← hW2]; exact fz_set (fz_set f1)
  have f3m : W2.frozen? ⟨g, m, none⟩ = false := by rw [← hW2]; exact fz_set (fz_set fgm)
  have row3 : W2.ownsRow 0 240 1 (.slice (some ⟨g, 0, none⟩) (m + 1) c) (m + 1) ((List.map (fun b => Value.pointer (some ⟨b, 0, none⟩)) (L r i)).set j (.pointer (some ⟨mv, 0, none⟩))) := by
    rw [← hW2]
    exact row_set (World.ownsRow.stored row j _).1 (fun k hk e => by have h9 : some g = some k := hk; injection h9 with h9; simp only at e; omega) _
  obtain ⟨u, hu⟩ : ∃ u, W2.cell? ⟨g, m, none⟩ = some u := by
    rw [World.ownsRow.cellAt row3 m (by omega)]
    exact ⟨_, List.getElem?_eq_getElem (by simp; omega)⟩
  have c4 : (W2.setCell ⟨g, m, none⟩ (.pointer none)).cell? ⟨g0, 1 + i, none⟩ = some (.slice (some ⟨g, 0, none⟩) (m + 1) c) := cell_set_ne c3 n1
  have f4 : (W2.setCell ⟨g, m, none⟩ (.pointer none)).frozen? ⟨g0, 1 + i, none⟩ = false := fz_set f3
  have HW2 := Lib.hid hW2
  clear hW2
  go_wp2_with fail
  go_end0
  have hg0 := HG.out
  subst hg0
  have hW2 := HW2.out
  have hmay : Ch w ((W2.setCell ⟨g, m, none⟩ (.pointer none)).setCell ⟨nb r, 1 + i, none⟩ (.slice (some ⟨g, 0, none⟩) m c)) (fun k => k = g ∨ k = mv ∨ k = nb r) := by
    rw [← hW2]
    exact (((((Ch.refl w _).setCell (p := ⟨g, j, none⟩) (fun _ => .inl rfl) _).setCell (p := ⟨mv, 2, none⟩) (fun _ => .inr (.inl rfl)) _).drew).setCell (p := ⟨g, m, none⟩) (fun _ => .inl rfl) _).setCell (p := ⟨nb r, 1 + i, none⟩) (fun _ => .inr (.inr rfl)) _
  have hch : Ch w ((W2.setCell ⟨g, m, none⟩ (.pointer none)).setCell ⟨nb r, 1 + i, none⟩ (.slice (some ⟨g, 0, none⟩) m c)) (fun k => lab k = 3 ∨ lab k = 10 + r ∨ lab k = 100 + 16 * r + i) :=
    hmay.mono fun k _ h => by
      rcases h with rfl | rfl | rfl
      · exact .inr (.inr hlg)
      · exact .inl hbm
      · exact .inr (.inl nst.1)
  have tmv : TimAt ((W2.setCell ⟨g, m, none⟩ (.pointer none)).setCell ⟨nb r, 1 + i, none⟩ (.slice (some ⟨g, 0, none⟩) m c)) hd tk mv j := by
    have h1 : TimAt (w.setCell ⟨g, j, none⟩ (.pointer (some ⟨mv, 0, none⟩))) hd tk mv m := TM.keep (Below.heap_setCell _ _ _ _ (fun e => n3 e.symm))
    have h2 : TimAt W2 hd tk mv j := by rw [← hW2]; exact h1.put j
    exact h2.keep ((Below.heap_setCell _ _ _ _ (fun e => n2 e.symm)).trans (Below.heap_setCell _ _ _ _ (fun e => n3 e.symm)))
  have hown : ((W2.setCell ⟨g, m, none⟩ (.pointer none)).setCell ⟨nb r, 1 + i, none⟩ (.slice (some ⟨g, 0, none⟩) m c)).ownsRow 0 240 1 (.slice (some ⟨g, 0, none⟩) m c) (sd (L r i) j).length ((sd (L r i) j).map ptr) := by
    have hlen : (sd (L r i) j).length = m := by rw [hL]; simp; omega
    rw [hlen]
    refine row_set ?_ (fun k hk e => ?_) _
    · have h1 := (World.ownsRow.stored row3 m (.pointer none)).1
      have h2 := row_short h1
      have e1 : ((((List.map (fun b => Value.pointer (some ⟨b, 0, none⟩)) (L r i)).set j (.pointer (some ⟨mv, 0, none⟩))).set m (.pointer none)).take m) = (sd (L r i) j).map ptr := by
        rw [List.take_set_of_le (Nat.le_refl m), hL, List.map_take, List.map_set]
        rfl
      rw [e1] at h2
      exact h2
    · have h9 : some g = some k := hk
      injection h9 with h9
      simp only at e
      exact n1 (by omega)
  have hlab : labR lab (.slice (some ⟨g, 0, none⟩) m c) r i = lab := by
    funext k
    unfold labR
    split
    · rename_i e
      have h9 : some g = some k := e
      injection h9 with h9
      rw [← h9, hlg]
    · rfl
  refine ⟨rfl, .slice (some ⟨g, 0, none⟩) m c, ?_, hch, fun k hk0 hT => ?_⟩
  · have := R.turn hr hi (v := .slice (some ⟨g, 0, none⟩) m c) (l := sd (L r i) j) hmay (fun k hk => ?_) ?_ hown (fun k hk => ?_) (fun k x hk => ?_)
    · rw [hlab] at this
      exact this
    · rcases hk with rfl | rfl | rfl
      · exact .inr (.inl hlg)
      · exact .inr (.inr ⟨hbm, fun r' i' h1 h2 h3 => hno r' i' h1 h2 h3 _ (List.mem_of_getElem? hmv)⟩)
      · exact .inl nst.1
    · have hrow : (W2.setCell ⟨g, m, none⟩ (.pointer none)).rowIs (nb r) 305 18 (nestF nb V r) := by
        refine nst.2.of_block ((Below.heap_setCell _ _ _ _ n1).trans ?_)
        rw [← hW2]
        exact (Below.heap_setCell _ _ _ _ n2).trans (Below.heap_setCell _ _ _ _ n1)
      exact hrow.set (1 + i) _
    · have h9 : some g = some k := hk
      injection h9 with h9
      exact .inl (by rw [← h9]; exact hlg)
    · rw [hL] at hk
      rw [List.getElem?_take] at hk
      split at hk
      · rename_i hkm
        rw [List.getElem?_set] at hk
        split at hk
        · rename_i e
          injection hk with hk
          subst hk
          subst e
          exact ⟨hbm, tmv⟩
        · rename_i e
          obtain ⟨h1, h2⟩ := R.tim r i hr hi k x hk
          refine ⟨h1, h2.keep (hmay.block x h2.lt fun h => ?_)⟩
          rcases h with rfl | rfl | rfl
          · omega
          · have h3 := h2.c2.symm.trans TM.c2
            injection h3 with h3
            injection h3 with _ h3
            omega
          · have := nst.1
            omega
      · cases hk
  · by_cases e : k = mv
    · subst e
      exact ⟨j, tmv⟩
    · refine hT.keep (hmay.block k hT.lt fun h => ?_)
      rcases h with rfl | h | rfl
      · omega
      · exact e h
      · have := nst.1
        omega

end Go.Proofs.YtlcegchdkigibaaGreatDoor.LW

namespace Go.Proofs.YtlcegchdkigibaaGreatDoor.LW
set_option linter.unusedVariables false
set_option linter.unusedSimpArgs false
open Go.RowKit

set_option maxHeartbeats 1600000 in
theorem empty_any {lab : Nat → Nat} {nb : Nat → Nat} {V : Nat → Nat → Value} {L : Nat → Nat → List Nat} {hd : Nat → Int} {tk : Nat → Nat} {w : World} (R : Rings w lab nb V L hd tk) {r t : Nat} (hr : r < 3) (ht : t ≤ 4611686018427387904) :
    Calls Tryz.prog 267 #[ptr (nb r), .int .i64 (t : Int)] w fun e w' => e = .returned (V r (t / wide r % 16)) ∧
      Rings w' lab nb (up2 V r (t / wide r % 16) (.slice none 0 0)) (up2 L r (t / wide r % 16) []) hd tk ∧ Ch w w' (fun k => k = nb r) := by
  have HO := Lib.hid (fun m => of_any (nb r) (wide r) t (w.drewN m) (R.wide_cell hr) (wide_pos r) ht)
  have hi : t / wide r % 16 < 16 := Nat.mod_lt _ (by decide)
  generalize t / wide r % 16 = i at *
  obtain ⟨c1, f1⟩ := R.list_cell hr hi
  obtain ⟨row, rlab⟩ := R.row r i hr hi
  have nst := R.nest r hr
  obtain ⟨A, c, hv, hnc, hcm, _⟩ := slice_of_own row
  rw [hv] at c1
  have HV := Lib.hid hv
  clear hv
  generalize hn : (L r i).length = n at *
  have HN := Lib.hid hn
  clear hn
  generalize hg0 : nb r = g0 at *
  have HG := Lib.hid hg0
  clear hg0
  unfold ptr at *
  go_enter Tryz.func267, Tryz.ntmps267
  go_wp2_with (first | (go_at_call 269; refine (HO.out 0).mono ?_; rintro e w1 ⟨rfl, m, rfl⟩))
  go_ret
  have hg0 := HG.out
  subst hg0
  have hc : ∀ q, Ch w (((w.drewN 0).drewN q).setCell ⟨nb r, 1 + i, none⟩ (.slice none 0 0)) (fun k => k = nb r) := fun q =>
    (((Ch.refl w (fun k => k = nb r)).drewN 0).drewN q).setCell (p := ⟨nb r, 1 + i, none⟩) (fun _ => rfl) _
  have hlab : labR lab (.slice none 0 0) r i = lab := by
    funext k
    unfold labR
    rw [if_neg (by intro e; cases e)]
  refine ⟨by rw [HV.out]; rfl, ?_, hc _⟩
  have := R.turn hr hi (v := .slice none 0 0) (l := []) (hc m) (fun k hk => .inl (by rw [hk]; exact nst.1)) ?_ (World.ownsRow_nil _ _ _ _) (fun g hg => by cases hg) (fun j x hj => by simp at hj)
  · rw [hlab] at this
    exact this
  · exact World.rowIs.set (w := (w.drewN 0).drewN m) nst.2 (1 + i) _

end Go.Proofs.YtlcegchdkigibaaGreatDoor.LW

namespace Go.Proofs.YtlcegchdkigibaaGreatDoor.LW
set_option linter.unusedVariables false
set_option linter.unusedSimpArgs false

abbrev Lists := Nat → Nat → List Nat

/-- All timers that stand in the lists. -/
def InL (L : Lists) (b : Nat) : Prop := ∃ r i, r < 3 ∧ i < 16 ∧ b ∈ L r i
/-- No timer stands in two lists. -/
def Dj (L : Lists) : Prop := ∀ r i r' i', r < 3 → i < 16 → r' < 3 → i' < 16 → ∀ b, b ∈ L r i → b ∈ L r' i' → r = r' ∧ i = i'
/-- Each timer stands where it must at n. -/
def Pl (L : Lists) (tk : Nat → Nat) (n : Nat) : Prop := ∀ r i b, r < 3 → i < 16 → b ∈ L r i → r = hmR 2 (tk b) n ∧ i = tk b / wide r % 16 ∧ n < tk b ∧ tk b ≤ n + 4096
/-- Each timer stands where it must while n comes, with rings inside ring s not yet filled. -/
def Pm (s : Nat) (L : Lists) (tk : Nat → Nat) (n : Nat) : Prop := ∀ r i b, r < 3 → i < 16 → b ∈ L r i → i = tk b / wide r % 16 ∧ n ≤ tk b ∧ tk b ≤ n + 4095 ∧
  (r = 2 → (tk b / 256 ≠ n / 256 ∨ s = 2 ∧ n % 256 = 0)) ∧
  (r = 1 → tk b / 256 = n / 256 ∧ (tk b / 16 ≠ n / 16 ∨ 1 ≤ s ∧ n % 16 = 0) ∧ ¬(s = 2 ∧ n % 256 = 0)) ∧
  (r = 0 → tk b / 16 = n / 16 ∧ ¬(1 ≤ s ∧ n % 16 = 0))

theorem wide0 : wide 0 = 1 := rfl
theorem wide1 : wide 1 = 16 := rfl
theorem wide2 : wide 2 = 256 := rfl
theorem hmR2 (t n : Nat) : hmR 2 t n = if t / 256 = n / 256 then (if t / 16 = n / 16 then 0 else 1) else 2 := rfl

theorem Pl.dj {L : Lists} {tk : Nat → Nat} {n : Nat} (h : Pl L tk n) : Dj L := fun r i r' i' h1 h2 h3 h4 b hb hb' => by
  have a := h r i b h1 h2 hb
  have c := h r' i' b h3 h4 hb'
  have e : r = r' := a.1.trans c.1.symm
  subst e
  exact ⟨rfl, a.2.1.trans c.2.1.symm⟩
theorem Pm.dj {s : Nat} {L : Lists} {tk : Nat → Nat} {n : Nat} (h : Pm s L tk n) (hs : s ≤ 2) : Dj L := fun r i r' i' h1 h2 h3 h4 b hb hb' => by
  obtain ⟨a1, a2, a3, a4, a5, a6⟩ := h r i b h1 h2 hb
  obtain ⟨c1, c2, c3, c4, c5, c6⟩ := h r' i' b h3 h4 hb'
  have e : r = r' := by
    rcases (by omega : r = 0 ∨ r = 1 ∨ r = 2) with rfl | rfl | rfl <;> rcases (by omega : r' = 0 ∨ r' = 1 ∨ r' = 2) with rfl | rfl | rfl <;> first | rfl | (exfalso; omega)
  subst e
  exact ⟨rfl, a1.trans c1.symm⟩

/-- Ahead of the step. -/
theorem Pl.start {L : Lists} {tk : Nat → Nat} {n : Nat} (h : Pl L tk n) : Pm 2 L tk (n + 1) := fun r i b h1 h2 hb => by
  obtain ⟨a1, a2, a3, a4⟩ := h r i b h1 h2 hb
  rw [hmR2] at a1
  refine ⟨a2, by omega, by omega, ?_, ?_, ?_⟩ <;> rintro rfl <;> (split at a1 <;> (try split at a1) <;> omega)

/-- Ring r + 1's list of n's stretch was emptied into ring r. -/
def Poured (r i : Nat) (L L' : Lists) (tk : Nat → Nat) : Prop :=
  (∀ r' i', r' ≠ r → ¬(r' = r + 1 ∧ i' = i) → L' r' i' = L r' i') ∧ L' (r + 1) i = [] ∧ ∀ j b, j < 16 → (b ∈ L' r j ↔ b ∈ L r j ∨ b ∈ L (r + 1) i ∧ tk b / wide r % 16 = j)

theorem Pm.poured {s : Nat} (hs : s < 2) {L L' : Lists} {tk : Nat → Nat} {n : Nat} (h : Pm (s + 1) L tk n) (hn : n % wide (s + 1) = 0) (hp : Poured s (n / wide (s + 1) % 16) L L' tk) : Pm s L' tk n := fun r i b h1 h2 hb => by
  obtain ⟨p1, p2, p3⟩ := hp
  rcases (by omega : s = 0 ∨ s = 1) with rfl | rfl
  · rw [wide1] at *
    by_cases e : r = 0
    · subst e
      rcases (p3 i b h2).1 hb with hb | ⟨hb, hi⟩
      · obtain ⟨a1, a2, a3, a4, a5, a6⟩ := h 0 i b (by omega) h2 hb
        have := a6 rfl
        omega
      · obtain ⟨a1, a2, a3, a4, a5, a6⟩ := h 1 (n / 16 % 16) b (by omega) (by omega) hb
        rw [wide1] at a1
        have a5 := a5 rfl
        exact ⟨hi.symm, a2, a3, by omega, by omega, by omega⟩
    · by_cases e' : r = 0 + 1 ∧ i = n / 16 % 16
      · obtain ⟨rfl, rfl⟩ := e'
        rw [p2] at hb
        cases hb
      · rw [p1 r i e e'] at hb
        obtain ⟨a1, a2, a3, a4, a5, a6⟩ := h r i b h1 h2 hb
        refine ⟨a1, a2, a3, fun h => by have := a4 h; omega, fun h => ?_, fun h => absurd h e⟩
        subst h
        have a5 := a5 rfl
        rw [wide1] at a1
        omega
  · rw [wide2] at *
    by_cases e : r = 1
    · subst e
      rcases (p3 i b h2).1 hb with hb | ⟨hb, hi⟩
      · obtain ⟨a1, a2, a3, a4, a5, a6⟩ := h 1 i b (by omega) h2 hb
        have := a5 rfl
        omega
      · obtain ⟨a1, a2, a3, a4, a5, a6⟩ := h 2 (n / 256 % 16) b (by omega) (by omega) hb
        rw [wide2] at a1
        have a4 := a4 rfl
        exact ⟨hi.symm, a2, a3, by omega, by omega, by omega⟩
    · by_cases e' : r = 1 + 1 ∧ i = n / 256 % 16
      · obtain ⟨rfl, rfl⟩ := e'
        rw [p2] at hb
        cases hb
      · rw [p1 r i e e'] at hb
        obtain ⟨a1, a2, a3, a4, a5, a6⟩ := h r i b h1 h2 hb
        refine ⟨a1, a2, a3, fun h => ?_, fun h => absurd h e, fun h => by have := a6 h; omega⟩
        subst h
        have a4 := a4 rfl
        rw [wide2] at a1
        omega
theorem Pm.skip {s : Nat} (hs : s < 2) {L : Lists} {tk : Nat → Nat} {n : Nat} (h : Pm (s + 1) L tk n) (hn : n % wide (s + 1) ≠ 0) : Pm s L tk n := fun r i b h1 h2 hb => by
  obtain ⟨a1, a2, a3, a4, a5, a6⟩ := h r i b h1 h2 hb
  rcases (by omega : s = 0 ∨ s = 1) with rfl | rfl
  · rw [wide1] at hn
    refine ⟨a1, a2, a3, fun h => ?_, fun h => ?_, fun h => ?_⟩
    · have := a4 h; omega
    · have := a5 h; omega
    · have := a6 h; omega
  · rw [wide2] at hn
    refine ⟨a1, a2, a3, fun h => ?_, fun h => ?_, fun h => ?_⟩
    · have := a4 h; omega
    · have := a5 h; omega
    · have := a6 h; omega

/-- What stands in the innermost ring's list of n is due at n, and nothing else. -/
theorem Pm.due {L : Lists} {tk : Nat → Nat} {n : Nat} (h : Pm 0 L tk n) (b : Nat) : b ∈ L 0 (n % 16) ↔ InL L b ∧ tk b = n := by
  constructor
  · intro hb
    obtain ⟨a1, a2, a3, a4, a5, a6⟩ := h 0 (n % 16) b (by omega) (by omega) hb
    rw [wide0] at a1
    have := a6 rfl
    exact ⟨⟨0, _, by omega, by omega, hb⟩, by omega⟩
  · rintro ⟨⟨r, i, h1, h2, hb⟩, e⟩
    obtain ⟨a1, a2, a3, a4, a5, a6⟩ := h r i b h1 h2 hb
    have hr : r = 0 := by
      rcases (by omega : r = 0 ∨ r = 1 ∨ r = 2) with rfl | rfl | rfl
      · rfl
      · have := a5 rfl; omega
      · have := a4 rfl; omega
    subst hr
    rw [wide0] at a1
    obtain rfl : i = n % 16 := by omega
    exact hb
theorem Pm.finish {L : Lists} {tk : Nat → Nat} {n : Nat} (h : Pm 0 L tk n) : Pl (up2 L 0 (n % 16) []) tk n := fun r i b h1 h2 hb => by
  by_cases e : r = 0 ∧ i = n % 16
  · obtain ⟨rfl, rfl⟩ := e
    rw [up2_same] at hb
    cases hb
  · rw [up2_other _ _ e] at hb
    obtain ⟨a1, a2, a3, a4, a5, a6⟩ := h r i b h1 h2 hb
    refine ⟨?_, a1, ?_, by omega⟩
    · rw [hmR2]
      rcases (by omega : r = 0 ∨ r = 1 ∨ r = 2) with rfl | rfl | rfl
      · have := a6 rfl
        rw [if_pos (by omega), if_pos this.1]
      · have := a5 rfl
        rw [if_pos this.1, if_neg (by omega)]
      · have := a4 rfl
        rw [if_neg (by omega)]
    · by_cases e' : tk b = n
      · exfalso
        have hx := (h.due b).2 ⟨⟨r, i, h1, h2, hb⟩, e'⟩
        exact e (h.dj (by omega) r i 0 (n % 16) h1 h2 (by omega) (by omega) b hb hx)
      · omega

/-- What stands in the lists is the same behind the pouring. -/
theorem Poured.inL {r i : Nat} (hr : r < 2) (hi : i < 16) {L L' : Lists} {tk : Nat → Nat} (hp : Poured r i L L' tk) (b : Nat) : InL L' b ↔ InL L b := by
  obtain ⟨p1, p2, p3⟩ := hp
  constructor
  · rintro ⟨r', i', h1, h2, hb⟩
    by_cases e : r' = r
    · subst e
      rcases (p3 i' b h2).1 hb with h | ⟨h, _⟩
      · exact ⟨_, i', h1, h2, h⟩
      · exact ⟨_, i, by omega, hi, h⟩
    · by_cases e' : r' = r + 1 ∧ i' = i
      · obtain ⟨rfl, rfl⟩ := e'
        rw [p2] at hb
        cases hb
      · rw [p1 r' i' e e'] at hb
        exact ⟨r', i', h1, h2, hb⟩
  · rintro ⟨r', i', h1, h2, hb⟩
    by_cases e : r' = r
    · subst e
      exact ⟨_, i', h1, h2, (p3 i' b h2).2 (.inl hb)⟩
    · by_cases e' : r' = r + 1 ∧ i' = i
      · obtain ⟨rfl, rfl⟩ := e'
        have h16 : tk b / wide r % 16 < 16 := Nat.mod_lt _ (by decide)
        exact ⟨r, _, by omega, h16, (p3 _ b h16).2 (.inr ⟨hb, rfl⟩)⟩
      · refine ⟨r', i', h1, h2, ?_⟩
        rw [p1 r' i' e e']
        exact hb

/-- A list without repetitions within another one is no longer. -/
theorem nodup_len : ∀ (xs ys : List Nat), xs.Nodup → (∀ x ∈ xs, x ∈ ys) → xs.length ≤ ys.length
  | [], _, _, _ => Nat.zero_le _
  | x :: xs, ys, hn, hs => by
    have hx := hs x (List.mem_cons_self ..)
    have h1 := List.length_erase_of_mem hx
    have hpos : 0 < ys.length := List.length_pos_of_mem hx
    rw [List.nodup_cons] at hn
    have := nodup_len xs (ys.erase x) hn.2 fun y hy => (List.mem_erase_of_ne (fun e => hn.1 (by rw [← e]; exact hy))).2 (hs y (List.mem_cons_of_mem _ hy))
    rw [List.length_cons]
    omega

end Go.Proofs.YtlcegchdkigibaaGreatDoor.LW
