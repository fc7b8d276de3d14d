/- Words of our own for arrays of words of 32 bits that lie in a block of their own, without any program: what a block holds; what a store of one cell, a new block, another block's writer leaves. No condition. -/
import Derived.Test.YtgkonmjchdpohaaDoorShaN
import Derived.Deep.MidRow
import Derived.Deep.AppendLies
import Derived.Maps.AppendAt
namespace Go.Proofs.YtgkonmjchdpohaaDoor
set_option linter.unusedVariables false
set_option linter.unusedSimpArgs false
open Go.RowKit

/-- Block b holds the words f 0 .. f (n - 1) and may be written. -/
def Arr (w : World) (b n : Nat) (f : Nat → UInt32) : Prop := ∀ j, j < n → w.cell? ⟨b, j, none⟩ = some (c32 (f j)) ∧ w.frozen? ⟨b, j, none⟩ = false
/-- f, but x at k. -/
def put (f : Nat → UInt32) (k : Nat) (x : UInt32) : Nat → UInt32 := fun j => if j = k then x else f j
theorem put_same (f : Nat → UInt32) (k : Nat) (x : UInt32) : put f k x k = x := by simp [put]
theorem put_other (f : Nat → UInt32) (k j : Nat) (x : UInt32) (h : j ≠ k) : put f k x j = f j := by simp [put, h]

section
variable {w w' : World} {b n : Nat} {f : Nat → UInt32}
theorem Arr.lt (h : Arr w b n f) (hn : 0 < n) : b < w.heap.size := World.block_lt_of_cell? w _ (h 0 hn).1
theorem Arr.far {row : Option Nat} (h : Arr w b n f) (hg : w.grownBy w' row) (hne : some b ≠ row) : Arr w' b n f := fun j hj =>
  ⟨(hg.cell_far _ (h.lt (by omega)) hne).trans (h j hj).1, (hg.frozen_far _ (h.lt (by omega)) hne).trans (h j hj).2⟩
theorem Arr.below (h : Arr w b n f) (hb : Below w.heap.size w w') : Arr w' b n f := fun j hj =>
  ⟨(hb.cell (h.lt (by omega))).trans (h j hj).1, (hb.frozen (h.lt (by omega))).trans (h j hj).2⟩
theorem Arr.alloc (h : Arr w b n f) (o : Obj) : Arr (w.alloc o) b n f := h.below ((Below.refl _ _).alloc (Nat.le_refl _) o)
theorem Arr.drew (h : Arr w b n f) : Arr w.drew b n f := h
theorem Arr.drewN (h : Arr w b n f) (k : Nat) : Arr (w.drewN k) b n f := h
theorem Arr.set (h : Arr w b n f) (k : Nat) (x : UInt32) : Arr (w.setCell ⟨b, k, none⟩ (c32 x)) b n (put f k x) := fun j hj => by
  refine ⟨?_, by rw [World.frozen?_setCell]; exact (h j hj).2⟩
  by_cases e : j = k
  · subst e
    rw [put_same]
    exact World.cell?_setCell_same w _ _ (h j hj).1
  · rw [put_other _ _ _ _ e, World.cell?_setCell_other w _ _ _ (by intro h; injection h with _ h; exact e h.symm)]
    exact (h j hj).1
theorem Arr.congr (h : Arr w b n f) {g : Nat → UInt32} (e : ∀ j, j < n → f j = g j) : Arr w b n g := fun j hj => by rw [← e j hj]; exact h j hj

/-- The cells of an array. -/
def cells (n : Nat) (f : Nat → UInt32) : List Value := (List.range n).map fun j => c32 (f j)
theorem cells_length (n : Nat) (f : Nat → UInt32) : (cells n f).length = n := by simp [cells]
theorem cells_at (n : Nat) (f : Nat → UInt32) (j : Nat) (h : j < n) : (cells n f)[j]? = some (c32 (f j)) := by simp [cells, h]
theorem cells_one (n : Nat) (f : Nat → UInt32) : ∀ u ∈ cells n f, u.oneCell' = true := by
  intro u hu
  obtain ⟨x, _, rfl⟩ := List.mem_map.1 hu
  rfl
theorem Arr.range (h : Arr w b n f) : w.rangeAt b 0 (cells n f) := fun j v hv => by
  have hj : j < n := by have := (List.getElem?_eq_some_iff.1 hv).1; rwa [cells_length] at this
  rw [cells_at n f j hj] at hv
  rw [← hv, Nat.zero_add]
  exact (h j hj).1
theorem Arr.there (h : Arr w b n f) : w.there b 0 n := fun j hj => by
  rw [Nat.zero_add, (h j hj).1]
  exact ⟨rfl, (h j hj).2⟩
/-- A new block of words. -/
theorem Arr.new (w : World) (cs : List Value) (t : TypeId) (n : Nat) (f : Nat → UInt32) (h : ∀ j, j < n → cs[j]? = some (c32 (f j))) : Arr (w.alloc (.cells cs.toArray t)) w.heap.size n f := fun j hj => by
  refine ⟨?_, World.frozen?_alloc_at _ t _ j rfl⟩
  rw [cell_of_row _ w.heap.size j _ t (0, 0) (heap_alloc_new w _), List.getElem?_toArray]
  exact h j hj
end

/-- A new block of zeros. -/
theorem Arr.zero (w : World) (n : Nat) (t : TypeId) : Arr (w.alloc (.cells (List.replicate n (Value.int .u32 0)).toArray t)) w.heap.size n (fun _ => 0) :=
  Arr.new w _ t n _ fun j hj => by simp [hj]
theorem below_setCells {B : Nat} {a : World} (b : Nat) (hb : B ≤ b) : ∀ (vs : List Value) (o : Nat) (w : World), Below B a w → Below B a (w.setCells b o vs)
  | [], _, _, h => h
  | v :: r, o, w, h => below_setCells b hb r (o + 1) _ (h.setCell (p := ⟨b, o, none⟩) hb v)
/-- An array that a call answers out of its own block. -/
theorem results_cell_mid {P : Program} {fn : Func} {p : Tmp} {ty : TypeId} (h : fn.results = #[.cell p ty]) (tmps : Array Value) (w : World) (g : Nat) (cs : List Value) (d : TypeDesc)
    (hp : tmps.getD p undef = .pointer (some ⟨g, 0, none⟩)) (hc : w.rangeAt g 0 cs) (hu : P.underlying ty = some d) (hd : d.isRow = true) (hi : (P.info? ty).map (·.size) = some cs.length) :
    (results fn tmps).run P w = .ok (.agg cs.toArray) w := by
  have hp' : tmps[p]?.getD undef = .pointer (some ⟨g, 0, none⟩) := by simpa using hp
  simp [results, h, hp', asAddr, run_loadVar_mid w g 0 ty cs d hc hu hd hi]
theorem g_refl (w : World) (row : Option Nat) : w.grownBy w row := ⟨rfl, rfl, rfl, Nat.le_refl _, fun _ _ _ => rfl⟩
theorem g_drew (w : World) (row : Option Nat) : w.grownBy w.drew row := ⟨rfl, rfl, rfl, Nat.le_refl _, fun _ _ _ => rfl⟩
theorem g_drewN (w : World) (n : Nat) (row : Option Nat) : w.grownBy (w.drewN n) row := ⟨rfl, rfl, rfl, Nat.le_refl _, fun _ _ _ => rfl⟩
theorem g_alloc (w : World) (o : Obj) (row : Option Nat) : w.grownBy (w.alloc o) row := ⟨rfl, rfl, rfl, by simp, fun k hk _ => Below.heap_alloc _ _ _ hk⟩
theorem g_set (w : World) (b k : Nat) (v : Value) : w.grownBy (w.setCell ⟨b, k, none⟩ v) (some b) := ⟨rfl, rfl, rfl, by simp [World.setCell], fun i _ hi => Below.heap_setCell _ _ _ _ (fun e => hi (by rw [e]))⟩
theorem g_setCells (b : Nat) : ∀ (vs : List Value) (o : Nat) (w : World), w.grownBy (w.setCells b o vs) (some b)
  | [], _, w => g_refl w _
  | v :: r, o, w => (g_set w b o v).trans (g_setCells b r (o + 1) _)
/-- A block that was there, written whole. -/
theorem Arr.whole {w : World} {b n : Nat} {g : Nat → UInt32} (h : Arr w b n g) (f : Nat → UInt32) : Arr (w.setCells b 0 (cells n f)) b n f := fun j hj => by
  have h1 := World.rangeAt_setCells_same w b 0 (cells n f) (by rw [cells_length]; exact h.there) j _ (cells_at n f j hj)
  rw [Nat.zero_add] at h1
  exact ⟨h1, by rw [World.frozen?_setCells]; exact (h j hj).2⟩
theorem cells_get (n : Nat) (f : Nat → UInt32) (j : Nat) (h : j < n) : (cells n f).toArray[j]? = some (c32 (f j)) := by simp [cells, h]
/-- The first k of S's words, f's added. -/
def ad (S f : Nat → UInt32) (k : Nat) : Nat → UInt32 := fun i => if i < k then S i + f i else S i
theorem ad_zero (S f : Nat → UInt32) : ad S f 0 = S := by funext i; simp [ad]
theorem ad_step (S f : Nat → UInt32) (k : Nat) : put (ad S f k) k (S k + f k) = ad S f (k + 1) := by
  funext i
  unfold put ad
  by_cases h : i = k
  · subst h; simp
  · by_cases h2 : i < k
    · simp [h, h2, Nat.lt_succ_of_lt h2]
    · simp [h, h2, show ¬ i < k + 1 by omega]
theorem g_below {w w' : World} (h : Below w.heap.size w w') (row : Option Nat) : w.grownBy w' row := ⟨h.os, h.tape, h.output, h.size, fun k hk _ => h.block k hk⟩
theorem below_g {B : Nat} {a w w' : World} {b : Nat} (h : Below B a w) (hg : w.grownBy w' (some b)) (hB : B ≤ w.heap.size) (hb : B ≤ b) : Below B a w' := h.grown hg hB fun k hk => by injection hk with hk; omega

/-- Where name i stands in round t. -/
def at8 (i t : Nat) : Nat := (i + 64 - t) % 8
theorem at8_lt (i t : Nat) : at8 i t < 8 := Nat.mod_lt _ (by omega)
/-- The words behind round t. -/
def rsum (f : Nat → UInt32) (t : Nat) (n : UInt32) : UInt32 := n + (f (at8 7 t) + rrs [6, 11, 25] (f (at8 4 t)) + ch (f (at8 4 t)) (f (at8 5 t)) (f (at8 6 t)))
def rnd (f : Nat → UInt32) (t : Nat) (n : UInt32) : Nat → UInt32 :=
  put (put f (at8 3 t) (f (at8 3 t) + rsum f t n)) (at8 7 t) (rsum f t n + rrs [2, 13, 22] (f (at8 0 t)) + mj (f (at8 0 t)) (f (at8 1 t)) (f (at8 2 t)))


end Go.Proofs.YtgkonmjchdpohaaDoor
