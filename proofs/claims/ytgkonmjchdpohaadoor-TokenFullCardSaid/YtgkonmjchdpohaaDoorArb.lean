/- The words of Arr for arrays of bytes, without any program. No condition. -/
import Derived.Test.YtgkonmjchdpohaaDoorArr
namespace Go.Proofs.YtgkonmjchdpohaaDoor
set_option linter.unusedVariables false
set_option linter.unusedSimpArgs false
open Go.RowKit

abbrev c8 (x : UInt8) : Value := .int .u8 (x.toNat : Int)
/-- Block b holds the bytes f 0 .. f (n - 1) and may be written. -/
def Arb (w : World) (b n : Nat) (f : Nat → UInt8) : Prop := ∀ j, j < n → w.cell? ⟨b, j, none⟩ = some (c8 (f j)) ∧ w.frozen? ⟨b, j, none⟩ = false
def putb (f : Nat → UInt8) (k : Nat) (x : UInt8) : Nat → UInt8 := fun j => if j = k then x else f j
theorem putb_same (f : Nat → UInt8) (k : Nat) (x : UInt8) : putb f k x k = x := by simp [putb]
theorem putb_other (f : Nat → UInt8) (k j : Nat) (x : UInt8) (h : j ≠ k) : putb f k x j = f j := by simp [putb, h]
section
variable {w w' : World} {b n : Nat} {f : Nat → UInt8}
theorem Arb.lt (h : Arb w b n f) (hn : 0 < n) : b < w.heap.size := World.block_lt_of_cell? w _ (h 0 hn).1
theorem Arb.far {row : Option Nat} (h : Arb w b n f) (hg : w.grownBy w' row) (hne : some b ≠ row) : Arb w' b n f := fun j hj =>
  ⟨(hg.cell_far _ (h.lt (by omega)) hne).trans (h j hj).1, (hg.frozen_far _ (h.lt (by omega)) hne).trans (h j hj).2⟩
theorem Arb.below (h : Arb w b n f) (hb : Below w.heap.size w w') : Arb w' b n f := h.far (g_below hb none) (by simp)
theorem Arb.set (h : Arb w b n f) (k : Nat) (x : UInt8) : Arb (w.setCell ⟨b, k, none⟩ (c8 x)) b n (putb f k x) := fun j hj => by
  refine ⟨?_, by rw [World.frozen?_setCell]; exact (h j hj).2⟩
  by_cases e : j = k
  · subst e
    rw [putb_same]
    exact World.cell?_setCell_same w _ _ (h j hj).1
  · rw [putb_other _ _ _ _ e, World.cell?_setCell_other w _ _ _ (by intro h; injection h with _ h; exact e h.symm)]
    exact (h j hj).1
theorem Arb.congr (h : Arb w b n f) {g : Nat → UInt8} (e : ∀ j, j < n → f j = g j) : Arb w b n g := fun j hj => by rw [← e j hj]; exact h j hj
/-- The bytes' cells. -/
theorem bv_range (n : Nat) (f : Nat → UInt8) (j : Nat) (h : j < n) : (bv ((List.range n).map f))[j]? = some (c8 (f j)) := by simp [bv, h]
theorem Arb.range (h : Arb w b n f) : w.rangeAt b 0 (bv ((List.range n).map f)) := fun j v hv => by
  have hj : j < n := by have := (List.getElem?_eq_some_iff.1 hv).1; simpa [bv] using this
  rw [bv_range n f j hj] at hv
  rw [← hv, Nat.zero_add]
  exact (h j hj).1
theorem Arb.there (h : Arb w b n f) : w.there b 0 n := fun j hj => by
  rw [Nat.zero_add, (h j hj).1]
  exact ⟨rfl, (h j hj).2⟩
theorem Arb.zero (w : World) (n : Nat) (t : TypeId) : Arb (w.alloc (.cells (List.replicate n (Value.int .u8 0)).toArray t)) w.heap.size n (fun _ => 0) := fun j hj => by
  refine ⟨?_, World.frozen?_alloc_at _ t _ j rfl⟩
  rw [cell_of_row _ w.heap.size j _ t (0, 0) (heap_alloc_new w _), List.getElem?_toArray]
  simp [hj]
/-- An array of bytes, sliced whole or in part, holds its bytes. -/
theorem RB.of_range {l : List UInt8} {k n : Nat} (h : w.rangeAt b 0 (bv l)) (hk : k ≤ l.length) (hn : k ≤ n) (hm : n ≤ maxLen) : RB w (some ⟨b, 0, none⟩) k n (l.take k) := by
  refine ⟨by rw [List.length_take]; omega, hn, hm, fun _ => ⟨b, 0, rfl, fun j hj => ?_⟩⟩
  rw [h j _ (bv_at l j (by omega))]
  simp [hj]
end
end Go.Proofs.YtgkonmjchdpohaaDoor
