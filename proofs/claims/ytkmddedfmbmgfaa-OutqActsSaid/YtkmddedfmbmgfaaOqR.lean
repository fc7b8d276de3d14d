/- Rows of pieces that a law keeps beside a queue. No condition. -/
import Derived.Test.YtkmddedfmbmgfaaOqO
namespace Go.Proofs.Ytkmddedfmbmgfaa
set_option linter.unusedVariables false
set_option linter.unusedSimpArgs false
open Go.RowKit

/-- A row of a law's own that says ks. -/
structure Bag (W w : World) (u : Value) (r : List Pc) (ks : List Ky) : Prop where
  own : w.ownsRow W.heap.size 33 6 u ks.length (pv r)
  ok : ∀ p ∈ r, PO W.heap.size w p
  ky : r.map Pc.key = ks
/-- The blocks in which it lies. -/
def Bb (u : Value) (r : List Pc) (g : Nat) : Prop := u.ownBlock = some g ∨ ∃ p ∈ r, p.blk = some g
section
variable {W w w' : World} {u : Value} {r : List Pc} {ks : List Ky}
theorem Bag.nil_ (W w : World) : Bag W w (.slice none 0 0) [] [] := ⟨World.ownsRow_nil _ _ _ _, (fun p hp => by cases hp), rfl⟩
theorem bb_nil (g : Nat) : ¬ Bb (.slice none 0 0) [] g := by
  rintro (h | ⟨p, hp, _⟩)
  · cases h
  · cases hp
theorem Bag.row (h : Bag W w u r ks) : Row w W.heap.size u r := (Row.of_own h.own).1
theorem Bag.len (h : Bag W w u r ks) : r.length = ks.length := (Row.of_own h.own).2
theorem Bag.in_ (h : Bag W w u r ks) {g : Nat} (hg : Bb u r g) : W.heap.size ≤ g ∧ g < w.heap.size := by
  rcases hg with hg | ⟨p, hp, hg⟩
  · exact h.row.in_ hg
  · exact (h.ok p hp).lt hg
theorem Bag.frame (h : Bag W w u r ks) {m : Nat → Prop} (c : Ch w w' m) (hm : ∀ g, Bb u r g → ¬ m g) : Bag W w' u r ks :=
  ⟨own_ch2 h.own c (fun g hg => hm g (.inl hg)), fun p hp => (h.ok p hp).ch c (fun g hg => hm g (.inr ⟨p, hp, hg⟩)), h.ky⟩
theorem Bag.below (h : Bag W w u r ks) (b : Below w.heap.size w w') : Bag W w' u r ks := h.frame (Ch.of_below (fun _ => False) b) (fun _ _ e => e)
theorem Bag.ps (h : Bag W w u r ks) : ∃ A c, u = .slice A ks.length c ∧ ks.length ≤ c ∧ c ≤ 9223372036854775807 ∧ PS w A ks.length c r := by
  have hl := h.len
  obtain ⟨A, c, rfl, h1, h2⟩ := h.row.slice
  rw [hl] at *
  exact ⟨A, c, rfl, h1, h2, h.row.ps (fun p hp => (h.ok p hp).pg)⟩
/-- Pieces appended. -/
theorem Bag.app {u' : Value} {qs : List Pc} {gs : List Ky} (h : Bag W w u r ks) (hq : ∀ p ∈ qs, PO W.heap.size w p) (hk : qs.map Pc.key = gs) (o' : w'.ownsRow W.heap.size 33 6 u' (ks.length + gs.length) (pv (r ++ qs))) (g : w.grownBy w' u.ownBlock) : Bag W w' u' (r ++ qs) (ks ++ gs) := by
  refine ⟨by rw [List.length_append]; exact o', fun p hp => ?_, by rw [List.map_append, h.ky, hk]⟩
  rcases List.mem_append.1 hp with hp | hp
  · exact (h.ok p hp).beside h.row g
  · exact (hq p hp).beside h.row g
/-- Its blocks then. -/
theorem bb_app {u' : Value} {qs : List Pc} (o : u'.ownBlock = u.ownBlock ∨ u'.ownBlock = some w.heap.size) {g : Nat} (hg : Bb u' (r ++ qs) g) : Bb u r g ∨ g = w.heap.size ∨ ∃ p ∈ qs, p.blk = some g := by
  rcases hg with hg | ⟨p, hp, hg⟩
  · rcases o with e | e
    · exact .inl (.inl (e ▸ hg))
    · rw [e] at hg
      injection hg with hg
      exact .inr (.inl hg.symm)
  · rcases List.mem_append.1 hp with hp | hp
    · exact .inl (.inr ⟨p, hp, hg⟩)
    · exact .inr (.inr ⟨p, hp, hg⟩)
theorem bag_ch (g : w.grownBy w' u.ownBlock) : Ch w w' (fun k => u.ownBlock = some k) := Ch.grown (m := fun k => u.ownBlock = some k) (Ch.refl w _) g (fun k e _ => e)
end
end Go.Proofs.Ytkmddedfmbmgfaa
