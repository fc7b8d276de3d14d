/- Words of our own for memory, without any program: what it says that a slice value holds given bytes, and that this stays where only new memory has been written. No condition. -/
import Derived.Below
import Derived.Laws.OwnMore
import Derived.Deep.Draws
import Derived.OwnWalk
import Derived.WalkSmall
import Derived.Lib.Hide
namespace Go.Proofs.YtpjjamlblnphdaaDoor
set_option linter.unusedVariables false
set_option linter.unusedSimpArgs false
open Go.RowKit

/-- The bytes l, as the cells of a row hold them. -/
def bv (l : List UInt8) : List Value := l.map fun x => .int .u8 (x.toNat : Int)
theorem bv_length (l : List UInt8) : (bv l).length = l.length := by simp [bv]
theorem bv_append (l r : List UInt8) : bv (l ++ r) = bv l ++ bv r := by simp [bv]
theorem bv_get (l : List UInt8) (j : Nat) (u : Value) (h : (bv l)[j]? = some u) : j < l.length ∧ u = .int .u8 ((l.getD j 0).toNat : Int) := by
  simp only [bv, List.getElem?_map, Option.map_eq_some_iff] at h
  obtain ⟨x, hx, rfl⟩ := h
  obtain ⟨hj, rfl⟩ := List.getElem?_eq_some_iff.1 hx
  exact ⟨hj, by simp [hj]⟩
theorem bv_at (l : List UInt8) (j : Nat) (h : j < l.length) : (bv l)[j]? = some (.int .u8 ((l.getD j 0).toNat : Int)) := by
  simp [bv, h]
theorem bv_one (l : List UInt8) : ∀ u ∈ bv l, u.oneCell' = true := by
  intro u hu
  obtain ⟨x, _, rfl⟩ := List.mem_map.1 hu
  rfl

/-- The slice '.slice A n c' holds the bytes l in w. -/
def RB (w : World) (A : Option Addr) (n c : Nat) (l : List UInt8) : Prop :=
  l.length = n ∧ n ≤ c ∧ c ≤ maxLen ∧ (0 < n → ∃ b o, A = some ⟨b, o, none⟩ ∧ ∀ j, j < n → w.cell? ⟨b, o + j, none⟩ = some (.int .u8 ((l.getD j 0).toNat : Int)))

section
variable {w w' : World} {A : Option Addr} {n c : Nat} {l : List UInt8}
theorem RB.len (h : RB w A n c l) : l.length = n := h.1
theorem RB.cap (h : RB w A n c l) : n ≤ c := h.2.1
theorem RB.max (h : RB w A n c l) : c ≤ 9223372036854775807 := by have := h.2.2.1; unfold maxLen at this; omega
theorem RB.at_ (h : RB w A n c l) {j : Nat} (hj : j < n) : ∃ b o, A = some ⟨b, o, none⟩ ∧ w.cell? ⟨b, o + j, none⟩ = some (.int .u8 ((l.getD j 0).toNat : Int)) := by
  obtain ⟨b, o, e, hc⟩ := h.2.2.2 (by omega)
  exact ⟨b, o, e, hc j hj⟩
theorem RB.nil_ (w : World) : RB w none 0 0 [] := ⟨rfl, Nat.le_refl _, Nat.zero_le _, fun h => absurd h (by omega)⟩
theorem RB.zero (w : World) (A : Option Addr) (hc : c ≤ maxLen) : RB w A 0 c [] := ⟨rfl, Nat.zero_le _, hc, fun h => absurd h (by omega)⟩
theorem RB.keep (h : RB w A n c l) (hk : ∀ p : Addr, p.block < w.heap.size → w'.cell? p = w.cell? p) : RB w' A n c l :=
  ⟨h.1, h.2.1, h.2.2.1, fun hn => by
    obtain ⟨b, o, e, hc⟩ := h.2.2.2 hn
    exact ⟨b, o, e, fun j hj => (hk _ (World.block_lt_of_cell? w _ (hc j hj))).trans (hc j hj)⟩⟩
theorem RB.below (h : RB w A n c l) (hb : Below w.heap.size w w') : RB w' A n c l := h.keep fun _ hp => hb.cell hp
theorem RB.drew (h : RB w A n c l) : RB w.drew A n c l := h
theorem RB.drewN (h : RB w A n c l) (k : Nat) : RB (w.drewN k) A n c l := h
theorem RB.alloc (h : RB w A n c l) (o : Obj) : RB (w.alloc o) A n c l := h.keep fun p hp => World.cell?_alloc_lt w o p hp
theorem RB.take (h : RB w A n c l) {k : Nat} (hk : k ≤ n) : RB w A k c (l.take k) := by
  obtain ⟨h1, h2, h3, h4⟩ := h
  refine ⟨by rw [List.length_take]; omega, by omega, h3, fun hn => ?_⟩
  obtain ⟨b, o, e, hc⟩ := h4 (by omega)
  refine ⟨b, o, e, fun j hj => ?_⟩
  rw [hc j (by omega)]
  simp [hj]
theorem RB.drop (h : RB w A n c l) {k : Nat} (hk : k ≤ n) : RB w (if c = k then A else A.map (·.add k)) (n - k) (c - k) (l.drop k) := by
  obtain ⟨h1, h2, h3, h4⟩ := h
  refine ⟨by rw [List.length_drop]; omega, by omega, by unfold maxLen at h3 ⊢; omega, fun hn => ?_⟩
  obtain ⟨b, o, e, hc⟩ := h4 (by omega)
  rw [if_neg (by omega)]
  refine ⟨b, o + k, by rw [e]; simp [Addr.add_lit], fun j hj => ?_⟩
  rw [show o + k + j = o + (k + j) from by omega, hc (k + j) (by omega)]
  simp
theorem RB.of_own {base : Nat} {e : TypeId} {v : Value} (h : w.ownsRow base e 1 v n (bv l)) : ∃ A c, v = .slice A n c ∧ RB w A n c l ∧ v.ownBlock = A.map (·.block) := by
  have hl : l.length = n := by have := h.1; rw [bv_length] at this; omega
  rcases h.2 with ⟨rfl, rfl⟩ | ⟨g, cap, cur, rfl, hb, hg, hnc, hm, hs, ht⟩
  · obtain rfl : l = [] := List.eq_nil_of_length_eq_zero hl
    exact ⟨none, 0, rfl, RB.nil_ w, rfl⟩
  · refine ⟨_, cap, rfl, ⟨hl, hnc, hm, fun hn => ⟨g, 0, rfl, fun j hj => ?_⟩⟩, rfl⟩
    have := World.ownsRow.cellAt h j (by omega)
    rw [Nat.zero_add, this, bv_at l j (by omega)]
end

/-- What a call that makes memory leaves: all that was there is as it was. -/
theorem old_cells {W w1 : World} (hb : Below W.heap.size W w1) : ∀ b o, b < W.heap.size → w1.cell? ⟨b, o, none⟩ = W.cell? ⟨b, o, none⟩ :=
  fun b o h => hb.cell (p := ⟨b, o, none⟩) h

end Go.Proofs.YtpjjamlblnphdaaDoor
