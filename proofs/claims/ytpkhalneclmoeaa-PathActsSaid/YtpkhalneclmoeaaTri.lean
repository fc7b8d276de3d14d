/- Rows of structs of three whole numbers, as arguments are read. No condition. -/
import Derived.Test.YtpkhalneclmoeaaMem
import Derived.OpenShut
import Derived.Deep.Slices
import Derived.ChangeOld
import Derived.ProofKit
namespace Go.Proofs.Ytpkhalneclmoeaa
set_option linter.unusedVariables false
set_option linter.unusedSimpArgs false
open Go.RowKit Go.ChangeShapes Go.WideShapes Go.Deep

def B64 (x : Int) : Prop := -9223372036854775808 ≤ x ∧ x ≤ 9223372036854775807
def z3 : Int × Int × Int := (0, 0, 0)

/-- A slice of n structs of three whole numbers each. -/
structure Tri (w : World) (A : Option Addr) (n c : Nat) (l : List (Int × Int × Int)) : Prop where
  len : l.length = n
  cap : n ≤ c
  max : c ≤ 9223372036854775807
  ok : ∀ x ∈ l, B64 x.1 ∧ B64 x.2.1 ∧ B64 x.2.2
  mem : 0 < n → ∃ g o, A = some ⟨g, o, none⟩ ∧ ∀ j, j < n → w.cell? ⟨g, o + j * 3, none⟩ = some (.int .i64 (l.getD j z3).1) ∧ w.cell? ⟨g, o + j * 3 + 1, none⟩ = some (.int .i64 (l.getD j z3).2.1) ∧ w.cell? ⟨g, o + j * 3 + 2, none⟩ = some (.int .i64 (l.getD j z3).2.2)

theorem Tri.below {w w' : World} {A : Option Addr} {n c : Nat} {l : List (Int × Int × Int)} (h : Tri w A n c l) (b : Below w.heap.size w w') : Tri w' A n c l := by
  refine ⟨h.len, h.cap, h.max, h.ok, fun hn => ?_⟩
  obtain ⟨g, o, e, hc⟩ := h.mem hn
  have hk : ∀ p v, w.cell? p = some v → w'.cell? p = some v := fun p v hp => (World.cell?_of_block (b.block _ (World.block_lt_of_cell? _ _ hp))).trans hp
  exact ⟨g, o, e, fun j hj => ⟨hk _ _ (hc j hj).1, hk _ _ (hc j hj).2.1, hk _ _ (hc j hj).2.2⟩⟩

section
variable {H : Type} {enc : TypeId × Value → H} {P : Program} {w : World} {base : Nat} {spare : Nat → Bool} {held : Bool}
/-- The three cells that are read as such a struct. -/
theorem tri_of_trod {fs : Array Field} {t ti : TypeId} {fuel : Nat} {cs : List Value} {x : DataW H × List MemPlace} (ht : P.underlying t = some (.struct fs)) (hi : P.underlying ti = some (.int .i64)) (hc : P.cellsOf ti = 1)
    (hf : [fs[0]?, fs[1]?, fs[2]?, fs[3]?].map (fun o => o.map fun f => (f.type, f.offset)) = [some (ti, 0), some (ti, 1), some (ti, 2), none]) (hl : cs.length = 3) (h : DataW.trod enc P w base spare held fuel t cs = some x) : ∃ a b c : Int, B64 a ∧ B64 b ∧ B64 c ∧ cs = [.int .i64 a, .int .i64 b, .int .i64 c] := by
  obtain ⟨xs, n, _, _, _, hlen, hg⟩ := DataW.trod_struct ht h
  simp only [List.map_cons, List.map_nil, List.cons.injEq, and_true, Option.map_eq_some_iff, Option.map_eq_none_iff, Prod.mk.injEq] at hf
  obtain ⟨⟨f0, p0, t0, o0⟩, ⟨f1, p1, t1, o1⟩, ⟨f2, p2, t2, o2⟩, p3⟩ := hf
  have hs : fs.size = 3 := by
    have h2 := (Array.getElem?_eq_some_iff.1 p2).1
    have h3 := Array.getElem?_eq_none_iff.1 p3
    omega
  have get : ∀ (i : Nat), i < 3 → ∃ y, xs[i]? = some y := fun i hi => ⟨_, List.getElem?_eq_getElem (by rw [hlen, hs]; exact hi)⟩
  match cs, hl with
  | [c0, c1, c2], _ =>
    obtain ⟨y0, e0⟩ := get 0 (by omega)
    obtain ⟨y1, e1⟩ := get 1 (by omega)
    obtain ⟨y2, e2⟩ := get 2 (by omega)
    have g0 := hg 0 _ p0
    have g1 := hg 1 _ p1
    have g2 := hg 2 _ p2
    rw [e0, t0, o0, hc] at g0
    rw [e1, t1, o1, hc] at g1
    rw [e2, t2, o2, hc] at g2
    obtain ⟨a0, q0, _, w0⟩ := DataW.trod_int hi g0
    obtain ⟨a1, q1, _, w1⟩ := DataW.trod_int hi g1
    obtain ⟨a2, q2, _, w2⟩ := DataW.trod_int hi g2
    obtain rfl : c0 = .int .i64 a0 := by have q : [c0] = _ := q0; injection q
    obtain rfl : c1 = .int .i64 a1 := by have q : [c1] = _ := q1; injection q
    obtain rfl : c2 = .int .i64 a2 := by have q : [c2] = _ := q2; injection q
    exact ⟨a0, a1, a2, Go.bounds_i64 w0, Go.bounds_i64 w1, Go.bounds_i64 w2, rfl⟩
theorem tris_of_trod {fs : Array Field} {t e ti : TypeId} {fuel : Nat} {A : Option Addr} {n c : Nat} {x : DataW H × List MemPlace} (hs : P.underlying t = some (.slice e)) (ht : P.underlying e = some (.struct fs)) (hi : P.underlying ti = some (.int .i64)) (hc : P.cellsOf ti = 1)
    (hf : [fs[0]?, fs[1]?, fs[2]?, fs[3]?].map (fun o => o.map fun f => (f.type, f.offset)) = [some (ti, 0), some (ti, 1), some (ti, 2), none]) (hC : P.cellsOf e = 3) (h : DataW.trod enc P w base (fun _ => true) held fuel t [.slice A n c] = some x) : ∃ l, Tri w A n c l := by
  rcases open_slice hs h with ⟨hcs, _⟩ | ⟨a, len, cap, m, k, D, Pl, hcs, _, hl, hm, hmm, _, hit⟩
  · simp at hcs
    obtain ⟨rfl, rfl, rfl⟩ := hcs
    exact ⟨[], rfl, Nat.le_refl _, Nat.zero_le _, by simp, fun h => absurd h (by omega)⟩
  · simp at hcs
    obtain ⟨rfl, rfl, rfl⟩ := hcs
    have hm' : m = c := by simpa using hmm
    subst hm'
    rw [hC] at hit
    have hx : ∀ i, ∃ o : Int × Int × Int, i < n → (B64 o.1 ∧ B64 o.2.1 ∧ B64 o.2.2) ∧ ∀ j, j < 3 → w.cell? ((a.add (i * 3)).add j) = ([.int .i64 o.1, .int .i64 o.2.1, .int .i64 o.2.2] : List Value)[j]? := fun i => by
      by_cases hin : i < n
      · obtain ⟨cs', hc', htr⟩ := hit i (by omega)
        obtain ⟨_, hcl, hat⟩ := World.cells?_some hc'
        obtain ⟨a0, a1, a2, b0, b1, b2, rfl⟩ := tri_of_trod ht hi hc hf hcl htr
        exact ⟨(a0, a1, a2), fun _ => ⟨⟨b0, b1, b2⟩, fun j hj => hat j hj⟩⟩
      · exact ⟨z3, fun h => absurd h hin⟩
    obtain ⟨f, hfx⟩ := Classical.axiomOfChoice hx
    refine ⟨(List.range n).map f, by simp, hl, hm, fun o ho => ?_, fun hn => ?_⟩
    · obtain ⟨i, hi', rfl⟩ := List.mem_map.1 ho
      exact (hfx i (List.mem_range.1 hi')).1
    · obtain ⟨b, o, s⟩ := a
      have h0 := (hfx 0 hn).2 0 (by omega)
      have hsn : s = none := by
        have := World.cell?_spot (h0.trans (List.getElem?_eq_getElem (by simp)))
        simpa [Addr.add] using this
      subst hsn
      refine ⟨b, o, rfl, fun j hj => ?_⟩
      have e : ((List.range n).map f).getD j z3 = f j := by simp [hj]
      rw [e]
      have k0 := (hfx j hj).2 0 (by omega)
      have k1 := (hfx j hj).2 1 (by omega)
      have k2 := (hfx j hj).2 2 (by omega)
      rw [Addr.add_lit, Addr.add_lit] at k0 k1 k2
      exact ⟨k0, k1, k2⟩
end
end Go.Proofs.Ytpkhalneclmoeaa
