/- A segment as an argument that is read as data: what its cells are like. No condition. -/
import Derived.Test.YtnpkmkjenlhkiaaFlP
import Derived.OpenShut
import Derived.Deep.Slices
import Derived.ChangeOld
import Derived.ProofKit
namespace Go.Proofs.Ytnpkmkjenlhkiaa
set_option linter.unusedVariables false
set_option linter.unusedSimpArgs false
set_option maxRecDepth 20000
open Go.RowKit Go.ChangeShapes Go.WideShapes Go.Deep

/-- A segment's cells, of which the last two are slices. -/
structure Sw (vs : List Value) : Prop where
  sv : Sv vs
  opts : ∃ A n c, vs[11]? = some (.slice A n c)
  data : ∃ A n c, vs[12]? = some (.slice A n c)
section
variable {H : Type} {enc : TypeId × Value → H} {w : World} {base : Nat} {held : Bool}
theorem slice_cell (t e : TypeId) (ht : Try.prog.underlying t = some (.slice e)) {fuel : Nat} {v : Value} {x : DataW H × List MemPlace} (h : DataW.trod enc Try.prog w base (fun _ => true) held fuel t [v] = some x) : ∃ A n c, v = .slice A n c := by
  rcases open_slice ht h with ⟨hcs, _⟩ | ⟨a, len, cap, m, k, D, Pl, hcs, _⟩
  · simp at hcs
    exact ⟨_, _, _, hcs⟩
  · simp at hcs
    exact ⟨_, _, _, hcs⟩
theorem sw_of_trod {fuel : Nat} {cs : List Value} {x : DataW H × List MemPlace} (hl : cs.length = 13) (h : DataW.trod enc Try.prog w base (fun _ => true) held fuel 47 cs = some x) : Sw cs := by
  obtain ⟨xs, n, _, _, _, hlen, hg⟩ := DataW.trod_struct Try.underlying47 h
  have get : ∀ (i : Nat), i < 13 → ∃ y, xs[i]? = some y := fun i hi => ⟨_, List.getElem?_eq_getElem (by rw [hlen]; exact hi)⟩
  match cs, hl with
  | [c0, c1, c2, c3, c4, c5, c6, c7, c8, c9, c10, c11, c12], _ =>
    obtain ⟨y0, e0⟩ := get 0 (by omega)
    have g0 := hg 0 _ rfl
    rw [e0] at g0
    obtain ⟨a0, q0, _, f0⟩ := DataW.trod_int Try.underlying3 g0
    obtain rfl : c0 = .int .i64 a0 := by have q : [c0] = _ := q0; injection q
    obtain ⟨y1, e1⟩ := get 1 (by omega)
    have g1 := hg 1 _ rfl
    rw [e1] at g1
    obtain ⟨a1, q1, _, f1⟩ := DataW.trod_int Try.underlying3 g1
    obtain rfl : c1 = .int .i64 a1 := by have q : [c1] = _ := q1; injection q
    obtain ⟨y2, e2⟩ := get 2 (by omega)
    have g2 := hg 2 _ rfl
    rw [e2] at g2
    obtain ⟨a2, q2, _, f2⟩ := DataW.trod_int Try.underlying3 g2
    obtain rfl : c2 = .int .i64 a2 := by have q : [c2] = _ := q2; injection q
    obtain ⟨y3, e3⟩ := get 3 (by omega)
    have g3 := hg 3 _ rfl
    rw [e3] at g3
    obtain ⟨a3, q3, _, f3⟩ := DataW.trod_int Try.underlying3 g3
    obtain rfl : c3 = .int .i64 a3 := by have q : [c3] = _ := q3; injection q
    obtain ⟨y4, e4⟩ := get 4 (by omega)
    have g4 := hg 4 _ rfl
    rw [e4] at g4
    obtain ⟨a4, q4, _, f4⟩ := DataW.trod_int Try.underlying22 g4
    obtain rfl : c4 = .int .u32 a4 := by have q : [c4] = _ := q4; injection q
    obtain ⟨y5, e5⟩ := get 5 (by omega)
    have g5 := hg 5 _ rfl
    rw [e5] at g5
    obtain ⟨a5, q5, _, f5⟩ := DataW.trod_int Try.underlying22 g5
    obtain rfl : c5 = .int .u32 a5 := by have q : [c5] = _ := q5; injection q
    obtain ⟨y6, e6⟩ := get 6 (by omega)
    have g6 := hg 6 _ rfl
    rw [e6] at g6
    obtain ⟨a6, q6, _⟩ := DataW.trod_bool Try.underlying4 g6
    obtain rfl : c6 = .bool a6 := by have q : [c6] = _ := q6; injection q
    obtain ⟨y7, e7⟩ := get 7 (by omega)
    have g7 := hg 7 _ rfl
    rw [e7] at g7
    obtain ⟨a7, q7, _⟩ := DataW.trod_bool Try.underlying4 g7
    obtain rfl : c7 = .bool a7 := by have q : [c7] = _ := q7; injection q
    obtain ⟨y8, e8⟩ := get 8 (by omega)
    have g8 := hg 8 _ rfl
    rw [e8] at g8
    obtain ⟨a8, q8, _⟩ := DataW.trod_bool Try.underlying4 g8
    obtain rfl : c8 = .bool a8 := by have q : [c8] = _ := q8; injection q
    obtain ⟨y9, e9⟩ := get 9 (by omega)
    have g9 := hg 9 _ rfl
    rw [e9] at g9
    obtain ⟨a9, q9, _⟩ := DataW.trod_bool Try.underlying4 g9
    obtain rfl : c9 = .bool a9 := by have q : [c9] = _ := q9; injection q
    obtain ⟨y10, e10⟩ := get 10 (by omega)
    have g10 := hg 10 _ rfl
    rw [e10] at g10
    obtain ⟨a10, q10, _, f10⟩ := DataW.trod_int Try.underlying3 g10
    obtain rfl : c10 = .int .i64 a10 := by have q : [c10] = _ := q10; injection q
    obtain ⟨y11, e11⟩ := get 11 (by omega)
    have g11 := hg 11 _ rfl
    rw [e11] at g11
    obtain ⟨oA, on, oc, rfl⟩ := slice_cell _ _ Try.underlying45 (v := c11) g11
    obtain ⟨y12, e12⟩ := get 12 (by omega)
    have g12 := hg 12 _ rfl
    rw [e12] at g12
    obtain ⟨dA, dn, dc, rfl⟩ := slice_cell _ _ Try.underlying30 (v := c12) g12
    refine ⟨⟨rfl, fun u hu => ?_⟩, ⟨_, _, _, rfl⟩, ⟨_, _, _, rfl⟩⟩
    simp only [List.mem_cons, List.not_mem_nil, or_false] at hu
    rcases hu with rfl | rfl | rfl | rfl | rfl | rfl | rfl | rfl | rfl | rfl | rfl | rfl | rfl <;> rfl
end
end Go.Proofs.Ytnpkmkjenlhkiaa
