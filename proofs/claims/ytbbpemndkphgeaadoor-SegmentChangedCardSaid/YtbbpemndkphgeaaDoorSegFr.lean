/- A segment as an argument that is read as data. No condition. -/
import Derived.Test.YtbbpemndkphgeaaDoorSegA
import Derived.Test.YtbbpemndkphgeaaDoorOptFr
namespace Go.Proofs.YtbbpemndkphgeaaDoor
set_option linter.unusedVariables false
set_option linter.unusedSimpArgs false
open Go.RowKit Go.ChangeShapes Go.WideShapes Go.Deep

section
variable {H : Type} {enc : TypeId × Value → H} {w : World} {base : Nat} {held : Bool}
theorem opts_cell {fuel : Nat} {v : Value} {x : DataW H × List MemPlace} (h : DataW.trod enc Tryd.prog w base (fun _ => true) held fuel 23 [v] = some x) : ∃ A n c os, v = .slice A n c ∧ OS w A n c os := by
  have hv : ∃ A n c, v = .slice A n c := by
    rcases open_slice Tryd.underlying23 h with ⟨hcs, _⟩ | ⟨a, len, cap, m, k, D, Pl, hcs, _⟩
    · simp at hcs
      exact ⟨_, _, _, hcs⟩
    · simp at hcs
      exact ⟨_, _, _, hcs⟩
  obtain ⟨A, n, c, rfl⟩ := hv
  obtain ⟨os, ho⟩ := opts_of_trod h
  exact ⟨A, n, c, os, rfl, ho⟩
theorem bytes_cell {fuel : Nat} {v : Value} {x : DataW H × List MemPlace} (h : DataW.trod enc Tryd.prog w base (fun _ => true) held fuel 24 [v] = some x) : ∃ A n c l, v = .slice A n c ∧ RB w A n c l := by
  rcases open_ints Tryd.underlying24 Tryd.underlying5 (by kernel_rfl) h with ⟨hcs, _⟩ | ⟨x, l, c, zs, hcs, _, hl, hm, hz, _, hcell, hwz⟩
  · simp at hcs
    subst hcs
    obtain ⟨l, hr⟩ := RB.of_row (w := w) (a := none) (len := 0) (cap := 0) (zs := []) (.inl ⟨rfl, rfl, rfl, rfl⟩)
    exact ⟨_, _, _, l, rfl, hr⟩
  · simp at hcs
    subst hcs
    obtain ⟨l, hr⟩ := RB.of_row (w := w) (zs := zs) (.inr ⟨_, rfl, hl, hm, by simpa using hz, hcell, hwz⟩)
    exact ⟨_, _, _, l, rfl, hr⟩
set_option maxRecDepth 8000 in
/-- The cells that are read as a segment are a segment's. -/
theorem seg_of_trod {fuel : Nat} {cs : List Value} {x : DataW H × List MemPlace} (hl : cs.length = 13) (h : DataW.trod enc Tryd.prog w base (fun _ => true) held fuel 26 cs = some x) : ∃ s : Seg, SG w s ∧ cs = s.vals := by
  obtain ⟨xs, n, _, _, _, hlen, hg⟩ := DataW.trod_struct Tryd.underlying26 h
  have get : ∀ (i : Nat), i < 13 → ∃ y, xs[i]? = some y := fun i hi => ⟨_, List.getElem?_eq_getElem (by rw [hlen]; exact hi)⟩
  match cs, hl with
  | [c0, c1, c2, c3, c4, c5, c6, c7, c8, c9, c10, c11, c12], _ =>
    obtain ⟨y0, e0⟩ := get 0 (by omega)
    have g0 := hg 0 _ rfl
    rw [e0] at g0
    obtain ⟨a0, q0, _, f0⟩ := DataW.trod_int Tryd.underlying3 g0
    obtain rfl : c0 = .int .i64 a0 := by have q : [c0] = _ := q0; injection q
    obtain ⟨y1, e1⟩ := get 1 (by omega)
    have g1 := hg 1 _ rfl
    rw [e1] at g1
    obtain ⟨a1, q1, _, f1⟩ := DataW.trod_int Tryd.underlying3 g1
    obtain rfl : c1 = .int .i64 a1 := by have q : [c1] = _ := q1; injection q
    obtain ⟨y2, e2⟩ := get 2 (by omega)
    have g2 := hg 2 _ rfl
    rw [e2] at g2
    obtain ⟨a2, q2, _, f2⟩ := DataW.trod_int Tryd.underlying3 g2
    obtain rfl : c2 = .int .i64 a2 := by have q : [c2] = _ := q2; injection q
    obtain ⟨y3, e3⟩ := get 3 (by omega)
    have g3 := hg 3 _ rfl
    rw [e3] at g3
    obtain ⟨a3, q3, _, f3⟩ := DataW.trod_int Tryd.underlying3 g3
    obtain rfl : c3 = .int .i64 a3 := by have q : [c3] = _ := q3; injection q
    obtain ⟨y4, e4⟩ := get 4 (by omega)
    have g4 := hg 4 _ rfl
    rw [e4] at g4
    obtain ⟨a4, q4, _, f4⟩ := DataW.trod_int Tryd.underlying22 g4
    obtain rfl : c4 = .int .u32 a4 := by have q : [c4] = _ := q4; injection q
    obtain ⟨y5, e5⟩ := get 5 (by omega)
    have g5 := hg 5 _ rfl
    rw [e5] at g5
    obtain ⟨a5, q5, _, f5⟩ := DataW.trod_int Tryd.underlying22 g5
    obtain rfl : c5 = .int .u32 a5 := by have q : [c5] = _ := q5; injection q
    obtain ⟨y6, e6⟩ := get 6 (by omega)
    have g6 := hg 6 _ rfl
    rw [e6] at g6
    obtain ⟨a6, q6, _⟩ := DataW.trod_bool Tryd.underlying4 g6
    obtain rfl : c6 = .bool a6 := by have q : [c6] = _ := q6; injection q
    obtain ⟨y7, e7⟩ := get 7 (by omega)
    have g7 := hg 7 _ rfl
    rw [e7] at g7
    obtain ⟨a7, q7, _⟩ := DataW.trod_bool Tryd.underlying4 g7
    obtain rfl : c7 = .bool a7 := by have q : [c7] = _ := q7; injection q
    obtain ⟨y8, e8⟩ := get 8 (by omega)
    have g8 := hg 8 _ rfl
    rw [e8] at g8
    obtain ⟨a8, q8, _⟩ := DataW.trod_bool Tryd.underlying4 g8
    obtain rfl : c8 = .bool a8 := by have q : [c8] = _ := q8; injection q
    obtain ⟨y9, e9⟩ := get 9 (by omega)
    have g9 := hg 9 _ rfl
    rw [e9] at g9
    obtain ⟨a9, q9, _⟩ := DataW.trod_bool Tryd.underlying4 g9
    obtain rfl : c9 = .bool a9 := by have q : [c9] = _ := q9; injection q
    obtain ⟨y10, e10⟩ := get 10 (by omega)
    have g10 := hg 10 _ rfl
    rw [e10] at g10
    obtain ⟨a10, q10, _, f10⟩ := DataW.trod_int Tryd.underlying3 g10
    obtain rfl : c10 = .int .i64 a10 := by have q : [c10] = _ := q10; injection q
    obtain ⟨y11, e11⟩ := get 11 (by omega)
    have g11 := hg 11 _ rfl
    rw [e11] at g11
    obtain ⟨oA, on, oc, os, rfl, hos⟩ := opts_cell (v := c11) g11
    obtain ⟨y12, e12⟩ := get 12 (by omega)
    have g12 := hg 12 _ rfl
    rw [e12] at g12
    obtain ⟨dA, dn, dc, ds, rfl, hds⟩ := bytes_cell (v := c12) g12
    obtain ⟨k4, rfl⟩ := Int.eq_ofNat_of_zero_le (Go.bounds_u32 f4).1
    obtain ⟨k5, rfl⟩ := Int.eq_ofNat_of_zero_le (Go.bounds_u32 f5).1
    have h4 := (Go.bounds_u32 f4).2
    have h5 := (Go.bounds_u32 f5).2
    have m4 : k4 < 4294967296 := by omega
    have m5 : k5 < 4294967296 := by omega
    exact ⟨⟨a0, a1, a2, a3, k4, k5, a6, a7, a8, a9, a10, oA, on, oc, dA, dn, dc, os, ds⟩, ⟨isInt_of f0, isInt_of f1, isInt_of f2, isInt_of f3, m4, m5, isInt_of f10, hos, hds⟩, rfl⟩
end
end Go.Proofs.YtbbpemndkphgeaaDoor
