/- Arguments that are options, or slices of options, as they are read as data. No condition. -/
import Derived.Test.YtbbpemndkphgeaaDoorOptA
import Derived.OpenShut
import Derived.Deep.Slices
import Derived.ChangeOld
import Derived.ProofKit
namespace Go.Proofs.YtbbpemndkphgeaaDoor
set_option linter.unusedVariables false
set_option linter.unusedSimpArgs false
open Go.RowKit Go.ChangeShapes Go.WideShapes Go.Deep

section
variable {H : Type} {enc : TypeId × Value → H} {w : World} {base : Nat} {spare : Nat → Bool} {held : Bool}
theorem isInt_of {x : Int} (h : (Lit.int .i64 x).wf = true) : isInt x := Go.bounds_i64 h
set_option maxRecDepth 8000 in
/-- The cells that are read as an option are an option's. -/
theorem opt_of_trod {fuel : Nat} {cs : List Value} {x : DataW H × List MemPlace} (hl : cs.length = 14) (h : DataW.trod enc Tryd.prog w base spare held fuel 52 cs = some x) : ∃ o : Opt, o.ok ∧ cs = o.vals := by
  obtain ⟨xs, n, _, _, _, hlen, hg⟩ := DataW.trod_struct Tryd.underlying52 h
  have get : ∀ (i : Nat), i < 14 → ∃ y, xs[i]? = some y := fun i hi => ⟨_, List.getElem?_eq_getElem (by rw [hlen]; exact hi)⟩
  match cs, hl with
  | [c0, c1, c2, c3, c4, c5, c6, c7, c8, c9, c10, c11, c12, c13], _ =>
    obtain ⟨y0, e0⟩ := get 0 (by omega)
    have g0 := hg 0 _ rfl
    rw [e0] at g0
    obtain ⟨a0, q0, _, f0⟩ := DataW.trod_int Tryd.underlying3 g0
    obtain rfl : c0 = .int .i64 a0 := by have q : [c0] = _ := q0; injection q
    obtain ⟨y1, e1⟩ := get 1 (by omega)
    have g1 := hg 1 _ rfl
    rw [e1] at g1
    obtain ⟨a1, q1, _, f1⟩ := DataW.trod_int Tryd.underlying44 g1
    obtain rfl : c1 = .int .u64 a1 := by have q : [c1] = _ := q1; injection q
    obtain ⟨y2, e2⟩ := get 2 (by omega)
    have g2 := hg 2 _ rfl
    rw [e2] at g2
    obtain ⟨a2, q2, _, f2⟩ := DataW.trod_int Tryd.underlying44 g2
    obtain rfl : c2 = .int .u64 a2 := by have q : [c2] = _ := q2; injection q
    obtain ⟨y3, e3⟩ := get 3 (by omega)
    have g3 := hg 3 _ rfl
    rw [e3] at g3
    obtain ⟨a3, q3, _, f3⟩ := DataW.trod_int Tryd.underlying22 g3
    obtain rfl : c3 = .int .u32 a3 := by have q : [c3] = _ := q3; injection q
    obtain ⟨y4, e4⟩ := get 4 (by omega)
    have g4 := hg 4 _ rfl
    rw [e4] at g4
    obtain ⟨a4, q4, _, f4⟩ := DataW.trod_int Tryd.underlying22 g4
    obtain rfl : c4 = .int .u32 a4 := by have q : [c4] = _ := q4; injection q
    obtain ⟨y5, e5⟩ := get 5 (by omega)
    have g5 := hg 5 _ rfl
    rw [e5] at g5
    obtain ⟨a5, q5, _, f5⟩ := DataW.trod_int Tryd.underlying3 g5
    obtain rfl : c5 = .int .i64 a5 := by have q : [c5] = _ := q5; injection q
    obtain ⟨y6, e6⟩ := get 6 (by omega)
    have g6 := hg 6 _ rfl
    rw [e6] at g6
    obtain ⟨a6, q6, _, f6⟩ := DataW.trod_int Tryd.underlying3 g6
    obtain rfl : c6 = .int .i64 a6 := by have q : [c6] = _ := q6; injection q
    obtain ⟨y7, e7⟩ := get 7 (by omega)
    have g7 := hg 7 _ rfl
    rw [e7] at g7
    obtain ⟨a7, q7, _⟩ := DataW.trod_bool Tryd.underlying4 g7
    obtain rfl : c7 = .bool a7 := by have q : [c7] = _ := q7; injection q
    obtain ⟨y8, e8⟩ := get 8 (by omega)
    have g8 := hg 8 _ rfl
    rw [e8] at g8
    obtain ⟨a8, q8, _⟩ := DataW.trod_bool Tryd.underlying4 g8
    obtain rfl : c8 = .bool a8 := by have q : [c8] = _ := q8; injection q
    obtain ⟨y9, e9⟩ := get 9 (by omega)
    have g9 := hg 9 _ rfl
    rw [e9] at g9
    obtain ⟨a9, q9, _, f9⟩ := DataW.trod_int Tryd.underlying3 g9
    obtain rfl : c9 = .int .i64 a9 := by have q : [c9] = _ := q9; injection q
    obtain ⟨y10, e10⟩ := get 10 (by omega)
    have g10 := hg 10 _ rfl
    rw [e10] at g10
    obtain ⟨a10, q10, _⟩ := DataW.trod_bool Tryd.underlying4 g10
    obtain rfl : c10 = .bool a10 := by have q : [c10] = _ := q10; injection q
    obtain ⟨y11, e11⟩ := get 11 (by omega)
    have g11 := hg 11 _ rfl
    rw [e11] at g11
    obtain ⟨a11, q11, _, f11⟩ := DataW.trod_int Tryd.underlying3 g11
    obtain rfl : c11 = .int .i64 a11 := by have q : [c11] = _ := q11; injection q
    obtain ⟨y12, e12⟩ := get 12 (by omega)
    have g12 := hg 12 _ rfl
    rw [e12] at g12
    obtain ⟨a12, q12, _, f12⟩ := DataW.trod_int Tryd.underlying3 g12
    obtain rfl : c12 = .int .i64 a12 := by have q : [c12] = _ := q12; injection q
    obtain ⟨y13, e13⟩ := get 13 (by omega)
    have g13 := hg 13 _ rfl
    rw [e13] at g13
    obtain ⟨a13, q13, _⟩ := DataW.trod_bool Tryd.underlying4 g13
    obtain rfl : c13 = .bool a13 := by have q : [c13] = _ := q13; injection q
    obtain ⟨k1, rfl⟩ := Int.eq_ofNat_of_zero_le (Go.bounds_u64 f1).1
    obtain ⟨k2, rfl⟩ := Int.eq_ofNat_of_zero_le (Go.bounds_u64 f2).1
    obtain ⟨k3, rfl⟩ := Int.eq_ofNat_of_zero_le (Go.bounds_u32 f3).1
    obtain ⟨k4, rfl⟩ := Int.eq_ofNat_of_zero_le (Go.bounds_u32 f4).1
    have h1 := (Go.bounds_u64 f1).2
    have h2 := (Go.bounds_u64 f2).2
    have h3 := (Go.bounds_u32 f3).2
    have h4 := (Go.bounds_u32 f4).2
    have m1 : k1 < 18446744073709551616 := by omega
    have m2 : k2 < 18446744073709551616 := by omega
    have m3 : k3 < 4294967296 := by omega
    have m4 : k4 < 4294967296 := by omega
    exact ⟨⟨a0, k1, k2, k3, k4, a5, a6, a7, a8, a9, a10, a11, a12, a13⟩, ⟨isInt_of f0, m1, m2, m3, m4, isInt_of f5, isInt_of f6, isInt_of f9, isInt_of f11, isInt_of f12⟩, rfl⟩
/-- A slice that is read holds options. -/
theorem opts_of_trod {fuel : Nat} {A : Option Addr} {n c : Nat} {x : DataW H × List MemPlace} (h : DataW.trod enc Tryd.prog w base (fun _ => true) held fuel 23 [.slice A n c] = some x) : ∃ os, OS w A n c os := by
  rcases open_slice Tryd.underlying23 h with ⟨hcs, _⟩ | ⟨a, len, cap, m, k, D, Pl, hcs, _, hl, hm, hmm, _, hi⟩
  · simp at hcs
    obtain ⟨rfl, rfl, rfl⟩ := hcs
    exact ⟨[], rfl, Nat.le_refl _, Nat.zero_le _, by simp, fun h => absurd h (by omega)⟩
  · simp at hcs
    obtain ⟨rfl, rfl, rfl⟩ := hcs
    have hm' : m = c := by simpa using hmm
    subst hm'
    have hC : Tryd.prog.cellsOf 52 = 14 := by kernel_rfl
    rw [hC] at hi
    have hx : ∀ i, ∃ o : Opt, i < n → o.ok ∧ ∀ j, j < 14 → w.cell? ((a.add (i * 14)).add j) = o.vals[j]? := fun i => by
      by_cases hin : i < n
      · obtain ⟨cs', hc, ht⟩ := hi i (by omega)
        obtain ⟨_, hcl, hat⟩ := World.cells?_some hc
        obtain ⟨o, ho, rfl⟩ := opt_of_trod hcl ht
        exact ⟨o, fun _ => ⟨ho, fun j hj => hat j hj⟩⟩
      · exact ⟨zK 0, fun h => absurd h hin⟩
    obtain ⟨f, hf⟩ := Classical.axiomOfChoice hx
    refine ⟨(List.range n).map f, by simp, hl, hm, fun o ho => ?_, fun hn => ?_⟩
    · obtain ⟨i, hi', rfl⟩ := List.mem_map.1 ho
      exact (hf i (List.mem_range.1 hi')).1
    · obtain ⟨b, o, s⟩ := a
      have h0 := (hf 0 hn).2 0 (by omega)
      have hs : s = none := by
        have := World.cell?_spot (h0.trans (List.getElem?_eq_getElem (by rw [Opt.vals_length]; omega)))
        simpa [Addr.add] using this
      subst hs
      refine ⟨b, o, rfl, fun j hj i v hv => ?_⟩
      have hi14 : i < 14 := (List.getElem?_eq_some_iff.1 hv).1
      have := (hf j hj).2 i hi14
      rw [Addr.add_lit, Addr.add_lit] at this
      rw [this]
      have e : ((List.range n).map f).getD j (zK 0) = f j := by simp [hj]
      rw [e] at hv
      exact hv
end
end Go.Proofs.YtbbpemndkphgeaaDoor
