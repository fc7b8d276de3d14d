/- Arguments that are pieces, slices of pieces, slices of acts on a queue, as they are read as data. No condition. -/
import Derived.Test.YtkmddedfmbmgfaaOqA
import Derived.OpenShut
import Derived.Deep.Slices
import Derived.ChangeOld
import Derived.ProofKit
import Derived.SizedLaws
namespace Go.Proofs.Ytkmddedfmbmgfaa
set_option linter.unusedVariables false
set_option linter.unusedSimpArgs false
open Go.RowKit Go.ChangeShapes Go.WideShapes Go.Deep

section
variable {H : Type} {enc : TypeId × Value → H} {w : World} {base : Nat} {held : Bool}
theorem isInt_of {x : Int} (h : (Lit.int .i64 x).wf = true) : isInt x := Go.bounds_i64 h
theorem bytesOf_u8 : Try.prog.bytesOf 5 = 1 := by kernel_rfl
theorem bytes_cell {fuel : Nat} {v : Value} {x : DataW H × List MemPlace} (h : DataW.trod enc Try.prog w base (fun _ => true) held fuel 31 [v] = some x) : ∃ A n c l, v = .slice A n c ∧ RB w A n c l ∧ ((∀ y ∈ x.1.weights Try.prog 31, y ≤ reachBytes) → n ≤ reachBytes) := by
  rcases open_ints Try.underlying31 Try.underlying5 (by kernel_rfl) h with ⟨hcs, hx⟩ | ⟨a, l, c, zs, hcs, _, hl, hm, hz, hx, hcell, hwz⟩
  · simp at hcs
    subst hcs
    obtain ⟨l, hr⟩ := RB.of_row (w := w) (a := none) (len := 0) (cap := 0) (zs := []) (.inl ⟨rfl, rfl, rfl, rfl⟩)
    exact ⟨_, _, _, l, rfl, hr, fun _ => Nat.zero_le _⟩
  · simp at hcs
    subst hcs
    obtain ⟨l', hr⟩ := RB.of_row (w := w) (zs := zs) (.inr ⟨_, rfl, hl, hm, by simpa using hz, hcell, hwz⟩)
    refine ⟨_, _, _, l', rfl, hr, fun hy => ?_⟩
    have hz' : zs.length = c := by simpa using hz
    rw [hx] at hy
    have := hy (((lits (H := H) .u8 (zs.take l)).length + (lits (H := H) .u8 (zs.drop l)).length) * Try.prog.bytesOf 5) (by simp [DataW.weights, Try.underlying31])
    rw [bytesOf_u8] at this
    simp only [lits, List.length_map, List.length_take, List.length_drop] at this
    omega
set_option maxRecDepth 8000 in
/-- The cells that are read as a piece are a piece's. -/
theorem pc_of_trod {fuel : Nat} {cs : List Value} {x : DataW H × List MemPlace} (hl : cs.length = 6) (h : DataW.trod enc Try.prog w base (fun _ => true) held fuel 33 cs = some x) : ∃ p : Pc, (PG w p ∧ ((∀ y ∈ x.1.weights Try.prog 33, y ≤ reachBytes) → p.dn ≤ reachBytes)) ∧ cs = p.vals := by
  obtain ⟨xs, n, _, hx, _, hlen, hg⟩ := DataW.trod_struct Try.underlying33 h
  have get : ∀ (i : Nat), i < 6 → ∃ y, xs[i]? = some y := fun i hi => ⟨_, List.getElem?_eq_getElem (by rw [hlen]; exact hi)⟩
  match cs, hl with
  | [c0, c1, c2, c3, c4, c5], _ =>
    obtain ⟨y0, e0⟩ := get 0 (by omega)
    have g0 := hg 0 _ rfl
    rw [e0] at g0
    obtain ⟨a0, q0, _, f0⟩ := DataW.trod_int Try.underlying22 g0
    obtain rfl : c0 = .int .u32 a0 := by have q : [c0] = _ := q0; injection q
    obtain ⟨y1, e1⟩ := get 1 (by omega)
    have g1 := hg 1 _ rfl
    rw [e1] at g1
    obtain ⟨a1, q1, _⟩ := DataW.trod_bool Try.underlying4 g1
    obtain rfl : c1 = .bool a1 := by have q : [c1] = _ := q1; injection q
    obtain ⟨y2, e2⟩ := get 2 (by omega)
    have g2 := hg 2 _ rfl
    rw [e2] at g2
    obtain ⟨a2, q2, _⟩ := DataW.trod_bool Try.underlying4 g2
    obtain rfl : c2 = .bool a2 := by have q : [c2] = _ := q2; injection q
    obtain ⟨y3, e3⟩ := get 3 (by omega)
    have g3 := hg 3 _ rfl
    rw [e3] at g3
    obtain ⟨dA, dn, dc, ds, rfl, hds, hdn⟩ := bytes_cell (v := c3) g3
    obtain ⟨y4, e4⟩ := get 4 (by omega)
    have g4 := hg 4 _ rfl
    rw [e4] at g4
    obtain ⟨a4, q4, _, f4⟩ := DataW.trod_int Try.underlying3 g4
    obtain rfl : c4 = .int .i64 a4 := by have q : [c4] = _ := q4; injection q
    obtain ⟨y5, e5⟩ := get 5 (by omega)
    have g5 := hg 5 _ rfl
    rw [e5] at g5
    obtain ⟨a5, q5, _⟩ := DataW.trod_bool Try.underlying4 g5
    obtain rfl : c5 = .bool a5 := by have q : [c5] = _ := q5; injection q
    obtain ⟨k0, rfl⟩ := Int.eq_ofNat_of_zero_le (Go.bounds_u32 f0).1
    have h0 := (Go.bounds_u32 f0).2
    have m0 : k0 < 4294967296 := by omega
    refine ⟨⟨k0, a1, a2, dA, dn, dc, a4, a5, ds⟩, ⟨⟨m0, isInt_of f4, hds⟩, fun hy => hdn fun y hy2 => hy y ?_⟩, rfl⟩
    rw [hx]
    show y ∈ DataW.weights Try.prog 33 (.agg (xs.map (·.1)))
    simp only [DataW.weights, Try.underlying33]
    exact DataW.weights_mem_each (j := 3) rfl (by rw [List.getElem?_map, e3]; rfl) y hy2
/-- A slice that is read holds pieces. -/
theorem pcs_of_trod {fuel : Nat} {A : Option Addr} {n c : Nat} {x : DataW H × List MemPlace} (h : DataW.trod enc Try.prog w base (fun _ => true) held fuel 28 [.slice A n c] = some x) : ∃ l, PS w A n c l := by
  rcases open_slice Try.underlying28 h with ⟨hcs, _⟩ | ⟨a, len, cap, m, k, D, Pl, hcs, _, hl, hm, hmm, _, hi⟩
  · simp at hcs
    obtain ⟨rfl, rfl, rfl⟩ := hcs
    exact ⟨[], PS.nil_ w⟩
  · simp at hcs
    obtain ⟨rfl, rfl, rfl⟩ := hcs
    have hm' : m = c := by simpa using hmm
    subst hm'
    have hC : Try.prog.cellsOf 33 = 6 := by kernel_rfl
    rw [hC] at hi
    have hx : ∀ i, ∃ o : Pc, i < n → PG w o ∧ ∀ j, j < 6 → w.cell? ((a.add (i * 6)).add j) = o.vals[j]? := fun i => by
      by_cases hin : i < n
      · obtain ⟨cs', hc, ht⟩ := hi i (by omega)
        obtain ⟨_, hcl, hat⟩ := World.cells?_some hc
        obtain ⟨o, ho, rfl⟩ := pc_of_trod hcl ht
        exact ⟨o, fun _ => ⟨ho.1, fun j hj => hat j hj⟩⟩
      · exact ⟨zP, fun h => absurd h hin⟩
    obtain ⟨f, hf⟩ := Classical.axiomOfChoice hx
    refine ⟨(List.range n).map f, by simp, hl, hm, fun o ho => ?_, fun hn => ?_⟩
    · obtain ⟨i, hi', rfl⟩ := List.mem_map.1 ho
      exact (hf i (List.mem_range.1 hi')).1
    · obtain ⟨b, o, s⟩ := a
      have h0 := (hf 0 hn).2 0 (by omega)
      have hs : s = none := by
        have := World.cell?_spot (h0.trans (List.getElem?_eq_getElem (by rw [Pc.vals_length]; omega)))
        simpa [Addr.add] using this
      subst hs
      refine ⟨b, o, rfl, range_pv.2 fun j hj i v hv => ?_⟩
      have hj : j < n := by simpa using hj
      have hi6 : i < 6 := (List.getElem?_eq_some_iff.1 hv).1
      have := (hf j hj).2 i hi6
      rw [Addr.add_lit, Addr.add_lit] at this
      rw [this]
      have e : ((List.range n).map f).getD j zP = f j := by simp [hj]
      rw [e] at hv
      exact hv

/-- An act on a queue: its kind, a number, a piece. -/
structure Qc where
  kind : Int
  n : Int
  p : Pc
instance : Inhabited Qc := ⟨⟨0, 0, zP⟩⟩
def Qc.vals (a : Qc) : List Value := .int .i64 a.kind :: .int .i64 a.n :: a.p.vals
theorem Qc.vals_length (a : Qc) : a.vals.length = 8 := rfl
theorem qc_one (a : Qc) : ∀ u ∈ a.vals, u.oneCell' = true := by
  intro u hu
  simp only [Qc.vals, List.mem_cons] at hu
  rcases hu with rfl | rfl | hu
  · rfl
  · rfl
  · exact pc_one _ u hu
/-- Such an act stands. -/
structure QG (w : World) (a : Qc) : Prop where
  kind : isInt a.kind
  n : isInt a.n
  p : PG w a.p
theorem QG.below {w w' : World} {a : Qc} (h : QG w a) (b : Below w.heap.size w w') : QG w' a := ⟨h.kind, h.n, h.p.below b⟩
/-- The slice '.slice A n c' holds acts. -/
def QS (w : World) (A : Option Addr) (n c : Nat) (l : List Qc) : Prop :=
  l.length = n ∧ n ≤ c ∧ c ≤ 9223372036854775807 ∧ (∀ a ∈ l, QG w a) ∧ (0 < n → ∃ b o, A = some ⟨b, o, none⟩ ∧ ∀ j, j < n → w.rangeAt b (o + j * 8) (l.getD j default).vals)
theorem QS.below {w w' : World} {A : Option Addr} {n c : Nat} {l : List Qc} (h : QS w A n c l) (b : Below w.heap.size w w') : QS w' A n c l :=
  ⟨h.1, h.2.1, h.2.2.1, fun a ha => (h.2.2.2.1 a ha).below b, fun hn => by
    obtain ⟨g, o, e, hc⟩ := h.2.2.2.2 hn
    exact ⟨g, o, e, fun j hj => range_below (hc j hj) b⟩⟩
set_option maxRecDepth 8000 in
theorem qc_of_trod {fuel : Nat} {cs : List Value} {x : DataW H × List MemPlace} (hl : cs.length = 8) (h : DataW.trod enc Try.prog w base (fun _ => true) held fuel 35 cs = some x) : ∃ a : Qc, QG w a ∧ cs = a.vals := by
  obtain ⟨xs, n, _, hx, _, hlen, hg⟩ := DataW.trod_struct Try.underlying35 h
  have get : ∀ (i : Nat), i < 3 → ∃ y, xs[i]? = some y := fun i hi => ⟨_, List.getElem?_eq_getElem (by rw [hlen]; exact hi)⟩
  match cs, hl with
  | [c0, c1, d0, d1, d2, d3, d4, d5], _ =>
    obtain ⟨y0, e0⟩ := get 0 (by omega)
    have g0 := hg 0 _ rfl
    rw [e0] at g0
    obtain ⟨a0, q0, _, f0⟩ := DataW.trod_int Try.underlying3 g0
    obtain rfl : c0 = .int .i64 a0 := by have q : [c0] = _ := q0; injection q
    obtain ⟨y1, e1⟩ := get 1 (by omega)
    have g1 := hg 1 _ rfl
    rw [e1] at g1
    obtain ⟨a1, q1, _, f1⟩ := DataW.trod_int Try.underlying3 g1
    obtain rfl : c1 = .int .i64 a1 := by have q : [c1] = _ := q1; injection q
    obtain ⟨y2, e2⟩ := get 2 (by omega)
    have g2 := hg 2 _ rfl
    rw [e2] at g2
    have g2' : DataW.trod enc Try.prog w base (fun _ => true) held n 33 [d0, d1, d2, d3, d4, d5] = some y2 := g2
    obtain ⟨p, hp, e⟩ := pc_of_trod rfl g2'
    exact ⟨⟨a0, a1, p⟩, ⟨isInt_of f0, isInt_of f1, hp.1⟩, by unfold Qc.vals; rw [e]⟩
/-- A slice that is read holds acts. -/
theorem qcs_of_trod {fuel : Nat} {A : Option Addr} {n c : Nat} {x : DataW H × List MemPlace} (h : DataW.trod enc Try.prog w base (fun _ => true) held fuel 23 [.slice A n c] = some x) : ∃ l, QS w A n c l := by
  rcases open_slice Try.underlying23 h with ⟨hcs, _⟩ | ⟨a, len, cap, m, k, D, Pl, hcs, _, hl, hm, hmm, _, hi⟩
  · simp at hcs
    obtain ⟨rfl, rfl, rfl⟩ := hcs
    exact ⟨[], rfl, Nat.le_refl _, Nat.zero_le _, by simp, fun h => absurd h (by omega)⟩
  · simp at hcs
    obtain ⟨rfl, rfl, rfl⟩ := hcs
    have hm' : m = c := by simpa using hmm
    subst hm'
    have hC : Try.prog.cellsOf 35 = 8 := by kernel_rfl
    rw [hC] at hi
    have hx : ∀ i, ∃ o : Qc, i < n → QG w o ∧ ∀ j, j < 8 → w.cell? ((a.add (i * 8)).add j) = o.vals[j]? := fun i => by
      by_cases hin : i < n
      · obtain ⟨cs', hc, ht⟩ := hi i (by omega)
        obtain ⟨_, hcl, hat⟩ := World.cells?_some hc
        obtain ⟨o, ho, rfl⟩ := qc_of_trod hcl ht
        exact ⟨o, fun _ => ⟨ho, fun j hj => hat j hj⟩⟩
      · exact ⟨default, fun h => absurd h hin⟩
    obtain ⟨f, hf⟩ := Classical.axiomOfChoice hx
    refine ⟨(List.range n).map f, by simp, hl, by unfold maxLen at hm; omega, fun o ho => ?_, fun hn => ?_⟩
    · obtain ⟨i, hi', rfl⟩ := List.mem_map.1 ho
      exact (hf i (List.mem_range.1 hi')).1
    · obtain ⟨b, o, s⟩ := a
      have h0 := (hf 0 hn).2 0 (by omega)
      have hs : s = none := by
        have := World.cell?_spot (h0.trans (List.getElem?_eq_getElem (by rw [Qc.vals_length]; omega)))
        simpa [Addr.add] using this
      subst hs
      refine ⟨b, o, rfl, fun j hj i v hv => ?_⟩
      have hi8 : i < 8 := (List.getElem?_eq_some_iff.1 hv).1
      have := (hf j hj).2 i hi8
      rw [Addr.add_lit, Addr.add_lit] at this
      rw [this]
      have e : ((List.range n).map f).getD j default = f j := by simp [hj]
      rw [e] at hv
      exact hv
end
end Go.Proofs.Ytkmddedfmbmgfaa
