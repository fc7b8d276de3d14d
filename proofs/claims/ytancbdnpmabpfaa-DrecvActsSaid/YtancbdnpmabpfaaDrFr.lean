/- The acts of a law on receivers, as an argument is read: two whole numbers, bytes. No condition. -/
import Derived.Test.YtancbdnpmabpfaaDrG
import Derived.OpenShut
import Derived.Deep.Slices
import Derived.ChangeOld
import Derived.ProofKit
namespace Go.Proofs.Ytancbdnpmabpfaa
set_option linter.unusedVariables false
set_option linter.unusedSimpArgs false
open Go.RowKit Go.ChangeShapes Go.WideShapes Go.Deep

structure Da where
  kind : Int
  n : Int
  adr : Option Addr
  len : Nat
  cap : Nat
  bs : List UInt8
instance : Inhabited Da := ⟨⟨0, 0, none, 0, 0, []⟩⟩
def Da.cells (a : Da) : List Value := [.int .i64 a.kind, .int .i64 a.n, .slice a.adr a.len a.cap]
/-- Such an act stands: its numbers are of their kinds, its slice holds its bytes. -/
structure Da.Ok (w : World) (a : Da) : Prop where
  kind : isI a.kind
  n : isI a.n
  row : RB w a.adr a.len a.cap a.bs
/-- A slice of n acts. -/
structure Das (w : World) (A : Option Addr) (n c : Nat) (l : List Da) : Prop where
  len : l.length = n
  cap : n ≤ c
  max : c ≤ 9223372036854775807
  ok : ∀ x ∈ l, x.Ok w
  mem : 0 < n → ∃ g o, A = some ⟨g, o, none⟩ ∧ ∀ j, j < n → ∀ i, i < 3 → w.cell? ⟨g, o + j * 3 + i, none⟩ = (l.getD j default).cells[i]?
theorem Das.below {w w' : World} {A : Option Addr} {n c : Nat} {l : List Da} (h : Das w A n c l) (b : RowKit.Below w.heap.size w w') : Das w' A n c l := by
  refine ⟨h.len, h.cap, h.max, fun x hx => ⟨(h.ok x hx).kind, (h.ok x hx).n, (h.ok x hx).row.below b⟩, fun hn => ?_⟩
  obtain ⟨g, o, e, hc⟩ := h.mem hn
  refine ⟨g, o, e, fun j hj i hi => ?_⟩
  have h1 := hc j hj i hi
  have h2 : ∃ u, (l.getD j default).cells[i]? = some u := ⟨_, List.getElem?_eq_getElem (by simpa [Da.cells] using hi)⟩
  obtain ⟨u, hu⟩ := h2
  rw [hu] at h1 ⊢
  exact (World.cell?_of_block (b.block _ (World.block_lt_of_cell? _ _ h1))).trans h1
theorem Das.at_ {w : World} {A : Option Addr} {n c : Nat} {l : List Da} (h : Das w A n c l) {j : Nat} (hj : j < n) : ∃ g o, A = some ⟨g, o, none⟩ ∧ (l.getD j default).Ok w ∧ w.cell? ⟨g, o + j * 3, none⟩ = some (.int .i64 (l.getD j default).kind) ∧ w.cell? ⟨g, o + j * 3 + 1, none⟩ = some (.int .i64 (l.getD j default).n) ∧ w.cell? ⟨g, o + j * 3 + 2, none⟩ = some (.slice (l.getD j default).adr (l.getD j default).len (l.getD j default).cap) := by
  obtain ⟨g, o, e, hc⟩ := h.mem (by omega)
  refine ⟨g, o, e, h.ok _ ?_, hc j hj 0 (by omega), hc j hj 1 (by omega), hc j hj 2 (by omega)⟩
  have hl := h.len
  rw [List.getD_eq_getElem?_getD, List.getElem?_eq_getElem (by omega)]
  exact List.getElem_mem _

section
variable {H : Type} {enc : TypeId × Value → H} {w : World} {base : Nat} {held : Bool}
theorem bytes_cell16 {fuel : Nat} {v : Value} {x : DataW H × List MemPlace} (h : DataW.trod enc Try.prog w base (fun _ => true) held fuel 28 [v] = some x) : ∃ A n c l, v = .slice A n c ∧ RB w A n c l := by
  rcases open_ints Try.underlying28 Try.underlying5 (by kernel_rfl) h with ⟨hcs, _⟩ | ⟨a, l, c, zs, hcs, _, hl, hm, hz, _, hcell, hwz⟩
  · simp at hcs
    subst hcs
    obtain ⟨l, hr⟩ := RB.of_row (w := w) (a := none) (len := 0) (cap := 0) (zs := []) (.inl ⟨rfl, rfl, rfl, rfl⟩)
    exact ⟨_, _, _, l, rfl, hr⟩
  · simp at hcs
    subst hcs
    obtain ⟨l', hr⟩ := RB.of_row (w := w) (zs := zs) (.inr ⟨_, rfl, hl, hm, by simpa using hz, hcell, hwz⟩)
    exact ⟨_, _, _, l', rfl, hr⟩
set_option maxRecDepth 8000 in
theorem da_of_trod {fuel : Nat} {cs : List Value} {x : DataW H × List MemPlace} (hl : cs.length = 3) (h : DataW.trod enc Try.prog w base (fun _ => true) held fuel 30 cs = some x) : ∃ a : Da, a.Ok w ∧ cs = a.cells := by
  obtain ⟨xs, n, _, _, _, hlen, hg⟩ := DataW.trod_struct Try.underlying30 h
  have get : ∀ (i : Nat), i < 3 → ∃ y, xs[i]? = some y := fun i hi => ⟨_, List.getElem?_eq_getElem (by rw [hlen]; exact hi)⟩
  match cs, hl with
  | [c0, c1, c2], _ =>
    obtain ⟨y0, e0⟩ := get 0 (by omega)
    have g0 := hg 0 _ rfl
    rw [e0] at g0
    obtain ⟨a0, q0, _, f0⟩ := DataW.trod_int Try.underlying3 g0
    obtain rfl : c0 = .int .i64 a0 := by have q : [c0] = _ := q0; injection q
    obtain ⟨y1, e1⟩ := get 1 (by omega)
    have g1 := hg 1 _ rfl
    rw [e1] at g1
    obtain ⟨a1, q1, _, f1⟩ := DataW.trod_int Try.underlying3 g1
    obtain rfl : c1 = .int .i64 a1 := by have q : [c1] = _ := q1; injection q
    obtain ⟨y2, e2⟩ := get 2 (by omega)
    have g2 := hg 2 _ rfl
    rw [e2] at g2
    obtain ⟨A, len, cap, bs, q2, r2⟩ := bytes_cell16 (v := c2) g2
    subst q2
    exact ⟨⟨a0, a1, A, len, cap, bs⟩, ⟨Go.bounds_i64 f0, Go.bounds_i64 f1, r2⟩, rfl⟩
theorem das_of_trod {fuel : Nat} {A : Option Addr} {n c : Nat} {x : DataW H × List MemPlace} (h : DataW.trod enc Try.prog w base (fun _ => true) held fuel 22 [.slice A n c] = some x) : ∃ l, Das w A n c l := by
  rcases open_slice Try.underlying22 h with ⟨hcs, _⟩ | ⟨a, len, cap, m, k, D, Pl, hcs, _, hl, hm, hmm, _, hit⟩
  · simp at hcs
    obtain ⟨rfl, rfl, rfl⟩ := hcs
    exact ⟨[], rfl, Nat.le_refl _, Nat.zero_le _, by simp, fun h => absurd h (by omega)⟩
  · simp at hcs
    obtain ⟨rfl, rfl, rfl⟩ := hcs
    have hm' : m = c := by simpa using hmm
    subst hm'
    rw [show Try.prog.cellsOf 30 = 3 from by kernel_rfl] at hit
    have hx : ∀ i, ∃ o : Da, i < n → o.Ok w ∧ ∀ j, j < 3 → w.cell? ((a.add (i * 3)).add j) = o.cells[j]? := fun i => by
      by_cases hin : i < n
      · obtain ⟨cs', hc', htr⟩ := hit i (by omega)
        obtain ⟨_, hcl, hat⟩ := World.cells?_some hc'
        obtain ⟨o, ok, rfl⟩ := da_of_trod hcl htr
        exact ⟨o, fun _ => ⟨ok, fun j hj => hat j hj⟩⟩
      · exact ⟨default, fun h => absurd h hin⟩
    obtain ⟨f, hfx⟩ := Classical.axiomOfChoice hx
    refine ⟨(List.range n).map f, by simp, hl, hm, fun o ho => ?_, fun hn => ?_⟩
    · obtain ⟨i, hi', rfl⟩ := List.mem_map.1 ho
      exact (hfx i (List.mem_range.1 hi')).1
    · obtain ⟨b, o, s⟩ := a
      have h0 := (hfx 0 hn).2 0 (by omega)
      have hsn : s = none := by
        have := World.cell?_spot (h0.trans (List.getElem?_eq_getElem (by simp [Da.cells])))
        simpa [Addr.add] using this
      subst hsn
      refine ⟨b, o, rfl, fun j hj i hi => ?_⟩
      have e : ((List.range n).map f).getD j default = f j := by simp [hj]
      rw [e]
      have k0 := (hfx j hj).2 i hi
      rw [Addr.add_lit, Addr.add_lit] at k0
      exact k0
end
end Go.Proofs.Ytancbdnpmabpfaa
