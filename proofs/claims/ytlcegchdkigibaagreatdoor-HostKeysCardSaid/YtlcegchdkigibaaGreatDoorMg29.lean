/- Paths as they are handed over; which of them are able; which is picked: the mathematics. No condition.
Which paths are able: the program's calls. Conditions: the slice is not longer than 2^40.
Which paths are able, and which is picked: the document's own answers. Conditions: the slice is not longer than 2^40; whole numbers of 64 bits.
Which is picked: the document's own answer. Conditions: the slice is not longer than 2^40; whole numbers of 64 bits.
Which is picked: the program's ways. Conditions: the slice is not longer than 2^40; whole numbers of 64 bits.
Which is picked: the program's Pick. Conditions: the slice is not longer than 2^40; whole numbers of 64 bits. -/
import Derived.Test.YtlcegchdkigibaaGreatDoorMg2
import Derived.OpenShut
import Derived.Deep.Slices
import Derived.ChangeOld
import Derived.ProofKit
import Derived.Test.YtlcegchdkigibaaGreatDoorMg4
import Derived.Deep.Cut
namespace Go.Proofs.YtlcegchdkigibaaGreatDoor.LS
set_option linter.unusedVariables false
set_option linter.unusedSimpArgs false
open Go.RowKit Go.ChangeShapes Go.WideShapes Go.Deep

def B64 (x : Int) : Prop := -9223372036854775808 ≤ x ∧ x ≤ 9223372036854775807
/-- What a path says. -/
structure Pa where
  rd : Bool
  bk : Bool
  sm : Int
  lf : Int
def Pa.vals (p : Pa) : List Value := [.bool p.rd, .bool p.bk, .int .i64 p.sm, .int .i64 p.lf]
def p0 : Pa := ⟨false, false, 0, 0⟩

/-- A slice of n paths. -/
structure Pas (w : World) (A : Option Addr) (n c : Nat) (l : List Pa) : Prop where
  len : l.length = n
  cap : n ≤ c
  max : c ≤ 9223372036854775807
  ok : ∀ x ∈ l, B64 x.sm ∧ B64 x.lf
  mem : 0 < n → ∃ g o, A = some ⟨g, o, none⟩ ∧ ∀ j, j < n → w.cell? ⟨g, o + j * 4, none⟩ = some (.bool (l.getD j p0).rd) ∧ w.cell? ⟨g, o + j * 4 + 1, none⟩ = some (.bool (l.getD j p0).bk) ∧ w.cell? ⟨g, o + j * 4 + 2, none⟩ = some (.int .i64 (l.getD j p0).sm) ∧ w.cell? ⟨g, o + j * 4 + 3, none⟩ = some (.int .i64 (l.getD j p0).lf)

theorem Pas.below {w w' : World} {A : Option Addr} {n c : Nat} {l : List Pa} (h : Pas w A n c l) (b : Below w.heap.size w w') : Pas w' A n c l := by
  refine ⟨h.len, h.cap, h.max, h.ok, fun hn => ?_⟩
  obtain ⟨g, o, e, hc⟩ := h.mem hn
  have hk : ∀ p v, w.cell? p = some v → w'.cell? p = some v := fun p v hp => (World.cell?_of_block (b.block _ (World.block_lt_of_cell? _ _ hp))).trans hp
  exact ⟨g, o, e, fun j hj => ⟨hk _ _ (hc j hj).1, hk _ _ (hc j hj).2.1, hk _ _ (hc j hj).2.2.1, hk _ _ (hc j hj).2.2.2⟩⟩
theorem Pas.bd {w : World} {A : Option Addr} {n c : Nat} {l : List Pa} (h : Pas w A n c l) (j : Nat) : B64 (l.getD j p0).sm ∧ B64 (l.getD j p0).lf := by
  rw [List.getD_eq_getElem?_getD]
  by_cases hj : j < l.length
  · rw [List.getElem?_eq_getElem hj]
    exact h.ok _ (List.getElem_mem _)
  · rw [List.getElem?_eq_none (by omega)]
    exact ⟨⟨by decide, by decide⟩, ⟨by decide, by decide⟩⟩

section
variable {H : Type} {enc : TypeId × Value → H} {P : Program} {w : World} {base : Nat} {spare : Nat → Bool} {held : Bool}
/-- The four cells that are read as such a struct. -/
theorem path_of_trod {fs : Array Field} {t ti tb : TypeId} {fuel : Nat} {cs : List Value} {x : DataW H × List MemPlace} (ht : P.underlying t = some (.struct fs)) (hi : P.underlying ti = some (.int .i64)) (hb : P.underlying tb = some .bool) (hc : P.cellsOf ti = 1) (hcb : P.cellsOf tb = 1)
    (hf : [fs[0]?, fs[1]?, fs[2]?, fs[3]?, fs[4]?].map (fun o => o.map fun f => (f.type, f.offset)) = [some (tb, 0), some (tb, 1), some (ti, 2), some (ti, 3), none]) (hl : cs.length = 4) (h : DataW.trod enc P w base spare held fuel t cs = some x) : ∃ p : Pa, (B64 p.sm ∧ B64 p.lf) ∧ cs = p.vals := by
  obtain ⟨xs, n, _, _, _, hlen, hg⟩ := DataW.trod_struct ht h
  simp only [List.map_cons, List.map_nil, List.cons.injEq, and_true, Option.map_eq_some_iff, Option.map_eq_none_iff, Prod.mk.injEq] at hf
  obtain ⟨⟨f0, q0, t0, o0⟩, ⟨f1, q1, t1, o1⟩, ⟨f2, q2, t2, o2⟩, ⟨f3, q3, t3, o3⟩, q4⟩ := hf
  have hs : fs.size = 4 := by
    have h2 := (Array.getElem?_eq_some_iff.1 q3).1
    have h3 := Array.getElem?_eq_none_iff.1 q4
    omega
  have get : ∀ (i : Nat), i < 4 → ∃ y, xs[i]? = some y := fun i hi => ⟨_, List.getElem?_eq_getElem (by rw [hlen, hs]; exact hi)⟩
  match cs, hl with
  | [c0, c1, c2, c3], _ =>
    obtain ⟨y0, e0⟩ := get 0 (by omega)
    obtain ⟨y1, e1⟩ := get 1 (by omega)
    obtain ⟨y2, e2⟩ := get 2 (by omega)
    obtain ⟨y3, e3⟩ := get 3 (by omega)
    have g0 := hg 0 _ q0
    have g1 := hg 1 _ q1
    have g2 := hg 2 _ q2
    have g3 := hg 3 _ q3
    rw [e0, t0, o0, hcb] at g0
    rw [e1, t1, o1, hcb] at g1
    rw [e2, t2, o2, hc] at g2
    rw [e3, t3, o3, hc] at g3
    obtain ⟨a0, r0, _⟩ := DataW.trod_bool hb g0
    obtain ⟨a1, r1, _⟩ := DataW.trod_bool hb g1
    obtain ⟨a2, r2, _, w2⟩ := DataW.trod_int hi g2
    obtain ⟨a3, r3, _, w3⟩ := DataW.trod_int hi g3
    obtain rfl : c0 = .bool a0 := by have q : [c0] = _ := r0; injection q
    obtain rfl : c1 = .bool a1 := by have q : [c1] = _ := r1; injection q
    obtain rfl : c2 = .int .i64 a2 := by have q : [c2] = _ := r2; injection q
    obtain rfl : c3 = .int .i64 a3 := by have q : [c3] = _ := r3; injection q
    exact ⟨⟨a0, a1, a2, a3⟩, ⟨Go.bounds_i64 w2, Go.bounds_i64 w3⟩, rfl⟩
theorem paths_of_trod {fs : Array Field} {t e ti tb : TypeId} {fuel : Nat} {A : Option Addr} {n c : Nat} {x : DataW H × List MemPlace} (hs : P.underlying t = some (.slice e)) (ht : P.underlying e = some (.struct fs)) (hi : P.underlying ti = some (.int .i64)) (hb : P.underlying tb = some .bool) (hc : P.cellsOf ti = 1) (hcb : P.cellsOf tb = 1)
    (hf : [fs[0]?, fs[1]?, fs[2]?, fs[3]?, fs[4]?].map (fun o => o.map fun f => (f.type, f.offset)) = [some (tb, 0), some (tb, 1), some (ti, 2), some (ti, 3), none]) (hC : P.cellsOf e = 4) (h : DataW.trod enc P w base (fun _ => true) held fuel t [.slice A n c] = some x) : ∃ l, Pas w A n c l := by
  rcases open_slice hs h with ⟨hcs, _⟩ | ⟨a, len, cap, m, k, D, Pl, hcs, _, hl, hm, hmm, _, hit⟩
  · simp at hcs
    obtain ⟨rfl, rfl, rfl⟩ := hcs
    exact ⟨[], rfl, Nat.le_refl _, Nat.zero_le _, by simp, fun h => absurd h (by omega)⟩
  · simp at hcs
    obtain ⟨rfl, rfl, rfl⟩ := hcs
    have hm' : m = c := by simpa using hmm
    subst hm'
    rw [hC] at hit
    have hx : ∀ i, ∃ o : Pa, i < n → (B64 o.sm ∧ B64 o.lf) ∧ ∀ j, j < 4 → w.cell? ((a.add (i * 4)).add j) = (o.vals)[j]? := fun i => by
      by_cases hin : i < n
      · obtain ⟨cs', hc', htr⟩ := hit i (by omega)
        obtain ⟨_, hcl, hat⟩ := World.cells?_some hc'
        obtain ⟨p, b0, rfl⟩ := path_of_trod ht hi hb hc hcb hf hcl htr
        exact ⟨p, fun _ => ⟨b0, fun j hj => hat j hj⟩⟩
      · exact ⟨p0, fun h => absurd h hin⟩
    obtain ⟨f, hfx⟩ := Classical.axiomOfChoice hx
    refine ⟨(List.range n).map f, by simp, hl, hm, fun o ho => ?_, fun hn => ?_⟩
    · obtain ⟨i, hi', rfl⟩ := List.mem_map.1 ho
      exact (hfx i (List.mem_range.1 hi')).1
    · obtain ⟨b, o, s⟩ := a
      have h0 := (hfx 0 hn).2 0 (by omega)
      have hsn : s = none := by
        have := World.cell?_spot (h0.trans (List.getElem?_eq_getElem (by simp [Pa.vals])))
        simpa [Addr.add] using this
      subst hsn
      refine ⟨b, o, rfl, fun j hj => ?_⟩
      have e : ((List.range n).map f).getD j p0 = f j := by simp [hj]
      rw [e]
      have k0 := (hfx j hj).2 0 (by omega)
      have k1 := (hfx j hj).2 1 (by omega)
      have k2 := (hfx j hj).2 2 (by omega)
      have k3 := (hfx j hj).2 3 (by omega)
      rw [Addr.add_lit, Addr.add_lit] at k0 k1 k2 k3
      exact ⟨k0, k1, k2, k3⟩
end

/-- It may send. -/
def may (p : Pa) : Bool := p.rd && decide (p.lf < 4)
/-- Backups don't count by it. -/
def spr (p : Pa) : Bool := p.rd && !p.bk
def spd (l : List Pa) : Bool := l.any spr
/-- The one at i is able. -/
def abl (l : List Pa) (i : Nat) : Bool := may (l.getD i p0) && !((l.getD i p0).bk && spd l)
/-- Of the first q the places of those that are able. -/
def ables (l : List Pa) (q : Nat) : List Int := ((List.range q).filter (abl l)).map fun (x : Nat) => (x : Int)
theorem ables_zero (l : List Pa) : ables l 0 = [] := rfl
theorem ables_yes {l : List Pa} {q : Nat} (h : abl l q = true) : ables l (q + 1) = ables l q ++ [(q : Int)] := by
  unfold ables
  rw [List.range_succ, List.filter_append, List.map_append]
  simp [h]
theorem ables_no {l : List Pa} {q : Nat} (h : abl l q = false) : ables l (q + 1) = ables l q := by
  unfold ables
  rw [List.range_succ, List.filter_append, List.map_append]
  simp [h]
theorem ables_len (l : List Pa) (q : Nat) : (ables l q).length ≤ q := by
  unfold ables
  rw [List.length_map]
  exact Nat.le_trans (List.length_filter_le _ _) (by simp)
theorem ables_mem {l : List Pa} {q : Nat} {x : Int} (h : x ∈ ables l q) : 0 ≤ x ∧ x < (q : Int) ∧ abl l x.toNat = true := by
  unfold ables at h
  obtain ⟨i, hi, rfl⟩ := List.mem_map.1 h
  obtain ⟨h1, h2⟩ := List.mem_filter.1 hi
  have := List.mem_range.1 h1
  exact ⟨by omega, by omega, by simpa using h2⟩
theorem getD_mem {a : List Int} {i : Nat} (h : i < a.length) : a.getD i 0 ∈ a := by
  rw [List.getD_eq_getElem?_getD, List.getElem?_eq_getElem h]
  exact List.getElem_mem _
theorem ables_at (l : List Pa) {q i : Nat} (h : i < (ables l q).length) : ∃ x : Nat, (ables l q).getD i 0 = (x : Int) ∧ x < q ∧ abl l x = true := by
  have h1 := ables_mem (getD_mem h)
  exact ⟨((ables l q).getD i 0).toNat, by omega, by omega, h1.2.2⟩
theorem ables_rises (l : List Pa) (q : Nat) : (ables l q).Pairwise (· < ·) := by
  unfold ables
  rw [List.pairwise_map]
  exact (List.pairwise_lt_range.filter (abl l)).imp fun h => by omega
theorem rises_at {a : List Int} (h : a.Pairwise (· < ·)) {i j : Nat} (hij : i < j) (hj : j < a.length) : a.getD i 0 < a.getD j 0 := by
  rw [List.getD_eq_getElem?_getD, List.getD_eq_getElem?_getD, List.getElem?_eq_getElem hj, List.getElem?_eq_getElem (by omega)]
  exact List.pairwise_iff_getElem.1 h i j (by omega) hj hij

/-- The time of the one at x. -/
def smo (l : List Pa) (x : Int) : Int := (l.getD x.toNat p0).sm
/-- x is the one of a that has the least f, of several the first one. -/
def Lst (f : Int → Int) (a : List Int) (x : Int) : Prop := ∃ i, i < a.length ∧ x = a.getD i 0 ∧ (∀ j, j < a.length → f x ≤ f (a.getD j 0)) ∧ ∀ j, j < i → f x < f (a.getD j 0)
theorem Lst.one {f : Int → Int} {a : List Int} {x y : Int} (h : Lst f a x) (k : Lst f a y) : x = y := by
  obtain ⟨i, hi, rfl, h1, h2⟩ := h
  obtain ⟨j, hj, rfl, k1, k2⟩ := k
  rcases Nat.lt_trichotomy i j with e | e | e
  · have := k2 i e
    have := h1 j hj
    omega
  · rw [e]
  · have := h2 j e
    have := k1 i hi
    omega
/-- i is the place in a of the first one behind last, or else 0. -/
def Ixt (a : List Int) (last : Int) (i : Nat) : Prop := i < a.length ∧ ((last < a.getD i 0 ∧ ∀ j, j < i → a.getD j 0 ≤ last) ∨ (i = 0 ∧ ∀ j, j < a.length → a.getD j 0 ≤ last))
theorem Ixt.one {a : List Int} {last : Int} {i j : Nat} (h : Ixt a last i) (k : Ixt a last j) : i = j := by
  obtain ⟨hi, h⟩ := h
  obtain ⟨hj, k⟩ := k
  rcases h with ⟨h1, h2⟩ | ⟨rfl, h2⟩
  · rcases k with ⟨k1, k2⟩ | ⟨rfl, k2⟩
    · rcases Nat.lt_trichotomy i j with e | e | e
      · have := k2 i e
        omega
      · exact e
      · have := h2 j e
        omega
    · have := k2 i hi
      omega
  · rcases k with ⟨k1, k2⟩ | ⟨rfl, k2⟩
    · have := h2 j hj
      omega
    · rfl
/-- What is picked. -/
def PickR (how last : Int) (l : List Pa) (r : List Int) : Prop :=
  (how < 0 ∨ 2 < how ∨ ables l l.length = [] → r = []) ∧
  (ables l l.length ≠ [] → (how = 0 → ∃ x, r = [x] ∧ Lst (smo l) (ables l l.length) x) ∧ (how = 1 → ∃ i, Ixt (ables l l.length) last i ∧ r = [(ables l l.length).getD i 0]) ∧ (how = 2 → r = ables l l.length))
theorem PickR.one {how last : Int} {l : List Pa} {r s : List Int} (h : PickR how last l r) (k : PickR how last l s) : r = s := by
  obtain ⟨h1, h2⟩ := h
  obtain ⟨k1, k2⟩ := k
  by_cases e : how < 0 ∨ 2 < how ∨ ables l l.length = []
  · rw [h1 e, k1 e]
  · simp only [not_or] at e
    obtain ⟨e1, e2, e3⟩ := e
    obtain ⟨a0, a1, a2⟩ := h2 e3
    obtain ⟨b0, b1, b2⟩ := k2 e3
    have hc : how = 0 ∨ how = 1 ∨ how = 2 := by omega
    rcases hc with rfl | rfl | rfl
    · obtain ⟨x, rfl, hx⟩ := a0 rfl
      obtain ⟨y, rfl, hy⟩ := b0 rfl
      rw [hx.one hy]
    · obtain ⟨x, hx, rfl⟩ := a1 rfl
      obtain ⟨y, hy, rfl⟩ := b1 rfl
      rw [hx.one hy]
    · rw [a2 rfl, b2 rfl]
/-- What is picked is able. -/
theorem PickR.able {how last : Int} {l : List Pa} {r : List Int} (h : PickR how last l r) : ∀ x ∈ r, 0 ≤ x ∧ x < (l.length : Int) ∧ abl l x.toNat = true := by
  intro x hx
  obtain ⟨h1, h2⟩ := h
  by_cases e : how < 0 ∨ 2 < how ∨ ables l l.length = []
  · rw [h1 e] at hx
    cases hx
  · simp only [not_or] at e
    obtain ⟨e1, e2, e3⟩ := e
    obtain ⟨a0, a1, a2⟩ := h2 e3
    have hc : how = 0 ∨ how = 1 ∨ how = 2 := by omega
    refine ables_mem ?_
    rcases hc with rfl | rfl | rfl
    · obtain ⟨y, rfl, i, hi, rfl, _⟩ := a0 rfl
      rw [List.mem_singleton] at hx
      rw [hx]
      exact getD_mem hi
    · obtain ⟨i, hi, rfl⟩ := a1 rfl
      rw [List.mem_singleton] at hx
      rw [hx]
      exact getD_mem hi.1
    · rw [a2 rfl] at hx
      exact hx

end Go.Proofs.YtlcegchdkigibaaGreatDoor.LS

namespace Go.Proofs.YtlcegchdkigibaaGreatDoor.LS
set_option linter.unusedVariables false
set_option linter.unusedSimpArgs false
open Go.RowKit Go.Lib

theorem infoInt : (Tryz.prog.info? 3).map (fun i => (i.zero, i.size, i.bytes)) = some (some (.int .i64 0), 1, 8) := by kernel_rfl
theorem _root_.Go.Proofs.YtlcegchdkigibaaGreatDoor.RI.lit1s (w : World) (x : Int) (t : TypeId) : RI .i64 (w.alloc (.cells #[.int .i64 x] t)) (some ⟨w.heap.size, 0, none⟩) 1 1 [x] := RI.lit .i64 w [x] t (by show 1 ≤ 9223372036854775807; decide)
def pth (p : Pa) : Value := .agg #[.bool p.rd, .bool p.bk, .int .i64 p.sm, .int .i64 p.lf]
theorem keepc {a b : World} (h : Below a.heap.size a b) {p : Addr} {v : Value} (hc : a.cell? p = some v) : b.cell? p = some v := (World.cell?_of_block (h.block _ (World.block_lt_of_cell? _ _ hc))).trans hc
theorem cell4 (w : World) (x y z u : Value) (t : TypeId) : (w.alloc (.cells #[x, y, z, u] t)).cell? ⟨w.heap.size, 0, none⟩ = some x ∧ (w.alloc (.cells #[x, y, z, u] t)).cell? ⟨w.heap.size, 1, none⟩ = some y ∧ (w.alloc (.cells #[x, y, z, u] t)).cell? ⟨w.heap.size, 2, none⟩ = some z ∧ (w.alloc (.cells #[x, y, z, u] t)).cell? ⟨w.heap.size, 3, none⟩ = some u :=
  ⟨by rw [cell_of_row _ _ _ _ _ _ (heap_alloc_new w _)]; rfl, by rw [cell_of_row _ _ _ _ _ _ (heap_alloc_new w _)]; rfl, by rw [cell_of_row _ _ _ _ _ _ (heap_alloc_new w _)]; rfl, by rw [cell_of_row _ _ _ _ _ _ (heap_alloc_new w _)]; rfl⟩

theorem spares_any (p : Pa) (w : World) : Calls Tryz.prog 345 #[pth p] w fun e w' => e = .returned (.bool (spr p)) ∧ Below w.heap.size w w' := by
  obtain ⟨a, b, c, d⟩ := p
  unfold pth spr
  dsimp only
  have HB := Lib.hid (below_a w (.cells #[.bool a, .bool b, .int .i64 c, .int .i64 d] 328))
  cases a <;> cases b
  all_goals
    go_enter Tryz.func345, Tryz.ntmps345
    go_wp2_with fail
    go_ret
    exact ⟨rfl, HB.out⟩
theorem maySend_any (p : Pa) (w : World) : Calls Tryz.prog 346 #[pth p] w fun e w' => e = .returned (.bool (may p)) ∧ Below w.heap.size w w' := by
  obtain ⟨a, b, c, d⟩ := p
  unfold pth may
  dsimp only
  have HB := Lib.hid (below_a w (.cells #[.bool a, .bool b, .int .i64 c, .int .i64 d] 328))
  cases a
  all_goals
    go_enter Tryz.func346, Tryz.ntmps346
    go_wp2_with fail
    go_ret
    exact ⟨rfl, HB.out⟩

/-- k is the first place of l at which f holds, or -1. -/
def Fst (n : Nat) (f : Nat → Bool) (k : Int) : Prop := (k = -1 ∧ ∀ j, j < n → f j = false) ∨ ∃ i : Nat, k = (i : Int) ∧ i < n ∧ f i = true ∧ ∀ j, j < i → f j = false

set_option maxHeartbeats 1600000 in
theorem index_any {w : World} {A : Option Addr} {n c : Nat} {l : List Pa} (h : Pas w A n c l) :
    Calls Tryz.prog 390 #[.slice A n c, .func (.func 345) #[] #[]] w fun e w' => (∃ k : Int, e = .returned (.int .i64 k) ∧ Fst n (fun j => spr (l.getD j p0)) k) ∧ Below w.heap.size w w' := by
  have HL := Lib.hid h
  have HB := Lib.hid (Below.refl w.heap.size w)
  have HS := Lib.hid (fun p w => spares_any p w)
  have hcp := h.cap
  have hmx := h.max
  clear h
  go_enter Tryz.func390, Tryz.ntmps390
  go_wp2_with fail
  go_loopw [8] (fun ix wr => ∃ q : Nat, q ≤ n ∧ ix = .int .i64 (q : Int) ∧ (∀ j, j < q → spr (l.getD j p0) = false) ∧ Below w.heap.size w wr) (fun ix _ => n - (intOf ix).toNat)
  case atStart => exact ⟨0, Nat.zero_le _, rfl, fun j hj => absurd hj (by omega), HB.out⟩
  case round =>
    obtain ⟨q, hq, rfl, hno, B⟩ := hrel
    have HN := Lib.hid hno
    have HB1 := Lib.hid B
    clear hno B
    by_cases hqn : q < n
    · have HQ := Lib.hid hqn
      obtain ⟨gl, ol, rfl, hmem⟩ := (HL.out.below HB1.out).mem (by omega)
      obtain ⟨x0, x1, x2, x3⟩ := hmem q hqn
      have HSP := Lib.hid (HS.out (l.getD q p0) wr)
      clear hmem
      unfold pth at HSP
      go_wp2_with fail
      refine (HSP.out).mono ?_
      rintro e w3 ⟨rfl, b3⟩
      have HB3 := Lib.hid (HB1.out.trans (b3.mono HB1.out.size))
      clear b3 x0 x1 x2 x3
      cases hs : spr (l.getD q p0)
      · go_wp2_with fail
        go_roundw
        case rel => exact ⟨q + 1, by have := HQ.out; omega, by go_num, fun j hj => by
          rcases Nat.lt_succ_iff_lt_or_eq.1 hj with h | rfl
          · exact HN.out j h
          · exact hs, HB3.out⟩
        case measure => have := HQ.out; simp [intOf]; omega
      · go_wp2_with fail
        go_ret
        exact ⟨⟨_, rfl, .inr ⟨q, rfl, HQ.out, hs, HN.out⟩⟩, HB3.out⟩
    · obtain rfl : q = n := by omega
      go_wp2_with fail
      go_ret
      exact ⟨⟨_, rfl, .inl ⟨rfl, HN.out⟩⟩, HB1.out⟩
theorem spd_true {l : List Pa} {q : Nat} (hq : q < l.length) (h : spr (l.getD q p0) = true) : spd l = true := by
  unfold spd
  rw [List.any_eq_true]
  refine ⟨_, ?_, h⟩
  rw [List.getD_eq_getElem?_getD, List.getElem?_eq_getElem hq]
  exact List.getElem_mem _
theorem spd_false {l : List Pa} (h : ∀ j, j < l.length → spr (l.getD j p0) = false) : spd l = false := by
  unfold spd
  rw [List.any_eq_false]
  intro x hx
  obtain ⟨i, hi, rfl⟩ := List.mem_iff_getElem.1 hx
  have := h i hi
  rw [List.getD_eq_getElem?_getD, List.getElem?_eq_getElem hi] at this
  simpa using this
theorem Fst.spd {l : List Pa} {n : Nat} {k : Int} (hn : l.length = n) (h : Fst n (fun j => spr (l.getD j p0)) k) : decide (0 ≤ k) = spd l := by
  rcases h with ⟨rfl, h⟩ | ⟨i, rfl, hi, h1, h2⟩
  · rw [spd_false (by rw [hn]; exact h)]
    decide
  · rw [spd_true (by omega) h1]
    exact decide_eq_true (by omega)

theorem contains_any {w : World} {A : Option Addr} {n c : Nat} {l : List Pa} (h : Pas w A n c l) :
    Calls Tryz.prog 344 #[.slice A n c, .func (.func 345) #[] #[]] w fun e w' => e = .returned (.bool (spd l)) ∧ Below w.heap.size w w' := by
  have HI := Lib.hid (index_any h)
  have HN := Lib.hid h.len
  clear h
  go_enter Tryz.func344, Tryz.ntmps344
  go_wp2_with fail
  refine (HI.out).mono ?_
  rintro e w1 ⟨⟨k, rfl, hk⟩, b1⟩
  have HK := Lib.hid (hk.spd HN.out)
  have HB := Lib.hid b1
  clear hk b1
  go_wp2_with fail
  go_ret
  exact ⟨by rw [← HK.out]; rfl, HB.out⟩

set_option maxHeartbeats 3200000 in
theorem Able_any {w : World} {A : Option Addr} {n c : Nat} {l : List Pa} (h : Pas w A n c l) (h40 : n ≤ 1099511627776) :
    Calls Tryz.prog 278 #[.slice A n c] w fun e w' => ∃ A' m c', e = .returned (.slice A' m c') ∧ RI .i64 w' A' m c' (ables l n) ∧ Below w.heap.size w w' := by
  have HC := Lib.hid (contains_any h)
  have HL := Lib.hid h
  have HM := Lib.hid (fun p w => maySend_any p w)
  have H40 := Lib.hid h40
  have hcp := h.cap
  have hmx := h.max
  clear h h40
  go_enter Tryz.func278, Tryz.ntmps278
  go_wp2_with fail
  refine (HC.out).mono ?_
  rintro e w1 ⟨rfl, b1⟩
  have HB := Lib.hid b1
  clear b1 HC
  obtain ⟨sp, hsp⟩ : ∃ sp, sp = spd l := ⟨_, rfl⟩
  have HSP := Lib.hid hsp
  rw [← hsp]
  clear hsp
  go_wp2_with fail
  go_loopw [4, 11] (fun s4 ix wr => ∃ (q : Nat) (A' : Option Addr) (m c' : Nat), q ≤ n ∧ s4 = .slice A' m c' ∧ ix = .int .i64 (q : Int) ∧ RI .i64 wr A' m c' (ables l q) ∧ wr.ownsRow w.heap.size 3 1 (.slice A' m c') m (iv .i64 (ables l q)) ∧ Below w.heap.size w wr) (fun _ ix _ => n - (intOf ix).toNat)
  case atStart => exact ⟨0, none, 0, 0, Nat.zero_le _, rfl, rfl, RI.nil_ _ _, World.ownsRow_nil _ _ _ _, HB.out⟩
  case round =>
    obtain ⟨q, A1, m, c1, hq, rfl, rfl, hR, hO, B⟩ := hrel
    have HR := Lib.hid hR
    have HO := Lib.hid hO
    have HB1 := Lib.hid B
    have HML := Lib.hid (hR.len ▸ ables_len l q : m ≤ q)
    clear hR hO B HB
    by_cases hqn : q < n
    · have HQ := Lib.hid hqn
      obtain ⟨gl, ol, rfl, hmem⟩ := (HL.out.below HB1.out).mem (by omega)
      obtain ⟨x0, x1, x2, x3⟩ := hmem q hqn
      clear hmem
      have HE : Hid (abl l q = (may (l.getD q p0) && !((l.getD q p0).bk && sp))) := Lib.hid (by rw [HSP.out]; rfl)
      generalize l.getD q p0 = p at *
      obtain ⟨a, b, sm, lf⟩ := p
      dsimp only at x0 x1 x2 x3 HE
      have HMS := Lib.hid (fun w => HM.out ⟨a, b, sm, lf⟩ w)
      unfold pth at HMS
      dsimp only at HMS
      have HBA := Lib.hid (below_a wr (.cells #[.bool a, .bool b, .int .i64 sm, .int .i64 lf] 328))
      have HC4 := Lib.hid (cell4 wr (.bool a) (.bool b) (.int .i64 sm) (.int .i64 lf) 328).2.1
      go_wp2_with fail
      refine (HMS.out _).mono ?_
      rintro e w3 ⟨rfl, b3⟩
      have y1 := keepc b3 HC4.out
      have HB3 := Lib.hid (below_trans HBA.out b3)
      clear b3 x0 x1 x2 x3 HMS HC4 HBA
      generalize may ⟨a, b, sm, lf⟩ = ms at *
      obtain ⟨r, hr⟩ : ∃ r, r = (ms && !(b && sp)) := ⟨_, rfl⟩
      rw [← hr] at HE
      cases ms <;> cases b <;> cases sp
      · obtain rfl : r = false := hr
        go_wp2_with fail
        go_roundw
        case rel => exact ⟨q + 1, A1, m, c1, by have := HQ.out; omega, rfl, by go_num, by rw [ables_no HE.out]; exact HR.out.below HB3.out, by rw [ables_no HE.out]; exact own_below HO.out HB3.out, HB1.out.trans (HB3.out.mono HB1.out.size)⟩
        case measure => have := HQ.out; simp [intOf]; omega
      · obtain rfl : r = false := hr
        go_wp2_with fail
        go_roundw
        case rel => exact ⟨q + 1, A1, m, c1, by have := HQ.out; omega, rfl, by go_num, by rw [ables_no HE.out]; exact HR.out.below HB3.out, by rw [ables_no HE.out]; exact own_below HO.out HB3.out, HB1.out.trans (HB3.out.mono HB1.out.size)⟩
        case measure => have := HQ.out; simp [intOf]; omega
      · obtain rfl : r = false := hr
        go_wp2_with fail
        go_roundw
        case rel => exact ⟨q + 1, A1, m, c1, by have := HQ.out; omega, rfl, by go_num, by rw [ables_no HE.out]; exact HR.out.below HB3.out, by rw [ables_no HE.out]; exact own_below HO.out HB3.out, HB1.out.trans (HB3.out.mono HB1.out.size)⟩
        case measure => have := HQ.out; simp [intOf]; omega
      · obtain rfl : r = false := hr
        go_wp2_with fail
        go_roundw
        case rel => exact ⟨q + 1, A1, m, c1, by have := HQ.out; omega, rfl, by go_num, by rw [ables_no HE.out]; exact HR.out.below HB3.out, by rw [ables_no HE.out]; exact own_below HO.out HB3.out, HB1.out.trans (HB3.out.mono HB1.out.size)⟩
        case measure => have := HQ.out; simp [intOf]; omega
      · obtain rfl : r = true := hr
        have HO3 := Lib.hid (own_below HO.out HB3.out)
        have HB4 := Lib.hid (HB1.out.trans (HB3.out.mono HB1.out.size))
        clear HR HO HB1
        go_wp2_with (at_builtin; refine wpList_appi (W := w) rfl _ _ .i64 55 3 8 rfl Tryz.underlying55 infoInt (by decide) _ _ _ rfl (own_below HO3.out (below_a _ _)) (HB4.out.alloc HB4.out.size _) _ 1 1 [(q : Int)] rfl (RI.lit1s _ _ _) (by have := HML.out; have := H40.out; have := HQ.out; omega) ?_; intro A3 c3 w5 r5 o5 b5)
        go_roundw
        case rel => exact ⟨q + 1, A3, m + 1, c3, by have := HQ.out; omega, rfl, by go_num, by rw [ables_yes HE.out]; exact r5, by rw [ables_yes HE.out]; exact o5, b5⟩
        case measure => have := HQ.out; simp [intOf]; omega
      · obtain rfl : r = true := hr
        have HO3 := Lib.hid (own_below HO.out HB3.out)
        have HB4 := Lib.hid (HB1.out.trans (HB3.out.mono HB1.out.size))
        clear HR HO HB1
        go_wp2_with (at_builtin; refine wpList_appi (W := w) rfl _ _ .i64 55 3 8 rfl Tryz.underlying55 infoInt (by decide) _ _ _ rfl (own_below HO3.out (below_a _ _)) (HB4.out.alloc HB4.out.size _) _ 1 1 [(q : Int)] rfl (RI.lit1s _ _ _) (by have := HML.out; have := H40.out; have := HQ.out; omega) ?_; intro A3 c3 w5 r5 o5 b5)
        go_roundw
        case rel => exact ⟨q + 1, A3, m + 1, c3, by have := HQ.out; omega, rfl, by go_num, by rw [ables_yes HE.out]; exact r5, by rw [ables_yes HE.out]; exact o5, b5⟩
        case measure => have := HQ.out; simp [intOf]; omega
      · obtain rfl : r = true := hr
        have HO3 := Lib.hid (own_below HO.out HB3.out)
        have HB4 := Lib.hid (HB1.out.trans (HB3.out.mono HB1.out.size))
        clear HR HO HB1
        go_wp2_with (at_builtin; refine wpList_appi (W := w) rfl _ _ .i64 55 3 8 rfl Tryz.underlying55 infoInt (by decide) _ _ _ rfl (own_below HO3.out (below_a _ _)) (HB4.out.alloc HB4.out.size _) _ 1 1 [(q : Int)] rfl (RI.lit1s _ _ _) (by have := HML.out; have := H40.out; have := HQ.out; omega) ?_; intro A3 c3 w5 r5 o5 b5)
        go_roundw
        case rel => exact ⟨q + 1, A3, m + 1, c3, by have := HQ.out; omega, rfl, by go_num, by rw [ables_yes HE.out]; exact r5, by rw [ables_yes HE.out]; exact o5, b5⟩
        case measure => have := HQ.out; simp [intOf]; omega
      · obtain rfl : r = false := hr
        go_wp2_with fail
        go_roundw
        case rel => exact ⟨q + 1, A1, m, c1, by have := HQ.out; omega, rfl, by go_num, by rw [ables_no HE.out]; exact HR.out.below HB3.out, by rw [ables_no HE.out]; exact own_below HO.out HB3.out, HB1.out.trans (HB3.out.mono HB1.out.size)⟩
        case measure => have := HQ.out; simp [intOf]; omega
    · obtain rfl : q = n := by omega
      go_wp2_with fail
      go_ret
      exact ⟨A1, m, c1, rfl, HR.out, HB1.out⟩
end Go.Proofs.YtlcegchdkigibaaGreatDoor.LS

namespace Go.Proofs.YtlcegchdkigibaaGreatDoor.LS
set_option linter.unusedVariables false
set_option linter.unusedSimpArgs false
open Go.RowKit Go.Lib

/-- No path up to q spares the backup at i. -/
def Nob (l : List Pa) (i q : Nat) : Prop := ∀ j, j < q → ((l.getD i p0).bk && spr (l.getD j p0)) = false
theorem abl_end {l : List Pa} {i : Nat} (h : Nob l i l.length) (hm : may (l.getD i p0) = true) : abl l i = true := by
  unfold abl
  rw [hm]
  cases hb : (l.getD i p0).bk
  · rfl
  · rw [spd_false fun j hj => by have := h j hj; rw [hb] at this; simpa using this]
    rfl
theorem abl_hit {l : List Pa} {i q : Nat} (hq : q < l.length) (h : ((l.getD i p0).bk && spr (l.getD q p0)) = true) : abl l i = false := by
  rw [Bool.and_eq_true] at h
  unfold abl
  rw [h.1, spd_true hq h.2]
  simp

end Go.Proofs.YtlcegchdkigibaaGreatDoor.LS

namespace Go.Proofs.YtlcegchdkigibaaGreatDoor.LS
set_option linter.unusedVariables false
set_option linter.unusedSimpArgs false
open Go.RowKit Go.Lib

/-- What a call leaves that answers numbers, in no elder memory's place. -/
def MadeI (W : World) (p : List Int → Prop) (e : Ending) (w' : World) : Prop := ∃ A m c r, e = .returned (.slice A m c) ∧ RI .i64 w' A m c r ∧ p r ∧ Below W.heap.size W w'

/-- Gone through from the end down to q: b is the place of the least one. -/
def LstQ (f : Int → Int) (a : List Int) (q b : Nat) : Prop := (∀ j, q ≤ j → j < a.length → f (a.getD b 0) ≤ f (a.getD j 0)) ∧ ∀ j, q ≤ j → j < b → f (a.getD b 0) < f (a.getD j 0)
theorem LstQ.start {f : Int → Int} {a : List Int} : LstQ f a a.length 0 := ⟨fun j h1 h2 => absurd h2 (by omega), fun j h1 h2 => absurd h2 (by omega)⟩
theorem LstQ.take {f : Int → Int} {a : List Int} {q b : Nat} (h : LstQ f a (q + 1) b) (hb : f (a.getD q 0) ≤ f (a.getD b 0)) : LstQ f a q q := by
  refine ⟨fun j h1 h2 => ?_, fun j h1 h2 => absurd h2 (by omega)⟩
  rcases Nat.eq_or_lt_of_le h1 with rfl | h3
  · exact Int.le_refl _
  · exact Int.le_trans hb (h.1 j h3 h2)
theorem LstQ.keep {f : Int → Int} {a : List Int} {q b : Nat} (h : LstQ f a (q + 1) b) (hb : ¬ f (a.getD q 0) ≤ f (a.getD b 0)) : LstQ f a q b := by
  refine ⟨fun j h1 h2 => ?_, fun j h1 h2 => ?_⟩
  · rcases Nat.eq_or_lt_of_le h1 with rfl | h3
    · omega
    · exact h.1 j h3 h2
  · rcases Nat.eq_or_lt_of_le h1 with rfl | h3
    · omega
    · exact h.2 j h3 h2
theorem LstQ.done {f : Int → Int} {a : List Int} {b : Nat} (h : LstQ f a 0 b) (hb : b < a.length) : Lst f a (a.getD b 0) := ⟨b, hb, rfl, fun j hj => h.1 j (Nat.zero_le _) hj, fun j hj => h.2 j (Nat.zero_le _) hj⟩

/-- Gone through from the end down to q: b is the place of the first one behind last. -/
def IxtQ (a : List Int) (last : Int) (q b : Nat) : Prop := (q ≤ b ∧ last < a.getD b 0 ∧ ∀ j, q ≤ j → j < b → a.getD j 0 ≤ last) ∨ (b = 0 ∧ ∀ j, q ≤ j → j < a.length → a.getD j 0 ≤ last)
theorem IxtQ.start {a : List Int} {last : Int} : IxtQ a last a.length 0 := .inr ⟨rfl, fun j h1 h2 => absurd h2 (by omega)⟩
theorem IxtQ.take {a : List Int} {last : Int} {q b : Nat} (h : IxtQ a last (q + 1) b) (hb : last < a.getD q 0) : IxtQ a last q q := .inl ⟨Nat.le_refl _, hb, fun j h1 h2 => absurd h2 (by omega)⟩
theorem IxtQ.keep {a : List Int} {last : Int} {q b : Nat} (h : IxtQ a last (q + 1) b) (hb : ¬ last < a.getD q 0) : IxtQ a last q b := by
  rcases h with ⟨h1, h2, h3⟩ | ⟨rfl, h2⟩
  · refine .inl ⟨by omega, h2, fun j k1 k2 => ?_⟩
    rcases Nat.eq_or_lt_of_le k1 with rfl | k3
    · omega
    · exact h3 j k3 k2
  · refine .inr ⟨rfl, fun j k1 k2 => ?_⟩
    rcases Nat.eq_or_lt_of_le k1 with rfl | k3
    · omega
    · exact h2 j k3 k2
theorem IxtQ.done {a : List Int} {last : Int} {b : Nat} (h : IxtQ a last 0 b) (hb : b < a.length) : Ixt a last b := by
  refine ⟨hb, ?_⟩
  rcases h with ⟨h1, h2, h3⟩ | ⟨rfl, h2⟩
  · exact .inl ⟨h2, fun j hj => h3 j (Nat.zero_le _) hj⟩
  · exact .inr ⟨rfl, fun j hj => h2 j (Nat.zero_le _) hj⟩

section
variable {how last : Int} {l : List Pa}
theorem pick_none (h : how < 0 ∨ 2 < how ∨ ables l l.length = []) : PickR how last l [] := by
  refine ⟨fun _ => rfl, fun hne => ?_⟩
  have h1 : how < 0 ∨ 2 < how := by
    rcases h with h | h | h
    · exact .inl h
    · exact .inr h
    · exact absurd h hne
  exact ⟨fun e => by omega, fun e => by omega, fun e => by omega⟩
theorem pick_quick (hne : ables l l.length ≠ []) {x : Int} (h : Lst (smo l) (ables l l.length) x) : PickR 0 last l [x] :=
  ⟨fun e => by
    rcases e with e | e | e
    · omega
    · omega
    · exact absurd e hne, fun _ => ⟨fun _ => ⟨x, rfl, h⟩, fun e => by omega, fun e => by omega⟩⟩
theorem pick_turn (hne : ables l l.length ≠ []) {i : Nat} (h : Ixt (ables l l.length) last i) : PickR 1 last l [(ables l l.length).getD i 0] :=
  ⟨fun e => by
    rcases e with e | e | e
    · omega
    · omega
    · exact absurd e hne, fun _ => ⟨fun e => by omega, fun _ => ⟨i, h, rfl⟩, fun e => by omega⟩⟩
theorem pick_all (hne : ables l l.length ≠ []) : PickR 2 last l (ables l l.length) :=
  ⟨fun e => by
    rcases e with e | e | e
    · omega
    · omega
    · exact absurd e hne, fun _ => ⟨fun e => by omega, fun e => by omega, fun _ => rfl⟩⟩
end

end Go.Proofs.YtlcegchdkigibaaGreatDoor.LS

namespace Go.Proofs.YtlcegchdkigibaaGreatDoor.LS
set_option linter.unusedVariables false
set_option linter.unusedSimpArgs false
open Go.RowKit Go.Lib

def ptr (b : Nat) : Value := .pointer (some ⟨b, 0, none⟩)

/-- The time of one, by the closure. -/
theorem time_any {w : World} {A : Option Addr} {n c : Nat} {l : List Pa} (h : Pas w A n c l) {gb : Nat} (hc : w.cell? ⟨gb, 0, none⟩ = some (.slice A n c)) {x : Nat} (hx : x < n) :
    Calls Tryz.prog 387 #[.int .i64 (x : Int), .pointer (some ⟨gb, 0, none⟩)] w fun e w' => e = .returned (.int .i64 (smo l (x : Int))) ∧ w' = w := by
  have hcp := h.cap
  have hmx := h.max
  obtain ⟨g, o, rfl, hmem⟩ := h.mem (by omega)
  have x2 := (hmem x hx).2.2.1
  have HE : Hid (smo l (x : Int) = (l.getD x p0).sm) := Lib.hid rfl
  clear hmem h
  generalize (l.getD x p0).sm = s at *
  go_enter Tryz.func387, Tryz.ntmps387
  go_wp2_with fail
  go_ret
  exact ⟨by rw [HE.out]; rfl, rfl⟩
theorem behind_any {w : World} {gb : Nat} {last : Int} (hc : w.cell? ⟨gb, 0, none⟩ = some (.int .i64 last)) (x : Int) :
    Calls Tryz.prog 389 #[.int .i64 x, .pointer (some ⟨gb, 0, none⟩)] w fun e w' => e = .returned (.bool (decide (last < x))) ∧ w' = w := by
  go_enter Tryz.func389, Tryz.ntmps389
  go_wp2_with fail
  go_ret
  exact ⟨rfl, rfl⟩

theorem elemOfI : Tryz.prog.underlying 55 = some (.slice (Tryz.prog.elem 55)) := by kernel_rfl
theorem sizeOfI (W : World) : (sizeOf (Tryz.prog.elem 55)).run Tryz.prog W = .ok 1 W := by kernel_rfl
theorem _root_.Go.Proofs.YtlcegchdkigibaaGreatDoor.RI.drop {w : World} {k : IntKind} {A : Option Addr} {n c : Nat} {l : List Int} (h : RI k w A n c l) {i : Nat} (hi : i ≤ n) : RI k w (if c = i then A else A.map (·.add i)) (n - i) (c - i) (l.drop i) := by
  obtain ⟨h1, h2, h3, h4⟩ := h
  refine ⟨by rw [List.length_drop]; omega, by omega, by unfold maxLen at h3 ⊢; omega, fun hn => ?_⟩
  obtain ⟨b, o, e, hc⟩ := h4 (by omega)
  rw [if_neg (by omega)]
  refine ⟨b, o + i, by rw [e]; simp [Addr.add_lit], fun j hj => ?_⟩
  rw [show o + i + j = o + (i + j) from by omega, hc (i + j) (by omega)]
  simp
/-- l[i:], whatever its address is. -/
theorem _root_.Go.Proofs.YtlcegchdkigibaaGreatDoor.RI.from_ {w : World} {A : Option Addr} {n c i : Nat} {l : List Int} (h : RI .i64 w A n c l) (hi : i ≤ n) :
    ∃ A2, (∀ W : World, (Instr.slice 55 (.slice A n c) (some (.int .i64 (i : Int))) none none).run Tryz.prog W = .ok (.slice A2 (n - i) (c - i)) W) ∧ RI .i64 w A2 (n - i) (c - i) (l.drop i) := by
  have hcp := h.cap
  have hmx := h.max
  refine ⟨_, fun W => ?_, h.drop hi⟩
  rw [run_slice_l (P := Tryz.prog) W 55 A n c elemOfI .i64 (i : Int) (by omega) (by omega), sizeOfI]
  simp [Result.andThen, sliced]

/-- Gone through up to q: b is the place of the least one. -/
def LstU (f : Int → Int) (a : List Int) (q b : Nat) : Prop := b < q ∧ (∀ j, j < q → f (a.getD b 0) ≤ f (a.getD j 0)) ∧ ∀ j, j < b → f (a.getD b 0) < f (a.getD j 0)
theorem LstU.start {f : Int → Int} {a : List Int} : LstU f a 1 0 := ⟨by omega, fun j hj => by rw [show j = 0 from by omega]; exact Int.le_refl _, fun j hj => absurd hj (by omega)⟩
theorem LstU.take {f : Int → Int} {a : List Int} {q b : Nat} (h : LstU f a q b) (hb : f (a.getD q 0) < f (a.getD b 0)) : LstU f a (q + 1) q := by
  obtain ⟨h0, h1, h2⟩ := h
  refine ⟨by omega, fun j hj => ?_, fun j hj => Int.lt_of_lt_of_le hb (h1 j hj)⟩
  rcases Nat.lt_succ_iff_lt_or_eq.1 hj with h | rfl
  · exact Int.le_of_lt (Int.lt_of_lt_of_le hb (h1 j h))
  · exact Int.le_refl _
theorem LstU.keep {f : Int → Int} {a : List Int} {q b : Nat} (h : LstU f a q b) (hb : ¬ f (a.getD q 0) < f (a.getD b 0)) : LstU f a (q + 1) b := by
  obtain ⟨h0, h1, h2⟩ := h
  refine ⟨by omega, fun j hj => ?_, h2⟩
  rcases Nat.lt_succ_iff_lt_or_eq.1 hj with h | rfl
  · exact h1 j h
  · omega
theorem LstU.done {f : Int → Int} {a : List Int} {b : Nat} (h : LstU f a a.length b) : Lst f a (a.getD b 0) := ⟨b, h.1, rfl, h.2.1, h.2.2⟩

set_option maxHeartbeats 3200000 in
theorem least_any {w : World} {A B : Option Addr} {n c m cb : Nat} {l : List Pa} {a : List Int} (h : Pas w A n c l) {gb : Nat} (hc : w.cell? ⟨gb, 0, none⟩ = some (.slice A n c)) (hR : RI .i64 w B m cb a) (hm : 0 < m) (ha : ∀ i, i < m → ∃ x : Nat, a.getD i 0 = (x : Int) ∧ x < n) :
    Calls Tryz.prog 386 #[.slice B m cb, .func (.func 387) #[] #[.pointer (some ⟨gb, 0, none⟩)]] w fun e w' => (∃ x : Nat, e = .returned (.int .i64 (x : Int)) ∧ Lst (smo l) a (x : Int)) ∧ w' = w := by
  have HT := Lib.hid (fun x => @time_any w A n c l h gb hc x)
  have HA := Lib.hid ha
  have HR := Lib.hid hR
  have HLN := Lib.hid hR.len
  have hcap := hR.cap
  have hmaxb := hR.max
  have HM := Lib.hid hm
  obtain ⟨A2, hsl, hR2⟩ := hR.from_ (show 1 ≤ m from hm)
  have hsl2 : ∀ W : World, (Instr.slice 55 (.slice B m cb) (some (.int .i64 1)) none none).run Tryz.prog W = .ok (.slice A2 (m - 1) (cb - 1)) W := hsl
  have HR2 := Lib.hid hR2
  obtain ⟨m1, hm1⟩ : ∃ m1, m = m1 + 1 := ⟨m - 1, by omega⟩
  have HM1 := Lib.hid hm1
  have hc1 := hR2.cap
  have hc2 := hR2.max
  rw [show m - 1 = m1 from by omega] at hsl2 HR2 hc1
  obtain ⟨cb1, hcb1⟩ : ∃ cb1, cb1 = cb - 1 := ⟨_, rfl⟩
  rw [← hcb1] at hsl2 HR2 hc1 hc2
  clear hsl hR2 hcb1 hm1
  obtain ⟨ga, oa, rfl, ca⟩ := hR.at_ hm
  obtain ⟨x0, e0, lx0⟩ := ha 0 hm
  have HE0 := Lib.hid e0
  have HX0 := Lib.hid lx0
  rw [e0, Nat.add_zero] at ca
  clear e0 lx0 h hc hR ha
  have hmf : ∀ (fn : Fn) (first cap : Array Value) (w : World), (Instr.makeFunc fn first cap).run Tryz.prog w = .ok (.func fn first cap) w := fun _ _ _ _ => rfl
  go_enter Tryz.func386, Tryz.ntmps386
  go_wp2_with fail
  go_loopw [5, 14] (fun bx ix wr => ∃ (q b x : Nat), q ≤ m1 ∧ bx = .int .i64 (x : Int) ∧ a.getD b 0 = (x : Int) ∧ x < n ∧ ix = .int .i64 (q : Int) ∧ LstU (smo l) a (q + 1) b ∧ wr = w) (fun _ ix _ => m1 - (intOf ix).toNat)
  case atStart => exact ⟨0, 0, x0, Nat.zero_le _, rfl, HE0.out, HX0.out, rfl, LstU.start, rfl⟩
  case round =>
    obtain ⟨q, b, x, hq, rfl, hx, lx, rfl, hL, hwr⟩ := hrel
    subst hwr
    have HL := Lib.hid hL
    have HX := Lib.hid (And.intro hx lx)
    clear hL hx lx HE0 HX0 ca
    by_cases hqm : q < m1
    · have HQ := Lib.hid hqm
      obtain ⟨y, ey, ly⟩ := HA.out (q + 1) (by have := HM1.out; omega)
      have cy := (HR2.out).at_ hqm
      obtain ⟨g2, o2, rfl, cy⟩ := cy
      rw [show (a.drop 1).getD q 0 = a.getD (q + 1) 0 from by simp [Nat.add_comm], ey] at cy
      have HY := Lib.hid (And.intro ey ly)
      clear ey ly
      have HTY := Lib.hid (HT.out y HY.out.2)
      have HTX := Lib.hid (HT.out x HX.out.2)
      go_wp2_with fail
      refine (HTY.out).mono ?_
      rintro e w1 ⟨rfl, hw1⟩
      subst hw1
      clear HTY
      go_wp2_with fail
      refine (HTX.out).mono ?_
      rintro e w1 ⟨rfl, hw1⟩
      subst hw1
      clear HTX cy
      have HS : Hid (smo l (y : Int) = smo l (a.getD (q + 1) 0) ∧ smo l (x : Int) = smo l (a.getD b 0)) := Lib.hid ⟨by rw [HY.out.1], by rw [HX.out.1]⟩
      generalize smo l (y : Int) = sy at *
      generalize smo l (x : Int) = sx at *
      by_cases hlt : sy < sx
      · have HK := Lib.hid (HL.out.take (by rw [← HS.out.1, ← HS.out.2]; exact hlt))
        go_wp2_with fail
        go_roundw
        case rel => exact ⟨q + 1, q + 1, y, HQ.out, rfl, HY.out.1, HY.out.2, by go_num, HK.out, trivial⟩
        case measure => have := HQ.out; simp [intOf]; omega
      · have HK := Lib.hid (HL.out.keep (by rw [← HS.out.1, ← HS.out.2]; exact hlt))
        go_wp2_with fail
        go_roundw
        case rel => exact ⟨q + 1, b, x, HQ.out, rfl, HX.out.1, HX.out.2, by go_num, HK.out, trivial⟩
        case measure => have := HQ.out; simp [intOf]; omega
    · obtain rfl : q = m1 := by omega
      go_wp2_with fail
      go_ret
      refine ⟨⟨x, rfl, ?_⟩, rfl⟩
      have := HL.out
      rw [← HM1.out, ← HLN.out] at this
      have := this.done
      rwa [HX.out.1] at this

/-- The first one behind last, by its place, or -1. -/
theorem Fst.ixt {a : List Int} {last k : Int} {m : Nat} (h : Fst m (fun j => decide (last < a.getD j 0)) k) (hm : a.length = m) (h0 : 0 < m) : ∃ i : Nat, max k 0 = (i : Int) ∧ i < m ∧ Ixt a last i := by
  rcases h with ⟨rfl, h⟩ | ⟨i, rfl, hi, h1, h2⟩
  · refine ⟨0, by omega, h0, by omega, .inr ⟨rfl, fun j hj => ?_⟩⟩
    have := of_decide_eq_false (h j (by omega))
    omega
  · refine ⟨i, by omega, hi, by omega, .inl ⟨of_decide_eq_true h1, fun j hj => ?_⟩⟩
    have := of_decide_eq_false (h2 j hj)
    omega

set_option maxHeartbeats 3200000 in
theorem indexI_any {w : World} {B : Option Addr} {m cb : Nat} {a : List Int} {gb : Nat} {last : Int} (hc : w.cell? ⟨gb, 0, none⟩ = some (.int .i64 last)) (hR : RI .i64 w B m cb a) :
    Calls Tryz.prog 388 #[.slice B m cb, .func (.func 389) #[] #[.pointer (some ⟨gb, 0, none⟩)]] w fun e w' => (∃ k : Int, e = .returned (.int .i64 k) ∧ Fst m (fun j => decide (last < a.getD j 0)) k) ∧ w' = w := by
  have HT := Lib.hid (fun x => @behind_any w gb last hc x)
  have HR := Lib.hid hR
  have hcap := hR.cap
  have hmaxb := hR.max
  clear hc hR
  go_enter Tryz.func388, Tryz.ntmps388
  go_wp2_with fail
  go_loopw [8] (fun ix wr => ∃ q : Nat, q ≤ m ∧ ix = .int .i64 (q : Int) ∧ (∀ j, j < q → decide (last < a.getD j 0) = false) ∧ wr = w) (fun ix _ => m - (intOf ix).toNat)
  case atStart => exact ⟨0, Nat.zero_le _, rfl, fun j hj => absurd hj (by omega), rfl⟩
  case round =>
    obtain ⟨q, hq, rfl, hno, hwr⟩ := hrel
    subst hwr
    have HN := Lib.hid hno
    clear hno
    by_cases hqm : q < m
    · have HQ := Lib.hid hqm
      obtain ⟨g, o, rfl, cx⟩ := (HR.out).at_ hqm
      have HTX := Lib.hid (HT.out (a.getD q 0))
      have HE : Hid (∀ v, decide (last < a.getD q 0) = v → ∀ j, j < q + 1 → v = false → decide (last < a.getD j 0) = false) := Lib.hid fun v hv j hj hf => by
        rcases Nat.lt_succ_iff_lt_or_eq.1 hj with h | rfl
        · exact HN.out j h
        · rw [hv, hf]
      generalize hx : a.getD q 0 = x at *
      have HXE := Lib.hid hx
      clear hx
      go_wp2_with fail
      refine (HTX.out).mono ?_
      rintro e w1 ⟨rfl, hw1⟩
      subst hw1
      clear HTX cx
      cases hd : decide (last < x)
      · have HF := Lib.hid (fun j hj => HE.out false hd j hj rfl)
        clear hd
        go_wp2_with fail
        go_roundw
        case rel => exact ⟨q + 1, HQ.out, by go_num, HF.out, trivial⟩
        case measure => have := HQ.out; simp [intOf]; omega
      · have HD := Lib.hid hd
        clear hd
        go_wp2_with fail
        go_ret
        exact ⟨⟨_, rfl, .inr ⟨q, rfl, HQ.out, by show decide (last < a.getD q 0) = true; rw [HXE.out]; exact HD.out, HN.out⟩⟩, rfl⟩
    · obtain rfl : q = m := by omega
      go_wp2_with fail
      go_ret
      exact ⟨⟨_, rfl, .inl ⟨rfl, HN.out⟩⟩, rfl⟩
end Go.Proofs.YtlcegchdkigibaaGreatDoor.LS

namespace Go.Proofs.YtlcegchdkigibaaGreatDoor.LS
set_option linter.unusedVariables false
set_option linter.unusedSimpArgs false
open Go.RowKit Go.Lib

theorem _root_.Go.Proofs.YtlcegchdkigibaaGreatDoor.RI.litg (w : World) (x : Int) (t : TypeId) (g : Nat) (hg : w.heap.size = g) : RI .i64 (w.alloc (.cells #[.int .i64 x] t)) (some ⟨g, 0, none⟩) 1 1 [x] := by
  subst hg
  exact RI.lit1s w x t
section
variable {w : World} {A B : Option Addr} {n c m cb : Nat} {l : List Pa} {a : List Int}
set_option maxHeartbeats 1600000 in
theorem quick_any (h : Pas w A n c l) (hR : RI .i64 w B m cb a) (hm : 0 < m) (ha : ∀ i, i < m → ∃ x : Nat, a.getD i 0 = (x : Int) ∧ x < n) (last : Int) :
    Calls Tryz.prog 341 #[.slice B m cb, .int .i64 last, .slice A n c] w (MadeI w fun r => ∃ x : Nat, r = [(x : Int)] ∧ Lst (smo l) a (x : Int)) := by
  have hmf : ∀ (fn : Fn) (first cap : Array Value) (w : World), (Instr.makeFunc fn first cap).run Tryz.prog w = .ok (.func fn first cap) w := fun _ _ _ _ => rfl
  have HB := Lib.hid (below_a w (.cells #[.slice A n c] 244))
  have HLE := Lib.hid (least_any (h.below HB.out) (cell_new w (.slice A n c) 244) (hR.below HB.out) hm ha)
  clear h hR hm ha
  go_enter Tryz.func341, Tryz.ntmps341
  go_wp2_with fail
  refine (HLE.out).mono ?_
  rintro e w1 ⟨⟨x, rfl, hx⟩, hw1⟩
  subst hw1
  have HX := Lib.hid hx
  clear hx
  go_wp2_with fail
  go_ret
  exact ⟨_, 1, 1, [(x : Int)], rfl, RI.litg _ _ _ _ (by simp), ⟨x, rfl, HX.out⟩, HB.out.trans ((below_a _ _).mono HB.out.size)⟩

set_option maxHeartbeats 1600000 in
theorem turn_any (hR : RI .i64 w B m cb a) (hm : 0 < m) (last : Int) (L : Value) :
    Calls Tryz.prog 342 #[.slice B m cb, .int .i64 last, L] w (MadeI w fun r => ∃ i, Ixt a last i ∧ r = [a.getD i 0]) := by
  have hmf : ∀ (fn : Fn) (first cap : Array Value) (w : World), (Instr.makeFunc fn first cap).run Tryz.prog w = .ok (.func fn first cap) w := fun _ _ _ _ => rfl
  have HB := Lib.hid (below_a w (.cells #[.int .i64 last] 3))
  have HIX := Lib.hid (indexI_any (cell_new w (.int .i64 last) 3) (hR.below HB.out))
  have HLN := Lib.hid hR.len
  have hcap := hR.cap
  have hmaxb := hR.max
  have HM := Lib.hid hm
  have HR := Lib.hid (hR.below HB.out)
  clear hR hm
  go_enter Tryz.func342, Tryz.ntmps342
  go_wp2_with fail
  refine (HIX.out).mono ?_
  rintro e w1 ⟨⟨k, rfl, hk⟩, hw1⟩
  subst hw1
  obtain ⟨i, hi, hin, hix⟩ := hk.ixt HLN.out HM.out
  have HX := Lib.hid hix
  obtain ⟨ga, oa, rfl, ca⟩ := (HR.out).at_ hin
  clear hk hix
  generalize hv : a.getD i 0 = v at *
  have HV := Lib.hid hv
  clear hv
  go_wp2_with fail
  go_ret
  exact ⟨_, 1, 1, [v], rfl, RI.litg _ _ _ _ (by simp), ⟨i, HX.out, by rw [HV.out]⟩, HB.out.trans ((below_a _ _).mono HB.out.size)⟩

theorem each_any (hR : RI .i64 w B m cb a) (last : Int) (L : Value) :
    Calls Tryz.prog 343 #[.slice B m cb, .int .i64 last, L] w (MadeI w fun r => r = a) := by
  have HR := Lib.hid hR
  clear hR
  go_enter Tryz.func343, Tryz.ntmps343
  go_wp2_with fail
  go_ret
  exact ⟨_, m, cb, a, rfl, HR.out, rfl, Below.refl _ _⟩
end

def fn (f : Nat) : Value := .func (.func f) #[] #[]
/-- The three ways, each at its number. -/
def wys : List Value := [fn 341, fn 342, fn 343]
def wy0 : List Value := [.nilFunc, .nilFunc, .nilFunc]
theorem infoWy : (Tryz.prog.info? 324).map (·.size) = some 3 := by kernel_rfl
theorem zeroWy : (Tryz.prog.info? 324).map (·.zero) = some (some (.agg wy0.toArray)) := by kernel_rfl
theorem wys_one : ∀ u ∈ wys, u.oneCell' = true := by
  intro u hu
  unfold wys fn at hu
  simp only [List.mem_cons, List.not_mem_nil, or_false] at hu
  rcases hu with rfl | rfl | rfl <;> rfl
set_option maxHeartbeats 1600000 in
theorem ways_any (w : World) : Calls Tryz.prog 277 #[] w fun e w' => e = .returned (.agg wys.toArray) ∧ Below w.heap.size w w' := by
  obtain ⟨g, hg⟩ : ∃ g, w.heap.size = g := ⟨_, rfl⟩
  have HG := Lib.hid hg
  go_enter Tryz.func277, Tryz.ntmps277
  go_wp2_with (first
    | ((with_reducible refine wpList_here ?_); refine wpList_allocV rfl 324 rfl wy0 zeroWy g hg ?_; intro w1 z1 b1 s1)
    | ((with_reducible refine wpList_here ?_); refine wpList_storeV rfl 324 (.tmp 0) (.tmp 1) rfl _ _ wys rfl rfl z1 rfl wys_one infoWy ?_; intro w2 z2 g2 s2; have b2 := v_below_g b1 g2 b1.size (by omega); clear z1 b1 g2))
  refine bodyPost_ret (results_c0 rfl _ _ g wys _ rfl z2.range Tryz.underlying324 rfl infoWy) rfl ?_
  exact ⟨rfl, b2⟩

set_option maxHeartbeats 6400000 in
theorem Pick_any {w : World} {A : Option Addr} {n c : Nat} {l : List Pa} (h : Pas w A n c l) (h40 : n ≤ 1099511627776) (how last : Int) (bh : B64 how) :
    Calls Tryz.prog 199 #[.int .i64 how, .int .i64 last, .slice A n c] w (MadeI w (PickR how last l)) := by
  have HW := Lib.hid (ways_any w)
  have HL := Lib.hid h
  have H40 := Lib.hid h40
  have hn := h.len
  clear h h40
  go_enter Tryz.func199, Tryz.ntmps199
  go_wp2_with fail
  refine (HW.out).mono ?_
  rintro e w1 ⟨rfl, b1⟩
  have HB1 := Lib.hid b1
  have HL1 := Lib.hid (HL.out.below b1)
  have HA := Lib.hid (Able_any HL1.out H40.out)
  clear b1 HW
  go_wp2_with fail
  refine (HA.out).mono ?_
  rintro e w2 ⟨B, m, cb, rfl, hR, b2⟩
  have HB2 := Lib.hid (HB1.out.trans (b2.mono HB1.out.size))
  have HL2 := Lib.hid (HL1.out.below b2)
  have hlen := hR.len
  have hcap := hR.cap
  have hmaxb := hR.max
  have HR2 := Lib.hid hR
  have HAT := Lib.hid (fun i h => @ables_at l n i h)
  clear hR b2 HA HB1 HL1 HL
  obtain ⟨g, hg⟩ : ∃ g, w2.heap.size = g := ⟨_, rfl⟩
  have HG := Lib.hid hg
  go_upto_region 2 with (first
    | ((with_reducible refine wpList_here ?_); refine wpList_allocV rfl 324 rfl wy0 zeroWy g hg ?_; intro w3 z3 b3 s3)
    | ((with_reducible refine wpList_here ?_); refine wpList_storeV rfl 324 (.tmp 7) (.tmp 9) rfl _ _ wys rfl rfl z3 rfl wys_one infoWy ?_; intro w4 z4 g4 s4; have b4 := v_below_g b3 g4 b3.size (by omega); clear z3 b3 g4))
  have HB4 := Lib.hid (HB2.out.trans (b4.mono HB2.out.size))
  have HL4 := Lib.hid (HL2.out.below b4)
  have HR4 := Lib.hid (HR2.out.below b4)
  have HZ := Lib.hid z4
  clear z4 b4 s3 s4 hg HG HB2 HL2 HR2
  subst hn
  have HPN := Lib.hid (@pick_none how last l)
  have HPQ := Lib.hid (@pick_quick last l)
  have HPT := Lib.hid (@pick_turn last l)
  have HPA := Lib.hid (@pick_all last l)
  generalize ables l l.length = a at *
  by_cases hm : m = 0
  · subst hm
    by_cases h0 : how < 0
    · go_wp2_with fail
      go_ret
      exact ⟨none, 0, 0, [], rfl, RI.nil_ _ _, HPN.out (.inl h0), HB4.out⟩
    · by_cases h2 : 3 ≤ how
      · go_wp2_with fail
        go_ret
        exact ⟨none, 0, 0, [], rfl, RI.nil_ _ _, HPN.out (.inr (.inl (by omega))), HB4.out⟩
      · go_wp2_with fail
        go_ret
        exact ⟨none, 0, 0, [], rfl, RI.nil_ _ _, HPN.out (.inr (.inr (List.eq_nil_of_length_eq_zero hlen))), HB4.out⟩
  · have hne : a ≠ [] := fun e => hm (by rw [← hlen, e]; rfl)
    have HNE := Lib.hid hne
    have hmI : ¬ (m : Int) = 0 := by omega
    have hmb : ((m : Int) == 0) = false := by simpa using hmI
    have HM0 : Hid (0 < m) := Lib.hid (by omega)
    have HAX : Hid (∀ i, i < m → ∃ x : Nat, a.getD i 0 = (x : Int) ∧ x < l.length) := Lib.hid fun i hi => by
      obtain ⟨x, e, lx, -⟩ := HAT.out i (by omega)
      exact ⟨x, e, lx⟩
    clear hne hlen hm HAT
    by_cases h0 : how < 0
    · go_wp2_with fail
      go_ret
      exact ⟨none, 0, 0, [], rfl, RI.nil_ _ _, HPN.out (.inl h0), HB4.out⟩
    · by_cases h2 : 3 ≤ how
      · go_wp2_with fail
        go_ret
        exact ⟨none, 0, 0, [], rfl, RI.nil_ _ _, HPN.out (.inr (.inl (by omega))), HB4.out⟩
      · have hc : how = 0 ∨ how = 1 ∨ how = 2 := by omega
        have c0 : w4.cell? ⟨g, 0, none⟩ = some (.func (.func 341) #[] #[]) := (HZ.out 0 (by decide)).1
        have c1 : w4.cell? ⟨g, 1, none⟩ = some (.func (.func 342) #[] #[]) := (HZ.out 1 (by decide)).1
        have c2 : w4.cell? ⟨g, 2, none⟩ = some (.func (.func 343) #[] #[]) := (HZ.out 2 (by decide)).1
        clear h0 h2 bh
        rcases hc with rfl | rfl | rfl
        · have HQ := Lib.hid (quick_any HL4.out HR4.out HM0.out HAX.out last)
          go_wp2_with fail
          refine (HQ.out).mono ?_
          rintro e w5 ⟨A5, m5, c5, r5, rfl, R5, ⟨x, rfl, hx⟩, b5⟩
          have HR5 := Lib.hid R5
          have HP := Lib.hid (HPQ.out HNE.out hx)
          have HB5 := Lib.hid (HB4.out.trans (b5.mono HB4.out.size))
          clear R5 hx b5 c0 c1 c2 HQ
          go_wp2_with fail
          go_ret
          exact ⟨_, _, _, _, rfl, HR5.out, HP.out, HB5.out⟩
        · have HQ := Lib.hid (turn_any HR4.out HM0.out last (.slice A l.length c))
          go_wp2_with fail
          refine (HQ.out).mono ?_
          rintro e w5 ⟨A5, m5, c5, r5, rfl, R5, ⟨i, hx, rfl⟩, b5⟩
          have HR5 := Lib.hid R5
          have HP := Lib.hid (HPT.out HNE.out hx)
          have HB5 := Lib.hid (HB4.out.trans (b5.mono HB4.out.size))
          clear R5 hx b5 c0 c1 c2 HQ
          go_wp2_with fail
          go_ret
          exact ⟨_, _, _, _, rfl, HR5.out, HP.out, HB5.out⟩
        · have HQ := Lib.hid (each_any HR4.out last (.slice A l.length c))
          go_wp2_with fail
          refine (HQ.out).mono ?_
          rintro e w5 ⟨A5, m5, c5, r5, rfl, R5, rfl, b5⟩
          have HR5 := Lib.hid R5
          have HP := Lib.hid (HPA.out HNE.out)
          have HB5 := Lib.hid (HB4.out.trans (b5.mono HB4.out.size))
          clear R5 b5 c0 c1 c2 HQ
          go_wp2_with fail
          go_ret
          exact ⟨_, _, _, _, rfl, HR5.out, HP.out, HB5.out⟩
end Go.Proofs.YtlcegchdkigibaaGreatDoor.LS
