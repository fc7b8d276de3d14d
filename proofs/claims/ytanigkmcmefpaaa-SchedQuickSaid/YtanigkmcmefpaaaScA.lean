/- Paths as they are handed over; which of them are able; which is picked: the mathematics. No condition. -/
import Derived.Test.YtanigkmcmefpaaaMem
import Derived.Test.YtanigkmcmefpaaaInt
import Derived.OpenShut
import Derived.Deep.Slices
import Derived.ChangeOld
import Derived.ProofKit
namespace Go.Proofs.Ytanigkmcmefpaaa
set_option linter.unusedVariables false
set_option linter.unusedSimpArgs false
open Go.RowKit Go.ChangeShapes Go.WideShapes Go.Deep

def B64 (x : Int) : Prop := -9223372036854775808 ≤ x ∧ x ≤ 9223372036854775807
/-- What a path says. -/
structure Pa where
  rd : Bool
  bk : Bool
  sm : Int
  lf : Int
def Pa.vals (p : Pa) : List Value := [.bool p.rd, .bool p.bk, .int .i64 p.sm, .int .i64 p.lf]
def p0 : Pa := ⟨false, false, 0, 0⟩

/-- A slice of n paths. -/
structure Pas (w : World) (A : Option Addr) (n c : Nat) (l : List Pa) : Prop where
  len : l.length = n
  cap : n ≤ c
  max : c ≤ 9223372036854775807
  ok : ∀ x ∈ l, B64 x.sm ∧ B64 x.lf
  mem : 0 < n → ∃ g o, A = some ⟨g, o, none⟩ ∧ ∀ j, j < n → w.cell? ⟨g, o + j * 4, none⟩ = some (.bool (l.getD j p0).rd) ∧ w.cell? ⟨g, o + j * 4 + 1, none⟩ = some (.bool (l.getD j p0).bk) ∧ w.cell? ⟨g, o + j * 4 + 2, none⟩ = some (.int .i64 (l.getD j p0).sm) ∧ w.cell? ⟨g, o + j * 4 + 3, none⟩ = some (.int .i64 (l.getD j p0).lf)

theorem Pas.below {w w' : World} {A : Option Addr} {n c : Nat} {l : List Pa} (h : Pas w A n c l) (b : Below w.heap.size w w') : Pas w' A n c l := by
  refine ⟨h.len, h.cap, h.max, h.ok, fun hn => ?_⟩
  obtain ⟨g, o, e, hc⟩ := h.mem hn
  have hk : ∀ p v, w.cell? p = some v → w'.cell? p = some v := fun p v hp => (World.cell?_of_block (b.block _ (World.block_lt_of_cell? _ _ hp))).trans hp
  exact ⟨g, o, e, fun j hj => ⟨hk _ _ (hc j hj).1, hk _ _ (hc j hj).2.1, hk _ _ (hc j hj).2.2.1, hk _ _ (hc j hj).2.2.2⟩⟩
theorem Pas.bd {w : World} {A : Option Addr} {n c : Nat} {l : List Pa} (h : Pas w A n c l) (j : Nat) : B64 (l.getD j p0).sm ∧ B64 (l.getD j p0).lf := by
  rw [List.getD_eq_getElem?_getD]
  by_cases hj : j < l.length
  · rw [List.getElem?_eq_getElem hj]
    exact h.ok _ (List.getElem_mem _)
  · rw [List.getElem?_eq_none (by omega)]
    exact ⟨⟨by decide, by decide⟩, ⟨by decide, by decide⟩⟩

section
variable {H : Type} {enc : TypeId × Value → H} {P : Program} {w : World} {base : Nat} {spare : Nat → Bool} {held : Bool}
/-- The four cells that are read as such a struct. -/
theorem path_of_trod {fs : Array Field} {t ti tb : TypeId} {fuel : Nat} {cs : List Value} {x : DataW H × List MemPlace} (ht : P.underlying t = some (.struct fs)) (hi : P.underlying ti = some (.int .i64)) (hb : P.underlying tb = some .bool) (hc : P.cellsOf ti = 1) (hcb : P.cellsOf tb = 1)
    (hf : [fs[0]?, fs[1]?, fs[2]?, fs[3]?, fs[4]?].map (fun o => o.map fun f => (f.type, f.offset)) = [some (tb, 0), some (tb, 1), some (ti, 2), some (ti, 3), none]) (hl : cs.length = 4) (h : DataW.trod enc P w base spare held fuel t cs = some x) : ∃ p : Pa, (B64 p.sm ∧ B64 p.lf) ∧ cs = p.vals := by
  obtain ⟨xs, n, _, _, _, hlen, hg⟩ := DataW.trod_struct ht h
  simp only [List.map_cons, List.map_nil, List.cons.injEq, and_true, Option.map_eq_some_iff, Option.map_eq_none_iff, Prod.mk.injEq] at hf
  obtain ⟨⟨f0, q0, t0, o0⟩, ⟨f1, q1, t1, o1⟩, ⟨f2, q2, t2, o2⟩, ⟨f3, q3, t3, o3⟩, q4⟩ := hf
  have hs : fs.size = 4 := by
    have h2 := (Array.getElem?_eq_some_iff.1 q3).1
    have h3 := Array.getElem?_eq_none_iff.1 q4
    omega
  have get : ∀ (i : Nat), i < 4 → ∃ y, xs[i]? = some y := fun i hi => ⟨_, List.getElem?_eq_getElem (by rw [hlen, hs]; exact hi)⟩
  match cs, hl with
  | [c0, c1, c2, c3], _ =>
    obtain ⟨y0, e0⟩ := get 0 (by omega)
    obtain ⟨y1, e1⟩ := get 1 (by omega)
    obtain ⟨y2, e2⟩ := get 2 (by omega)
    obtain ⟨y3, e3⟩ := get 3 (by omega)
    have g0 := hg 0 _ q0
    have g1 := hg 1 _ q1
    have g2 := hg 2 _ q2
    have g3 := hg 3 _ q3
    rw [e0, t0, o0, hcb] at g0
    rw [e1, t1, o1, hcb] at g1
    rw [e2, t2, o2, hc] at g2
    rw [e3, t3, o3, hc] at g3
    obtain ⟨a0, r0, _⟩ := DataW.trod_bool hb g0
    obtain ⟨a1, r1, _⟩ := DataW.trod_bool hb g1
    obtain ⟨a2, r2, _, w2⟩ := DataW.trod_int hi g2
    obtain ⟨a3, r3, _, w3⟩ := DataW.trod_int hi g3
    obtain rfl : c0 = .bool a0 := by have q : [c0] = _ := r0; injection q
    obtain rfl : c1 = .bool a1 := by have q : [c1] = _ := r1; injection q
    obtain rfl : c2 = .int .i64 a2 := by have q : [c2] = _ := r2; injection q
    obtain rfl : c3 = .int .i64 a3 := by have q : [c3] = _ := r3; injection q
    exact ⟨⟨a0, a1, a2, a3⟩, ⟨Go.bounds_i64 w2, Go.bounds_i64 w3⟩, rfl⟩
theorem paths_of_trod {fs : Array Field} {t e ti tb : TypeId} {fuel : Nat} {A : Option Addr} {n c : Nat} {x : DataW H × List MemPlace} (hs : P.underlying t = some (.slice e)) (ht : P.underlying e = some (.struct fs)) (hi : P.underlying ti = some (.int .i64)) (hb : P.underlying tb = some .bool) (hc : P.cellsOf ti = 1) (hcb : P.cellsOf tb = 1)
    (hf : [fs[0]?, fs[1]?, fs[2]?, fs[3]?, fs[4]?].map (fun o => o.map fun f => (f.type, f.offset)) = [some (tb, 0), some (tb, 1), some (ti, 2), some (ti, 3), none]) (hC : P.cellsOf e = 4) (h : DataW.trod enc P w base (fun _ => true) held fuel t [.slice A n c] = some x) : ∃ l, Pas w A n c l := by
  rcases open_slice hs h with ⟨hcs, _⟩ | ⟨a, len, cap, m, k, D, Pl, hcs, _, hl, hm, hmm, _, hit⟩
  · simp at hcs
    obtain ⟨rfl, rfl, rfl⟩ := hcs
    exact ⟨[], rfl, Nat.le_refl _, Nat.zero_le _, by simp, fun h => absurd h (by omega)⟩
  · simp at hcs
    obtain ⟨rfl, rfl, rfl⟩ := hcs
    have hm' : m = c := by simpa using hmm
    subst hm'
    rw [hC] at hit
    have hx : ∀ i, ∃ o : Pa, i < n → (B64 o.sm ∧ B64 o.lf) ∧ ∀ j, j < 4 → w.cell? ((a.add (i * 4)).add j) = (o.vals)[j]? := fun i => by
      by_cases hin : i < n
      · obtain ⟨cs', hc', htr⟩ := hit i (by omega)
        obtain ⟨_, hcl, hat⟩ := World.cells?_some hc'
        obtain ⟨p, b0, rfl⟩ := path_of_trod ht hi hb hc hcb hf hcl htr
        exact ⟨p, fun _ => ⟨b0, fun j hj => hat j hj⟩⟩
      · exact ⟨p0, fun h => absurd h hin⟩
    obtain ⟨f, hfx⟩ := Classical.axiomOfChoice hx
    refine ⟨(List.range n).map f, by simp, hl, hm, fun o ho => ?_, fun hn => ?_⟩
    · obtain ⟨i, hi', rfl⟩ := List.mem_map.1 ho
      exact (hfx i (List.mem_range.1 hi')).1
    · obtain ⟨b, o, s⟩ := a
      have h0 := (hfx 0 hn).2 0 (by omega)
      have hsn : s = none := by
        have := World.cell?_spot (h0.trans (List.getElem?_eq_getElem (by simp [Pa.vals])))
        simpa [Addr.add] using this
      subst hsn
      refine ⟨b, o, rfl, fun j hj => ?_⟩
      have e : ((List.range n).map f).getD j p0 = f j := by simp [hj]
      rw [e]
      have k0 := (hfx j hj).2 0 (by omega)
      have k1 := (hfx j hj).2 1 (by omega)
      have k2 := (hfx j hj).2 2 (by omega)
      have k3 := (hfx j hj).2 3 (by omega)
      rw [Addr.add_lit, Addr.add_lit] at k0 k1 k2 k3
      exact ⟨k0, k1, k2, k3⟩
end

/-- It may send. -/
def may (p : Pa) : Bool := p.rd && decide (p.lf < 4)
/-- Backups don't count by it. -/
def spr (p : Pa) : Bool := p.rd && !p.bk
def spd (l : List Pa) : Bool := l.any spr
/-- The one at i is able. -/
def abl (l : List Pa) (i : Nat) : Bool := may (l.getD i p0) && !((l.getD i p0).bk && spd l)
/-- Of the first q the places of those that are able. -/
def ables (l : List Pa) (q : Nat) : List Int := ((List.range q).filter (abl l)).map fun (x : Nat) => (x : Int)
theorem ables_zero (l : List Pa) : ables l 0 = [] := rfl
theorem ables_yes {l : List Pa} {q : Nat} (h : abl l q = true) : ables l (q + 1) = ables l q ++ [(q : Int)] := by
  unfold ables
  rw [List.range_succ, List.filter_append, List.map_append]
  simp [h]
theorem ables_no {l : List Pa} {q : Nat} (h : abl l q = false) : ables l (q + 1) = ables l q := by
  unfold ables
  rw [List.range_succ, List.filter_append, List.map_append]
  simp [h]
theorem ables_len (l : List Pa) (q : Nat) : (ables l q).length ≤ q := by
  unfold ables
  rw [List.length_map]
  exact Nat.le_trans (List.length_filter_le _ _) (by simp)
theorem ables_mem {l : List Pa} {q : Nat} {x : Int} (h : x ∈ ables l q) : 0 ≤ x ∧ x < (q : Int) ∧ abl l x.toNat = true := by
  unfold ables at h
  obtain ⟨i, hi, rfl⟩ := List.mem_map.1 h
  obtain ⟨h1, h2⟩ := List.mem_filter.1 hi
  have := List.mem_range.1 h1
  exact ⟨by omega, by omega, by simpa using h2⟩
theorem getD_mem {a : List Int} {i : Nat} (h : i < a.length) : a.getD i 0 ∈ a := by
  rw [List.getD_eq_getElem?_getD, List.getElem?_eq_getElem h]
  exact List.getElem_mem _
theorem ables_at (l : List Pa) {q i : Nat} (h : i < (ables l q).length) : ∃ x : Nat, (ables l q).getD i 0 = (x : Int) ∧ x < q ∧ abl l x = true := by
  have h1 := ables_mem (getD_mem h)
  exact ⟨((ables l q).getD i 0).toNat, by omega, by omega, h1.2.2⟩
theorem ables_rises (l : List Pa) (q : Nat) : (ables l q).Pairwise (· < ·) := by
  unfold ables
  rw [List.pairwise_map]
  exact (List.pairwise_lt_range.filter (abl l)).imp fun h => by omega
theorem rises_at {a : List Int} (h : a.Pairwise (· < ·)) {i j : Nat} (hij : i < j) (hj : j < a.length) : a.getD i 0 < a.getD j 0 := by
  rw [List.getD_eq_getElem?_getD, List.getD_eq_getElem?_getD, List.getElem?_eq_getElem hj, List.getElem?_eq_getElem (by omega)]
  exact List.pairwise_iff_getElem.1 h i j (by omega) hj hij

/-- The time of the one at x. -/
def smo (l : List Pa) (x : Int) : Int := (l.getD x.toNat p0).sm
/-- x is the one of a that has the least f, of several the first one. -/
def Lst (f : Int → Int) (a : List Int) (x : Int) : Prop := ∃ i, i < a.length ∧ x = a.getD i 0 ∧ (∀ j, j < a.length → f x ≤ f (a.getD j 0)) ∧ ∀ j, j < i → f x < f (a.getD j 0)
theorem Lst.one {f : Int → Int} {a : List Int} {x y : Int} (h : Lst f a x) (k : Lst f a y) : x = y := by
  obtain ⟨i, hi, rfl, h1, h2⟩ := h
  obtain ⟨j, hj, rfl, k1, k2⟩ := k
  rcases Nat.lt_trichotomy i j with e | e | e
  · have := k2 i e
    have := h1 j hj
    omega
  · rw [e]
  · have := h2 j e
    have := k1 i hi
    omega
/-- i is the place in a of the first one behind last, or else 0. -/
def Ixt (a : List Int) (last : Int) (i : Nat) : Prop := i < a.length ∧ ((last < a.getD i 0 ∧ ∀ j, j < i → a.getD j 0 ≤ last) ∨ (i = 0 ∧ ∀ j, j < a.length → a.getD j 0 ≤ last))
theorem Ixt.one {a : List Int} {last : Int} {i j : Nat} (h : Ixt a last i) (k : Ixt a last j) : i = j := by
  obtain ⟨hi, h⟩ := h
  obtain ⟨hj, k⟩ := k
  rcases h with ⟨h1, h2⟩ | ⟨rfl, h2⟩
  · rcases k with ⟨k1, k2⟩ | ⟨rfl, k2⟩
    · rcases Nat.lt_trichotomy i j with e | e | e
      · have := k2 i e
        omega
      · exact e
      · have := h2 j e
        omega
    · have := k2 i hi
      omega
  · rcases k with ⟨k1, k2⟩ | ⟨rfl, k2⟩
    · have := h2 j hj
      omega
    · rfl
/-- What is picked. -/
def PickR (how last : Int) (l : List Pa) (r : List Int) : Prop :=
  (how < 0 ∨ 2 < how ∨ ables l l.length = [] → r = []) ∧
  (ables l l.length ≠ [] → (how = 0 → ∃ x, r = [x] ∧ Lst (smo l) (ables l l.length) x) ∧ (how = 1 → ∃ i, Ixt (ables l l.length) last i ∧ r = [(ables l l.length).getD i 0]) ∧ (how = 2 → r = ables l l.length))
theorem PickR.one {how last : Int} {l : List Pa} {r s : List Int} (h : PickR how last l r) (k : PickR how last l s) : r = s := by
  obtain ⟨h1, h2⟩ := h
  obtain ⟨k1, k2⟩ := k
  by_cases e : how < 0 ∨ 2 < how ∨ ables l l.length = []
  · rw [h1 e, k1 e]
  · simp only [not_or] at e
    obtain ⟨e1, e2, e3⟩ := e
    obtain ⟨a0, a1, a2⟩ := h2 e3
    obtain ⟨b0, b1, b2⟩ := k2 e3
    have hc : how = 0 ∨ how = 1 ∨ how = 2 := by omega
    rcases hc with rfl | rfl | rfl
    · obtain ⟨x, rfl, hx⟩ := a0 rfl
      obtain ⟨y, rfl, hy⟩ := b0 rfl
      rw [hx.one hy]
    · obtain ⟨x, hx, rfl⟩ := a1 rfl
      obtain ⟨y, hy, rfl⟩ := b1 rfl
      rw [hx.one hy]
    · rw [a2 rfl, b2 rfl]
/-- What is picked is able. -/
theorem PickR.able {how last : Int} {l : List Pa} {r : List Int} (h : PickR how last l r) : ∀ x ∈ r, 0 ≤ x ∧ x < (l.length : Int) ∧ abl l x.toNat = true := by
  intro x hx
  obtain ⟨h1, h2⟩ := h
  by_cases e : how < 0 ∨ 2 < how ∨ ables l l.length = []
  · rw [h1 e] at hx
    cases hx
  · simp only [not_or] at e
    obtain ⟨e1, e2, e3⟩ := e
    obtain ⟨a0, a1, a2⟩ := h2 e3
    have hc : how = 0 ∨ how = 1 ∨ how = 2 := by omega
    refine ables_mem ?_
    rcases hc with rfl | rfl | rfl
    · obtain ⟨y, rfl, i, hi, rfl, _⟩ := a0 rfl
      rw [List.mem_singleton] at hx
      rw [hx]
      exact getD_mem hi
    · obtain ⟨i, hi, rfl⟩ := a1 rfl
      rw [List.mem_singleton] at hx
      rw [hx]
      exact getD_mem hi.1
    · rw [a2 rfl] at hx
      exact hx

end Go.Proofs.Ytanigkmcmefpaaa
