/- The runs of what came ahead beside which numbers did: some put in, how many; what is there while bytes are told. No condition. -/
import Derived.Test.YtancbdnpmabpfaaDrD
namespace Go.Proofs.Ytancbdnpmabpfaa
set_option linter.unusedVariables false
set_option linter.unusedSimpArgs false
open Go.RowKit Go.Lib

def cntn (b : Nat → Bool) : Nat → Int
  | 0 => 0
  | n + 1 => cntn b n + if b n then 1 else 0
theorem cntn_false {b : Nat → Bool} : ∀ {n : Nat}, (∀ i, i < n → b i = false) → cntn b n = 0
  | 0, _ => rfl
  | n + 1, h => by
    show cntn b n + _ = 0
    rw [cntn_false (n := n) (fun i hi => h i (by omega)), h n (by omega)]
    rfl
theorem cntn_iv {b b' : Nat → Bool} {a k : Nat} : ∀ N : Nat, (∀ i, i < N → a ≤ i → i < a + k → b i = true ∧ b' i = false) → (∀ i, i < N → ¬ (a ≤ i ∧ i < a + k) → b i = b' i) → cntn b N = cntn b' N + ((min N (a + k) : Nat) : Int) - ((min N a : Nat) : Int)
  | 0, _, _ => by
    show (0 : Int) = 0 + _ - _
    simp
  | N + 1, h1, h2 => by
    have ih := cntn_iv (b := b) (b' := b') (a := a) (k := k) N (fun i hi => h1 i (by omega)) (fun i hi => h2 i (by omega))
    show cntn b N + (if b N then 1 else 0) = cntn b' N + (if b' N then 1 else 0) + _ - _
    by_cases h : a ≤ N ∧ N < a + k
    · obtain ⟨e1, e2⟩ := h1 N (by omega) h.1 h.2
      rw [e1, e2, ih]
      simp only [if_true, Bool.false_eq_true, if_false]
      omega
    · rw [h2 N (by omega) h, ih]
      omega
theorem many_cntn : ∀ {l : List Rn} {b : Nat → Bool} {lo : Int} {N : Nat}, Tid lo l → 0 ≤ lo → (∀ i : Nat, i < N → (b i = true ↔ Has l (i : Int))) → (∀ n, Has l n → n < (N : Int)) → many l = cntn b N
  | [], b, lo, N, _, _, h, _ => by
    rw [cntn_false (fun i hi => by
      cases hb : b i with
      | false => rfl
      | true => exact absurd ((h i hi).1 hb) (has_nil _))]
    rfl
  | r :: t, b, lo, N, ht, hlo, h, htop => by
    obtain ⟨t1, t2, t3, t4⟩ := ht
    have ih := many_cntn (l := t) (b := fun i => if (i : Int) < r.1 + r.2 then false else b i) (N := N) t4 (by omega) (fun i hi => by
      try dsimp only
      by_cases hlt : (i : Int) < r.1 + r.2
      · rw [if_pos hlt]
        exact ⟨fun e => by (cases e), fun hh => by have := (has_ge t4 hh).1; omega⟩
      · rw [if_neg hlt, h i hi, has_cons]
        exact ⟨fun hh => hh.resolve_left (by omega), .inr⟩) (fun n hn => htop n (has_cons.2 (.inr hn)))
    have hend : r.1 + r.2 ≤ (N : Int) := by have := htop (r.1 + r.2 - 1) (has_cons.2 (.inl ⟨by omega, by omega⟩)); omega
    have hiv := cntn_iv (b := b) (b' := fun i => if (i : Int) < r.1 + r.2 then false else b i) (a := r.1.toNat) (k := r.2.toNat) N (fun i hi h1 h2 => by
      refine ⟨(h i hi).2 (has_cons.2 (.inl ⟨by omega, by omega⟩)), ?_⟩
      try dsimp only
      rw [if_pos (by omega)]) (fun i hi hn => by
      try dsimp only
      by_cases hlt : (i : Int) < r.1 + r.2
      · rw [if_pos hlt]
        cases hb : b i with
        | false => rfl
        | true =>
          rcases has_cons.1 ((h i hi).1 hb) with hh | hh
          · omega
          · have := (has_ge t4 hh).1
            omega
      · rw [if_neg hlt])
    rw [many_cons, ih, hiv]
    omega
theorem cntn_lose (L : Nat → Bool) (f t : Nat) : ∀ N : Nat, cntn (fun k => L k || decide (f ≤ k ∧ k < t)) N = cntn L N + (kept L f (min N t - f) : Int)
  | 0 => by
    show (0 : Int) = 0 + _
    rw [show min 0 t - f = 0 from by omega]
    rfl
  | N + 1 => by
    have ih := cntn_lose L f t N
    show cntn (fun k => L k || decide (f ≤ k ∧ k < t)) N + (if (L N || decide (f ≤ N ∧ N < t)) = true then 1 else 0) = cntn L N + (if L N = true then 1 else 0) + _
    rw [ih]
    by_cases h : f ≤ N ∧ N < t
    · rw [decide_eq_true h, Bool.or_true, if_pos rfl, show min (N + 1) t - f = (min N t - f) + 1 from by omega]
      rw [show kept L f (min N t - f + 1) = kept L f (min N t - f) + if L (f + (min N t - f)) then 0 else 1 from rfl, show f + (min N t - f) = N from by omega]
      cases hL : L N
      · simp; omega
      · simp; omega
    · rw [decide_eq_false h, Bool.or_false, show min (N + 1) t - f = min N t - f from by omega]
      omega

theorem kept_congr {L L' : Nat → Bool} {f : Nat} : ∀ m : Nat, (∀ k, f ≤ k → k < f + m → L k = L' k) → kept L f m = kept L' f m
  | 0, _ => rfl
  | m + 1, h => by
    have := kept_congr (L := L) (L' := L') (f := f) m (fun k h1 h2 => h k h1 (by omega))
    unfold kept
    rw [this, h (f + m) (by omega) (by omega)]
/-- Where the bytes that are told may begin, and end. -/
structure Span (d : Dr) (x : Int) (n f bh : Nat) : Prop where
  hf : (f : Int) = max x (d.nx : Int)
  hb : (bh : Int) = max (f : Int) (min (x + (n : Int)) (d.bound : Int))
section
variable {d : Dr} {x : Int} {b : List UInt8} {n f bh : Nat}
theorem Span.lt (h : Span d x n f bh) (hok : d.ok) : d.nx ≤ f ∧ f ≤ bh ∧ bh - f ≤ 33 := by
  have h1 := h.hf
  have h2 := h.hb
  have h3 := hok.bound_le
  have h4 := hok.lo
  refine ⟨by omega, by omega, by omega⟩
theorem Span.in_ (h : Span d x n f bh) {q : Nat} (h1 : f ≤ q) (h2 : q < bh) : d.nx ≤ q ∧ q < d.bound ∧ x ≤ (q : Int) ∧ (q : Int) < x + (n : Int) := by
  have e1 := h.hf
  have e2 := h.hb
  refine ⟨by omega, by omega, by omega, by omega⟩
theorem Span.of (h : Span d x n f bh) {q : Int} (h1 : (d.nx : Int) ≤ q) (h2 : q < (d.bound : Int)) (h3 : x ≤ q) (h4 : q < x + (n : Int)) : (f : Int) ≤ q ∧ q < (bh : Int) := by
  have e1 := h.hf
  have e2 := h.hb
  exact ⟨by omega, by omega⟩
/-- What is there of what came ahead once the numbers below q were told. -/
def Dr.mid (d : Dr) (x : Int) (b : List UInt8) (f q : Int) : Int → Option UInt8 := fun k => if (d.nx : Int) ≤ k then (if d.newAt k && decide (f ≤ k ∧ k < q) then some (b.getD (k - x).toNat 0) else d.M k.toNat) else none
theorem mid_start (k : Int) : ahd d.M d.nx k = d.mid x b (f : Int) (f : Int) k := by
  unfold ahd Dr.mid
  rw [decide_eq_false (by omega), Bool.and_false]
  rfl
theorem mid_yes {q : Nat} (hq : d.nx ≤ q) (hf : f ≤ q) (hn : d.newAt (q : Int) = true) (k : Int) : (if k = (q : Int) then some (b.getD ((q : Int) - x).toNat 0) else d.mid x b (f : Int) (q : Int) k) = d.mid x b (f : Int) ((q + 1 : Nat) : Int) k := by
  unfold Dr.mid
  by_cases hk : k = (q : Int)
  · subst hk
    rw [if_pos rfl, if_pos (by omega), hn, decide_eq_true (by omega)]
    rfl
  · rw [if_neg hk]
    have : decide ((f : Int) ≤ k ∧ k < (q : Int)) = decide ((f : Int) ≤ k ∧ k < ((q + 1 : Nat) : Int)) := by
      rw [decide_eq_decide]
      omega
    rw [this]
theorem mid_no {q : Nat} (hn : d.newAt (q : Int) = false) (k : Int) : d.mid x b (f : Int) (q : Int) k = d.mid x b (f : Int) ((q + 1 : Nat) : Int) k := by
  unfold Dr.mid
  by_cases hk : k = (q : Int)
  · subst hk
    rw [hn]
    rfl
  · have : decide ((f : Int) ≤ k ∧ k < (q : Int)) = decide ((f : Int) ≤ k ∧ k < ((q + 1 : Nat) : Int)) := by
      rw [decide_eq_decide]
      omega
    rw [this]
theorem mid_end (h : Span d x b.length f bh) (hok : d.ok) (k : Int) : d.mid x b (f : Int) (bh : Int) k = ahd (d.putM x b b.length) d.nx k := by
  unfold Dr.mid ahd Dr.putM
  by_cases hk : (d.nx : Int) ≤ k
  · rw [if_pos hk, if_pos hk]
    have hkn : ((k.toNat : Nat) : Int) = k := by omega
    rw [hkn]
    by_cases hn : d.newAt k = true
    · have hb := (Dr.newAt_iff.1 hn).2.1
      rw [hn]
      have : decide ((f : Int) ≤ k ∧ k < (bh : Int)) = decide (x ≤ k ∧ k < x + (b.length : Int)) := by
        rw [decide_eq_decide]
        constructor
        · rintro ⟨h1, h2⟩
          have := h.in_ (q := k.toNat) (by omega) (by omega)
          omega
        · rintro ⟨h1, h2⟩
          exact h.of hk hb h1 h2
      rw [this]
    · have hn' : d.newAt k = false := by simpa using hn
      rw [hn']
      rfl
  · rw [if_neg hk, if_neg hk]
theorem newAt_in (hok : d.ok) {q : Nat} (h1 : d.nx ≤ q) (h2 : q < d.bound) : d.newAt (q : Int) = (d.M q).isNone := by
  have := hok.lo
  unfold Dr.newAt
  rw [decide_eq_true (by omega), Int.toNat_natCast]
  rfl
theorem inR_span (h : Span d x n f bh) (hok : d.ok) (hx : x ≤ 2147483648) (ht : d.t ≤ 1000) : inR (f : Int) ((bh : Int) - (f : Int)) = ((f : Int), (bh : Int) - (f : Int)) := by
  have := h.lt hok
  have h1 := h.hf
  have h2 := hok.cap
  unfold inR
  rw [if_neg (by omega)]
  congr 1
  omega
variable {l l' : List Rn}
theorem ls_put (h : Span d x b.length f bh) (hok : d.ok) (hx : x ≤ 2147483648) (ht : d.t ≤ 1000) (L : Ls l d.M d.nx) (ha : AddR l (inR (f : Int) ((bh : Int) - (f : Int))) l') : Ls l' (d.putM x b b.length) d.nx := fun k => by
  have hlo := hok.lo
  have hl := h.lt hok
  rw [ha.has, L k, inR_span h hok hx ht, Dr.putM_some]
  dsimp only
  constructor
  · rintro (⟨h1, h2⟩ | ⟨h1, h2⟩)
    · exact ⟨h1, .inl h2⟩
    · have := h.in_ (q := k.toNat) (by omega) (by omega)
      exact ⟨by omega, .inr ⟨by omega, by omega, by omega, by omega⟩⟩
  · rintro ⟨h1, h2 | ⟨h2, h3, h4, h5⟩⟩
    · exact .inl ⟨h1, h2⟩
    · have := h.of (q := k) h1 (by omega) (by omega) (by omega)
      exact .inr (by omega)
/-- The numbers that came ahead, as truths. -/
def ahB (d : Dr) (k : Nat) : Bool := decide (d.nx ≤ k) && inM d.M k
theorem many_put (h : Span d x b.length f bh) (hok : d.ok) (hx : x ≤ 2147483648) (ht : d.t ≤ 1000) (tl : Tid 0 l) (tl' : Tid 0 l') (L : Ls l d.M d.nx) (ha : AddR l (inR (f : Int) ((bh : Int) - (f : Int))) l') : many l' - many l = (d.hits x b.length : Int) := by
  obtain ⟨l1, l2, l3⟩ := h.lt hok
  have e1 : many l = cntn (ahB d) (d.rd + 33 + bh) := many_cntn (N := d.rd + 33 + bh) tl (Int.le_refl 0) (fun i _ => by
    rw [L (i : Int)]
    unfold ahB
    rw [Bool.and_eq_true, decide_eq_true_iff, Int.toNat_natCast]
    exact ⟨fun ⟨a, b⟩ => ⟨by omega, b⟩, fun ⟨a, b⟩ => ⟨by omega, b⟩⟩) (fun k hk => by
    obtain ⟨h1, h2⟩ := (L k).1 hk
    have := hok.win _ h2
    omega)
  have e2 : many l' = cntn (fun k => ahB d k || decide (f ≤ k ∧ k < bh)) (d.rd + 33 + bh) := many_cntn (N := d.rd + 33 + bh) tl' (Int.le_refl 0) (fun i _ => by
    rw [ha.has, L (i : Int), inR_span h hok hx ht]
    unfold ahB
    rw [Bool.or_eq_true, Bool.and_eq_true, decide_eq_true_iff, decide_eq_true_iff, Int.toNat_natCast]
    dsimp only
    constructor
    · rintro (⟨a, b⟩ | a)
      · exact .inl ⟨by omega, b⟩
      · exact .inr (by omega)
    · rintro (⟨a, b⟩ | a)
      · exact .inl ⟨by omega, b⟩
      · exact .inr (by omega)) (fun k hk => by
    rw [ha.has, L k, inR_span h hok hx ht] at hk
    dsimp only at hk
    rcases hk with ⟨h1, h2⟩ | h1
    · have := hok.win _ h2
      omega
    · omega)
  have e3 := cntn_lose (ahB d) f bh (d.rd + 33 + bh)
  rw [e1, e2, e3, show min (d.rd + 33 + bh) bh - f = bh - f from by omega, hok.hits h.hf b.length]
  have e4 : max f (min (x + (b.length : Int)) (d.bound : Int)).toNat - f = bh - f := by have := h.hb; omega
  rw [e4, kept_congr (L := ahB d) (L' := inM d.M) (bh - f) (fun k h1 _ => by
    unfold ahB
    rw [decide_eq_true (by omega), Bool.true_and])]
  omega
end
/-- Bytes don't lie in a map. -/
theorem rb_map {w : World} {A : Option Addr} {n c : Nat} {l : List UInt8} (h : RB w A n c l) {mb : Nat} {es : Array MapEntry} {cl : Nat} (hm : w.heap[mb]? = some (.map es cl)) : ∀ g o s, A = some ⟨g, o, s⟩ → 0 < n → ¬ g = mb := by
  rintro g o s rfl hn rfl
  obtain ⟨b', o', e, hc⟩ := h.at_ (j := 0) hn
  injection e with e
  injection e with e1 e2 e3
  subst e1
  unfold World.cell? at hc
  rw [hm] at hc
  simp at hc
end Go.Proofs.Ytancbdnpmabpfaa
