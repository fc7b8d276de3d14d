/- A set beside the document's one; the law SpanActs. Conditions: the acts lie where the slice says. -/
import Derived.Test.YteiojdmnfjcagaaSpT
namespace Go.Proofs.Yteiojdmnfjcagaa
set_option linter.unusedVariables false
set_option linter.unusedSimpArgs false
open Go.RowKit Go.Lib

theorem cnt_false {b : Nat → Bool} : ∀ {n : Nat}, (∀ i, i < n → b i = false) → cnt b n = 0
  | 0, _ => rfl
  | n + 1, h => by
    show cnt b n + _ = 0
    rw [cnt_false (n := n) (fun i hi => h i (by omega)), h n (by omega)]
    rfl
theorem cnt_iv {b b' : Nat → Bool} {a k : Nat} : ∀ N : Nat, (∀ i, i < N → a ≤ i → i < a + k → b i = true ∧ b' i = false) → (∀ i, i < N → ¬ (a ≤ i ∧ i < a + k) → b i = b' i) → cnt b N = cnt b' N + ((min N (a + k) : Nat) : Int) - ((min N a : Nat) : Int)
  | 0, _, _ => by
    show (0 : Int) = 0 + _ - _
    simp
  | N + 1, h1, h2 => by
    have ih := cnt_iv (b := b) (b' := b') (a := a) (k := k) N (fun i hi => h1 i (by omega)) (fun i hi => h2 i (by omega))
    show cnt b N + (if b N then 1 else 0) = cnt b' N + (if b' N then 1 else 0) + _ - _
    by_cases h : a ≤ N ∧ N < a + k
    · obtain ⟨e1, e2⟩ := h1 N (by omega) h.1 h.2
      rw [e1, e2, ih]
      simp only [if_true, Bool.false_eq_true, if_false]
      omega
    · rw [h2 N (by omega) h, ih]
      omega
theorem many_cnt : ∀ {l : List Rn} {b : Nat → Bool} {lo : Int} {N : Nat}, Tid lo l → 0 ≤ lo → (∀ i : Nat, i < N → (b i = true ↔ Has l (i : Int))) → (∀ n, Has l n → n < (N : Int)) → many l = cnt b N
  | [], b, lo, N, _, _, h, _ => by
    rw [cnt_false (fun i hi => by
      cases hb : b i with
      | false => rfl
      | true => exact absurd ((h i hi).1 hb) (has_nil _))]
    rfl
  | r :: t, b, lo, N, ht, hlo, h, htop => by
    obtain ⟨t1, t2, t3, t4⟩ := ht
    have ih := many_cnt (l := t) (b := fun i => if (i : Int) < r.1 + r.2 then false else b i) (N := N) t4 (by omega) (fun i hi => by
      try dsimp only
      by_cases hlt : (i : Int) < r.1 + r.2
      · rw [if_pos hlt]
        exact ⟨fun e => by (cases e), fun hh => by have := (has_ge t4 hh).1; omega⟩
      · rw [if_neg hlt, h i hi, has_cons]
        exact ⟨fun hh => hh.resolve_left (by omega), .inr⟩) (fun n hn => htop n (has_cons.2 (.inr hn)))
    have hend : r.1 + r.2 ≤ (N : Int) := by have := htop (r.1 + r.2 - 1) (has_cons.2 (.inl ⟨by omega, by omega⟩)); omega
    have hiv := cnt_iv (b := b) (b' := fun i => if (i : Int) < r.1 + r.2 then false else b i) (a := r.1.toNat) (k := r.2.toNat) N (fun i hi h1 h2 => by
      refine ⟨(h i hi).2 (has_cons.2 (.inl ⟨by omega, by omega⟩)), ?_⟩
      try dsimp only
      rw [if_pos (by omega)]) (fun i hi hn => by
      try dsimp only
      by_cases hlt : (i : Int) < r.1 + r.2
      · rw [if_pos hlt]
        cases hb : b i with
        | false => rfl
        | true =>
          rcases has_cons.1 ((h i hi).1 hb) with hh | hh
          · omega
          · have := (has_ge t4 hh).1
            omega
      · rw [if_neg hlt])
    rw [many_cons, ih, hiv]
    omega

/-- The same numbers, of those below 200. -/
structure Tw (l : List Rn) (b : Nat → Bool) : Prop where
  mem : ∀ i : Nat, i < 200 → (b i = true ↔ Has l (i : Int))
  top : ∀ n, Has l n → n < 200
theorem Tw.many {l : List Rn} {b : Nat → Bool} (h : Tw l b) (ht : Tid 0 l) : many l = cnt b 200 := many_cnt (N := 200) ht (Int.le_refl 0) h.mem h.top
theorem Tw.nil : Tw [] (fun _ => false) := ⟨fun i _ => ⟨fun e => (by cases e), fun h => absurd h (has_nil _)⟩, fun n h => absurd h (has_nil n)⟩
theorem Tw.add {l l' : List Rn} {b : Nat → Bool} (h : Tw l b) {f g : Int} (ha : AddR l (inR f g) l') (h1 : f < 200) (h2 : g ≤ 200) (h3 : ¬ (200 < f + max g 0 ∧ 0 < f)) : Tw l' (addB b (max f (-1099511627776)) g) := by
  have hc : ∀ n, 0 ≤ n → (((inR f g).1 ≤ n ∧ n < (inR f g).1 + (inR f g).2) ↔ (max f (-1099511627776) ≤ n ∧ n - max f (-1099511627776) < g ∧ n < 200) ∨ (max f (-1099511627776) ≤ n ∧ n - max f (-1099511627776) < g)) := fun n hn => by
    unfold inR
    split
    · dsimp only
      omega
    · dsimp only
      omega
  refine ⟨fun i hi => ?_, fun n hn => ?_⟩
  · rw [ha.has, ← h.mem i hi, hc (i : Int) (by omega)]
    unfold addB
    rw [Bool.or_eq_true, decide_eq_true_iff]
    refine or_congr_right ?_
    omega
  · rcases (ha.has n).1 hn with hn | hn
    · exact h.top n hn
    · unfold inR at hn
      split at hn
      · dsimp only at hn
        omega
      · dsimp only at hn
        omega
theorem Tw.drop {l l' : List Rn} {b : Nat → Bool} (h : Tw l b) {x : Int} (hd : DropR l x l') : Tw l' (dropB b x) := by
  refine ⟨fun i hi => ?_, fun n hn => h.top n ((hd.has n).1 hn).1⟩
  rw [hd.has, ← h.mem i hi]
  unfold dropB
  rw [Bool.and_eq_true, Bool.not_eq_true', decide_eq_false_iff_not, Int.not_lt]
theorem Tw.hasB {l : List Rn} {b : Nat → Bool} (h : Tw l b) {i : Nat} (hi : i < 200) {c : Bool} (hc : hasB l (i : Int) c) : c = b i := by
  have h1 := h.mem i hi
  unfold Proofs.Yteiojdmnfjcagaa.hasB at hc
  cases c <;> cases hb : b i
  · rfl
  · exact absurd (hc.2 (h1.1 hb)) (by decide)
  · have := h1.2 (hc.1 rfl)
    rw [hb] at this
    cases this
  · rfl
theorem Tw.next {l : List Rn} {b : Nat → Bool} (h : Tw l b) {f x : Int} {q y : Nat} (hq : max f 0 = (q : Int)) (hx : NxR l f x) (hy : NxB 200 b q y) : x = (y : Int) := by
  obtain ⟨x1, x2, x3, _⟩ := hx
  obtain ⟨y1, y2, y3, y4⟩ := hy
  rcases Int.lt_trichotomy x (y : Int) with hlt | heq | hgt
  · have hxn : (x.toNat : Int) = x := by omega
    have := (h.mem x.toNat (by omega)).1 (y3 x.toNat (by omega) (by omega))
    rw [hxn] at this
    exact absurd this x2
  · exact heq
  · have hm := x3 (y : Int) (by omega) hgt
    have h2 := h.top _ hm
    have := (h.mem y (by omega)).2 hm
    rw [y4 (by omega)] at this
    cases this

/-- Both sets in memory. -/
structure Bo (W w : World) (sb : Nat) (v : Value) (l : List Rn) (xb rb : Nat) (b : Nat → Bool) : Prop where
  s : Sg W w sb v l
  x : Rx w xb rb 200 b
  lo : W.heap.size ≤ rb
  ap : xb ≠ sb ∧ rb ≠ sb ∧ v.ownBlock ≠ some xb ∧ v.ownBlock ≠ some rb
section
variable {W w w' : World} {sb : Nat} {v v' : Value} {l l' : List Rn} {xb rb : Nat} {b b' : Nat → Bool}
theorem Bo.below (h : Bo W w sb v l xb rb b) (k : Below w.heap.size w w') : Bo W w' sb v l xb rb b := ⟨h.s.below k, h.x.below k, h.lo, h.ap⟩
theorem Bo.stepS (h : Bo W w sb v l xb rb b) (s : St w' sb v' l') (c : Ch w w' (fun k => k = sb ∨ v.ownBlock = some k)) (o : ∀ k, v'.ownBlock = some k → v.ownBlock = some k ∨ w.heap.size ≤ k) : Bo W w' sb v' l' xb rb b :=
  ⟨h.s.step s c o, h.x.ch c (fun e => e.elim h.ap.1 h.ap.2.2.1) (fun e => e.elim h.ap.2.1 h.ap.2.2.2), h.lo, h.ap.1, h.ap.2.1, fun e => by
    rcases o xb e with e | e
    · exact h.ap.2.2.1 e
    · have := h.x.lt
      omega, fun e => by
    rcases o rb e with e | e
    · exact h.ap.2.2.2 e
    · have := h.x.rlt
      omega⟩
theorem Bo.stepX (h : Bo W w sb v l xb rb b) (x : Rx w' xb rb 200 b') (c : Ch w w' (fun k => k = rb)) : Bo W w' sb v l xb rb b' :=
  ⟨⟨h.s.st.ch c (fun e => h.ap.2.1 e.symm) (fun g hg e => h.ap.2.2.2 (by rw [hg, e])), ((Ch.of_below (fun k => k = rb) h.s.bel).then_ c).below (fun x hx e => by have := h.lo; omega), h.s.lo, h.s.own⟩, x, h.lo, h.ap⟩
end
end Go.Proofs.Yteiojdmnfjcagaa
