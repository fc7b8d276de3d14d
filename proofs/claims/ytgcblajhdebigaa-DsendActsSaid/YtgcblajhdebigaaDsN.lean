/- The runs of what is lost beside which numbers are: the first of them, some taken, some put in, how many. No condition. -/
import Derived.Test.YtgcblajhdebigaaDsB
import Derived.Test.YtgcblajhdebigaaSpN
namespace Go.Proofs.Ytgcblajhdebigaa
set_option linter.unusedVariables false
set_option linter.unusedSimpArgs false

def cntn (b : Nat → Bool) : Nat → Int
  | 0 => 0
  | n + 1 => cntn b n + if b n then 1 else 0
theorem cntn_false {b : Nat → Bool} : ∀ {n : Nat}, (∀ i, i < n → b i = false) → cntn b n = 0
  | 0, _ => rfl
  | n + 1, h => by
    show cntn b n + _ = 0
    rw [cntn_false (n := n) (fun i hi => h i (by omega)), h n (by omega)]
    rfl
theorem cntn_iv {b b' : Nat → Bool} {a k : Nat} : ∀ N : Nat, (∀ i, i < N → a ≤ i → i < a + k → b i = true ∧ b' i = false) → (∀ i, i < N → ¬ (a ≤ i ∧ i < a + k) → b i = b' i) → cntn b N = cntn b' N + ((min N (a + k) : Nat) : Int) - ((min N a : Nat) : Int)
  | 0, _, _ => by
    show (0 : Int) = 0 + _ - _
    simp
  | N + 1, h1, h2 => by
    have ih := cntn_iv (b := b) (b' := b') (a := a) (k := k) N (fun i hi => h1 i (by omega)) (fun i hi => h2 i (by omega))
    show cntn b N + (if b N then 1 else 0) = cntn b' N + (if b' N then 1 else 0) + _ - _
    by_cases h : a ≤ N ∧ N < a + k
    · obtain ⟨e1, e2⟩ := h1 N (by omega) h.1 h.2
      rw [e1, e2, ih]
      simp only [if_true, Bool.false_eq_true, if_false]
      omega
    · rw [h2 N (by omega) h, ih]
      omega
theorem many_cntn : ∀ {l : List Rn} {b : Nat → Bool} {lo : Int} {N : Nat}, Tid lo l → 0 ≤ lo → (∀ i : Nat, i < N → (b i = true ↔ Has l (i : Int))) → (∀ n, Has l n → n < (N : Int)) → many l = cntn b N
  | [], b, lo, N, _, _, h, _ => by
    rw [cntn_false (fun i hi => by
      cases hb : b i with
      | false => rfl
      | true => exact absurd ((h i hi).1 hb) (has_nil _))]
    rfl
  | r :: t, b, lo, N, ht, hlo, h, htop => by
    obtain ⟨t1, t2, t3, t4⟩ := ht
    have ih := many_cntn (l := t) (b := fun i => if (i : Int) < r.1 + r.2 then false else b i) (N := N) t4 (by omega) (fun i hi => by
      try dsimp only
      by_cases hlt : (i : Int) < r.1 + r.2
      · rw [if_pos hlt]
        exact ⟨fun e => by (cases e), fun hh => by have := (has_ge t4 hh).1; omega⟩
      · rw [if_neg hlt, h i hi, has_cons]
        exact ⟨fun hh => hh.resolve_left (by omega), .inr⟩) (fun n hn => htop n (has_cons.2 (.inr hn)))
    have hend : r.1 + r.2 ≤ (N : Int) := by have := htop (r.1 + r.2 - 1) (has_cons.2 (.inl ⟨by omega, by omega⟩)); omega
    have hiv := cntn_iv (b := b) (b' := fun i => if (i : Int) < r.1 + r.2 then false else b i) (a := r.1.toNat) (k := r.2.toNat) N (fun i hi h1 h2 => by
      refine ⟨(h i hi).2 (has_cons.2 (.inl ⟨by omega, by omega⟩)), ?_⟩
      try dsimp only
      rw [if_pos (by omega)]) (fun i hi hn => by
      try dsimp only
      by_cases hlt : (i : Int) < r.1 + r.2
      · rw [if_pos hlt]
        cases hb : b i with
        | false => rfl
        | true =>
          rcases has_cons.1 ((h i hi).1 hb) with hh | hh
          · omega
          · have := (has_ge t4 hh).1
            omega
      · rw [if_neg hlt])
    rw [many_cons, ih, hiv]
    omega
theorem cntn_lose (L : Nat → Bool) (f t : Nat) : ∀ N : Nat, cntn (fun k => L k || decide (f ≤ k ∧ k < t)) N = cntn L N + (kept L f (min N t - f) : Int)
  | 0 => by
    show (0 : Int) = 0 + _
    rw [show min 0 t - f = 0 from by omega]
    rfl
  | N + 1 => by
    have ih := cntn_lose L f t N
    show cntn (fun k => L k || decide (f ≤ k ∧ k < t)) N + (if (L N || decide (f ≤ N ∧ N < t)) = true then 1 else 0) = cntn L N + (if L N = true then 1 else 0) + _
    rw [ih]
    by_cases h : f ≤ N ∧ N < t
    · rw [decide_eq_true h, Bool.or_true, if_pos rfl, show min (N + 1) t - f = (min N t - f) + 1 from by omega]
      rw [show kept L f (min N t - f + 1) = kept L f (min N t - f) + if L (f + (min N t - f)) then 0 else 1 from rfl, show f + (min N t - f) = N from by omega]
      cases hL : L N
      · simp; omega
      · simp; omega
    · rw [decide_eq_false h, Bool.or_false, show min (N + 1) t - f = min N t - f from by omega]
      omega

section
variable {l l' : List Rn} {L : Nat → Bool}
theorem Ls.at_ (h : Ls l L) (k : Nat) : L k = true ↔ Has l (k : Int) := by
  rw [h (k : Int)]
  simp
theorem ls_many (ht : Tid 0 l) (h : Ls l L) {N : Nat} (hN : ∀ k, L k = true → k < N) : many l = cntn L N :=
  many_cntn (N := N) ht (Int.le_refl 0) (fun i _ => h.at_ i) (fun n hn => by
    obtain ⟨h1, h2⟩ := (h n).1 hn
    have := hN _ h2
    omega)
theorem ls_nil (h : Ls [] L) (k : Nat) : L k = false := by
  cases hk : L k with
  | false => rfl
  | true => exact absurd ((h.at_ k).1 hk) (has_nil _)
theorem ls_head {r : Rn} {t : List Rn} (ht : Tid 0 (r :: t)) (h : Ls (r :: t) L) : 0 ≤ r.1 ∧ 1 ≤ r.2 ∧ r.1 + r.2 ≤ 4294967296 ∧ (∀ k : Nat, (k : Int) < r.1 → L k = false) ∧ (∀ k : Nat, r.1 ≤ (k : Int) → (k : Int) < r.1 + r.2 → L k = true) ∧ L (r.1 + r.2).toNat = false := by
  obtain ⟨t1, t2, t3, t4⟩ := ht
  refine ⟨t1, t2, t3, fun k hk => ?_, fun k h1 h2 => (h.at_ k).2 (has_cons.2 (.inl ⟨h1, h2⟩)), ?_⟩
  · cases hb : L k with
    | false => rfl
    | true =>
      rcases has_cons.1 ((h.at_ k).1 hb) with hh | hh
      · omega
      · have := (has_ge t4 hh).1
        omega
  · cases hb : L (r.1 + r.2).toNat with
    | false => rfl
    | true =>
      rcases has_cons.1 ((h.at_ _).1 hb) with hh | hh
      · omega
      · have := (has_ge t4 hh).1
        omega
end

/-- The run of which a beginning is to be sent. -/
def Dq.run (d : Dq) (l : List Rn) : Rn := match l with
  | [] => ((d.next : Int), ((min d.edge d.fin - d.next : Nat) : Int))
  | r :: _ => r
theorem Dq.run_nil (d : Dq) : d.run [] = ((d.next : Int), ((min d.edge d.fin - d.next : Nat) : Int)) := rfl
theorem Dq.ok.run {d : Dq} (h : d.ok) {l : List Rn} (ht : Tid 0 l) (hl : Ls l d.L) : (d.run l).1 = (d.from_ : Int) ∧ 0 ≤ (d.run l).2 ∧ (∀ m : Nat, 1 ≤ m → (d.most m : Int) = min (d.run l).2 (m : Int)) ∧ (l = [] → d.from_ = d.next) ∧ (l ≠ [] → d.from_ < d.next ∧ 1 ≤ (d.run l).2) := by
  cases l with
  | nil =>
    have hf : d.from_ = d.next := by
      have := h.un
      unfold Dq.from_
      rw [seek_none (fun j _ _ => ls_nil hl j)]
      omega
    refine ⟨by rw [hf]; rfl, by unfold Dq.run; dsimp only; omega, fun m hm => ?_, fun _ => hf, fun e => absurd rfl e⟩
    have e : d.most m = min m (min d.edge d.fin - d.next) := by
      unfold Dq.most
      rw [if_neg (by omega)]
    rw [e, Dq.run_nil]
    dsimp only
    omega
  | cons r t =>
    obtain ⟨r1, r2, r3, r4, r5, r6⟩ := ls_head ht hl
    have hun := h.un
    have hL : d.L r.1.toNat = true := r5 _ (by omega) (by omega)
    have hin := h.lost _ hL
    have hf : d.from_ = r.1.toNat := by
      unfold Dq.from_
      exact seek_eq hin.1 (by omega) (fun j _ hj => r4 j (by omega)) hL
    refine ⟨by rw [hf]; show r.1 = _; omega, by show 0 ≤ r.2; omega, fun m hm => ?_, (fun e => by cases e), fun _ => ⟨by omega, r2⟩⟩
    have e : d.most m = runl d.L d.from_ m := by
      unfold Dq.most
      rw [if_pos (by omega)]
    have e2 : runl d.L d.from_ m = min r.2.toNat m := runl_eq (by omega) (fun j h1 h2 => r5 j (by omega) (by omega)) (fun hlt => by
      have : d.from_ + min r.2.toNat m = (r.1 + r.2).toNat := by omega
      rw [this]
      exact r6)
    rw [e, e2]
    show _ = min r.2 (m : Int)
    omega
theorem ls_take {d : Dq} (h : d.ok) {l l' : List Rn} (hl : Ls l d.L) {m : Nat} {b : Int} (hb : b = ((d.from_ + d.most m : Nat) : Int)) (hd : DropR l b l') : Ls l' (d.take m).L := fun n => by
  rw [hd.has, hl n]
  have hlow := h.from_.2.2.1
  show _ ↔ 0 ≤ n ∧ (d.L n.toNat && !decide (d.from_ ≤ n.toNat ∧ n.toNat < d.from_ + d.most m)) = true
  rw [Bool.and_eq_true, Bool.not_eq_true', decide_eq_false_iff_not]
  constructor
  · rintro ⟨⟨h1, h2⟩, h3⟩
    exact ⟨h1, h2, by omega⟩
  · rintro ⟨h1, h2, h3⟩
    refine ⟨⟨h1, h2⟩, ?_⟩
    rcases Nat.lt_or_ge n.toNat d.from_ with hh | hh
    · rw [hlow _ hh] at h2
      cases h2
    · omega
theorem ls_ack {d : Dq} {l l' : List Rn} (hl : Ls l d.L) {a win : Nat} (hd : DropR l ((min a d.fin : Nat) : Int) l') : Ls l' (d.ack a win).L := fun n => by
  rw [hd.has, hl n]
  show _ ↔ 0 ≤ n ∧ (d.L n.toNat && decide (min a d.fin ≤ n.toNat)) = true
  rw [Bool.and_eq_true, decide_eq_true_iff]
  exact ⟨fun ⟨⟨h1, h2⟩, h3⟩ => ⟨h1, h2, by omega⟩, fun ⟨h1, h2, h3⟩ => ⟨⟨h1, h2⟩, by omega⟩⟩
theorem ls_lose {d : Dq} {l l' : List Rn} (hl : Ls l d.L) {f t : Nat} (hft : f ≤ t) (ht : t ≤ 4294967296) (ha : AddR l (inR (f : Int) ((t : Int) - (f : Int))) l') : Ls l' (d.lose f t).L := fun n => by
  rw [ha.has, hl n]
  have e : inR (f : Int) ((t : Int) - (f : Int)) = ((f : Int), (t : Int) - (f : Int)) := by
    unfold inR
    rw [if_neg (by omega)]
    congr 1
    omega
  rw [e]
  dsimp only
  show _ ↔ 0 ≤ n ∧ (d.L n.toNat || decide (f ≤ n.toNat ∧ n.toNat < t)) = true
  rw [Bool.or_eq_true, decide_eq_true_iff]
  constructor
  · rintro (⟨h1, h2⟩ | ⟨h1, h2⟩)
    · exact ⟨h1, .inl h2⟩
    · exact ⟨by omega, .inr (by omega)⟩
  · rintro ⟨h1, h2 | h2⟩
    · exact .inl ⟨h1, h2⟩
    · exact .inr (by omega)
theorem many_lose {d : Dq} (h : d.ok) {l l' : List Rn} (ht : Tid 0 l) (ht' : Tid 0 l') (hl : Ls l d.L) {f t : Nat} (hf : d.una ≤ f) (hft : f ≤ t) (htn : t ≤ d.next ∨ f = t) (hl' : Ls l' (d.lose f t).L) : many l' - many l = (kept d.L f (t - f) : Int) := by
  have e1 := ls_many ht hl (N := d.next + t) (fun k hk => by have := h.lost k hk; omega)
  have e2 := ls_many ht' hl' (N := d.next + t) (fun k hk => by have := (h.lose hf htn).lost k hk; have : k < d.next := this.2; omega)
  have e3 := cntn_lose d.L f t (d.next + t)
  rw [e1, e2]
  show cntn (fun k => d.L k || decide (f ≤ k ∧ k < t)) _ - _ = _
  rw [e3, show min (d.next + t) t - f = t - f from by omega]
  omega
theorem many_zero {l : List Rn} (ht : Tid 0 l) : many l = 0 ↔ l = [] := by
  cases l with
  | nil => simp [many]
  | cons r t =>
    have h2 := ht.2.1
    have := many_nonneg ht.2.2.2
    rw [many_cons]
    constructor
    · intro h; omega
    · intro h; cases h
end Go.Proofs.Ytgcblajhdebigaa
