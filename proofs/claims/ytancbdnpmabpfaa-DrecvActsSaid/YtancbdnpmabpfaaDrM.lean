/- What a receiver is, as told: which numbers came, with what data; the first that didn't; how many were read; the end; what its calls make of it. No condition. -/
import Derived.Test.YtancbdnpmabpfaaSpM
import Derived.Test.YtancbdnpmabpfaaDsM
namespace Go.Proofs.Ytancbdnpmabpfaa
set_option linter.unusedVariables false
set_option linter.unusedSimpArgs false

/-- A receiver: the data by their numbers, the first number that didn't come, how many were read, the end's number (0: none), how many calls of Put there were at most. -/
structure Dr where
  M : Nat → Option UInt8
  nx : Nat
  rd : Nat
  en : Nat
  t : Nat
structure Dr.ok (d : Dr) : Prop where
  z : d.M 0 = none
  lo : d.rd + 1 ≤ d.nx
  all : ∀ n, 1 ≤ n → n < d.nx → (d.M n).isSome = true
  nxt : d.M d.nx = none
  win : ∀ n, (d.M n).isSome = true → n < d.rd + 33
  e1 : d.en ≠ 0 → d.nx ≤ d.en ∧ d.en ≤ d.rd + 33
  e2 : d.en ≠ 0 → ∀ n, (d.M n).isSome = true → n < d.en
  cap : d.nx ≤ 1 + 33 * d.t
def Dr.new : Dr := ⟨fun _ => none, 1, 0, 0, 0⟩
theorem Dr.new_ok : Dr.new.ok := ⟨rfl, by decide, (fun n h1 h2 => by have h2' : n < 1 := h2; omega), rfl, (fun n h => by cases h), fun h => absurd rfl h, fun h => absurd rfl h, by decide⟩
theorem Dr.ok.nx_le {d : Dr} (h : d.ok) : d.nx ≤ d.rd + 33 := by
  have h1 := h.lo
  rcases Nat.lt_or_ge 1 d.nx with h2 | h2
  · have := h.win _ (h.all (d.nx - 1) (by omega) (by omega))
    omega
  · omega

/-- The first number from k on, of so many, that has nothing; else the one behind them. -/
def nof (M : Nat → Option UInt8) : Nat → Nat → Nat
  | 0, k => k
  | n + 1, k => if (M k).isSome then nof M n (k + 1) else k
theorem nof_spec {M : Nat → Option UInt8} : ∀ (n k : Nat), k ≤ nof M n k ∧ nof M n k ≤ k + n ∧ (∀ j, k ≤ j → j < nof M n k → (M j).isSome = true) ∧ (nof M n k < k + n → M (nof M n k) = none)
  | 0, k => ⟨Nat.le_refl _, Nat.le_refl _, fun j h1 h2 => by unfold nof at h2; omega, fun h => by unfold nof at h; omega⟩
  | n + 1, k => by
    obtain ⟨h1, h2, h3, h4⟩ := nof_spec (M := M) n (k + 1)
    unfold nof
    cases hk : M k with
    | none => exact ⟨by simp, by simp, fun j h5 h6 => by simp at h6; omega, fun _ => by simpa using hk⟩
    | some b =>
      simp only [Option.isSome_some, if_true]
      refine ⟨by omega, by omega, fun j h5 h6 => ?_, fun h => h4 (by omega)⟩
      by_cases hj : j = k
      · subst hj; rw [hk]; rfl
      · exact h3 j (by omega) h6
/-- Where one without anything is near, it is found. -/
theorem nof_at {M : Nat → Option UInt8} {n k y : Nat} (hy : k ≤ y) (h2 : y ≤ k + n) (hn : M y = none) : nof M n k ≤ y ∧ M (nof M n k) = none := by
  obtain ⟨s1, s2, s3, s4⟩ := nof_spec (M := M) n k
  have hle : nof M n k ≤ y := by
    rcases Nat.lt_or_ge y (nof M n k) with h | h
    · have := s3 y hy h
      rw [hn] at this
      cases this
    · exact h
  refine ⟨hle, ?_⟩
  rcases Nat.lt_or_ge (nof M n k) (k + n) with h | h
  · exact s4 h
  · have : nof M n k = y := by omega
    rw [this]
    exact hn
theorem nof_eq {M : Nat → Option UInt8} {n k y : Nat} (hy : k ≤ y) (h2 : y ≤ k + n) (ha : ∀ j, k ≤ j → j < y → (M j).isSome = true) (hn : M y = none) : nof M n k = y := by
  obtain ⟨s1, s2, s3, s4⟩ := nof_spec (M := M) n k
  obtain ⟨h1, h3⟩ := nof_at hy h2 hn
  rcases Nat.lt_or_ge (nof M n k) y with h | h
  · have := ha _ s1 h
    rw [h3] at this
    cases this
  · omega

/-! Put. -/
def Dr.bound (d : Dr) : Nat := if d.en = 0 then d.rd + 33 else d.en
/-- This number may come, and didn't. -/
def Dr.newAt (d : Dr) (m : Int) : Bool := decide (1 ≤ m ∧ m < (d.bound : Int)) && (d.M m.toNat).isNone
/-- What is there once the first k bytes were told. -/
def Dr.putM (d : Dr) (x : Int) (b : List UInt8) (k : Nat) : Nat → Option UInt8 := fun n => if d.newAt (n : Int) && decide (x ≤ (n : Int) ∧ (n : Int) < x + (k : Int)) then some (b.getD ((n : Int) - x).toNat 0) else d.M n
/-- How many of the first k bytes came. -/
def Dr.hits (d : Dr) (x : Int) : Nat → Nat
  | 0 => 0
  | k + 1 => d.hits x k + if d.newAt (x + (k : Int)) then 1 else 0
def Dr.put (d : Dr) (x : Int) (b : List UInt8) : Dr := { d with M := d.putM x b b.length, nx := nof (d.putM x b b.length) 33 d.nx, t := d.t + 1 }

section
variable {d : Dr} {x : Int} {b : List UInt8}
theorem Dr.putM_zero : d.putM x b 0 = d.M := by
  funext n
  unfold Dr.putM
  rw [decide_eq_false (by omega), Bool.and_false]
  rfl
theorem Dr.newAt_false {m : Int} (h : d.newAt m = false) (n : Nat) (hn : (n : Int) = m) : ¬ (1 ≤ n ∧ n < d.bound ∧ d.M n = none) := by
  rintro ⟨h1, h2, h3⟩
  unfold Dr.newAt at h
  rw [← hn, decide_eq_true (by omega), Int.toNat_natCast, h3] at h
  cases h
theorem Dr.newAt_iff {m : Int} : d.newAt m = true ↔ 1 ≤ m ∧ m < (d.bound : Int) ∧ d.M m.toNat = none := by
  unfold Dr.newAt
  rw [Bool.and_eq_true, decide_eq_true_iff, Option.isNone_iff_eq_none]
  exact ⟨fun ⟨⟨a, b⟩, c⟩ => ⟨a, b, c⟩, fun ⟨a, b, c⟩ => ⟨⟨a, b⟩, c⟩⟩
theorem Dr.putM_no {k : Nat} (h : d.newAt (x + (k : Int)) = false) : d.putM x b (k + 1) = d.putM x b k := by
  funext n
  unfold Dr.putM
  by_cases hn : (n : Int) = x + (k : Int)
  · rw [hn, h]
    rfl
  · congr 3
    rw [decide_eq_decide]
    omega
theorem Dr.putM_yes {k : Nat} (h : d.newAt (x + (k : Int)) = true) : d.putM x b (k + 1) = fun n => if n = (x + (k : Int)).toNat then some (b.getD k 0) else d.putM x b k n := by
  funext n
  have hk := (Dr.newAt_iff.1 h).1
  unfold Dr.putM
  by_cases hn : (n : Int) = x + (k : Int)
  · rw [hn, h, decide_eq_true (by omega), if_pos (by omega : n = (x + (k : Int)).toNat)]
    simp only [Bool.and_self, if_true]
    congr 2
    omega
  · rw [if_neg (by omega : ¬ n = (x + (k : Int)).toNat)]
    congr 3
    rw [decide_eq_decide]
    omega
/-- What came stays. -/
theorem Dr.putM_old {k n : Nat} (h : (d.M n).isSome = true) : d.putM x b k n = d.M n := by
  unfold Dr.putM
  have : d.newAt (n : Int) = false := by
    cases hn : d.newAt (n : Int) with
    | false => rfl
    | true =>
      have := (Dr.newAt_iff.1 hn).2.2
      rw [Int.toNat_natCast] at this
      rw [this] at h
      cases h
  rw [this]
  rfl
theorem Dr.putM_some {k n : Nat} : (d.putM x b k n).isSome = true ↔ (d.M n).isSome = true ∨ (1 ≤ n ∧ n < d.bound ∧ x ≤ (n : Int) ∧ (n : Int) < x + (k : Int)) := by
  by_cases h : (d.M n).isSome = true
  · rw [Dr.putM_old h]
    exact ⟨.inl, fun _ => h⟩
  · have hM : d.M n = none := by simpa using h
    unfold Dr.putM
    by_cases hc : (1 ≤ n ∧ n < d.bound) ∧ x ≤ (n : Int) ∧ (n : Int) < x + (k : Int)
    · have h1 : d.newAt (n : Int) = true := Dr.newAt_iff.2 ⟨by omega, by omega, by rw [Int.toNat_natCast]; exact hM⟩
      rw [h1, decide_eq_true hc.2]
      exact ⟨fun _ => .inr ⟨hc.1.1, hc.1.2, hc.2⟩, fun _ => rfl⟩
    · constructor
      · intro hs
        split at hs
        · rename_i hh
          rw [Bool.and_eq_true, decide_eq_true_iff, Dr.newAt_iff] at hh
          exact absurd ⟨⟨by omega, by omega⟩, hh.2⟩ hc
        · exact absurd hs h
      · rintro (hh | ⟨h1, h2, h3⟩)
        · exact absurd hh h
        · exact absurd ⟨⟨h1, h2⟩, h3⟩ hc
theorem Dr.ok.bound_le (h : d.ok) : d.nx ≤ d.bound ∧ d.bound ≤ d.rd + 33 ∧ (∀ n, (d.M n).isSome = true → n < d.bound) := by
  have h1 := h.nx_le
  unfold Dr.bound
  split
  · exact ⟨h1, Nat.le_refl _, h.win⟩
  · rename_i he
    exact ⟨(h.e1 he).1, (h.e1 he).2, h.e2 he⟩
theorem Dr.ok.put_nx (h : d.ok) : d.nx ≤ (d.put x b).nx ∧ (d.put x b).nx ≤ d.bound ∧ d.putM x b b.length (d.put x b).nx = none ∧ (∀ j, d.nx ≤ j → j < (d.put x b).nx → (d.putM x b b.length j).isSome = true) := by
  obtain ⟨b1, b2, b3⟩ := h.bound_le
  have hlo := h.lo
  have hn : d.putM x b b.length d.bound = none := by
    cases hc : d.putM x b b.length d.bound with
    | none => rfl
    | some v =>
      have : (d.putM x b b.length d.bound).isSome = true := by rw [hc]; rfl
      rcases Dr.putM_some.1 this with hh | hh
      · exact absurd (b3 _ hh) (by omega)
      · omega
  obtain ⟨s1, s2, s3, s4⟩ := nof_spec (M := d.putM x b b.length) 33 d.nx
  obtain ⟨a1, a2⟩ := nof_at (M := d.putM x b b.length) (n := 33) b1 (by omega) hn
  exact ⟨s1, a1, a2, s3⟩
theorem Dr.ok.put (h : d.ok) : (d.put x b).ok := by
  obtain ⟨b1, b2, b3⟩ := h.bound_le
  obtain ⟨p1, p2, p3, p4⟩ := h.put_nx (x := x) (b := b)
  have hlo := h.lo
  have hcap := h.cap
  refine ⟨?_, Nat.le_trans hlo p1, fun n h1 h2 => ?_, p3, fun n hn => ?_, fun he => ?_, fun he n hn => ?_, ?_⟩
  · cases hc : d.putM x b b.length 0 with
    | none => exact hc
    | some v =>
      have : (d.putM x b b.length 0).isSome = true := by rw [hc]; rfl
      rcases Dr.putM_some.1 this with hh | hh
      · rw [h.z] at hh
        cases hh
      · omega
  · rcases Nat.lt_or_ge n d.nx with hh | hh
    · exact Dr.putM_some.2 (.inl (h.all n h1 hh))
    · exact p4 n hh h2
  · rcases Dr.putM_some.1 hn with hh | hh
    · exact h.win n hh
    · show n < d.rd + 33
      omega
  · have he' : d.en ≠ 0 := he
    refine ⟨?_, (h.e1 he').2⟩
    unfold Dr.bound at p2
    rw [if_neg he'] at p2
    exact p2
  · have he' : d.en ≠ 0 := he
    rcases Dr.putM_some.1 hn with hh | hh
    · exact h.e2 he' n hh
    · have hb := hh.2.1
      unfold Dr.bound at hb
      rw [if_neg he'] at hb
      exact hb
  · show (d.put x b).nx ≤ 1 + 33 * (d.t + 1)
    omega
/-- Which numbers came. -/
def inM (M : Nat → Option UInt8) (n : Nat) : Bool := (M n).isSome
/-- What the program counts: the numbers from the first to be told on that didn't come. -/
theorem Dr.ok.hits (h : d.ok) {f : Nat} (hf : (f : Int) = max x (d.nx : Int)) : ∀ k : Nat, d.hits x k = kept (inM d.M) f (max f (min (x + (k : Int)) (d.bound : Int)).toNat - f)
  | 0 => by
    have : max f (min (x + ((0 : Nat) : Int)) (d.bound : Int)).toNat - f = 0 := by omega
    rw [this]
    rfl
  | k + 1 => by
    obtain ⟨b1, b2, b3⟩ := h.bound_le
    have hlo := h.lo
    have ih := Dr.ok.hits h hf k
    show d.hits x k + _ = _
    rw [ih]
    by_cases hn : d.newAt (x + (k : Int)) = true
    · obtain ⟨n1, n2, n3⟩ := Dr.newAt_iff.1 hn
      have hge : (d.nx : Int) ≤ x + (k : Int) := by
        rcases Int.lt_or_le (x + (k : Int)) (d.nx : Int) with hh | hh
        · have := h.all (x + (k : Int)).toNat (by omega) (by omega)
          rw [n3] at this
          cases this
        · exact hh
      rw [if_pos hn, show max f (min (x + ((k + 1 : Nat) : Int)) (d.bound : Int)).toNat - f = (max f (min (x + (k : Int)) (d.bound : Int)).toNat - f) + 1 from by omega]
      show _ = kept _ f (max f (min (x + (k : Int)) (d.bound : Int)).toNat - f) + _
      rw [show f + (max f (min (x + (k : Int)) (d.bound : Int)).toNat - f) = (x + (k : Int)).toNat from by omega]
      rw [show inM d.M (x + (k : Int)).toNat = false from by unfold inM; rw [n3]; rfl]
      rfl
    · rw [if_neg hn]
      by_cases hr : (d.nx : Int) ≤ x + (k : Int) ∧ x + (k : Int) < (d.bound : Int)
      · have hs : (d.M (x + (k : Int)).toNat).isSome = true := by
          cases hc : d.M (x + (k : Int)).toNat with
          | some v => rfl
          | none => exact absurd (Dr.newAt_iff.2 ⟨by omega, hr.2, hc⟩) hn
        rw [show max f (min (x + ((k + 1 : Nat) : Int)) (d.bound : Int)).toNat - f = (max f (min (x + (k : Int)) (d.bound : Int)).toNat - f) + 1 from by omega]
        show _ = kept _ f (max f (min (x + (k : Int)) (d.bound : Int)).toNat - f) + _
        rw [show f + (max f (min (x + (k : Int)) (d.bound : Int)).toNat - f) = (x + (k : Int)).toNat from by omega]
        rw [show inM d.M (x + (k : Int)).toNat = true from hs]
        rfl
      · rw [show max f (min (x + ((k + 1 : Nat) : Int)) (d.bound : Int)).toNat - f = max f (min (x + (k : Int)) (d.bound : Int)).toNat - f from by omega]
        rfl
end

/-! The data that may be read. -/
def datM (M : Nat → Option UInt8) (rd nx : Nat) : List UInt8 := (List.range (nx - 1 - rd)).map fun i => (M (rd + 1 + i)).getD 0
def Dr.held (d : Dr) : Nat := d.nx - 1 - d.rd
def Dr.dat (d : Dr) : List UInt8 := datM d.M d.rd d.nx
theorem datM_length (M : Nat → Option UInt8) (rd nx : Nat) : (datM M rd nx).length = nx - 1 - rd := by unfold datM; simp
theorem Dr.dat_length (d : Dr) : d.dat.length = d.held := datM_length _ _ _
theorem datM_succ {M : Nat → Option UInt8} {rd nx : Nat} (h : rd + 1 ≤ nx) : datM M rd (nx + 1) = datM M rd nx ++ [(M nx).getD 0] := by
  unfold datM
  rw [show nx + 1 - 1 - rd = (nx - 1 - rd) + 1 from by omega, List.range_succ, List.map_append]
  congr 1
  show [(M (rd + 1 + (nx - 1 - rd))).getD 0] = _
  rw [show rd + 1 + (nx - 1 - rd) = nx from by omega]
theorem datM_congr {M M' : Nat → Option UInt8} {rd nx : Nat} (h : ∀ n, rd + 1 ≤ n → n < nx → M n = M' n) : datM M rd nx = datM M' rd nx := by
  unfold datM
  apply List.map_congr_left
  intro i hi
  rw [List.mem_range] at hi
  rw [h _ (by omega) (by omega)]
theorem datM_getD (M : Nat → Option UInt8) (rd nx i : Nat) (hi : i < nx - 1 - rd) : (datM M rd nx).getD i 0 = (M (rd + 1 + i)).getD 0 := by
  unfold datM
  simp [hi]
theorem datM_drop (M : Nat → Option UInt8) (rd nx k : Nat) (hk : k ≤ nx - 1 - rd) : (datM M rd nx).drop k = datM M (rd + k) nx := by
  apply List.ext_getElem
  · rw [List.length_drop, datM_length, datM_length]; omega
  · intro i h1 h2
    simp only [datM, List.getElem_drop, List.getElem_map, List.getElem_range]
    congr 2
    omega

/-! Read. -/
/-- How many are read. -/
def Dr.most (d : Dr) (m : Int) : Nat := min m.toNat d.held
def Dr.got (d : Dr) (m : Int) : List UInt8 := d.dat.take (d.most m)
def Dr.ended (d : Dr) : Bool := decide (d.nx = d.en)
/-- The error. -/
def Dr.err (d : Dr) : Int := if 0 < d.held then 0 else if d.nx = d.en then 11 else 10
def Dr.readN (d : Dr) (k : Nat) : Dr := { d with rd := d.rd + k }
def Dr.read (d : Dr) (m : Int) : Dr := d.readN (d.most m)
theorem Dr.ok.readN {d : Dr} (h : d.ok) {k : Nat} (hk : k ≤ d.held) : (d.readN k).ok := by
  have hlo := h.lo
  unfold Dr.held at hk
  refine ⟨h.z, ?_, h.all, h.nxt, fun n hn => ?_, fun he => ⟨(h.e1 he).1, ?_⟩, h.e2, h.cap⟩
  · show d.rd + k + 1 ≤ d.nx
    omega
  · have := h.win n hn
    show n < d.rd + k + 33
    omega
  · have := (h.e1 he).2
    show d.en ≤ d.rd + k + 33
    omega
theorem Dr.most_le (d : Dr) (m : Int) : d.most m ≤ d.held := by unfold Dr.most; omega
theorem Dr.ok.read {d : Dr} (h : d.ok) (m : Int) : (d.read m).ok := h.readN (d.most_le m)
theorem Dr.dat_readN (d : Dr) {k : Nat} (hk : k ≤ d.held) : (d.readN k).dat = d.dat.drop k := (datM_drop d.M d.rd d.nx k hk).symm

/-! End. -/
/-- Nothing from n on, of so many. -/
def noneF (M : Nat → Option UInt8) : Nat → Nat → Bool
  | 0, _ => true
  | k + 1, n => (M n).isNone && noneF M k (n + 1)
theorem noneF_iff {M : Nat → Option UInt8} : ∀ (k n : Nat), noneF M k n = true ↔ ∀ j, n ≤ j → j < n + k → M j = none
  | 0, n => ⟨fun _ j h1 h2 => by omega, fun _ => rfl⟩
  | k + 1, n => by
    unfold noneF
    rw [Bool.and_eq_true, noneF_iff k (n + 1), Option.isNone_iff_eq_none]
    constructor
    · rintro ⟨h1, h2⟩ j h3 h4
      by_cases e : j = n
      · rw [e]; exact h1
      · exact h2 j (by omega) (by omega)
    · intro h
      exact ⟨h n (by omega) (by omega), fun j h1 h2 => h j (by omega) (by omega)⟩
def Dr.may (d : Dr) (x : Int) : Bool := decide ((d.nx : Int) ≤ x ∧ x ≤ ((d.rd + 33 : Nat) : Int) ∧ (d.en = 0 ∨ x = (d.en : Int))) && noneF d.M (d.rd + 33 - x.toNat) x.toNat
def Dr.tell (d : Dr) (x : Int) : Dr := if d.may x then { d with en := x.toNat } else d
theorem Dr.may_iff {d : Dr} (h : d.ok) {x : Int} : d.may x = true ↔ (d.nx : Int) ≤ x ∧ x ≤ ((d.rd + 33 : Nat) : Int) ∧ (d.en = 0 ∨ x = (d.en : Int)) ∧ ∀ n : Nat, x ≤ (n : Int) → d.M n = none := by
  unfold Dr.may
  rw [Bool.and_eq_true, decide_eq_true_iff, noneF_iff]
  constructor
  · rintro ⟨⟨h1, h2, h3⟩, h4⟩
    refine ⟨h1, h2, h3, fun n hn => ?_⟩
    cases hc : d.M n with
    | none => rfl
    | some v =>
      have := h.win n (by rw [hc]; rfl)
      have := h4 n (by omega) (by omega)
      rw [hc] at this
      exact this
  · rintro ⟨h1, h2, h3, h4⟩
    exact ⟨⟨h1, h2, h3⟩, fun j h5 h6 => h4 j (by omega)⟩
theorem Dr.ok.tell {d : Dr} (h : d.ok) (x : Int) : (d.tell x).ok := by
  unfold Dr.tell
  split
  · rename_i hm
    obtain ⟨h1, h2, h3, h4⟩ := (Dr.may_iff h).1 hm
    refine ⟨h.z, h.lo, h.all, h.nxt, h.win, fun _ => ⟨?_, ?_⟩, fun _ n hn => ?_, h.cap⟩
    · show d.nx ≤ x.toNat
      omega
    · show x.toNat ≤ d.rd + 33
      omega
    · show n < x.toNat
      rcases Nat.lt_or_ge n x.toNat with hh | hh
      · exact hh
      · have := h4 n (by have := h.lo; omega)
        rw [this] at hn
        cases hn
  · exact h
/-- What is told of it. -/
def Dr.ack (d : Dr) : Nat := if d.nx = d.en then d.nx + 1 else d.nx
end Go.Proofs.Ytancbdnpmabpfaa
