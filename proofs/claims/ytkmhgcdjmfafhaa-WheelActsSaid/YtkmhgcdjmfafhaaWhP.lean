/- Which lists hold which timers while time goes on by one tick: mathematics without memory. No condition. -/
import Derived.Test.YtkmhgcdjmfafhaaWhB
namespace Go.Proofs.Ytkmhgcdjmfafhaa
set_option linter.unusedVariables false
set_option linter.unusedSimpArgs false

abbrev Lists := Nat → Nat → List Nat

/-- All timers that stand in the lists. -/
def InL (L : Lists) (b : Nat) : Prop := ∃ r i, r < 3 ∧ i < 16 ∧ b ∈ L r i
/-- No timer stands in two lists. -/
def Dj (L : Lists) : Prop := ∀ r i r' i', r < 3 → i < 16 → r' < 3 → i' < 16 → ∀ b, b ∈ L r i → b ∈ L r' i' → r = r' ∧ i = i'
/-- Each timer stands where it must at n. -/
def Pl (L : Lists) (tk : Nat → Nat) (n : Nat) : Prop := ∀ r i b, r < 3 → i < 16 → b ∈ L r i → r = hmR 2 (tk b) n ∧ i = tk b / wide r % 16 ∧ n < tk b ∧ tk b ≤ n + 4096
/-- Each timer stands where it must while n comes, with rings inside ring s not yet filled. -/
def Pm (s : Nat) (L : Lists) (tk : Nat → Nat) (n : Nat) : Prop := ∀ r i b, r < 3 → i < 16 → b ∈ L r i → i = tk b / wide r % 16 ∧ n ≤ tk b ∧ tk b ≤ n + 4095 ∧
  (r = 2 → (tk b / 256 ≠ n / 256 ∨ s = 2 ∧ n % 256 = 0)) ∧
  (r = 1 → tk b / 256 = n / 256 ∧ (tk b / 16 ≠ n / 16 ∨ 1 ≤ s ∧ n % 16 = 0) ∧ ¬(s = 2 ∧ n % 256 = 0)) ∧
  (r = 0 → tk b / 16 = n / 16 ∧ ¬(1 ≤ s ∧ n % 16 = 0))

theorem wide0 : wide 0 = 1 := rfl
theorem wide1 : wide 1 = 16 := rfl
theorem wide2 : wide 2 = 256 := rfl
theorem hmR2 (t n : Nat) : hmR 2 t n = if t / 256 = n / 256 then (if t / 16 = n / 16 then 0 else 1) else 2 := rfl

theorem Pl.dj {L : Lists} {tk : Nat → Nat} {n : Nat} (h : Pl L tk n) : Dj L := fun r i r' i' h1 h2 h3 h4 b hb hb' => by
  have a := h r i b h1 h2 hb
  have c := h r' i' b h3 h4 hb'
  have e : r = r' := a.1.trans c.1.symm
  subst e
  exact ⟨rfl, a.2.1.trans c.2.1.symm⟩
theorem Pm.dj {s : Nat} {L : Lists} {tk : Nat → Nat} {n : Nat} (h : Pm s L tk n) (hs : s ≤ 2) : Dj L := fun r i r' i' h1 h2 h3 h4 b hb hb' => by
  obtain ⟨a1, a2, a3, a4, a5, a6⟩ := h r i b h1 h2 hb
  obtain ⟨c1, c2, c3, c4, c5, c6⟩ := h r' i' b h3 h4 hb'
  have e : r = r' := by
    rcases (by omega : r = 0 ∨ r = 1 ∨ r = 2) with rfl | rfl | rfl <;> rcases (by omega : r' = 0 ∨ r' = 1 ∨ r' = 2) with rfl | rfl | rfl <;> first | rfl | (exfalso; omega)
  subst e
  exact ⟨rfl, a1.trans c1.symm⟩

/-- Ahead of the step. -/
theorem Pl.start {L : Lists} {tk : Nat → Nat} {n : Nat} (h : Pl L tk n) : Pm 2 L tk (n + 1) := fun r i b h1 h2 hb => by
  obtain ⟨a1, a2, a3, a4⟩ := h r i b h1 h2 hb
  rw [hmR2] at a1
  refine ⟨a2, by omega, by omega, ?_, ?_, ?_⟩ <;> rintro rfl <;> (split at a1 <;> (try split at a1) <;> omega)

/-- Ring r + 1's list of n's stretch was emptied into ring r. -/
def Poured (r i : Nat) (L L' : Lists) (tk : Nat → Nat) : Prop :=
  (∀ r' i', r' ≠ r → ¬(r' = r + 1 ∧ i' = i) → L' r' i' = L r' i') ∧ L' (r + 1) i = [] ∧ ∀ j b, j < 16 → (b ∈ L' r j ↔ b ∈ L r j ∨ b ∈ L (r + 1) i ∧ tk b / wide r % 16 = j)

theorem Pm.poured {s : Nat} (hs : s < 2) {L L' : Lists} {tk : Nat → Nat} {n : Nat} (h : Pm (s + 1) L tk n) (hn : n % wide (s + 1) = 0) (hp : Poured s (n / wide (s + 1) % 16) L L' tk) : Pm s L' tk n := fun r i b h1 h2 hb => by
  obtain ⟨p1, p2, p3⟩ := hp
  rcases (by omega : s = 0 ∨ s = 1) with rfl | rfl
  · rw [wide1] at *
    by_cases e : r = 0
    · subst e
      rcases (p3 i b h2).1 hb with hb | ⟨hb, hi⟩
      · obtain ⟨a1, a2, a3, a4, a5, a6⟩ := h 0 i b (by omega) h2 hb
        have := a6 rfl
        omega
      · obtain ⟨a1, a2, a3, a4, a5, a6⟩ := h 1 (n / 16 % 16) b (by omega) (by omega) hb
        rw [wide1] at a1
        have a5 := a5 rfl
        exact ⟨hi.symm, a2, a3, by omega, by omega, by omega⟩
    · by_cases e' : r = 0 + 1 ∧ i = n / 16 % 16
      · obtain ⟨rfl, rfl⟩ := e'
        rw [p2] at hb
        cases hb
      · rw [p1 r i e e'] at hb
        obtain ⟨a1, a2, a3, a4, a5, a6⟩ := h r i b h1 h2 hb
        refine ⟨a1, a2, a3, fun h => by have := a4 h; omega, fun h => ?_, fun h => absurd h e⟩
        subst h
        have a5 := a5 rfl
        rw [wide1] at a1
        omega
  · rw [wide2] at *
    by_cases e : r = 1
    · subst e
      rcases (p3 i b h2).1 hb with hb | ⟨hb, hi⟩
      · obtain ⟨a1, a2, a3, a4, a5, a6⟩ := h 1 i b (by omega) h2 hb
        have := a5 rfl
        omega
      · obtain ⟨a1, a2, a3, a4, a5, a6⟩ := h 2 (n / 256 % 16) b (by omega) (by omega) hb
        rw [wide2] at a1
        have a4 := a4 rfl
        exact ⟨hi.symm, a2, a3, by omega, by omega, by omega⟩
    · by_cases e' : r = 1 + 1 ∧ i = n / 256 % 16
      · obtain ⟨rfl, rfl⟩ := e'
        rw [p2] at hb
        cases hb
      · rw [p1 r i e e'] at hb
        obtain ⟨a1, a2, a3, a4, a5, a6⟩ := h r i b h1 h2 hb
        refine ⟨a1, a2, a3, fun h => ?_, fun h => absurd h e, fun h => by have := a6 h; omega⟩
        subst h
        have a4 := a4 rfl
        rw [wide2] at a1
        omega
theorem Pm.skip {s : Nat} (hs : s < 2) {L : Lists} {tk : Nat → Nat} {n : Nat} (h : Pm (s + 1) L tk n) (hn : n % wide (s + 1) ≠ 0) : Pm s L tk n := fun r i b h1 h2 hb => by
  obtain ⟨a1, a2, a3, a4, a5, a6⟩ := h r i b h1 h2 hb
  rcases (by omega : s = 0 ∨ s = 1) with rfl | rfl
  · rw [wide1] at hn
    refine ⟨a1, a2, a3, fun h => ?_, fun h => ?_, fun h => ?_⟩
    · have := a4 h; omega
    · have := a5 h; omega
    · have := a6 h; omega
  · rw [wide2] at hn
    refine ⟨a1, a2, a3, fun h => ?_, fun h => ?_, fun h => ?_⟩
    · have := a4 h; omega
    · have := a5 h; omega
    · have := a6 h; omega

/-- What stands in the innermost ring's list of n is due at n, and nothing else. -/
theorem Pm.due {L : Lists} {tk : Nat → Nat} {n : Nat} (h : Pm 0 L tk n) (b : Nat) : b ∈ L 0 (n % 16) ↔ InL L b ∧ tk b = n := by
  constructor
  · intro hb
    obtain ⟨a1, a2, a3, a4, a5, a6⟩ := h 0 (n % 16) b (by omega) (by omega) hb
    rw [wide0] at a1
    have := a6 rfl
    exact ⟨⟨0, _, by omega, by omega, hb⟩, by omega⟩
  · rintro ⟨⟨r, i, h1, h2, hb⟩, e⟩
    obtain ⟨a1, a2, a3, a4, a5, a6⟩ := h r i b h1 h2 hb
    have hr : r = 0 := by
      rcases (by omega : r = 0 ∨ r = 1 ∨ r = 2) with rfl | rfl | rfl
      · rfl
      · have := a5 rfl; omega
      · have := a4 rfl; omega
    subst hr
    rw [wide0] at a1
    obtain rfl : i = n % 16 := by omega
    exact hb
theorem Pm.finish {L : Lists} {tk : Nat → Nat} {n : Nat} (h : Pm 0 L tk n) : Pl (up2 L 0 (n % 16) []) tk n := fun r i b h1 h2 hb => by
  by_cases e : r = 0 ∧ i = n % 16
  · obtain ⟨rfl, rfl⟩ := e
    rw [up2_same] at hb
    cases hb
  · rw [up2_other _ _ e] at hb
    obtain ⟨a1, a2, a3, a4, a5, a6⟩ := h r i b h1 h2 hb
    refine ⟨?_, a1, ?_, by omega⟩
    · rw [hmR2]
      rcases (by omega : r = 0 ∨ r = 1 ∨ r = 2) with rfl | rfl | rfl
      · have := a6 rfl
        rw [if_pos (by omega), if_pos this.1]
      · have := a5 rfl
        rw [if_pos this.1, if_neg (by omega)]
      · have := a4 rfl
        rw [if_neg (by omega)]
    · by_cases e' : tk b = n
      · exfalso
        have hx := (h.due b).2 ⟨⟨r, i, h1, h2, hb⟩, e'⟩
        exact e (h.dj (by omega) r i 0 (n % 16) h1 h2 (by omega) (by omega) b hb hx)
      · omega

/-- What stands in the lists is the same behind the pouring. -/
theorem Poured.inL {r i : Nat} (hr : r < 2) (hi : i < 16) {L L' : Lists} {tk : Nat → Nat} (hp : Poured r i L L' tk) (b : Nat) : InL L' b ↔ InL L b := by
  obtain ⟨p1, p2, p3⟩ := hp
  constructor
  · rintro ⟨r', i', h1, h2, hb⟩
    by_cases e : r' = r
    · subst e
      rcases (p3 i' b h2).1 hb with h | ⟨h, _⟩
      · exact ⟨_, i', h1, h2, h⟩
      · exact ⟨_, i, by omega, hi, h⟩
    · by_cases e' : r' = r + 1 ∧ i' = i
      · obtain ⟨rfl, rfl⟩ := e'
        rw [p2] at hb
        cases hb
      · rw [p1 r' i' e e'] at hb
        exact ⟨r', i', h1, h2, hb⟩
  · rintro ⟨r', i', h1, h2, hb⟩
    by_cases e : r' = r
    · subst e
      exact ⟨_, i', h1, h2, (p3 i' b h2).2 (.inl hb)⟩
    · by_cases e' : r' = r + 1 ∧ i' = i
      · obtain ⟨rfl, rfl⟩ := e'
        have h16 : tk b / wide r % 16 < 16 := Nat.mod_lt _ (by decide)
        exact ⟨r, _, by omega, h16, (p3 _ b h16).2 (.inr ⟨hb, rfl⟩)⟩
      · refine ⟨r', i', h1, h2, ?_⟩
        rw [p1 r' i' e e']
        exact hb

/-- A list without repetitions within another one is no longer. -/
theorem nodup_len : ∀ (xs ys : List Nat), xs.Nodup → (∀ x ∈ xs, x ∈ ys) → xs.length ≤ ys.length
  | [], _, _, _ => Nat.zero_le _
  | x :: xs, ys, hn, hs => by
    have hx := hs x (List.mem_cons_self ..)
    have h1 := List.length_erase_of_mem hx
    have hpos : 0 < ys.length := List.length_pos_of_mem hx
    rw [List.nodup_cons] at hn
    have := nodup_len xs (ys.erase x) hn.2 fun y hy => (List.mem_erase_of_ne (fun e => hn.1 (by rw [← e]; exact hy))).2 (hs y (List.mem_cons_of_mem _ hy))
    rw [List.length_cons]
    omega

end Go.Proofs.Ytkmhgcdjmfafhaa
