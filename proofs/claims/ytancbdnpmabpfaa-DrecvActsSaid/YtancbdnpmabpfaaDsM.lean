/- What a sender is, as told: its data, which are lost, its numbers; what its calls make of it. No condition. -/
import Derived.Test.YtancbdnpmabpfaaSpM
namespace Go.Proofs.Ytancbdnpmabpfaa
set_option linter.unusedVariables false
set_option linter.unusedSimpArgs false

/-- A sender: all data that were written, from number 1 on; which are lost; its numbers; whether the end was told, and acknowledged. -/
structure Dq where
  all : List UInt8
  L : Nat → Bool
  una : Nat
  next : Nat
  edge : Nat
  told : Bool
  done : Bool
/-- The end's number. -/
def Dq.fin (d : Dq) : Nat := d.all.length + 1
/-- What holds of a sender. -/
structure Dq.ok (d : Dq) : Prop where
  u1 : 1 ≤ d.una
  un : d.una ≤ d.next
  ne : d.next ≤ d.fin
  ng : d.next ≤ d.edge
  room : d.fin ≤ d.una + 64
  lost : ∀ k, d.L k = true → d.una ≤ k ∧ k < d.next
def Dq.new : Dq := ⟨[], fun _ => false, 1, 1, 33, false, false⟩
theorem Dq.new_ok : Dq.new.ok := ⟨by decide, by decide, by decide, by decide, by decide, fun k h => by cases h⟩

/-- The first number from k on, of so many, that is lost; else the one behind them. -/
def seek (L : Nat → Bool) : Nat → Nat → Nat
  | k, 0 => k
  | k, n + 1 => if L k then k else seek L (k + 1) n
/-- How many from k on, at most so many, are lost. -/
def runl (L : Nat → Bool) : Nat → Nat → Nat
  | _, 0 => 0
  | k, n + 1 => if L k then 1 + runl L (k + 1) n else 0
/-- How many from f on, of so many, are not lost. -/
def kept (L : Nat → Bool) (f : Nat) : Nat → Nat
  | 0 => 0
  | m + 1 => kept L f m + if L (f + m) then 0 else 1

theorem seek_spec {L : Nat → Bool} : ∀ (n k : Nat), k ≤ seek L k n ∧ seek L k n ≤ k + n ∧ (∀ j, k ≤ j → j < seek L k n → L j = false) ∧ (seek L k n < k + n → L (seek L k n) = true)
  | 0, k => ⟨Nat.le_refl _, Nat.le_refl _, fun j h1 h2 => by unfold seek at h2; omega, fun h => by unfold seek at h; omega⟩
  | n + 1, k => by
    obtain ⟨h1, h2, h3, h4⟩ := seek_spec (L := L) n (k + 1)
    unfold seek
    cases hk : L k with
    | true => exact ⟨by simp, by simp, fun j h5 h6 => by simp at h6; omega, fun _ => by simpa using hk⟩
    | false =>
      simp only [Bool.false_eq_true, if_false]
      refine ⟨by omega, by omega, fun j h5 h6 => ?_, fun h => h4 (by omega)⟩
      by_cases hj : j = k
      · subst hj; exact hk
      · exact h3 j (by omega) h6
theorem seek_eq {L : Nat → Bool} {k n f : Nat} (h1 : k ≤ f) (h2 : f < k + n) (h3 : ∀ j, k ≤ j → j < f → L j = false) (h4 : L f = true) : seek L k n = f := by
  obtain ⟨s1, s2, s3, s4⟩ := seek_spec (L := L) n k
  rcases Nat.lt_trichotomy (seek L k n) f with h | h | h
  · have a := s4 (by omega)
    rw [h3 _ s1 h] at a
    cases a
  · exact h
  · have a := s3 f h1 h
    rw [h4] at a
    cases a
theorem seek_none {L : Nat → Bool} {k n : Nat} (h : ∀ j, k ≤ j → j < k + n → L j = false) : seek L k n = k + n := by
  obtain ⟨s1, s2, s3, s4⟩ := seek_spec (L := L) n k
  rcases Nat.lt_or_ge (seek L k n) (k + n) with hh | hh
  · have a := s4 hh
    rw [h _ s1 hh] at a
    cases a
  · omega
theorem runl_spec {L : Nat → Bool} : ∀ (n k : Nat), runl L k n ≤ n ∧ (∀ j, k ≤ j → j < k + runl L k n → L j = true) ∧ (runl L k n < n → L (k + runl L k n) = false)
  | 0, k => ⟨Nat.le_refl _, fun j h1 h2 => by unfold runl at h2; omega, fun h => by unfold runl at h; omega⟩
  | n + 1, k => by
    obtain ⟨h1, h2, h3⟩ := runl_spec (L := L) n (k + 1)
    unfold runl
    cases hk : L k with
    | false => exact ⟨by simp, fun j h4 h5 => by simp at h5; omega, fun _ => by simpa using hk⟩
    | true =>
      simp only [if_true]
      refine ⟨by omega, fun j h4 h5 => ?_, fun h => ?_⟩
      · by_cases hj : j = k
        · subst hj; exact hk
        · exact h2 j (by omega) (by omega)
      · rw [show k + (1 + runl L (k + 1) n) = k + 1 + runl L (k + 1) n from by omega]
        exact h3 (by omega)
theorem runl_eq {L : Nat → Bool} {k n m : Nat} (h1 : m ≤ n) (h2 : ∀ j, k ≤ j → j < k + m → L j = true) (h3 : m < n → L (k + m) = false) : runl L k n = m := by
  obtain ⟨s1, s2, s3⟩ := runl_spec (L := L) n k
  rcases Nat.lt_trichotomy (runl L k n) m with h | h | h
  · have a := s3 (by omega)
    rw [h2 _ (by omega) (by omega)] at a
    cases a
  · exact h
  · have a := s2 (k + m) (by omega) (by omega)
    rw [h3 (by omega)] at a
    cases a
theorem kept_le (L : Nat → Bool) (f : Nat) : ∀ m, kept L f m ≤ m
  | 0 => Nat.le_refl _
  | m + 1 => by have := kept_le L f m; unfold kept; split <;> omega
theorem kept_all {L : Nat → Bool} {f : Nat} : ∀ {m : Nat}, (∀ j, f ≤ j → j < f + m → L j = false) → kept L f m = m
  | 0, _ => rfl
  | m + 1, h => by
    have := kept_all (L := L) (f := f) (m := m) (fun j h1 h2 => h j h1 (by omega))
    unfold kept
    rw [this, h (f + m) (by omega) (by omega)]
    rfl

/-! The calls. -/
def Dq.held (d : Dq) : Nat := d.fin - d.una
def Dq.room_ (d : Dq) : Nat := 64 - d.held
def Dq.put (d : Dq) (n : Nat) (b : List UInt8) : Dq := { d with all := d.all ++ b.take n }
def Dq.from_ (d : Dq) : Nat := seek d.L d.una (d.next - d.una)
/-- How many are taken, of at most so many. -/
def Dq.most (d : Dq) (m : Nat) : Nat := if d.from_ < d.next then runl d.L d.from_ m else min m (min d.edge d.fin - d.next)
def Dq.cut (d : Dq) (f n : Nat) : Dq := { d with L := fun k => d.L k && !decide (f ≤ k ∧ k < f + n), next := max d.next (f + n) }
def Dq.take (d : Dq) (m : Nat) : Dq := d.cut d.from_ (d.most m)
def Dq.got (d : Dq) (m : Nat) : List UInt8 := (d.all.drop (d.from_ - 1)).take (d.most m)
/-- The first one's number; 0: there are none. -/
def Dq.dsn (d : Dq) (m : Nat) : Nat := if d.most m = 0 then 0 else d.from_
def Dq.lose (d : Dq) (f t : Nat) : Dq := { d with L := fun k => d.L k || decide (f ≤ k ∧ k < t) }
/-- Where what is lost begins, and ends. -/
def Dq.lf (d : Dq) (x : Int) : Nat := (max x (d.una : Int)).toNat
def Dq.lt (d : Dq) (x g : Int) : Nat := (max (max x (d.una : Int)) (min x ((d.next : Int) - max g 0) + max g 0)).toNat
def Dq.may (d : Dq) (a win : Int) : Bool := decide ((((d.una : Int) ≤ a ∧ a ≤ (d.next : Int)) ∨ (d.told = true ∧ d.next = d.fin ∧ a = (d.fin : Int) + 1)) ∧ 0 ≤ win ∧ win ≤ 65535)
def Dq.ack (d : Dq) (a win : Nat) : Dq := { d with una := min a d.fin, edge := max d.edge (a + win), done := d.done || decide (d.fin < a), L := fun k => d.L k && decide (min a d.fin ≤ k) }
def Dq.due (d : Dq) : Nat := if d.told = true ∧ d.next = d.fin ∧ d.from_ = d.next ∧ d.done = false then d.fin else 0
def Dq.tell (d : Dq) : Dq := { d with told := true }

section
variable {d : Dq}
theorem Dq.ok.from_ (h : d.ok) : d.una ≤ d.from_ ∧ d.from_ ≤ d.next ∧ (∀ j, j < d.from_ → d.L j = false) ∧ (d.from_ < d.next → d.L d.from_ = true) := by
  obtain ⟨s1, s2, s3, s4⟩ := seek_spec (L := d.L) (d.next - d.una) d.una
  have := h.un
  unfold Dq.from_
  refine ⟨s1, by omega, fun j hj => ?_, fun hh => s4 (by omega)⟩
  rcases Nat.lt_or_ge j d.una with hl | hl
  · cases hb : d.L j with
    | false => rfl
    | true => have := (h.lost j hb).1; omega
  · exact s3 j hl hj
theorem Dq.ok.most (h : d.ok) {m : Nat} : d.most m ≤ m ∧ d.from_ + d.most m ≤ d.edge ∧ d.from_ + d.most m ≤ d.fin ∧ (d.from_ < d.next → d.from_ + d.most m ≤ d.next) := by
  obtain ⟨f1, f2, f3, f4⟩ := h.from_
  have h1 := h.ng
  have h2 := h.ne
  unfold Dq.most
  split
  · rename_i hlt
    obtain ⟨r1, r2, r3⟩ := runl_spec (L := d.L) m d.from_
    have : d.from_ + runl d.L d.from_ m ≤ d.next := by
      rcases Nat.lt_or_ge d.next (d.from_ + runl d.L d.from_ m) with hh | hh
      · have := h.lost d.next (r2 d.next (by omega) hh)
        omega
      · exact hh
    omega
  · omega
theorem Dq.ok.take (h : d.ok) (m : Nat) : (d.take m).ok := by
  obtain ⟨f1, f2, f3, f4⟩ := h.from_
  obtain ⟨m1, m2, m3, m4⟩ := h.most (m := m)
  have := h.un
  have h1 := h.ng
  have h2 := h.ne
  refine ⟨h.u1, ?_, ?_, ?_, h.room, fun k hk => ?_⟩
  · show d.una ≤ max d.next (d.from_ + d.most m); omega
  · show max d.next (d.from_ + d.most m) ≤ d.fin; omega
  · show max d.next (d.from_ + d.most m) ≤ d.edge; omega
  · have hk' : (d.L k && !decide (d.from_ ≤ k ∧ k < d.from_ + d.most m)) = true := hk
    rw [Bool.and_eq_true] at hk'
    have := h.lost k hk'.1
    show d.una ≤ k ∧ k < max d.next (d.from_ + d.most m)
    omega
theorem Dq.ok.got (h : d.ok) (m : Nat) : (d.got m).length = d.most m := by
  obtain ⟨m1, m2, m3, m4⟩ := h.most (m := m)
  have := h.from_.1
  have := h.u1
  unfold Dq.fin at m3
  simp only [Dq.got, List.length_take, List.length_drop]
  omega
theorem Dq.take_none {m : Nat} (h0 : d.most m = 0) (h : d.ok) : d.take m = d := by
  have hn : max d.next d.from_ = d.next := by have := h.from_.2.1; omega
  unfold Dq.take
  rw [h0]
  unfold Dq.cut
  cases d
  simp only [Nat.add_zero] at hn ⊢
  congr 1
  · funext k
    rw [decide_eq_false (by omega), Bool.not_false, Bool.and_true]
theorem Dq.ok.put (h : d.ok) (b : List UInt8) {n : Nat} (hn : n ≤ d.room_) : (d.put n b).ok := by
  have h1 := h.room
  have h2 := h.ne
  have h3 := h.un
  have e : (d.put n b).fin ≤ d.fin + n ∧ d.fin ≤ (d.put n b).fin := by
    unfold Dq.fin Dq.put
    simp only [List.length_append, List.length_take]
    omega
  unfold Dq.room_ Dq.held at hn
  exact ⟨h.u1, h.un, by show d.next ≤ (d.put n b).fin; omega, h.ng, by show (d.put n b).fin ≤ d.una + 64; omega, h.lost⟩
theorem Dq.ok.tell (h : d.ok) : d.tell.ok := ⟨h.u1, h.un, h.ne, h.ng, h.room, h.lost⟩
theorem Dq.ok.lt (h : d.ok) (x g : Int) : d.una ≤ d.lf x ∧ d.lf x ≤ d.lt x g ∧ (d.lt x g ≤ d.next ∨ d.lf x = d.lt x g) := by
  have := h.un
  unfold Dq.lf Dq.lt
  omega
theorem Dq.ok.lose (h : d.ok) {f t : Nat} (h1 : d.una ≤ f) (h2 : t ≤ d.next ∨ f = t) : (d.lose f t).ok :=
  ⟨h.u1, h.un, h.ne, h.ng, h.room, fun k hk => by
    have hk' : (d.L k || decide (f ≤ k ∧ k < t)) = true := hk
    show d.una ≤ k ∧ k < d.next
    rw [Bool.or_eq_true, decide_eq_true_iff] at hk'
    rcases hk' with hk' | hk'
    · exact h.lost k hk'
    · omega⟩
theorem Dq.may_iff {a win : Int} : d.may a win = true ↔ (((d.una : Int) ≤ a ∧ a ≤ (d.next : Int)) ∨ (d.told = true ∧ d.next = d.fin ∧ a = (d.fin : Int) + 1)) ∧ 0 ≤ win ∧ win ≤ 65535 := by
  unfold Dq.may
  rw [decide_eq_true_iff]
theorem Dq.ok.ack (h : d.ok) {a win : Nat} (hm : d.may (a : Int) (win : Int) = true) : (d.ack a win).ok ∧ d.una ≤ min a d.fin ∧ a ≤ d.fin + 1 ∧ win ≤ 65535 := by
  have h1 := h.un
  have h2 := h.ne
  have h3 := h.ng
  have h4 := h.room
  have h5 := h.u1
  rw [Dq.may_iff] at hm
  refine ⟨⟨?_, ?_, h.ne, ?_, ?_, fun k hk => ?_⟩, by omega, by omega, by omega⟩
  · show 1 ≤ min a d.fin; omega
  · show min a d.fin ≤ d.next; omega
  · show d.next ≤ max d.edge (a + win); omega
  · show d.fin ≤ min a d.fin + 64; omega
  · have hk' : (d.L k && decide (min a d.fin ≤ k)) = true := hk
    rw [Bool.and_eq_true, decide_eq_true_iff] at hk'
    have := h.lost k hk'.1
    show min a d.fin ≤ k ∧ k < d.next
    omega
end
end Go.Proofs.Ytancbdnpmabpfaa
