/- The mathematics of runs: tidy lists of them, which numbers they have, how many. No condition. -/
import Derived.Test.YtancbdnpmabpfaaSpA
namespace Go.Proofs.Ytancbdnpmabpfaa
set_option linter.unusedVariables false
set_option linter.unusedSimpArgs false

/-- Runs, rising, none empty, none touching the next one, of numbers from lo to 2^32. -/
def Tid : Int → List Rn → Prop
  | _, [] => True
  | lo, r :: l => lo ≤ r.1 ∧ 1 ≤ r.2 ∧ r.1 + r.2 ≤ 4294967296 ∧ Tid (r.1 + r.2 + 1) l
/-- Behind the last one, and one more. -/
def fin : Int → List Rn → Int
  | lo, [] => lo
  | _, r :: l => fin (r.1 + r.2 + 1) l
def Has (l : List Rn) (n : Int) : Prop := ∃ r ∈ l, r.1 ≤ n ∧ n < r.1 + r.2
def many (l : List Rn) : Int := (l.map (·.2)).sum

theorem has_nil (n : Int) : ¬ Has [] n := fun ⟨_, h, _⟩ => by cases h
theorem has_cons {r : Rn} {l : List Rn} {n : Int} : Has (r :: l) n ↔ (r.1 ≤ n ∧ n < r.1 + r.2) ∨ Has l n := by
  constructor
  · rintro ⟨x, hx, h⟩
    rcases List.mem_cons.1 hx with rfl | hx
    · exact .inl h
    · exact .inr ⟨x, hx, h⟩
  · rintro (h | ⟨x, hx, h⟩)
    · exact ⟨r, List.mem_cons_self .., h⟩
    · exact ⟨x, List.mem_cons_of_mem _ hx, h⟩
theorem has_append {a b : List Rn} {n : Int} : Has (a ++ b) n ↔ Has a n ∨ Has b n := by
  induction a with
  | nil => simp [has_nil]
  | cons r a ih => rw [List.cons_append, has_cons, has_cons, ih, or_assoc]
theorem many_nil : many [] = 0 := rfl
theorem many_cons (r : Rn) (l : List Rn) : many (r :: l) = r.2 + many l := by simp [many]
theorem many_append (a b : List Rn) : many (a ++ b) = many a + many b := by simp [many, List.sum_append]

theorem tid_mono {a b : Int} {l : List Rn} (h : Tid a l) (hab : b ≤ a) : Tid b l := by
  cases l with
  | nil => trivial
  | cons r l => exact ⟨by have := h.1; omega, h.2⟩
theorem tid_append {a b : List Rn} : ∀ {lo : Int}, Tid lo (a ++ b) ↔ Tid lo a ∧ Tid (fin lo a) b := by
  induction a with
  | nil => intro lo; simp [Tid, fin]
  | cons r a ih =>
    intro lo
    simp only [List.cons_append, Tid, fin, ih]
    constructor
    · rintro ⟨h1, h2, h3, h4, h5⟩; exact ⟨⟨h1, h2, h3, h4⟩, h5⟩
    · rintro ⟨⟨h1, h2, h3, h4⟩, h5⟩; exact ⟨h1, h2, h3, h4, h5⟩
theorem tid_ge {l : List Rn} : ∀ {lo : Int}, Tid lo l → ∀ r ∈ l, lo ≤ r.1 ∧ 1 ≤ r.2 ∧ r.1 + r.2 ≤ 4294967296 := by
  induction l with
  | nil => intro lo _ r hr; cases hr
  | cons x l ih =>
    intro lo h r hr
    rcases List.mem_cons.1 hr with rfl | hr
    · exact ⟨h.1, h.2.1, h.2.2.1⟩
    · have := ih h.2.2.2 r hr
      have h1 := h.1
      have h2 := h.2.1
      exact ⟨by omega, this.2⟩
theorem has_ge {l : List Rn} {lo n : Int} (h : Tid lo l) (hn : Has l n) : lo ≤ n ∧ n < 4294967296 := by
  obtain ⟨r, hr, h1, h2⟩ := hn
  have := tid_ge h r hr
  omega
theorem fin_ge {l : List Rn} : ∀ {lo : Int}, Tid lo l → lo ≤ fin lo l := by
  induction l with
  | nil => intro lo _; exact Int.le_refl _
  | cons x l ih =>
    intro lo h
    have h1 := h.1
    have h2 := h.2.1
    have := ih h.2.2.2
    show lo ≤ fin (x.1 + x.2 + 1) l
    omega
theorem fin_end {l : List Rn} : ∀ {lo : Int}, Tid lo l → ∀ r ∈ l, r.1 + r.2 + 1 ≤ fin lo l := by
  induction l with
  | nil => intro lo _ r hr; cases hr
  | cons x l ih =>
    intro lo h r hr
    show r.1 + r.2 + 1 ≤ fin (x.1 + x.2 + 1) l
    rcases List.mem_cons.1 hr with rfl | hr
    · exact fin_ge h.2.2.2
    · exact ih h.2.2.2 r hr
theorem fin_last {l : List Rn} : ∀ {lo : Int}, l ≠ [] → ∃ r ∈ l, fin lo l = r.1 + r.2 + 1 := by
  induction l with
  | nil => intro lo h; exact absurd rfl h
  | cons x l ih =>
    intro lo _
    cases l with
    | nil => exact ⟨x, List.mem_cons_self .., rfl⟩
    | cons y l =>
      obtain ⟨r, hr, e⟩ := ih (lo := x.1 + x.2 + 1) (by simp)
      exact ⟨r, List.mem_cons_of_mem _ hr, e⟩
theorem fin_getLast {l : List Rn} : ∀ {lo : Int} (h : l ≠ []), fin lo l = (l.getLast h).1 + (l.getLast h).2 + 1 := by
  induction l with
  | nil => intro lo h; exact absurd rfl h
  | cons x l ih =>
    intro lo _
    cases l with
    | nil => rfl
    | cons y l =>
      have := ih (lo := x.1 + x.2 + 1) (by simp)
      rw [List.getLast_cons (by simp)]
      exact this
theorem many_nonneg {l : List Rn} : ∀ {lo : Int}, Tid lo l → 0 ≤ many l := by
  induction l with
  | nil => intro lo _; simp [many]
  | cons x l ih =>
    intro lo h
    have := ih h.2.2.2
    have h2 := h.2.1
    rw [many_cons]
    omega
theorem many_le {l : List Rn} : ∀ {lo : Int}, Tid lo l → many l ≤ fin lo l - lo := by
  induction l with
  | nil => intro lo _; simp [many, fin]
  | cons x l ih =>
    intro lo h
    have := ih h.2.2.2
    have h1 := h.1
    rw [many_cons]
    show x.2 + many l ≤ fin (x.1 + x.2 + 1) l - lo
    omega
theorem len_le {l : List Rn} : ∀ {lo : Int}, Tid lo l → (l.length : Int) ≤ fin lo l - lo := by
  induction l with
  | nil => intro lo _; simp [fin]
  | cons x l ih =>
    intro lo h
    have := ih h.2.2.2
    have h1 := h.1
    have h2 := h.2.1
    show ((x :: l).length : Int) ≤ fin (x.1 + x.2 + 1) l - lo
    rw [List.length_cons]
    omega
theorem fin_top {l : List Rn} {lo : Int} (h : Tid lo l) (hlo : lo ≤ 4294967297) : fin lo l ≤ 4294967297 := by
  by_cases e : l = []
  · subst e
    exact hlo
  · obtain ⟨r, hr, e2⟩ := fin_last (lo := lo) e
    have := tid_ge h r hr
    omega
theorem tid_len {l : List Rn} (h : Tid 0 l) : l.length ≤ 4294967297 := by
  have h1 := len_le h
  have h2 := fin_top h (by omega)
  omega
theorem tid_many {l : List Rn} (h : Tid 0 l) : 0 ≤ many l ∧ many l ≤ 4294967297 := by
  have h1 := many_le h
  have h2 := fin_top h (by omega)
  exact ⟨many_nonneg h, by omega⟩

/-- Tidy runs are told by their numbers. -/
theorem tid_ext : ∀ {l l' : List Rn} {a b : Int}, Tid a l → Tid b l' → (∀ n, Has l n ↔ Has l' n) → l = l'
  | [], [], _, _, _, _, _ => rfl
  | [], r :: l', _, _, _, h', e => absurd ((e r.1).2 ⟨r, List.mem_cons_self .., Int.le_refl _, by have := h'.2.1; omega⟩) (has_nil _)
  | r :: l, [], _, _, h, _, e => absurd ((e r.1).1 ⟨r, List.mem_cons_self .., Int.le_refl _, by have := h.2.1; omega⟩) (has_nil _)
  | r :: l, r' :: l', a, b, h, h', e => by
    obtain ⟨h1, h2, h3, h4⟩ := h
    obtain ⟨h1', h2', h3', h4'⟩ := h'
    have low : ∀ {x : Rn} {t : List Rn} {n : Int}, 1 ≤ x.2 → Tid (x.1 + x.2 + 1) t → Has (x :: t) n → x.1 ≤ n := fun hx ht hn => by
      rcases has_cons.1 hn with hn | hn
      · exact hn.1
      · have := (has_ge ht hn).1
        omega
    have e1 : r'.1 ≤ r.1 := low h2' h4' ((e r.1).1 (has_cons.2 (.inl ⟨Int.le_refl _, by omega⟩)))
    have e2 : r.1 ≤ r'.1 := low h2 h4 ((e r'.1).2 (has_cons.2 (.inl ⟨Int.le_refl _, by omega⟩)))
    have no : ∀ {x : Rn} {t : List Rn}, Tid (x.1 + x.2 + 1) t → ¬ Has (x :: t) (x.1 + x.2) := fun ht hn => by
      rcases has_cons.1 hn with hn | hn
      · omega
      · have := (has_ge ht hn).1
        omega
    have e3 : r.2 = r'.2 := by
      rcases Int.lt_trichotomy r.2 r'.2 with hlt | heq | hgt
      · exact absurd ((e _).2 (has_cons.2 (.inl ⟨by omega, by omega⟩))) (no h4)
      · exact heq
      · exact absurd ((e _).1 (has_cons.2 (.inl ⟨by omega, by omega⟩))) (no h4')
    have er : r = r' := Prod.ext (by omega) e3
    subst er
    congr 1
    refine tid_ext h4 h4' fun n => ⟨fun hn => ?_, fun hn => ?_⟩
    · rcases has_cons.1 ((e n).1 (has_cons.2 (.inr hn))) with hc | hc
      · have := (has_ge h4 hn).1
        omega
      · exact hc
    · rcases has_cons.1 ((e n).2 (has_cons.2 (.inr hn))) with hc | hc
      · have := (has_ge h4' hn).1
        omega
      · exact hc

/-- One run in the place of those that it meets. -/
def join (R : Rn) (M : List Rn) : Rn := match M with
  | [] => R
  | m :: t => (min R.1 m.1, max (R.1 + R.2) (((m :: t).getLast (by simp)).1 + ((m :: t).getLast (by simp)).2) - min R.1 m.1)

/-- What a run's addition makes. -/
structure AddR (l : List Rn) (R : Rn) (l' : List Rn) : Prop where
  tid : Tid 0 l'
  has : ∀ n, Has l' n ↔ Has l n ∨ (R.1 ≤ n ∧ n < R.1 + R.2)

theorem join_ok {A M B : List Rn} {R : Rn} (h : Tid 0 (A ++ (M ++ B))) (hR : 0 ≤ R.1 ∧ 1 ≤ R.2 ∧ R.1 + R.2 ≤ 4294967296) (hA : ∀ r ∈ A, r.1 + r.2 < R.1) (hM : ∀ r ∈ M, R.1 ≤ r.1 + r.2 ∧ r.1 ≤ R.1 + R.2) (hB : ∀ r ∈ B, R.1 + R.2 < r.1) :
    AddR (A ++ (M ++ B)) R (A ++ join R M :: B) ∧ many M ≤ (join R M).2 ∧ 0 ≤ (join R M).1 ∧ (join R M).1 + (join R M).2 ≤ 4294967296 ∧ (join R M).2 ≤ 4294967296 := by
  obtain ⟨hR1, hR2, hR3⟩ := hR
  rw [tid_append] at h
  obtain ⟨tA, h⟩ := h
  rw [tid_append] at h
  obtain ⟨tM, tB⟩ := h
  have fA : fin 0 A ≤ R.1 := by
    by_cases e : A = []
    · subst e
      exact hR1
    · obtain ⟨r, hr, e2⟩ := fin_last (lo := 0) e
      have := hA r hr
      omega
  have fA0 := fin_ge tA
  -- what the whole is
  have key : ∃ J : Rn, join R M = J ∧ fin 0 A ≤ J.1 ∧ J.1 ≤ R.1 ∧ R.1 + R.2 ≤ J.1 + J.2 ∧ J.1 + J.2 ≤ 4294967296 ∧ many M ≤ J.2 ∧ (J.1 + J.2 = R.1 + R.2 ∨ J.1 + J.2 + 1 = fin (fin 0 A) M) ∧ (∀ n, J.1 ≤ n ∧ n < J.1 + J.2 ↔ Has M n ∨ (R.1 ≤ n ∧ n < R.1 + R.2)) := by
    cases M with
    | nil => exact ⟨R, rfl, fA, Int.le_refl _, Int.le_refl _, hR3, by rw [many_nil]; omega, .inl rfl, fun n => ⟨.inr, fun h => h.resolve_left (has_nil n)⟩⟩
    | cons m t =>
      obtain ⟨last, hl⟩ : ∃ last, last = (m :: t).getLast (by simp) := ⟨_, rfl⟩
      have hlm : last ∈ m :: t := by rw [hl]; exact List.getLast_mem _
      have hf : fin (fin 0 A) (m :: t) = last.1 + last.2 + 1 := by rw [hl]; exact fin_getLast _
      have hm := hM m (List.mem_cons_self ..)
      have hlast := hM last hlm
      have gm := tid_ge tM m (List.mem_cons_self ..)
      have gl := tid_ge tM last hlm
      have gmany := many_le (lo := m.1) (l := m :: t) ⟨Int.le_refl _, tM.2⟩
      have hf2 : fin m.1 (m :: t) = last.1 + last.2 + 1 := hf
      have hrange : ∀ r ∈ m :: t, m.1 ≤ r.1 ∧ r.1 + r.2 ≤ last.1 + last.2 := fun r hr => by
        have h1 := (tid_ge (lo := m.1) (l := m :: t) ⟨Int.le_refl _, tM.2⟩ r hr).1
        have h2 := fin_end tM r hr
        omega
      refine ⟨(min R.1 m.1, max (R.1 + R.2) (last.1 + last.2) - min R.1 m.1), by rw [hl]; rfl, ?_, ?_, ?_, ?_, ?_, ?_, fun n => ⟨fun hn => ?_, fun hn => ?_⟩⟩
      · show fin 0 A ≤ min R.1 m.1
        omega
      · show min R.1 m.1 ≤ R.1
        omega
      · show R.1 + R.2 ≤ min R.1 m.1 + (max (R.1 + R.2) (last.1 + last.2) - min R.1 m.1)
        omega
      · show min R.1 m.1 + (max (R.1 + R.2) (last.1 + last.2) - min R.1 m.1) ≤ 4294967296
        omega
      · show many (m :: t) ≤ max (R.1 + R.2) (last.1 + last.2) - min R.1 m.1
        -- each of the runs ends at least one ahead of the next: one less than the whole
        have : many (m :: t) + 1 ≤ fin m.1 (m :: t) - m.1 := by
          rw [many_cons]
          have h3 := many_le tM.2.2.2
          show m.2 + many t + 1 ≤ fin (m.1 + m.2 + 1) t - m.1
          omega
        omega
      · show min R.1 m.1 + (max (R.1 + R.2) (last.1 + last.2) - min R.1 m.1) = R.1 + R.2 ∨ min R.1 m.1 + (max (R.1 + R.2) (last.1 + last.2) - min R.1 m.1) + 1 = fin (fin 0 A) (m :: t)
        omega
      · have hn1 : min R.1 m.1 ≤ n := hn.1
        have hn2 : n < max (R.1 + R.2) (last.1 + last.2) := by have := hn.2; dsimp only at this; omega
        by_cases c1 : n < R.1
        · exact .inl ⟨m, List.mem_cons_self .., by omega, by omega⟩
        · by_cases c2 : n < R.1 + R.2
          · exact .inr ⟨by omega, c2⟩
          · exact .inl ⟨last, hlm, by omega, by omega⟩
      · show min R.1 m.1 ≤ n ∧ n < min R.1 m.1 + (max (R.1 + R.2) (last.1 + last.2) - min R.1 m.1)
        rcases hn with ⟨r, hr, h1, h2⟩ | hn
        · have := hrange r hr
          omega
        · omega
  obtain ⟨J, hJ, j1, j2, j3, j4, j5, j6, j7⟩ := key
  rw [hJ]
  refine ⟨⟨?_, fun n => ?_⟩, j5, by omega, j4, by omega⟩
  · rw [tid_append]
    refine ⟨tA, j1, by omega, j4, ?_⟩
    cases B with
    | nil => trivial
    | cons b B =>
      have hb := hB b (List.mem_cons_self ..)
      have tb := tB.1
      exact ⟨by omega, tB.2⟩
  · rw [has_append, has_cons, has_append, has_append, j7]
    constructor
    · rintro (h | (h | h) | h)
      · exact .inl (.inl h)
      · exact .inl (.inr (.inl h))
      · exact .inr h
      · exact .inl (.inr (.inr h))
    · rintro ((h | h | h) | h)
      · exact .inl h
      · exact .inr (.inl (.inl h))
      · exact .inr (.inr h)
      · exact .inr (.inl (.inr h))

/-- What is left behind a number. -/
structure DropR (l : List Rn) (b : Int) (l' : List Rn) : Prop where
  tid : Tid 0 l'
  has : ∀ n, Has l' n ↔ Has l n ∧ b ≤ n
theorem drop_ok {A B : List Rn} {b : Int} (h : Tid 0 (A ++ B)) (hA : ∀ r ∈ A, r.1 + r.2 ≤ b) (hB : ∀ r ∈ B, b < r.1 + r.2) :
    DropR (A ++ B) b (match B with | [] => [] | r :: t => if r.1 < b then (b, r.1 + r.2 - b) :: t else r :: t) := by
  rw [tid_append] at h
  obtain ⟨tA, tB⟩ := h
  have fA := fin_ge tA
  have hno : ∀ n, Has A n → ¬ b ≤ n := fun n ⟨r, hr, h1, h2⟩ hb => by have := hA r hr; omega
  cases B with
  | nil => exact ⟨trivial, fun n => ⟨fun h => absurd h (has_nil n), fun ⟨h, hb⟩ => by rw [List.append_nil] at h; exact absurd hb (hno n h)⟩⟩
  | cons r t =>
    have hr := hB r (List.mem_cons_self ..)
    obtain ⟨t1, t2, t3, t4⟩ := tB
    have ht : ∀ n, Has t n → b ≤ n := fun n hn => by have := (has_ge t4 hn).1; omega
    dsimp only
    split
    · rename_i hlt
      refine ⟨⟨by show 0 ≤ b; omega, by show 1 ≤ r.1 + r.2 - b; omega, by show b + (r.1 + r.2 - b) ≤ 4294967296; omega, by show Tid (b + (r.1 + r.2 - b) + 1) t; rw [show b + (r.1 + r.2 - b) + 1 = r.1 + r.2 + 1 from by omega]; exact t4⟩, fun n => ?_⟩
      rw [has_append, has_cons, has_cons]
      constructor
      · rintro (⟨h1, h2⟩ | h)
        · dsimp only at h1 h2
          exact ⟨.inr (.inl ⟨by omega, by omega⟩), h1⟩
        · exact ⟨.inr (.inr h), ht n h⟩
      · rintro ⟨h | h | h, hb⟩
        · exact absurd hb (hno n h)
        · exact .inl ⟨hb, by show n < b + (r.1 + r.2 - b); omega⟩
        · exact .inr h
    · rename_i hge
      refine ⟨⟨by omega, t2, t3, t4⟩, fun n => ?_⟩
      rw [has_append]
      constructor
      · intro h
        refine ⟨.inr h, ?_⟩
        rcases has_cons.1 h with h | h
        · omega
        · exact ht n h
      · rintro ⟨h | h, hb⟩
        · exact absurd hb (hno n h)
        · exact h
end Go.Proofs.Ytancbdnpmabpfaa
