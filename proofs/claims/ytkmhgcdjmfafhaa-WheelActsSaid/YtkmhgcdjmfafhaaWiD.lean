/- The document's wheel: its Advance, what it does to a list. No condition. -/
import Derived.Test.YtkmhgcdjmfafhaaWiE
namespace Go.Proofs.Ytkmhgcdjmfafhaa
set_option linter.unusedVariables false
set_option linter.unusedSimpArgs false
open Go.RowKit

/-- The least of a list is taken out of it, by its handle; no other one has it. -/
theorem woL_mem {l : List (Int × Int)} (hd : ∀ p q, p ∈ l → q ∈ l → p.1 = q.1 → p = q) {m p : Int × Int} (hm : m ∈ l) : p ∈ woL l m.1 ↔ p ∈ l ∧ p ≠ m := by
  unfold woL
  rw [List.mem_filter, decide_eq_true_iff]
  refine ⟨fun h => ⟨h.1, fun e => h.2 (by rw [e])⟩, fun h => ⟨h.1, fun e => h.2 (hd p m h.1 hm e)⟩⟩
theorem woL_lt {l : List (Int × Int)} {m : Int × Int} (hm : m ∈ l) : (woL l m.1).length < l.length := by
  unfold woL
  exact List.length_filter_lt_length_iff_exists.2 ⟨m, hm, by simp⟩

/-- While the document's wheel goes on to tick t: what was due so far stands in out, the rest in r. -/
structure Adv (l : List (Int × Int)) (t : Int) (out r : List (Int × Int)) : Prop where
  ord : OrdL out
  part : ∀ p, p ∈ l ↔ p ∈ out ∨ p ∈ r
  apart : ∀ p, p ∈ out → p ∉ r
  due : ∀ p, p ∈ out → p.2 ≤ t
  ahead : ∀ p q, p ∈ out → q ∈ r → p.2 < q.2 ∨ p.2 = q.2 ∧ p.1 < q.1
  rest : ∃ f : Int × Int → Bool, r = l.filter f

theorem Adv.start (l : List (Int × Int)) (t : Int) : Adv l t [] l :=
  ⟨List.Pairwise.nil, fun p => by simp, fun p h => (by cases h), fun p h => (by cases h), fun p q h => (by cases h), ⟨fun _ => true, (List.filter_eq_self.2 fun _ _ => rfl).symm⟩⟩
theorem Adv.step {l : List (Int × Int)} {t : Int} {out r : List (Int × Int)} (h : Adv l t out r) (hd : ∀ p q, p ∈ l → q ∈ l → p.1 = q.1 → p = q) {m : Int × Int} (hm : m ∈ r) (hle : ∀ q ∈ r, LeD m q) (ht : m.2 ≤ t) : Adv l t (out ++ [m]) (woL r m.1) := by
  have hrl : ∀ p, p ∈ r → p ∈ l := fun p hp => (h.part p).2 (.inr hp)
  have hdr : ∀ p q, p ∈ r → q ∈ r → p.1 = q.1 → p = q := fun p q hp hq => hd p q (hrl p hp) (hrl q hq)
  refine ⟨?_, fun p => ?_, fun p hp hr => ?_, fun p hp => ?_, fun p q hp hq => ?_, ?_⟩
  · unfold OrdL
    rw [List.pairwise_append]
    refine ⟨h.ord, by simp, fun a ha b hb => ?_⟩
    rw [List.mem_singleton] at hb
    subst hb
    exact h.ahead a b ha hm
  · rw [h.part p, List.mem_append, List.mem_singleton, woL_mem hdr hm]
    by_cases e : p = m
    · subst e
      simp [hm]
    · simp [e]
  · rw [woL_mem hdr hm] at hr
    rcases List.mem_append.1 hp with hp | hp
    · exact h.apart p hp hr.1
    · exact hr.2 (List.mem_singleton.1 hp)
  · rcases List.mem_append.1 hp with hp | hp
    · exact h.due p hp
    · rw [List.mem_singleton.1 hp]; exact ht
  · rw [woL_mem hdr hm] at hq
    rcases List.mem_append.1 hp with hp | hp
    · exact h.ahead p q hp hq.1
    · rw [List.mem_singleton.1 hp]
      rcases hle q hq.1 with h1 | ⟨h1, h2⟩
      · exact .inl h1
      · refine .inr ⟨h1, ?_⟩
        rcases Int.lt_or_eq_of_le h2 with h3 | h3
        · exact h3
        · exact absurd (hdr m q hm hq.1 h3).symm hq.2
  · obtain ⟨f, rfl⟩ := h.rest
    refine ⟨fun p => decide (p.1 ≠ m.1) && f p, ?_⟩
    unfold woL
    rw [List.filter_filter]
/-- Once no one of the rest is due: the rest is what is for later, in its order. -/
theorem Adv.done {l : List (Int × Int)} {t : Int} {out r : List (Int × Int)} (h : Adv l t out r) (hr : ∀ p ∈ r, t < p.2) : r = l.filter (fun p => decide (t < p.2)) ∧ ∀ p, p ∈ out ↔ p ∈ l ∧ p.2 ≤ t := by
  obtain ⟨f, hf⟩ := h.rest
  refine ⟨?_, fun p => ⟨fun hp => ⟨(h.part p).2 (.inl hp), h.due p hp⟩, fun hp => ?_⟩⟩
  · rw [hf]
    refine List.filter_congr fun p hp => ?_
    by_cases e : t < p.2
    · rw [decide_eq_true e]
      rcases (h.part p).1 hp with h1 | h1
      · have := h.due p h1
        omega
      · rw [hf] at h1
        exact (List.mem_filter.1 h1).2
    · rw [decide_eq_false e]
      cases hfp : f p with
      | false => rfl
      | true => exact absurd (hr p (by rw [hf]; exact List.mem_filter.2 ⟨hp, hfp⟩)) e
  · rcases (h.part p).1 hp.1 with h1 | h1
    · exact h1
    · have := hr p h1
      omega

end Go.Proofs.Ytkmhgcdjmfafhaa
