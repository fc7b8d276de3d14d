/- Layer 7's mathematics, second part: bytes that tell fields tell what these told; an option is right just if it is what its own bytes tell. No condition. -/
import Derived.Test.YtcofkdcjcckdfaaOptR
import Derived.Test.YtcofkdcjcckdfaaOptT
namespace Go.Proofs.Ytcofkdcjcckdfaa
set_option linter.unusedVariables false
set_option linter.unusedSimpArgs false
open Go.RowKit

theorem be_succ (n k : Nat) : be n (k + 1) = be (n / 256) k ++ [UInt8.ofNat n] := by
  unfold be
  rw [List.range_succ, List.map_append]
  congr 1
  · apply List.map_congr_left
    intro i hi
    have hi' : i < k := List.mem_range.1 hi
    rw [Nat.div_div_eq_div_mul, show k + 1 - 1 - i = (k - 1 - i) + 1 from by omega, Nat.pow_succ, Nat.mul_comm]
  · simp
theorem be_num (l : List UInt8) : ∀ k, l.length = k → be (num l) k = l := by
  intro k
  induction k generalizing l with
  | zero => intro h; rw [List.eq_nil_of_length_eq_zero h]; rfl
  | succ k ih =>
    intro h
    obtain ⟨r, x, rfl⟩ : ∃ r x, l = r ++ [x] := ⟨l.dropLast, l.getLast (by intro e; rw [e] at h; cases h), (List.dropLast_concat_getLast _).symm⟩
    have hr : r.length = k := by simpa using h
    have hx := x.toNat_lt
    rw [num_snoc, be_succ, show (256 * num r + x.toNat) / 256 = num r from by omega, ih r hr]
    congr 2
    apply UInt8.toNat_inj.1
    rw [UInt8.toNat_ofNat']
    omega
theorem num_put_other (o : Opt) {s s' n : Nat} (h : s' ≠ s) : (o.put s n).num s' = o.num s' := by
  unfold Opt.put
  split <;> (unfold Opt.num; split <;> first | rfl | omega)
/-- A field's width is one that its place may have. -/
def Wide (f : Nat × Nat) : Prop := spot f.1 ∧ 1 ≤ f.2 ∧ f.2 ≤ 8 ∧ (f.1 = 3 ∨ f.1 = 4 → f.2 ≤ 4) ∧ (isB f.1 = true → f.2 = 1)
theorem num_put_same (o : Opt) {s n : Nat} (hs : spot s) (hn : n < 18446744073709551616) (h4 : s = 3 ∨ s = 4 → n < 4294967296) : (o.put s n).num s = if isB s then b2n (n == 1) else n := by
  rcases spot_or hs with rfl | rfl | rfl | rfl | rfl | rfl | rfl | rfl | rfl | rfl | rfl | rfl | rfl
  all_goals simp only [Opt.put, Opt.num, isB, Bool.false_eq_true, if_false, if_true]
  · exact Nat.mod_eq_of_lt (h4 (.inl rfl))
  · exact Nat.mod_eq_of_lt (h4 (.inr rfl))
  all_goals
    unfold u64 s64
    split <;> omega
theorem num_prs_other : ∀ (l : List (Nat × Nat)) (o : Opt) (b : List UInt8) {s : Nat}, s ∉ l.map (·.1) → (prs o l b).num s = o.num s
  | [], _, _, _, _ => rfl
  | f :: r, o, b, s, h => by
    simp only [List.map_cons, List.mem_cons, not_or] at h
    show (prs (o.put f.1 (num (b.take f.2))) r (b.drop f.2)).num s = _
    rw [num_prs_other r _ _ h.2, num_put_other o h.1]
theorem toldB_cons (o : Opt) (f : Nat × Nat) (r : List (Nat × Nat)) : toldB o (f :: r) = be (o.num f.1) f.2 ++ toldB o r := rfl
/-- Bytes tell what may be just if that tells the bytes. -/
theorem okL_iff : ∀ (l : List (Nat × Nat)) (o : Opt) (b : List UInt8), (∀ f ∈ l, Wide f) → (l.map (·.1)).Nodup → b.length = long l → (okL l b = true ↔ toldB (prs o l b) l = b)
  | [], o, b, _, _, hb => by
    obtain rfl : b = [] := List.eq_nil_of_length_eq_zero hb
    exact ⟨fun _ => rfl, fun _ => rfl⟩
  | f :: r, o, b, hw, hd, hb => by
    obtain ⟨h1, h2, h3, h4, h5⟩ := hw f (List.mem_cons_self ..)
    rw [List.map_cons, List.nodup_cons] at hd
    rw [long_cons] at hb
    have hlt : (b.take f.2).length = f.2 := by rw [List.length_take]; omega
    have hld : (b.drop f.2).length = long r := by rw [List.length_drop]; omega
    have ih := okL_iff r (o.put f.1 (num (b.take f.2))) (b.drop f.2) (fun g hg => hw g (List.mem_cons_of_mem _ hg)) hd.2 hld
    have hn := num_wide b h3
    have hnw : num (b.take f.2) < 256 ^ f.2 := Nat.lt_of_lt_of_le (num_lt _) (Nat.pow_le_pow_right (by decide) (List.length_take_le _ _))
    have hn4 : f.1 = 3 ∨ f.1 = 4 → num (b.take f.2) < 4294967296 := fun e => by
      have e1 := h4 e
      have e2 := num_lt (b.take f.2)
      have e3 : 256 ^ (b.take f.2).length ≤ 256 ^ 4 := Nat.pow_le_pow_right (by decide) (by omega)
      omega
    have hfin : (prs o (f :: r) b).num f.1 = if isB f.1 then b2n (num (b.take f.2) == 1) else num (b.take f.2) := by
      show (prs (o.put f.1 (num (b.take f.2))) r (b.drop f.2)).num f.1 = _
      rw [num_prs_other r _ _ hd.1, num_put_same o h1 hn hn4]
    have hok : okL (f :: r) b = (okN f.1 (num (b.take f.2)) && okL r (b.drop f.2)) := rfl
    rw [toldB_cons, hfin, hok, Bool.and_eq_true, ih]
    have hbe := be_num (b.take f.2) f.2 hlt
    have hsplit : b.take f.2 ++ b.drop f.2 = b := List.take_append_drop _ _
    show _ ↔ be _ f.2 ++ toldB (prs (o.put f.1 (num (b.take f.2))) r (b.drop f.2)) r = b
    generalize toldB (prs (o.put f.1 (num (b.take f.2))) r (b.drop f.2)) r = t
    generalize num (b.take f.2) = n at *
    unfold okN
    cases hB : isB f.1 with
    | false =>
      simp only [Bool.false_eq_true, if_false, true_and]
      rw [hbe]
      constructor
      · intro e; rw [e, hsplit]
      · intro e
        have : b.take f.2 ++ t = b.take f.2 ++ b.drop f.2 := by rw [e, hsplit]
        exact List.append_cancel_left this
    | true =>
      have hw1 := h5 hB
      simp only [if_true, decide_eq_true_eq]
      by_cases hn1 : n ≤ 1
      · have e1 : b2n (n == 1) = n := by
          rcases (show n = 0 ∨ n = 1 from by omega) with rfl | rfl <;> rfl
        rw [e1, hbe]
        constructor
        · rintro ⟨_, e⟩; rw [e, hsplit]
        · intro e
          have : b.take f.2 ++ t = b.take f.2 ++ b.drop f.2 := by rw [e, hsplit]
          exact ⟨hn1, List.append_cancel_left this⟩
      · have e1 : b2n (n == 1) = 0 := by
          have : (n == 1) = false := by simp; omega
          rw [this]; rfl
        constructor
        · rintro ⟨e, _⟩; exact absurd e hn1
        · intro e
          exfalso
          have h6 : (be 0 f.2 ++ t).take f.2 = b.take f.2 := by rw [e1] at e; rw [e]
          rw [List.take_left' (be_length 0 f.2)] at h6
          rw [← hbe] at h6
          have h7 : num (be 0 f.2) = num (be n f.2) := by rw [h6]
          rw [num_be, num_be, hw1] at h7
          rw [hw1] at hnw
          omega
end Go.Proofs.Ytcofkdcjcckdfaa
