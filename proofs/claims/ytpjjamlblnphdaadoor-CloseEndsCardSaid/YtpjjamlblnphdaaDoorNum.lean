/- The plain functions of layer 1, on lists of bytes: a width held within 1 to 8, the number of some bytes, a number's bytes. Nothing of the program is imported. No condition. -/
import Derived.Below
import Derived.IntWalk
namespace Go.Proofs.YtpjjamlblnphdaaDoor
set_option linter.unusedVariables false
set_option linter.unusedSimpArgs false

/-- A width, held within 1 to 8. -/
def wn (n : Int) : Nat := if n < 1 then 1 else if 8 < n then 8 else n.toNat
theorem wn_lo (n : Int) : 1 ≤ wn n := by unfold wn; split <;> (try split) <;> omega
theorem wn_hi (n : Int) : wn n ≤ 8 := by unfold wn; split <;> (try split) <;> omega
theorem wn_one {n : Int} (h : n < 1) : wn n = 1 := by unfold wn; rw [if_pos h]
theorem wn_eight {n : Int} (h : 8 < n) : wn n = 8 := by unfold wn; rw [if_neg (by omega), if_pos h]
theorem wn_mid {n : Int} (h : 1 ≤ n) (h' : n ≤ 8) : (wn n : Int) = n := by unfold wn; rw [if_neg (by omega), if_neg (by omega)]; omega

/-- The number of some bytes, the highest one first. -/
def num (l : List UInt8) : Nat := l.foldl (fun n b => 256 * n + b.toNat) 0
theorem num_nil : num [] = 0 := rfl
theorem num_snoc (l : List UInt8) (b : UInt8) : num (l ++ [b]) = 256 * num l + b.toNat := by simp [num]
theorem num_lt (l : List UInt8) : num l < 256 ^ l.length := by
  suffices h : ∀ (l : List UInt8) (n k : Nat), n < 256 ^ k → l.foldl (fun n b => 256 * n + b.toNat) n < 256 ^ (k + l.length) by
    have := h l 0 0 (by decide)
    rw [Nat.zero_add] at this
    exact this
  intro l
  induction l with
  | nil => intro n k h; simpa using h
  | cons b r ih =>
    intro n k h
    have hb := b.toNat_lt
    have := ih (256 * n + b.toNat) (k + 1) (by rw [Nat.pow_succ]; omega)
    simp only [List.foldl_cons, List.length_cons]
    rw [show k + (r.length + 1) = k + 1 + r.length from by omega]
    exact this
theorem take_snoc (l : List UInt8) (k : Nat) (h : k < l.length) : l.take (k + 1) = l.take k ++ [l.getD k 0] := by
  rw [List.take_succ_eq_append_getElem h]
  simp [h]
theorem num_step (l : List UInt8) (k : Nat) (h : k < l.length) : num (l.take (k + 1)) = 256 * num (l.take k) + (l.getD k 0).toNat := by
  rw [take_snoc l k h, num_snoc]
theorem pow_le_seven (k : Nat) (h : k ≤ 7) : 256 ^ k ≤ 72057594037927936 :=
  Nat.le_trans (Nat.pow_le_pow_right (by decide) h) (by decide)
theorem num_seven (l : List UInt8) (h : l.length ≤ 7) : num l ≤ 72057594037927935 := by
  have h1 := num_lt l
  have h2 := pow_le_seven l.length h
  omega
theorem num_take_seven (l : List UInt8) (k : Nat) (h : k ≤ 7) : num (l.take k) ≤ 72057594037927935 :=
  num_seven _ (Nat.le_trans (List.length_take_le _ _) h)

/-- n in k bytes, the highest one first. -/
def be (n k : Nat) : List UInt8 := (List.range k).map fun i => UInt8.ofNat (n / 256 ^ (k - 1 - i))
theorem be_length (n k : Nat) : (be n k).length = k := by simp [be]
theorem be_at (n k j : Nat) (h : j < k) : (be n k).getD j 0 = UInt8.ofNat (n / 256 ^ (k - 1 - j)) := by
  simp [be, h]
theorem be_take (n k j : Nat) (h : j < k) : (be n k).take (j + 1) = (be n k).take j ++ [UInt8.ofNat (n / 256 ^ (k - 1 - j))] := by
  rw [take_snoc _ _ (by rw [be_length]; exact h), be_at n k j h]
theorem num_be_take (n k j : Nat) (h : j ≤ k) : num ((be n k).take j) = (n / 256 ^ (k - j)) % 256 ^ j := by
  induction j with
  | zero => simp [num_nil, Nat.mod_one]
  | succ j ih =>
    rw [be_take n k j (by omega), num_snoc, ih (by omega)]
    have e : k - j = (k - 1 - j) + 1 := by omega
    rw [show k - (j + 1) = k - 1 - j from by omega, e, Nat.pow_succ, ← Nat.div_div_eq_div_mul]
    generalize n / 256 ^ (k - 1 - j) = m
    rw [UInt8.toNat_ofNat', show 256 ^ (j + 1) = 256 * 256 ^ j from by rw [Nat.pow_succ, Nat.mul_comm], Nat.mod_mul]
    omega
/-- What is put in k bytes is the number, of its lowest bytes. -/
theorem num_be (n k : Nat) : num (be n k) = n % 256 ^ k := by
  have := num_be_take n k k (Nat.le_refl _)
  rw [List.take_of_length_le (by rw [be_length]; exact Nat.le_refl _)] at this
  simpa using this

end Go.Proofs.YtpjjamlblnphdaaDoor
