/- The plain functions of layer 2, on lists of bytes: the sum of bytes by twos, what goes beyond 16 bits added again, the bits turned over. Nothing of the program is imported. No condition. -/
import Derived.Test.YtbbpemndkphgeaaDoorNum
namespace Go.Proofs.YtbbpemndkphgeaaDoor
set_option linter.unusedVariables false

/-- The sum of bytes, where the first one is the higher one (true) or the lower one of its number. -/
def sm : Bool → List UInt8 → Nat
  | _, [] => 0
  | true, a :: r => 256 * a.toNat + sm false r
  | false, a :: r => a.toNat + sm true r
/-- Does a byte behind so many have the higher place? -/
def ev (n : Nat) : Bool := n % 2 == 0
theorem ev_succ (n : Nat) : ev (n + 1) = !ev n := by
  unfold ev
  rcases Nat.mod_two_eq_zero_or_one n with h | h
  · rw [Nat.add_mod, h]; rfl
  · rw [Nat.add_mod, h]; rfl
theorem ev_zero : ev 0 = true := rfl
theorem sm_append (b : Bool) (l r : List UInt8) : sm b (l ++ r) = sm b l + sm (b == ev l.length) r := by
  induction l generalizing b with
  | nil => cases b <;> simp [sm, ev]
  | cons a t ih =>
    rw [List.cons_append, List.length_cons, ev_succ]
    cases b
    · rw [sm, sm, ih, Nat.add_assoc]
      cases ev t.length <;> rfl
    · rw [sm, sm, ih, Nat.add_assoc]
      cases ev t.length <;> rfl
theorem sm_up (l r : List UInt8) : sm true (l ++ r) = sm true l + sm (ev l.length) r := by
  rw [sm_append]
  cases ev l.length <;> rfl
theorem sm_snoc (l : List UInt8) (a : UInt8) : sm true (l ++ [a]) = sm true l + (if ev l.length then 256 * a.toNat else a.toNat) := by
  rw [sm_up]
  cases ev l.length <;> simp [sm]
theorem sm_le (b : Bool) (l : List UInt8) : sm b l ≤ 65280 * l.length := by
  induction l generalizing b with
  | nil => simp [sm]
  | cons a t ih =>
    have ha := a.toNat_lt
    cases b
    · have := ih true
      rw [sm, List.length_cons]
      omega
    · have := ih false
      rw [sm, List.length_cons]
      omega
theorem sm_zeros (b : Bool) (n : Nat) : sm b (List.replicate n 0) = 0 := by
  induction n generalizing b with
  | zero => simp [sm]
  | succ n ih => cases b <;> simp [List.replicate_succ, sm, ih]

/-- What goes beyond 16 bits is added again, till nothing does. -/
def fo (n : Nat) : Nat := if n = 0 then 0 else (n - 1) % 65535 + 1
theorem fo_step (n : Nat) (h : 65535 < n) : fo (n / 65536 + n % 65536) = fo n := by
  unfold fo
  rw [if_neg (by omega), if_neg (by omega)]
  omega
theorem fo_small (n : Nat) (h : n ≤ 65535) : fo n = n := by
  unfold fo
  split <;> omega
theorem fo_le (n : Nat) : fo n ≤ 65535 := by
  unfold fo
  split <;> omega
/-- The sum, its bits turned over. -/
def of (l : List UInt8) : Nat := 65535 - fo (sm true l)
theorem of_le (l : List UInt8) : of l ≤ 65535 := by unfold of; omega
theorem of_eq {l r : List UInt8} (h : sm true l = sm true r) : of l = of r := by unfold of; rw [h]

/-- A zero behind an odd number of bytes. -/
def pad (l : List UInt8) : List UInt8 := List.replicate (l.length % 2) 0
theorem pad_length (l : List UInt8) : (pad l).length = l.length % 2 := by simp [pad]
theorem sm_pad (l : List UInt8) : sm true (l ++ pad l) = sm true l := by
  rw [sm_up, pad, sm_zeros]; rfl
/-- Bytes and their sum. -/
def sput (l : List UInt8) : List UInt8 := l ++ pad l ++ be (of l) 2
theorem sput_length (l : List UInt8) : (sput l).length = l.length + l.length % 2 + 2 := by
  unfold sput
  rw [List.length_append, List.length_append, pad_length, be_length]
theorem be_two (n : Nat) : be n 2 = [UInt8.ofNat (n / 256), UInt8.ofNat n] := by
  simp [be, List.range, List.range.loop]
theorem sm_two (n : Nat) (h : n ≤ 65535) : sm true (be n 2) = n := by
  rw [be_two]
  simp only [sm, UInt8.toNat_ofNat']
  omega
theorem ev_even {n : Nat} (h : n % 2 = 0) : ev n = true := by simp [ev, h]
theorem sm_sput (l : List UInt8) : sm true (sput l) = sm true l + of l := by
  unfold sput
  rw [sm_up, sm_pad, ev_even (by rw [List.length_append, pad_length]; omega), sm_two _ (of_le l)]
theorem of_sput (l : List UInt8) : of (sput l) = 0 := by
  have h := sm_sput l
  unfold of at h ⊢
  rw [h]
  generalize sm true l = x
  unfold fo
  split <;> split <;> omega

/-- Bytes are as they are put: an even number, two at least, with the sum 0. -/
def sgood (l : List UInt8) : Bool := decide (2 ≤ l.length) && (decide (l.length % 2 = 0) && decide (of l = 0))
theorem sgood_sput (l : List UInt8) : sgood (sput l) = true := by
  unfold sgood
  have h := sput_length l
  rw [of_sput, Bool.and_eq_true, Bool.and_eq_true, decide_eq_true_eq, decide_eq_true_eq]
  exact ⟨by omega, by omega, rfl⟩

/-- One byte is changed. -/
theorem sm_set (b : Bool) (l : List UInt8) (i : Nat) (x : UInt8) (h : i < l.length) :
    (sm b (l.set i x) + 256 * (l.getD i 0).toNat = sm b l + 256 * x.toNat) ∨ (sm b (l.set i x) + (l.getD i 0).toNat = sm b l + x.toNat) := by
  induction l generalizing b i with
  | nil => simp at h
  | cons a t ih =>
    cases i with
    | zero => cases b <;> simp [sm] <;> omega
    | succ i =>
      have h' : i < t.length := by simpa using h
      have e : (a :: t).getD (i + 1) 0 = t.getD i 0 := by simp
      rw [List.set_cons_succ, e]
      cases b
      · rw [sm, sm]
        rcases ih true i h' with g | g <;> omega
      · rw [sm, sm]
        rcases ih false i h' with g | g <;> omega
theorem of_set (l : List UInt8) (i : Nat) (x : UInt8) (h : i < l.length) (h0 : of l = 0) (hx : x ≠ l.getD i 0) : of (l.set i x) ≠ 0 := by
  have hn : x.toNat ≠ (l.getD i 0).toNat := fun e => hx (UInt8.toNat_inj.1 e)
  have ha := x.toNat_lt
  have hb := (l.getD i 0).toNat_lt
  have hs := sm_set true l i x h
  unfold of fo at h0 ⊢
  generalize sm true (l.set i x) = p at *
  generalize sm true l = q at *
  generalize x.toNat = u at *
  generalize (l.getD i 0).toNat = v at *
  intro h1
  split at h0 <;> split at h1 <;> omega
theorem sgood_set (l : List UInt8) (i : Nat) (x : UInt8) (h : i < l.length) (h0 : of l = 0) (hx : x ≠ l.getD i 0) : sgood (l.set i x) = false := by
  unfold sgood
  have := of_set l i x h h0 hx
  simp [this]

/-- Numbers of 16 bits, each in two bytes. -/
def pairs (zs : List Nat) : List UInt8 := zs.flatMap fun z => be z 2
theorem pairs_length (zs : List Nat) : (pairs zs).length = 2 * zs.length := by
  unfold pairs
  induction zs with
  | nil => rfl
  | cons z t ih => rw [List.flatMap_cons, List.length_append, be_length, ih, List.length_cons]; omega
theorem pairs_snoc (zs : List Nat) (z : Nat) : pairs (zs ++ [z]) = pairs zs ++ be z 2 := by
  simp [pairs]
theorem sm_pairs (zs : List Nat) (h : ∀ z ∈ zs, z ≤ 65535) : sm true (pairs zs) = zs.sum := by
  induction zs with
  | nil => rfl
  | cons z t ih =>
    unfold pairs at ih ⊢
    rw [List.flatMap_cons, sm_up, be_length, show ev 2 = true from rfl, ih fun y hy => h y (List.mem_cons_of_mem _ hy), sm_two z (h z List.mem_cons_self), List.sum_cons]
theorem sum_set (zs : List Nat) (i v : Nat) (h : i < zs.length) : (zs.set i v).sum + zs.getD i 0 = zs.sum + v := by
  induction zs generalizing i with
  | nil => simp at h
  | cons z t ih =>
    cases i with
    | zero => simp; omega
    | succ i =>
      have := ih i (by simpa using h)
      simp at this ⊢
      omega
/-- Two numbers change places. -/
def swap (zs : List Nat) (a c : Nat) : List Nat := (zs.set a (zs.getD c 0)).set c (zs.getD a 0)
theorem swap_length (zs : List Nat) (a c : Nat) : (swap zs a c).length = zs.length := by simp [swap]
theorem swap_sum (zs : List Nat) (a c : Nat) (ha : a < zs.length) (hc : c < zs.length) : (swap zs a c).sum = zs.sum := by
  have h1 := sum_set zs a (zs.getD c 0) ha
  have h2 := sum_set (zs.set a (zs.getD c 0)) c (zs.getD a 0) (by simpa using hc)
  unfold swap
  by_cases e : a = c
  · subst e
    simp [ha] at h1 h2 ⊢
  · have : (zs.set a (zs.getD c 0)).getD c 0 = zs.getD c 0 := by simp [List.getElem?_set, e]
    rw [this] at h2
    omega
theorem swap_mem (zs : List Nat) (a c : Nat) (h : ∀ z ∈ zs, z ≤ 65535) (ha : a < zs.length) (hc : c < zs.length) : ∀ z ∈ swap zs a c, z ≤ 65535 := by
  have g : ∀ i, i < zs.length → zs.getD i 0 ≤ 65535 := fun i hi => h _ (by simp [hi])
  intro z hz
  unfold swap at hz
  rcases List.mem_or_eq_of_mem_set hz with hz | rfl
  · rcases List.mem_or_eq_of_mem_set hz with hz | rfl
    · exact h z hz
    · exact g c hc
  · exact g a ha
theorem of_swap (zs : List Nat) (a c : Nat) (h : ∀ z ∈ zs, z ≤ 65535) (ha : a < zs.length) (hc : c < zs.length) : of (pairs (swap zs a c)) = of (pairs zs) :=
  of_eq (by rw [sm_pairs _ (swap_mem zs a c h ha hc), sm_pairs _ h, swap_sum zs a c ha hc])

/-- Zeros behind, and all ones. -/
theorem of_zeros (l : List UInt8) (n : Nat) : of (l ++ List.replicate n 0) = of l :=
  of_eq (by rw [sm_up, sm_zeros]; rfl)
/-- Are all of them zeros? -/
def zeros (l : List UInt8) : Bool := l.all (· == 0)
theorem sm_pos (b : Bool) (l : List UInt8) (h : zeros l = false) : 0 < sm b l := by
  induction l generalizing b with
  | nil => simp [zeros] at h
  | cons a t ih =>
    by_cases e : a = 0
    · have := ih (!b) (by simpa [zeros, e] using h)
      cases b <;> simp [sm, e] <;> exact this
    · have : a.toNat ≠ 0 := fun h0 => e (UInt8.toNat_inj.1 (by simpa using h0))
      cases b <;> simp [sm] <;> omega
theorem of_ones (l : List UInt8) (he : l.length % 2 = 0) (h : zeros l = false) : of (l ++ [255, 255]) = of l := by
  have hp := sm_pos true l h
  have e : sm true (l ++ [255, 255]) = sm true l + 65535 := by
    rw [sm_up, ev_even he]; rfl
  unfold of
  rw [e]
  generalize sm true l = x at *
  unfold fo
  split <;> split <;> omega
theorem zeros_snoc (l : List UInt8) (a : UInt8) : zeros (l ++ [a]) = (zeros l && a == 0) := by simp [zeros]

end Go.Proofs.YtbbpemndkphgeaaDoor
