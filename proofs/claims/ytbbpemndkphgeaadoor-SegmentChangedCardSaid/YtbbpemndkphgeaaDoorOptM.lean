/- Layer 7's mathematics: what fields a kind has, the number in a field, an option with a number put in a field, what fields tell as bytes and what bytes tell. No condition. -/
import Derived.Test.YtbbpemndkphgeaaDoorOptA
namespace Go.Proofs.YtbbpemndkphgeaaDoor
set_option linter.unusedVariables false
set_option linter.unusedSimpArgs false
open Go.RowKit

/-- An int as a number of 64 bits; a truth as a number. -/
def u64 (x : Int) : Nat := (x % 18446744073709551616).toNat
def b2n (b : Bool) : Nat := if b then 1 else 0
/-- A number of 64 bits as an int. -/
def s64 (n : Nat) : Int := if n < 9223372036854775808 then n else (n : Int) - 18446744073709551616
theorem u64_lt (x : Int) : u64 x < 18446744073709551616 := by unfold u64; omega
theorem u64_int (x : Int) : (u64 x : Int) = x % 18446744073709551616 := by unfold u64; omega
theorem s64_u64 {x : Int} (h : isInt x) : s64 (u64 x) = x := by
  unfold isInt at h
  unfold s64
  have := u64_int x
  split <;> omega
theorem s64_small {n : Nat} (h : n < 9223372036854775808) : s64 n = n := by unfold s64; rw [if_pos h]
theorem s64_isInt {n : Nat} (h : n < 18446744073709551616) : isInt (s64 n) := by unfold isInt s64; split <;> omega
theorem b2n_le (b : Bool) : b2n b ≤ 1 := by cases b <;> decide

/-- The number that stands in the field in place s. -/
def Opt.num (o : Opt) : Nat → Nat
  | 1 => o.key
  | 2 => o.mac
  | 3 => o.token
  | 4 => o.nonce
  | 5 => u64 o.addr
  | 6 => u64 o.reason
  | 7 => b2n o.backup
  | 8 => b2n o.hasAck
  | 9 => u64 o.ack
  | 10 => b2n o.hasMap
  | 11 => u64 o.dsn
  | 12 => u64 o.len
  | 13 => b2n o.fin
  | _ => 0
/-- o, with n in place s. -/
def Opt.put (o : Opt) : Nat → Nat → Opt
  | 1, n => { o with key := n }
  | 2, n => { o with mac := n }
  | 3, n => { o with token := n % 4294967296 }
  | 4, n => { o with nonce := n % 4294967296 }
  | 5, n => { o with addr := s64 n }
  | 6, n => { o with reason := s64 n }
  | 7, n => { o with backup := n == 1 }
  | 8, n => { o with hasAck := n == 1 }
  | 9, n => { o with ack := s64 n }
  | 10, n => { o with hasMap := n == 1 }
  | 11, n => { o with dsn := s64 n }
  | 12, n => { o with len := s64 n }
  | 13, n => { o with fin := n == 1 }
  | _, _ => o
/-- Is a truth in place s? -/
def isB : Nat → Bool
  | 7 => true
  | 8 => true
  | 10 => true
  | 13 => true
  | _ => false
/-- May n be in place s? -/
def okN (s n : Nat) : Bool := if isB s then decide (n ≤ 1) else true
/-- The places. -/
def spot (s : Nat) : Prop := 1 ≤ s ∧ s ≤ 13
theorem spot_or {s : Nat} (h : spot s) : s = 1 ∨ s = 2 ∨ s = 3 ∨ s = 4 ∨ s = 5 ∨ s = 6 ∨ s = 7 ∨ s = 8 ∨ s = 9 ∨ s = 10 ∨ s = 11 ∨ s = 12 ∨ s = 13 := by unfold spot at h; omega
theorem num_lt64 {o : Opt} (h : o.ok) {s : Nat} (hs : spot s) : o.num s < 18446744073709551616 := by
  have h1 := h.key
  have h2 := h.mac
  have h3 := h.token
  have h4 := h.nonce
  rcases spot_or hs with rfl | rfl | rfl | rfl | rfl | rfl | rfl | rfl | rfl | rfl | rfl | rfl | rfl <;> simp only [Opt.num] <;> first | omega | exact u64_lt _ | exact Nat.lt_of_le_of_lt (b2n_le _) (by decide)
theorem put_ok {o : Opt} (h : o.ok) {s n : Nat} (hn : n < 18446744073709551616) (hs : spot s) : (o.put s n).ok := by
  have hi := s64_isInt hn
  obtain ⟨h0, h1, h2, h3, h4, h5, h6, h7, h8, h9⟩ := h
  have hm : n % 4294967296 < 4294967296 := Nat.mod_lt _ (by omega)
  rcases spot_or hs with rfl | rfl | rfl | rfl | rfl | rfl | rfl | rfl | rfl | rfl | rfl | rfl | rfl <;> refine ⟨?_, ?_, ?_, ?_, ?_, ?_, ?_, ?_, ?_, ?_⟩ <;> assumption
theorem put_kind (o : Opt) (s n : Nat) : (o.put s n).kind = o.kind := by
  unfold Opt.put
  split <;> rfl

/-- A kind's fields: each one's place, and how many bytes it has. -/
def tabN : Nat → List (Nat × Nat)
  | 1 => [(1, 8)]
  | 2 => [(3, 4), (4, 4), (5, 1), (7, 1)]
  | 3 => [(2, 8), (4, 4)]
  | 4 => [(2, 8)]
  | 5 => [(8, 1), (9, 4), (10, 1), (11, 4), (12, 1), (13, 1)]
  | 6 => [(5, 1)]
  | 7 => [(5, 1)]
  | 8 => [(7, 1)]
  | 9 => [(11, 4)]
  | 10 => [(1, 8)]
  | 11 => [(6, 1)]
  | _ => []
def tab (k : Int) : List (Nat × Nat) := if k < 0 then [] else tabN k.toNat
theorem tab_neg {k : Int} (h : k < 0) : tab k = [] := by unfold tab; rw [if_pos h]
theorem tab_nat (n : Nat) : tab (n : Int) = tabN n := by unfold tab; rw [if_neg (by omega)]; rfl
theorem tab_far {k : Int} (h : 12 ≤ k) : tab k = [] := by
  obtain ⟨n, rfl⟩ := Int.eq_ofNat_of_zero_le (show 0 ≤ k by omega)
  rw [tab_nat]
  have h' : 12 ≤ n := by omega
  match n, h' with
  | n + 12, _ => rfl
theorem kind_or (k : Int) : k < 0 ∨ 12 ≤ k ∨ k = 0 ∨ k = 1 ∨ k = 2 ∨ k = 3 ∨ k = 4 ∨ k = 5 ∨ k = 6 ∨ k = 7 ∨ k = 8 ∨ k = 9 ∨ k = 10 ∨ k = 11 := by omega
/-- A list of fields that may be. -/
def Fine (l : List (Nat × Nat)) : Prop := (∀ f ∈ l, spot f.1 ∧ 1 ≤ f.2 ∧ f.2 ≤ 8) ∧ l.length ≤ 6 ∧ (l.map (·.1)).Nodup
theorem fine_tabN (n : Nat) : Fine (tabN n) := by
  unfold tabN Fine spot
  split <;> decide
theorem fine_tab (k : Int) : Fine (tab k) := by
  unfold tab
  split
  · exact ⟨by simp, by simp, by simp⟩
  · exact fine_tabN _

/-- Does each field fit into its bytes? How many bytes are they? What do they tell? -/
def fitB (o : Opt) (l : List (Nat × Nat)) : Bool := l.all fun f => decide (o.num f.1 < 256 ^ f.2)
def long (l : List (Nat × Nat)) : Nat := (l.map (·.2)).sum
def toldB (o : Opt) (l : List (Nat × Nat)) : List UInt8 := l.flatMap fun f => be (o.num f.1) f.2
/-- o, with what the bytes b tell in the fields; with zeros in the fields. -/
def prs : Opt → List (Nat × Nat) → List UInt8 → Opt
  | o, [], _ => o
  | o, f :: r, b => prs (o.put f.1 (num (b.take f.2))) r (b.drop f.2)
def okL : List (Nat × Nat) → List UInt8 → Bool
  | [], _ => true
  | f :: r, b => okN f.1 (num (b.take f.2)) && okL r (b.drop f.2)
def bareO (o : Opt) (l : List (Nat × Nat)) : Opt := l.foldl (fun o f => o.put f.1 0) o
theorem toldB_length (o : Opt) (l : List (Nat × Nat)) : (toldB o l).length = long l := by
  induction l with
  | nil => rfl
  | cons f r ih =>
    have : toldB o (f :: r) = be (o.num f.1) f.2 ++ toldB o r := rfl
    rw [this, List.length_append, be_length, ih]
    rfl
end Go.Proofs.YtbbpemndkphgeaaDoor
