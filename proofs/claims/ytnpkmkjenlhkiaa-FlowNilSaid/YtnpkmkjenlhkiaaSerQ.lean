/- Numbers that go round, as numbers: steps from one to another one, a number so many steps on (cut out of layer 6's). No condition. -/
import Derived.Test.YtnpkmkjenlhkiaaBase
import Derived.IntWalk
import Derived.Deep.RegionHeld3
import Derived.Lib.Hide
namespace Go.Proofs.Ytnpkmkjenlhkiaa
set_option linter.unusedVariables false
set_option linter.unusedSimpArgs false
open Go.RowKit

/-- How many steps it is from a to b. -/
def st (a b : Nat) : Nat := (b + 4294967296 - a) % 4294967296
/-- The number n steps behind a. -/
def on (a : Nat) (n : Int) : Nat := ((a + n) % 4294967296).toNat
/-- Is a before b? -/
def bf (a b : Nat) : Bool := decide (1 ≤ st a b ∧ st a b < 2147483648)

theorem st_lt (a b : Nat) : st a b < 4294967296 := by unfold st; omega
theorem on_lt (a : Nat) (n : Int) : on a n < 4294967296 := by unfold on; omega
theorem on_int (a : Nat) (n : Int) : (on a n : Int) = (a + n) % 4294967296 := by unfold on; omega
theorem st_int {a b : Nat} (ha : a < 4294967296) (hb : b < 4294967296) : (st a b : Int) = ((b : Int) - a) % 4294967296 := by unfold st; omega
theorem st_on {a b : Nat} (ha : a < 4294967296) (hb : b < 4294967296) (n : Int) : st (on a n) (on b n) = st a b := by
  have h1 := st_int (on_lt a n) (on_lt b n)
  have h2 := st_int ha hb
  rw [on_int, on_int] at h1
  omega
theorem st_on_self {a : Nat} (ha : a < 4294967296) (n : Int) : (st a (on a n) : Int) = n % 4294967296 := by
  rw [st_int ha (on_lt a n), on_int]
  omega
theorem on_st {a b : Nat} (ha : a < 4294967296) (hb : b < 4294967296) : on a (st a b) = b := by
  have h1 := st_int ha hb
  have h2 := on_int a (st a b)
  omega
theorem on_back {a b : Nat} (ha : a < 4294967296) (hb : b < 4294967296) : on b (-(st a b : Int)) = a := by
  have h1 := st_int ha hb
  have h2 := on_int b (-(st a b : Int))
  omega

/-- b less a, cut to 32 bits. -/
theorem wrap_st {a b : Nat} (ha : a < 4294967296) (hb : b < 4294967296) : IntKind.u32.wrap ((b : Int) - (a : Int)) = (st a b : Nat) := by
  rw [st_int ha hb]
  simp [IntKind.wrap, IntKind.bits, IntKind.signed]
theorem wrap_on (a : Nat) (n : Int) : IntKind.u32.wrap ((a : Int) + IntKind.u32.wrap n) = (on a n : Nat) := by
  rw [on_int]
  simp [IntKind.wrap, IntKind.bits, IntKind.signed]

set_option maxHeartbeats 800000 in
theorem steps_any (a b : Nat) (w : World) (ha : a < 4294967296) (hb : b < 4294967296) :
    Calls Try.prog 83 #[.agg #[.int .u32 (a : Int)], .int .u32 (b : Int)] w fun e w' => e = .returned (.int .i64 (st a b : Nat)) ∧ Below w.heap.size w w' := by
  have hlt := st_lt a b
  have HW := wrap_st ha hb
  generalize st a b = x at *
  go_enter Try.func83, Try.ntmps83
  go_wp2
  go_ret
  exact ⟨rfl, below_a w _⟩

set_option maxHeartbeats 800000 in
theorem onr_any (a : Nat) (n : Int) (w : World) (ha : a < 4294967296) (hn : -9223372036854775808 ≤ n ∧ n ≤ 9223372036854775807) :
    Calls Try.prog 58 #[.agg #[.int .u32 (a : Int)], .int .i64 n] w fun e w' => e = .returned (.int .u32 (on a n : Nat)) ∧ Below w.heap.size w w' := by
  have hlt := on_lt a n
  have HW := wrap_on a n
  generalize on a n = x at *
  go_enter Try.func58, Try.ntmps58
  go_wp2
  go_ret
  exact ⟨by rw [← HW]; rfl, below_a w _⟩

/-- Behind a box of a run: its two cells, and that nothing that was there has turned. -/
def Two (w W : World) (a : Nat) (n : Int) : Prop := W.cell? ⟨w.heap.size, 0, none⟩ = some (.int .u32 (a : Int)) ∧ W.cell? ⟨w.heap.size, 1, none⟩ = some (.int .i64 n) ∧ w.heap.size < W.heap.size ∧ Below w.heap.size w W
theorem Two.new (w : World) (a : Nat) (n : Int) (t : TypeId) : Two w (w.alloc (.cells #[.int .u32 (a : Int), .int .i64 n] t)) a n := by
  refine ⟨?_, ?_, by simp, below_a w _⟩
  · rw [cell_of_row (w.alloc (.cells #[.int .u32 (a : Int), .int .i64 n] t)) w.heap.size 0 #[.int .u32 (a : Int), .int .i64 n] t (0, 0) (heap_alloc_new w _)]
    rfl
  · rw [cell_of_row (w.alloc (.cells #[.int .u32 (a : Int), .int .i64 n] t)) w.heap.size 1 #[.int .u32 (a : Int), .int .i64 n] t (0, 0) (heap_alloc_new w _)]
    rfl
theorem Two.drew {w W : World} {a : Nat} {n : Int} (h : Two w W a n) : Two w W.drew a n := ⟨h.1, h.2.1, h.2.2.1, h.2.2.2.drew⟩
theorem Two.below {w W W' : World} {a : Nat} {n : Int} (h : Two w W a n) (b : Below W.heap.size W W') : Two w W' a n :=
  ⟨(b.cell h.2.2.1).trans h.1, (b.cell h.2.2.1).trans h.2.1, Nat.lt_of_lt_of_le h.2.2.1 b.size, below_trans h.2.2.2 b⟩

set_option maxHeartbeats 800000 in
theorem has_any (a b : Nat) (n : Int) (w : World) (ha : a < 4294967296) (hb : b < 4294967296) (hn : -9223372036854775808 ≤ n ∧ n ≤ 9223372036854775807) :
    Calls Try.prog 76 #[.agg #[.int .u32 (a : Int), .int .i64 n], .int .u32 (b : Int)] w fun e w' => e = .returned (.bool (decide ((st a b : Int) < n))) ∧ Below w.heap.size w w' := by
  have hlt := st_lt a b
  have HS := Lib.hid (fun W => steps_any a b W ha hb)
  generalize st a b = x at *
  go_enter Try.func76, Try.ntmps76
  go_wp2_with fail
  have h0 : Two w (w.alloc (.cells #[.int .u32 (a : Int), .int .i64 n] 112)) a n := Two.new w a n _
  have h1 := h0.1
  have h2 := h0.2.1
  go_region_held3 (fun W => W.cell? ⟨w.heap.size, 0, none⟩ = some (.int .u32 (a : Int)) ∧ W.cell? ⟨w.heap.size, 1, none⟩ = some (.int .i64 n) ∧ Two w W a n)
    (first
      | exact ⟨h0.1, h0.2.1, h0⟩
      | exact ⟨h3.1, h3.2.1, h3⟩
      | exact ⟨h0.drew.1, h0.drew.2.1, h0.drew⟩)
    (first | (go_at_call 83; refine (HS.out _).mono ?_; rintro e w9 ⟨rfl, b⟩; have h3 := h0.drew.below b))
  go_wp2_with fail
  go_ret
  exact ⟨rfl, h3.2.2.2⟩

set_option maxHeartbeats 800000 in
theorem Steps_any (a b : Nat) (w : World) (ha : a < 4294967296) (hb : b < 4294967296) :
    Calls Try.prog 85 #[.int .u32 (a : Int), .int .u32 (b : Int)] w fun e w' => e = .returned (.int .i64 (st a b : Nat)) ∧ Below w.heap.size w w' := by
  have hlt := st_lt a b
  have HS := Lib.hid (fun W => steps_any a b W ha hb)
  generalize st a b = x at *
  go_enter Try.func85, Try.ntmps85
  go_wp2_with (first | (go_at_call 83; refine (HS.out _).mono ?_; rintro e w1 ⟨rfl, b1⟩))
  go_ret
  exact ⟨rfl, b1⟩

set_option maxHeartbeats 800000 in
theorem On_any (a : Nat) (n : Int) (w : World) (ha : a < 4294967296) (hn : -9223372036854775808 ≤ n ∧ n ≤ 9223372036854775807) :
    Calls Try.prog 34 #[.int .u32 (a : Int), .int .i64 n] w fun e w' => e = .returned (.int .u32 (on a n : Nat)) ∧ Below w.heap.size w w' := by
  have hlt := on_lt a n
  have HS := Lib.hid (fun W => onr_any a n W ha hn)
  generalize on a n = x at *
  go_enter Try.func34, Try.ntmps34
  go_wp2_with (first | (go_at_call 58; refine (HS.out _).mono ?_; rintro e w1 ⟨rfl, b1⟩))
  go_ret
  exact ⟨rfl, b1⟩

set_option maxHeartbeats 800000 in
theorem In_any (x a : Nat) (n : Int) (w : World) (hx : x < 4294967296) (ha : a < 4294967296) (hn : -9223372036854775808 ≤ n ∧ n ≤ 9223372036854775807) :
    Calls Try.prog 84 #[.int .u32 (x : Int), .int .u32 (a : Int), .int .i64 n] w fun e w' => e = .returned (.bool (decide ((st a x : Int) < n))) ∧ Below w.heap.size w w' := by
  have HS := Lib.hid (fun W => has_any a x n W ha hx hn)
  generalize hd : decide ((st a x : Int) < n) = d at *
  clear hd
  go_enter Try.func84, Try.ntmps84
  go_wp2_with (first | (go_at_call 76; refine (HS.out _).mono ?_; rintro e w1 ⟨rfl, b1⟩))
  go_ret
  exact ⟨rfl, b1⟩

theorem tmod_pos {n m : Int} (h : 0 ≤ n) : n.tmod m = n % m := Int.tmod_eq_emod_of_nonneg h
theorem tmod_neg (n m : Int) (h : n < 0) : n.tmod m = -((-n) % m) := by
  obtain ⟨k, rfl⟩ : ∃ k, n = -k := ⟨-n, by omega⟩
  rw [Int.neg_tmod, Int.neg_neg, Int.tmod_eq_emod_of_nonneg (by omega)]

end Go.Proofs.Ytnpkmkjenlhkiaa
