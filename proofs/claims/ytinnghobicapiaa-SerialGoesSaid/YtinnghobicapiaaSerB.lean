/- Numbers that go round, as numbers: steps from one to another one, a number so many steps on; what a call leaves that writes nothing that was there. No condition. -/
import Derived.Test.YtinnghobicapiaaChecked
import Derived.WalkKit
import Derived.Below
import Derived.IntWalk
import Derived.Deep.QuietTactic
import Derived.BigQuiet
import Derived.Deep.RegionHeld3
import Derived.Lib.Hide
import Derived.WalkLawsBesides
import Derived.OpenShut
import Derived.WalkSpells
namespace Go.Proofs.Ytinnghobicapiaa
set_option linter.unusedVariables false
open Go.RowKit

/-- Two steps, each of which leaves all that was there. -/
theorem below_trans {a b c : World} (h : Below a.heap.size a b) (k : Below b.heap.size b c) : Below a.heap.size a c := h.trans (k.mono h.size)
/-- What a law leaves that holds. -/
def Held (W : World) (e : Ending) (w' : World) : Prop := e = .returned (.bool true) ∧ Below W.heap.size W w'

theorem below_a (w : World) (o : Obj) : Below w.heap.size w (w.alloc o) := (Below.refl _ _).alloc (Nat.le_refl _) o

/-- How many steps it is from a to b. -/
def st (a b : Nat) : Nat := (b + 4294967296 - a) % 4294967296
/-- The number n steps behind a. -/
def on (a : Nat) (n : Int) : Nat := ((a + n) % 4294967296).toNat
/-- Is a before b? -/
def bf (a b : Nat) : Bool := decide (1 ≤ st a b ∧ st a b < 2147483648)

theorem st_lt (a b : Nat) : st a b < 4294967296 := by unfold st; omega
theorem on_lt (a : Nat) (n : Int) : on a n < 4294967296 := by unfold on; omega
theorem on_int (a : Nat) (n : Int) : (on a n : Int) = (a + n) % 4294967296 := by unfold on; omega
theorem st_int {a b : Nat} (ha : a < 4294967296) (hb : b < 4294967296) : (st a b : Int) = ((b : Int) - a) % 4294967296 := by unfold st; omega
theorem st_on {a b : Nat} (ha : a < 4294967296) (hb : b < 4294967296) (n : Int) : st (on a n) (on b n) = st a b := by
  have h1 := st_int (on_lt a n) (on_lt b n)
  have h2 := st_int ha hb
  rw [on_int, on_int] at h1
  omega
theorem st_on_self {a : Nat} (ha : a < 4294967296) (n : Int) : (st a (on a n) : Int) = n % 4294967296 := by
  rw [st_int ha (on_lt a n), on_int]
  omega
theorem on_st {a b : Nat} (ha : a < 4294967296) (hb : b < 4294967296) : on a (st a b) = b := by
  have h1 := st_int ha hb
  have h2 := on_int a (st a b)
  omega
theorem on_back {a b : Nat} (ha : a < 4294967296) (hb : b < 4294967296) : on b (-(st a b : Int)) = a := by
  have h1 := st_int ha hb
  have h2 := on_int b (-(st a b : Int))
  omega

/-- b less a, cut to 32 bits. -/
theorem wrap_st {a b : Nat} (ha : a < 4294967296) (hb : b < 4294967296) : IntKind.u32.wrap ((b : Int) - (a : Int)) = (st a b : Nat) := by
  rw [st_int ha hb]
  simp [IntKind.wrap, IntKind.bits, IntKind.signed]
theorem wrap_on (a : Nat) (n : Int) : IntKind.u32.wrap ((a : Int) + IntKind.u32.wrap n) = (on a n : Nat) := by
  rw [on_int]
  simp [IntKind.wrap, IntKind.bits, IntKind.signed]

set_option maxHeartbeats 800000 in
theorem steps_any (a b : Nat) (w : World) (ha : a < 4294967296) (hb : b < 4294967296) :
    Calls Try.prog 16 #[.agg #[.int .u32 (a : Int)], .int .u32 (b : Int)] w fun e w' => e = .returned (.int .i64 (st a b : Nat)) ∧ Below w.heap.size w w' := by
  have hlt := st_lt a b
  have HW := wrap_st ha hb
  generalize st a b = x at *
  go_enter Try.func16, Try.ntmps16
  go_wp2
  go_ret
  exact ⟨rfl, below_a w _⟩

set_option maxHeartbeats 800000 in
theorem onr_any (a : Nat) (n : Int) (w : World) (ha : a < 4294967296) (hn : -9223372036854775808 ≤ n ∧ n ≤ 9223372036854775807) :
    Calls Try.prog 18 #[.agg #[.int .u32 (a : Int)], .int .i64 n] w fun e w' => e = .returned (.int .u32 (on a n : Nat)) ∧ Below w.heap.size w w' := by
  have hlt := on_lt a n
  have HW := wrap_on a n
  generalize on a n = x at *
  go_enter Try.func18, Try.ntmps18
  go_wp2
  go_ret
  exact ⟨by rw [← HW]; rfl, below_a w _⟩

/-- Behind a box of a run: its two cells, and that nothing that was there has turned. -/
def Two (w W : World) (a : Nat) (n : Int) : Prop := W.cell? ⟨w.heap.size, 0, none⟩ = some (.int .u32 (a : Int)) ∧ W.cell? ⟨w.heap.size, 1, none⟩ = some (.int .i64 n) ∧ w.heap.size < W.heap.size ∧ Below w.heap.size w W
theorem Two.new (w : World) (a : Nat) (n : Int) (t : TypeId) : Two w (w.alloc (.cells #[.int .u32 (a : Int), .int .i64 n] t)) a n := by
  refine ⟨?_, ?_, by simp, below_a w _⟩
  · rw [cell_of_row (w.alloc (.cells #[.int .u32 (a : Int), .int .i64 n] t)) w.heap.size 0 #[.int .u32 (a : Int), .int .i64 n] t (0, 0) (heap_alloc_new w _)]
    rfl
  · rw [cell_of_row (w.alloc (.cells #[.int .u32 (a : Int), .int .i64 n] t)) w.heap.size 1 #[.int .u32 (a : Int), .int .i64 n] t (0, 0) (heap_alloc_new w _)]
    rfl
theorem Two.drew {w W : World} {a : Nat} {n : Int} (h : Two w W a n) : Two w W.drew a n := ⟨h.1, h.2.1, h.2.2.1, h.2.2.2.drew⟩
theorem Two.below {w W W' : World} {a : Nat} {n : Int} (h : Two w W a n) (b : Below W.heap.size W W') : Two w W' a n :=
  ⟨(b.cell h.2.2.1).trans h.1, (b.cell h.2.2.1).trans h.2.1, Nat.lt_of_lt_of_le h.2.2.1 b.size, below_trans h.2.2.2 b⟩

set_option maxHeartbeats 800000 in
theorem has_any (a b : Nat) (n : Int) (w : World) (ha : a < 4294967296) (hb : b < 4294967296) (hn : -9223372036854775808 ≤ n ∧ n ≤ 9223372036854775807) :
    Calls Try.prog 17 #[.agg #[.int .u32 (a : Int), .int .i64 n], .int .u32 (b : Int)] w fun e w' => e = .returned (.bool (decide ((st a b : Int) < n))) ∧ Below w.heap.size w w' := by
  have hlt := st_lt a b
  have HS := Lib.hid (fun W => steps_any a b W ha hb)
  generalize st a b = x at *
  go_enter Try.func17, Try.ntmps17
  go_wp2_with fail
  have h0 : Two w (w.alloc (.cells #[.int .u32 (a : Int), .int .i64 n] 35)) a n := Two.new w a n _
  have h1 := h0.1
  have h2 := h0.2.1
  go_region_held3 (fun W => W.cell? ⟨w.heap.size, 0, none⟩ = some (.int .u32 (a : Int)) ∧ W.cell? ⟨w.heap.size, 1, none⟩ = some (.int .i64 n) ∧ Two w W a n)
    (first
      | exact ⟨h0.1, h0.2.1, h0⟩
      | exact ⟨h3.1, h3.2.1, h3⟩
      | exact ⟨h0.drew.1, h0.drew.2.1, h0.drew⟩)
    (first | (go_at_call 16; refine (HS.out _).mono ?_; rintro e w9 ⟨rfl, b⟩; have h3 := h0.drew.below b))
  go_wp2_with fail
  go_ret
  exact ⟨rfl, h3.2.2.2⟩

set_option maxHeartbeats 800000 in
theorem Steps_any (a b : Nat) (w : World) (ha : a < 4294967296) (hb : b < 4294967296) :
    Calls Try.prog 9 #[.int .u32 (a : Int), .int .u32 (b : Int)] w fun e w' => e = .returned (.int .i64 (st a b : Nat)) ∧ Below w.heap.size w w' := by
  have hlt := st_lt a b
  have HS := Lib.hid (fun W => steps_any a b W ha hb)
  generalize st a b = x at *
  go_enter Try.func9, Try.ntmps9
  go_wp2_with (first | (go_at_call 16; refine (HS.out _).mono ?_; rintro e w1 ⟨rfl, b1⟩))
  go_ret
  exact ⟨rfl, b1⟩

set_option maxHeartbeats 800000 in
theorem On_any (a : Nat) (n : Int) (w : World) (ha : a < 4294967296) (hn : -9223372036854775808 ≤ n ∧ n ≤ 9223372036854775807) :
    Calls Try.prog 13 #[.int .u32 (a : Int), .int .i64 n] w fun e w' => e = .returned (.int .u32 (on a n : Nat)) ∧ Below w.heap.size w w' := by
  have hlt := on_lt a n
  have HS := Lib.hid (fun W => onr_any a n W ha hn)
  generalize on a n = x at *
  go_enter Try.func13, Try.ntmps13
  go_wp2_with (first | (go_at_call 18; refine (HS.out _).mono ?_; rintro e w1 ⟨rfl, b1⟩))
  go_ret
  exact ⟨rfl, b1⟩

set_option maxHeartbeats 800000 in
theorem In_any (x a : Nat) (n : Int) (w : World) (hx : x < 4294967296) (ha : a < 4294967296) (hn : -9223372036854775808 ≤ n ∧ n ≤ 9223372036854775807) :
    Calls Try.prog 15 #[.int .u32 (x : Int), .int .u32 (a : Int), .int .i64 n] w fun e w' => e = .returned (.bool (decide ((st a x : Int) < n))) ∧ Below w.heap.size w w' := by
  have HS := Lib.hid (fun W => has_any a x n W ha hx hn)
  generalize hd : decide ((st a x : Int) < n) = d at *
  clear hd
  go_enter Try.func15, Try.ntmps15
  go_wp2_with (first | (go_at_call 17; refine (HS.out _).mono ?_; rintro e w1 ⟨rfl, b1⟩))
  go_ret
  exact ⟨rfl, b1⟩

theorem bf_on {a b : Nat} (ha : a < 4294967296) (hb : b < 4294967296) : decide ((st (on a 1) b : Int) < 2147483647) = bf a b := by
  unfold bf
  have h1 := st_int (on_lt a 1) hb
  have h2 := st_int ha hb
  rw [on_int] at h1
  by_cases h : 1 ≤ st a b ∧ st a b < 2147483648
  · rw [decide_eq_true h, decide_eq_true (by omega)]
  · rw [decide_eq_false h, decide_eq_false (by omega)]

set_option maxHeartbeats 800000 in
theorem Before_any (a b : Nat) (w : World) (ha : a < 4294967296) (hb : b < 4294967296) :
    Calls Try.prog 11 #[.int .u32 (a : Int), .int .u32 (b : Int)] w fun e w' => e = .returned (.bool (bf a b)) ∧ Below w.heap.size w w' := by
  have HO := Lib.hid (fun W => On_any a 1 W ha (by omega))
  have HI := Lib.hid (fun W => has_any (on a 1) b 2147483647 W (on_lt a 1) hb (by omega))
  rw [bf_on ha hb] at HI
  have hlt := on_lt a 1
  generalize on a 1 = x at *
  generalize bf a b = d at *
  go_enter Try.func11, Try.ntmps11
  go_wp2_with (first
    | (go_at_call 13; refine (HO.out _).mono ?_; rintro e w1 ⟨rfl, b1⟩)
    | (go_at_call 17; refine (HI.out _).mono ?_; rintro e w2 ⟨rfl, b2⟩))
  go_ret
  exact ⟨rfl, below_trans (below_trans b1 (below_a w1 _)) b2⟩

/-- The later one of two. -/
def lt2 (a b : Nat) : Nat := if bf a b = true then b else a
theorem lt2_lt {a b : Nat} (ha : a < 4294967296) (hb : b < 4294967296) : lt2 a b < 4294967296 := by unfold lt2; split <;> assumption

set_option maxHeartbeats 800000 in
theorem Later_any (a b : Nat) (w : World) (ha : a < 4294967296) (hb : b < 4294967296) :
    Calls Try.prog 12 #[.int .u32 (a : Int), .int .u32 (b : Int)] w fun e w' => e = .returned (.int .u32 (lt2 a b : Nat)) ∧ Below w.heap.size w w' := by
  have HI := Lib.hid (fun W => Before_any a b W ha hb)
  unfold lt2
  generalize bf a b = d at *
  go_enter Try.func12, Try.ntmps12
  go_wp2_with (first
    | (go_at_call 11; refine (HI.out _).mono ?_; rintro e w1 ⟨rfl, b1⟩; cases d))
  all_goals
    go_ret
    exact ⟨rfl, b1⟩

set_option maxHeartbeats 800000 in
theorem rSteps_any (a b : Nat) (w : World) (ha : a < 4294967296) (hb : b < 4294967296) :
    Calls Try.prog 10 #[.int .u32 (a : Int), .int .u32 (b : Int)] w fun e w' => e = .returned (.int .i64 (st a b : Nat)) ∧ Below w.heap.size w w' := by
  have hlt := st_lt a b
  have HI := st_int ha hb
  generalize st a b = x at *
  go_enter Try.func10, Try.ntmps10
  by_cases hc : (b : Int) - a < 0
  · have E := Lib.hid (show (x : Int) = (b : Int) - a + 4294967296 by omega)
    clear HI
    go_wp2_with fail
    go_ret
    exact ⟨by rw [E.out]; rfl, Below.refl _ _⟩
  · have E := Lib.hid (show (x : Int) = (b : Int) - a by omega)
    clear HI
    go_wp2_with fail
    go_ret
    exact ⟨by rw [E.out]; rfl, Below.refl _ _⟩

theorem tmod_pos {n m : Int} (h : 0 ≤ n) : n.tmod m = n % m := Int.tmod_eq_emod_of_nonneg h
theorem tmod_neg (n m : Int) (h : n < 0) : n.tmod m = -((-n) % m) := by
  obtain ⟨k, rfl⟩ : ∃ k, n = -k := ⟨-n, by omega⟩
  rw [Int.neg_tmod, Int.neg_neg, Int.tmod_eq_emod_of_nonneg (by omega)]

set_option maxHeartbeats 800000 in
theorem rOn_any (a : Nat) (n : Int) (w : World) (ha : a < 4294967296) (hn : -9223372036854775808 ≤ n ∧ n ≤ 9223372036854775807) :
    Calls Try.prog 14 #[.int .u32 (a : Int), .int .i64 n] w fun e w' => e = .returned (.int .u32 (on a n : Nat)) ∧ Below w.heap.size w w' := by
  have hlt := on_lt a n
  have HI := on_int a n
  generalize on a n = x at *
  have hb : -4294967296 < n.tmod 4294967296 ∧ n.tmod 4294967296 < 4294967296 ∧ n.tmod 4294967296 % 4294967296 = n % 4294967296 := by
    by_cases h : 0 ≤ n
    · rw [tmod_pos h]
      omega
    · rw [tmod_neg n _ (by omega)]
      omega
  obtain ⟨h1, h2, h3⟩ := hb
  by_cases hc : n.tmod 4294967296 < 0
  · have E := Lib.hid (show (x : Int) = ((a : Int) + (n.tmod 4294967296 + 4294967296)) % 4294967296 by omega)
    clear HI h3
    go_enter Try.func14, Try.ntmps14
    go_wp2_with fail
    go_ret
    exact ⟨by rw [E.out]; rfl, Below.refl _ _⟩
  · have E := Lib.hid (show (x : Int) = ((a : Int) + n.tmod 4294967296) % 4294967296 by omega)
    clear HI h3
    go_enter Try.func14, Try.ntmps14
    go_wp2_with fail
    go_ret
    exact ⟨by rw [E.out]; rfl, Below.refl _ _⟩

theorem bf_iff (a b : Nat) : bf a b = true ↔ 1 ≤ st a b ∧ st a b < 2147483648 := by unfold bf; exact decide_eq_true_iff
theorem bf_yes {a b : Nat} (h1 : 1 ≤ st a b) (h2 : st a b < 2147483648) : bf a b = true := (bf_iff a b).2 ⟨h1, h2⟩
theorem bf_no {a b : Nat} (h : ¬(1 ≤ st a b ∧ st a b < 2147483648)) : bf a b = false := by
  cases hb : bf a b
  · rfl
  · exact absurd ((bf_iff a b).1 hb) h

set_option maxHeartbeats 800000 in
theorem rBefore_any (a b : Nat) (w : World) (ha : a < 4294967296) (hb : b < 4294967296) :
    Calls Try.prog 8 #[.int .u32 (a : Int), .int .u32 (b : Int)] w fun e w' => e = .returned (.bool (bf a b)) ∧ Below w.heap.size w w' := by
  have HI := Lib.hid (fun W => rSteps_any a b W ha hb)
  have hlt := st_lt a b
  have HB1 := Lib.hid (@bf_yes a b)
  have HB0 := Lib.hid (@bf_no a b)
  generalize st a b = x at *
  generalize bf a b = d at *
  by_cases h1 : 1 ≤ x
  · by_cases h2 : x < 2147483648
    · obtain rfl := HB1.out h1 h2
      have hd : (x : Int) < 2147483648 := by omega
      have h3 : 1 ≤ (x : Int) := by omega
      clear HB1 HB0 h1 h2 hlt
      generalize (x : Int) = y at *
      go_enter Try.func8, Try.ntmps8
      go_wp2_with (first
        | (go_at_call 10; refine (HI.out w).mono ?_; rintro e w1 ⟨rfl, b1⟩)
        | (go_at_call 10; refine (HI.out w1).mono ?_; rintro e w2 ⟨rfl, b2⟩))
      go_ret
      exact ⟨rfl, below_trans b1 b2⟩
    · obtain rfl := HB0.out (by omega)
      have hd : decide ((x : Int) < 2147483648) = false := decide_eq_false (by omega)
      have h3 : 1 ≤ (x : Int) := by omega
      clear HB1 HB0 h1 h2 hlt
      generalize (x : Int) = y at *
      go_enter Try.func8, Try.ntmps8
      go_wp2_with (first
        | (go_at_call 10; refine (HI.out w).mono ?_; rintro e w1 ⟨rfl, b1⟩)
        | (go_at_call 10; refine (HI.out w1).mono ?_; rintro e w2 ⟨rfl, b2⟩))
      go_ret
      exact ⟨rfl, below_trans b1 b2⟩
  · obtain rfl := HB0.out (by omega)
    have h3 : decide (1 ≤ (x : Int)) = false := decide_eq_false (by omega)
    clear HB1 HB0 h1 hlt
    generalize (x : Int) = y at *
    go_enter Try.func8, Try.ntmps8
    go_wp2_with (first
      | (go_at_call 10; refine (HI.out w).mono ?_; rintro e w1 ⟨rfl, b1⟩)
      | (go_at_call 10; refine (HI.out w1).mono ?_; rintro e w2 ⟨rfl, b2⟩))
    go_ret
    exact ⟨rfl, b1⟩

set_option maxHeartbeats 800000 in
theorem wakes_any (w : World) : Calls Try.prog 7 #[] w fun e w' => e = .returned (.bool true) ∧ Below w.heap.size w w' := by
  obtain ⟨m, hm⟩ : ∃ m : Nat, (m : Int) = 4294967295 := ⟨4294967295, by omega⟩
  obtain ⟨k, hk⟩ : ∃ k : Nat, (k : Int) = 3 := ⟨3, by omega⟩
  have e0 : bf m k = true := bf_yes (by unfold st; omega) (by unfold st; omega)
  have e1 : bf k k = false := bf_no (by unfold st; omega)
  have h0 := Lib.hid fun W => Before_any m k W (by omega) (by omega)
  have h1 := Lib.hid fun W => Before_any k k W (by omega) (by omega)
  rw [e0, hm, hk] at h0
  rw [e1, hk] at h1
  clear e0 e1 hm hk
  go_enter Try.func7, Try.ntmps7
  go_wp2_with fail
  refine (h0.out _).mono ?_
  rintro e w1 ⟨rfl, b1⟩
  go_wp2_with fail
  refine (h1.out _).mono ?_
  rintro e w2 ⟨rfl, b2⟩
  go_wp2_with fail
  go_ret
  exact ⟨rfl, below_trans b1 b2⟩
end Go.Proofs.Ytinnghobicapiaa
