/- Numbers that go round, as numbers: steps from one to another one, a number so many steps on (cut out of layer 6's). No condition.
A queue in memory, the program's or the document's; what its numbers say; the contracts of New, Len, End, Begin, All, and of a nil queue's. Conditions: at most 2^40 pieces, with data of at most 2^40 bytes each.
An estimate's numbers: what a sample makes of them, how long the wait is, doubled so often (cut out of layer 12's). No condition. -/
import Derived.Test.YtlcegchdkigibaaGreatDoorMg2
import Derived.IntWalk
import Derived.Deep.RegionHeld3
import Derived.Lib.Hide
import Derived.Test.YtlcegchdkigibaaGreatDoorMg11
namespace Go.Proofs.YtlcegchdkigibaaGreatDoor.LF
set_option linter.unusedVariables false
set_option linter.unusedSimpArgs false
open Go.RowKit

/-- How many steps it is from a to b. -/
def st (a b : Nat) : Nat := (b + 4294967296 - a) % 4294967296
/-- The number n steps behind a. -/
def on (a : Nat) (n : Int) : Nat := ((a + n) % 4294967296).toNat
/-- Is a before b? -/
def bf (a b : Nat) : Bool := decide (1 ≤ st a b ∧ st a b < 2147483648)

theorem st_lt (a b : Nat) : st a b < 4294967296 := by unfold st; omega
theorem on_lt (a : Nat) (n : Int) : on a n < 4294967296 := by unfold on; omega
theorem on_int (a : Nat) (n : Int) : (on a n : Int) = (a + n) % 4294967296 := by unfold on; omega
theorem st_int {a b : Nat} (ha : a < 4294967296) (hb : b < 4294967296) : (st a b : Int) = ((b : Int) - a) % 4294967296 := by unfold st; omega
theorem st_on {a b : Nat} (ha : a < 4294967296) (hb : b < 4294967296) (n : Int) : st (on a n) (on b n) = st a b := by
  have h1 := st_int (on_lt a n) (on_lt b n)
  have h2 := st_int ha hb
  rw [on_int, on_int] at h1
  omega
theorem st_on_self {a : Nat} (ha : a < 4294967296) (n : Int) : (st a (on a n) : Int) = n % 4294967296 := by
  rw [st_int ha (on_lt a n), on_int]
  omega
theorem on_st {a b : Nat} (ha : a < 4294967296) (hb : b < 4294967296) : on a (st a b) = b := by
  have h1 := st_int ha hb
  have h2 := on_int a (st a b)
  omega
theorem on_back {a b : Nat} (ha : a < 4294967296) (hb : b < 4294967296) : on b (-(st a b : Int)) = a := by
  have h1 := st_int ha hb
  have h2 := on_int b (-(st a b : Int))
  omega

/-- b less a, cut to 32 bits. -/
theorem wrap_st {a b : Nat} (ha : a < 4294967296) (hb : b < 4294967296) : IntKind.u32.wrap ((b : Int) - (a : Int)) = (st a b : Nat) := by
  rw [st_int ha hb]
  simp [IntKind.wrap, IntKind.bits, IntKind.signed]
theorem wrap_on (a : Nat) (n : Int) : IntKind.u32.wrap ((a : Int) + IntKind.u32.wrap n) = (on a n : Nat) := by
  rw [on_int]
  simp [IntKind.wrap, IntKind.bits, IntKind.signed]

set_option maxHeartbeats 800000 in
theorem steps_any (a b : Nat) (w : World) (ha : a < 4294967296) (hb : b < 4294967296) :
    Calls Tryz.prog 403 #[.agg #[.int .u32 (a : Int)], .int .u32 (b : Int)] w fun e w' => e = .returned (.int .i64 (st a b : Nat)) ∧ Below w.heap.size w w' := by
  have hlt := st_lt a b
  have HW := wrap_st ha hb
  generalize st a b = x at *
  go_enter Tryz.func403, Tryz.ntmps403
  go_wp2
  go_ret
  exact ⟨rfl, below_a w _⟩

set_option maxHeartbeats 800000 in
theorem onr_any (a : Nat) (n : Int) (w : World) (ha : a < 4294967296) (hn : -9223372036854775808 ≤ n ∧ n ≤ 9223372036854775807) :
    Calls Tryz.prog 334 #[.agg #[.int .u32 (a : Int)], .int .i64 n] w fun e w' => e = .returned (.int .u32 (on a n : Nat)) ∧ Below w.heap.size w w' := by
  have hlt := on_lt a n
  have HW := wrap_on a n
  generalize on a n = x at *
  go_enter Tryz.func334, Tryz.ntmps334
  go_wp2
  go_ret
  exact ⟨by rw [← HW]; rfl, below_a w _⟩

/-- Behind a box of a run: its two cells, and that nothing that was there has turned. -/
def Two (w W : World) (a : Nat) (n : Int) : Prop := W.cell? ⟨w.heap.size, 0, none⟩ = some (.int .u32 (a : Int)) ∧ W.cell? ⟨w.heap.size, 1, none⟩ = some (.int .i64 n) ∧ w.heap.size < W.heap.size ∧ Below w.heap.size w W
theorem Two.new (w : World) (a : Nat) (n : Int) (t : TypeId) : Two w (w.alloc (.cells #[.int .u32 (a : Int), .int .i64 n] t)) a n := by
  refine ⟨?_, ?_, by simp, below_a w _⟩
  · rw [cell_of_row (w.alloc (.cells #[.int .u32 (a : Int), .int .i64 n] t)) w.heap.size 0 #[.int .u32 (a : Int), .int .i64 n] t (0, 0) (heap_alloc_new w _)]
    rfl
  · rw [cell_of_row (w.alloc (.cells #[.int .u32 (a : Int), .int .i64 n] t)) w.heap.size 1 #[.int .u32 (a : Int), .int .i64 n] t (0, 0) (heap_alloc_new w _)]
    rfl
theorem Two.drew {w W : World} {a : Nat} {n : Int} (h : Two w W a n) : Two w W.drew a n := ⟨h.1, h.2.1, h.2.2.1, h.2.2.2.drew⟩
theorem Two.below {w W W' : World} {a : Nat} {n : Int} (h : Two w W a n) (b : Below W.heap.size W W') : Two w W' a n :=
  ⟨(b.cell h.2.2.1).trans h.1, (b.cell h.2.2.1).trans h.2.1, Nat.lt_of_lt_of_le h.2.2.1 b.size, below_trans h.2.2.2 b⟩

set_option maxHeartbeats 800000 in
theorem has_any (a b : Nat) (n : Int) (w : World) (ha : a < 4294967296) (hb : b < 4294967296) (hn : -9223372036854775808 ≤ n ∧ n ≤ 9223372036854775807) :
    Calls Tryz.prog 381 #[.agg #[.int .u32 (a : Int), .int .i64 n], .int .u32 (b : Int)] w fun e w' => e = .returned (.bool (decide ((st a b : Int) < n))) ∧ Below w.heap.size w w' := by
  have hlt := st_lt a b
  have HS := Lib.hid (fun W => steps_any a b W ha hb)
  generalize st a b = x at *
  go_enter Tryz.func381, Tryz.ntmps381
  go_wp2_with fail
  have h0 : Two w (w.alloc (.cells #[.int .u32 (a : Int), .int .i64 n] 402)) a n := Two.new w a n _
  have h1 := h0.1
  have h2 := h0.2.1
  go_region_held3 (fun W => W.cell? ⟨w.heap.size, 0, none⟩ = some (.int .u32 (a : Int)) ∧ W.cell? ⟨w.heap.size, 1, none⟩ = some (.int .i64 n) ∧ Two w W a n)
    (first
      | exact ⟨h0.1, h0.2.1, h0⟩
      | exact ⟨h3.1, h3.2.1, h3⟩
      | exact ⟨h0.drew.1, h0.drew.2.1, h0.drew⟩)
    (first | (go_at_call 403; refine (HS.out _).mono ?_; rintro e w9 ⟨rfl, b⟩; have h3 := h0.drew.below b))
  go_wp2_with fail
  go_ret
  exact ⟨rfl, h3.2.2.2⟩

set_option maxHeartbeats 800000 in
theorem Steps_any (a b : Nat) (w : World) (ha : a < 4294967296) (hb : b < 4294967296) :
    Calls Tryz.prog 417 #[.int .u32 (a : Int), .int .u32 (b : Int)] w fun e w' => e = .returned (.int .i64 (st a b : Nat)) ∧ Below w.heap.size w w' := by
  have hlt := st_lt a b
  have HS := Lib.hid (fun W => steps_any a b W ha hb)
  generalize st a b = x at *
  go_enter Tryz.func417, Tryz.ntmps417
  go_wp2_with (first | (go_at_call 403; refine (HS.out _).mono ?_; rintro e w1 ⟨rfl, b1⟩))
  go_ret
  exact ⟨rfl, b1⟩

set_option maxHeartbeats 800000 in
theorem On_any (a : Nat) (n : Int) (w : World) (ha : a < 4294967296) (hn : -9223372036854775808 ≤ n ∧ n ≤ 9223372036854775807) :
    Calls Tryz.prog 266 #[.int .u32 (a : Int), .int .i64 n] w fun e w' => e = .returned (.int .u32 (on a n : Nat)) ∧ Below w.heap.size w w' := by
  have hlt := on_lt a n
  have HS := Lib.hid (fun W => onr_any a n W ha hn)
  generalize on a n = x at *
  go_enter Tryz.func266, Tryz.ntmps266
  go_wp2_with (first | (go_at_call 334; refine (HS.out _).mono ?_; rintro e w1 ⟨rfl, b1⟩))
  go_ret
  exact ⟨rfl, b1⟩

set_option maxHeartbeats 800000 in
theorem In_any (x a : Nat) (n : Int) (w : World) (hx : x < 4294967296) (ha : a < 4294967296) (hn : -9223372036854775808 ≤ n ∧ n ≤ 9223372036854775807) :
    Calls Tryz.prog 416 #[.int .u32 (x : Int), .int .u32 (a : Int), .int .i64 n] w fun e w' => e = .returned (.bool (decide ((st a x : Int) < n))) ∧ Below w.heap.size w w' := by
  have HS := Lib.hid (fun W => has_any a x n W ha hx hn)
  generalize hd : decide ((st a x : Int) < n) = d at *
  clear hd
  go_enter Tryz.func416, Tryz.ntmps416
  go_wp2_with (first | (go_at_call 381; refine (HS.out _).mono ?_; rintro e w1 ⟨rfl, b1⟩))
  go_ret
  exact ⟨rfl, b1⟩

theorem tmod_pos {n m : Int} (h : 0 ≤ n) : n.tmod m = n % m := Int.tmod_eq_emod_of_nonneg h
theorem tmod_neg (n m : Int) (h : n < 0) : n.tmod m = -((-n) % m) := by
  obtain ⟨k, rfl⟩ : ∃ k, n = -k := ⟨-n, by omega⟩
  rw [Int.neg_tmod, Int.neg_neg, Int.tmod_eq_emod_of_nonneg (by omega)]

end Go.Proofs.YtlcegchdkigibaaGreatDoor.LF

namespace Go.Proofs.YtlcegchdkigibaaGreatDoor.LF
set_option linter.unusedVariables false
set_option linter.unusedSimpArgs false
open Go.RowKit

def ptr (b : Nat) : Value := .pointer (some ⟨b, 0, none⟩)

/-- Pieces one behind the other, from b to e. -/
def Chn : Nat → List Ky → Nat → Prop
  | b, [], e => e = b
  | b, k :: l, e => k.seq = b ∧ Chn (on b (k.len : Int)) l e
/-- All their lengths. -/
def tot : List Ky → Nat
  | [] => 0
  | k :: l => k.len + tot l
theorem tot_append (l r : List Ky) : tot (l ++ r) = tot l + tot r := by
  induction l with
  | nil => simp [tot]
  | cons k l ih => simp [tot, ih]; omega
theorem on_on (a : Nat) (m n : Nat) : on (on a (m : Int)) (n : Int) = on a ((m + n : Nat) : Int) := by
  unfold on
  omega
theorem on_zero {a : Nat} (h : a < 4294967296) : on a 0 = a := by unfold on; omega
theorem Chn.end_ : ∀ {l : List Ky} {b e : Nat}, b < 4294967296 → Chn b l e → e = on b (tot l : Int)
  | [], b, e, hb, h => by
    have h : e = b := h
    rw [h]
    exact (on_zero hb).symm
  | k :: l, b, e, hb, h => by
    have := Chn.end_ (on_lt b _) h.2
    rw [this, on_on]
    rfl
theorem Chn.lt {l : List Ky} {b e : Nat} (hb : b < 4294967296) (h : Chn b l e) : e < 4294967296 := by
  rw [h.end_ hb]
  exact on_lt _ _
theorem Chn.snoc : ∀ {l : List Ky} {b e : Nat} (k : Ky), k.seq = e → Chn b l e → Chn b (l ++ [k]) (on e (k.len : Int))
  | [], b, e, k, hk, h => by
    have h : e = b := h
    subst h
    exact ⟨hk, rfl⟩
  | x :: l, b, e, k, hk, h => ⟨h.1, h.2.snoc k hk⟩
theorem Chn.drop : ∀ {l : List Ky} {b e : Nat} (j : Nat), b < 4294967296 → j ≤ l.length → Chn b l e → Chn (on b (tot (l.take j) : Int)) (l.drop j) e
  | l, b, e, 0, hb, _, h => by
    rw [List.take_zero, List.drop_zero]
    have : on b (tot [] : Int) = b := on_zero hb
    rw [this]
    exact h
  | [], b, e, j + 1, hb, hj, h => by simp at hj
  | k :: l, b, e, j + 1, hb, hj, h => by
    have := h.2.drop j (on_lt b _) (by simpa using hj)
    rw [on_on] at this
    exact this
theorem Chn.at_ : ∀ {l : List Ky} {b e : Nat} (j : Nat) (k : Ky), b < 4294967296 → l[j]? = some k → Chn b l e → k.seq = on b (tot (l.take j) : Int)
  | [], _, _, j, _, _, h, _ => by simp at h
  | x :: l, b, e, 0, k, hb, hk, h => by
    simp at hk
    subst hk
    rw [h.1]
    exact (on_zero hb).symm
  | x :: l, b, e, j + 1, k, hb, hk, h => by
    have := h.2.at_ j k (on_lt b _) (by simpa using hk)
    rw [this, on_on]
    rfl
/-- How many of them end within d numbers. -/
def cnt : List Ky → Nat → Nat
  | [], _ => 0
  | k :: l, d => if k.len ≤ d then cnt l (d - k.len) + 1 else 0
theorem cnt_le : ∀ (l : List Ky) (d : Nat), cnt l d ≤ l.length
  | [], _ => Nat.le_refl _
  | k :: l, d => by
    unfold cnt
    split
    · have := cnt_le l (d - k.len)
      simpa using this
    · exact Nat.zero_le _
theorem lt_cnt : ∀ (l : List Ky) (d j : Nat), j < l.length → (j < cnt l d ↔ tot (l.take (j + 1)) ≤ d)
  | [], _, _, h => by simp at h
  | k :: l, d, 0, _ => by
    unfold cnt
    simp only [List.take_succ_cons, List.take_zero, tot]
    split <;> omega
  | k :: l, d, j + 1, h => by
    have ih := lt_cnt l (d - k.len) j (by simpa using h)
    unfold cnt
    rw [List.take_succ_cons]
    show _ ↔ k.len + tot (l.take (j + 1)) ≤ d
    split
    · rw [Nat.add_lt_add_iff_right, ih]
      omega
    · omega
theorem cnt_all : ∀ (l : List Ky) (d : Nat), tot l ≤ d → cnt l d = l.length
  | [], _, _ => rfl
  | k :: l, d, h => by
    have h : k.len + tot l ≤ d := h
    unfold cnt
    rw [if_pos (by omega), cnt_all l (d - k.len) (by omega)]
    rfl

/-- A queue (of type t) at block qb: its pieces, as a slice v, and its end. -/
structure Qu (t : TypeId) (base : Nat) (w : World) (qb : Nat) (v : Value) (l : List Pc) (en : Nat) : Prop where
  obj : w.heap[qb]? = some (.cells #[v, .int .u32 (en : Int)] t (0, 0))
  lo : base ≤ qb
  row : Row w base v l
  ok : ∀ p ∈ l, PO base w p
  num : en < 4294967296
section
variable {t : TypeId} {base : Nat} {w w' : World} {qb : Nat} {v : Value} {l : List Pc} {en : Nat}
theorem Qu.c0 (h : Qu t base w qb v l en) : w.cell? ⟨qb, 0, none⟩ = some v := by rw [cell_of_row w qb 0 _ t (0, 0) h.obj]; rfl
theorem Qu.c1 (h : Qu t base w qb v l en) : w.cell? ⟨qb, 1, none⟩ = some (.int .u32 (en : Int)) := by rw [cell_of_row w qb 1 _ t (0, 0) h.obj]; rfl
theorem Qu.f (h : Qu t base w qb v l en) (j : Nat) : w.frozen? ⟨qb, j, none⟩ = false := frozen_of h.obj j
theorem Qu.lt (h : Qu t base w qb v l en) : qb < w.heap.size := (Array.getElem?_eq_some_iff.1 h.obj).1
theorem Qu.ch (h : Qu t base w qb v l en) {m : Nat → Prop} (c : Ch w w' m) (h1 : ¬ m qb) (h2 : ∀ g, v.ownBlock = some g → ¬ m g) (h3 : ∀ p ∈ l, ∀ g, p.blk = some g → ¬ m g) : Qu t base w' qb v l en :=
  ⟨(c.block qb h.lt h1).trans h.obj, h.lo, h.row.ch c h2, fun p hp => (h.ok p hp).ch c (h3 p hp), h.num⟩
theorem Qu.below (h : Qu t base w qb v l en) (b : Below w.heap.size w w') : Qu t base w' qb v l en :=
  h.ch (Ch.of_below (fun _ => False) b) (fun e => e) (fun _ _ e => e) (fun _ _ _ _ e => e)
/-- A piece's data lie apart from the queue and from its row. -/
theorem Qu.apart (h : Qu t base w qb v l en) (ht : t ≠ 5) {p : Pc} (hp : p ∈ l) {g : Nat} (hg : p.blk = some g) : g ≠ qb ∧ v.ownBlock ≠ some g := by
  obtain ⟨cs, h1⟩ := (h.ok p hp).obj hg
  refine ⟨fun e => ?_, fun e => ?_⟩
  · subst e
    rw [h.obj] at h1
    injection h1 with h1
    injection h1 with _ h1
    exact ht h1
  · obtain ⟨cs', h2⟩ := h.row.obj e
    rw [h2] at h1
    injection h1 with h1
    injection h1 with _ h1
    exact absurd h1 (by decide)
theorem Qu.apart2 (h : Qu t base w qb v l en) (ht : t ≠ 209) : v.ownBlock ≠ some qb := fun e => by
  obtain ⟨cs, h1⟩ := h.row.obj e
  rw [h.obj] at h1
  injection h1 with h1
  injection h1 with _ h1
  exact ht h1
/-- The queue's first cell stored. -/
theorem Qu.store0 (h : Qu t base w qb v l en) (ht : t ≠ 5) (hp : t ≠ 209) {u : Value} {r : List Pc} (hr : Row w base u r) (ho : ∀ p ∈ r, PO base w p) : Qu t base (w.setCell ⟨qb, 0, none⟩ u) qb u r en := by
  have c : Ch w (w.setCell ⟨qb, 0, none⟩ u) (fun k => k = qb) := Ch.setCell (m := fun k => k = qb) (Ch.refl w _) (fun _ => rfl) u
  refine ⟨by simp [World.setCell, Array.getElem?_modify, h.obj], h.lo, hr.ch c (fun g hg e => ?_), fun p hp2 => (ho p hp2).ch c (fun g hg e => ?_), h.num⟩
  · obtain ⟨cs, h1⟩ := hr.obj hg
    rw [e, h.obj] at h1
    injection h1 with h1
    injection h1 with _ h1
    exact hp h1
  · obtain ⟨cs, h1⟩ := (ho p hp2).obj hg
    rw [e, h.obj] at h1
    injection h1 with h1
    injection h1 with _ h1
    exact ht h1
/-- .. and its second one. -/
theorem Qu.store1 (h : Qu t base w qb v l en) (ht : t ≠ 5) (hp : t ≠ 209) {e2 : Nat} (he : e2 < 4294967296) : Qu t base (w.setCell ⟨qb, 1, none⟩ (.int .u32 (e2 : Int))) qb v l e2 := by
  have c : Ch w (w.setCell ⟨qb, 1, none⟩ (.int .u32 (e2 : Int))) (fun k => k = qb) := Ch.setCell (m := fun k => k = qb) (Ch.refl w _) (fun _ => rfl) _
  exact ⟨by simp [World.setCell, Array.getElem?_modify, h.obj], h.lo, h.row.ch c (fun g hg e => h.apart2 hp (e ▸ hg)), fun p hp2 => (h.ok p hp2).ch c (fun g hg e => (h.apart ht hp2 hg).1 e), he⟩
end
/-- What stands at the queue's beginning. -/
def beg (l : List Pc) (en : Nat) : Nat := match l with | [] => en | p :: _ => p.seq
theorem Chn.beg {l : List Pc} {b e : Nat} (h : Chn b (l.map Pc.key) e) : beg l e = b := by
  cases l with
  | nil => exact h
  | cons p l => exact h.1
theorem beg_lt {t : TypeId} {base : Nat} {w : World} {qb : Nat} {v : Value} {l : List Pc} {en : Nat} (h : Qu t base w qb v l en) : beg l en < 4294967296 := by
  cases l with
  | nil => exact h.num
  | cons p l => exact (h.ok p (List.mem_cons_self ..)).seq

set_option maxHeartbeats 800000 in
theorem New_any (s : Nat) (w : World) (hs : s < 4294967296) : Calls Tryz.prog 171 #[.int .u32 (s : Int)] w fun e w' => ∃ qb, e = .returned (ptr qb) ∧ qb = w.heap.size ∧ (∀ base, base ≤ w.heap.size → Qu 268 base w' qb (.slice none 0 0) [] s) ∧ Below w.heap.size w w' := by
  go_enter Tryz.func171, Tryz.ntmps171
  go_wp2_with fail
  go_ret
  exact ⟨_, rfl, rfl, fun base hb => ⟨heap_alloc_new w _, hb, .inl ⟨rfl, rfl⟩, (fun p hp => by cases hp), hs⟩, below_a w _⟩

section
variable {base : Nat} {w : World} {qb : Nat} {v : Value} {l : List Pc} {en : Nat}
set_option maxHeartbeats 800000 in
theorem Len_any (h : Qu 268 base w qb v l en) : Calls Tryz.prog 245 #[ptr qb] w fun e w' => e = .returned (.int .i64 (l.length : Int)) ∧ w' = w := by
  have h0 := h.c0
  obtain ⟨A, c, rfl, _, _⟩ := h.row.slice
  clear h
  generalize l.length = n at *
  unfold ptr
  go_enter Tryz.func245, Tryz.ntmps245
  go_wp2_with fail
  go_ret
  exact ⟨rfl, rfl⟩
set_option maxHeartbeats 800000 in
theorem End_any (h : Qu 268 base w qb v l en) : Calls Tryz.prog 157 #[ptr qb] w fun e w' => e = .returned (.int .u32 (en : Int)) ∧ w' = w := by
  have h1 := h.c1
  clear h
  unfold ptr
  go_enter Tryz.func157, Tryz.ntmps157
  go_wp2_with fail
  go_ret
  exact ⟨rfl, rfl⟩
set_option maxHeartbeats 800000 in
theorem Begin_any (h : Qu 268 base w qb v l en) : Calls Tryz.prog 340 #[ptr qb] w fun e w' => e = .returned (.int .u32 (beg l en : Int)) ∧ w' = w := by
  have HL := Lib.hid (Len_any h)
  have HE := Lib.hid (End_any h)
  have h0 := h.c0
  unfold ptr at HL HE ⊢
  cases l with
  | nil =>
    clear h h0
    have hz : (([] : List Pc).length : Int) = 0 := rfl
    rw [hz] at HL
    unfold beg
    dsimp only
    go_enter Tryz.func340, Tryz.ntmps340
    go_wp2_with fail
    refine (HL.out).mono ?_
    rintro e w1 ⟨rfl, rfl⟩
    go_wp2_with fail
    refine (HE.out).mono ?_
    rintro e w1 ⟨rfl, rfl⟩
    go_wp2_with fail
    go_ret
    exact ⟨rfl, rfl⟩
  | cons p r =>
    unfold beg
    dsimp only
    rcases h.row with ⟨_, e⟩ | ⟨g, o, c, cs, rfl, _, _, h1, h2, _, h4⟩
    · cases e
    have hc := (range_pv.1 h4) 0 (by simp) 0 (.int .u32 (p.seq : Int)) rfl
    have hne : (((p :: r).length : Int) == 0) = false := by
      rw [beq_eq_false_iff_ne, List.length_cons]
      omega
    have hpos : 0 < (p :: r).length := by simp
    have hmx : (p :: r).length ≤ c := h1
    rw [Nat.zero_mul, Nat.add_zero] at hc
    clear h h1 h4 HE
    generalize (p :: r).length = n at *
    generalize p.seq = s at *
    go_enter Tryz.func340, Tryz.ntmps340
    go_wp2_with fail
    refine (HL.out).mono ?_
    rintro e w1 ⟨rfl, rfl⟩
    go_wp2_with fail
    go_ret
    exact ⟨rfl, rfl⟩
set_option maxHeartbeats 800000 in
theorem All_any (h : Qu 268 base w qb v l en) (hn : l.length ≤ 1099511627776) (hd : ∀ p ∈ l, p.dn ≤ 1099511627776) : Calls Tryz.prog 379 #[ptr qb] w (AllP w (l.map Pc.key)) := by
  have h0 := h.c0
  obtain ⟨A, c, rfl, h1, h2⟩ := h.row.slice
  have HA := Lib.hid (all_any A l.length c l w (h.row.ps (fun p hp => (h.ok p hp).pg)) hn hd)
  clear h hn hd
  generalize l.length = n at *
  generalize l.map Pc.key = ks at *
  unfold ptr
  go_enter Tryz.func379, Tryz.ntmps379
  go_wp2_with fail
  refine (HA.out).mono ?_
  rintro e w1 ⟨v1, rfl, h3, b3⟩
  go_wp2_with fail
  go_ret
  exact ⟨_, rfl, h3, b3⟩
end

end Go.Proofs.YtlcegchdkigibaaGreatDoor.LF

namespace Go.Proofs.YtlcegchdkigibaaGreatDoor.LF
set_option linter.unusedVariables false
set_option linter.unusedSimpArgs false
open Go.RowKit

/-- An estimate: is there a sample, the smoothed time, the variation, how often it was doubled. -/
structure Es where
  has : Bool
  s : Int
  v : Int
  d : Nat
def Es.cs (E : Es) : Array Value := #[.bool E.has, .int .i64 E.s, .int .i64 E.v, .int .i64 (E.d : Int)]
def Es.zero : Es := ⟨false, 0, 0, 0⟩
/-- A sample, held. -/
def held (t : Int) : Int := min (max t 0) 1000
def mag (x : Int) : Int := max x (-x)
def Es.smp (E : Es) (t : Int) : Es :=
  if E.has then ⟨true, E.s + (held t - E.s.tdiv 8), E.v + (mag (held t - E.s.tdiv 8) - E.v.tdiv 4), E.d⟩ else ⟨true, held t * 8, held t * 2, E.d⟩
def Es.back (E : Es) : Es := ⟨E.has, E.s, E.v, E.d + 1⟩
def Es.fresh (E : Es) : Es := ⟨E.has, E.s, E.v, 0⟩
structure Es.Ok (E : Es) : Prop where
  s0 : 0 ≤ E.s
  s1 : E.s ≤ 8000
  v0 : 0 ≤ E.v
  v1 : E.v ≤ 4000
  d1 : E.d ≤ 1000000

theorem held_bd (t : Int) : 0 ≤ held t ∧ held t ≤ 1000 := by unfold held; omega
theorem held_of {t : Int} (h0 : 0 ≤ t) (h1 : t ≤ 1000) : held t = t := by unfold held; omega
theorem held_mono {a b : Int} (h : a ≤ b) : held a ≤ held b := by unfold held; omega
theorem td8 {s : Int} (h : 0 ≤ s) : s.tdiv 8 = s / 8 := Int.tdiv_eq_ediv_of_nonneg h
theorem td4 {s : Int} (h : 0 ≤ s) : s.tdiv 4 = s / 4 := Int.tdiv_eq_ediv_of_nonneg h
theorem Ok_zero : Es.zero.Ok := ⟨by decide, by decide, by decide, by decide, by decide⟩
theorem Ok_smp {E : Es} (h : E.Ok) (t : Int) : (E.smp t).Ok := by
  have hb := held_bd t
  have h8 := td8 h.s0
  have h4 := td4 h.v0
  have := h.s0
  have := h.s1
  have := h.v0
  have := h.v1
  have := h.d1
  unfold Es.smp
  split
  · refine ⟨?_, ?_, ?_, ?_, ?_⟩ <;> dsimp only <;> (try unfold mag) <;> (try rw [h8]) <;> (try rw [h4]) <;> omega
  · refine ⟨?_, ?_, ?_, ?_, ?_⟩ <;> dsimp only <;> omega
theorem Ok_fresh {E : Es} (h : E.Ok) : E.fresh.Ok := ⟨h.s0, h.s1, h.v0, h.v1, Nat.zero_le _⟩
theorem Ok_back {E : Es} (h : E.Ok) (hd : E.d < 1000000) : E.back.Ok := ⟨h.s0, h.s1, h.v0, h.v1, hd⟩
theorem smp_has (E : Es) (t : Int) : (E.smp t).has = true := by unfold Es.smp; split <;> rfl
theorem smp_d (E : Es) (t : Int) : (E.smp t).d = E.d := by unfold Es.smp; split <;> rfl

/-- Doubled n times, and held at 16. -/
def dbl : Nat → Int → Int
  | 0, x => min x 16
  | n + 1, x => if x < 16 then dbl n (2 * x) else 16
theorem dbl_big {x : Int} (h : 16 ≤ x) : ∀ n, dbl n x = 16
  | 0 => by show min x 16 = 16; omega
  | n + 1 => by show (if x < 16 then dbl n (2 * x) else 16) = 16; rw [if_neg (by omega)]
theorem dbl_min (x : Int) (n : Nat) : dbl n (min x 16) = dbl n x := by
  by_cases h : x < 16
  · rw [show min x 16 = x from by omega]
  · rw [dbl_big (by omega), dbl_big (by omega)]
theorem dbl_step {n : Nat} {x : Int} (h : x < 16) : dbl (n + 1) x = dbl n (2 * x) := by
  show (if x < 16 then dbl n (2 * x) else 16) = _
  rw [if_pos h]
theorem dbl_bd {n : Nat} : ∀ {x : Int}, 2 ≤ x → 2 ≤ dbl n x ∧ dbl n x ≤ 16 := by
  induction n with
  | zero => intro x h; show 2 ≤ min x 16 ∧ min x 16 ≤ 16; omega
  | succ n ih =>
    intro x h
    show 2 ≤ (if x < 16 then dbl n (2 * x) else 16) ∧ (if x < 16 then dbl n (2 * x) else 16) ≤ 16
    split
    · exact ih (by omega)
    · omega
/-- One doubling more is twice as much, up to 16. -/
theorem dbl_next {n : Nat} : ∀ {x : Int}, 2 ≤ x → dbl (n + 1) x = min (2 * dbl n x) 16 := by
  induction n with
  | zero =>
    intro x h
    show (if x < 16 then min (2 * x) 16 else 16) = min (2 * min x 16) 16
    split <;> omega
  | succ n ih =>
    intro x h
    by_cases hx : x < 16
    · rw [dbl_step hx, dbl_step (n := n) hx, ih (by omega)]
    · rw [dbl_big (by omega), dbl_big (by omega)]
      decide

/-- How long to wait, without any doubling; and with. -/
def Es.one (E : Es) : Int := if E.has then max (E.s.tdiv 8 + max E.v 1) 2 else 4
def Es.wt (E : Es) : Int := dbl E.d E.one
def Es.told (E : Es) : Int := if E.has then E.s else 32
theorem one_bd {E : Es} (h : E.Ok) : 2 ≤ E.one ∧ E.one ≤ 5000 := by
  have h8 := td8 h.s0
  have := h.s1
  have := h.v1
  unfold Es.one
  split
  · rw [h8]
    omega
  · omega
theorem wt_bd {E : Es} (h : E.Ok) : 2 ≤ E.wt ∧ E.wt ≤ 16 := dbl_bd (one_bd h).1
theorem wt_back {E : Es} (h : E.Ok) : E.back.wt = min (2 * E.wt) 16 := dbl_next (one_bd h).1
theorem told_bd {E : Es} (h : E.Ok) : 0 ≤ E.told ∧ E.told ≤ 8000 := by
  have := h.s0
  have := h.s1
  unfold Es.told
  split <;> omega

theorem ch_set (w : World) (b j : Nat) (u : Value) : Ch w (w.setCell ⟨b, j, none⟩ u) (fun k => k = b) := (Ch.refl w (fun k => k = b)).setCell (p := ⟨b, j, none⟩) (fun _ => rfl) u
theorem _root_.Go.Proofs.YtlcegchdkigibaaGreatDoor.Ch.set {a w : World} {b : Nat} (h : Ch a w (fun k => k = b)) (j : Nat) (u : Value) : Ch a (w.setCell ⟨b, j, none⟩ u) (fun k => k = b) := h.then_ (ch_set w b j u)
end Go.Proofs.YtlcegchdkigibaaGreatDoor.LF
