/- Numbers that go round, as numbers: steps from one to another one, a number so many steps on (cut out of layer 6's). No condition.
A queue in memory, the program's or the document's; what its numbers say; the contracts of New, Len, End, Begin, All, and of a nil queue's. Conditions: at most 2^40 pieces, with data of at most 2^40 bytes each.
An estimate's numbers: what a sample makes of them, how long the wait is, doubled so often (cut out of layer 12's). No condition.
The contract of Push. Conditions: the queue stands, with at most 2^30 pieces; so does the piece, its data at most 2^40 bytes.
The contracts of reaches and of ended; a row parted in two. Conditions: the queue stands, its numbers go on from its beginning to its end, fewer than 2^31 in all. -/
import Derived.Test.YtiehngeeamhlmaaGreatDoorMg2
import Derived.IntWalk
import Derived.Deep.RegionHeld3
import Derived.Lib.Hide
import Derived.Test.YtiehngeeamhlmaaGreatDoorMg5
import Derived.Test.YtiehngeeamhlmaaGreatDoorMg4
import Derived.WalkMore
namespace Go.Proofs.YtiehngeeamhlmaaGreatDoor.LF
set_option linter.unusedVariables false
set_option linter.unusedSimpArgs false
open Go.RowKit

/-- How many steps it is from a to b. -/
def st (a b : Nat) : Nat := (b + 4294967296 - a) % 4294967296
/-- The number n steps behind a. -/
def on (a : Nat) (n : Int) : Nat := ((a + n) % 4294967296).toNat
/-- Is a before b? -/
def bf (a b : Nat) : Bool := decide (1 ≤ st a b ∧ st a b < 2147483648)

theorem st_lt (a b : Nat) : st a b < 4294967296 := by unfold st; omega
theorem on_lt (a : Nat) (n : Int) : on a n < 4294967296 := by unfold on; omega
theorem on_int (a : Nat) (n : Int) : (on a n : Int) = (a + n) % 4294967296 := by unfold on; omega
theorem st_int {a b : Nat} (ha : a < 4294967296) (hb : b < 4294967296) : (st a b : Int) = ((b : Int) - a) % 4294967296 := by unfold st; omega
theorem st_on {a b : Nat} (ha : a < 4294967296) (hb : b < 4294967296) (n : Int) : st (on a n) (on b n) = st a b := by
  have h1 := st_int (on_lt a n) (on_lt b n)
  have h2 := st_int ha hb
  rw [on_int, on_int] at h1
  omega
theorem st_on_self {a : Nat} (ha : a < 4294967296) (n : Int) : (st a (on a n) : Int) = n % 4294967296 := by
  rw [st_int ha (on_lt a n), on_int]
  omega
theorem on_st {a b : Nat} (ha : a < 4294967296) (hb : b < 4294967296) : on a (st a b) = b := by
  have h1 := st_int ha hb
  have h2 := on_int a (st a b)
  omega
theorem on_back {a b : Nat} (ha : a < 4294967296) (hb : b < 4294967296) : on b (-(st a b : Int)) = a := by
  have h1 := st_int ha hb
  have h2 := on_int b (-(st a b : Int))
  omega

/-- b less a, cut to 32 bits. -/
theorem wrap_st {a b : Nat} (ha : a < 4294967296) (hb : b < 4294967296) : IntKind.u32.wrap ((b : Int) - (a : Int)) = (st a b : Nat) := by
  rw [st_int ha hb]
  simp [IntKind.wrap, IntKind.bits, IntKind.signed]
theorem wrap_on (a : Nat) (n : Int) : IntKind.u32.wrap ((a : Int) + IntKind.u32.wrap n) = (on a n : Nat) := by
  rw [on_int]
  simp [IntKind.wrap, IntKind.bits, IntKind.signed]

set_option maxHeartbeats 800000 in
theorem steps_any (a b : Nat) (w : World) (ha : a < 4294967296) (hb : b < 4294967296) :
    Calls Tryz.prog 338 #[.agg #[.int .u32 (a : Int)], .int .u32 (b : Int)] w fun e w' => e = .returned (.int .i64 (st a b : Nat)) ∧ Below w.heap.size w w' := by
  have hlt := st_lt a b
  have HW := wrap_st ha hb
  generalize st a b = x at *
  go_enter Tryz.func338, Tryz.ntmps338
  go_wp2
  go_ret
  exact ⟨rfl, below_a w _⟩

set_option maxHeartbeats 800000 in
theorem onr_any (a : Nat) (n : Int) (w : World) (ha : a < 4294967296) (hn : -9223372036854775808 ≤ n ∧ n ≤ 9223372036854775807) :
    Calls Tryz.prog 194 #[.agg #[.int .u32 (a : Int)], .int .i64 n] w fun e w' => e = .returned (.int .u32 (on a n : Nat)) ∧ Below w.heap.size w w' := by
  have hlt := on_lt a n
  have HW := wrap_on a n
  generalize on a n = x at *
  go_enter Tryz.func194, Tryz.ntmps194
  go_wp2
  go_ret
  exact ⟨by rw [← HW]; rfl, below_a w _⟩

/-- Behind a box of a run: its two cells, and that nothing that was there has turned. -/
def Two (w W : World) (a : Nat) (n : Int) : Prop := W.cell? ⟨w.heap.size, 0, none⟩ = some (.int .u32 (a : Int)) ∧ W.cell? ⟨w.heap.size, 1, none⟩ = some (.int .i64 n) ∧ w.heap.size < W.heap.size ∧ Below w.heap.size w W
theorem Two.new (w : World) (a : Nat) (n : Int) (t : TypeId) : Two w (w.alloc (.cells #[.int .u32 (a : Int), .int .i64 n] t)) a n := by
  refine ⟨?_, ?_, by simp, below_a w _⟩
  · rw [cell_of_row (w.alloc (.cells #[.int .u32 (a : Int), .int .i64 n] t)) w.heap.size 0 #[.int .u32 (a : Int), .int .i64 n] t (0, 0) (heap_alloc_new w _)]
    rfl
  · rw [cell_of_row (w.alloc (.cells #[.int .u32 (a : Int), .int .i64 n] t)) w.heap.size 1 #[.int .u32 (a : Int), .int .i64 n] t (0, 0) (heap_alloc_new w _)]
    rfl
theorem Two.drew {w W : World} {a : Nat} {n : Int} (h : Two w W a n) : Two w W.drew a n := ⟨h.1, h.2.1, h.2.2.1, h.2.2.2.drew⟩
theorem Two.below {w W W' : World} {a : Nat} {n : Int} (h : Two w W a n) (b : Below W.heap.size W W') : Two w W' a n :=
  ⟨(b.cell h.2.2.1).trans h.1, (b.cell h.2.2.1).trans h.2.1, Nat.lt_of_lt_of_le h.2.2.1 b.size, below_trans h.2.2.2 b⟩

set_option maxHeartbeats 800000 in
theorem has_any (a b : Nat) (n : Int) (w : World) (ha : a < 4294967296) (hb : b < 4294967296) (hn : -9223372036854775808 ≤ n ∧ n ≤ 9223372036854775807) :
    Calls Tryz.prog 286 #[.agg #[.int .u32 (a : Int), .int .i64 n], .int .u32 (b : Int)] w fun e w' => e = .returned (.bool (decide ((st a b : Int) < n))) ∧ Below w.heap.size w w' := by
  have hlt := st_lt a b
  have HS := Lib.hid (fun W => steps_any a b W ha hb)
  generalize st a b = x at *
  go_enter Tryz.func286, Tryz.ntmps286
  go_wp2_with fail
  have h0 : Two w (w.alloc (.cells #[.int .u32 (a : Int), .int .i64 n] 321)) a n := Two.new w a n _
  have h1 := h0.1
  have h2 := h0.2.1
  go_region_held3 (fun W => W.cell? ⟨w.heap.size, 0, none⟩ = some (.int .u32 (a : Int)) ∧ W.cell? ⟨w.heap.size, 1, none⟩ = some (.int .i64 n) ∧ Two w W a n)
    (first
      | exact ⟨h0.1, h0.2.1, h0⟩
      | exact ⟨h3.1, h3.2.1, h3⟩
      | exact ⟨h0.drew.1, h0.drew.2.1, h0.drew⟩)
    (first | (go_at_call 338; refine (HS.out _).mono ?_; rintro e w9 ⟨rfl, b⟩; have h3 := h0.drew.below b))
  go_wp2_with fail
  go_ret
  exact ⟨rfl, h3.2.2.2⟩

set_option maxHeartbeats 800000 in
theorem Steps_any (a b : Nat) (w : World) (ha : a < 4294967296) (hb : b < 4294967296) :
    Calls Tryz.prog 368 #[.int .u32 (a : Int), .int .u32 (b : Int)] w fun e w' => e = .returned (.int .i64 (st a b : Nat)) ∧ Below w.heap.size w w' := by
  have hlt := st_lt a b
  have HS := Lib.hid (fun W => steps_any a b W ha hb)
  generalize st a b = x at *
  go_enter Tryz.func368, Tryz.ntmps368
  go_wp2_with (first | (go_at_call 338; refine (HS.out _).mono ?_; rintro e w1 ⟨rfl, b1⟩))
  go_ret
  exact ⟨rfl, b1⟩

set_option maxHeartbeats 800000 in
theorem On_any (a : Nat) (n : Int) (w : World) (ha : a < 4294967296) (hn : -9223372036854775808 ≤ n ∧ n ≤ 9223372036854775807) :
    Calls Tryz.prog 126 #[.int .u32 (a : Int), .int .i64 n] w fun e w' => e = .returned (.int .u32 (on a n : Nat)) ∧ Below w.heap.size w w' := by
  have hlt := on_lt a n
  have HS := Lib.hid (fun W => onr_any a n W ha hn)
  generalize on a n = x at *
  go_enter Tryz.func126, Tryz.ntmps126
  go_wp2_with (first | (go_at_call 194; refine (HS.out _).mono ?_; rintro e w1 ⟨rfl, b1⟩))
  go_ret
  exact ⟨rfl, b1⟩

set_option maxHeartbeats 800000 in
theorem In_any (x a : Nat) (n : Int) (w : World) (hx : x < 4294967296) (ha : a < 4294967296) (hn : -9223372036854775808 ≤ n ∧ n ≤ 9223372036854775807) :
    Calls Tryz.prog 367 #[.int .u32 (x : Int), .int .u32 (a : Int), .int .i64 n] w fun e w' => e = .returned (.bool (decide ((st a x : Int) < n))) ∧ Below w.heap.size w w' := by
  have HS := Lib.hid (fun W => has_any a x n W ha hx hn)
  generalize hd : decide ((st a x : Int) < n) = d at *
  clear hd
  go_enter Tryz.func367, Tryz.ntmps367
  go_wp2_with (first | (go_at_call 286; refine (HS.out _).mono ?_; rintro e w1 ⟨rfl, b1⟩))
  go_ret
  exact ⟨rfl, b1⟩

theorem tmod_pos {n m : Int} (h : 0 ≤ n) : n.tmod m = n % m := Int.tmod_eq_emod_of_nonneg h
theorem tmod_neg (n m : Int) (h : n < 0) : n.tmod m = -((-n) % m) := by
  obtain ⟨k, rfl⟩ : ∃ k, n = -k := ⟨-n, by omega⟩
  rw [Int.neg_tmod, Int.neg_neg, Int.tmod_eq_emod_of_nonneg (by omega)]

end Go.Proofs.YtiehngeeamhlmaaGreatDoor.LF

namespace Go.Proofs.YtiehngeeamhlmaaGreatDoor.LF
set_option linter.unusedVariables false
set_option linter.unusedSimpArgs false
open Go.RowKit

def ptr (b : Nat) : Value := .pointer (some ⟨b, 0, none⟩)

/-- Pieces one behind the other, from b to e. -/
def Chn : Nat → List Ky → Nat → Prop
  | b, [], e => e = b
  | b, k :: l, e => k.seq = b ∧ Chn (on b (k.len : Int)) l e
/-- All their lengths. -/
def tot : List Ky → Nat
  | [] => 0
  | k :: l => k.len + tot l
theorem tot_append (l r : List Ky) : tot (l ++ r) = tot l + tot r := by
  induction l with
  | nil => simp [tot]
  | cons k l ih => simp [tot, ih]; omega
theorem on_on (a : Nat) (m n : Nat) : on (on a (m : Int)) (n : Int) = on a ((m + n : Nat) : Int) := by
  unfold on
  omega
theorem on_zero {a : Nat} (h : a < 4294967296) : on a 0 = a := by unfold on; omega
theorem Chn.end_ : ∀ {l : List Ky} {b e : Nat}, b < 4294967296 → Chn b l e → e = on b (tot l : Int)
  | [], b, e, hb, h => by
    have h : e = b := h
    rw [h]
    exact (on_zero hb).symm
  | k :: l, b, e, hb, h => by
    have := Chn.end_ (on_lt b _) h.2
    rw [this, on_on]
    rfl
theorem Chn.lt {l : List Ky} {b e : Nat} (hb : b < 4294967296) (h : Chn b l e) : e < 4294967296 := by
  rw [h.end_ hb]
  exact on_lt _ _
theorem Chn.snoc : ∀ {l : List Ky} {b e : Nat} (k : Ky), k.seq = e → Chn b l e → Chn b (l ++ [k]) (on e (k.len : Int))
  | [], b, e, k, hk, h => by
    have h : e = b := h
    subst h
    exact ⟨hk, rfl⟩
  | x :: l, b, e, k, hk, h => ⟨h.1, h.2.snoc k hk⟩
theorem Chn.drop : ∀ {l : List Ky} {b e : Nat} (j : Nat), b < 4294967296 → j ≤ l.length → Chn b l e → Chn (on b (tot (l.take j) : Int)) (l.drop j) e
  | l, b, e, 0, hb, _, h => by
    rw [List.take_zero, List.drop_zero]
    have : on b (tot [] : Int) = b := on_zero hb
    rw [this]
    exact h
  | [], b, e, j + 1, hb, hj, h => by simp at hj
  | k :: l, b, e, j + 1, hb, hj, h => by
    have := h.2.drop j (on_lt b _) (by simpa using hj)
    rw [on_on] at this
    exact this
theorem Chn.at_ : ∀ {l : List Ky} {b e : Nat} (j : Nat) (k : Ky), b < 4294967296 → l[j]? = some k → Chn b l e → k.seq = on b (tot (l.take j) : Int)
  | [], _, _, j, _, _, h, _ => by simp at h
  | x :: l, b, e, 0, k, hb, hk, h => by
    simp at hk
    subst hk
    rw [h.1]
    exact (on_zero hb).symm
  | x :: l, b, e, j + 1, k, hb, hk, h => by
    have := h.2.at_ j k (on_lt b _) (by simpa using hk)
    rw [this, on_on]
    rfl
/-- How many of them end within d numbers. -/
def cnt : List Ky → Nat → Nat
  | [], _ => 0
  | k :: l, d => if k.len ≤ d then cnt l (d - k.len) + 1 else 0
theorem cnt_le : ∀ (l : List Ky) (d : Nat), cnt l d ≤ l.length
  | [], _ => Nat.le_refl _
  | k :: l, d => by
    unfold cnt
    split
    · have := cnt_le l (d - k.len)
      simpa using this
    · exact Nat.zero_le _
theorem lt_cnt : ∀ (l : List Ky) (d j : Nat), j < l.length → (j < cnt l d ↔ tot (l.take (j + 1)) ≤ d)
  | [], _, _, h => by simp at h
  | k :: l, d, 0, _ => by
    unfold cnt
    simp only [List.take_succ_cons, List.take_zero, tot]
    split <;> omega
  | k :: l, d, j + 1, h => by
    have ih := lt_cnt l (d - k.len) j (by simpa using h)
    unfold cnt
    rw [List.take_succ_cons]
    show _ ↔ k.len + tot (l.take (j + 1)) ≤ d
    split
    · rw [Nat.add_lt_add_iff_right, ih]
      omega
    · omega
theorem cnt_all : ∀ (l : List Ky) (d : Nat), tot l ≤ d → cnt l d = l.length
  | [], _, _ => rfl
  | k :: l, d, h => by
    have h : k.len + tot l ≤ d := h
    unfold cnt
    rw [if_pos (by omega), cnt_all l (d - k.len) (by omega)]
    rfl

/-- A queue (of type t) at block qb: its pieces, as a slice v, and its end. -/
structure Qu (t : TypeId) (base : Nat) (w : World) (qb : Nat) (v : Value) (l : List Pc) (en : Nat) : Prop where
  obj : w.heap[qb]? = some (.cells #[v, .int .u32 (en : Int)] t (0, 0))
  lo : base ≤ qb
  row : Row w base v l
  ok : ∀ p ∈ l, PO base w p
  num : en < 4294967296
section
variable {t : TypeId} {base : Nat} {w w' : World} {qb : Nat} {v : Value} {l : List Pc} {en : Nat}
theorem Qu.c0 (h : Qu t base w qb v l en) : w.cell? ⟨qb, 0, none⟩ = some v := by rw [cell_of_row w qb 0 _ t (0, 0) h.obj]; rfl
theorem Qu.c1 (h : Qu t base w qb v l en) : w.cell? ⟨qb, 1, none⟩ = some (.int .u32 (en : Int)) := by rw [cell_of_row w qb 1 _ t (0, 0) h.obj]; rfl
theorem Qu.f (h : Qu t base w qb v l en) (j : Nat) : w.frozen? ⟨qb, j, none⟩ = false := frozen_of h.obj j
theorem Qu.lt (h : Qu t base w qb v l en) : qb < w.heap.size := (Array.getElem?_eq_some_iff.1 h.obj).1
theorem Qu.ch (h : Qu t base w qb v l en) {m : Nat → Prop} (c : Ch w w' m) (h1 : ¬ m qb) (h2 : ∀ g, v.ownBlock = some g → ¬ m g) (h3 : ∀ p ∈ l, ∀ g, p.blk = some g → ¬ m g) : Qu t base w' qb v l en :=
  ⟨(c.block qb h.lt h1).trans h.obj, h.lo, h.row.ch c h2, fun p hp => (h.ok p hp).ch c (h3 p hp), h.num⟩
theorem Qu.below (h : Qu t base w qb v l en) (b : Below w.heap.size w w') : Qu t base w' qb v l en :=
  h.ch (Ch.of_below (fun _ => False) b) (fun e => e) (fun _ _ e => e) (fun _ _ _ _ e => e)
/-- A piece's data lie apart from the queue and from its row. -/
theorem Qu.apart (h : Qu t base w qb v l en) (ht : t ≠ 5) {p : Pc} (hp : p ∈ l) {g : Nat} (hg : p.blk = some g) : g ≠ qb ∧ v.ownBlock ≠ some g := by
  obtain ⟨cs, h1⟩ := (h.ok p hp).obj hg
  refine ⟨fun e => ?_, fun e => ?_⟩
  · subst e
    rw [h.obj] at h1
    injection h1 with h1
    injection h1 with _ h1
    exact ht h1
  · obtain ⟨cs', h2⟩ := h.row.obj e
    rw [h2] at h1
    injection h1 with h1
    injection h1 with _ h1
    exact absurd h1 (by decide)
theorem Qu.apart2 (h : Qu t base w qb v l en) (ht : t ≠ 206) : v.ownBlock ≠ some qb := fun e => by
  obtain ⟨cs, h1⟩ := h.row.obj e
  rw [h.obj] at h1
  injection h1 with h1
  injection h1 with _ h1
  exact ht h1
/-- The queue's first cell stored. -/
theorem Qu.store0 (h : Qu t base w qb v l en) (ht : t ≠ 5) (hp : t ≠ 206) {u : Value} {r : List Pc} (hr : Row w base u r) (ho : ∀ p ∈ r, PO base w p) : Qu t base (w.setCell ⟨qb, 0, none⟩ u) qb u r en := by
  have c : Ch w (w.setCell ⟨qb, 0, none⟩ u) (fun k => k = qb) := Ch.setCell (m := fun k => k = qb) (Ch.refl w _) (fun _ => rfl) u
  refine ⟨by simp [World.setCell, Array.getElem?_modify, h.obj], h.lo, hr.ch c (fun g hg e => ?_), fun p hp2 => (ho p hp2).ch c (fun g hg e => ?_), h.num⟩
  · obtain ⟨cs, h1⟩ := hr.obj hg
    rw [e, h.obj] at h1
    injection h1 with h1
    injection h1 with _ h1
    exact hp h1
  · obtain ⟨cs, h1⟩ := (ho p hp2).obj hg
    rw [e, h.obj] at h1
    injection h1 with h1
    injection h1 with _ h1
    exact ht h1
/-- .. and its second one. -/
theorem Qu.store1 (h : Qu t base w qb v l en) (ht : t ≠ 5) (hp : t ≠ 206) {e2 : Nat} (he : e2 < 4294967296) : Qu t base (w.setCell ⟨qb, 1, none⟩ (.int .u32 (e2 : Int))) qb v l e2 := by
  have c : Ch w (w.setCell ⟨qb, 1, none⟩ (.int .u32 (e2 : Int))) (fun k => k = qb) := Ch.setCell (m := fun k => k = qb) (Ch.refl w _) (fun _ => rfl) _
  exact ⟨by simp [World.setCell, Array.getElem?_modify, h.obj], h.lo, h.row.ch c (fun g hg e => h.apart2 hp (e ▸ hg)), fun p hp2 => (h.ok p hp2).ch c (fun g hg e => (h.apart ht hp2 hg).1 e), he⟩
end
/-- What stands at the queue's beginning. -/
def beg (l : List Pc) (en : Nat) : Nat := match l with | [] => en | p :: _ => p.seq
theorem Chn.beg {l : List Pc} {b e : Nat} (h : Chn b (l.map Pc.key) e) : beg l e = b := by
  cases l with
  | nil => exact h
  | cons p l => exact h.1
theorem beg_lt {t : TypeId} {base : Nat} {w : World} {qb : Nat} {v : Value} {l : List Pc} {en : Nat} (h : Qu t base w qb v l en) : beg l en < 4294967296 := by
  cases l with
  | nil => exact h.num
  | cons p l => exact (h.ok p (List.mem_cons_self ..)).seq

set_option maxHeartbeats 800000 in
theorem New_any (s : Nat) (w : World) (hs : s < 4294967296) : Calls Tryz.prog 192 #[.int .u32 (s : Int)] w fun e w' => ∃ qb, e = .returned (ptr qb) ∧ qb = w.heap.size ∧ (∀ base, base ≤ w.heap.size → Qu 258 base w' qb (.slice none 0 0) [] s) ∧ Below w.heap.size w w' := by
  go_enter Tryz.func192, Tryz.ntmps192
  go_wp2_with fail
  go_ret
  exact ⟨_, rfl, rfl, fun base hb => ⟨heap_alloc_new w _, hb, .inl ⟨rfl, rfl⟩, (fun p hp => by cases hp), hs⟩, below_a w _⟩

section
variable {base : Nat} {w : World} {qb : Nat} {v : Value} {l : List Pc} {en : Nat}
set_option maxHeartbeats 800000 in
theorem Len_any (h : Qu 258 base w qb v l en) : Calls Tryz.prog 252 #[ptr qb] w fun e w' => e = .returned (.int .i64 (l.length : Int)) ∧ w' = w := by
  have h0 := h.c0
  obtain ⟨A, c, rfl, _, _⟩ := h.row.slice
  clear h
  generalize l.length = n at *
  unfold ptr
  go_enter Tryz.func252, Tryz.ntmps252
  go_wp2_with fail
  go_ret
  exact ⟨rfl, rfl⟩
set_option maxHeartbeats 800000 in
theorem End_any (h : Qu 258 base w qb v l en) : Calls Tryz.prog 152 #[ptr qb] w fun e w' => e = .returned (.int .u32 (en : Int)) ∧ w' = w := by
  have h1 := h.c1
  clear h
  unfold ptr
  go_enter Tryz.func152, Tryz.ntmps152
  go_wp2_with fail
  go_ret
  exact ⟨rfl, rfl⟩
set_option maxHeartbeats 800000 in
theorem Begin_any (h : Qu 258 base w qb v l en) : Calls Tryz.prog 315 #[ptr qb] w fun e w' => e = .returned (.int .u32 (beg l en : Int)) ∧ w' = w := by
  have HL := Lib.hid (Len_any h)
  have HE := Lib.hid (End_any h)
  have h0 := h.c0
  unfold ptr at HL HE ⊢
  cases l with
  | nil =>
    clear h h0
    have hz : (([] : List Pc).length : Int) = 0 := rfl
    rw [hz] at HL
    unfold beg
    dsimp only
    go_enter Tryz.func315, Tryz.ntmps315
    go_wp2_with fail
    refine (HL.out).mono ?_
    rintro e w1 ⟨rfl, rfl⟩
    go_wp2_with fail
    refine (HE.out).mono ?_
    rintro e w1 ⟨rfl, rfl⟩
    go_wp2_with fail
    go_ret
    exact ⟨rfl, rfl⟩
  | cons p r =>
    unfold beg
    dsimp only
    rcases h.row with ⟨_, e⟩ | ⟨g, o, c, cs, rfl, _, _, h1, h2, _, h4⟩
    · cases e
    have hc := (range_pv.1 h4) 0 (by simp) 0 (.int .u32 (p.seq : Int)) rfl
    have hne : (((p :: r).length : Int) == 0) = false := by
      rw [beq_eq_false_iff_ne, List.length_cons]
      omega
    have hpos : 0 < (p :: r).length := by simp
    have hmx : (p :: r).length ≤ c := h1
    rw [Nat.zero_mul, Nat.add_zero] at hc
    clear h h1 h4 HE
    generalize (p :: r).length = n at *
    generalize p.seq = s at *
    go_enter Tryz.func315, Tryz.ntmps315
    go_wp2_with fail
    refine (HL.out).mono ?_
    rintro e w1 ⟨rfl, rfl⟩
    go_wp2_with fail
    go_ret
    exact ⟨rfl, rfl⟩
set_option maxHeartbeats 800000 in
theorem All_any (h : Qu 258 base w qb v l en) (hn : l.length ≤ 1099511627776) (hd : ∀ p ∈ l, p.dn ≤ 1099511627776) : Calls Tryz.prog 284 #[ptr qb] w (AllP w (l.map Pc.key)) := by
  have h0 := h.c0
  obtain ⟨A, c, rfl, h1, h2⟩ := h.row.slice
  have HA := Lib.hid (all_any A l.length c l w (h.row.ps (fun p hp => (h.ok p hp).pg)) hn hd)
  clear h hn hd
  generalize l.length = n at *
  generalize l.map Pc.key = ks at *
  unfold ptr
  go_enter Tryz.func284, Tryz.ntmps284
  go_wp2_with fail
  refine (HA.out).mono ?_
  rintro e w1 ⟨v1, rfl, h3, b3⟩
  go_wp2_with fail
  go_ret
  exact ⟨_, rfl, h3, b3⟩
end

end Go.Proofs.YtiehngeeamhlmaaGreatDoor.LF

namespace Go.Proofs.YtiehngeeamhlmaaGreatDoor.LF
set_option linter.unusedVariables false
set_option linter.unusedSimpArgs false
open Go.RowKit

/-- An estimate: is there a sample, the smoothed time, the variation, how often it was doubled. -/
structure Es where
  has : Bool
  s : Int
  v : Int
  d : Nat
def Es.cs (E : Es) : Array Value := #[.bool E.has, .int .i64 E.s, .int .i64 E.v, .int .i64 (E.d : Int)]
def Es.zero : Es := ⟨false, 0, 0, 0⟩
/-- A sample, held. -/
def held (t : Int) : Int := min (max t 0) 1000
def mag (x : Int) : Int := max x (-x)
def Es.smp (E : Es) (t : Int) : Es :=
  if E.has then ⟨true, E.s + (held t - E.s.tdiv 8), E.v + (mag (held t - E.s.tdiv 8) - E.v.tdiv 4), E.d⟩ else ⟨true, held t * 8, held t * 2, E.d⟩
def Es.back (E : Es) : Es := ⟨E.has, E.s, E.v, E.d + 1⟩
def Es.fresh (E : Es) : Es := ⟨E.has, E.s, E.v, 0⟩
structure Es.Ok (E : Es) : Prop where
  s0 : 0 ≤ E.s
  s1 : E.s ≤ 8000
  v0 : 0 ≤ E.v
  v1 : E.v ≤ 4000
  d1 : E.d ≤ 1000000

theorem held_bd (t : Int) : 0 ≤ held t ∧ held t ≤ 1000 := by unfold held; omega
theorem held_of {t : Int} (h0 : 0 ≤ t) (h1 : t ≤ 1000) : held t = t := by unfold held; omega
theorem held_mono {a b : Int} (h : a ≤ b) : held a ≤ held b := by unfold held; omega
theorem td8 {s : Int} (h : 0 ≤ s) : s.tdiv 8 = s / 8 := Int.tdiv_eq_ediv_of_nonneg h
theorem td4 {s : Int} (h : 0 ≤ s) : s.tdiv 4 = s / 4 := Int.tdiv_eq_ediv_of_nonneg h
theorem Ok_zero : Es.zero.Ok := ⟨by decide, by decide, by decide, by decide, by decide⟩
theorem Ok_smp {E : Es} (h : E.Ok) (t : Int) : (E.smp t).Ok := by
  have hb := held_bd t
  have h8 := td8 h.s0
  have h4 := td4 h.v0
  have := h.s0
  have := h.s1
  have := h.v0
  have := h.v1
  have := h.d1
  unfold Es.smp
  split
  · refine ⟨?_, ?_, ?_, ?_, ?_⟩ <;> dsimp only <;> (try unfold mag) <;> (try rw [h8]) <;> (try rw [h4]) <;> omega
  · refine ⟨?_, ?_, ?_, ?_, ?_⟩ <;> dsimp only <;> omega
theorem Ok_fresh {E : Es} (h : E.Ok) : E.fresh.Ok := ⟨h.s0, h.s1, h.v0, h.v1, Nat.zero_le _⟩
theorem Ok_back {E : Es} (h : E.Ok) (hd : E.d < 1000000) : E.back.Ok := ⟨h.s0, h.s1, h.v0, h.v1, hd⟩
theorem smp_has (E : Es) (t : Int) : (E.smp t).has = true := by unfold Es.smp; split <;> rfl
theorem smp_d (E : Es) (t : Int) : (E.smp t).d = E.d := by unfold Es.smp; split <;> rfl

/-- Doubled n times, and held at 16. -/
def dbl : Nat → Int → Int
  | 0, x => min x 16
  | n + 1, x => if x < 16 then dbl n (2 * x) else 16
theorem dbl_big {x : Int} (h : 16 ≤ x) : ∀ n, dbl n x = 16
  | 0 => by show min x 16 = 16; omega
  | n + 1 => by show (if x < 16 then dbl n (2 * x) else 16) = 16; rw [if_neg (by omega)]
theorem dbl_min (x : Int) (n : Nat) : dbl n (min x 16) = dbl n x := by
  by_cases h : x < 16
  · rw [show min x 16 = x from by omega]
  · rw [dbl_big (by omega), dbl_big (by omega)]
theorem dbl_step {n : Nat} {x : Int} (h : x < 16) : dbl (n + 1) x = dbl n (2 * x) := by
  show (if x < 16 then dbl n (2 * x) else 16) = _
  rw [if_pos h]
theorem dbl_bd {n : Nat} : ∀ {x : Int}, 2 ≤ x → 2 ≤ dbl n x ∧ dbl n x ≤ 16 := by
  induction n with
  | zero => intro x h; show 2 ≤ min x 16 ∧ min x 16 ≤ 16; omega
  | succ n ih =>
    intro x h
    show 2 ≤ (if x < 16 then dbl n (2 * x) else 16) ∧ (if x < 16 then dbl n (2 * x) else 16) ≤ 16
    split
    · exact ih (by omega)
    · omega
/-- One doubling more is twice as much, up to 16. -/
theorem dbl_next {n : Nat} : ∀ {x : Int}, 2 ≤ x → dbl (n + 1) x = min (2 * dbl n x) 16 := by
  induction n with
  | zero =>
    intro x h
    show (if x < 16 then min (2 * x) 16 else 16) = min (2 * min x 16) 16
    split <;> omega
  | succ n ih =>
    intro x h
    by_cases hx : x < 16
    · rw [dbl_step hx, dbl_step (n := n) hx, ih (by omega)]
    · rw [dbl_big (by omega), dbl_big (by omega)]
      decide

/-- How long to wait, without any doubling; and with. -/
def Es.one (E : Es) : Int := if E.has then max (E.s.tdiv 8 + max E.v 1) 2 else 4
def Es.wt (E : Es) : Int := dbl E.d E.one
def Es.told (E : Es) : Int := if E.has then E.s else 32
theorem one_bd {E : Es} (h : E.Ok) : 2 ≤ E.one ∧ E.one ≤ 5000 := by
  have h8 := td8 h.s0
  have := h.s1
  have := h.v1
  unfold Es.one
  split
  · rw [h8]
    omega
  · omega
theorem wt_bd {E : Es} (h : E.Ok) : 2 ≤ E.wt ∧ E.wt ≤ 16 := dbl_bd (one_bd h).1
theorem wt_back {E : Es} (h : E.Ok) : E.back.wt = min (2 * E.wt) 16 := dbl_next (one_bd h).1
theorem told_bd {E : Es} (h : E.Ok) : 0 ≤ E.told ∧ E.told ≤ 8000 := by
  have := h.s0
  have := h.s1
  unfold Es.told
  split <;> omega

theorem ch_set (w : World) (b j : Nat) (u : Value) : Ch w (w.setCell ⟨b, j, none⟩ u) (fun k => k = b) := (Ch.refl w (fun k => k = b)).setCell (p := ⟨b, j, none⟩) (fun _ => rfl) u
theorem _root_.Go.Proofs.YtiehngeeamhlmaaGreatDoor.Ch.set {a w : World} {b : Nat} (h : Ch a w (fun k => k = b)) (j : Nat) (u : Value) : Ch a (w.setCell ⟨b, j, none⟩ u) (fun k => k = b) := h.then_ (ch_set w b j u)
end Go.Proofs.YtiehngeeamhlmaaGreatDoor.LF

namespace Go.Proofs.YtiehngeeamhlmaaGreatDoor.LF
set_option linter.unusedVariables false
set_option linter.unusedSimpArgs false
open Go.RowKit

theorem sizeU32 : (Tryz.prog.info? 51).map (·.size) = some 1 := by kernel_rfl

/-- The blocks in which a queue lies. -/
def Qb (qb : Nat) (v : Value) (l : List Pc) (g : Nat) : Prop := g = qb ∨ v.ownBlock = some g ∨ ∃ p ∈ l, p.blk = some g
section
variable {t : TypeId} {base : Nat} {w w' : World} {qb : Nat} {v : Value} {l : List Pc} {en : Nat}
theorem Qu.in_ (h : Qu t base w qb v l en) {g : Nat} (hg : Qb qb v l g) : base ≤ g ∧ g < w.heap.size := by
  rcases hg with rfl | hg | ⟨p, hp, hg⟩
  · exact ⟨h.lo, h.lt⟩
  · exact h.row.in_ hg
  · exact (h.ok p hp).lt hg
theorem Qu.frame (h : Qu t base w qb v l en) {m : Nat → Prop} (c : Ch w w' m) (hm : ∀ g, Qb qb v l g → ¬ m g) : Qu t base w' qb v l en :=
  h.ch c (hm qb (.inl rfl)) (fun g hg => hm g (.inr (.inl hg))) (fun p hp g hg => hm g (.inr (.inr ⟨p, hp, hg⟩)))
end
def Pc.at (p : Pc) (s : Nat) : Pc := { p with seq := s }
def Ky.at (k : Ky) (s : Nat) : Ky := { k with seq := s }
theorem key_at (p : Pc) (s : Nat) : (p.at s).key = p.key.at s := rfl
theorem len_at (k : Ky) (s : Nat) : (k.at s).len = k.len := rfl
theorem vals_at (p : Pc) (s : Nat) : p.vals.set 0 (.int .u32 (s : Int)) = (p.at s).vals := rfl
theorem PG.at_ {w : World} {p : Pc} (h : PG w p) {s : Nat} (hs : s < 4294967296) : PG w (p.at s) := ⟨hs, h.dsn, h.data⟩
/-- What Push leaves. -/
def PushP (t : TypeId) (base : Nat) (w : World) (qb : Nat) (v : Value) (l : List Pc) (en : Nat) (k : Ky) (e : Ending) (w' : World) : Prop :=
  ∃ (q : Pc) (v' : Value) (l' : List Pc) (m : Nat), e = .returned (.agg q.vals.toArray) ∧ q.key = k.at en ∧ PO m w' q ∧ w.heap.size ≤ m ∧ Qu t base w' qb v' l' (on en (k.len : Int)) ∧
    l'.map Pc.key = l.map Pc.key ++ (if 0 < k.len then [k.at en] else []) ∧ (∀ g, Qb qb v' l' g → g < m) ∧ (∀ g, Qb qb v' l' g → Qb qb v l g ∨ w.heap.size ≤ g) ∧ Ch w w' (fun k => k = qb ∨ v.ownBlock = some k)

theorem _root_.Go.Proofs.YtiehngeeamhlmaaGreatDoor.RB.ch {w w' : World} {A : Option Addr} {n c : Nat} {l : List UInt8} {m : Nat → Prop} (h : RB w A n c l) (k : Ch w w' m) (hm : ∀ g o s, A = some ⟨g, o, s⟩ → 0 < n → ¬ m g) : RB w' A n c l :=
  ⟨h.1, h.2.1, h.2.2.1, fun hn => by
    obtain ⟨b, o, e, hc⟩ := h.2.2.2 hn
    exact ⟨b, o, e, fun j hj => k.cell (hc j hj) (hm b o none e hn)⟩⟩
/-- Both ways of Push, at their end. -/
theorem push_done {t : TypeId} {base : Nat} {w w12 w13 w14 : World} {qb : Nat} {v v9 : Value} {l l' : List Pc} {en e2 : Nat} {k : Ky} {q : Pc} (H : Qu t base w qb v l en) (HQ : Qu t base w12 qb v9 l' e2) (he : on en (k.len : Int) = e2)
    (hk : l'.map Pc.key = l.map Pc.key ++ (if 0 < k.len then [k.at en] else [])) (hl : ∀ p ∈ l', p ∈ l ∨ ∀ g, p.blk = some g → w.heap.size + 2 ≤ g) (O : v9.ownBlock = v.ownBlock ∨ ∃ g, v9.ownBlock = some g ∧ w.heap.size + 2 ≤ g)
    (C : Ch w w12 (fun k => k = qb ∨ v.ownBlock = some k)) (hs : w.heap.size + 2 ≤ w12.heap.size) (hq : q.key = k.at en) (ho : PO w12.heap.size w13 q) (b13 : Below w12.heap.size w12 w13) (g14 : w13.grownBy w14 (some (w.heap.size + 1))) : PushP t base w qb v l en k (.returned (.agg q.vals.toArray)) w14 := by
  have hold : ∀ g, Qb qb v9 l' g → Qb qb v l g ∨ w.heap.size + 2 ≤ g := by
    rintro g (rfl | hg | ⟨p, hp, hg⟩)
    · exact .inl (.inl rfl)
    · rcases O with e | ⟨g', e, hlt⟩
      · exact .inl (.inr (.inl (e ▸ hg)))
      · rw [e] at hg
        injection hg with hg
        subst hg
        exact .inr hlt
    · rcases hl p hp with h | h
      · exact .inl (.inr (.inr ⟨p, h, hg⟩))
      · exact .inr (h g hg)
  have c14 : Ch w13 w14 (fun k => k = w.heap.size + 1) := Ch.grown (m := fun k => k = w.heap.size + 1) (Ch.refl w13 _) g14 (fun k e _ => by injection e with e; exact e.symm)
  have hs13 := b13.size
  refine ⟨q, v9, l', w12.heap.size, rfl, hq, ho.kept g14 ?_, by omega, ?_, hk, fun g hg => (HQ.in_ hg).2, fun g hg => ?_, ?_⟩
  · cases hb : q.blk with
    | none => exact .inl rfl
    | some g => exact .inr fun e => by injection e with e; have := (ho.lt hb).1; omega
  · rw [he]
    refine (HQ.below b13).frame c14 fun g hg e => ?_
    rcases hold g hg with h | h
    · have := (H.in_ h).2
      omega
    · omega
  · rcases hold g hg with h | h
    · exact .inl h
    · exact .inr (by omega)
  · exact (C.then_ (Ch.mono (m := fun _ => False) ((Ch.of_below _ (b13.mono (Nat.le_refl _)))) (fun _ _ e => e.elim))).trans (m' := fun k => k = w.heap.size + 1) c14 (fun _ _ h => h) (fun x hx e => by omega)

/-- One cell stored, wherever it lies. -/
theorem wpList_setC {P : Program} {ops : Array Oper} {rest : List Oper} {o : Oper} {a : Act} {w : World} {Q : Exit → Act → World → Prop} (hgd : Region.wanted o (yielded ops a.tmps) = true) (ty : TypeId) (x y : Operand) (ho : o.op = .store ty x y) (b k : Nat) (u v : Value) (hx : a.eval x = .pointer (some ⟨b, k, none⟩)) (hy : a.eval y = v) (hc : w.cell? ⟨b, k, none⟩ = some u) (hf : w.frozen? ⟨b, k, none⟩ = false)
    (h1 : v.oneCell' = true) (hi : (P.info? ty).map (·.size) = some 1) (h : wpList P ops Q rest (a.put o.dst undef) (w.setCell ⟨b, k, none⟩ v)) : wpList P ops Q (o :: rest) a w := by
  refine wpList_want hgd fun K hK => ?_
  have := run_storeCells_cells (P := P) b k [v] 0 w (fun j hj => by simp at hj; subst hj; simp [hc]) (fun j hj => by simp at hj; subst hj; simpa using hf) (fun u hu => by simp at hu; subst hu; exact h1)
  simp only [Nat.add_zero] at this
  have hvc : v.cells = #[v] := by cases v <;> first | rfl | cases h1
  have hrun : (storeVar ty ⟨b, k, none⟩ v).run P w = .ok () (w.setCells b k [v]) := by
    cases hq : P.info? ty with
    | none => simp [hq] at hi
    | some i =>
      have hs : i.size = 1 := by simpa [hq] using hi
      simp [storeVar, sizeOf, typeInfo, hq, hvc, hs, this]
  unfold Oper.wp execOp
  simp only [ho, hx, hy, Instr.storeAt, Instr.sureAddr, Sem.run_bind, Sem.run_pure, Result.andThen_ok, hrun]
  exact hK _ _ h

/-- append of one piece, as a step of a region that draws. -/
theorem step_appR {ops : Array Oper} {o : Oper} {a : Act} {w : World} {K : Act → World → Prop} {Q : Exit → Act → World → Prop} {E : Prop} (hgd : o.guard = none) (s x : Operand)
    (ho : o.op = .call { callee := .builtin .append, args := #[s, x], argTypes := #[142, 142] })
    (base : Nat) (v : Value) (l : List Pc) (hs : a.eval s = v) (h0 : Row w base v l) (b xc : Nat) (y : Pc) (hx : a.eval x = .slice (some ⟨b, 0, none⟩) 1 xc) (hy : w.rangeAt b 0 y.vals) (hn : l.length ≤ 1099511627776) (hb : base ≤ w.heap.size)
    (h : ∀ v' w', Row w' base v' (l ++ [y]) → w.grownBy w' v.ownBlock → (v'.ownBlock = v.ownBlock ∨ v'.ownBlock = some w.heap.size) → K (a.put o.dst v') w') :
    if Region.wanted o (yielded ops a.tmps) = true then Oper.wp Tryz.prog o a w K Q else E := by
  have hw : Region.wanted o (yielded ops a.tmps) = true := by simp [Region.wanted, hgd]
  rw [if_pos hw]
  obtain ⟨v', w', hrun, h1, h2, h3⟩ := app_row (P := Tryz.prog) w 142 o.type Tryz.underlying142 infoPcF base v l h0 b xc y hy hn hb
  exact Lib.wp_append_run w s x 142 142 ho _ _ hs hx v' w' hrun (h v' w' h1 h2 h3)

/-- A queue of which the first cell still holds u, while its row lies ready. -/
structure Qx (t : TypeId) (base : Nat) (w : World) (qb : Nat) (u v : Value) (l : List Pc) (en : Nat) : Prop where
  obj : w.heap[qb]? = some (.cells #[u, .int .u32 (en : Int)] t (0, 0))
  lo : base ≤ qb
  row : Row w base v l
  ok : ∀ p ∈ l, PO base w p
  num : en < 4294967296
theorem Qx.c0 {t : TypeId} {base : Nat} {w : World} {qb : Nat} {u v : Value} {l : List Pc} {en : Nat} (h : Qx t base w qb u v l en) : w.cell? ⟨qb, 0, none⟩ = some u := by rw [cell_of_row w qb 0 _ t (0, 0) h.obj]; rfl
theorem Qx.f {t : TypeId} {base : Nat} {w : World} {qb : Nat} {u v : Value} {l : List Pc} {en : Nat} (h : Qx t base w qb u v l en) (j : Nat) : w.frozen? ⟨qb, j, none⟩ = false := frozen_of h.obj j
theorem Qx.store {t : TypeId} {base : Nat} {w : World} {qb : Nat} {u v : Value} {l : List Pc} {en : Nat} (h : Qx t base w qb u v l en) (ht : t ≠ 5) (hp : t ≠ 206) : Qu t base (w.setCell ⟨qb, 0, none⟩ v) qb v l en := by
  have c : Ch w (w.setCell ⟨qb, 0, none⟩ v) (fun k => k = qb) := Ch.setCell (m := fun k => k = qb) (Ch.refl w _) (fun _ => rfl) v
  refine ⟨by simp [World.setCell, Array.getElem?_modify, h.obj], h.lo, h.row.ch c (fun g hg e => ?_), fun p hp2 => (h.ok p hp2).ch c (fun g hg e => ?_), h.num⟩
  · obtain ⟨cs, h1⟩ := h.row.obj hg
    rw [e, h.obj] at h1
    injection h1 with h1
    injection h1 with _ h1
    exact hp h1
  · obtain ⟨cs, h1⟩ := (h.ok p hp2).obj hg
    rw [e, h.obj] at h1
    injection h1 with h1
    injection h1 with _ h1
    exact ht h1
theorem row_blk {w : World} {base base' : Nat} {v : Value} {l : List Pc} {q : Pc} (h : Row w base v l) (hq : PO base' w q) {g : Nat} (hg : q.blk = some g) : v.ownBlock ≠ some g := fun e => by
  obtain ⟨cs, h1⟩ := hq.obj hg
  obtain ⟨cs', h2⟩ := h.obj e
  rw [h2] at h1
  injection h1 with h1
  injection h1 with _ h1
  exact absurd h1 (by decide)
theorem PO.past {b k : Nat} {w w' : World} {p : Pc} (h : PO b w p) (hg : w.grownBy w' (some k)) (hk : k < b) : PO b w' p := h.kept hg (by
  cases hb : p.blk with
  | none => exact .inl rfl
  | some g => exact .inr fun e => by injection e with e; have := (h.lt hb).1; omega)
theorem PO.beside {b base : Nat} {w w' : World} {p : Pc} {v : Value} {l : List Pc} (h : PO b w p) (hr : Row w base v l) (hg : w.grownBy w' v.ownBlock) : PO b w' p := h.kept hg (by
  cases hb : p.blk with
  | none => exact .inl rfl
  | some g => exact .inr fun e => row_blk hr h hb e.symm)
theorem app_frame {t : TypeId} {base : Nat} {w w' : World} {qb : Nat} {v v' : Value} {l : List Pc} {en : Nat} {q : Pc} (h : Qu t base w qb v l en) (ht : t ≠ 206) (r : Row w' base v' (l ++ [q])) (g : w.grownBy w' v.ownBlock) (hq : PO base w q) : Qx t base w' qb v v' (l ++ [q]) en := by
  refine ⟨(g.block qb h.lt (fun e => h.apart2 ht e.symm)).trans h.obj, h.lo, r, fun p hp => ?_, h.num⟩
  have : PO base w p := by
    rcases List.mem_append.1 hp with hp | hp
    · exact h.ok p hp
    · simp at hp
      subst hp
      exact hq
  refine this.kept g ?_
  cases hb : p.blk with
  | none => exact .inl rfl
  | some k => exact .inr fun e => row_blk h.row this hb e.symm

/-- A literal of one piece. -/
theorem run_litP {a : Act} {op : Oper} {w : World} (x : Operand) (ho : op.op = .buildSlice 142 1 #[(0, x)]) (p : Pc) (hx : a.eval x = .agg p.vals.toArray) :
    (execOp a.eval op).run Tryz.prog w = .ok (.value (.slice (some ⟨w.heap.size, 0, none⟩) 1 1)) (w.alloc (.cells p.vals.toArray 206)) := by
  have hrun : (Instr.buildSlice 142 1 #[(0, .agg p.vals.toArray)]).run Tryz.prog w = .ok (.slice (some ⟨w.heap.size, 0, none⟩) 1 1) (w.alloc (.cells p.vals.toArray 206)) := by kernel_rfl
  simp [execOp, ho, hx, hrun]
theorem step_litP {ops : Array Oper} {op : Oper} {a : Act} {w : World} {K : Act → World → Prop} {Q : Exit → Act → World → Prop} {E : Prop} (hgd : Region.wanted op (yielded ops a.tmps) = true) (x : Operand) (ho : op.op = .buildSlice 142 1 #[(0, x)]) (p : Pc) (hx : a.eval x = .agg p.vals.toArray) (g : Nat) (hg : w.heap.size = g)
    (h : ∀ w', Own w' g p.vals → Below w.heap.size w w' → w'.heap.size = g + 1 → K (a.put op.dst (.slice (some ⟨g, 0, none⟩) 1 1)) w') : if Region.wanted op (yielded ops a.tmps) = true then Oper.wp Tryz.prog op a w K Q else E := by
  subst hg
  rw [if_pos hgd]
  unfold Oper.wp
  rw [run_litP x ho p hx, Oper.upon_value]
  exact h _ (Own.new w p.vals _) (below_a w _) (by simp)
theorem wpList_litP {ops : Array Oper} {rest : List Oper} {op : Oper} {a : Act} {w : World} {Q : Exit → Act → World → Prop} (hgd : Region.wanted op (yielded ops a.tmps) = true) (x : Operand) (ho : op.op = .buildSlice 142 1 #[(0, x)]) (p : Pc) (hx : a.eval x = .agg p.vals.toArray) (g : Nat) (hg : w.heap.size = g)
    (h : ∀ w', Own w' g p.vals → Below w.heap.size w w' → w'.heap.size = g + 1 → wpList Tryz.prog ops Q rest (a.put op.dst (.slice (some ⟨g, 0, none⟩) 1 1)) w') : wpList Tryz.prog ops Q (op :: rest) a w := by
  subst hg
  refine wpList_want hgd fun K hK => ?_
  unfold Oper.wp
  rw [run_litP x ho p hx, Oper.upon_value]
  exact hK _ _ (h _ (Own.new w p.vals _) (below_a w _) (by simp))

section
variable {base : Nat} {w : World} {qb : Nat} {v : Value} {l : List Pc} {en : Nat}
set_option maxRecDepth 20000 in
set_option maxHeartbeats 3200000 in
theorem Push_any (h : Qu 258 base w qb v l en) (p : Pc) (hp : PG w p) (hap : ∀ g o s, p.dA = some ⟨g, o, s⟩ → 0 < p.dn → g ≠ qb ∧ v.ownBlock ≠ some g) (hd : p.dn ≤ 1099511627776) (hl : l.length ≤ 1073741824) :
    Calls Tryz.prog 253 #[ptr qb, .agg p.vals.toArray] w (PushP 258 base w qb v l en p.key) := by
  have H := Lib.hid h
  have HP := Lib.hid hp
  have HAP := Lib.hid hap
  clear hap
  have HD := Lib.hid hd
  have HL := Lib.hid hl
  have hlt := h.lt
  have c1 := h.c1
  have f1 := h.f 1
  have hln := len_pc hp
  have hcp := hp.data.cap
  have hmx := hp.data.max
  have HLEN : Hid (p.key.len ≤ 1099511627778) := Lib.hid (by rw [hln]; unfold bn; split <;> split <;> omega)
  clear h hp hd hl hln
  unfold ptr
  go_enter Tryz.func253, Tryz.ntmps253
  go_wp2_with (first
    | ((with_reducible refine wpList_here ?_); refine wpList_boxV (o := ⟨some 3, _, _, _, _, _⟩) rfl 206 (.tmp 1) rfl p.vals rfl _ rfl ?_; intro w1 z1 b1 s1)
    | ((with_reducible refine wpList_here ?_); refine wpList_allocV (o := ⟨some 4, _, _, _, _, _⟩) rfl 206 rfl zP.vals zeroPc _ s1 ?_; intro w2 z2 b2 s2; have z3 := z1.below b2; have b3 := below_trans b1 b2; have d1 : w2.cell? ⟨qb, 1, none⟩ = some (.int .u32 (en : Int)) := (b3.cell hlt).trans c1)
    | ((with_reducible refine wpList_here ?_); refine wpList_setV rfl 51 (.tmp 14) (.tmp 13) rfl _ 0 p.vals (.int .u32 (en : Int)) rfl rfl z3 (by rw [p.vals_length]; omega) rfl sizeU32 ?_; intro w4 z4 g4 s4; have z5 : Own w4 w.heap.size (p.at en).vals := z4; have y5 := z2.far g4 (by intro e; injection e with e; omega); have b5 := v_below_g b3 g4 b3.size (Nat.le_refl _); have HQ5 := Lib.hid (H.out.below b5); have HG5 := Lib.hid ((HP.out.below b5).at_ H.out.num); clear z4 g4 z2 z3)
    | ((with_reducible refine wpList_here ?_); refine wpList_loadV (o := ⟨some 15, _, _, _, _, _⟩) rfl 206 (.tmp 3) rfl _ _ _ rfl z5.range _ Tryz.underlying206 rfl infoPc ?_)
    | fail)
  refine (long_any (p.at en) _ HG5.out HD.out).mono ?_
  rintro e w6 ⟨rfl, b6⟩
  rw [key_at, len_at]
  have z6 := z5.below b6
  have y6 := y5.below b6
  have HQ6 := Lib.hid (HQ5.out.below b6)
  have HG6 := Lib.hid (HG5.out.below b6)
  have s6 := b6.size
  have hs6 : w.heap.size + 2 ≤ w6.heap.size := by omega
  have HB6 := Lib.hid (b5.trans (b6.mono b5.size))
  clear z5 y5 HQ5 HG5 z1 b1 b2 d1 c1 f1 b3 b5 b6
  by_cases hpos : 0 < p.key.len
  · have hpi : (0 : Int) < (p.key.len : Int) := by omega
    have d6 : Below w6.heap.size w6 w6.drew := (Below.refl _ _).drew
    have HQ6 := Lib.hid (HQ6.out.below d6)
    have HG6 := Lib.hid (HG6.out.below d6)
    have HB6 := Lib.hid HB6.out.drew
    have hs6 : w.heap.size + 2 ≤ w6.drew.heap.size := hs6
    have z6 := z6.below d6
    have y6 := y6.below d6
    have c0 := HQ6.out.c0
    have r6 := z6.range
    have HC := Lib.hid (copied_any (p.at en) w6.drew HG6.out (by have := HD.out; show p.dn ≤ _; omega))
    go_wp2_with fail
    refine wp_region_noPanic ?_
    refine until_start (fun W => W.cell? ⟨qb, 0, none⟩ = some v ∧ W.rangeAt w.heap.size 0 (p.at en).vals) 11 (by kernel_rfl) ⟨c0, r6⟩ (fun _ => ?_)
    refine until_take (i := 0) (v := .pointer (some ⟨qb, 0, none⟩)) (some 19) [11] rfl rfl (by kernel_rfl) (by kernel_rfl) (by kernel_rfl) (by kernel_rfl) rfl rfl (fun _ _ _ h => h) (Or.inl ⟨by rfl, fun W hW => by go_simp⟩) ⟨c0, r6⟩ ?_
    simp only [Act.put, List.setIfInBounds_toArray, List.set_cons_zero, List.set_cons_succ]
    refine until_take (i := 1) (v := .pointer (some ⟨qb, 0, none⟩)) (some 20) [11] rfl rfl (by kernel_rfl) (by kernel_rfl) (by kernel_rfl) (by kernel_rfl) rfl rfl (fun _ _ _ h => h) (Or.inl ⟨by rfl, fun W hW => by go_simp⟩) ⟨c0, r6⟩ ?_
    simp only [Act.put, List.setIfInBounds_toArray, List.set_cons_zero, List.set_cons_succ]
    refine until_take (i := 5) (v := .agg (p.at en).vals.toArray) (some 24) [11] rfl rfl (by kernel_rfl) (by kernel_rfl) (by kernel_rfl) (by kernel_rfl) rfl rfl (fun _ _ _ h => h) (yieldsIf_load_mid (by rfl) 206 (.tmp 3) rfl _ _ rfl _ _ (fun W hW => hW.2) Tryz.underlying206 rfl infoPc) ⟨c0, r6⟩ ?_
    simp only [Act.put, List.setIfInBounds_toArray, List.set_cons_zero, List.set_cons_succ]
    refine until_take (i := 2) (v := .pointer (some ⟨qb, 0, none⟩)) (some 21) [11] rfl rfl (by kernel_rfl) (by kernel_rfl) (by kernel_rfl) (by kernel_rfl) rfl rfl (fun _ _ _ h => h) (Or.inl ⟨by rfl, fun W hW => by go_simp⟩) ⟨c0, r6⟩ ?_
    simp only [Act.put, List.setIfInBounds_toArray, List.set_cons_zero, List.set_cons_succ]
    refine until_take (i := 3) (v := .pointer (some ⟨qb, 0, none⟩)) (some 22) [11] rfl rfl (by kernel_rfl) (by kernel_rfl) (by kernel_rfl) (by kernel_rfl) rfl rfl (fun _ _ _ h => h) (Or.inl ⟨by rfl, fun W hW => by go_simp⟩) ⟨c0, r6⟩ ?_
    simp only [Act.put, List.setIfInBounds_toArray, List.set_cons_zero, List.set_cons_succ]
    refine until_take (i := 4) (v := v) (some 23) [11] rfl rfl (by kernel_rfl) (by kernel_rfl) (by kernel_rfl) (by kernel_rfl) rfl rfl (fun _ _ _ h => h) (Or.inl ⟨by rfl, fun W hW => by have hc := hW.1; go_simp⟩) ⟨c0, r6⟩ ?_
    simp only [Act.put, List.setIfInBounds_toArray, List.set_cons_zero, List.set_cons_succ]
    refine until_step (i := 6) (by kernel_rfl) rfl rfl (fun K hK => ?_)
    go_simp
    refine (HC.out).mono ?_
    rintro e w7 ⟨q0, rfl, hk7, ho7, b7⟩
    have HK7 := Lib.hid hk7
    have HO7 := Lib.hid ho7
    have HQ7 := Lib.hid (HQ6.out.below b7)
    have z7 := z6.below b7
    have y7 := y6.below b7
    have HB7 := Lib.hid (And.intro (HB6.out.trans (b7.mono (show w.heap.size ≤ w6.drew.heap.size by omega))) b7.size)
    have e7 : w7.cell? ⟨qb, 0, none⟩ = some v ∧ w7.rangeAt w.heap.size 0 (p.at en).vals := ⟨HQ7.out.c0, z7.range⟩
    clear hk7 ho7 b7 z6 y6 HQ6 HC c0 r6
    dsimp only
    refine hK.out _ _ e7 (fun _ => ?_)
    clear hK
    try simp only [Act.put, List.setIfInBounds_toArray, List.set_cons_zero, List.set_cons_succ]
    refine until_step (i := 7) (by kernel_rfl) rfl rfl (fun K hK => ?_)
    refine step_litP (by rfl) (.tmp 25) rfl q0 rfl _ rfl ?_
    intro w8 x8 b8 t8
    have e8 : w8.cell? ⟨qb, 0, none⟩ = some v ∧ w8.rangeAt w.heap.size 0 (p.at en).vals := ⟨(HQ7.out.below b8).c0, (z7.below b8).range⟩
    show K (Act.put _ (some 26) _) _
    refine hK.out _ _ e8 (fun _ => ?_)
    clear hK
    try simp only [Act.put, List.setIfInBounds_toArray, List.set_cons_zero, List.set_cons_succ]
    refine until_step (i := 8) (by kernel_rfl) rfl rfl (fun K hK => ?_)
    refine step_appR rfl (.tmp 23) (.tmp 26) rfl base v l rfl (HQ7.out.row.below b8) w7.heap.size 1 q0 rfl x8.range (by have := HL.out; omega) (by have := (HQ7.out.in_ (.inl rfl)); have := b8.size; omega) ?_
    intro v9 w9 r9 g9 o9
    have HA9 := Lib.hid (app_frame (HQ7.out.below b8) (by decide) r9 g9 ((HO7.out.below b8).mono (show base ≤ w6.drew.heap.size by have := HQ7.out.lo; omega)))
    have z9 := (z7.below b8).far g9 (fun e => by have := (H.out.row.in_ e.symm).2; omega)
    have e9 : w9.cell? ⟨qb, 0, none⟩ = some v ∧ w9.rangeAt w.heap.size 0 (p.at en).vals := ⟨HA9.out.c0, z9.range⟩
    have y9 := (y7.below b8).far g9 (fun e => by have := (H.out.row.in_ e.symm).2; omega)
    have C9 := Lib.hid (Ch.grown (m := fun k => k = qb ∨ v.ownBlock = some k) (Ch.of_below _ (HB7.out.1.trans (b8.mono (show w.heap.size ≤ w7.heap.size by have := HB7.out.2; omega)))) g9 (fun k e _ => .inr e))
    have S9 := Lib.hid (And.intro b8.size g9.size)
    obtain ⟨A9, k9, rfl, _, _⟩ := r9.slice
    generalize (l ++ [q0]).length = n9 at *
    have c9 := HA9.out.c0
    have f9 := HA9.out.f 0
    have O9 := Lib.hid o9
    clear r9 g9 o9 x8 e8 z7 y7
    show K (Act.put _ (some 27) _) _
    refine hK.out _ _ e9 (fun _ => ?_)
    clear hK
    try simp only [Act.put, List.setIfInBounds_toArray, List.set_cons_zero, List.set_cons_succ]
    refine until_take (i := 9) (v := .pointer (some ⟨qb, 0, none⟩)) (some 28) [10, 11] rfl rfl (by kernel_rfl) (by kernel_rfl) (by kernel_rfl) (by kernel_rfl) rfl rfl (fun _ _ _ h => h) (Or.inl ⟨by rfl, fun W hW => by go_simp⟩) e9 ?_
    simp only [Act.put, List.setIfInBounds_toArray, List.set_cons_zero, List.set_cons_succ]
    refine until_take (i := 10) (v := .pointer (some ⟨qb, 0, none⟩)) (some 29) [11] rfl rfl (by kernel_rfl) (by kernel_rfl) (by kernel_rfl) (by kernel_rfl) rfl rfl (fun _ _ _ h => h) (Or.inl ⟨by rfl, fun W hW => by go_simp⟩) e9 ?_
    simp only [Act.put, List.setIfInBounds_toArray, List.set_cons_zero, List.set_cons_succ]
    refine until_last (by kernel_rfl) rfl (fun K hK => ?_)
    go_simp
    have HQX := Lib.hid (HA9.out.store (by decide) (by decide))
    have g10 : w9.grownBy (w9.setCell ⟨qb, 0, none⟩ (.slice A9 n9 k9)) (some qb) := v_g_set _ _ _ _
    have z10 := z9.far g10 (fun e => by injection e with e; omega)
    have y10 := y9.far g10 (fun e => by injection e with e; omega)
    have C10 := Lib.hid (Ch.setCell (m := fun k => k = qb ∨ v.ownBlock = some k) C9.out (p := ⟨qb, 0, none⟩) (fun _ => .inl rfl) (.slice A9 n9 k9))
    have S10 := Lib.hid g10.size
    have c10 := HQX.out.c1
    have f10 := HQX.out.f 1
    clear g10 z9 y9 C9 HA9 c9 f9 e9
    generalize w9.setCell ⟨qb, 0, none⟩ (.slice A9 n9 k9) = w10 at *
    refine hK.out _ _ ?_
    clear hK
    try simp only [Act.put, List.setIfInBounds_toArray, List.set_cons_zero, List.set_cons_succ]
    refine wpAnyH_done (by kernel_rfl) ?_ _
    refine NoPanic.normal ?_
    have HON := Lib.hid (fun W => On_any en (p.key.len : Int) W HQX.out.num (by have := HLEN.out; omega))
    have HG10 := Lib.hid (HG6.out)
    generalize hon : on en (p.key.len : Int) = e2 at *
    have HE2 : Hid (e2 < 4294967296) := Lib.hid (by rw [← hon]; exact on_lt _ _)
    have HEQ := Lib.hid hon
    clear hon
    go_wp2_with (first
      | (go_at_call 126; refine (HON.out _).mono ?_; rintro e w11 ⟨rfl, b11⟩; have HQ11 := Lib.hid (HQX.out.below b11); have c11 := HQ11.out.c1; have f11 := HQ11.out.f 1; have z11 := z10.below b11; have y11 := y10.below b11; clear c10 f10 z10 y10)
      | ((with_reducible refine wpList_here ?_); refine wpList_setC rfl 51 (.tmp 38) (.tmp 36) rfl qb 1 _ (.int .u32 (e2 : Int)) rfl rfl c11 f11 rfl sizeU32 ?_; have HQ12 := Lib.hid (HQ11.out.store1 (by decide) (by decide) HE2.out); have g12 : w11.grownBy (w11.setCell ⟨qb, 1, none⟩ (.int .u32 (e2 : Int))) (some qb) := v_g_set _ _ _ _; have z12 := z11.far g12 (fun e => by injection e with e; omega); have y12 := y11.far g12 (fun e => by injection e with e; omega); have S12 := Lib.hid (And.intro b11 g12); clear z11 y11 c11 f11 HQ11 g12 b11; generalize w11.setCell ⟨qb, 1, none⟩ (.int .u32 (e2 : Int)) = w12 at *)
      | ((with_reducible refine wpList_here ?_); refine wpList_loadV (o := ⟨some 39, _, _, _, _, _⟩) rfl 206 (.tmp 3) rfl _ _ _ rfl z12.range _ Tryz.underlying206 rfl infoPc ?_))
    have C12 : Hid (Ch w w12 (fun k => k = qb ∨ v.ownBlock = some k)) := Lib.hid (Ch.grown (m := fun k => k = qb ∨ v.ownBlock = some k) (C10.out.then_ (Ch.of_below _ S12.out.1)) S12.out.2 (fun k e _ => by injection e with e; exact .inl e.symm))
    have HG12 : Hid (PG w12 (p.at en)) := Lib.hid ⟨H.out.num, HP.out.dsn, HP.out.data.ch C12.out (fun g o s e hn => by rintro (e2 | e2); exact (HAP.out g o s e hn).1 e2; exact (HAP.out g o s e hn).2 e2)⟩
    have HC := Lib.hid (copied_any (p.at en) w12 HG12.out (by have := HD.out; show p.dn ≤ _; omega))
    refine (HC.out).mono ?_
    rintro e w13 ⟨q, rfl, hk13, ho13, b13⟩
    have y13 := y12.below b13
    have HK13 := Lib.hid hk13
    have HO13 := Lib.hid ho13
    clear hk13 ho13 HON
    go_wp2_with (first
      | ((with_reducible refine wpList_here ?_); refine wpList_storeV rfl 206 (.tmp 4) (.tmp 40) rfl _ _ q.vals rfl rfl y13 rfl (pc_one _) infoPc ?_; intro w14 z14 g14 s14))
    refine bodyPost_ret (results_c0 rfl _ _ (w.heap.size + 1) _ _ rfl z14.range Tryz.underlying206 rfl infoPc) rfl ?_
    have h8 := S9.out
    have h10 := S10.out
    have h12 := S12.out.2.size
    have h11 := S12.out.1.size
    have h7 := HB7.out.2
    refine push_done (l' := l ++ [q0]) H.out HQ12.out HEQ.out ?_ (fun x hx => ?_) ?_ C12.out (by omega) HK13.out HO13.out b13 g14
    · rw [List.map_append, if_pos hpos]
      show _ ++ [q0.key] = _
      rw [HK7.out]
      rfl
    · rcases List.mem_append.1 hx with hx | hx
      · exact .inl hx
      · simp at hx
        subst hx
        exact .inr fun g hg => by have := (HO7.out.lt hg).1; omega
    · rcases O9.out with e | e
      · exact .inl e
      · exact .inr ⟨_, e, by omega⟩
  · have hpi : decide ((0 : Int) < (p.key.len : Int)) = false := decide_eq_false (by omega)
    have HC := Lib.hid (copied_any (p.at en) w6 HG6.out (by have := HD.out; show p.dn ≤ _; omega))
    go_wp2_with (first
      | ((with_reducible refine wpList_here ?_); refine wpList_loadV (o := ⟨some 39, _, _, _, _, _⟩) rfl 206 (.tmp 3) rfl _ _ _ rfl z6.range _ Tryz.underlying206 rfl infoPc ?_)
      | (go_at_call 306; refine (HC.out).mono ?_; rintro e w7 ⟨q, rfl, hk7, ho7, b7⟩; have y7 := y6.below b7; have HK7 := Lib.hid hk7; have HO7 := Lib.hid ho7; clear hk7 ho7)
      | ((with_reducible refine wpList_here ?_); refine wpList_storeV rfl 206 (.tmp 4) (.tmp 40) rfl _ _ q.vals rfl rfl y7 rfl (pc_one _) infoPc ?_; intro w8 z8 g8 s8))
    refine bodyPost_ret (results_c0 rfl _ _ (w.heap.size + 1) _ _ rfl z8.range Tryz.underlying206 rfl infoPc) rfl ?_
    have hk0 : p.key.len = 0 := by omega
    refine push_done (l' := l) H.out HQ6.out (by rw [hk0]; exact on_zero H.out.num) (by rw [if_neg hpos, List.append_nil]) (fun x hx => .inl hx) (.inl rfl) (Ch.of_below _ HB6.out) hs6 HK7.out HO7.out b7 g8
end
end Go.Proofs.YtiehngeeamhlmaaGreatDoor.LF

namespace Go.Proofs.YtiehngeeamhlmaaGreatDoor.LF
set_option linter.unusedVariables false
set_option linter.unusedSimpArgs false
open Go.RowKit

theorem st_tot {b en : Nat} {ks : List Ky} (hb : b < 4294967296) (h : Chn b ks en) (ht : tot ks < 4294967296) : st b en = tot ks := by
  have h1 := h.end_ hb
  have h2 := st_on_self hb (tot ks : Int)
  rw [← h1] at h2
  omega

section
variable {base : Nat} {w : World} {qb : Nat} {v : Value} {l : List Pc} {en : Nat}
set_option maxHeartbeats 1600000 in
theorem reaches_any (h : Qu 258 base w qb v l en) (b a : Nat) (hb : b < 4294967296) (ha : a < 4294967296) (hc : Chn b (l.map Pc.key) en) (ht : tot (l.map Pc.key) ≤ 2147483648) :
    Calls Tryz.prog 333 #[ptr qb, .int .u32 (a : Int)] w fun e w' => e = .returned (.bool (decide (st b a ≤ tot (l.map Pc.key)))) ∧ Below w.heap.size w w' := by
  have HB := Lib.hid (Begin_any h)
  have HE := Lib.hid (End_any h)
  rw [hc.beg] at HB
  have hst := st_tot hb hc (by omega)
  have hen := h.num
  have HS := Lib.hid (fun W => Steps_any b en W hb hen)
  rw [hst] at HS
  generalize tot (l.map Pc.key) = n at *
  have HI := Lib.hid (fun W => In_any a b ((n : Int) + 1) W ha hb (by omega))
  have hd : decide ((st b a : Int) < (n : Int) + 1) = decide (st b a ≤ n) := by
    rw [decide_eq_decide]
    omega
  rw [hd] at HI
  generalize decide (st b a ≤ n) = d at *
  clear hd hst hc h
  unfold ptr at *
  go_enter Tryz.func333, Tryz.ntmps333
  go_wp2_with fail
  refine (HB.out).mono ?_
  rintro e w1 ⟨rfl, rfl⟩
  go_wp2_with fail
  refine (HB.out).mono ?_
  rintro e w1 ⟨rfl, rfl⟩
  go_wp2_with fail
  refine (HE.out).mono ?_
  rintro e w1 ⟨rfl, rfl⟩
  go_wp2_with fail
  refine (HS.out _).mono ?_
  rintro e w2 ⟨rfl, b2⟩
  go_wp2_with fail
  refine (HI.out _).mono ?_
  rintro e w3 ⟨rfl, b3⟩
  go_wp2_with fail
  go_ret
  exact ⟨rfl, below_trans b2 b3⟩

theorem drop_getK {ks : List Ky} {j : Nat} (h : j < ks.length) : ks.drop j = ks[j] :: ks.drop (j + 1) := List.drop_eq_getElem_cons h
theorem cnt_stop {k : Ky} {ks : List Ky} {d : Nat} (h : d < k.len) : cnt (k :: ks) d = 0 := by
  unfold cnt
  rw [if_neg (by omega)]
theorem cnt_go {k : Ky} {ks : List Ky} {d : Nat} (h : k.len ≤ d) : cnt (k :: ks) d = cnt ks (d - k.len) + 1 := by
  show (if k.len ≤ d then _ else _) = _
  rw [if_pos h]

set_option maxRecDepth 8000 in
set_option maxHeartbeats 3200000 in
theorem ended_any (h : Qu 258 base w qb v l en) (b a : Nat) (hb : b < 4294967296) (ha : a < 4294967296) (hc : Chn b (l.map Pc.key) en) (hd : ∀ p ∈ l, p.dn ≤ 1099511627776) (hl : l.length ≤ 1073741824) :
    Calls Tryz.prog 334 #[ptr qb, .int .u32 (a : Int)] w fun e w' => e = .returned (.int .i64 (cnt (l.map Pc.key) (st b a) : Int)) ∧ Below w.heap.size w w' := by
  have HB := Lib.hid (Begin_any h)
  rw [hc.beg] at HB
  have HS := Lib.hid (fun W => Steps_any b a W hb ha)
  have hst := st_lt b a
  have H := Lib.hid h
  have HD := Lib.hid hd
  have hlt := h.lt
  have c0 := h.c0
  obtain ⟨A, c, rfl, hcp, hmx⟩ := h.row.slice
  generalize hn : l.length = n at *
  have HN := Lib.hid hn
  generalize hdd : st b a = dd at *
  clear h hd hc hn hdd
  unfold ptr at *
  go_enter Tryz.func334, Tryz.ntmps334
  go_wp2_with fail
  go_step3
  go_wp2_with fail
  refine (HB.out).mono ?_
  rintro e w1 ⟨rfl, rfl⟩
  go_wp2_with fail
  refine (HS.out _).mono ?_
  rintro e w2 ⟨rfl, b2⟩
  have c2 := (b2.cell hlt).trans c0
  have HW2 := Lib.hid b2
  clear b2 c0 HB HS
  go_wp2_with fail
  go_step3
  go_wp2_with fail
  go_loopw [5, 6, 19] (fun x y i wr => ∃ (j r : Nat), j ≤ n ∧ i = .int .i64 j ∧ x = .int .i64 j ∧ y = .int .i64 (r : Int) ∧ r ≤ dd ∧ cnt (l.map Pc.key) dd = j + cnt ((l.map Pc.key).drop j) r ∧ Below w1.heap.size w1 wr) (fun _ _ i _ => n - (intOf i).toNat)
  case atStart => exact ⟨0, dd, Nat.zero_le _, rfl, rfl, rfl, Nat.le_refl _, by simp, HW2.out⟩
  case round =>
    obtain ⟨j, r, hj, rfl, rfl, rfl, hrd, hcn, hbl⟩ := hrel
    have HCN := Lib.hid hcn
    have HBL := Lib.hid hbl
    clear hcn
    by_cases hlt2 : j < n
    · have hjl : j < l.length := by rw [HN.out]; exact hlt2
      have hps := (H.out.row.below hbl).ps (fun p hp => ((H.out.ok p hp).below hbl).pg)
      obtain ⟨g, o, rfl, hr⟩ := hps.at_ hlt2
      have HPG := Lib.hid (hps.ok hlt2)
      have HDN := Lib.hid (HD.out _ (getD_memP hjl))
      have hdk : (l.map Pc.key).drop j = (l.getD j zP).key :: (l.map Pc.key).drop (j + 1) := by
        rw [drop_getK (by simpa using hjl)]
        simp [List.getD_eq_getElem?_getD, hjl]
      have HCN := HCN
      rw [hdk] at HCN
      clear hps hdk hjl hbl
      generalize l.getD j zP = p at *
      have HLN := Lib.hid (fun W (hW : PG W p) => long_any p W hW HDN.out)
      have hls := len_pc HPG.out
      have hlb : p.key.len ≤ 1099511627778 := by
        have := HDN.out
        rw [hls]
        unfold bn
        split <;> split <;> omega
      clear hls
      have HST := Lib.hid (@cnt_stop p.key ((l.map Pc.key).drop (j + 1)) r)
      have HGO := Lib.hid (@cnt_go p.key ((l.map Pc.key).drop (j + 1)) r)
      generalize p.key.len = m at *
      by_cases hgt : r < m
      · have hgi : (r : Int) < (m : Int) := by omega
        have HC0 : Hid (cnt (l.map Pc.key) dd = j) := Lib.hid (by rw [HCN.out, HST.out hgt]; rfl)
        clear HST HGO HCN
        go_wp2_with (first
          | ((with_reducible refine wpList_here ?_); refine wpList_loadV (o := ⟨some 22, _, _, _, _, _⟩) rfl 206 (.tmp 21) rfl _ _ p.vals rfl hr _ Tryz.underlying206 rfl infoPc ?_)
          | ((with_reducible refine wpList_here ?_); refine wpList_allocV (o := ⟨some 8, _, _, _, _, _⟩) rfl 206 rfl zP.vals zeroPc _ rfl ?_; intro w4 z4 b4 s4)
          | ((with_reducible refine wpList_here ?_); refine wpList_storeV rfl 206 (.tmp 8) (.tmp 22) rfl _ _ p.vals rfl rfl z4 rfl (pc_one p) infoPc ?_; intro w5 z5 g5 s5; have b5 := v_below_g b4 g5 b4.size (Nat.le_refl _); clear z4 b4 g5)
          | ((with_reducible refine wpList_here ?_); refine wpList_loadV (o := ⟨some 23, _, _, _, _, _⟩) rfl 206 (.tmp 8) rfl _ _ p.vals rfl z5.range _ Tryz.underlying206 rfl infoPc ?_)
          | (go_at_call 307; refine (HLN.out w5 (HPG.out.below b5)).mono ?_; rintro e w6 ⟨rfl, b6⟩; have b7 := HBL.out.trans ((below_trans b5 b6).mono HBL.out.size); clear z5 b5 b6))
        rw [Exit.noGoto_ret]
        go_ret
        exact ⟨by rw [HC0.out]; rfl, b7⟩
      · have hgi : decide ((r : Int) < (m : Int)) = false := decide_eq_false (by omega)
        have HC1 : Hid (cnt (l.map Pc.key) dd = j + 1 + cnt ((l.map Pc.key).drop (j + 1)) (r - m)) := Lib.hid (by rw [HCN.out, HGO.out (by omega)]; omega)
        have hw : IntKind.i64.wrap ((r : Int) - (m : Int)) = ((r - m : Nat) : Int) := by rw [IntKind.wrap_i64]; omega
        clear HST HGO HCN
        go_wp2_with (first
          | ((with_reducible refine wpList_here ?_); refine wpList_loadV (o := ⟨some 22, _, _, _, _, _⟩) rfl 206 (.tmp 21) rfl _ _ p.vals rfl hr _ Tryz.underlying206 rfl infoPc ?_)
          | ((with_reducible refine wpList_here ?_); refine wpList_allocV (o := ⟨some 8, _, _, _, _, _⟩) rfl 206 rfl zP.vals zeroPc _ rfl ?_; intro w4 z4 b4 s4)
          | ((with_reducible refine wpList_here ?_); refine wpList_storeV rfl 206 (.tmp 8) (.tmp 22) rfl _ _ p.vals rfl rfl z4 rfl (pc_one p) infoPc ?_; intro w5 z5 g5 s5; have b5 := v_below_g b4 g5 b4.size (Nat.le_refl _); clear z4 b4 g5)
          | ((with_reducible refine wpList_here ?_); refine wpList_loadV (o := ⟨some 23, _, _, _, _, _⟩) rfl 206 (.tmp 8) rfl _ _ p.vals rfl z5.range _ Tryz.underlying206 rfl infoPc ?_)
          | (go_at_call 307; refine (HLN.out w5 (HPG.out.below b5)).mono ?_; rintro e w6 ⟨rfl, b6⟩; have b7 := HBL.out.trans ((below_trans b5 b6).mono HBL.out.size); clear z5 b5 b6))
        go_roundw
        case rel => exact ⟨j + 1, r - m, by omega, by go_num, by go_num, rfl, by omega, HC1.out, b7⟩
        case measure => simp [intOf]; omega
    · obtain rfl : j = n := by omega
      have hz : (l.map Pc.key).drop j = [] := List.drop_eq_nil_of_le (by simp [HN.out])
      rw [hz] at HCN
      have HC0 : Hid (cnt (l.map Pc.key) dd = j) := Lib.hid (by rw [HCN.out]; rfl)
      clear HCN hz
      go_wp2_with fail
      rw [Exit.noGoto_ret]
      go_ret
      exact ⟨by rw [HC0.out]; rfl, hbl⟩
end
end Go.Proofs.YtiehngeeamhlmaaGreatDoor.LF
