/- A queue in memory, the program's or the document's; what its numbers say; the contracts of New, Len, End, Begin, All, and of a nil queue's. Conditions: at most 2^40 pieces, with data of at most 2^40 bytes each.
An estimate's numbers: what a sample makes of them, how long the wait is, doubled so often (cut out of layer 12's). No condition.
A region that draws its order, of which one call writes what is loaded ahead of it: a condition on the world that holds until that call has come up. No condition. -/
import Derived.Test.YtnpkmkjenlhkiaaMg3
import Derived.Test.YtnpkmkjenlhkiaaChecked
import Derived.Deep.RegionHeld3
namespace Go.Proofs.Ytnpkmkjenlhkiaa
set_option linter.unusedVariables false
set_option linter.unusedSimpArgs false
open Go.RowKit

def ptr (b : Nat) : Value := .pointer (some ⟨b, 0, none⟩)

/-- Pieces one behind the other, from b to e. -/
def Chn : Nat → List Ky → Nat → Prop
  | b, [], e => e = b
  | b, k :: l, e => k.seq = b ∧ Chn (on b (k.len : Int)) l e
/-- All their lengths. -/
def tot : List Ky → Nat
  | [] => 0
  | k :: l => k.len + tot l
theorem tot_append (l r : List Ky) : tot (l ++ r) = tot l + tot r := by
  induction l with
  | nil => simp [tot]
  | cons k l ih => simp [tot, ih]; omega
theorem on_on (a : Nat) (m n : Nat) : on (on a (m : Int)) (n : Int) = on a ((m + n : Nat) : Int) := by
  unfold on
  omega
theorem on_zero {a : Nat} (h : a < 4294967296) : on a 0 = a := by unfold on; omega
theorem Chn.end_ : ∀ {l : List Ky} {b e : Nat}, b < 4294967296 → Chn b l e → e = on b (tot l : Int)
  | [], b, e, hb, h => by
    have h : e = b := h
    rw [h]
    exact (on_zero hb).symm
  | k :: l, b, e, hb, h => by
    have := Chn.end_ (on_lt b _) h.2
    rw [this, on_on]
    rfl
theorem Chn.lt {l : List Ky} {b e : Nat} (hb : b < 4294967296) (h : Chn b l e) : e < 4294967296 := by
  rw [h.end_ hb]
  exact on_lt _ _
theorem Chn.snoc : ∀ {l : List Ky} {b e : Nat} (k : Ky), k.seq = e → Chn b l e → Chn b (l ++ [k]) (on e (k.len : Int))
  | [], b, e, k, hk, h => by
    have h : e = b := h
    subst h
    exact ⟨hk, rfl⟩
  | x :: l, b, e, k, hk, h => ⟨h.1, h.2.snoc k hk⟩
theorem Chn.drop : ∀ {l : List Ky} {b e : Nat} (j : Nat), b < 4294967296 → j ≤ l.length → Chn b l e → Chn (on b (tot (l.take j) : Int)) (l.drop j) e
  | l, b, e, 0, hb, _, h => by
    rw [List.take_zero, List.drop_zero]
    have : on b (tot [] : Int) = b := on_zero hb
    rw [this]
    exact h
  | [], b, e, j + 1, hb, hj, h => by simp at hj
  | k :: l, b, e, j + 1, hb, hj, h => by
    have := h.2.drop j (on_lt b _) (by simpa using hj)
    rw [on_on] at this
    exact this
theorem Chn.at_ : ∀ {l : List Ky} {b e : Nat} (j : Nat) (k : Ky), b < 4294967296 → l[j]? = some k → Chn b l e → k.seq = on b (tot (l.take j) : Int)
  | [], _, _, j, _, _, h, _ => by simp at h
  | x :: l, b, e, 0, k, hb, hk, h => by
    simp at hk
    subst hk
    rw [h.1]
    exact (on_zero hb).symm
  | x :: l, b, e, j + 1, k, hb, hk, h => by
    have := h.2.at_ j k (on_lt b _) (by simpa using hk)
    rw [this, on_on]
    rfl
/-- How many of them end within d numbers. -/
def cnt : List Ky → Nat → Nat
  | [], _ => 0
  | k :: l, d => if k.len ≤ d then cnt l (d - k.len) + 1 else 0
theorem cnt_le : ∀ (l : List Ky) (d : Nat), cnt l d ≤ l.length
  | [], _ => Nat.le_refl _
  | k :: l, d => by
    unfold cnt
    split
    · have := cnt_le l (d - k.len)
      simpa using this
    · exact Nat.zero_le _
theorem lt_cnt : ∀ (l : List Ky) (d j : Nat), j < l.length → (j < cnt l d ↔ tot (l.take (j + 1)) ≤ d)
  | [], _, _, h => by simp at h
  | k :: l, d, 0, _ => by
    unfold cnt
    simp only [List.take_succ_cons, List.take_zero, tot]
    split <;> omega
  | k :: l, d, j + 1, h => by
    have ih := lt_cnt l (d - k.len) j (by simpa using h)
    unfold cnt
    rw [List.take_succ_cons]
    show _ ↔ k.len + tot (l.take (j + 1)) ≤ d
    split
    · rw [Nat.add_lt_add_iff_right, ih]
      omega
    · omega
theorem cnt_all : ∀ (l : List Ky) (d : Nat), tot l ≤ d → cnt l d = l.length
  | [], _, _ => rfl
  | k :: l, d, h => by
    have h : k.len + tot l ≤ d := h
    unfold cnt
    rw [if_pos (by omega), cnt_all l (d - k.len) (by omega)]
    rfl

/-- A queue (of type t) at block qb: its pieces, as a slice v, and its end. -/
structure Qu (t : TypeId) (base : Nat) (w : World) (qb : Nat) (v : Value) (l : List Pc) (en : Nat) : Prop where
  obj : w.heap[qb]? = some (.cells #[v, .int .u32 (en : Int)] t (0, 0))
  lo : base ≤ qb
  row : Row w base v l
  ok : ∀ p ∈ l, PO base w p
  num : en < 4294967296
section
variable {t : TypeId} {base : Nat} {w w' : World} {qb : Nat} {v : Value} {l : List Pc} {en : Nat}
theorem Qu.c0 (h : Qu t base w qb v l en) : w.cell? ⟨qb, 0, none⟩ = some v := by rw [cell_of_row w qb 0 _ t (0, 0) h.obj]; rfl
theorem Qu.c1 (h : Qu t base w qb v l en) : w.cell? ⟨qb, 1, none⟩ = some (.int .u32 (en : Int)) := by rw [cell_of_row w qb 1 _ t (0, 0) h.obj]; rfl
theorem Qu.f (h : Qu t base w qb v l en) (j : Nat) : w.frozen? ⟨qb, j, none⟩ = false := frozen_of h.obj j
theorem Qu.lt (h : Qu t base w qb v l en) : qb < w.heap.size := (Array.getElem?_eq_some_iff.1 h.obj).1
theorem Qu.ch (h : Qu t base w qb v l en) {m : Nat → Prop} (c : Ch w w' m) (h1 : ¬ m qb) (h2 : ∀ g, v.ownBlock = some g → ¬ m g) (h3 : ∀ p ∈ l, ∀ g, p.blk = some g → ¬ m g) : Qu t base w' qb v l en :=
  ⟨(c.block qb h.lt h1).trans h.obj, h.lo, h.row.ch c h2, fun p hp => (h.ok p hp).ch c (h3 p hp), h.num⟩
theorem Qu.below (h : Qu t base w qb v l en) (b : Below w.heap.size w w') : Qu t base w' qb v l en :=
  h.ch (Ch.of_below (fun _ => False) b) (fun e => e) (fun _ _ e => e) (fun _ _ _ _ e => e)
/-- A piece's data lie apart from the queue and from its row. -/
theorem Qu.apart (h : Qu t base w qb v l en) (ht : t ≠ 5) {p : Pc} (hp : p ∈ l) {g : Nat} (hg : p.blk = some g) : g ≠ qb ∧ v.ownBlock ≠ some g := by
  obtain ⟨cs, h1⟩ := (h.ok p hp).obj hg
  refine ⟨fun e => ?_, fun e => ?_⟩
  · subst e
    rw [h.obj] at h1
    injection h1 with h1
    injection h1 with _ h1
    exact ht h1
  · obtain ⟨cs', h2⟩ := h.row.obj e
    rw [h2] at h1
    injection h1 with h1
    injection h1 with _ h1
    exact absurd h1 (by decide)
theorem Qu.apart2 (h : Qu t base w qb v l en) (ht : t ≠ 52) : v.ownBlock ≠ some qb := fun e => by
  obtain ⟨cs, h1⟩ := h.row.obj e
  rw [h.obj] at h1
  injection h1 with h1
  injection h1 with _ h1
  exact ht h1
/-- The queue's first cell stored. -/
theorem Qu.store0 (h : Qu t base w qb v l en) (ht : t ≠ 5) (hp : t ≠ 52) {u : Value} {r : List Pc} (hr : Row w base u r) (ho : ∀ p ∈ r, PO base w p) : Qu t base (w.setCell ⟨qb, 0, none⟩ u) qb u r en := by
  have c : Ch w (w.setCell ⟨qb, 0, none⟩ u) (fun k => k = qb) := Ch.setCell (m := fun k => k = qb) (Ch.refl w _) (fun _ => rfl) u
  refine ⟨by simp [World.setCell, Array.getElem?_modify, h.obj], h.lo, hr.ch c (fun g hg e => ?_), fun p hp2 => (ho p hp2).ch c (fun g hg e => ?_), h.num⟩
  · obtain ⟨cs, h1⟩ := hr.obj hg
    rw [e, h.obj] at h1
    injection h1 with h1
    injection h1 with _ h1
    exact hp h1
  · obtain ⟨cs, h1⟩ := (ho p hp2).obj hg
    rw [e, h.obj] at h1
    injection h1 with h1
    injection h1 with _ h1
    exact ht h1
/-- .. and its second one. -/
theorem Qu.store1 (h : Qu t base w qb v l en) (ht : t ≠ 5) (hp : t ≠ 52) {e2 : Nat} (he : e2 < 4294967296) : Qu t base (w.setCell ⟨qb, 1, none⟩ (.int .u32 (e2 : Int))) qb v l e2 := by
  have c : Ch w (w.setCell ⟨qb, 1, none⟩ (.int .u32 (e2 : Int))) (fun k => k = qb) := Ch.setCell (m := fun k => k = qb) (Ch.refl w _) (fun _ => rfl) _
  exact ⟨by simp [World.setCell, Array.getElem?_modify, h.obj], h.lo, h.row.ch c (fun g hg e => h.apart2 hp (e ▸ hg)), fun p hp2 => (h.ok p hp2).ch c (fun g hg e => (h.apart ht hp2 hg).1 e), he⟩
end
/-- What stands at the queue's beginning. -/
def beg (l : List Pc) (en : Nat) : Nat := match l with | [] => en | p :: _ => p.seq
theorem Chn.beg {l : List Pc} {b e : Nat} (h : Chn b (l.map Pc.key) e) : beg l e = b := by
  cases l with
  | nil => exact h
  | cons p l => exact h.1
theorem beg_lt {t : TypeId} {base : Nat} {w : World} {qb : Nat} {v : Value} {l : List Pc} {en : Nat} (h : Qu t base w qb v l en) : beg l en < 4294967296 := by
  cases l with
  | nil => exact h.num
  | cons p l => exact (h.ok p (List.mem_cons_self ..)).seq

set_option maxHeartbeats 800000 in
theorem New_any (s : Nat) (w : World) (hs : s < 4294967296) : Calls Try.prog 55 #[.int .u32 (s : Int)] w fun e w' => ∃ qb, e = .returned (ptr qb) ∧ qb = w.heap.size ∧ (∀ base, base ≤ w.heap.size → Qu 97 base w' qb (.slice none 0 0) [] s) ∧ Below w.heap.size w w' := by
  go_enter Try.func55, Try.ntmps55
  go_wp2_with fail
  go_ret
  exact ⟨_, rfl, rfl, fun base hb => ⟨heap_alloc_new w _, hb, .inl ⟨rfl, rfl⟩, (fun p hp => by cases hp), hs⟩, below_a w _⟩

section
variable {base : Nat} {w : World} {qb : Nat} {v : Value} {l : List Pc} {en : Nat}
set_option maxHeartbeats 800000 in
theorem Len_any (h : Qu 97 base w qb v l en) : Calls Try.prog 69 #[ptr qb] w fun e w' => e = .returned (.int .i64 (l.length : Int)) ∧ w' = w := by
  have h0 := h.c0
  obtain ⟨A, c, rfl, _, _⟩ := h.row.slice
  clear h
  generalize l.length = n at *
  unfold ptr
  go_enter Try.func69, Try.ntmps69
  go_wp2_with fail
  go_ret
  exact ⟨rfl, rfl⟩
set_option maxHeartbeats 800000 in
theorem End_any (h : Qu 97 base w qb v l en) : Calls Try.prog 37 #[ptr qb] w fun e w' => e = .returned (.int .u32 (en : Int)) ∧ w' = w := by
  have h1 := h.c1
  clear h
  unfold ptr
  go_enter Try.func37, Try.ntmps37
  go_wp2_with fail
  go_ret
  exact ⟨rfl, rfl⟩
set_option maxHeartbeats 800000 in
theorem Begin_any (h : Qu 97 base w qb v l en) : Calls Try.prog 52 #[ptr qb] w fun e w' => e = .returned (.int .u32 (beg l en : Int)) ∧ w' = w := by
  have HL := Lib.hid (Len_any h)
  have HE := Lib.hid (End_any h)
  have h0 := h.c0
  unfold ptr at HL HE ⊢
  cases l with
  | nil =>
    clear h h0
    have hz : (([] : List Pc).length : Int) = 0 := rfl
    rw [hz] at HL
    unfold beg
    dsimp only
    go_enter Try.func52, Try.ntmps52
    go_wp2_with fail
    refine (HL.out).mono ?_
    rintro e w1 ⟨rfl, rfl⟩
    go_wp2_with fail
    refine (HE.out).mono ?_
    rintro e w1 ⟨rfl, rfl⟩
    go_wp2_with fail
    go_ret
    exact ⟨rfl, rfl⟩
  | cons p r =>
    unfold beg
    dsimp only
    rcases h.row with ⟨_, e⟩ | ⟨g, o, c, cs, rfl, _, _, h1, h2, _, h4⟩
    · cases e
    have hc := (range_pv.1 h4) 0 (by simp) 0 (.int .u32 (p.seq : Int)) rfl
    have hne : (((p :: r).length : Int) == 0) = false := by
      rw [beq_eq_false_iff_ne, List.length_cons]
      omega
    have hpos : 0 < (p :: r).length := by simp
    have hmx : (p :: r).length ≤ c := h1
    rw [Nat.zero_mul, Nat.add_zero] at hc
    clear h h1 h4 HE
    generalize (p :: r).length = n at *
    generalize p.seq = s at *
    go_enter Try.func52, Try.ntmps52
    go_wp2_with fail
    refine (HL.out).mono ?_
    rintro e w1 ⟨rfl, rfl⟩
    go_wp2_with fail
    go_ret
    exact ⟨rfl, rfl⟩
set_option maxHeartbeats 800000 in
theorem All_any (h : Qu 97 base w qb v l en) (hn : l.length ≤ 1099511627776) (hd : ∀ p ∈ l, p.dn ≤ 1099511627776) : Calls Try.prog 33 #[ptr qb] w (AllP w (l.map Pc.key)) := by
  have h0 := h.c0
  obtain ⟨A, c, rfl, h1, h2⟩ := h.row.slice
  have HA := Lib.hid (all_any A l.length c l w (h.row.ps (fun p hp => (h.ok p hp).pg)) hn hd)
  clear h hn hd
  generalize l.length = n at *
  generalize l.map Pc.key = ks at *
  unfold ptr
  go_enter Try.func33, Try.ntmps33
  go_wp2_with fail
  refine (HA.out).mono ?_
  rintro e w1 ⟨v1, rfl, h3, b3⟩
  go_wp2_with fail
  go_ret
  exact ⟨_, rfl, h3, b3⟩
end

end Go.Proofs.Ytnpkmkjenlhkiaa

namespace Go.Proofs.Ytnpkmkjenlhkiaa
set_option linter.unusedVariables false
set_option linter.unusedSimpArgs false
open Go.RowKit

/-- An estimate: is there a sample, the smoothed time, the variation, how often it was doubled. -/
structure Es where
  has : Bool
  s : Int
  v : Int
  d : Nat
def Es.cs (E : Es) : Array Value := #[.bool E.has, .int .i64 E.s, .int .i64 E.v, .int .i64 (E.d : Int)]
def Es.zero : Es := ⟨false, 0, 0, 0⟩
/-- A sample, held. -/
def held (t : Int) : Int := min (max t 0) 1000
def mag (x : Int) : Int := max x (-x)
def Es.smp (E : Es) (t : Int) : Es :=
  if E.has then ⟨true, E.s + (held t - E.s.tdiv 8), E.v + (mag (held t - E.s.tdiv 8) - E.v.tdiv 4), E.d⟩ else ⟨true, held t * 8, held t * 2, E.d⟩
def Es.back (E : Es) : Es := ⟨E.has, E.s, E.v, E.d + 1⟩
def Es.fresh (E : Es) : Es := ⟨E.has, E.s, E.v, 0⟩
structure Es.Ok (E : Es) : Prop where
  s0 : 0 ≤ E.s
  s1 : E.s ≤ 8000
  v0 : 0 ≤ E.v
  v1 : E.v ≤ 4000
  d1 : E.d ≤ 1000000

theorem held_bd (t : Int) : 0 ≤ held t ∧ held t ≤ 1000 := by unfold held; omega
theorem held_of {t : Int} (h0 : 0 ≤ t) (h1 : t ≤ 1000) : held t = t := by unfold held; omega
theorem held_mono {a b : Int} (h : a ≤ b) : held a ≤ held b := by unfold held; omega
theorem td8 {s : Int} (h : 0 ≤ s) : s.tdiv 8 = s / 8 := Int.tdiv_eq_ediv_of_nonneg h
theorem td4 {s : Int} (h : 0 ≤ s) : s.tdiv 4 = s / 4 := Int.tdiv_eq_ediv_of_nonneg h
theorem Ok_zero : Es.zero.Ok := ⟨by decide, by decide, by decide, by decide, by decide⟩
theorem Ok_smp {E : Es} (h : E.Ok) (t : Int) : (E.smp t).Ok := by
  have hb := held_bd t
  have h8 := td8 h.s0
  have h4 := td4 h.v0
  have := h.s0
  have := h.s1
  have := h.v0
  have := h.v1
  have := h.d1
  unfold Es.smp
  split
  · refine ⟨?_, ?_, ?_, ?_, ?_⟩ <;> dsimp only <;> (try unfold mag) <;> (try rw [h8]) <;> (try rw [h4]) <;> omega
  · refine ⟨?_, ?_, ?_, ?_, ?_⟩ <;> dsimp only <;> omega
theorem Ok_fresh {E : Es} (h : E.Ok) : E.fresh.Ok := ⟨h.s0, h.s1, h.v0, h.v1, Nat.zero_le _⟩
theorem Ok_back {E : Es} (h : E.Ok) (hd : E.d < 1000000) : E.back.Ok := ⟨h.s0, h.s1, h.v0, h.v1, hd⟩
theorem smp_has (E : Es) (t : Int) : (E.smp t).has = true := by unfold Es.smp; split <;> rfl
theorem smp_d (E : Es) (t : Int) : (E.smp t).d = E.d := by unfold Es.smp; split <;> rfl

/-- Doubled n times, and held at 16. -/
def dbl : Nat → Int → Int
  | 0, x => min x 16
  | n + 1, x => if x < 16 then dbl n (2 * x) else 16
theorem dbl_big {x : Int} (h : 16 ≤ x) : ∀ n, dbl n x = 16
  | 0 => by show min x 16 = 16; omega
  | n + 1 => by show (if x < 16 then dbl n (2 * x) else 16) = 16; rw [if_neg (by omega)]
theorem dbl_min (x : Int) (n : Nat) : dbl n (min x 16) = dbl n x := by
  by_cases h : x < 16
  · rw [show min x 16 = x from by omega]
  · rw [dbl_big (by omega), dbl_big (by omega)]
theorem dbl_step {n : Nat} {x : Int} (h : x < 16) : dbl (n + 1) x = dbl n (2 * x) := by
  show (if x < 16 then dbl n (2 * x) else 16) = _
  rw [if_pos h]
theorem dbl_bd {n : Nat} : ∀ {x : Int}, 2 ≤ x → 2 ≤ dbl n x ∧ dbl n x ≤ 16 := by
  induction n with
  | zero => intro x h; show 2 ≤ min x 16 ∧ min x 16 ≤ 16; omega
  | succ n ih =>
    intro x h
    show 2 ≤ (if x < 16 then dbl n (2 * x) else 16) ∧ (if x < 16 then dbl n (2 * x) else 16) ≤ 16
    split
    · exact ih (by omega)
    · omega
/-- One doubling more is twice as much, up to 16. -/
theorem dbl_next {n : Nat} : ∀ {x : Int}, 2 ≤ x → dbl (n + 1) x = min (2 * dbl n x) 16 := by
  induction n with
  | zero =>
    intro x h
    show (if x < 16 then min (2 * x) 16 else 16) = min (2 * min x 16) 16
    split <;> omega
  | succ n ih =>
    intro x h
    by_cases hx : x < 16
    · rw [dbl_step hx, dbl_step (n := n) hx, ih (by omega)]
    · rw [dbl_big (by omega), dbl_big (by omega)]
      decide

/-- How long to wait, without any doubling; and with. -/
def Es.one (E : Es) : Int := if E.has then max (E.s.tdiv 8 + max E.v 1) 2 else 4
def Es.wt (E : Es) : Int := dbl E.d E.one
def Es.told (E : Es) : Int := if E.has then E.s else 32
theorem one_bd {E : Es} (h : E.Ok) : 2 ≤ E.one ∧ E.one ≤ 5000 := by
  have h8 := td8 h.s0
  have := h.s1
  have := h.v1
  unfold Es.one
  split
  · rw [h8]
    omega
  · omega
theorem wt_bd {E : Es} (h : E.Ok) : 2 ≤ E.wt ∧ E.wt ≤ 16 := dbl_bd (one_bd h).1
theorem wt_back {E : Es} (h : E.Ok) : E.back.wt = min (2 * E.wt) 16 := dbl_next (one_bd h).1
theorem told_bd {E : Es} (h : E.Ok) : 0 ≤ E.told ∧ E.told ≤ 8000 := by
  have := h.s0
  have := h.s1
  unfold Es.told
  split <;> omega

theorem ch_set (w : World) (b j : Nat) (u : Value) : Ch w (w.setCell ⟨b, j, none⟩ u) (fun k => k = b) := (Ch.refl w (fun k => k = b)).setCell (p := ⟨b, j, none⟩) (fun _ => rfl) u
theorem Ch.set {a w : World} {b : Nat} (h : Ch a w (fun k => k = b)) (j : Nat) (u : Value) : Ch a (w.setCell ⟨b, j, none⟩ u) (fun k => k = b) := h.then_ (ch_set w b j u)
end Go.Proofs.Ytnpkmkjenlhkiaa

namespace Go.Proofs.Ytnpkmkjenlhkiaa
set_option linter.unusedVariables false
set_option linter.unusedSimpArgs false

theorem held_take {P : Program} {ops : Array Oper} {Q : Exit → Act → World → Prop} {md : Region.Mode} {S : World → Prop} {i : Nat} {oi : Oper} {v : Value} {fuel : Nat} {listed : Array Bool} {a : Act} {w : World} (d : Option Tmp) (hi : ops[i]? = some oi) (hd : oi.dst = d)
    (hs : Region.noSelect ops = true) (hf : Region.free md ops listed i = true) (hr : (Region.ready md ops listed).contains i = true)
    (hQ : ∀ c a w, Q (.panic c) (a.put d v) w → Q (.panic c) a w) (hy : YieldsIf P ops S oi v a) (hS : S w)
    (h : wpAnyH P md ops Q S fuel (listed.setIfInBounds i true) (a.put d v) w) : wpAnyH P md ops Q S (fuel + 1) listed a w := by
  subst hd
  exact wpAnyH_take hi hs hf hr hQ hy hS h

/-- What has come up waits for nothing that hasn't. -/
def Closed (md : Region.Mode) (ops : Array Oper) (L : Array Bool) : Prop :=
  ∀ j o, ops[j]? = some o → L.getD j false = true → ∀ e ∈ o.after, Region.binds md e = true → L.getD e.on false = true
/-- Each of the listed waits for the one ahead of it. -/
def chainB (md : Region.Mode) (ops : Array Oper) : List Nat → Bool
  | i :: p :: r => (((ops[p]?).map fun o => o.after.any fun e => Region.binds md e && e.on == i).getD false) && chainB md ops (p :: r)
  | _ => true

section
variable {P : Program} {ops : Array Oper} {Q : Exit → Act → World → Prop} {md : Region.Mode} {S : World → Prop} {k : Nat} {L : Array Bool}

theorem Closed.start (md : Region.Mode) (ops : Array Oper) (n : Nat) : Closed md ops (Array.replicate n false) := fun j o _ h => by
  rcases Nat.lt_or_ge j n with hj | hj
  · simp [hj] at h
  · have : ¬ j < n := by omega
    simp [this] at h
theorem Closed.set (h : Closed md ops L) {j : Nat} (hj : j ∈ Region.ready md ops L) : Closed md ops (L.setIfInBounds j true) := fun i o ho hi e he hb => by
  obtain ⟨_, oj, hoj, hall⟩ := mem_ready.1 hj
  by_cases hij : j = i
  · subst hij
    rw [ho] at hoj
    injection hoj with hoj
    subst hoj
    exact getD_set_true (hall e he hb)
  · rw [getD_set_ne false hij] at hi
    exact getD_set_true (h i o ho hi e he hb)
theorem chain_listed (hc : Closed md ops L) {k : Nat} (hk : k ∈ Region.ready md ops L) : ∀ (l : List Nat) (i : Nat), chainB md ops (i :: l) = true → (i :: l).getLast? = some k → i = k ∨ L.getD i false = true
  | [], i, _, hl => by
    simp at hl
    exact .inl hl
  | p :: r, i, h, hl => by
    simp only [chainB, Bool.and_eq_true] at h
    obtain ⟨h1, h2⟩ := h
    have hl2 : (p :: r).getLast? = some k := by rw [List.getLast?_cons_cons] at hl; exact hl
    cases ho : ops[p]? with
    | none => simp [ho] at h1
    | some o =>
      simp only [ho, Option.map_some, Option.getD_some] at h1
      obtain ⟨e, he, hb⟩ := Array.any_eq_true'.1 h1
      simp only [Bool.and_eq_true, beq_iff_eq] at hb
      rcases chain_listed hc hk r p h2 hl2 with e1 | e1
      · subst e1
        obtain ⟨_, o2, ho2, hall⟩ := mem_ready.1 hk
        rw [ho] at ho2
        injection ho2 with ho2
        subst ho2
        exact .inr (hb.2 ▸ hall e he hb.1)
      · exact .inr (hb.2 ▸ hc p o ho e1 e he hb.1)

/-- Whatever order: S holds behind each operation until k has come up; from there on whatever holds. -/
def wpUntil (P : Program) (md : Region.Mode) (ops : Array Oper) (Q : Exit → Act → World → Prop) (S : World → Prop) (k : Nat) : Nat → Array Bool → Act → World → Prop
  | 0, L, a, w => Region.ready md ops L = [] ∧ Q .normal a w
  | f + 1, L, a, w => (Region.ready md ops L = [] → Q .normal a w) ∧
    ∀ i ∈ Region.ready md ops L, wpOp P ops Q i (fun a' w' => (i = k → wpAny P md ops Q f (L.setIfInBounds i true) a' w') ∧ (i ≠ k → S w' ∧ wpUntil P md ops Q S k f (L.setIfInBounds i true) a' w')) a w

theorem any_of_until : ∀ (f : Nat) (L : Array Bool) (a : Act) (w : World), wpUntil P md ops Q S k f L a w → wpAny P md ops Q f L a w
  | 0, _, _, _, h => h
  | f + 1, L, a, w, h => ⟨h.1, fun i hi => wpOp_mono (fun a' w' h' => by
      by_cases e : i = k
      · exact h'.1 e
      · exact any_of_until f _ a' w' (h'.2 e).2) (h.2 i hi)⟩

theorem until_first {i : Nat} {oi : Oper} {v : Value} (hi : ops[i]? = some oi) (hsel : ∀ (j : Nat) (o : Oper) cs b, ops[j]? = some o → o.op ≠ .select cs b)
    (hQ : ∀ c a w, Q (.panic c) (a.put oi.dst v) w → Q (.panic c) a w) (l : List Nat) (hch : chainB md ops (i :: l) = true) (hlast : (i :: l).getLast? = some k) (hik : i ≠ k) :
    ∀ (f : Nat) (L : Array Bool) (a : Act) (w : World), Closed md ops L →
      (∀ j oj, ops[j]? = some oj → j ≠ i → L.getD j true = false → (∀ e ∈ oj.after, Region.binds md e = true → e.on ≠ i) → oi.apart ops oj = true) →
      i ∈ Region.ready md ops L → YieldsIf P ops S oi v a → S w →
      wpUntil P md ops Q S k f (L.setIfInBounds i true) (a.put oi.dst v) w → wpUntil P md ops Q S k (f + 1) L a w := by
  intro f
  induction f with
  | zero =>
    intro L a w hC hfree hr hy hS H
    refine ⟨fun h => (by rw [h] at hr; cases hr), fun j hj => ?_⟩
    by_cases hji : j = i
    · subst hji
      exact hy.wpOp hi hS ⟨fun e => absurd e hik, fun _ => ⟨hS, H⟩⟩
    · have := ready_mono hj hji
      rw [H.1] at this
      cases this
  | succ f ih =>
    intro L a w hC hfree hr hy hS H
    refine ⟨fun h => (by rw [h] at hr; cases hr), fun j hj => ?_⟩
    by_cases hji : j = i
    · subst hji
      exact hy.wpOp hi hS ⟨fun e => absurd e hik, fun _ => ⟨hS, H⟩⟩
    · have hjk : j ≠ k := fun e => by
        subst e
        have h0 := (mem_ready.1 hr).1
        rcases chain_listed hC hj l i hch hlast with e1 | e1
        · exact hji e1.symm
        · rcases Nat.lt_or_ge i L.size with h' | h'
          · simp [h'] at h0 e1
            rw [h0] at e1
            cases e1
          · simp [Array.getElem?_eq_none h'] at e1
      have h1 := H.2 j (ready_mono hj hji)
      obtain ⟨hjun, oj, hoj, hall⟩ := mem_ready.1 hj
      have hnot : ∀ e ∈ oj.after, Region.binds md e = true → e.on ≠ i := fun e he hb heq => by
        have h2 := hall e he hb
        have h0 := (mem_ready.1 hr).1
        rw [heq] at h2
        rcases Nat.lt_or_ge i L.size with h' | h'
        · simp [h'] at h0 h2
          rw [h0] at h2
          cases h2
        · simp [Array.getElem?_eq_none h'] at h2
      have h2 := wpOp_putIf hoj (hfree j oj hoj hji hjun hnot) (fun cs b => hsel i oi cs b hi) (fun cs b => hsel j oj cs b hoj) hQ hy h1
      have hfree' : ∀ m om, ops[m]? = some om → m ≠ i → (L.setIfInBounds j true).getD m true = false → (∀ e ∈ om.after, Region.binds md e = true → e.on ≠ i) → oi.apart ops om = true := fun m om hm hmi hun hno => by
        refine hfree m om hm hmi ?_ hno
        by_cases hjm : j = m
        · subst hjm
          exact hjun
        · rw [getD_set_ne true hjm] at hun
          exact hun
      refine wpOp_mono (fun a' w' h3 => ⟨fun e => absurd e hjk, fun _ => ?_⟩) h2
      obtain ⟨s3, u3⟩ := h3.2.2 hjk
      refine ⟨s3, ih (L.setIfInBounds j true) a' w' (hC.set hj) hfree' (ready_mono hr (Ne.symm hji)) h3.1 s3 ?_⟩
      rw [Array.setIfInBounds_comm _ _ hji]
      exact u3

/-- The same, of what has come up by itself. -/
def Until (P : Program) (md : Region.Mode) (ops : Array Oper) (Q : Exit → Act → World → Prop) (S : World → Prop) (k f : Nat) (L : Array Bool) (a : Act) (w : World) : Prop := Closed md ops L → wpUntil P md ops Q S k f L a w

theorem until_start {id : Nat} {a : Act} {w : World} (S : World → Prop) (k : Nat) (hm : P.follows .mixedOrders = true) (hS : S w.drew) (h : S w.drew → Until P .any ops Q S k ops.size (Array.replicate ops.size false) a w.drew) : (Code.region id ops true).wp P Q a w :=
  wp_region_any hm (any_of_until _ _ _ _ (h hS (Closed.start _ _ _)))
theorem until_take {i : Nat} {oi : Oper} {v : Value} {f : Nat} {a : Act} {w : World} (d : Option Tmp) (l : List Nat) (hi : ops[i]? = some oi) (hd : oi.dst = d) (hs : Region.noSelect ops = true) (hf : Region.free md ops L i = true) (hr : (Region.ready md ops L).contains i = true)
    (hch : chainB md ops (i :: l) = true) (hlast : (i :: l).getLast? = some k) (hik : (i == k) = false) (hQ : ∀ c a w, Q (.panic c) (a.put d v) w → Q (.panic c) a w) (hy : YieldsIf P ops S oi v a) (hS : S w)
    (h : Until P md ops Q S k f (L.setIfInBounds i true) (a.put d v) w) : Until P md ops Q S k (f + 1) L a w := fun hC => by
  subst hd
  have hr' : i ∈ Region.ready md ops L := by simpa using hr
  exact until_first hi (Region.noSelect_spec hs) hQ l hch hlast (by simpa using hik) f L a w hC (Region.free_spec hi hf) hr' hy hS (h (hC.set hr'))
/-- One alone may come up, and it isn't k. -/
theorem until_step {i : Nat} {o : Oper} {f : Nat} {a : Act} {w : World} (hr : Region.ready md ops L = [i]) (ho : ops[i]? = some o) (hik : (i == k) = false)
    (h : ∀ K' : Act → World → Prop, Shut (∀ a w, S w → (S w → Until P md ops Q S k f (L.setIfInBounds i true) a w) → K' a w) → if Region.wanted o (yielded ops a.tmps) = true then Oper.wp P o a w K' Q else K' (a.put o.dst undef) w) : Until P md ops Q S k (f + 1) L a w := fun hC => by
  have hk : i ≠ k := by simpa using hik
  have hm : i ∈ Region.ready md ops L := by rw [hr]; simp
  refine ⟨fun h0 => (by rw [hr] at h0; cases h0), fun j hj => ?_⟩
  rw [hr, List.mem_singleton] at hj
  subst hj
  exact wpOp_step ho (fun K' hK => h K' (fun a w hS hW => hK a w ⟨fun e => absurd e hk, fun _ => ⟨hS, hW hS (hC.set hm)⟩⟩))
/-- k comes up: from here on nothing more is asked of the world. -/
theorem until_last {o : Oper} {f : Nat} {a : Act} {w : World} (hr : Region.ready md ops L = [k]) (ho : ops[k]? = some o)
    (h : ∀ K' : Act → World → Prop, Shut (∀ a w, wpAnyH P md ops Q (fun _ => True) f (L.setIfInBounds k true) a w → K' a w) → if Region.wanted o (yielded ops a.tmps) = true then Oper.wp P o a w K' Q else K' (a.put o.dst undef) w) : Until P md ops Q S k (f + 1) L a w := fun hC => by
  refine ⟨fun h0 => (by rw [hr] at h0; cases h0), fun j hj => ?_⟩
  rw [hr, List.mem_singleton] at hj
  subst hj
  exact wpOp_step ho (fun K' hK => h K' (fun a w hW => hK a w ⟨fun _ => wpAny_of_held _ _ _ _ hW, fun e => absurd rfl e⟩))
end
end Go.Proofs.Ytnpkmkjenlhkiaa
