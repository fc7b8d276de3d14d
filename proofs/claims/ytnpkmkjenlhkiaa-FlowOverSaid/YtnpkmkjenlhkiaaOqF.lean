/- A queue in memory, the program's or the document's; what its numbers say; the contracts of New, Len, End, Begin, All, and of a nil queue's. Conditions: at most 2^40 pieces, with data of at most 2^40 bytes each. -/
import Derived.Test.YtnpkmkjenlhkiaaOqE
import Derived.Test.YtnpkmkjenlhkiaaSerQ
namespace Go.Proofs.Ytnpkmkjenlhkiaa
set_option linter.unusedVariables false
set_option linter.unusedSimpArgs false
open Go.RowKit

def ptr (b : Nat) : Value := .pointer (some ⟨b, 0, none⟩)

/-- Pieces one behind the other, from b to e. -/
def Chn : Nat → List Ky → Nat → Prop
  | b, [], e => e = b
  | b, k :: l, e => k.seq = b ∧ Chn (on b (k.len : Int)) l e
/-- All their lengths. -/
def tot : List Ky → Nat
  | [] => 0
  | k :: l => k.len + tot l
theorem tot_append (l r : List Ky) : tot (l ++ r) = tot l + tot r := by
  induction l with
  | nil => simp [tot]
  | cons k l ih => simp [tot, ih]; omega
theorem on_on (a : Nat) (m n : Nat) : on (on a (m : Int)) (n : Int) = on a ((m + n : Nat) : Int) := by
  unfold on
  omega
theorem on_zero {a : Nat} (h : a < 4294967296) : on a 0 = a := by unfold on; omega
theorem Chn.end_ : ∀ {l : List Ky} {b e : Nat}, b < 4294967296 → Chn b l e → e = on b (tot l : Int)
  | [], b, e, hb, h => by
    have h : e = b := h
    rw [h]
    exact (on_zero hb).symm
  | k :: l, b, e, hb, h => by
    have := Chn.end_ (on_lt b _) h.2
    rw [this, on_on]
    rfl
theorem Chn.lt {l : List Ky} {b e : Nat} (hb : b < 4294967296) (h : Chn b l e) : e < 4294967296 := by
  rw [h.end_ hb]
  exact on_lt _ _
theorem Chn.snoc : ∀ {l : List Ky} {b e : Nat} (k : Ky), k.seq = e → Chn b l e → Chn b (l ++ [k]) (on e (k.len : Int))
  | [], b, e, k, hk, h => by
    have h : e = b := h
    subst h
    exact ⟨hk, rfl⟩
  | x :: l, b, e, k, hk, h => ⟨h.1, h.2.snoc k hk⟩
theorem Chn.drop : ∀ {l : List Ky} {b e : Nat} (j : Nat), b < 4294967296 → j ≤ l.length → Chn b l e → Chn (on b (tot (l.take j) : Int)) (l.drop j) e
  | l, b, e, 0, hb, _, h => by
    rw [List.take_zero, List.drop_zero]
    have : on b (tot [] : Int) = b := on_zero hb
    rw [this]
    exact h
  | [], b, e, j + 1, hb, hj, h => by simp at hj
  | k :: l, b, e, j + 1, hb, hj, h => by
    have := h.2.drop j (on_lt b _) (by simpa using hj)
    rw [on_on] at this
    exact this
theorem Chn.at_ : ∀ {l : List Ky} {b e : Nat} (j : Nat) (k : Ky), b < 4294967296 → l[j]? = some k → Chn b l e → k.seq = on b (tot (l.take j) : Int)
  | [], _, _, j, _, _, h, _ => by simp at h
  | x :: l, b, e, 0, k, hb, hk, h => by
    simp at hk
    subst hk
    rw [h.1]
    exact (on_zero hb).symm
  | x :: l, b, e, j + 1, k, hb, hk, h => by
    have := h.2.at_ j k (on_lt b _) (by simpa using hk)
    rw [this, on_on]
    rfl
/-- How many of them end within d numbers. -/
def cnt : List Ky → Nat → Nat
  | [], _ => 0
  | k :: l, d => if k.len ≤ d then cnt l (d - k.len) + 1 else 0
theorem cnt_le : ∀ (l : List Ky) (d : Nat), cnt l d ≤ l.length
  | [], _ => Nat.le_refl _
  | k :: l, d => by
    unfold cnt
    split
    · have := cnt_le l (d - k.len)
      simpa using this
    · exact Nat.zero_le _
theorem lt_cnt : ∀ (l : List Ky) (d j : Nat), j < l.length → (j < cnt l d ↔ tot (l.take (j + 1)) ≤ d)
  | [], _, _, h => by simp at h
  | k :: l, d, 0, _ => by
    unfold cnt
    simp only [List.take_succ_cons, List.take_zero, tot]
    split <;> omega
  | k :: l, d, j + 1, h => by
    have ih := lt_cnt l (d - k.len) j (by simpa using h)
    unfold cnt
    rw [List.take_succ_cons]
    show _ ↔ k.len + tot (l.take (j + 1)) ≤ d
    split
    · rw [Nat.add_lt_add_iff_right, ih]
      omega
    · omega
theorem cnt_all : ∀ (l : List Ky) (d : Nat), tot l ≤ d → cnt l d = l.length
  | [], _, _ => rfl
  | k :: l, d, h => by
    have h : k.len + tot l ≤ d := h
    unfold cnt
    rw [if_pos (by omega), cnt_all l (d - k.len) (by omega)]
    rfl

/-- A queue (of type t) at block qb: its pieces, as a slice v, and its end. -/
structure Qu (t : TypeId) (base : Nat) (w : World) (qb : Nat) (v : Value) (l : List Pc) (en : Nat) : Prop where
  obj : w.heap[qb]? = some (.cells #[v, .int .u32 (en : Int)] t (0, 0))
  lo : base ≤ qb
  row : Row w base v l
  ok : ∀ p ∈ l, PO base w p
  num : en < 4294967296
section
variable {t : TypeId} {base : Nat} {w w' : World} {qb : Nat} {v : Value} {l : List Pc} {en : Nat}
theorem Qu.c0 (h : Qu t base w qb v l en) : w.cell? ⟨qb, 0, none⟩ = some v := by rw [cell_of_row w qb 0 _ t (0, 0) h.obj]; rfl
theorem Qu.c1 (h : Qu t base w qb v l en) : w.cell? ⟨qb, 1, none⟩ = some (.int .u32 (en : Int)) := by rw [cell_of_row w qb 1 _ t (0, 0) h.obj]; rfl
theorem Qu.f (h : Qu t base w qb v l en) (j : Nat) : w.frozen? ⟨qb, j, none⟩ = false := frozen_of h.obj j
theorem Qu.lt (h : Qu t base w qb v l en) : qb < w.heap.size := (Array.getElem?_eq_some_iff.1 h.obj).1
theorem Qu.ch (h : Qu t base w qb v l en) {m : Nat → Prop} (c : Ch w w' m) (h1 : ¬ m qb) (h2 : ∀ g, v.ownBlock = some g → ¬ m g) (h3 : ∀ p ∈ l, ∀ g, p.blk = some g → ¬ m g) : Qu t base w' qb v l en :=
  ⟨(c.block qb h.lt h1).trans h.obj, h.lo, h.row.ch c h2, fun p hp => (h.ok p hp).ch c (h3 p hp), h.num⟩
theorem Qu.below (h : Qu t base w qb v l en) (b : Below w.heap.size w w') : Qu t base w' qb v l en :=
  h.ch (Ch.of_below (fun _ => False) b) (fun e => e) (fun _ _ e => e) (fun _ _ _ _ e => e)
/-- A piece's data lie apart from the queue and from its row. -/
theorem Qu.apart (h : Qu t base w qb v l en) (ht : t ≠ 5) {p : Pc} (hp : p ∈ l) {g : Nat} (hg : p.blk = some g) : g ≠ qb ∧ v.ownBlock ≠ some g := by
  obtain ⟨cs, h1⟩ := (h.ok p hp).obj hg
  refine ⟨fun e => ?_, fun e => ?_⟩
  · subst e
    rw [h.obj] at h1
    injection h1 with h1
    injection h1 with _ h1
    exact ht h1
  · obtain ⟨cs', h2⟩ := h.row.obj e
    rw [h2] at h1
    injection h1 with h1
    injection h1 with _ h1
    exact absurd h1 (by decide)
theorem Qu.apart2 (h : Qu t base w qb v l en) (ht : t ≠ 52) : v.ownBlock ≠ some qb := fun e => by
  obtain ⟨cs, h1⟩ := h.row.obj e
  rw [h.obj] at h1
  injection h1 with h1
  injection h1 with _ h1
  exact ht h1
/-- The queue's first cell stored. -/
theorem Qu.store0 (h : Qu t base w qb v l en) (ht : t ≠ 5) (hp : t ≠ 52) {u : Value} {r : List Pc} (hr : Row w base u r) (ho : ∀ p ∈ r, PO base w p) : Qu t base (w.setCell ⟨qb, 0, none⟩ u) qb u r en := by
  have c : Ch w (w.setCell ⟨qb, 0, none⟩ u) (fun k => k = qb) := Ch.setCell (m := fun k => k = qb) (Ch.refl w _) (fun _ => rfl) u
  refine ⟨by simp [World.setCell, Array.getElem?_modify, h.obj], h.lo, hr.ch c (fun g hg e => ?_), fun p hp2 => (ho p hp2).ch c (fun g hg e => ?_), h.num⟩
  · obtain ⟨cs, h1⟩ := hr.obj hg
    rw [e, h.obj] at h1
    injection h1 with h1
    injection h1 with _ h1
    exact hp h1
  · obtain ⟨cs, h1⟩ := (ho p hp2).obj hg
    rw [e, h.obj] at h1
    injection h1 with h1
    injection h1 with _ h1
    exact ht h1
/-- .. and its second one. -/
theorem Qu.store1 (h : Qu t base w qb v l en) (ht : t ≠ 5) (hp : t ≠ 52) {e2 : Nat} (he : e2 < 4294967296) : Qu t base (w.setCell ⟨qb, 1, none⟩ (.int .u32 (e2 : Int))) qb v l e2 := by
  have c : Ch w (w.setCell ⟨qb, 1, none⟩ (.int .u32 (e2 : Int))) (fun k => k = qb) := Ch.setCell (m := fun k => k = qb) (Ch.refl w _) (fun _ => rfl) _
  exact ⟨by simp [World.setCell, Array.getElem?_modify, h.obj], h.lo, h.row.ch c (fun g hg e => h.apart2 hp (e ▸ hg)), fun p hp2 => (h.ok p hp2).ch c (fun g hg e => (h.apart ht hp2 hg).1 e), he⟩
end
/-- What stands at the queue's beginning. -/
def beg (l : List Pc) (en : Nat) : Nat := match l with | [] => en | p :: _ => p.seq
theorem Chn.beg {l : List Pc} {b e : Nat} (h : Chn b (l.map Pc.key) e) : beg l e = b := by
  cases l with
  | nil => exact h
  | cons p l => exact h.1
theorem beg_lt {t : TypeId} {base : Nat} {w : World} {qb : Nat} {v : Value} {l : List Pc} {en : Nat} (h : Qu t base w qb v l en) : beg l en < 4294967296 := by
  cases l with
  | nil => exact h.num
  | cons p l => exact (h.ok p (List.mem_cons_self ..)).seq

set_option maxHeartbeats 800000 in
theorem New_any (s : Nat) (w : World) (hs : s < 4294967296) : Calls Try.prog 55 #[.int .u32 (s : Int)] w fun e w' => ∃ qb, e = .returned (ptr qb) ∧ qb = w.heap.size ∧ (∀ base, base ≤ w.heap.size → Qu 97 base w' qb (.slice none 0 0) [] s) ∧ Below w.heap.size w w' := by
  go_enter Try.func55, Try.ntmps55
  go_wp2_with fail
  go_ret
  exact ⟨_, rfl, rfl, fun base hb => ⟨heap_alloc_new w _, hb, .inl ⟨rfl, rfl⟩, (fun p hp => by cases hp), hs⟩, below_a w _⟩

section
variable {base : Nat} {w : World} {qb : Nat} {v : Value} {l : List Pc} {en : Nat}
set_option maxHeartbeats 800000 in
theorem Len_any (h : Qu 97 base w qb v l en) : Calls Try.prog 69 #[ptr qb] w fun e w' => e = .returned (.int .i64 (l.length : Int)) ∧ w' = w := by
  have h0 := h.c0
  obtain ⟨A, c, rfl, _, _⟩ := h.row.slice
  clear h
  generalize l.length = n at *
  unfold ptr
  go_enter Try.func69, Try.ntmps69
  go_wp2_with fail
  go_ret
  exact ⟨rfl, rfl⟩
set_option maxHeartbeats 800000 in
theorem End_any (h : Qu 97 base w qb v l en) : Calls Try.prog 37 #[ptr qb] w fun e w' => e = .returned (.int .u32 (en : Int)) ∧ w' = w := by
  have h1 := h.c1
  clear h
  unfold ptr
  go_enter Try.func37, Try.ntmps37
  go_wp2_with fail
  go_ret
  exact ⟨rfl, rfl⟩
set_option maxHeartbeats 800000 in
theorem Begin_any (h : Qu 97 base w qb v l en) : Calls Try.prog 52 #[ptr qb] w fun e w' => e = .returned (.int .u32 (beg l en : Int)) ∧ w' = w := by
  have HL := Lib.hid (Len_any h)
  have HE := Lib.hid (End_any h)
  have h0 := h.c0
  unfold ptr at HL HE ⊢
  cases l with
  | nil =>
    clear h h0
    have hz : (([] : List Pc).length : Int) = 0 := rfl
    rw [hz] at HL
    unfold beg
    dsimp only
    go_enter Try.func52, Try.ntmps52
    go_wp2_with fail
    refine (HL.out).mono ?_
    rintro e w1 ⟨rfl, rfl⟩
    go_wp2_with fail
    refine (HE.out).mono ?_
    rintro e w1 ⟨rfl, rfl⟩
    go_wp2_with fail
    go_ret
    exact ⟨rfl, rfl⟩
  | cons p r =>
    unfold beg
    dsimp only
    rcases h.row with ⟨_, e⟩ | ⟨g, o, c, cs, rfl, _, _, h1, h2, _, h4⟩
    · cases e
    have hc := (range_pv.1 h4) 0 (by simp) 0 (.int .u32 (p.seq : Int)) rfl
    have hne : (((p :: r).length : Int) == 0) = false := by
      rw [beq_eq_false_iff_ne, List.length_cons]
      omega
    have hpos : 0 < (p :: r).length := by simp
    have hmx : (p :: r).length ≤ c := h1
    rw [Nat.zero_mul, Nat.add_zero] at hc
    clear h h1 h4 HE
    generalize (p :: r).length = n at *
    generalize p.seq = s at *
    go_enter Try.func52, Try.ntmps52
    go_wp2_with fail
    refine (HL.out).mono ?_
    rintro e w1 ⟨rfl, rfl⟩
    go_wp2_with fail
    go_ret
    exact ⟨rfl, rfl⟩
set_option maxHeartbeats 800000 in
theorem All_any (h : Qu 97 base w qb v l en) (hn : l.length ≤ 1099511627776) (hd : ∀ p ∈ l, p.dn ≤ 1099511627776) : Calls Try.prog 33 #[ptr qb] w (AllP w (l.map Pc.key)) := by
  have h0 := h.c0
  obtain ⟨A, c, rfl, h1, h2⟩ := h.row.slice
  have HA := Lib.hid (all_any A l.length c l w (h.row.ps (fun p hp => (h.ok p hp).pg)) hn hd)
  clear h hn hd
  generalize l.length = n at *
  generalize l.map Pc.key = ks at *
  unfold ptr
  go_enter Try.func33, Try.ntmps33
  go_wp2_with fail
  refine (HA.out).mono ?_
  rintro e w1 ⟨v1, rfl, h3, b3⟩
  go_wp2_with fail
  go_ret
  exact ⟨_, rfl, h3, b3⟩
end

end Go.Proofs.Ytnpkmkjenlhkiaa
