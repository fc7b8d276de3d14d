/- Contracts of key.front and key.put. Conditions: the digest has 32 bytes, four or eight of them are taken; the list holds at most a thousand numbers of 64 bits. -/
import Derived.Test.YtgkonmjchdpohaaDoorHmAa
import Derived.Test.YtgkonmjchdpohaaDoorTake
import Derived.Test.YtgkonmjchdpohaaDoorInt
import Derived.Test.YtgkonmjchdpohaaDoorPut
namespace Go.Proofs.YtgkonmjchdpohaaDoor
set_option linter.unusedVariables false
set_option linter.unusedSimpArgs false
open Go.RowKit

set_option maxRecDepth 8000 in
theorem front_any (D : List UInt8) (hD : D.length = 32) (K : Int) (k : Nat) (hk : (K = 4 ∧ k = 4) ∨ (K = 8 ∧ k = 8)) (w : World) :
    Calls Tryd.prog 23 #[.agg (bv D).toArray, .int .i64 K] w fun e w' => e = .returned (.int .u64 (num (D.take k) : Nat)) ∧ Below w.heap.size w w' := by
  have HL := Lib.hid hD
  have w4 : wn 4 = 4 := rfl
  have w8 : wn 8 = 8 := rfl
  have HT4 := Lib.hid (show (D.take 4).take (wn 4) = D.take 4 from by rw [w4, List.take_take]; rfl)
  have HT8 := Lib.hid (show (D.take 8).take (wn 8) = D.take 8 from by rw [w8, List.take_take]; rfl)
  have hn4 := num_lt (D.take 4)
  have hn8 := num_lt (D.take 8)
  clear hn4 hn8
  rcases hk with ⟨rfl, rfl⟩ | ⟨rfl, rfl⟩
  · go_enter Tryd.func23, Tryd.ntmps23
    go_wp2_with (first
      | ((with_reducible refine wpList_here ?_); refine wpList_boxA rfl 69 (.tmp 0) rfl D 32 HL.out rfl ?_; intro w1 z1 b1 s1; have r1 := (z1.rb HL.out (by omega)).take (k := 4) (by omega); clear z1)
      | (go_at_call 34; refine (Take_ok _ 4 32 4 (D.take 4) _ r1 (by rw [w4]; exact Nat.le_refl _) (by omega)).mono ?_; rw [HT4.out]; rintro e w2 ⟨A2, c2, rfl, r2, b2⟩))
    go_ret
    exact ⟨rfl, below_trans b1 b2⟩
  · go_enter Tryd.func23, Tryd.ntmps23
    go_wp2_with (first
      | ((with_reducible refine wpList_here ?_); refine wpList_boxA rfl 69 (.tmp 0) rfl D 32 HL.out rfl ?_; intro w1 z1 b1 s1; have r1 := (z1.rb HL.out (by omega)).take (k := 8) (by omega); clear z1)
      | (go_at_call 34; refine (Take_ok _ 8 32 8 (D.take 8) _ r1 (by rw [w8]; exact Nat.le_refl _) (by omega)).mono ?_; rw [HT8.out]; rintro e w2 ⟨A2, c2, rfl, r2, b2⟩))
    go_ret
    exact ⟨rfl, below_trans b1 b2⟩

/-- The first j of some numbers, in k bytes each, one behind the other. -/
def ub (us : List Nat) (k j : Nat) : List UInt8 := (us.take j).flatMap fun u => be u k
theorem ub_step (us : List Nat) (k j : Nat) (h : j < us.length) : ub us k (j + 1) = ub us k j ++ be (us.getD j 0) k := by
  unfold ub
  rw [List.take_succ_eq_append_getElem h, List.flatMap_append]
  simp [h]
theorem ub_length (us : List Nat) (k : Nat) : ∀ j, j ≤ us.length → (ub us k j).length = j * k := by
  intro j
  induction j with
  | zero => intro _; simp [ub]
  | succ j ih => intro h; rw [ub_step us k j (by omega), List.length_append, ih (by omega), be_length, Nat.succ_mul]

/-- Numbers that are none below 0, as a row of numbers has them. -/
def un (us : List Nat) : List Int := us.map Int.ofNat
theorem un_at (us : List Nat) (j : Nat) : (un us).getD j 0 = ((us.getD j 0 : Nat) : Int) := by
  simp only [un, List.getD_eq_getElem?_getD, List.getElem?_map]
  cases us[j]? <;> rfl
theorem un_length (us : List Nat) : (un us).length = us.length := by simp [un]

set_option maxHeartbeats 800000 in
theorem put_any (K : Int) (A : Option Addr) (n c : Nat) (us : List Nat) (w : World) (h : RI .u64 w A n c (un us)) (hu : ∀ j, us.getD j 0 < 18446744073709551616) (hn : n ≤ 1000) :
    Calls Tryd.prog 25 #[.int .i64 K, .slice A n c] w (MadeRB w (n * wn K) (ub us (wn K) n)) := by
  have hl : us.length = n := by rw [← un_length]; exact h.len
  have HL := Lib.hid hl
  have hhi := wn_hi K
  have hmx := h.max
  have hcp := h.cap
  clear hl
  go_enter Tryd.func25, Tryd.ntmps25
  go_wp2_with fail
  go_loopw [5, 10] (fun v i wr => ∃ j : Nat, j ≤ n ∧ i = .int .i64 j ∧ (∃ A1 c1, v = .slice A1 (j * wn K) c1 ∧ RB wr A1 (j * wn K) c1 (ub us (wn K) j)) ∧ Below w.heap.size w wr) (fun _ i _ => n - (intOf i).toNat)
  case atStart => exact ⟨0, Nat.zero_le _, rfl, ⟨none, 0, by rw [Nat.zero_mul], by rw [Nat.zero_mul]; exact RB.nil_ w⟩, Below.refl _ _⟩
  case round =>
    obtain ⟨j, hj, rfl, ⟨A1, c1, rfl, r1⟩, hb⟩ := hrel
    by_cases hlt : j < n
    · obtain ⟨b, o, rfl, hc0⟩ := h.at_ hlt
      have hc := (hb.cell (World.block_lt_of_cell? w _ hc0)).trans hc0
      rw [un_at] at hc
      have HS := Lib.hid (ub_step us (wn K) j (by rw [HL.out]; exact hlt))
      have HM := Lib.hid (Nat.succ_mul j (wn K))
      have ha := hu j
      have hjk : j * wn K ≤ 8000 := Nat.le_trans (Nat.mul_le_mul (show j ≤ 1000 by omega) hhi) (by decide)
      clear h hc0 hu
      generalize us.getD j 0 = a at *
      generalize j * wn K = q at *
      generalize ub us (wn K) j = x at *
      go_wp2_with (go_at_call 39; refine (Put_any A1 q c1 a K x wr r1 ha (by omega)).mono ?_; rintro e w2 ⟨A2, c2, rfl, r2, b2⟩)
      have hb2 := below_trans hb b2
      clear hb b2 r1 hc
      go_roundw
      case rel => exact ⟨j + 1, by omega, by go_num, ⟨A2, c2, by rw [show (j + 1) * wn K = q + wn K from HM.out], by rw [show (j + 1) * wn K = q + wn K from HM.out, HS.out]; exact r2⟩, hb2⟩
      case measure => simp [intOf]; omega
    · obtain rfl : j = n := by omega
      go_wp2_with fail
      go_ret
      exact ⟨A1, c1, rfl, r1, hb⟩
theorem ub_one (a k : Nat) : ub [a] k 1 = be a k := by simp [ub]
theorem ub_two (a b k : Nat) : ub [a, b] k 2 = be a k ++ be b k := by simp [ub]
/-- put, of one number, of two, in a new list. -/
theorem put_one {a k : Nat} {K : Int} {w : World} {t : TypeId} {g : Nat} (hg : g = w.heap.size) (ha : a < 18446744073709551616) (hk : wn K = k) :
    Calls Tryd.prog 25 #[.int .i64 K, .slice (some ⟨g, 0, none⟩) 1 1] (w.alloc (.cells #[.int .u64 (a : Int)] t)) (MadeRB w k (be a k)) := by
  subst hg hk
  have := put_any K _ 1 1 [a] _ (RI.lit .u64 w [(a : Int)] t (by unfold maxLen; simp)) (by intro j; match j with | 0 => exact ha | j + 1 => simp) (by omega)
  rw [ub_one, Nat.one_mul] at this
  exact this.mono fun e w' ⟨A, c, he, hr, hb⟩ => ⟨A, c, he, hr, below_trans (below_a w _) hb⟩
theorem put_two {a b k : Nat} {K : Int} {w : World} {t : TypeId} {g : Nat} (hg : g = w.heap.size) (ha : a < 18446744073709551616) (hb : b < 18446744073709551616) (hk : wn K = k) :
    Calls Tryd.prog 25 #[.int .i64 K, .slice (some ⟨g, 0, none⟩) 2 2] (w.alloc (.cells #[.int .u64 (a : Int), .int .u64 (b : Int)] t)) (MadeRB w (2 * k) (be a k ++ be b k)) := by
  subst hg hk
  have := put_any K _ 2 2 [a, b] _ (RI.lit .u64 w [(a : Int), (b : Int)] t (by unfold maxLen; simp)) (by intro j; match j with | 0 => exact ha | 1 => exact hb | j + 2 => simp) (by omega)
  rw [ub_two] at this
  exact this.mono fun e w' ⟨A, c, he, hr, hb⟩ => ⟨A, c, he, hr, below_trans (below_a w _) hb⟩
end Go.Proofs.YtgkonmjchdpohaaDoor
