/- The contract of octet.Put. Conditions: the slice holds bytes, at most 2^39 of them; the number is one of 64 bits. -/
import Derived.Test.YtgkonmjchdpohaaDoorJoin
import Derived.Test.YtgkonmjchdpohaaDoorWidO
namespace Go.Proofs.YtgkonmjchdpohaaDoor
set_option linter.unusedVariables false
set_option linter.unusedSimpArgs false
open Go.RowKit

/-- The digit in place j of eight behind i rounds. -/
def dig (a i j : Nat) : Nat := if 8 ≤ i + j then a / 256 ^ (7 - j) % 256 else 0
theorem dig_new (a m : Nat) (h : m < 8) : dig a (m + 1) (7 - m) = a / 2 ^ (8 * m) % 256 := by
  unfold dig
  rw [if_pos (by omega), show 7 - (7 - m) = m from by omega, show 2 ^ (8 * m) = 256 ^ m from by rw [Nat.pow_mul]]
theorem dig_old (a m j : Nat) (h : j ≠ 7 - m) (hj : j < 8) : dig a (m + 1) j = dig a m j := by
  unfold dig
  split <;> split <;> first | rfl | omega
theorem dig_end (a k j : Nat) (hk : k ≤ 8) (hj : j < k) : dig a 8 (8 - k + j) = ((be a k).getD j 0).toNat := by
  rw [be_at a k j hj, UInt8.toNat_ofNat']
  unfold dig
  rw [if_pos (by omega), show 7 - (8 - k + j) = k - 1 - j from by omega]

/-- Eight digits in the block g. -/
def Digits (a g m : Nat) (w : World) : Prop := (∀ j, j < 8 → w.cell? ⟨g, j, none⟩ = some (.int .u8 (dig a m j : Nat))) ∧ ∀ j, j < 8 → w.frozen? ⟨g, j, none⟩ = false
theorem Digits.start (a : Nat) (w : World) (t : TypeId) : Digits a w.heap.size 0 (w.alloc (.cells #[.int .u8 0, .int .u8 0, .int .u8 0, .int .u8 0, .int .u8 0, .int .u8 0, .int .u8 0, .int .u8 0] t)) := by
  refine ⟨fun j hj => ?_, fun j hj => ?_⟩
  · rw [cell_of_row _ w.heap.size j _ t (0, 0) (heap_alloc_new w _)]
    have e : dig a 0 j = 0 := by unfold dig; rw [if_neg (by omega)]
    rw [e]
    match j, hj with
    | 0, _ => rfl
    | 1, _ => rfl
    | 2, _ => rfl
    | 3, _ => rfl
    | 4, _ => rfl
    | 5, _ => rfl
    | 6, _ => rfl
    | 7, _ => rfl
  · exact frozen_of_row _ w.heap.size j _ t (heap_alloc_new w _)
theorem Digits.step {a g m : Nat} {w : World} (h : Digits a g m w) (hm : m < 8) : Digits a g (m + 1) (w.setCell ⟨g, 7 - m, none⟩ (.int .u8 ((a : Int) / 2 ^ (8 * m) % 256))) := by
  refine ⟨fun j hj => ?_, fun j hj => ?_⟩
  · by_cases e : j = 7 - m
    · subst e
      rw [World.cell?_setCell_same _ _ _ (h.1 (7 - m) (by omega)), dig_new a m hm]
      congr
    · rw [World.cell?_setCell_other _ _ _ _ (by intro x; injection x with _ x; exact e x.symm), h.1 j hj, dig_old a m j e hj]
  · rw [World.frozen?_setCell, h.2 j hj]

theorem arrOf : Tryd.prog.underlying 103 = some (.array (Tryd.prog.arrayLen 103) (Tryd.prog.elem 103)) := by kernel_rfl
theorem lenOf : Tryd.prog.arrayLen 103 = 8 := by kernel_rfl
theorem sizeOfArr (W : World) : (sizeOf (Tryd.prog.elem 103)).run Tryd.prog W = .ok 1 W := by kernel_rfl
theorem cutArray (k : Nat) (g : Nat) (h1 : 1 ≤ k) (h8 : k ≤ 8) (W : World) :
    (Instr.sliceAt 103 (.pointer (some ⟨g, 0, none⟩)) (some (.int .i64 (8 - (k : Int)))) none none).run Tryd.prog W = .ok (.slice (some ⟨g, 8 - k, none⟩) k k) W := by
  rw [run_sliceAt_array_l (P := Tryd.prog) W 103 ⟨g, 0, none⟩ arrOf .i64 (8 - (k : Int)) (by omega) (by rw [lenOf]; omega), sizeOfArr, lenOf]
  have e : (8 - (k : Int)).toNat = 8 - k := by omega
  simp only [Result.andThen, slicedAt, e]
  rw [if_neg (by omega), Addr.add_lit, show 8 - (8 - k) = k from by omega]
  simp

set_option maxHeartbeats 800000 in
theorem Put_any (A : Option Addr) (n c a : Nat) (k : Int) (l : List UInt8) (w : World) (h : RB w A n c l) (ha : a < 18446744073709551616) (ht : n ≤ 549755813888) :
    Calls Tryd.prog 39 #[.slice A n c, .int .u64 (a : Int), .int .i64 k] w (MadeRB w (n + wn k) (l ++ be a (wn k))) := by
  have hlo := wn_lo k
  have hhi := wn_hi k
  have hD := Digits.start a w 103
  go_enter Tryd.func39, Tryd.ntmps39
  go_wp2_with fail
  go_loopw [9] (fun i wr => ∃ m : Nat, m ≤ 8 ∧ i = .int .i64 m ∧ Digits a w.heap.size m wr ∧ Below w.heap.size w wr) (fun i _ => 8 - (intOf i).toNat)
  case atStart => exact ⟨0, Nat.zero_le _, rfl, hD, below_a _ _⟩
  case round =>
    obtain ⟨m, hm, rfl, hd, hb⟩ := hrel
    by_cases hlt : m < 8
    · have hc7 := hd.1 (7 - m) (by omega)
      have hf7 := hd.2 (7 - m) (by omega)
      have hd' := hd.step hlt
      clear h hD
      go_wp2_with fail
      go_roundw
      case rel => exact ⟨m + 1, by omega, by go_num, hd', hb.setCell (Nat.le_refl _) _⟩
      case measure => simp [intOf]; omega
    · obtain rfl : m = 8 := by omega
      have hcut := cutArray (wn k) w.heap.size hlo hhi
      have hr2 : RB wr (some ⟨w.heap.size, 8 - wn k, none⟩) (wn k) (wn k) (be a (wn k)) :=
        ⟨be_length a _, Nat.le_refl _, by unfold maxLen; omega, fun _ => ⟨_, _, rfl, fun j hj => by rw [hd.1 _ (by omega), dig_end a _ j hhi hj]⟩⟩
      have hr1 := h.below hb
      clear h hD hd
      go_wp2_with (first
        | (go_at_call 46; refine (width_any _ _).mono ?_; rintro e w' ⟨rfl, rfl⟩)
        | (go_at_call 35; refine (Join_two rfl hr1 hr2 (by omega)).mono ?_; rintro e w2 ⟨A2, c2, rfl, hr3, hb2⟩))
      go_ret
      exact ⟨_, _, rfl, hr3, hb.trans ((below_trans (below_a _ _) hb2).mono hb.size)⟩
end Go.Proofs.YtgkonmjchdpohaaDoor
