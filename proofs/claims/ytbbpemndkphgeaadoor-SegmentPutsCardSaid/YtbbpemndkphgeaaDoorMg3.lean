/- Contracts of what joins pieces: slices.Grow at nil, slices.Concat, octet.Join. Conditions: the pieces hold bytes, and all of them together are at most 2^40 bytes long.
The contract of the width that octet has. No condition.
The contract of octet.Put. Conditions: the slice holds bytes, at most 2^39 of them; the number is one of 64 bits.
octet.Put once more, what it answers lying in memory of the call's own. Conditions: the slice holds bytes, at most 2^39 of them; the number is one of 64 bits.
The contract of a head's bytes. Condition: the table of widths stands, and the head has ten numbers of 64 bits.
Out of the row's condition: the package's table holds how wide each number is. Condition: the listed variable reads as the program's text lays it.
Regions that draw their order, by an invariant: what holds behind whichever operations have come up. No condition.
The contracts of a field's number and of setting it. Conditions: the field's address leads to an option's cell; the number is one of 64 bits. -/
import Derived.Test.YtbbpemndkphgeaaDoorMg1
import Derived.Test.YtbbpemndkphgeaaDoorMg2
import Derived.Test.YtbbpemndkphgeaaDoorRows
import Derived.Lib.LaidTab
import Derived.LaidMore
import Derived.LaidByTextLater
import Derived.Deep.RegionHeld3
namespace Go.Proofs.YtbbpemndkphgeaaDoor
set_option linter.unusedSimpArgs false
set_option linter.unusedVariables false
open Go.RowKit

/-- The slice of slices '.slice A n c' holds the pieces ps in w. -/
def Parts (w : World) (A : Option Addr) (n c : Nat) (ps : List (List UInt8)) : Prop :=
  ps.length = n ∧ n ≤ c ∧ c ≤ maxLen ∧ (0 < n → ∃ b o, A = some ⟨b, o, none⟩ ∧ ∀ j, j < n → ∃ B m d, w.cell? ⟨b, o + j, none⟩ = some (.slice B m d) ∧ RB w B m d (ps.getD j []))

section
variable {w w' : World} {A : Option Addr} {n c : Nat} {ps : List (List UInt8)}
theorem Parts.len (h : Parts w A n c ps) : ps.length = n := h.1
theorem Parts.cap (h : Parts w A n c ps) : n ≤ c := h.2.1
theorem Parts.max (h : Parts w A n c ps) : c ≤ 9223372036854775807 := by have := h.2.2.1; unfold maxLen at this; omega
theorem Parts.at_ (h : Parts w A n c ps) {j : Nat} (hj : j < n) : ∃ b o B m d, A = some ⟨b, o, none⟩ ∧ w.cell? ⟨b, o + j, none⟩ = some (.slice B m d) ∧ RB w B m d (ps.getD j []) := by
  obtain ⟨b, o, e, hc⟩ := h.2.2.2 (by omega)
  obtain ⟨B, m, d, h1, h2⟩ := hc j hj
  exact ⟨b, o, B, m, d, e, h1, h2⟩
theorem Parts.below (h : Parts w A n c ps) (hb : Below w.heap.size w w') : Parts w' A n c ps :=
  ⟨h.1, h.2.1, h.2.2.1, fun hn => by
    obtain ⟨b, o, e, hc⟩ := h.2.2.2 hn
    refine ⟨b, o, e, fun j hj => ?_⟩
    obtain ⟨B, m, d, h1, h2⟩ := hc j hj
    exact ⟨B, m, d, (hb.cell (World.block_lt_of_cell? w _ h1)).trans h1, h2.below hb⟩⟩
end

/-- The first k pieces, joined; and how long that is. -/
def fl (ps : List (List UInt8)) (k : Nat) : List UInt8 := (ps.take k).flatten
def tl (ps : List (List UInt8)) (k : Nat) : Nat := (fl ps k).length
theorem fl_zero (ps : List (List UInt8)) : fl ps 0 = [] := rfl
theorem tl_zero (ps : List (List UInt8)) : tl ps 0 = 0 := rfl
theorem fl_step (ps : List (List UInt8)) (k : Nat) (h : k < ps.length) : fl ps (k + 1) = fl ps k ++ ps.getD k [] := by
  unfold fl
  rw [List.take_succ_eq_append_getElem h, List.flatten_append]
  simp [h]
theorem tl_step (ps : List (List UInt8)) (k : Nat) (h : k < ps.length) : tl ps (k + 1) = tl ps k + (ps.getD k []).length := by
  unfold tl
  rw [fl_step ps k h, List.length_append]
theorem fl_all (ps : List (List UInt8)) (k : Nat) (h : ps.length = k) : fl ps k = ps.flatten := by
  unfold fl
  rw [List.take_of_length_le (by omega)]
theorem tl_le (ps : List (List UInt8)) (k n : Nat) (h : k ≤ n) : tl ps k ≤ tl ps n := by
  unfold tl fl
  have e : ps.take n = ps.take k ++ (ps.take n).drop k := by
    have := List.take_append_drop k (ps.take n)
    rw [List.take_take, Nat.min_eq_left h] at this
    exact this.symm
  rw [e, List.flatten_append, List.length_append]
  omega

set_option maxHeartbeats 400000 in
theorem Grow_any (n : Nat) (w : World) (hn : n ≤ 1099511627776) :
    Calls Tryd.prog 60 #[.slice none 0 0, .int .i64 (n : Int)] w (Made w 5 0 []) := by
  rcases Nat.eq_zero_or_pos n with h0 | h0
  · subst h0
    go_enter Tryd.func60, Tryd.ntmps60
    go_wp2
    go_ret
    exact ⟨_, rfl, World.ownsRow_nil _ _ _ _, Below.refl _ _⟩
  · obtain ⟨i0, hi, hz0, hz1, hz2⟩ := info_parts infoByte
    have hrun := fun W => Lib.run_append_nil_zeros (P := Tryd.prog) W 24 3 24 5 i0 _ .i64 .i64 Tryd.underlying24 Tryd.underlying3 hi hz0 n h0 (by omega) (by omega) (by rw [hz2]; omega)
    have HR := Lib.hid hrun
    have hg := grownCap_ge w n 0 5
    have hm := grownCap_le_maxLen w n 0 5 (by unfold maxLen; omega)
    clear hrun hi hz0 hz1 hz2
    have hm' : grownCap w n 0 5 ≤ 9223372036854775807 := by unfold maxLen at hm; omega
    have HM := Lib.hid hm
    clear hm
    go_enter Tryd.func60, Tryd.ntmps60
    go_wp2_with (at_builtin; refine Lib.wpList_append_run _ rfl (.tmp 20) (.tmp 21) 24 3 rfl _ _ rfl rfl _ _ (HR.out _) ?_)
    go_ret
    have hown := World.ownsRow_made (base := w.heap.size) (e := 5) (size := 1) w.drew (Builtin.zeroCells (Value.int .u8 0).cells n ++ Builtin.zeroCells (Value.int .u8 0).cells (grownCap w n 0 5 - n)) (grownCap w n 0 5) (Nat.le_refl _) HM.out
      (by simp only [Array.size_append, size_zeroCells]; rw [show (Value.int IntKind.u8 0).cells.size = 1 from rfl]; omega)
    exact ⟨_, rfl, hown, (Below.refl _ _).drew.alloc (Nat.le_refl _) _⟩
set_option maxHeartbeats 800000 in
theorem Concat_any (A : Option Addr) (n c : Nat) (ps : List (List UInt8)) (w : World) (h : Parts w A n c ps) (ht : tl ps n ≤ 1099511627776) :
    Calls Tryd.prog 41 #[.slice A n c] w (Made w 5 (tl ps n) (fl ps n)) := by
  have hl := Lib.hid h.len
  have hn := h.max
  have hn' := h.cap
  go_enter Tryd.func41, Tryd.ntmps41
  go_wp2
  go_loop [3, 11] (fun x i => ∃ k : Nat, k ≤ n ∧ i = .int .i64 k ∧ x = .int .i64 (tl ps k : Nat)) (fun _ i => n - (intOf i).toNat)
  case atStart => exact ⟨0, Nat.zero_le _, rfl, rfl⟩
  case round =>
    obtain ⟨k, hk, rfl, rfl⟩ := hrel
    have hT := Nat.le_trans (tl_le ps k n hk) ht
    by_cases hlt : k < n
    · have hT' := Nat.le_trans (tl_le ps (k + 1) n hlt) ht
      have hS := tl_step ps k (by rw [hl.out]; exact hlt)
      obtain ⟨b, o, B, m, d, rfl, hc, hr⟩ := h.at_ hlt
      rw [hr.len] at hS
      rw [hS] at hT'
      have HS := Lib.hid hS
      clear hS h hr
      generalize tl ps k = x at *
      have hx : ¬ ((x : Int) + (m : Int) < 0) := by omega
      go_wp2
      go_round
      case rel => exact ⟨k + 1, by omega, by go_num, by rw [HS.out]; go_num⟩
      case measure => simp [intOf]; omega
    · obtain rfl : k = n := by omega
      go_wp2_with (go_at_call 60; refine (Grow_any _ _ (by omega)).mono ?_; rintro e w1 ⟨v1, rfl, hown1, hbel1⟩)
      go_loopw [6, 27] (fun v i wr => ∃ j : Nat, j ≤ k ∧ i = .int .i64 j ∧ wr.ownsRow w.heap.size 5 1 v (tl ps j) (bv (fl ps j)) ∧ Below w.heap.size w wr) (fun _ i _ => k - (intOf i).toNat)
      case atStart => exact ⟨0, Nat.zero_le _, rfl, hown1, hbel1⟩
      case round =>
        obtain ⟨j, hj, rfl, hown, hbel⟩ := hrel
        by_cases hjk : j < k
        · have hT' := Nat.le_trans (tl_le ps (j + 1) k hjk) ht
          have hS := tl_step ps j (by rw [hl.out]; exact hjk)
          have hF := fl_step ps j (by rw [hl.out]; exact hjk)
          obtain ⟨b, o, B, m, d, rfl, hc, hr⟩ := (h.below hbel).at_ hjk
          rw [hr.len] at hS
          rw [hS] at hT'
          have HS := Lib.hid hS
          have HF := Lib.hid hF
          have HB := Lib.hid hbel
          have hz := hbel.size
          clear hS hF h hbel1 hown1 hbel
          generalize tl ps j = x at *
          go_wp2_with (at_builtin; refine wpList_app _ rfl (.tmp 31) (.tmp 32) 24 5 rfl Tryd.underlying24 infoByte w.heap.size _ x (fl ps j) rfl hown _ m _ (ps.getD j []) rfl hr (by omega) (by omega) ?_; intro v' w2 hown' hg' _)
          have hb2 := below_grown HB.out hown hg'
          rw [← HF.out, ← HS.out] at hown'
          clear hg' hown HB hr
          go_wp2
          go_roundw
          case rel => exact ⟨j + 1, by omega, by go_num, hown', hb2⟩
          case measure => simp [intOf]; omega
        · obtain rfl : j = k := by omega
          go_wp2
          go_ret
          exact ⟨_, rfl, hown, hbel⟩

set_option maxHeartbeats 400000 in
theorem Join_any (A : Option Addr) (n c : Nat) (ps : List (List UInt8)) (w : World) (h : Parts w A n c ps) (ht : tl ps n ≤ 1099511627776) :
    Calls Tryd.prog 21 #[.slice A n c] w (Made w 5 (tl ps n) (fl ps n)) := by
  go_enter Tryd.func21, Tryd.ntmps21
  go_wp2_with (go_at_call 41; refine (Concat_any _ _ _ _ _ h ht).mono ?_; rintro e w1 ⟨v1, rfl, hown1, hbel1⟩)
  go_ret
  exact ⟨_, rfl, hown1, hbel1⟩
theorem Parts.one {w : World} {g : Nat} {B : Option Addr} {m d : Nat} {l : List UInt8} (hc : w.cell? ⟨g, 0, none⟩ = some (.slice B m d)) (hr : RB w B m d l) : Parts w (some ⟨g, 0, none⟩) 1 1 [l] := by
  refine ⟨rfl, Nat.le_refl _, by unfold maxLen; omega, fun _ => ⟨g, 0, rfl, fun j hj => ?_⟩⟩
  obtain rfl : j = 0 := by omega
  exact ⟨B, m, d, hc, hr⟩

theorem Join_one {g : Nat} {B : Option Addr} {m d : Nat} {l : List UInt8} {w : World} (hc : w.cell? ⟨g, 0, none⟩ = some (.slice B m d)) (hr : RB w B m d l) (hm : m ≤ 1099511627776) :
    Calls Tryd.prog 21 #[.slice (some ⟨g, 0, none⟩) 1 1] w (MadeRB w m l) := by
  have e1 : fl [l] 1 = l := by simp [fl]
  have e2 : tl [l] 1 = m := by rw [tl, e1, hr.len]
  refine (Join_any _ 1 1 [l] w (Parts.one hc hr) (by rw [e2]; exact hm)).mono ?_
  rintro e w' ⟨v, rfl, hown, hb⟩
  rw [e1, e2] at hown
  obtain ⟨A, c, rfl, h, _⟩ := RB.of_own hown
  exact ⟨A, c, rfl, h, hb⟩

theorem Join_two {A B : Option Addr} {n c m d : Nat} {l r : List UInt8} {w : World} {t : TypeId} {g : Nat} (hg : g = w.heap.size) (h : RB w A n c l) (h' : RB w B m d r) (hm : n + m ≤ 1099511627776) :
    Calls Tryd.prog 21 #[.slice (some ⟨g, 0, none⟩) 2 2] (w.alloc (.cells #[.slice A n c, .slice B m d] t)) (MadeRB (w.alloc (.cells #[.slice A n c, .slice B m d] t)) (n + m) (l ++ r)) := by
  subst hg
  have e1 : fl [l, r] 2 = l ++ r := by simp [fl]
  have e2 : tl [l, r] 2 = n + m := by rw [tl, e1, List.length_append, h.len, h'.len]
  refine (Join_any _ 2 2 [l, r] _ ⟨rfl, Nat.le_refl _, by unfold maxLen; omega, fun _ => ⟨_, 0, rfl, fun j hj => ?_⟩⟩ (by rw [e2]; exact hm)).mono ?_
  · rw [Nat.zero_add, cell_of_row _ w.heap.size j _ t (0, 0) (heap_alloc_new w _)]
    match j, hj with
    | 0, _ => exact ⟨A, n, c, rfl, h.alloc _⟩
    | 1, _ => exact ⟨B, m, d, rfl, h'.alloc _⟩
  · rintro e w' ⟨v, rfl, hown, hb⟩
    rw [e1, e2] at hown
    obtain ⟨A2, c2, rfl, h2, _⟩ := RB.of_own hown
    exact ⟨A2, c2, rfl, h2, hb⟩
theorem Join_three {A B C : Option Addr} {n c m d k f : Nat} {l r s : List UInt8} {w : World} {t : TypeId} {g : Nat} (hg : g = w.heap.size) (h : RB w A n c l) (h' : RB w B m d r) (h'' : RB w C k f s) (hm : n + m + k ≤ 1099511627776) :
    Calls Tryd.prog 21 #[.slice (some ⟨g, 0, none⟩) 3 3] (w.alloc (.cells #[.slice A n c, .slice B m d, .slice C k f] t)) (OwnMade (w.alloc (.cells #[.slice A n c, .slice B m d, .slice C k f] t)) (n + m + k) (l ++ r ++ s)) := by
  subst hg
  have e1 : fl [l, r, s] 3 = l ++ r ++ s := by simp [fl]
  have e2 : tl [l, r, s] 3 = n + m + k := by rw [tl, e1, List.length_append, List.length_append, h.len, h'.len, h''.len]
  refine (Join_any _ 3 3 [l, r, s] _ ⟨rfl, Nat.le_refl _, by unfold maxLen; omega, fun _ => ⟨_, 0, rfl, fun j hj => ?_⟩⟩ (by rw [e2]; exact hm)).mono ?_
  · rw [Nat.zero_add, cell_of_row _ w.heap.size j _ t (0, 0) (heap_alloc_new w _)]
    match j, hj with
    | 0, _ => exact ⟨A, n, c, rfl, h.alloc _⟩
    | 1, _ => exact ⟨B, m, d, rfl, h'.alloc _⟩
    | 2, _ => exact ⟨C, k, f, rfl, h''.alloc _⟩
  · rintro e w' ⟨v, rfl, hown, hb⟩
    rw [e1, e2] at hown
    obtain ⟨A2, c2, rfl, h2, _⟩ := RB.of_own hown
    exact ⟨A2, c2, rfl, h2, hown, hb⟩
end Go.Proofs.YtbbpemndkphgeaaDoor

namespace Go.Proofs.YtbbpemndkphgeaaDoor
set_option linter.unusedSimpArgs false
set_option linter.unusedVariables false
open Go.RowKit

theorem mm_wn (n : Int) : min (max n 1) 8 = (wn n : Int) := by
  unfold wn
  rw [Int.max_def, Int.min_def]
  split <;> split <;> (try split) <;> (try split) <;> omega

theorem width_any (n : Int) (w : World) : Calls Tryd.prog 58 #[.int .i64 n] w fun e w' => e = .returned (.int .i64 (wn n : Nat)) ∧ w = w' := by
  have H := Lib.hid (mm_wn n)
  go_enter Tryd.func58, Tryd.ntmps58
  go_wp2
  go_ret
  exact ⟨by rw [← H.out]; rfl, rfl⟩
end Go.Proofs.YtbbpemndkphgeaaDoor

namespace Go.Proofs.YtbbpemndkphgeaaDoor
set_option linter.unusedSimpArgs false
set_option linter.unusedVariables false
open Go.RowKit

/-- The digit in place j of eight behind i rounds. -/
def dig (a i j : Nat) : Nat := if 8 ≤ i + j then a / 256 ^ (7 - j) % 256 else 0
theorem dig_new (a m : Nat) (h : m < 8) : dig a (m + 1) (7 - m) = a / 2 ^ (8 * m) % 256 := by
  unfold dig
  rw [if_pos (by omega), show 7 - (7 - m) = m from by omega, show 2 ^ (8 * m) = 256 ^ m from by rw [Nat.pow_mul]]
theorem dig_old (a m j : Nat) (h : j ≠ 7 - m) (hj : j < 8) : dig a (m + 1) j = dig a m j := by
  unfold dig
  split <;> split <;> first | rfl | omega
theorem dig_end (a k j : Nat) (hk : k ≤ 8) (hj : j < k) : dig a 8 (8 - k + j) = ((be a k).getD j 0).toNat := by
  rw [be_at a k j hj, UInt8.toNat_ofNat']
  unfold dig
  rw [if_pos (by omega), show 7 - (8 - k + j) = k - 1 - j from by omega]

/-- Eight digits in the block g. -/
def Digits (a g m : Nat) (w : World) : Prop := (∀ j, j < 8 → w.cell? ⟨g, j, none⟩ = some (.int .u8 (dig a m j : Nat))) ∧ ∀ j, j < 8 → w.frozen? ⟨g, j, none⟩ = false
theorem Digits.start (a : Nat) (w : World) (t : TypeId) : Digits a w.heap.size 0 (w.alloc (.cells #[.int .u8 0, .int .u8 0, .int .u8 0, .int .u8 0, .int .u8 0, .int .u8 0, .int .u8 0, .int .u8 0] t)) := by
  refine ⟨fun j hj => ?_, fun j hj => ?_⟩
  · rw [cell_of_row _ w.heap.size j _ t (0, 0) (heap_alloc_new w _)]
    have e : dig a 0 j = 0 := by unfold dig; rw [if_neg (by omega)]
    rw [e]
    match j, hj with
    | 0, _ => rfl
    | 1, _ => rfl
    | 2, _ => rfl
    | 3, _ => rfl
    | 4, _ => rfl
    | 5, _ => rfl
    | 6, _ => rfl
    | 7, _ => rfl
  · exact frozen_of_row _ w.heap.size j _ t (heap_alloc_new w _)
theorem Digits.step {a g m : Nat} {w : World} (h : Digits a g m w) (hm : m < 8) : Digits a g (m + 1) (w.setCell ⟨g, 7 - m, none⟩ (.int .u8 ((a : Int) / 2 ^ (8 * m) % 256))) := by
  refine ⟨fun j hj => ?_, fun j hj => ?_⟩
  · by_cases e : j = 7 - m
    · subst e
      rw [World.cell?_setCell_same _ _ _ (h.1 (7 - m) (by omega)), dig_new a m hm]
      congr
    · rw [World.cell?_setCell_other _ _ _ _ (by intro x; injection x with _ x; exact e x.symm), h.1 j hj, dig_old a m j e hj]
  · rw [World.frozen?_setCell, h.2 j hj]

theorem arrOf : Tryd.prog.underlying 87 = some (.array (Tryd.prog.arrayLen 87) (Tryd.prog.elem 87)) := by kernel_rfl
theorem lenOf : Tryd.prog.arrayLen 87 = 8 := by kernel_rfl
theorem sizeOfArr (W : World) : (sizeOf (Tryd.prog.elem 87)).run Tryd.prog W = .ok 1 W := by kernel_rfl
theorem cutArray (k : Nat) (g : Nat) (h1 : 1 ≤ k) (h8 : k ≤ 8) (W : World) :
    (Instr.sliceAt 87 (.pointer (some ⟨g, 0, none⟩)) (some (.int .i64 (8 - (k : Int)))) none none).run Tryd.prog W = .ok (.slice (some ⟨g, 8 - k, none⟩) k k) W := by
  rw [run_sliceAt_array_l (P := Tryd.prog) W 87 ⟨g, 0, none⟩ arrOf .i64 (8 - (k : Int)) (by omega) (by rw [lenOf]; omega), sizeOfArr, lenOf]
  have e : (8 - (k : Int)).toNat = 8 - k := by omega
  simp only [Result.andThen, slicedAt, e]
  rw [if_neg (by omega), Addr.add_lit, show 8 - (8 - k) = k from by omega]
  simp

set_option maxHeartbeats 800000 in
theorem Put_any (A : Option Addr) (n c a : Nat) (k : Int) (l : List UInt8) (w : World) (h : RB w A n c l) (ha : a < 18446744073709551616) (ht : n ≤ 549755813888) :
    Calls Tryd.prog 39 #[.slice A n c, .int .u64 (a : Int), .int .i64 k] w (MadeRB w (n + wn k) (l ++ be a (wn k))) := by
  have hlo := wn_lo k
  have hhi := wn_hi k
  have hD := Digits.start a w 87
  go_enter Tryd.func39, Tryd.ntmps39
  go_wp2_with fail
  go_loopw [9] (fun i wr => ∃ m : Nat, m ≤ 8 ∧ i = .int .i64 m ∧ Digits a w.heap.size m wr ∧ Below w.heap.size w wr) (fun i _ => 8 - (intOf i).toNat)
  case atStart => exact ⟨0, Nat.zero_le _, rfl, hD, below_a _ _⟩
  case round =>
    obtain ⟨m, hm, rfl, hd, hb⟩ := hrel
    by_cases hlt : m < 8
    · have hc7 := hd.1 (7 - m) (by omega)
      have hf7 := hd.2 (7 - m) (by omega)
      have hd' := hd.step hlt
      clear h hD
      go_wp2_with fail
      go_roundw
      case rel => exact ⟨m + 1, by omega, by go_num, hd', hb.setCell (Nat.le_refl _) _⟩
      case measure => simp [intOf]; omega
    · obtain rfl : m = 8 := by omega
      have hcut := cutArray (wn k) w.heap.size hlo hhi
      have hr2 : RB wr (some ⟨w.heap.size, 8 - wn k, none⟩) (wn k) (wn k) (be a (wn k)) :=
        ⟨be_length a _, Nat.le_refl _, by unfold maxLen; omega, fun _ => ⟨_, _, rfl, fun j hj => by rw [hd.1 _ (by omega), dig_end a _ j hhi hj]⟩⟩
      have hr1 := h.below hb
      clear h hD hd
      go_wp2_with (first
        | (go_at_call 58; refine (width_any _ _).mono ?_; rintro e w' ⟨rfl, rfl⟩)
        | (go_at_call 21; refine (Join_two rfl hr1 hr2 (by omega)).mono ?_; rintro e w2 ⟨A2, c2, rfl, hr3, hb2⟩))
      go_ret
      exact ⟨_, _, rfl, hr3, hb.trans ((below_trans (below_a _ _) hb2).mono hb.size)⟩
end Go.Proofs.YtbbpemndkphgeaaDoor

namespace Go.Proofs.YtbbpemndkphgeaaDoor
set_option linter.unusedVariables false
set_option linter.unusedSimpArgs false
open Go.RowKit

theorem Join_two_own {A B : Option Addr} {n c m d : Nat} {l r : List UInt8} {w : World} {t : TypeId} {g : Nat} (hg : g = w.heap.size) (h : RB w A n c l) (h' : RB w B m d r) (hm : n + m ≤ 1099511627776) :
    Calls Tryd.prog 21 #[.slice (some ⟨g, 0, none⟩) 2 2] (w.alloc (.cells #[.slice A n c, .slice B m d] t)) (OwnMade (w.alloc (.cells #[.slice A n c, .slice B m d] t)) (n + m) (l ++ r)) := by
  subst hg
  have e1 : fl [l, r] 2 = l ++ r := by simp [fl]
  have e2 : tl [l, r] 2 = n + m := by rw [tl, e1, List.length_append, h.len, h'.len]
  refine (Join_any _ 2 2 [l, r] _ ⟨rfl, Nat.le_refl _, by unfold maxLen; omega, fun _ => ⟨_, 0, rfl, fun j hj => ?_⟩⟩ (by rw [e2]; exact hm)).mono ?_
  · rw [Nat.zero_add, cell_of_row _ w.heap.size j _ t (0, 0) (heap_alloc_new w _)]
    match j, hj with
    | 0, _ => exact ⟨A, n, c, rfl, h.alloc _⟩
    | 1, _ => exact ⟨B, m, d, rfl, h'.alloc _⟩
  · rintro e w' ⟨v, rfl, hown, hb⟩
    rw [e1, e2] at hown
    obtain ⟨A2, c2, rfl, h2, _⟩ := RB.of_own hown
    exact ⟨A2, c2, rfl, h2, hown, hb⟩

set_option maxHeartbeats 800000 in
theorem Put_own (A : Option Addr) (n c a : Nat) (k : Int) (l : List UInt8) (w : World) (h : RB w A n c l) (ha : a < 18446744073709551616) (ht : n ≤ 549755813888) :
    Calls Tryd.prog 39 #[.slice A n c, .int .u64 (a : Int), .int .i64 k] w (OwnMade w (n + wn k) (l ++ be a (wn k))) := by
  have hlo := wn_lo k
  have hhi := wn_hi k
  have hD := Digits.start a w 87
  go_enter Tryd.func39, Tryd.ntmps39
  go_wp2_with fail
  go_loopw [9] (fun i wr => ∃ m : Nat, m ≤ 8 ∧ i = .int .i64 m ∧ Digits a w.heap.size m wr ∧ Below w.heap.size w wr) (fun i _ => 8 - (intOf i).toNat)
  case atStart => exact ⟨0, Nat.zero_le _, rfl, hD, below_a _ _⟩
  case round =>
    obtain ⟨m, hm, rfl, hd, hb⟩ := hrel
    by_cases hlt : m < 8
    · have hc7 := hd.1 (7 - m) (by omega)
      have hf7 := hd.2 (7 - m) (by omega)
      have hd' := hd.step hlt
      clear h hD
      go_wp2_with fail
      go_roundw
      case rel => exact ⟨m + 1, by omega, by go_num, hd', hb.setCell (Nat.le_refl _) _⟩
      case measure => simp [intOf]; omega
    · obtain rfl : m = 8 := by omega
      have hcut := cutArray (wn k) w.heap.size hlo hhi
      have hr2 : RB wr (some ⟨w.heap.size, 8 - wn k, none⟩) (wn k) (wn k) (be a (wn k)) :=
        ⟨be_length a _, Nat.le_refl _, by unfold maxLen; omega, fun _ => ⟨_, _, rfl, fun j hj => by rw [hd.1 _ (by omega), dig_end a _ j hhi hj]⟩⟩
      have hr1 := h.below hb
      clear h hD hd
      go_wp2_with (first
        | (go_at_call 58; refine (width_any _ _).mono ?_; rintro e w' ⟨rfl, rfl⟩)
        | (go_at_call 21; refine (Join_two_own rfl hr1 hr2 (by omega)).mono ?_; rintro e w2 ⟨A2, c2, rfl, hr3, ho3, hb2⟩))
      go_ret
      exact ⟨_, _, rfl, hr3, own_mono ho3 (by have := hb.size; simp; omega), hb.trans ((below_trans (below_a _ _) hb2).mono hb.size)⟩

/-- What the call owns stays where other blocks are written. -/
theorem own_far {w w' : World} {base n : Nat} {e : TypeId} {size : Nat} {v : Value} {xs : List Value} {row : Option Nat} (h : w.ownsRow base e size v n xs) (hg : w.grownBy w' row) (hne : ∀ g, v.ownBlock = some g → row ≠ some g) : w'.ownsRow base e size v n xs := by
  refine ⟨h.1, ?_⟩
  rcases h.2 with hn | ⟨g, cap, cur, rfl, h1, h2, rest⟩
  · exact .inl hn
  · refine .inr ⟨g, cap, cur, rfl, h1, ?_, rest⟩
    rw [hg.block g (Array.getElem?_eq_some_iff.1 h2).1 (fun e => hne g rfl e.symm)]
    exact h2
/-- Rows of unlike elements lie in unlike blocks. -/
theorem own_apart {w : World} {base base' n m : Nat} {e e' : TypeId} {size size' : Nat} {v u : Value} {xs ys : List Value} (h : w.ownsRow base e size v n xs) (h' : w.ownsRow base' e' size' u m ys) (hne : e ≠ e') : ∀ g, v.ownBlock = some g → u.ownBlock ≠ some g := by
  intro g hg hu
  rcases h.2 with ⟨rfl, _⟩ | ⟨k, cap, cur, rfl, h1, h2, rest⟩
  · cases hg
  rcases h'.2 with ⟨rfl, _⟩ | ⟨k', cap', cur', rfl, h1', h2', rest'⟩
  · cases hu
  have e1 : k = g := by injection hg
  have e2 : k' = g := by injection hu
  subst e1 e2
  rw [h2] at h2'
  injection h2' with h3
  injection h3 with h4 h5
  exact hne h5
end Go.Proofs.YtbbpemndkphgeaaDoor

namespace Go.Proofs.YtbbpemndkphgeaaDoor
set_option linter.unusedVariables false
set_option linter.unusedSimpArgs false
open Go.RowKit

/-- The table of widths stands in w. -/
def Tab (w : World) : Prop := ∀ i, i < 10 → w.cell? ⟨0, i, none⟩ = some (.int .i64 (wd i : Int))
theorem Tab.below {w w' : World} (h : Tab w) (hb : Below w.heap.size w w') : Tab w' := fun i hi => (hb.cell (World.block_lt_of_cell? w _ (h i hi))).trans (h i hi)

set_option maxRecDepth 8000 in
set_option maxHeartbeats 1600000 in
theorem bytes_any (h : List Nat) (w : World) (hl : h.length = 10) (hb : ∀ x ∈ h, x < 18446744073709551616) (hT : Tab w) :
    Calls Tryd.prog 23 #[.agg (hv h).toArray] w (OwnMade w 19 (hby h 10)) := by
  have hi : (Tryd.prog.info? 46).map (·.size) = some (hv h).length := by rw [hv_length, hl]; kernel_rfl
  have HI := Lib.hid hi
  clear hi
  go_enter Tryd.func23, Tryd.ntmps23
  go_wp2_with (first
    | ((with_reducible refine wpList_here ?_); refine wpList_boxV (o := ⟨some 1, _, _, _, _, _⟩) rfl 46 (.tmp 0) rfl (hv h) rfl _ rfl ?_; intro w1 z1 b1 s1)
    | ((with_reducible refine wpList_here ?_); refine wpList_loadV (o := ⟨some 6, _, _, _, _, _⟩) rfl 46 (.tmp 1) rfl _ _ (hv h) rfl z1.range _ Tryd.underlying46 rfl HI.out ?_))
  have hT1 := hT.below b1
  go_loopw [3, 7] (fun v i wr => ∃ (k : Nat) (A : Option Addr) (c : Nat), k ≤ 10 ∧ i = .int .i64 k ∧ v = .slice A (off k) c ∧ RB wr A (off k) c (hby h k) ∧ wr.ownsRow w.heap.size 5 1 (.slice A (off k) c) (off k) (bv (hby h k)) ∧ Tab wr ∧ Below w.heap.size w wr) (fun _ i _ => 10 - (intOf i).toNat)
  case atStart => exact ⟨0, none, 0, Nat.zero_le _, rfl, rfl, RB.nil_ _, World.ownsRow_nil _ _ _ _, hT1, b1⟩
  case round =>
    obtain ⟨k, A, c, hk, rfl, rfl, hr, ho, ht, hb2⟩ := hrel
    clear z1 b1 s1 hT1
    by_cases hlt : k < 10
    · have hlt' : (k : Int) < 10 := by omega
      have hin := fun W => run_index_row W 46 44 10 (hv h).toArray (k : Int) _ Tryd.underlying46 szU64 aggU64 (by omega) hlt' (by rw [List.getElem?_toArray]; exact hv_at (l := h) (k := k) (by omega))
      have hc := ht k hlt
      have hx : h.getD k 0 < 18446744073709551616 := by
        refine hb _ ?_
        have : k < h.length := by omega
        simp [List.getD_eq_getElem?_getD, List.getElem?_eq_getElem this]
      have hoff := off_step hlt
      have HP := Lib.hid (fun W hW => Put_own A (off k) c (h.getD k 0) (wd k : Int) (hby h k) W hW hx (by omega))
      rw [wn_wd hlt, ← hoff.1, ← hby_step] at HP
      generalize h.getD k 0 = x at *
      clear hoff hx
      generalize hw : wd k = ww at *
      clear hw
      go_wp2_with fail
      refine (HP.out _ hr).mono ?_
      rintro e w3 ⟨A3, c3, rfl, r3, o3, b3⟩
      have t3 := ht.below b3
      have o4 := own_mono o3 hb2.size
      have b4 := below_trans hb2 b3
      clear hr ho ht hb2 b3 o3 hc
      go_wp2_with fail
      go_roundw
      case rel => exact ⟨k + 1, A3, c3, by omega, by go_num, rfl, r3, o4, t3, b4⟩
      case measure => simp [intOf]; omega
    · obtain rfl : k = 10 := by omega
      go_wp2_with fail
      go_ret
      exact ⟨A, c, rfl, hr, ho, hb2⟩
end Go.Proofs.YtbbpemndkphgeaaDoor

namespace Go.Proofs.YtbbpemndkphgeaaDoor
set_option linter.unusedVariables false
set_option linter.unusedSimpArgs false

def wz : List Int := [1, 1, 2, 2, 4, 4, 1, 2, 1, 1]
theorem wz_wd : ∀ i, i < 10 → wz.getD i 0 = (wd i : Int) := by decide +kernel
theorem gTab : Tryd.prog.globalNamed "ferrybridge/segment.widths" = some 0 := by kernel_rfl
theorem gTabType : (Tryd.prog.globals[0]?).map (·.type) = some 69 := by kernel_rfl
theorem tab_of {W : World} (h : laidMetH Tryd.prog [("ferrybridge/segment.widths", Rows.laid_ferrybridge_segment_widths)] W) : Tab W := by
  rw [MakeChecks.laidMetH_plain _ _ _ (by kernel_rfl)] at h
  have h' : laidMet Tryd.prog (("ferrybridge/segment.widths", Lib.tabData .i64 wz) :: []) W := h
  have hT := Lib.tabIs_of_head gTab gTabType Tryd.underlying69 Tryd.underlying3 (by kernel_rfl) (by kernel_rfl) h'
  intro i hi
  rw [hT.cell gTab i hi, wz_wd i hi]
end Go.Proofs.YtbbpemndkphgeaaDoor

namespace Go.Proofs.YtbbpemndkphgeaaDoor
set_option linter.unusedVariables false
set_option linter.unusedSimpArgs false

/-- Each operation waits only for such as stand ahead of it. -/
def ahead (ops : Array Oper) : Bool := (List.range ops.size).all fun i => (((ops[i]?).map fun o => o.after.all fun e => decide (e.on < i)).getD true)
theorem ahead_of {ops : Array Oper} (h : ahead ops = true) {i : Nat} {o : Oper} (ho : ops[i]? = some o) : ∀ e ∈ o.after, e.on < i := by
  intro e he
  have hi : i < ops.size := (Array.getElem?_eq_some_iff.1 ho).1
  have h1 := (List.all_eq_true.1 h) i (List.mem_range.2 hi)
  rw [ho] at h1
  simp only [Option.map_some, Option.getD_some] at h1
  have h2 := (Array.all_eq_true_iff_forall_mem.1 h1) e he
  simpa using h2
section
variable {P : Program} {ops : Array Oper} {Q : Exit → Act → World → Prop} {md : Region.Mode} {S : World → Prop}
theorem getD_of {listed : Array Bool} {i : Nat} (h : i < listed.size) (d : Bool) : listed.getD i d = listed[i] := by
  simp [h]
theorem ready_nil_all {listed : Array Bool} (hac : ahead ops = true) (hsz : listed.size = ops.size) (h : Region.ready md ops listed = []) : ∀ i, i < ops.size → listed.getD i true = true := by
  intro i
  induction i using Nat.strongRecOn with
  | _ i ih =>
    intro hi
    cases hc : listed.getD i true with
    | true => rfl
    | false =>
      have hm : i ∈ Region.ready md ops listed := mem_ready.2 ⟨hc, ops[i], Array.getElem?_eq_getElem hi, fun e he _ => by
        have hlt := ahead_of hac (Array.getElem?_eq_getElem hi) e he
        have h1 := ih e.on hlt (by omega)
        rw [getD_of (by omega)] at h1 ⊢
        exact h1⟩
      rw [h] at hm
      cases hm
/-- How many have not come up. -/
def rest (listed : Array Bool) : Nat := listed.toList.count false
theorem rest_set {listed : Array Bool} {i : Nat} (h : listed.getD i true = false) : rest (listed.setIfInBounds i true) + 1 = rest listed := by
  have hi : i < listed.size := by
    rcases Nat.lt_or_ge i listed.size with h' | h'
    · exact h'
    · simp [Array.getElem?_eq_none h'] at h
  rw [getD_of hi] at h
  unfold rest
  rw [Array.toList_setIfInBounds]
  have hi' : i < listed.toList.length := by simpa using hi
  rw [List.count_set hi']
  have : listed.toList[i] = false := by simpa using h
  rw [this]
  have hp : 0 < listed.toList.count false := by
    rw [List.count_pos_iff]
    rw [← this]
    exact List.getElem_mem hi'
  have e1 : (true == false) = false := rfl
  have e2 : (false == false) = true := rfl
  simp only [e1, e2, if_true, Bool.false_eq_true, if_false]
  omega
theorem rest_zero {listed : Array Bool} (h : rest listed = 0) (i : Nat) : listed.getD i true = true := by
  rcases Nat.lt_or_ge i listed.size with h' | h'
  · rw [getD_of h']
    cases hc : listed[i] with
    | true => rfl
    | false =>
      exfalso
      have : listed.toList.count false ≠ 0 := by
        have hp : 0 < listed.toList.count false := by
          rw [List.count_pos_iff, ← hc]
          simp
        omega
      exact this h
  · simp [Array.getElem?_eq_none h']

/-- Whatever order: what holds of those that have come up, and is carried on by each one that may come up, holds of all. -/
theorem wpAnyH_inv (I : Array Bool → Act → World → Prop) (hac : ahead ops = true) (hsz : ∀ listed a w, I listed a w → listed.size = ops.size ∧ S w)
    (hend : ∀ listed a w, I listed a w → (∀ i, i < ops.size → listed.getD i true = true) → Q .normal a w)
    (hstep : ∀ listed a w i o, I listed a w → listed.getD i true = false → ops[i]? = some o → (∀ e ∈ o.after, Region.binds md e = true → listed.getD e.on false = true) → wpOp P ops Q i (fun a' w' => I (listed.setIfInBounds i true) a' w') a w) :
    ∀ fuel listed a w, I listed a w → rest listed ≤ fuel → wpAnyH P md ops Q S fuel listed a w
  | 0, listed, a, w, h, hf => by
    have hall := rest_zero (show rest listed = 0 by omega)
    refine ⟨?_, hend _ _ _ h fun i _ => hall i⟩
    rw [List.eq_nil_iff_forall_not_mem]
    intro i hi
    have := (mem_ready.1 hi).1
    rw [hall i] at this
    cases this
  | fuel + 1, listed, a, w, h, hf => by
    refine ⟨fun hr => hend _ _ _ h (ready_nil_all hac (hsz _ _ _ h).1 hr), fun i hi => ?_⟩
    obtain ⟨hun, o, ho, hall⟩ := mem_ready.1 hi
    have hr := rest_set hun
    exact wpOp_mono (fun a' w' h' => ⟨(hsz _ _ _ h').2, wpAnyH_inv I hac hsz hend hstep fuel _ a' w' h' (by omega)⟩) (hstep _ _ _ _ _ h hun ho hall)
theorem wpOp_of {i : Nat} {o : Oper} {K : Act → World → Prop} {a : Act} {w : World} (hi : ops[i]? = some o) (hw : Region.wanted o (yielded ops a.tmps) = true) (h : o.wp P a w K Q) : wpOp P ops Q i K a w := by
  unfold wpOp
  simp only [hi, hw, if_true]
  exact .inl h
end
theorem held_take {P : Program} {ops : Array Oper} {Q : Exit → Act → World → Prop} {md : Region.Mode} {S : World → Prop} {i : Nat} {oi : Oper} {v : Value} {fuel : Nat} {listed : Array Bool} {a : Act} {w : World} (d : Option Tmp) (hi : ops[i]? = some oi) (hd : oi.dst = d)
    (hs : Region.noSelect ops = true) (hf : Region.free md ops listed i = true) (hr : (Region.ready md ops listed).contains i = true)
    (hQ : ∀ c a w, Q (.panic c) (a.put d v) w → Q (.panic c) a w) (hy : YieldsIf P ops S oi v a) (hS : S w)
    (h : wpAnyH P md ops Q S fuel (listed.setIfInBounds i true) (a.put d v) w) : wpAnyH P md ops Q S (fuel + 1) listed a w := by
  subst hd
  exact wpAnyH_take hi hs hf hr hQ hy hS h
end Go.Proofs.YtbbpemndkphgeaaDoor

namespace Go.Proofs.YtbbpemndkphgeaaDoor
set_option linter.unusedVariables false
set_option linter.unusedSimpArgs false
open Go.RowKit

/-- The type of the address of place s. -/
def pt (s : Nat) : TypeId := if s ≤ 2 then 97 else if s ≤ 4 then 98 else if isB s then 100 else 99
/-- A field: the cells of its value. -/
def fv (g : Nat) (f : Nat × Nat) : List Value := [.iface (pt f.1) (.pointer (some ⟨g, f.1, none⟩)), .int .i64 (f.2 : Int)]
theorem fv_one (g : Nat) (f : Nat × Nat) : ∀ u ∈ fv g f, u.oneCell' = true := by
  intro u hu
  simp only [fv, List.mem_cons, List.not_mem_nil, or_false] at hu
  rcases hu with rfl | rfl <;> rfl
theorem infoField : (Tryd.prog.info? 85).map (·.size) = some 2 := by kernel_rfl

theorem as_64 (v : Value) (W : World) : (Instr.typeAssert (.iface 97 v) 20 97 true).run Tryd.prog W = .ok (.tuple #[v, .bool true]) W := by kernel_rfl
theorem as_64_32 (v : Value) (W : World) : (Instr.typeAssert (.iface 98 v) 20 97 true).run Tryd.prog W = .ok (.tuple #[.pointer none, .bool false]) W := by kernel_rfl
theorem as_64_int (v : Value) (W : World) : (Instr.typeAssert (.iface 99 v) 20 97 true).run Tryd.prog W = .ok (.tuple #[.pointer none, .bool false]) W := by kernel_rfl
theorem as_64_bool (v : Value) (W : World) : (Instr.typeAssert (.iface 100 v) 20 97 true).run Tryd.prog W = .ok (.tuple #[.pointer none, .bool false]) W := by kernel_rfl
theorem as_32 (v : Value) (W : World) : (Instr.typeAssert (.iface 98 v) 20 98 true).run Tryd.prog W = .ok (.tuple #[v, .bool true]) W := by kernel_rfl
theorem as_32_int (v : Value) (W : World) : (Instr.typeAssert (.iface 99 v) 20 98 true).run Tryd.prog W = .ok (.tuple #[.pointer none, .bool false]) W := by kernel_rfl
theorem as_32_bool (v : Value) (W : World) : (Instr.typeAssert (.iface 100 v) 20 98 true).run Tryd.prog W = .ok (.tuple #[.pointer none, .bool false]) W := by kernel_rfl
theorem as_int (v : Value) (W : World) : (Instr.typeAssert (.iface 99 v) 20 99 true).run Tryd.prog W = .ok (.tuple #[v, .bool true]) W := by kernel_rfl
theorem as_int_bool (v : Value) (W : World) : (Instr.typeAssert (.iface 100 v) 20 99 true).run Tryd.prog W = .ok (.tuple #[.pointer none, .bool false]) W := by kernel_rfl
theorem as_bool (v : Value) (W : World) : (Instr.typeAssert (.iface 100 v) 20 100 true).run Tryd.prog W = .ok (.tuple #[v, .bool true]) W := by kernel_rfl

set_option maxHeartbeats 400000 in
theorem number_64 (g s wd x : Nat) (w : World) (hc : w.cell? ⟨g, s, none⟩ = some (.int .u64 (x : Int))) :
    Calls Tryd.prog 57 #[.agg #[.iface 97 (.pointer (some ⟨g, s, none⟩)), .int .i64 (wd : Int)]] w fun e w' => e = .returned (.int .u64 (x : Int)) ∧ Below w.heap.size w w' := by
  have h1 := as_64
  have hl := World.block_lt_of_cell? w _ hc
  go_enter Tryd.func57, Tryd.ntmps57
  go_wp2
  go_ret
  exact ⟨rfl, below_a w _⟩
set_option maxHeartbeats 400000 in
theorem number_32 (g s wd x : Nat) (w : World) (hx : x < 4294967296) (hc : w.cell? ⟨g, s, none⟩ = some (.int .u32 (x : Int))) :
    Calls Tryd.prog 57 #[.agg #[.iface 98 (.pointer (some ⟨g, s, none⟩)), .int .i64 (wd : Int)]] w fun e w' => e = .returned (.int .u64 (x : Int)) ∧ Below w.heap.size w w' := by
  have h1 := as_64_32
  have h2 := as_32
  have hl := World.block_lt_of_cell? w _ hc
  go_enter Tryd.func57, Tryd.ntmps57
  go_wp2
  go_ret
  exact ⟨rfl, below_a w _⟩
theorem wrap_u64 (x : Int) : IntKind.u64.wrap x = (u64 x : Nat) := by
  rw [u64_int]
  simp [IntKind.wrap, IntKind.bits, IntKind.signed]
set_option maxHeartbeats 400000 in
theorem number_int (g s wd : Nat) (x : Int) (w : World) (hx : isInt x) (hc : w.cell? ⟨g, s, none⟩ = some (.int .i64 x)) :
    Calls Tryd.prog 57 #[.agg #[.iface 99 (.pointer (some ⟨g, s, none⟩)), .int .i64 (wd : Int)]] w fun e w' => e = .returned (.int .u64 (u64 x : Nat)) ∧ Below w.heap.size w w' := by
  have h1 := as_64_int
  have h2 := as_32_int
  have h3 := as_int
  have hl := World.block_lt_of_cell? w _ hc
  have HW := Lib.hid (wrap_u64 x)
  go_enter Tryd.func57, Tryd.ntmps57
  go_wp2
  go_ret
  exact ⟨by rw [← HW.out]; rfl, below_a w _⟩
set_option maxHeartbeats 400000 in
theorem number_bool (g s wd : Nat) (x : Bool) (w : World) (hc : w.cell? ⟨g, s, none⟩ = some (.bool x)) :
    Calls Tryd.prog 57 #[.agg #[.iface 100 (.pointer (some ⟨g, s, none⟩)), .int .i64 (wd : Int)]] w fun e w' => e = .returned (.int .u64 (b2n x : Nat)) ∧ Below w.heap.size w w' := by
  have h1 := as_64_bool
  have h2 := as_32_bool
  have h3 := as_int_bool
  have h4 := as_bool
  have hl := World.block_lt_of_cell? w _ hc
  cases x
  all_goals
    go_enter Tryd.func57, Tryd.ntmps57
    go_wp2
    go_ret
    exact ⟨rfl, below_a w _⟩

/-- A field's number. -/
theorem number_any (g : Nat) (f : Nat × Nat) (o : Opt) (w : World) (h : Own w g o.vals) (ho : o.ok) (hs : spot f.1) :
    Calls Tryd.prog 57 #[.agg (fv g f).toArray] w fun e w' => e = .returned (.int .u64 (o.num f.1 : Nat)) ∧ Below w.heap.size w w' := by
  obtain ⟨s, wd⟩ := f
  have hc := (h s (by rw [o.vals_length]; unfold spot at hs; simp at hs; omega)).1
  rcases spot_or hs with h' | h' | h' | h' | h' | h' | h' | h' | h' | h' | h' | h' | h' <;> simp only at h' <;> subst h'
  · exact number_64 g 1 wd o.key w hc
  · exact number_64 g 2 wd o.mac w hc
  · exact number_32 g 3 wd o.token w ho.token hc
  · exact number_32 g 4 wd o.nonce w ho.nonce hc
  · exact number_int g 5 wd o.addr w ho.addr hc
  · exact number_int g 6 wd o.reason w ho.reason hc
  · exact number_bool g 7 wd o.backup w hc
  · exact number_bool g 8 wd o.hasAck w hc
  · exact number_int g 9 wd o.ack w ho.ack hc
  · exact number_bool g 10 wd o.hasMap w hc
  · exact number_int g 11 wd o.dsn w ho.dsn hc
  · exact number_int g 12 wd o.len w ho.len hc
  · exact number_bool g 13 wd o.fin w hc
end Go.Proofs.YtbbpemndkphgeaaDoor
