/- Contracts of what joins pieces: slices.Grow at nil, slices.Concat, octet.Join. Conditions: the pieces hold bytes, and all of them together are at most 2^40 bytes long. -/
import Derived.Test.YtgkonmjchdpohaaDoorBase
namespace Go.Proofs.YtgkonmjchdpohaaDoor
set_option linter.unusedVariables false
set_option linter.unusedSimpArgs false
open Go.RowKit

/-- The slice of slices '.slice A n c' holds the pieces ps in w. -/
def Parts (w : World) (A : Option Addr) (n c : Nat) (ps : List (List UInt8)) : Prop :=
  ps.length = n ∧ n ≤ c ∧ c ≤ maxLen ∧ (0 < n → ∃ b o, A = some ⟨b, o, none⟩ ∧ ∀ j, j < n → ∃ B m d, w.cell? ⟨b, o + j, none⟩ = some (.slice B m d) ∧ RB w B m d (ps.getD j []))

section
variable {w w' : World} {A : Option Addr} {n c : Nat} {ps : List (List UInt8)}
theorem Parts.len (h : Parts w A n c ps) : ps.length = n := h.1
theorem Parts.cap (h : Parts w A n c ps) : n ≤ c := h.2.1
theorem Parts.max (h : Parts w A n c ps) : c ≤ 9223372036854775807 := by have := h.2.2.1; unfold maxLen at this; omega
theorem Parts.at_ (h : Parts w A n c ps) {j : Nat} (hj : j < n) : ∃ b o B m d, A = some ⟨b, o, none⟩ ∧ w.cell? ⟨b, o + j, none⟩ = some (.slice B m d) ∧ RB w B m d (ps.getD j []) := by
  obtain ⟨b, o, e, hc⟩ := h.2.2.2 (by omega)
  obtain ⟨B, m, d, h1, h2⟩ := hc j hj
  exact ⟨b, o, B, m, d, e, h1, h2⟩
theorem Parts.below (h : Parts w A n c ps) (hb : Below w.heap.size w w') : Parts w' A n c ps :=
  ⟨h.1, h.2.1, h.2.2.1, fun hn => by
    obtain ⟨b, o, e, hc⟩ := h.2.2.2 hn
    refine ⟨b, o, e, fun j hj => ?_⟩
    obtain ⟨B, m, d, h1, h2⟩ := hc j hj
    exact ⟨B, m, d, (hb.cell (World.block_lt_of_cell? w _ h1)).trans h1, h2.below hb⟩⟩
end

/-- The first k pieces, joined; and how long that is. -/
def fl (ps : List (List UInt8)) (k : Nat) : List UInt8 := (ps.take k).flatten
def tl (ps : List (List UInt8)) (k : Nat) : Nat := (fl ps k).length
theorem fl_zero (ps : List (List UInt8)) : fl ps 0 = [] := rfl
theorem tl_zero (ps : List (List UInt8)) : tl ps 0 = 0 := rfl
theorem fl_step (ps : List (List UInt8)) (k : Nat) (h : k < ps.length) : fl ps (k + 1) = fl ps k ++ ps.getD k [] := by
  unfold fl
  rw [List.take_succ_eq_append_getElem h, List.flatten_append]
  simp [h]
theorem tl_step (ps : List (List UInt8)) (k : Nat) (h : k < ps.length) : tl ps (k + 1) = tl ps k + (ps.getD k []).length := by
  unfold tl
  rw [fl_step ps k h, List.length_append]
theorem fl_all (ps : List (List UInt8)) (k : Nat) (h : ps.length = k) : fl ps k = ps.flatten := by
  unfold fl
  rw [List.take_of_length_le (by omega)]
theorem tl_le (ps : List (List UInt8)) (k n : Nat) (h : k ≤ n) : tl ps k ≤ tl ps n := by
  unfold tl fl
  have e : ps.take n = ps.take k ++ (ps.take n).drop k := by
    have := List.take_append_drop k (ps.take n)
    rw [List.take_take, Nat.min_eq_left h] at this
    exact this.symm
  rw [e, List.flatten_append, List.length_append]
  omega

set_option maxHeartbeats 400000 in
theorem Grow_any (n : Nat) (w : World) (hn : n ≤ 1099511627776) :
    Calls Tryd.prog 63 #[.slice none 0 0, .int .i64 (n : Int)] w (Made w 5 0 []) := by
  rcases Nat.eq_zero_or_pos n with h0 | h0
  · subst h0
    go_enter Tryd.func63, Tryd.ntmps63
    go_wp2
    go_ret
    exact ⟨_, rfl, World.ownsRow_nil _ _ _ _, Below.refl _ _⟩
  · obtain ⟨i0, hi, hz0, hz1, hz2⟩ := info_parts infoByte
    have hrun := fun W => Lib.run_append_nil_zeros (P := Tryd.prog) W 71 3 71 5 i0 _ .i64 .i64 Tryd.underlying71 Tryd.underlying3 hi hz0 n h0 (by omega) (by omega) (by rw [hz2]; omega)
    have HR := Lib.hid hrun
    have hg := grownCap_ge w n 0 5
    have hm := grownCap_le_maxLen w n 0 5 (by unfold maxLen; omega)
    clear hrun hi hz0 hz1 hz2
    have hm' : grownCap w n 0 5 ≤ 9223372036854775807 := by unfold maxLen at hm; omega
    have HM := Lib.hid hm
    clear hm
    go_enter Tryd.func63, Tryd.ntmps63
    go_wp2_with (at_builtin; refine Lib.wpList_append_run _ rfl (.tmp 20) (.tmp 21) 71 3 rfl _ _ rfl rfl _ _ (HR.out _) ?_)
    go_ret
    have hown := World.ownsRow_made (base := w.heap.size) (e := 5) (size := 1) w.drew (Builtin.zeroCells (Value.int .u8 0).cells n ++ Builtin.zeroCells (Value.int .u8 0).cells (grownCap w n 0 5 - n)) (grownCap w n 0 5) (Nat.le_refl _) HM.out
      (by simp only [Array.size_append, size_zeroCells]; rw [show (Value.int IntKind.u8 0).cells.size = 1 from rfl]; omega)
    exact ⟨_, rfl, hown, (Below.refl _ _).drew.alloc (Nat.le_refl _) _⟩
set_option maxHeartbeats 800000 in
theorem Concat_any (A : Option Addr) (n c : Nat) (ps : List (List UInt8)) (w : World) (h : Parts w A n c ps) (ht : tl ps n ≤ 1099511627776) :
    Calls Tryd.prog 47 #[.slice A n c] w (Made w 5 (tl ps n) (fl ps n)) := by
  have hl := Lib.hid h.len
  have hn := h.max
  have hn' := h.cap
  go_enter Tryd.func47, Tryd.ntmps47
  go_wp2
  go_loop [3, 11] (fun x i => ∃ k : Nat, k ≤ n ∧ i = .int .i64 k ∧ x = .int .i64 (tl ps k : Nat)) (fun _ i => n - (intOf i).toNat)
  case atStart => exact ⟨0, Nat.zero_le _, rfl, rfl⟩
  case round =>
    obtain ⟨k, hk, rfl, rfl⟩ := hrel
    have hT := Nat.le_trans (tl_le ps k n hk) ht
    by_cases hlt : k < n
    · have hT' := Nat.le_trans (tl_le ps (k + 1) n hlt) ht
      have hS := tl_step ps k (by rw [hl.out]; exact hlt)
      obtain ⟨b, o, B, m, d, rfl, hc, hr⟩ := h.at_ hlt
      rw [hr.len] at hS
      rw [hS] at hT'
      have HS := Lib.hid hS
      clear hS h hr
      generalize tl ps k = x at *
      have hx : ¬ ((x : Int) + (m : Int) < 0) := by omega
      go_wp2
      go_round
      case rel => exact ⟨k + 1, by omega, by go_num, by rw [HS.out]; go_num⟩
      case measure => simp [intOf]; omega
    · obtain rfl : k = n := by omega
      go_wp2_with (go_at_call 63; refine (Grow_any _ _ (by omega)).mono ?_; rintro e w1 ⟨v1, rfl, hown1, hbel1⟩)
      go_loopw [6, 27] (fun v i wr => ∃ j : Nat, j ≤ k ∧ i = .int .i64 j ∧ wr.ownsRow w.heap.size 5 1 v (tl ps j) (bv (fl ps j)) ∧ Below w.heap.size w wr) (fun _ i _ => k - (intOf i).toNat)
      case atStart => exact ⟨0, Nat.zero_le _, rfl, hown1, hbel1⟩
      case round =>
        obtain ⟨j, hj, rfl, hown, hbel⟩ := hrel
        by_cases hjk : j < k
        · have hT' := Nat.le_trans (tl_le ps (j + 1) k hjk) ht
          have hS := tl_step ps j (by rw [hl.out]; exact hjk)
          have hF := fl_step ps j (by rw [hl.out]; exact hjk)
          obtain ⟨b, o, B, m, d, rfl, hc, hr⟩ := (h.below hbel).at_ hjk
          rw [hr.len] at hS
          rw [hS] at hT'
          have HS := Lib.hid hS
          have HF := Lib.hid hF
          have HB := Lib.hid hbel
          have hz := hbel.size
          clear hS hF h hbel1 hown1 hbel
          generalize tl ps j = x at *
          go_wp2_with (at_builtin; refine wpList_app _ rfl (.tmp 31) (.tmp 32) 71 5 rfl Tryd.underlying71 infoByte w.heap.size _ x (fl ps j) rfl hown _ m _ (ps.getD j []) rfl hr (by omega) (by omega) ?_; intro v' w2 hown' hg' _)
          have hb2 := below_grown HB.out hown hg'
          rw [← HF.out, ← HS.out] at hown'
          clear hg' hown HB hr
          go_wp2
          go_roundw
          case rel => exact ⟨j + 1, by omega, by go_num, hown', hb2⟩
          case measure => simp [intOf]; omega
        · obtain rfl : j = k := by omega
          go_wp2
          go_ret
          exact ⟨_, rfl, hown, hbel⟩

set_option maxHeartbeats 400000 in
theorem Join_any (A : Option Addr) (n c : Nat) (ps : List (List UInt8)) (w : World) (h : Parts w A n c ps) (ht : tl ps n ≤ 1099511627776) :
    Calls Tryd.prog 35 #[.slice A n c] w (Made w 5 (tl ps n) (fl ps n)) := by
  go_enter Tryd.func35, Tryd.ntmps35
  go_wp2_with (go_at_call 47; refine (Concat_any _ _ _ _ _ h ht).mono ?_; rintro e w1 ⟨v1, rfl, hown1, hbel1⟩)
  go_ret
  exact ⟨_, rfl, hown1, hbel1⟩
theorem Parts.one {w : World} {g : Nat} {B : Option Addr} {m d : Nat} {l : List UInt8} (hc : w.cell? ⟨g, 0, none⟩ = some (.slice B m d)) (hr : RB w B m d l) : Parts w (some ⟨g, 0, none⟩) 1 1 [l] := by
  refine ⟨rfl, Nat.le_refl _, by unfold maxLen; omega, fun _ => ⟨g, 0, rfl, fun j hj => ?_⟩⟩
  obtain rfl : j = 0 := by omega
  exact ⟨B, m, d, hc, hr⟩

theorem Join_one {g : Nat} {B : Option Addr} {m d : Nat} {l : List UInt8} {w : World} (hc : w.cell? ⟨g, 0, none⟩ = some (.slice B m d)) (hr : RB w B m d l) (hm : m ≤ 1099511627776) :
    Calls Tryd.prog 35 #[.slice (some ⟨g, 0, none⟩) 1 1] w (MadeRB w m l) := by
  have e1 : fl [l] 1 = l := by simp [fl]
  have e2 : tl [l] 1 = m := by rw [tl, e1, hr.len]
  refine (Join_any _ 1 1 [l] w (Parts.one hc hr) (by rw [e2]; exact hm)).mono ?_
  rintro e w' ⟨v, rfl, hown, hb⟩
  rw [e1, e2] at hown
  obtain ⟨A, c, rfl, h, _⟩ := RB.of_own hown
  exact ⟨A, c, rfl, h, hb⟩

theorem Join_two {A B : Option Addr} {n c m d : Nat} {l r : List UInt8} {w : World} {t : TypeId} {g : Nat} (hg : g = w.heap.size) (h : RB w A n c l) (h' : RB w B m d r) (hm : n + m ≤ 1099511627776) :
    Calls Tryd.prog 35 #[.slice (some ⟨g, 0, none⟩) 2 2] (w.alloc (.cells #[.slice A n c, .slice B m d] t)) (MadeRB (w.alloc (.cells #[.slice A n c, .slice B m d] t)) (n + m) (l ++ r)) := by
  subst hg
  have e1 : fl [l, r] 2 = l ++ r := by simp [fl]
  have e2 : tl [l, r] 2 = n + m := by rw [tl, e1, List.length_append, h.len, h'.len]
  refine (Join_any _ 2 2 [l, r] _ ⟨rfl, Nat.le_refl _, by unfold maxLen; omega, fun _ => ⟨_, 0, rfl, fun j hj => ?_⟩⟩ (by rw [e2]; exact hm)).mono ?_
  · rw [Nat.zero_add, cell_of_row _ w.heap.size j _ t (0, 0) (heap_alloc_new w _)]
    match j, hj with
    | 0, _ => exact ⟨A, n, c, rfl, h.alloc _⟩
    | 1, _ => exact ⟨B, m, d, rfl, h'.alloc _⟩
  · rintro e w' ⟨v, rfl, hown, hb⟩
    rw [e1, e2] at hown
    obtain ⟨A2, c2, rfl, h2, _⟩ := RB.of_own hown
    exact ⟨A2, c2, rfl, h2, hb⟩
theorem Join_three {A B C : Option Addr} {n c m d k f : Nat} {l r s : List UInt8} {w : World} {t : TypeId} {g : Nat} (hg : g = w.heap.size) (h : RB w A n c l) (h' : RB w B m d r) (h'' : RB w C k f s) (hm : n + m + k ≤ 1099511627776) :
    Calls Tryd.prog 35 #[.slice (some ⟨g, 0, none⟩) 3 3] (w.alloc (.cells #[.slice A n c, .slice B m d, .slice C k f] t)) (OwnMade (w.alloc (.cells #[.slice A n c, .slice B m d, .slice C k f] t)) (n + m + k) (l ++ r ++ s)) := by
  subst hg
  have e1 : fl [l, r, s] 3 = l ++ r ++ s := by simp [fl]
  have e2 : tl [l, r, s] 3 = n + m + k := by rw [tl, e1, List.length_append, List.length_append, h.len, h'.len, h''.len]
  refine (Join_any _ 3 3 [l, r, s] _ ⟨rfl, Nat.le_refl _, by unfold maxLen; omega, fun _ => ⟨_, 0, rfl, fun j hj => ?_⟩⟩ (by rw [e2]; exact hm)).mono ?_
  · rw [Nat.zero_add, cell_of_row _ w.heap.size j _ t (0, 0) (heap_alloc_new w _)]
    match j, hj with
    | 0, _ => exact ⟨A, n, c, rfl, h.alloc _⟩
    | 1, _ => exact ⟨B, m, d, rfl, h'.alloc _⟩
    | 2, _ => exact ⟨C, k, f, rfl, h''.alloc _⟩
  · rintro e w' ⟨v, rfl, hown, hb⟩
    rw [e1, e2] at hown
    obtain ⟨A2, c2, rfl, h2, _⟩ := RB.of_own hown
    exact ⟨A2, c2, rfl, h2, hown, hb⟩
end Go.Proofs.YtgkonmjchdpohaaDoor
