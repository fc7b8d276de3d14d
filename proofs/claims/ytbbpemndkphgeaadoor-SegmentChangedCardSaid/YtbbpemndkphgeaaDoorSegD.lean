/- The contract of a head's bytes. Condition: the table of widths stands, and the head has ten numbers of 64 bits. -/
import Derived.Test.YtbbpemndkphgeaaDoorSegA
import Derived.Test.YtbbpemndkphgeaaDoorOptU
namespace Go.Proofs.YtbbpemndkphgeaaDoor
set_option linter.unusedVariables false
set_option linter.unusedSimpArgs false
open Go.RowKit

/-- The table of widths stands in w. -/
def Tab (w : World) : Prop := ∀ i, i < 10 → w.cell? ⟨0, i, none⟩ = some (.int .i64 (wd i : Int))
theorem Tab.below {w w' : World} (h : Tab w) (hb : Below w.heap.size w w') : Tab w' := fun i hi => (hb.cell (World.block_lt_of_cell? w _ (h i hi))).trans (h i hi)

set_option maxRecDepth 8000 in
set_option maxHeartbeats 1600000 in
theorem bytes_any (h : List Nat) (w : World) (hl : h.length = 10) (hb : ∀ x ∈ h, x < 18446744073709551616) (hT : Tab w) :
    Calls Tryd.prog 23 #[.agg (hv h).toArray] w (OwnMade w 19 (hby h 10)) := by
  have hi : (Tryd.prog.info? 46).map (·.size) = some (hv h).length := by rw [hv_length, hl]; kernel_rfl
  have HI := Lib.hid hi
  clear hi
  go_enter Tryd.func23, Tryd.ntmps23
  go_wp2_with (first
    | ((with_reducible refine wpList_here ?_); refine wpList_boxV (o := ⟨some 1, _, _, _, _, _⟩) rfl 46 (.tmp 0) rfl (hv h) rfl _ rfl ?_; intro w1 z1 b1 s1)
    | ((with_reducible refine wpList_here ?_); refine wpList_loadV (o := ⟨some 6, _, _, _, _, _⟩) rfl 46 (.tmp 1) rfl _ _ (hv h) rfl z1.range _ Tryd.underlying46 rfl HI.out ?_))
  have hT1 := hT.below b1
  go_loopw [3, 7] (fun v i wr => ∃ (k : Nat) (A : Option Addr) (c : Nat), k ≤ 10 ∧ i = .int .i64 k ∧ v = .slice A (off k) c ∧ RB wr A (off k) c (hby h k) ∧ wr.ownsRow w.heap.size 5 1 (.slice A (off k) c) (off k) (bv (hby h k)) ∧ Tab wr ∧ Below w.heap.size w wr) (fun _ i _ => 10 - (intOf i).toNat)
  case atStart => exact ⟨0, none, 0, Nat.zero_le _, rfl, rfl, RB.nil_ _, World.ownsRow_nil _ _ _ _, hT1, b1⟩
  case round =>
    obtain ⟨k, A, c, hk, rfl, rfl, hr, ho, ht, hb2⟩ := hrel
    clear z1 b1 s1 hT1
    by_cases hlt : k < 10
    · have hlt' : (k : Int) < 10 := by omega
      have hin := fun W => run_index_row W 46 44 10 (hv h).toArray (k : Int) _ Tryd.underlying46 szU64 aggU64 (by omega) hlt' (by rw [List.getElem?_toArray]; exact hv_at (l := h) (k := k) (by omega))
      have hc := ht k hlt
      have hx : h.getD k 0 < 18446744073709551616 := by
        refine hb _ ?_
        have : k < h.length := by omega
        simp [List.getD_eq_getElem?_getD, List.getElem?_eq_getElem this]
      have hoff := off_step hlt
      have HP := Lib.hid (fun W hW => Put_own A (off k) c (h.getD k 0) (wd k : Int) (hby h k) W hW hx (by omega))
      rw [wn_wd hlt, ← hoff.1, ← hby_step] at HP
      generalize h.getD k 0 = x at *
      clear hoff hx
      generalize hw : wd k = ww at *
      clear hw
      go_wp2_with fail
      refine (HP.out _ hr).mono ?_
      rintro e w3 ⟨A3, c3, rfl, r3, o3, b3⟩
      have t3 := ht.below b3
      have o4 := own_mono o3 hb2.size
      have b4 := below_trans hb2 b3
      clear hr ho ht hb2 b3 o3 hc
      go_wp2_with fail
      go_roundw
      case rel => exact ⟨k + 1, A3, c3, by omega, by go_num, rfl, r3, o4, t3, b4⟩
      case measure => simp [intOf]; omega
    · obtain rfl : k = 10 := by omega
      go_wp2_with fail
      go_ret
      exact ⟨A, c, rfl, hr, ho, hb2⟩
end Go.Proofs.YtbbpemndkphgeaaDoor
