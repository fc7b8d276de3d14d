/- The contracts of sum.Put and sum.Good. Condition: a slice that holds bytes, at most 2^38 of them. -/
import Derived.Test.YtbbpemndkphgeaaDoorPut
import Derived.Test.YtbbpemndkphgeaaDoorSumF
namespace Go.Proofs.YtbbpemndkphgeaaDoor
set_option linter.unusedVariables false
open Go.RowKit

/-- The sum of one piece, in a slice that the caller has just made. -/
theorem Of_one {A : Option Addr} {n c g : Nat} {l : List UInt8} {w : World} {t : TypeId} (hg : g = w.heap.size) (h : RB w A n c l) (hn : n ≤ 1099511627776) :
    Calls Tryd.prog 40 #[.slice (some ⟨g, 0, none⟩) 1 1] (w.alloc (.cells #[.slice A n c] t)) fun e w' => e = .returned (.int .u16 (of l : Nat)) ∧ w.alloc (.cells #[.slice A n c] t) = w' := by
  subst hg
  have e1 : fl [l] 1 = l := by simp [fl]
  have e2 : tl [l] 1 = n := by rw [tl, e1, h.len]
  have := Of_any _ 1 1 [l] _ (Parts.one (cell_new w _ t) (h.alloc (.cells #[.slice A n c] t))) (by rw [e2]; exact hn)
  rw [e1] at this
  exact this

theorem Put_sum (a : Nat) (w : World) (ha : a ≤ 65535) : Calls Tryd.prog 39 #[.slice none 0 0, .int .u64 (a : Int), .int .i64 2] w (MadeRB w 2 (be a 2)) :=
  Put_any none 0 0 a 2 [] w (RB.nil_ w) (by omega) (by decide)

set_option maxHeartbeats 800000 in
theorem SPut_any (A : Option Addr) (n c m : Nat) (l : List UInt8) (w : World) (h : RB w A n c l) (ht : n ≤ 274877906944) (hm : m = n + n % 2 + 2) :
    Calls Tryd.prog 20 #[.slice A n c] w (OwnMade w m (sput l)) := by
  have hl := h.len
  have hn := h.max
  have hn' := h.cap
  have HL := Lib.hid hl
  have hob := of_le l
  have HM := Lib.hid hm
  clear hl hm
  rcases Nat.mod_two_eq_zero_or_one n with h2 | h2
  · have HP : Hid (sput l = l ++ [] ++ be (of l) 2) := Lib.hid (by unfold sput pad; rw [HL.out, h2]; rfl)
    have hmod : (n : Int) % 2 = 0 := by omega
    have hmk : ∀ w, (Instr.makeSlice 24 (.int .i64 0) (.int .i64 0)).run Tryd.prog w = .ok (.slice (some ⟨w.heap.size, 0, none⟩) 0 0) (w.alloc (.cells #[] 5)) := fun _ => by kernel_rfl
    have H2 := Lib.hid h2
    clear h2
    go_enter Tryd.func20, Tryd.ntmps20
    go_wp2_with fail
    refine (Of_one (by simp) (h.alloc _) (by omega)).mono ?_
    rintro e w' ⟨rfl, rfl⟩
    generalize of l = s at *
    go_wp2_with fail
    refine (Put_sum s _ hob).mono ?_
    rintro e w2 ⟨A2, c2, rfl, r2, b2⟩
    have r1 : RB w2 (some ⟨w.heap.size, 0, none⟩) 0 0 [] := RB.zero w2 _ (Nat.zero_le _)
    have r0 := ((h.alloc _).alloc _).below b2
    have b02 := below_trans (below_a2 w _ _) b2
    clear h b2
    go_wp2_with fail
    refine (Join_three rfl r0 r1 r2 (by omega)).mono ?_
    rintro e w3 ⟨A3, c3, rfl, r3, o3, b3⟩
    go_wp2
    go_ret
    have e : n + 0 + 2 = m := by have := HM.out; have := H2.out; omega
    rw [← HP.out, e] at r3 o3
    exact ⟨A3, c3, by rw [← e]; rfl, r3, own_mono o3 (below_trans b02 (below_a w2 _)).size, below_trans (below_trans b02 (below_a w2 _)) b3⟩
  · have HP : Hid (sput l = l ++ [0] ++ be (of l) 2) := Lib.hid (by unfold sput pad; rw [HL.out, h2]; rfl)
    have hmod : (n : Int) % 2 = 1 := by omega
    have hmk : ∀ w, (Instr.makeSlice 24 (.int .i64 1) (.int .i64 1)).run Tryd.prog w = .ok (.slice (some ⟨w.heap.size, 0, none⟩) 1 1) (w.alloc (.cells #[.int .u8 0] 5)) := fun _ => by kernel_rfl
    have H2 := Lib.hid h2
    clear h2
    go_enter Tryd.func20, Tryd.ntmps20
    go_wp2_with fail
    refine (Of_one (by simp) (h.alloc _) (by omega)).mono ?_
    rintro e w' ⟨rfl, rfl⟩
    generalize of l = s at *
    go_wp2_with fail
    refine (Put_sum s _ hob).mono ?_
    rintro e w2 ⟨A2, c2, rfl, r2, b2⟩
    have r1 : RB w2 (some ⟨w.heap.size, 0, none⟩) 1 1 [0] := ((RB.lit1 w 0 0 _ rfl).alloc _).below b2
    have r0 := ((h.alloc _).alloc _).below b2
    have b02 := below_trans (below_a2 w _ _) b2
    clear h b2
    go_wp2_with fail
    refine (Join_three rfl r0 r1 r2 (by omega)).mono ?_
    rintro e w3 ⟨A3, c3, rfl, r3, o3, b3⟩
    go_wp2
    go_ret
    have e : n + 1 + 2 = m := by have := HM.out; have := H2.out; omega
    rw [← HP.out, e] at r3 o3
    exact ⟨A3, c3, by rw [← e]; rfl, r3, own_mono o3 (below_trans b02 (below_a w2 _)).size, below_trans (below_trans b02 (below_a w2 _)) b3⟩

set_option maxHeartbeats 800000 in
theorem Good_any (A : Option Addr) (n c : Nat) (l : List UInt8) (w : World) (h : RB w A n c l) (ht : n ≤ 1099511627776) :
    Calls Tryd.prog 27 #[.slice A n c] w fun e w' => e = .returned (.bool (sgood l)) ∧ Below w.heap.size w w' := by
  have hl := h.len
  have hn := h.max
  have hn' := h.cap
  have HL := Lib.hid hl
  clear hl
  by_cases h1 : n < 2
  · have HG : Hid (sgood l = false) := Lib.hid (by unfold sgood; rw [HL.out, decide_eq_false (by omega)]; rfl)
    have hd : ¬ (2 : Int) ≤ n := by omega
    go_enter Tryd.func27, Tryd.ntmps27
    go_wp2
    go_ret
    exact ⟨by rw [HG.out]; rfl, Below.refl _ _⟩
  · rcases Nat.mod_two_eq_zero_or_one n with h2 | h2
    · have HG : Hid (sgood l = decide (of l = 0)) := Lib.hid (by unfold sgood; rw [HL.out, decide_eq_true (by omega), decide_eq_true h2]; rfl)
      have hd : (2 : Int) ≤ n := by omega
      have hmod : (n : Int) % 2 = 0 := by omega
      clear h2
      go_enter Tryd.func27, Tryd.ntmps27
      go_wp2_with fail
      refine (Of_one (by simp) h (by omega)).mono ?_
      rintro e w' ⟨rfl, rfl⟩
      have hob := of_le l
      by_cases h0 : of l = 0
      · have HD : Hid (sgood l = true) := Lib.hid (by rw [HG.out]; exact decide_eq_true h0)
        rw [h0]
        clear h0 HG
        go_wp2
        go_ret
        exact ⟨by rw [HD.out]; rfl, below_a w _⟩
      · have HD : Hid (sgood l = false) := Lib.hid (by rw [HG.out]; exact decide_eq_false h0)
        generalize of l = s at *
        have hd0 : ((s : Int) == 0) = false := by rw [beq_eq_false_iff_ne]; omega
        clear h0 HG
        go_wp2
        go_ret
        exact ⟨by rw [HD.out]; rfl, below_a w _⟩
    · have HG : Hid (sgood l = false) := Lib.hid (by unfold sgood; rw [HL.out, decide_eq_true (by omega), decide_eq_false (by omega)]; rfl)
      have hd : (2 : Int) ≤ n := by omega
      have hmod : (n : Int) % 2 = 1 := by omega
      clear h2
      go_enter Tryd.func27, Tryd.ntmps27
      go_wp2
      go_ret
      exact ⟨by rw [HG.out]; rfl, Below.refl _ _⟩
end Go.Proofs.YtbbpemndkphgeaaDoor
