/- A path manager that is not there; the example; the laws PathNil and PathTwice. No condition. -/
import Derived.Test.YtpkhalneclmoeaaPaH
namespace Go.Proofs.Ytpkhalneclmoeaa
set_option linter.unusedVariables false
set_option linter.unusedSimpArgs false
open Go.RowKit Go.Lib

def nilp : Value := .pointer none
theorem nilTell (x : Int) (w : World) : Calls Try.prog 10 #[nilp, .int .i64 x] w fun e w' => e = .returned (.int .i64 2) ∧ w' = w := by
  unfold nilp
  go_enter Try.func10, Try.ntmps10
  go_wp2_with fail
  go_ret
  exact ⟨rfl, rfl⟩
theorem nilUntell (x : Int) (w : World) : Calls Try.prog 12 #[nilp, .int .i64 x] w fun e w' => e = .returned (.int .i64 2) ∧ w' = w := by
  unfold nilp
  go_enter Try.func12, Try.ntmps12
  go_wp2_with fail
  go_ret
  exact ⟨rfl, rfl⟩
theorem nilTold (x : Int) (w : World) : Calls Try.prog 14 #[nilp, .int .i64 x] w fun e w' => (∃ v, e = .returned v) ∧ w' = w := by
  unfold nilp
  go_enter Try.func14, Try.ntmps14
  go_wp2_with fail
  go_end0
  exact ⟨⟨_, rfl⟩, rfl⟩
theorem nilUntold (x : Int) (w : World) : Calls Try.prog 17 #[nilp, .int .i64 x] w fun e w' => e = .returned (.slice none 0 0) ∧ Below w.heap.size w w' := by
  unfold nilp
  have HB := Lib.hid (below_a2 w (.cells #[.pointer none] 25) (.cells #[.int .i64 x] 3))
  have hc0 := cell_old2 w (.cells #[.int .i64 x] 3) (.pointer none) 25
  go_enter Try.func17, Try.ntmps17
  go_wp2_with fail
  go_ret
  exact ⟨rfl, HB.out⟩
theorem nilJoin (x y : Int) (w : World) : Calls Try.prog 19 #[nilp, .int .i64 x, .int .i64 y] w fun e w' => e = .returned (.int .i64 2) ∧ Below w.heap.size w w' := by
  unfold nilp
  have HB := Lib.hid (below_a w (.cells #[.int .i64 x, .int .i64 y] 45))
  go_enter Try.func19, Try.ntmps19
  go_wp2_with fail
  go_ret
  exact ⟨rfl, HB.out⟩
theorem nilGone (x y : Int) (w : World) : Calls Try.prog 21 #[nilp, .int .i64 x, .int .i64 y] w fun e w' => e = .returned (.bool false) ∧ Below w.heap.size w w' := by
  unfold nilp
  have HB := Lib.hid (below_a w (.cells #[.int .i64 x, .int .i64 y] 45))
  go_enter Try.func21, Try.ntmps21
  go_wp2_with fail
  go_ret
  exact ⟨rfl, HB.out⟩
theorem nilNext (w : World) : Calls Try.prog 23 #[nilp] w fun e w' => e = .returned (.tuple #[pr 0 0, .bool false]) ∧ Below w.heap.size w w' := by
  unfold nilp
  have HB := Lib.hid (below_a2 w (.cells #[.pointer none] 25) (.cells #[.int .i64 0, .int .i64 0] 45))
  have hc0 := cell_old2 w (.cells #[.int .i64 0, .int .i64 0] 45) (.pointer none) 25
  have R2 : Hid (Bk ((w.alloc (.cells #[.pointer none] 25)).alloc (.cells #[.int .i64 0, .int .i64 0] 45)) (w.heap.size + 1) 45 [.int .i64 0, .int .i64 0]) := Lib.hid (by
    have := Bk.new (w.alloc (.cells #[.pointer none] 25)) 45 [.int .i64 0, .int .i64 0]
    rw [show (w.alloc (.cells #[.pointer none] 25)).heap.size = w.heap.size + 1 from by simp] at this
    exact this)
  have q0 := (R2.out.cell 0).trans (show _ = some (Value.int .i64 0) from rfl)
  have q1 := (R2.out.cell 1).trans (show _ = some (Value.int .i64 0) from rfl)
  have z0 := R2.out.fz 0
  have z1 := R2.out.fz 1
  go_enter Try.func23, Try.ntmps23
  go_wp2_with fail
  refine bodyPost_ret (results_c1 rfl _ _ (w.heap.size + 1) [.int .i64 0, .int .i64 0] (.bool false) _ rfl rfl R2.out.range Try.underlying45 rfl infoPair2) rfl ⟨rfl, HB.out⟩
theorem nilOwn (w : World) : Calls Try.prog 26 #[nilp] w fun e w' => e = .returned (.slice none 0 0) ∧ w' = w := by
  unfold nilp
  go_enter Try.func26, Try.ntmps26
  go_wp2_with fail
  go_ret
  exact ⟨rfl, rfl⟩
theorem nilOther (w : World) : Calls Try.prog 27 #[nilp] w fun e w' => e = .returned (.slice none 0 0) ∧ w' = w := by
  unfold nilp
  go_enter Try.func27, Try.ntmps27
  go_wp2_with fail
  go_ret
  exact ⟨rfl, rfl⟩
theorem nilPairs (w : World) : Calls Try.prog 28 #[nilp] w fun e w' => e = .returned (.slice none 0 0) ∧ w' = w := by
  unfold nilp
  go_enter Try.func28, Try.ntmps28
  go_wp2_with fail
  go_ret
  exact ⟨rfl, rfl⟩

theorem wake_next : ((Pm.new 0 0 (most 2)).toldS 1).nxP = (0, 1) ∧ ((Pm.new 0 0 (most 2)).toldS 1).nxB = true := by decide +kernel

set_option maxHeartbeats 1600000 in
theorem wakes_any (W : World) : Calls Try.prog 7 #[] W (Yes W) := by
  have HN := Lib.hid (new_good (i := 0) (j := 0) (by decide) (by decide) 2 W)
  have HW := Lib.hid wake_next
  go_enter Try.func7, Try.ntmps7
  go_wp2_with fail
  refine (HN.out).mono ?_
  rintro e w1 ⟨pb, rfl, S1, b1, hg⟩
  have HT := Lib.hid (told_any S1 1)
  have HB1 := Lib.hid b1
  have HG := Lib.hid hg
  clear S1 b1 hg HN
  generalize Pm.new 0 0 (most 2) = p at *
  unfold ptr at *
  go_wp2_with fail
  refine (HT.out).mono ?_
  rintro e w2 ⟨⟨v, rfl⟩, S2, c2⟩
  have HX := Lib.hid (Next_any S2)
  rw [HW.out.1, HW.out.2] at HX
  have HB2 : Hid (Below W.heap.size W w2) := Lib.hid ((Ch.of_below (fun k => k = pb) HB1.out).then_ (c2.mono fun _ _ h => h) |>.below (fun k hk e => by have := HG.out; omega))
  clear S2 c2 HT
  unfold ptr pr at *
  go_wp2_with fail
  refine (HX.out).mono ?_
  rintro e w3 ⟨rfl, b3⟩
  have HB3 := Lib.hid (HB2.out.trans (b3.mono HB2.out.size))
  have HB4 := Lib.hid (HB3.out.trans ((below_a w3 (.cells #[.int .i64 0, .int .i64 1] 45)).mono HB3.out.size))
  clear b3 HX
  go_wp2_with fail
  go_ret
  exact ⟨rfl, HB4.out⟩

set_option maxHeartbeats 3200000 in
theorem Nil_any (x y : Int) (W : World) (hx : -9223372036854775808 ≤ x ∧ x ≤ 9223372036854775807) (hy : -9223372036854775808 ≤ y ∧ y ≤ 9223372036854775807) : Calls Try.prog 5 #[.int .i64 x, .int .i64 y] W (Held W) := by
  clear hx hy
  have HW := Lib.hid (wakes_any W)
  have H1 := Lib.hid (fun w => nilTold x w)
  have H2 := Lib.hid (fun w => nilNext w)
  have H3 := Lib.hid (fun w => nilTell x w)
  have H4 := Lib.hid (fun w => nilUntell x w)
  have H5 := Lib.hid (fun w => nilUntold x w)
  have H6 := Lib.hid (fun w => nilJoin x y w)
  have H7 := Lib.hid (fun w => nilGone x y w)
  have H8 := Lib.hid (fun w => nilOwn w)
  have H9 := Lib.hid (fun w => nilOther w)
  have H10 := Lib.hid (fun w => nilPairs w)
  unfold nilp pr at *
  go_enter Try.func5, Try.ntmps5
  go_wp2_with fail
  refine (HW.out).mono ?_
  rintro e w1 ⟨rfl, b1⟩
  have B1 := Lib.hid b1
  clear b1
  go_wp2_with fail
  refine (H1.out _).mono ?_
  rintro e w2 ⟨⟨v, rfl⟩, rfl⟩
  go_wp2_with fail
  refine (H2.out _).mono ?_
  rintro e w3 ⟨rfl, b3⟩
  have B3 := Lib.hid (B1.out.trans (b3.mono B1.out.size))
  have B3 := Lib.hid (B3.out.trans ((below_a w3 (.cells #[.int .i64 0, .int .i64 0] 45)).mono B3.out.size))
  clear b3
  go_wp2_with fail
  refine (H3.out _).mono ?_
  rintro e w4 ⟨rfl, rfl⟩
  go_wp2_with fail
  refine (H4.out _).mono ?_
  rintro e w4 ⟨rfl, rfl⟩
  go_wp2_with fail
  refine (H5.out _).mono ?_
  rintro e w5 ⟨rfl, b5⟩
  have B5 := Lib.hid (B3.out.trans (b5.mono B3.out.size))
  clear b5
  go_wp2_with fail
  refine (H6.out _).mono ?_
  rintro e w6 ⟨rfl, b6⟩
  have B6 := Lib.hid (B5.out.trans (b6.mono B5.out.size))
  clear b6
  go_wp2_with fail
  refine (H7.out _).mono ?_
  rintro e w7 ⟨rfl, b7⟩
  have B7 := Lib.hid (B6.out.trans (b7.mono B6.out.size))
  clear b7
  go_wp2_with fail
  refine (H8.out _).mono ?_
  rintro e w8 ⟨rfl, rfl⟩
  go_wp2_with fail
  refine (H9.out _).mono ?_
  rintro e w9 ⟨rfl, rfl⟩
  go_wp2_with fail
  refine (H10.out _).mono ?_
  rintro e w10 ⟨rfl, rfl⟩
  go_wp2_with fail
  go_ret
  exact ⟨rfl, B7.out⟩
end Go.Proofs.Ytpkhalneclmoeaa
