/- The estimate that is not there; the chapter's example; the laws RttNil and RttSame. Conditions: the numbers are of their kinds. -/
import Derived.Test.YtlpndfmokebflaaRttC
namespace Go.Proofs.Ytlpndfmokebflaa
set_option linter.unusedVariables false
set_option linter.unusedSimpArgs false
open Go.RowKit Go.Lib

theorem nSample_any (t : Int) (w : World) : Calls Try.prog 9 #[.pointer none, .int .i64 t] w fun e w' => e = .returned (.tuple #[]) ∧ Below w.heap.size w w' := by
  go_enter Try.func9, Try.ntmps9
  go_wp2_with fail
  refine bodyPost_ret (results_none rfl _ _ _) rfl ?_
  exact ⟨rfl, Below.refl _ _⟩
theorem nBack_any (w : World) : Calls Try.prog 11 #[.pointer none] w fun e w' => e = .returned (.tuple #[]) ∧ Below w.heap.size w w' := by
  go_enter Try.func11, Try.ntmps11
  go_wp2_with fail
  go_end0
  exact ⟨rfl, Below.refl _ _⟩
theorem nFresh_any (w : World) : Calls Try.prog 12 #[.pointer none] w fun e w' => e = .returned (.tuple #[]) ∧ Below w.heap.size w w' := by
  go_enter Try.func12, Try.ntmps12
  go_wp2_with fail
  go_end0
  exact ⟨rfl, Below.refl _ _⟩
theorem nWait_any (w : World) : Calls Try.prog 13 #[.pointer none] w fun e w' => e = .returned (.int .i64 4) ∧ Below w.heap.size w w' := by
  go_enter Try.func13, Try.ntmps13
  go_wp2_with fail
  go_ret
  exact ⟨rfl, Below.refl _ _⟩
theorem nSmooth_any (w : World) : Calls Try.prog 15 #[.pointer none] w fun e w' => e = .returned (.int .i64 32) ∧ Below w.heap.size w w' := by
  go_enter Try.func15, Try.ntmps15
  go_wp2_with fail
  go_ret
  exact ⟨rfl, Below.refl _ _⟩

theorem ex_wt : (Es.zero.smp 2).wt = 6 := by decide
/-- What a call leaves that changes an estimate of newer memory alone. -/
theorem below_ch {W w w' : World} {b : Nat} (h : Below W.heap.size W w) (c : Ch w w' (fun k => k = b)) (hb : W.heap.size ≤ b) : Below W.heap.size W w' :=
  ((Ch.of_below (fun k => k = b) h).then_ c).below fun x hx e => by omega

set_option maxHeartbeats 1600000 in
theorem wakes_any (w : World) : Calls Try.prog 8 #[] w (Held w) := by
  have R0 := Rt.new 26 w
  have B0 := Lib.hid (below_a w (.cells #[.bool false, .int .i64 0, .int .i64 0, .int .i64 0] 26))
  have HS := Lib.hid (Sample_any R0 Ok_zero 2)
  have HW := Lib.hid (fun (w1 : World) (R1 : Rt 26 w1 w.heap.size (Es.zero.smp 2)) => Wait_any R1 (Ok_smp Ok_zero 2))
  rw [ex_wt] at HW
  clear R0
  generalize Es.zero.smp 2 = E at *
  unfold ptr at *
  go_enter Try.func8, Try.ntmps8
  go_wp2_with fail
  refine (HS.out).mono ?_
  rintro e w1 ⟨rfl, R1, C1⟩
  have B1 := Lib.hid (below_ch B0.out C1 (Nat.le_refl _))
  have HW1 := Lib.hid (HW.out w1 R1)
  clear C1 R1 HW HS B0
  go_wp2_with fail
  refine (HW1.out).mono ?_
  rintro e w2 ⟨rfl, b2⟩
  have B2 := Lib.hid (B1.out.trans (b2.mono B1.out.size))
  clear b2
  go_wp2_with fail
  go_ret
  exact ⟨rfl, B2.out⟩

set_option maxHeartbeats 1600000 in
theorem Nil_any (n : Int) (W : World) (hn : isI n) : Calls Try.prog 6 #[.int .i64 n] W (Held W) := by
  have HW := Lib.hid (wakes_any W)
  have HA := Lib.hid (fun w => nSample_any n w)
  have HB := Lib.hid (fun w => nBack_any w)
  have HF := Lib.hid (fun w => nFresh_any w)
  have HX := Lib.hid (fun w => nWait_any w)
  have HY := Lib.hid (fun w => nSmooth_any w)
  clear hn
  go_enter Try.func6, Try.ntmps6
  go_wp2_with fail
  refine (HW.out).mono ?_
  rintro e w1 ⟨rfl, b1⟩
  have B1 := Lib.hid b1
  clear b1
  go_wp2_with fail
  refine (HA.out _).mono ?_
  rintro e w2 ⟨rfl, b2⟩
  have B2 := Lib.hid (B1.out.trans (b2.mono B1.out.size))
  clear b2
  go_wp2_with fail
  refine (HB.out _).mono ?_
  rintro e w3 ⟨rfl, b3⟩
  have B3 := Lib.hid (B2.out.trans (b3.mono B2.out.size))
  clear b3
  go_wp2_with fail
  refine (HF.out _).mono ?_
  rintro e w4 ⟨rfl, b4⟩
  have B4 := Lib.hid (B3.out.trans (b4.mono B3.out.size))
  clear b4
  go_wp2_with fail
  refine (HX.out _).mono ?_
  rintro e w5 ⟨rfl, b5⟩
  have B5 := Lib.hid (B4.out.trans (b5.mono B4.out.size))
  clear b5
  go_wp2_with fail
  refine (HY.out _).mono ?_
  rintro e w6 ⟨rfl, b6⟩
  have B6 := Lib.hid (B5.out.trans (b6.mono B5.out.size))
  clear b6
  go_wp2_with fail
  go_ret
  exact ⟨rfl, B6.out⟩

/-- An estimate of which q samples were all t. -/
def Sam (t : Int) (q : Nat) (E : Es) : Prop := E.Ok ∧ E.d = 0 ∧ ((q = 0 ∧ E.has = false) ∨ (0 < q ∧ E.has = true ∧ E.s = 8 * t))
theorem sam_zero (t : Int) : Sam t 0 Es.zero := ⟨Ok_zero, rfl, .inl ⟨rfl, rfl⟩⟩
theorem sam_next {t : Int} {q : Nat} {E : Es} (h : Sam t q E) (h0 : 0 ≤ t) (h1 : t ≤ 1000) : Sam t (q + 1) (E.smp t) := by
  refine ⟨Ok_smp h.1 t, by rw [smp_d]; exact h.2.1, .inr ⟨by omega, smp_has E t, ?_⟩⟩
  have h8 := td8 h.1.s0
  unfold Es.smp
  rw [held_of h0 h1]
  rcases h.2.2 with ⟨_, he⟩ | ⟨_, he, hs⟩
  · rw [if_neg (by rw [he]; decide)]
    dsimp only
    omega
  · rw [if_pos he]
    dsimp only
    omega
theorem sam_end {t : Int} {q : Nat} {E : Es} (h : Sam t q E) (hq : 0 < q) : E.told = 8 * t ∧ min t 16 ≤ E.wt := by
  rcases h.2.2 with ⟨hc, _⟩ | ⟨_, he, hs⟩
  · omega
  · have h8 := td8 h.1.s0
    refine ⟨by unfold Es.told; rw [if_pos he, hs], ?_⟩
    unfold Es.wt Es.one
    rw [h.2.1, if_pos he, h8, hs]
    show min t 16 ≤ min _ 16
    omega

set_option maxHeartbeats 1600000 in
theorem Same_any (n m : Nat) (W : World) (hn : n < 256) (hm : m < 256) : Calls Try.prog 5 #[.int .u8 (n : Int), .int .u8 (m : Int)] W (Held W) := by
  have HW := Lib.hid (wakes_any W)
  have hr1 : (n : Int).tmod 15 = ((n % 15 : Nat) : Int) := rfl
  have hr2 : (m : Int).tmod 50 = ((m % 50 : Nat) : Int) := rfl
  have ht : n % 15 < 15 := Nat.mod_lt _ (by decide)
  have hk : m % 50 < 50 := Nat.mod_lt _ (by decide)
  generalize n % 15 = t at *
  generalize m % 50 = k at *
  go_enter Try.func5, Try.ntmps5
  go_wp2_with fail
  refine (HW.out).mono ?_
  rintro e w1 ⟨rfl, b1⟩
  have B1 := Lib.hid b1
  clear b1
  go_wp2_with fail
  have R0 := Lib.hid (Rt.new 26 w1)
  have B2 := Lib.hid (B1.out.alloc B1.out.size (.cells #[.bool false, .int .i64 0, .int .i64 0, .int .i64 0] 26))
  have HG := Lib.hid B1.out.size
  clear hr1 hr2 HW B1
  generalize w1.heap.size = g at *
  generalize w1.alloc (.cells #[.bool false, .int .i64 0, .int .i64 0, .int .i64 0] 26) = w2 at *
  go_loopw [18] (fun ix wr => ∃ (q : Nat) (E : Es), q ≤ k + 1 ∧ ix = .int .i64 (q : Int) ∧ Rt 26 wr g E ∧ Sam t q E ∧ Below W.heap.size W wr) (fun ix _ => k + 1 - (intOf ix).toNat)
  case atStart => exact ⟨0, Es.zero, Nat.zero_le _, rfl, R0.out, sam_zero _, B2.out⟩
  case round =>
    obtain ⟨q, E, hq, rfl, R, S, B⟩ := hrel
    have HS := Lib.hid S
    have HB := Lib.hid B
    have HR := Lib.hid R
    by_cases hqk : q < k + 1
    · have HP := Lib.hid (Sample_any R S.1 (t : Int))
      have HN := Lib.hid (sam_next S (by omega) (by omega))
      clear R S B
      generalize E.smp t = E2 at *
      unfold ptr at *
      go_wp2_with fail
      refine (HP.out).mono ?_
      rintro e w3 ⟨rfl, R3, C3⟩
      have B3 := below_ch HB.out C3 HG.out
      have HR3 := Lib.hid R3
      have HB3 := Lib.hid B3
      clear C3 R3 B3
      go_wp2_with fail
      go_roundw
      case rel => exact ⟨q + 1, E2, by omega, by go_num, HR3.out, HN.out, HB3.out⟩
      case measure => simp [intOf]; omega
    · obtain rfl : q = k + 1 := by omega
      obtain ⟨he1, he2⟩ := sam_end S (by omega)
      have HX := Lib.hid (Smooth_any R)
      have HY := Lib.hid (fun (w3 : World) (b3 : Below wr.heap.size wr w3) => Wait_any (R.below b3) S.1)
      rw [he1] at HX
      generalize E.wt = y at *
      unfold ptr at *
      clear S R B he1
      go_wp2_with fail
      refine (HX.out).mono ?_
      rintro e w3 ⟨rfl, b3⟩
      have HY2 := Lib.hid (HY.out w3 b3)
      have HB3 := Lib.hid (HB.out.trans (b3.mono HB.out.size))
      clear b3 HY
      go_wp2_with fail
      refine (HY2.out).mono ?_
      rintro e w4 ⟨rfl, b4⟩
      have HB4 := Lib.hid (HB3.out.trans (b4.mono HB3.out.size))
      clear b4
      go_wp2_with fail
      go_ret
      exact ⟨rfl, HB4.out⟩
end Go.Proofs.Ytlpndfmokebflaa
