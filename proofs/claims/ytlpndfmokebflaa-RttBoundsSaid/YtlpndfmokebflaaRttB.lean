/- The program's estimate: each call of it tells, and does, what the numbers say. Conditions: an estimate stands, its numbers within their bounds. -/
import Derived.Test.YtlpndfmokebflaaRttA
import Derived.StillTailTactics
import Derived.Deep.RegionLaw
import Derived.Deep.RegionHeld3
namespace Go.Proofs.Ytlpndfmokebflaa
set_option linter.unusedVariables false
set_option linter.unusedSimpArgs false
open Go.RowKit Go.Lib

/-- What a call leaves that changes one estimate, and answers nothing. -/
def Did (t : TypeId) (w : World) (b : Nat) (E : Es) (e : Ending) (w' : World) : Prop := e = .returned (.tuple #[]) ∧ Rt t w' b E ∧ Ch w w' (fun k => k = b)

set_option maxHeartbeats 1600000 in
theorem first_any {w : World} {b : Nat} {E : Es} (R : Rt 26 w b E) {t : Int} (h0 : 0 ≤ t) (h1 : t ≤ 1000) :
    Calls Try.prog 17 #[ptr b, .int .i64 t] w (Did 26 w b ⟨true, t * 8, t * 2, E.d⟩) := by
  have f0 := R.fz 0
  have f1 := R.fz 1
  have f2 := R.fz 2
  have c0 := R.c0
  have c1 := R.c1
  have c2 := R.c2
  have hw1 : IntKind.i64.wrap (t * 8) = t * 8 := by rw [IntKind.wrap_i64]; omega
  have hw2 : IntKind.i64.wrap (t * 4) = t * 4 := by rw [IntKind.wrap_i64]; omega
  have hq : (t * 4).tdiv 2 = t * 2 := by rw [Int.tdiv_eq_ediv_of_nonneg (by omega)]; omega
  have hw3 : IntKind.i64.wrap (t * 2) = t * 2 := by rw [IntKind.wrap_i64]; omega
  have HR := Lib.hid R
  clear R
  unfold ptr
  go_enter Try.func17, Try.ntmps17
  go_wp2_with fail
  go_end0
  refine ⟨rfl, ?_, ?_⟩
  · exact ((HR.out.set0 true).set1 (t * 8)).set2 (t * 2)
  · exact ((ch_set w b 0 _).set 1 _).set 2 _

set_option maxHeartbeats 1600000 in
theorem later_any {w : World} {b : Nat} {E : Es} (R : Rt 26 w b E) (O : E.Ok) {t : Int} (h0 : 0 ≤ t) (h1 : t ≤ 1000) :
    Calls Try.prog 18 #[ptr b, .int .i64 t] w (Did 26 w b ⟨E.has, E.s + (t - E.s.tdiv 8), E.v + (mag (t - E.s.tdiv 8) - E.v.tdiv 4), E.d⟩) := by
  have f1 := R.fz 1
  have f2 := R.fz 2
  have c1 := R.c1
  have c2 := R.c2
  have o1 := O.s0
  have o2 := O.s1
  have o3 := O.v0
  have o4 := O.v1
  have h8 := td8 o1
  have h4 := td4 o3
  have HR := Lib.hid R
  have hw0 : IntKind.i64.wrap (E.s.tdiv 8) = E.s.tdiv 8 := by rw [IntKind.wrap_i64]; omega
  have hw1 : IntKind.i64.wrap (t - E.s.tdiv 8) = t - E.s.tdiv 8 := by rw [IntKind.wrap_i64]; omega
  have hw2 : IntKind.i64.wrap (E.s + (t - E.s.tdiv 8)) = E.s + (t - E.s.tdiv 8) := by rw [IntKind.wrap_i64]; omega
  have HX : Hid (-1000 ≤ t - E.s.tdiv 8 ∧ t - E.s.tdiv 8 ≤ 1000) := Lib.hid (by omega)
  have hw4 : IntKind.i64.wrap (E.v.tdiv 4) = E.v.tdiv 4 := by rw [IntKind.wrap_i64]; omega
  have HV : Hid (0 ≤ E.v ∧ E.v ≤ 4000 ∧ E.v.tdiv 4 = E.v / 4) := Lib.hid ⟨o3, o4, h4⟩
  clear R O o1 o2 o3 o4 h8 h4 h0 h1
  unfold ptr mag
  go_enter Try.func18, Try.ntmps18
  go_wp2_with fail
  have f2' : (w.setCell ⟨b, 1, none⟩ (.int .i64 (E.s + (t - E.s.tdiv 8)))).frozen? ⟨b, 2, none⟩ = false := (HR.out.set1 _).fz 2
  have c2' : (w.setCell ⟨b, 1, none⟩ (.int .i64 (E.s + (t - E.s.tdiv 8)))).cell? ⟨b, 2, none⟩ = some (.int .i64 E.v) := (HR.out.set1 _).c2
  have HR1 := Lib.hid (HR.out.set1 (E.s + (t - E.s.tdiv 8)))
  have HC := Lib.hid (ch_set w b 1 (.int .i64 (E.s + (t - E.s.tdiv 8))))
  clear f1 f2 c1 c2 HR hw1 hw2
  have hx := HX.out
  have hv := HV.out
  generalize t - E.s.tdiv 8 = x at *
  generalize w.setCell ⟨b, 1, none⟩ (.int .i64 (E.s + x)) = w2 at *
  have hw3 : IntKind.i64.wrap (-x) = -x := by rw [IntKind.wrap_i64]; omega
  have hw5 : IntKind.i64.wrap (max x (-x) - E.v.tdiv 4) = max x (-x) - E.v.tdiv 4 := by rw [IntKind.wrap_i64]; omega
  have hw6 : IntKind.i64.wrap (E.v + (max x (-x) - E.v.tdiv 4)) = E.v + (max x (-x) - E.v.tdiv 4) := by rw [IntKind.wrap_i64]; omega
  clear hx hv
  go_still_tail 15, (by kernel_rfl)
  change wpList _ _ _ _ _ w2.drew
  have HR2 := Lib.hid HR1.out.drew
  have HC2 := Lib.hid HC.out.drew
  have f3 : w2.drew.frozen? ⟨b, 2, none⟩ = false := f2'
  have c3 : w2.drew.cell? ⟨b, 2, none⟩ = some (.int .i64 E.v) := c2'
  clear HR1 HC f2' c2'
  generalize w2.drew = w3 at *
  go_wp2_with fail
  go_end0
  refine ⟨rfl, ?_, ?_⟩
  · exact HR2.out.set2 (E.v + (max x (-x) - E.v.tdiv 4))
  · exact HC2.out.set 2 _

/-- Behind a sample: which of the two ways does not count. -/
theorem did_smp {w : World} {b : Nat} {E E' : Es} {e : Ending} {w' : World} (h : Did 26 w b E e w') (he : E = E') : Did 26 w b E' e w' := he ▸ h

set_option maxHeartbeats 1600000 in
theorem Sample_any {w : World} {b : Nat} {E : Es} (R : Rt 26 w b E) (O : E.Ok) (t : Int) :
    Calls Try.prog 9 #[ptr b, .int .i64 t] w (Did 26 w b (E.smp t)) := by
  have hb := held_bd t
  have hmf : ∀ (fn : Fn) (first cap : Array Value) (w : World), (Instr.makeFunc fn first cap).run Try.prog w = .ok (.func fn first cap) w := fun _ _ _ _ => rfl
  have c0 := R.c0
  cases he : E.has
  · have HF := Lib.hid (first_any R hb.1 hb.2)
    have hs : E.smp t = ⟨true, held t * 8, held t * 2, E.d⟩ := by unfold Es.smp; rw [if_neg (by rw [he]; decide)]
    rw [he] at c0
    rw [hs]
    clear hs R O hb he
    unfold held ptr at *
    go_enter Try.func9, Try.ntmps9
    go_wp2_with (first | (go_at_call 17; refine HF.out.mono ?_; rintro e w' ⟨rfl, h1, h2⟩))
    go_end0
    exact ⟨rfl, h1, h2⟩
  · have HF := Lib.hid (later_any R O hb.1 hb.2)
    have hs : E.smp t = ⟨E.has, E.s + (held t - E.s.tdiv 8), E.v + (mag (held t - E.s.tdiv 8) - E.v.tdiv 4), E.d⟩ := by unfold Es.smp; rw [if_pos he, he]
    rw [he] at c0
    rw [hs]
    clear hs R O hb he
    unfold held ptr at *
    go_enter Try.func9, Try.ntmps9
    go_wp2_with (first | (go_at_call 18; refine HF.out.mono ?_; rintro e w' ⟨rfl, h1, h2⟩))
    go_end0
    exact ⟨rfl, h1, h2⟩

set_option maxHeartbeats 1600000 in
theorem Back_any {w : World} {b : Nat} {E : Es} (R : Rt 26 w b E) (hd : E.d < 1000000) :
    Calls Try.prog 11 #[ptr b] w (Did 26 w b E.back) := by
  have c3 := R.c3
  have f3 := R.fz 3
  have hw : IntKind.i64.wrap ((E.d : Int) + 1) = (E.d : Int) + 1 := by rw [IntKind.wrap_i64]; omega
  have HR := Lib.hid R
  clear R hd
  unfold ptr
  go_enter Try.func11, Try.ntmps11
  go_wp2_with fail
  go_end0
  exact ⟨rfl, HR.out.set3 (E.d + 1), ch_set w b 3 _⟩

set_option maxHeartbeats 1600000 in
theorem Fresh_any {w : World} {b : Nat} {E : Es} (R : Rt 26 w b E) :
    Calls Try.prog 12 #[ptr b] w (Did 26 w b E.fresh) := by
  have c3 := R.c3
  have f3 := R.fz 3
  have HR := Lib.hid R
  clear R
  unfold ptr
  go_enter Try.func12, Try.ntmps12
  go_wp2_with fail
  go_end0
  exact ⟨rfl, HR.out.set3 0, ch_set w b 3 _⟩

set_option maxHeartbeats 1600000 in
theorem Smooth_any {w : World} {b : Nat} {E : Es} (R : Rt 26 w b E) :
    Calls Try.prog 15 #[ptr b] w fun e w' => e = .returned (.int .i64 E.told) ∧ Below w.heap.size w w' := by
  have c0 := R.c0
  have c1 := R.c1
  clear R
  unfold ptr Es.told
  cases he : E.has <;> rw [he] at c0
  · rw [if_neg (by decide)]
    clear he
    go_enter Try.func15, Try.ntmps15
    go_wp2_with fail
    go_ret
    exact ⟨rfl, Below.refl _ _⟩
  · rw [if_pos rfl]
    clear he
    go_enter Try.func15, Try.ntmps15
    go_wp2_with fail
    go_ret
    exact ⟨rfl, Below.refl _ _⟩

set_option maxHeartbeats 1600000 in
theorem single_any {w : World} {b : Nat} {E : Es} (R : Rt 26 w b E) (O : E.Ok) :
    Calls Try.prog 19 #[ptr b] w fun e w' => e = .returned (.int .i64 (min E.one 16)) ∧ Below w.heap.size w w' := by
  have c0 := R.c0
  have c1 := R.c1
  have c2 := R.c2
  have o1 := O.s0
  have o2 := O.s1
  have o3 := O.v0
  have o4 := O.v1
  have h8 := td8 o1
  have hw0 : IntKind.i64.wrap (E.s.tdiv 8) = E.s.tdiv 8 := by rw [IntKind.wrap_i64]; omega
  have hw1 : IntKind.i64.wrap (E.s.tdiv 8 + max E.v 1) = E.s.tdiv 8 + max E.v 1 := by rw [IntKind.wrap_i64]; omega
  clear R O o1 o2 o3 o4 h8
  unfold ptr Es.one
  cases he : E.has <;> rw [he] at c0
  · rw [if_neg (by decide)]
    clear he hw0 hw1
    go_enter Try.func19, Try.ntmps19
    go_wp2_with fail
    go_ret
    exact ⟨rfl, Below.refl _ _⟩
  · rw [if_pos rfl]
    clear he
    go_enter Try.func19, Try.ntmps19
    go_wp2_with fail
    go_still_tail 11, (by kernel_rfl)
    change wpList _ _ _ _ _ w.drew
    go_wp2_with fail
    go_ret
    exact ⟨rfl, (Below.refl _ _).drew⟩

set_option maxHeartbeats 1600000 in
theorem Wait_any {w : World} {b : Nat} {E : Es} (R : Rt 26 w b E) (O : E.Ok) :
    Calls Try.prog 13 #[ptr b] w fun e w' => e = .returned (.int .i64 E.wt) ∧ Below w.heap.size w w' := by
  have HS := Lib.hid (single_any R O)
  have HW := Lib.hid (dbl_min E.one E.d)
  have h1 := one_bd O
  have HD := Lib.hid O.d1
  have HR := Lib.hid R
  have ew : E.wt = dbl E.d E.one := rfl
  rw [ew]
  clear R O ew
  generalize E.one = x at *
  unfold ptr at *
  go_enter Try.func13, Try.ntmps13
  go_wp2_with (first | (go_at_call 19; refine HS.out.mono ?_; rintro e w1 ⟨rfl, b1⟩))
  have HB := Lib.hid b1
  have HX : Hid (2 ≤ min x 16 ∧ min x 16 ≤ 5000) := Lib.hid (by omega)
  clear b1 h1 HS
  generalize min x 16 = y at *
  go_loopw [3, 4] (fun s3 s4 wr => ∃ (k : Nat) (z : Int), k ≤ E.d ∧ s4 = .int .i64 (k : Int) ∧ s3 = .int .i64 z ∧ 2 ≤ z ∧ z ≤ 5000 ∧ dbl (E.d - k) z = dbl E.d y ∧ Below w.heap.size w wr) (fun _ ix _ => E.d - (intOf ix).toNat)
  case atStart => exact ⟨0, y, Nat.zero_le _, rfl, rfl, HX.out.1, HX.out.2, rfl, HB.out⟩
  case round =>
    obtain ⟨k, z, hk, rfl, rfl, z0, z1, hz, hb⟩ := hrel
    have c3 := (HR.out.below hb).c3
    have hd := HD.out
    have HZ := Lib.hid hz
    have HB2 := Lib.hid hb
    clear hz hb
    by_cases hkd : k < E.d
    · by_cases hz16 : z < 16
      · have hw1 : IntKind.i64.wrap (z * 2) = z * 2 := by rw [IntKind.wrap_i64]; omega
        go_wp2_with fail
        go_roundw
        case rel =>
          refine ⟨k + 1, z * 2, by omega, by go_num, rfl, by omega, by omega, ?_, HB2.out⟩
          rw [← HZ.out, show E.d - k = (E.d - (k + 1)) + 1 from by omega, dbl_step hz16, Int.mul_comm]
        case measure => simp [intOf]; omega
      · go_wp2_with fail
        go_ret
        refine ⟨?_, HB2.out⟩
        rw [← HW.out, ← HZ.out, dbl_big (by omega), show min z 16 = 16 from by omega]
        rfl
    · obtain rfl : k = E.d := by omega
      go_wp2_with fail
      go_ret
      refine ⟨?_, HB2.out⟩
      rw [← HW.out, ← HZ.out, Nat.sub_self]
      rfl
end Go.Proofs.Ytlpndfmokebflaa
