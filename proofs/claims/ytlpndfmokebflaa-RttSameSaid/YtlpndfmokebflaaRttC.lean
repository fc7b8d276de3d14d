/- The document's estimate: each call of it tells, and does, what the numbers say. Conditions: an estimate stands, its numbers within their bounds. -/
import Derived.Test.YtlpndfmokebflaaRttB
import Derived.Deep.CutRange
import Derived.Deep.DeepCutAuto
namespace Go.Proofs.Ytlpndfmokebflaa
set_option linter.unusedVariables false
set_option linter.unusedSimpArgs false
open Go.RowKit Go.Lib

set_option maxHeartbeats 3200000 in
theorem rSample_any {w : World} {b : Nat} {E : Es} (R : Rt 29 w b E) (O : E.Ok) (t : Int) :
    Calls Try.prog 10 #[ptr b, .int .i64 t] w (Did 29 w b (E.smp t)) := by
  have hb := held_bd t
  have c0 := R.c0
  have c1 := R.c1
  have c2 := R.c2
  have f0 := R.fz 0
  have f1 := R.fz 1
  have f2 := R.fz 2
  have hm : (t < 0 ∧ max t 0 = 0) ∨ (¬ t < 0 ∧ max t 0 = t) := by omega
  have hh : (1000 < max t 0 ∧ held t = 1000) ∨ (¬ 1000 < max t 0 ∧ held t = max t 0) := by unfold held; omega
  have HR := Lib.hid R
  have HO := Lib.hid O
  have HH := Lib.hid hh
  have HS : Hid (E.smp t = if E.has then ⟨true, E.s + (held t - E.s.tdiv 8), E.v + (mag (held t - E.s.tdiv 8) - E.v.tdiv 4), E.d⟩ else ⟨true, 8 * held t, 2 * held t, E.d⟩) := Lib.hid (by unfold Es.smp; rw [Int.mul_comm 8, Int.mul_comm 2])
  clear R O hh
  generalize E.smp t = E2 at *
  unfold ptr at *
  generalize hz : max t 0 = z at *
  clear hz
  go_enter Try.func10, Try.ntmps10
  go_upto_if 6 with (fail)
  go_cut [1] from 5 (fun a wx => a = .int .i64 z ∧ wx = w)
  case first =>
    rcases hm with ⟨t0, rfl⟩ | ⟨t0, rfl⟩
    · go_wp2_with fail
      go_meet
      case rel => exact ⟨rfl, rfl⟩
    · go_wp2_with fail
      go_meet
      case rel => exact ⟨rfl, rfl⟩
  case rest =>
    obtain ⟨rfl, rfl⟩ := hcut
    clear hm
    have hh := HH.out
    generalize hu0 : held t = u at *
    go_upto_if 8 with (fail)
    go_cut [1] from 7 (fun a w2 => a = .int .i64 u ∧ w2 = wc)
    case first =>
      rcases hh with ⟨t0, rfl⟩ | ⟨t0, rfl⟩
      · go_wp2_with fail
        go_meet
        case rel => exact ⟨rfl, rfl⟩
      · go_wp2_with fail
        go_meet
        case rel => exact ⟨rfl, rfl⟩
    case rest =>
      obtain ⟨rfl, rfl⟩ := hcut
      clear hh HH hu0
      cases he : E.has
      · rw [he] at c0
        have hs := HS.out
        rw [if_neg (by rw [he]; decide)] at hs
        have HS2 := Lib.hid hs
        clear he hs HS
        have hw1 : IntKind.i64.wrap (8 * u) = 8 * u := by rw [IntKind.wrap_i64]; omega
        have hw2 : IntKind.i64.wrap (2 * u) = 2 * u := by rw [IntKind.wrap_i64]; omega
        clear hb
        go_wp2_with fail
        refine bodyPost_ret (results_none rfl _ _ _) rfl ?_
        rw [HS2.out]
        exact ⟨rfl, ((HR.out.set0 true).set1 (8 * u)).set2 (2 * u), ((ch_set _ b 0 _).set 1 _).set 2 _⟩
      · rw [he] at c0
        have hs := HS.out
        rw [if_pos he] at hs
        have HS2 := Lib.hid hs
        clear hs HS
        have HE := Lib.hid he
        have o1 := HO.out.s0
        have o2 := HO.out.s1
        have o3 := HO.out.v0
        have o4 := HO.out.v1
        have h8 := td8 o1
        have h4 := td4 o3
        have hw0 : IntKind.i64.wrap (E.s.tdiv 8) = E.s.tdiv 8 := by rw [IntKind.wrap_i64]; omega
        have hw1 : IntKind.i64.wrap (u - E.s.tdiv 8) = u - E.s.tdiv 8 := by rw [IntKind.wrap_i64]; omega
        have hw2 : IntKind.i64.wrap (E.s + (u - E.s.tdiv 8)) = E.s + (u - E.s.tdiv 8) := by rw [IntKind.wrap_i64]; omega
        have HX : Hid (-1000 ≤ u - E.s.tdiv 8 ∧ u - E.s.tdiv 8 ≤ 1000) := Lib.hid (by omega)
        have hw4 : IntKind.i64.wrap (E.v.tdiv 4) = E.v.tdiv 4 := by rw [IntKind.wrap_i64]; omega
        have HV : Hid (0 ≤ E.v ∧ E.v ≤ 4000 ∧ E.v.tdiv 4 = E.v / 4) := Lib.hid ⟨o3, o4, h4⟩
        clear he o1 o2 o3 o4 h8 h4 hb
        go_upto_region 10 with (fail)
        have f2' : (wc.setCell ⟨b, 1, none⟩ (.int .i64 (E.s + (u - E.s.tdiv 8)))).frozen? ⟨b, 2, none⟩ = false := (HR.out.set1 _).fz 2
        have c2' : (wc.setCell ⟨b, 1, none⟩ (.int .i64 (E.s + (u - E.s.tdiv 8)))).cell? ⟨b, 2, none⟩ = some (.int .i64 E.v) := (HR.out.set1 _).c2
        have HR1 := Lib.hid (HR.out.set1 (E.s + (u - E.s.tdiv 8)))
        have HC := Lib.hid (ch_set wc b 1 (.int .i64 (E.s + (u - E.s.tdiv 8))))
        clear f0 f1 f2 c0 c1 c2 HR hw1 hw2
        generalize u - E.s.tdiv 8 = x at *
        generalize wc.setCell ⟨b, 1, none⟩ (.int .i64 (E.s + x)) = w2 at *
        go_upto_if 43 with (fail)
        go_cut [4] from 42 (fun a wx => a = .int .i64 (mag x) ∧ wx = w2)
        case first =>
          by_cases hx : x < 0
          · have hmx : -x = mag x := by unfold mag; omega
            have hw3 : IntKind.i64.wrap (-x) = -x := by have := HX.out; rw [IntKind.wrap_i64]; omega
            have HMX := Lib.hid hmx
            clear hmx
            go_wp2_with fail
            go_meet
            case rel => exact ⟨by rw [HMX.out], rfl⟩
          · have hmx : x = mag x := by unfold mag; omega
            have HMX := Lib.hid hmx
            clear hmx
            go_wp2_with fail
            go_meet
            case rel => exact ⟨by rw [← HMX.out], rfl⟩
        case rest =>
          obtain ⟨rfl, rfl⟩ := hcut
          have hx := HX.out
          have hv := HV.out
          have hm : 0 ≤ mag x ∧ mag x ≤ 1000 := by unfold mag; omega
          generalize mag x = y at *
          have hw5 : IntKind.i64.wrap (E.v - E.v.tdiv 4) = E.v - E.v.tdiv 4 := by rw [IntKind.wrap_i64]; omega
          have hw6 : IntKind.i64.wrap (E.v - E.v.tdiv 4 + y) = E.v - E.v.tdiv 4 + y := by rw [IntKind.wrap_i64]; omega
          clear hx hv hm
          go_wp2_with fail
          go_still_tail 13, (by kernel_rfl)
          change wpList _ _ _ _ _ wc.drew
          have HR2 := Lib.hid HR1.out.drew
          have HC2 := Lib.hid HC.out.drew
          have f3 : wc.drew.frozen? ⟨b, 2, none⟩ = false := f2'
          have c3 : wc.drew.cell? ⟨b, 2, none⟩ = some (.int .i64 E.v) := c2'
          clear HR1 HC f2' c2'
          generalize wc.drew = w3 at *
          go_wp2_with fail
          go_end0
          rw [HS2.out, ← HE.out]
          refine ⟨rfl, ?_, ?_⟩
          · have := HR2.out.set2 (E.v - E.v.tdiv 4 + y)
            rwa [show E.v - E.v.tdiv 4 + y = E.v + (y - E.v.tdiv 4) from by omega] at this ⊢
          · exact HC2.out.set 2 _

set_option maxHeartbeats 1600000 in
theorem Told_any {w : World} {b : Nat} {E : Es} (R : Rt 29 w b E) :
    Calls Try.prog 16 #[ptr b] w fun e w' => e = .returned (.int .i64 E.told) ∧ Below w.heap.size w w' := by
  have c0 := R.c0
  have c1 := R.c1
  clear R
  unfold ptr Es.told
  cases he : E.has <;> rw [he] at c0
  · rw [if_neg (by decide)]
    clear he
    go_enter Try.func16, Try.ntmps16
    go_wp2_with fail
    go_ret
    exact ⟨rfl, Below.refl _ _⟩
  · rw [if_pos rfl]
    clear he
    go_enter Try.func16, Try.ntmps16
    go_wp2_with fail
    go_ret
    exact ⟨rfl, Below.refl _ _⟩

set_option maxHeartbeats 3200000 in
theorem rWait_any {w : World} {b : Nat} {E : Es} (R : Rt 29 w b E) (O : E.Ok) :
    Calls Try.prog 14 #[ptr b] w fun e w' => e = .returned (.int .i64 E.wt) ∧ Below w.heap.size w w' := by
  have c0 := R.c0
  have c1 := R.c1
  have c2 := R.c2
  have o1 := O.s0
  have o2 := O.s1
  have o3 := O.v0
  have o4 := O.v1
  have h8 := td8 o1
  have h1 := one_bd O
  have HX := Lib.hid h1
  have HD := Lib.hid O.d1
  have HR := Lib.hid R
  have ew : E.wt = dbl E.d E.one := rfl
  have HO : Hid (E.one = if E.has then max (E.s.tdiv 8 + max E.v 1) 2 else 4) := Lib.hid rfl
  have hw0 : IntKind.i64.wrap (E.s.tdiv 8) = E.s.tdiv 8 := by rw [IntKind.wrap_i64]; omega
  have hw1 : IntKind.i64.wrap (E.v + E.s.tdiv 8) = E.v + E.s.tdiv 8 := by rw [IntKind.wrap_i64]; omega
  have hw2 : IntKind.i64.wrap (1 + E.s.tdiv 8) = 1 + E.s.tdiv 8 := by rw [IntKind.wrap_i64]; omega
  have HQ : Hid (0 ≤ E.s.tdiv 8 ∧ 0 ≤ E.v) := Lib.hid (by omega)
  rw [ew]
  clear R O ew o1 o2 o3 o4 h8 h1
  generalize E.one = y at *
  unfold ptr at *
  go_enter Try.func14, Try.ntmps14
  go_upto_if 8 with (fail)
  go_cut [3] from 5 (fun a wx => a = .int .i64 y ∧ wx = w)
  case first =>
    cases he : E.has <;> rw [he] at c0
    · have ho := HO.out
      rw [he, if_neg (by decide)] at ho
      have HO2 := Lib.hid ho
      clear ho he HO
      go_wp2_with fail
      go_meet
      case rel => exact ⟨by rw [HO2.out], rfl⟩
    · have ho := HO.out
      rw [he, if_pos rfl] at ho
      have HO2 := Lib.hid ho
      have hq := HQ.out
      clear ho he HO
      by_cases hv : E.v < 1
      · by_cases h2 : 1 + E.s.tdiv 8 < 2
        · go_wp2_with fail
          go_meet
          case rel => exact ⟨by rw [HO2.out]; congr 1; omega, rfl⟩
        · go_wp2_with fail
          go_meet
          case rel => exact ⟨by rw [HO2.out]; congr 1; omega, rfl⟩
      · by_cases h2 : E.v + E.s.tdiv 8 < 2
        · go_wp2_with fail
          go_meet
          case rel => exact ⟨by rw [HO2.out]; congr 1; omega, rfl⟩
        · go_wp2_with fail
          go_meet
          case rel => exact ⟨by rw [HO2.out]; congr 1; omega, rfl⟩
  case rest =>
    obtain ⟨rfl, rfl⟩ := hcut
    clear hw0 hw1 hw2 HQ HO c0 c1 c2
    go_wp2_with fail
    go_loopw [3, 4] (fun s3 s4 wr => ∃ (k : Nat) (z : Int), k ≤ E.d ∧ s4 = .int .i64 (k : Int) ∧ s3 = .int .i64 z ∧ 2 ≤ z ∧ z ≤ 5000 ∧ dbl (E.d - k) z = dbl E.d y ∧ Below wc.heap.size wc wr) (fun _ ix _ => E.d - (intOf ix).toNat)
    case atStart => exact ⟨0, y, Nat.zero_le _, rfl, rfl, HX.out.1, HX.out.2, rfl, Below.refl _ _⟩
    case round =>
      obtain ⟨k, z, hk, rfl, rfl, z0, z1, hz, hb⟩ := hrel
      have c3 := (HR.out.below hb).c3
      have hd := HD.out
      have HZ := Lib.hid hz
      have HB2 := Lib.hid hb
      clear hz hb
      by_cases hkd : k < E.d
      · by_cases hz16 : z < 16
        · have hw1 : IntKind.i64.wrap (2 * z) = 2 * z := by rw [IntKind.wrap_i64]; omega
          go_wp2_with fail
          go_roundw
          case rel =>
            refine ⟨k + 1, 2 * z, by omega, by go_num, rfl, by omega, by omega, ?_, HB2.out⟩
            rw [← HZ.out, show E.d - k = (E.d - (k + 1)) + 1 from by omega, dbl_step hz16]
          case measure => simp [intOf]; omega
        · by_cases h16 : 16 < z
          · go_wp2_with fail
            go_ret
            refine ⟨?_, HB2.out⟩
            rw [← HZ.out, dbl_big (by omega)]
            rfl
          · have hz2 : z = 16 := by omega
            go_wp2_with fail
            go_ret
            refine ⟨?_, HB2.out⟩
            rw [← HZ.out, dbl_big (by omega)]
            rfl
      · obtain rfl : k = E.d := by omega
        by_cases h16 : 16 < z
        · go_wp2_with fail
          go_ret
          refine ⟨?_, HB2.out⟩
          rw [← HZ.out, dbl_big (by omega)]
          rfl
        · have hz2 : min z 16 = z := by omega
          have HZ2 := Lib.hid hz2
          clear hz2
          go_wp2_with fail
          go_ret
          refine ⟨?_, HB2.out⟩
          rw [← HZ.out, Nat.sub_self]
          show _ = Ending.returned (.int .i64 (min z 16))
          rw [HZ2.out]
          rfl
end Go.Proofs.Ytlpndfmokebflaa
