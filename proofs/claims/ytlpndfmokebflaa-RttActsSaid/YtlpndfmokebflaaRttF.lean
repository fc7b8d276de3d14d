/- The law RttActs. Conditions: the argument is a slice of its kind. -/
import Derived.Test.YtlpndfmokebflaaRttE
namespace Go.Proofs.Ytlpndfmokebflaa
set_option linter.unusedVariables false
set_option linter.unusedSimpArgs false
open Go.RowKit Go.Lib

set_option maxHeartbeats 6400000 in
theorem Acts_any (A : Option Addr) (n c : Nat) (l : List (Int × Int)) (W : World) (hl : Duo W A n c l) : Calls Try.prog 3 #[.slice A n c] W (Held W) := by
  have HW := Lib.hid (wakes_any W)
  have HL := Lib.hid hl
  have hmx := hl.max
  have hcp := hl.cap
  clear hl
  by_cases hlong : 200 < n
  · go_enter Try.func3, Try.ntmps3
    go_wp2_with fail
    refine (HW.out).mono ?_
    rintro e w1 ⟨rfl, b1⟩
    have B1 := Lib.hid b1
    clear b1
    go_wp2_with fail
    go_ret
    exact ⟨rfl, B1.out⟩
  · go_enter Try.func3, Try.ntmps3
    go_wp2_with fail
    refine (HW.out).mono ?_
    rintro e w1 ⟨rfl, b1⟩
    have HB0 := Lib.hid (Bo.new 26 29 b1)
    clear b1
    go_wp2_with fail
    generalize hga : w1.heap.size = ga at *
    generalize hgb : ga + 1 = gb at *
    clear hga hgb HW
    generalize (w1.alloc (.cells #[.bool false, .int .i64 0, .int .i64 0, .int .i64 0] 26)).alloc (.cells #[.bool false, .int .i64 0, .int .i64 0, .int .i64 0] 29) = w2 at *
    go_loopw [6, 18] (fun s6 ix wr => ∃ (q : Nat) (E : Es), q ≤ n ∧ ix = .int .i64 (q : Int) ∧ E.Ok ∧ E.d ≤ q ∧ Bo W wr 26 29 ga gb E E) (fun _ ix _ => n - (intOf ix).toNat)
    case atStart => exact ⟨0, Es.zero, Nat.zero_le _, rfl, Ok_zero, Nat.zero_le _, HB0.out⟩
    case round =>
      obtain ⟨q, E, hq, rfl, O, hd, B⟩ := hrel
      have HO := Lib.hid O
      have HD := Lib.hid hd
      have HB := Lib.hid B
      clear HB0
      by_cases hqn : q < n
      · obtain ⟨gl, ol, rfl, hmem⟩ := (HL.out.below B.bl).mem (by omega)
        obtain ⟨x0, x1⟩ := hmem q hqn
        generalize (l.getD q z2).1 = kd at *
        generalize (l.getD q z2).2 = nm at *
        clear hmem O hd B
        have HA := Lib.hid (fun (o : Obj) => HB.out.below (below_a wr o))
        have ha := HB.out.a.lt
        have hb := HB.out.b.lt
        have HNE : Hid (wr.heap.size ≠ ga ∧ wr.heap.size ≠ gb) := Lib.hid ⟨by omega, by omega⟩
        clear ha hb
        by_cases k0 : kd = 0
        · subst k0
          have B1 := Lib.hid (HA.out (.cells #[.int .i64 0, .int .i64 nm] 31))
          have HP := Lib.hid (Sample_any B1.out.a HO.out nm)
          have n1 : (wr.alloc (.cells #[.int .i64 0, .int .i64 nm] 31)).cell? ⟨wr.heap.size, 1, none⟩ = some (.int .i64 nm) := by
            rw [cell_of_row _ _ _ _ _ _ (heap_alloc_new wr _)]
            rfl
          have HN := Lib.hid (Ok_smp HO.out nm)
          have HD2 : Hid ((E.smp nm).d ≤ q + 1) := Lib.hid (by rw [smp_d]; have := HD.out; omega)
          have N1 := Lib.hid n1
          clear n1
          unfold ptr at *
          go_wp2_with fail
          refine (HP.out).mono ?_
          rintro e w3 ⟨rfl, R3, C3⟩
          have n3 := C3.cell N1.out HNE.out.1
          have B3 := Lib.hid (B1.out.didA R3 C3)
          have HQ := Lib.hid (rSample_any B3.out.b HO.out nm)
          clear R3 C3 HP N1 B1
          unfold ptr at *
          go_wp2_with fail
          refine (HQ.out).mono ?_
          rintro e w4 ⟨rfl, R4, C4⟩
          have B4 := Lib.hid (B3.out.didB R4 C4)
          clear R4 C4 HQ B3 n3
          generalize E.smp nm = E2 at *
          have HX := Lib.hid (Wait_any B4.out.a HN.out)
          have HY := Lib.hid (fun (w5 : World) (b5 : Below (w4).heap.size (w4) w5) => rWait_any (B4.out.below b5).b HN.out)
          have HZ := Lib.hid (fun (w5 : World) (b5 : Below (w4).heap.size (w4) w5) => Smooth_any (B4.out.below b5).a)
          have HV := Lib.hid (fun (w5 : World) (b5 : Below (w4).heap.size (w4) w5) => Told_any (B4.out.below b5).b)
          generalize (E2).wt = y1 at *
          generalize (E2).told = y2 at *
          unfold ptr at *
          go_wp2_with fail
          refine (HX.out).mono ?_
          rintro e w5 ⟨rfl, b5⟩
          have HY5 := Lib.hid (HY.out w5 b5)
          have D5 := Lib.hid b5
          clear b5
          go_wp2_with fail
          refine (HY5.out).mono ?_
          rintro e w6 ⟨rfl, b6⟩
          have D6 := Lib.hid (D5.out.trans (b6.mono D5.out.size))
          have HZ6 := Lib.hid (HZ.out w6 D6.out)
          clear b6
          go_wp2_with fail
          refine (HZ6.out).mono ?_
          rintro e w7 ⟨rfl, b7⟩
          have D7 := Lib.hid (D6.out.trans (b7.mono D6.out.size))
          have HV7 := Lib.hid (HV.out w7 D7.out)
          clear b7
          go_wp2_with fail
          refine (HV7.out).mono ?_
          rintro e w8 ⟨rfl, b8⟩
          have D8 := Lib.hid (B4.out.below (D7.out.trans (b8.mono D7.out.size)))
          clear b8
          go_wp2_with fail
          go_roundw
          case rel => exact ⟨q + 1, E2, by omega, by go_num, HN.out, HD2.out, D8.out⟩
          case measure => simp [intOf]; omega
        · by_cases k1 : kd = 1
          · subst k1
            have B1 := Lib.hid (HA.out (.cells #[.int .i64 1, .int .i64 nm] 31))
            have HP := Lib.hid (Back_any B1.out.a (by have := HD.out; omega))
            have HN := Lib.hid (Ok_back HO.out (by have := HD.out; omega))
            have HD2 : Hid ((E.back).d ≤ q + 1) := Lib.hid (by have := HD.out; show E.d + 1 ≤ q + 1; omega)
            have hw : IntKind.i64.wrap ((E.d : Int) + 1) = (E.d : Int) + 1 := by have := HD.out; rw [IntKind.wrap_i64]; omega
            unfold ptr at *
            go_wp2_with fail
            refine (HP.out).mono ?_
            rintro e w3 ⟨rfl, R3, C3⟩
            have B3 := Lib.hid (B1.out.didA R3 C3)
            have c3 := B3.out.b.c3
            have f3 := B3.out.b.fz 3
            have B4 : Hid (Bo W (w3.setCell ⟨gb, 3, none⟩ (.int .i64 ((E.d : Int) + 1))) 26 29 ga gb E.back E.back) := Lib.hid (B3.out.didB (B3.out.b.set3 (E.d + 1)) (ch_set _ _ _ _))
            clear R3 C3 HP B1 B3
            have HX := Lib.hid (Wait_any B4.out.a HN.out)
            have HY := Lib.hid (fun (w5 : World) (b5 : Below (w3.setCell ⟨gb, 3, none⟩ (.int .i64 ((E.d : Int) + 1))).heap.size (w3.setCell ⟨gb, 3, none⟩ (.int .i64 ((E.d : Int) + 1))) w5) => rWait_any (B4.out.below b5).b HN.out)
            have HZ := Lib.hid (fun (w5 : World) (b5 : Below (w3.setCell ⟨gb, 3, none⟩ (.int .i64 ((E.d : Int) + 1))).heap.size (w3.setCell ⟨gb, 3, none⟩ (.int .i64 ((E.d : Int) + 1))) w5) => Smooth_any (B4.out.below b5).a)
            have HV := Lib.hid (fun (w5 : World) (b5 : Below (w3.setCell ⟨gb, 3, none⟩ (.int .i64 ((E.d : Int) + 1))).heap.size (w3.setCell ⟨gb, 3, none⟩ (.int .i64 ((E.d : Int) + 1))) w5) => Told_any (B4.out.below b5).b)
            generalize (E.back).wt = y1 at *
            generalize (E.back).told = y2 at *
            unfold ptr at *
            go_wp2_with fail
            refine (HX.out).mono ?_
            rintro e w5 ⟨rfl, b5⟩
            have HY5 := Lib.hid (HY.out w5 b5)
            have D5 := Lib.hid b5
            clear b5
            go_wp2_with fail
            refine (HY5.out).mono ?_
            rintro e w6 ⟨rfl, b6⟩
            have D6 := Lib.hid (D5.out.trans (b6.mono D5.out.size))
            have HZ6 := Lib.hid (HZ.out w6 D6.out)
            clear b6
            go_wp2_with fail
            refine (HZ6.out).mono ?_
            rintro e w7 ⟨rfl, b7⟩
            have D7 := Lib.hid (D6.out.trans (b7.mono D6.out.size))
            have HV7 := Lib.hid (HV.out w7 D7.out)
            clear b7
            go_wp2_with fail
            refine (HV7.out).mono ?_
            rintro e w8 ⟨rfl, b8⟩
            have D8 := Lib.hid (B4.out.below (D7.out.trans (b8.mono D7.out.size)))
            clear b8
            go_wp2_with fail
            go_roundw
            case rel => exact ⟨q + 1, E.back, by omega, by go_num, HN.out, HD2.out, D8.out⟩
            case measure => simp [intOf]; omega
          · by_cases k2 : kd = 2
            · subst k2
              have B1 := Lib.hid (HA.out (.cells #[.int .i64 2, .int .i64 nm] 31))
              have HP := Lib.hid (Fresh_any B1.out.a)
              have HN := Lib.hid (Ok_fresh HO.out)
              have HD2 : Hid ((E.fresh).d ≤ q + 1) := Lib.hid (by show 0 ≤ q + 1; omega)
              unfold ptr at *
              go_wp2_with fail
              refine (HP.out).mono ?_
              rintro e w3 ⟨rfl, R3, C3⟩
              have B3 := Lib.hid (B1.out.didA R3 C3)
              have c3 := B3.out.b.c3
              have f3 := B3.out.b.fz 3
              have B4 : Hid (Bo W (w3.setCell ⟨gb, 3, none⟩ (.int .i64 0)) 26 29 ga gb E.fresh E.fresh) := Lib.hid (B3.out.didB (B3.out.b.set3 0) (ch_set _ _ _ _))
              clear R3 C3 HP B1 B3
              have HX := Lib.hid (Wait_any B4.out.a HN.out)
              have HY := Lib.hid (fun (w5 : World) (b5 : Below (w3.setCell ⟨gb, 3, none⟩ (.int .i64 0)).heap.size (w3.setCell ⟨gb, 3, none⟩ (.int .i64 0)) w5) => rWait_any (B4.out.below b5).b HN.out)
              have HZ := Lib.hid (fun (w5 : World) (b5 : Below (w3.setCell ⟨gb, 3, none⟩ (.int .i64 0)).heap.size (w3.setCell ⟨gb, 3, none⟩ (.int .i64 0)) w5) => Smooth_any (B4.out.below b5).a)
              have HV := Lib.hid (fun (w5 : World) (b5 : Below (w3.setCell ⟨gb, 3, none⟩ (.int .i64 0)).heap.size (w3.setCell ⟨gb, 3, none⟩ (.int .i64 0)) w5) => Told_any (B4.out.below b5).b)
              generalize (E.fresh).wt = y1 at *
              generalize (E.fresh).told = y2 at *
              unfold ptr at *
              go_wp2_with fail
              refine (HX.out).mono ?_
              rintro e w5 ⟨rfl, b5⟩
              have HY5 := Lib.hid (HY.out w5 b5)
              have D5 := Lib.hid b5
              clear b5
              go_wp2_with fail
              refine (HY5.out).mono ?_
              rintro e w6 ⟨rfl, b6⟩
              have D6 := Lib.hid (D5.out.trans (b6.mono D5.out.size))
              have HZ6 := Lib.hid (HZ.out w6 D6.out)
              clear b6
              go_wp2_with fail
              refine (HZ6.out).mono ?_
              rintro e w7 ⟨rfl, b7⟩
              have D7 := Lib.hid (D6.out.trans (b7.mono D6.out.size))
              have HV7 := Lib.hid (HV.out w7 D7.out)
              clear b7
              go_wp2_with fail
              refine (HV7.out).mono ?_
              rintro e w8 ⟨rfl, b8⟩
              have D8 := Lib.hid (B4.out.below (D7.out.trans (b8.mono D7.out.size)))
              clear b8
              go_wp2_with fail
              go_roundw
              case rel => exact ⟨q + 1, E.fresh, by omega, by go_num, HN.out, HD2.out, D8.out⟩
              case measure => simp [intOf]; omega
            · have B4 := Lib.hid (HA.out (.cells #[.int .i64 kd, .int .i64 nm] 31))
              have HD2 : Hid (E.d ≤ q + 1) := Lib.hid (by have := HD.out; omega)
              have HX := Lib.hid (Wait_any B4.out.a HO.out)
              have HY := Lib.hid (fun (w5 : World) (b5 : Below (wr.alloc (.cells #[.int .i64 kd, .int .i64 nm] 31)).heap.size (wr.alloc (.cells #[.int .i64 kd, .int .i64 nm] 31)) w5) => rWait_any (B4.out.below b5).b HO.out)
              have HZ := Lib.hid (fun (w5 : World) (b5 : Below (wr.alloc (.cells #[.int .i64 kd, .int .i64 nm] 31)).heap.size (wr.alloc (.cells #[.int .i64 kd, .int .i64 nm] 31)) w5) => Smooth_any (B4.out.below b5).a)
              have HV := Lib.hid (fun (w5 : World) (b5 : Below (wr.alloc (.cells #[.int .i64 kd, .int .i64 nm] 31)).heap.size (wr.alloc (.cells #[.int .i64 kd, .int .i64 nm] 31)) w5) => Told_any (B4.out.below b5).b)
              generalize (E).wt = y1 at *
              generalize (E).told = y2 at *
              unfold ptr at *
              go_wp2_with fail
              refine (HX.out).mono ?_
              rintro e w5 ⟨rfl, b5⟩
              have HY5 := Lib.hid (HY.out w5 b5)
              have D5 := Lib.hid b5
              clear b5
              go_wp2_with fail
              refine (HY5.out).mono ?_
              rintro e w6 ⟨rfl, b6⟩
              have D6 := Lib.hid (D5.out.trans (b6.mono D5.out.size))
              have HZ6 := Lib.hid (HZ.out w6 D6.out)
              clear b6
              go_wp2_with fail
              refine (HZ6.out).mono ?_
              rintro e w7 ⟨rfl, b7⟩
              have D7 := Lib.hid (D6.out.trans (b7.mono D6.out.size))
              have HV7 := Lib.hid (HV.out w7 D7.out)
              clear b7
              go_wp2_with fail
              refine (HV7.out).mono ?_
              rintro e w8 ⟨rfl, b8⟩
              have D8 := Lib.hid (B4.out.below (D7.out.trans (b8.mono D7.out.size)))
              clear b8
              go_wp2_with fail
              go_roundw
              case rel => exact ⟨q + 1, E, by omega, by go_num, HO.out, HD2.out, D8.out⟩
              case measure => simp [intOf]; omega
      · clear O hd B
        go_wp2_with fail
        go_ret
        exact ⟨rfl, HB.out.bl⟩
end Go.Proofs.Ytlpndfmokebflaa
