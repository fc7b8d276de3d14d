/- The laws RttOrder, RttBounds and RttActs. Conditions: the arguments are slices of their kinds. -/
import Derived.Test.YtlpndfmokebflaaRttD
import Derived.Test.YtlpndfmokebflaaInt
import Derived.Test.YtlpndfmokebflaaDuo
namespace Go.Proofs.Ytlpndfmokebflaa
set_option linter.unusedVariables false
set_option linter.unusedSimpArgs false
open Go.RowKit Go.Lib

/-- Two estimates, of which the one is no more. -/
def Le2 (E F : Es) : Prop := E.Ok ∧ F.Ok ∧ E.has = F.has ∧ E.s ≤ F.s
theorem le2_zero : Le2 Es.zero Es.zero := ⟨Ok_zero, Ok_zero, rfl, Int.le_refl _⟩
theorem le2_next {E F : Es} (h : Le2 E F) {a b : Int} (hab : a ≤ b) : Le2 (E.smp a) (F.smp b) := by
  refine ⟨Ok_smp h.1 _, Ok_smp h.2.1 _, by rw [smp_has, smp_has], ?_⟩
  have hm := held_mono hab
  have h8 := td8 h.1.s0
  have g8 := td8 h.2.1.s0
  have h3 := h.2.2.2
  unfold Es.smp
  rw [← h.2.2.1]
  split <;> dsimp only <;> omega
theorem le2_told {E F : Es} (h : Le2 E F) : E.told ≤ F.told := by
  have h3 := h.2.2.2
  unfold Es.told
  rw [← h.2.2.1]
  split <;> omega

/-- Both stand in memory newer than W. -/
structure Bo (W w : World) (ta tb : TypeId) (ga gb : Nat) (E F : Es) : Prop where
  a : Rt ta w ga E
  b : Rt tb w gb F
  ne : ga ≠ gb
  na : W.heap.size ≤ ga
  nb : W.heap.size ≤ gb
  bl : Below W.heap.size W w
section
variable {W w w' : World} {ta tb : TypeId} {ga gb : Nat} {E F E' F' : Es}
theorem Bo.below (h : Bo W w ta tb ga gb E F) (b : Below w.heap.size w w') : Bo W w' ta tb ga gb E F := ⟨h.a.below b, h.b.below b, h.ne, h.na, h.nb, h.bl.trans (b.mono h.bl.size)⟩
theorem Bo.didA (h : Bo W w ta tb ga gb E F) (r : Rt ta w' ga E') (c : Ch w w' (fun k => k = ga)) : Bo W w' ta tb ga gb E' F := ⟨r, h.b.ch c (fun e => h.ne e.symm), h.ne, h.na, h.nb, below_ch h.bl c h.na⟩
theorem Bo.didB (h : Bo W w ta tb ga gb E F) (r : Rt tb w' gb F') (c : Ch w w' (fun k => k = gb)) : Bo W w' ta tb ga gb E F' := ⟨h.a.ch c h.ne, r, h.ne, h.na, h.nb, below_ch h.bl c h.nb⟩
theorem Bo.new {W w : World} (ta tb : TypeId) (h : Below W.heap.size W w) : Bo W ((w.alloc (.cells #[.bool false, .int .i64 0, .int .i64 0, .int .i64 0] ta)).alloc (.cells #[.bool false, .int .i64 0, .int .i64 0, .int .i64 0] tb)) ta tb w.heap.size (w.heap.size + 1) Es.zero Es.zero := by
  have hs : (w.alloc (.cells #[.bool false, .int .i64 0, .int .i64 0, .int .i64 0] ta)).heap.size = w.heap.size + 1 := by simp
  have h1 := h.alloc h.size (.cells #[.bool false, .int .i64 0, .int .i64 0, .int .i64 0] ta)
  have r := Rt.new tb (w.alloc (.cells #[.bool false, .int .i64 0, .int .i64 0, .int .i64 0] ta))
  rw [hs] at r
  have := h.size
  exact ⟨(Rt.new ta w).below (below_a _ _), r, by omega, h.size, by omega, h1.alloc (by rw [hs]; omega) _⟩
end

set_option maxHeartbeats 3200000 in
theorem Order_any (A : Option Addr) (n c : Nat) (l : List UInt8) (m : Nat) (W : World) (hl : RB W A n c l) (hm : m < 256) : Calls Try.prog 7 #[.slice A n c, .int .u8 (m : Int)] W (Held W) := by
  have HW := Lib.hid (wakes_any W)
  have HL := Lib.hid hl
  have hmx := hl.max
  have hcp := hl.cap
  clear hl
  by_cases hlong : 100 < n
  · go_enter Try.func7, Try.ntmps7
    go_wp2_with fail
    refine (HW.out).mono ?_
    rintro e w1 ⟨rfl, b1⟩
    have B1 := Lib.hid b1
    clear b1
    go_wp2_with fail
    go_ret
    exact ⟨rfl, B1.out⟩
  · go_enter Try.func7, Try.ntmps7
    go_wp2_with fail
    refine (HW.out).mono ?_
    rintro e w1 ⟨rfl, b1⟩
    have HB0 := Lib.hid (Bo.new 26 26 b1)
    clear b1
    go_wp2_with fail
    generalize hga : w1.heap.size = ga at *
    generalize hgb : ga + 1 = gb at *
    clear hga hgb HW
    generalize (w1.alloc (.cells #[.bool false, .int .i64 0, .int .i64 0, .int .i64 0] 26)).alloc (.cells #[.bool false, .int .i64 0, .int .i64 0, .int .i64 0] 26) = w2 at *
    go_loopw [20] (fun ix wr => ∃ (q : Nat) (E F : Es), q ≤ n ∧ ix = .int .i64 (q : Int) ∧ Le2 E F ∧ Bo W wr 26 26 ga gb E F) (fun ix _ => n - (intOf ix).toNat)
    case atStart => exact ⟨0, Es.zero, Es.zero, Nat.zero_le _, rfl, le2_zero, HB0.out⟩
    case round =>
      obtain ⟨q, E, F, hq, rfl, G, B⟩ := hrel
      have HG := Lib.hid G
      have HB := Lib.hid B
      by_cases hqn : q < n
      · obtain ⟨g, o, rfl, x0⟩ := (HL.out.below B.bl).at_ hqn
        have hx : (l.getD q 0).toNat < 256 := (l.getD q 0).toNat_lt
        generalize (l.getD q 0).toNat = x at *
        have HP := Lib.hid (Sample_any B.a G.1 (x : Int))
        have HQ := Lib.hid (fun (w3 : World) (b3 : Bo W w3 26 26 ga gb (E.smp (x : Int)) F) => Sample_any b3.b G.2.1 ((x : Int) + (m : Int)))
        have HN := Lib.hid (le2_next G (a := (x : Int)) (b := (x : Int) + (m : Int)) (by omega))
        have HD := Lib.hid (fun (w3 : World) (r3 : Rt 26 w3 ga (E.smp (x : Int))) (c3 : Ch wr w3 (fun k => k = ga)) => B.didA r3 c3)
        generalize E.smp (x : Int) = E2 at *
        generalize F.smp ((x : Int) + (m : Int)) = F2 at *
        have hw : IntKind.i64.wrap ((x : Int) + (m : Int)) = (x : Int) + (m : Int) := by rw [IntKind.wrap_i64]; omega
        unfold ptr at *
        clear G B
        go_wp2_with fail
        refine (HP.out).mono ?_
        rintro e w3 ⟨rfl, R3, C3⟩
        have B3 := Lib.hid (HD.out w3 R3 C3)
        have HQ3 := Lib.hid (HQ.out w3 B3.out)
        clear R3 C3 HP HQ HD
        go_wp2_with fail
        refine (HQ3.out).mono ?_
        rintro e w4 ⟨rfl, R4, C4⟩
        have B4 := Lib.hid (B3.out.didB R4 C4)
        have hle := le2_told HN.out
        have HX := Lib.hid (Smooth_any B4.out.a)
        have HY := Lib.hid (fun (w5 : World) (b5 : Below w4.heap.size w4 w5) => Smooth_any (B4.out.below b5).b)
        generalize E2.told = ea at *
        generalize F2.told = eb at *
        unfold ptr at *
        clear R4 C4 HQ3
        go_wp2_with fail
        refine (HX.out).mono ?_
        rintro e w5 ⟨rfl, b5⟩
        have HY5 := Lib.hid (HY.out w5 b5)
        have B5 := Lib.hid (B4.out.below b5)
        clear b5 HX HY
        go_wp2_with fail
        refine (HY5.out).mono ?_
        rintro e w6 ⟨rfl, b6⟩
        have B6 := Lib.hid (B5.out.below b6)
        clear b6 HY5
        go_wp2_with fail
        go_roundw
        case rel => exact ⟨q + 1, E2, F2, by omega, by go_num, HN.out, B6.out⟩
        case measure => simp [intOf]; omega
      · clear G B
        go_wp2_with fail
        go_ret
        exact ⟨rfl, HB.out.bl⟩

/-- An estimate doubled k times more. -/
def Es.at_ (E : Es) (k : Nat) : Es := ⟨E.has, E.s, E.v, k⟩
theorem at_ok {E : Es} (h : E.Ok) {k : Nat} (hk : k ≤ 1000000) : (E.at_ k).Ok := ⟨h.s0, h.s1, h.v0, h.v1, hk⟩
theorem at_wt {E : Es} (h : E.Ok) (k : Nat) : (E.at_ (k + 1)).wt = min (2 * (E.at_ k).wt) 16 := dbl_next (one_bd h).1
theorem at_zero {E : Es} (h : E.d = 0) : E.at_ 0 = E := by
  obtain ⟨a, b, c, d⟩ := E
  have : d = 0 := h
  subst this
  rfl

set_option maxHeartbeats 3200000 in
theorem Bounds_any (A : Option Addr) (n c : Nat) (l : List Int) (m : Nat) (W : World) (hl : RI .i64 W A n c l) (hz : ∀ z ∈ l, (Lit.int .i64 z).wf = true) (hm : m < 256) : Calls Try.prog 4 #[.slice A n c, .int .u8 (m : Int)] W (Held W) := by
  have HW := Lib.hid (wakes_any W)
  have HL := Lib.hid hl
  have hmx := hl.max
  have hcp := hl.cap
  have hlen := Lib.hid hl.len
  have HZ := Lib.hid hz
  clear hl hz
  by_cases hlong : 200 < n
  · go_enter Try.func4, Try.ntmps4
    go_wp2_with fail
    refine (HW.out).mono ?_
    rintro e w1 ⟨rfl, b1⟩
    have B1 := Lib.hid b1
    clear b1
    go_wp2_with fail
    go_ret
    exact ⟨rfl, B1.out⟩
  · go_enter Try.func4, Try.ntmps4
    go_wp2_with fail
    refine (HW.out).mono ?_
    rintro e w1 ⟨rfl, b1⟩
    have R0 := Lib.hid (Rt.new 26 w1)
    have B0 := Lib.hid (b1.alloc b1.size (.cells #[.bool false, .int .i64 0, .int .i64 0, .int .i64 0] 26))
    have HG := Lib.hid b1.size
    clear b1
    go_wp2_with fail
    clear HW
    generalize w1.heap.size = g at *
    generalize w1.alloc (.cells #[.bool false, .int .i64 0, .int .i64 0, .int .i64 0] 26) = w2 at *
    go_loopw [7, 19] (fun s7 ix wr => ∃ (q : Nat) (E : Es), q ≤ n ∧ ix = .int .i64 (q : Int) ∧ E.Ok ∧ E.d = 0 ∧ Rt 26 wr g E ∧ Below W.heap.size W wr) (fun _ ix _ => n - (intOf ix).toNat)
    case atStart => exact ⟨0, Es.zero, Nat.zero_le _, rfl, Ok_zero, rfl, R0.out, B0.out⟩
    case round =>
      obtain ⟨q, E, hq, rfl, O, hd, R, B⟩ := hrel
      have HO := Lib.hid O
      have HD := Lib.hid hd
      have HB := Lib.hid B
      by_cases hqn : q < n
      · obtain ⟨gl, ol, rfl, x0⟩ := (HL.out.below B).at_ hqn
        generalize l.getD q 0 = x at *
        have HP := Lib.hid (Sample_any R O x)
        have HN := Lib.hid (Ok_smp O x)
        have HD2 := Lib.hid ((smp_d E x).trans hd)
        generalize E.smp x = E2 at *
        unfold ptr at *
        clear O hd R B
        go_wp2_with fail
        refine (HP.out).mono ?_
        rintro e w3 ⟨rfl, R3, C3⟩
        have B3 := Lib.hid (below_ch HB.out C3 HG.out)
        have HR3 := Lib.hid R3
        clear R3 C3 HP
        go_wp2_with fail
        go_roundw
        case rel => exact ⟨q + 1, E2, by omega, by go_num, HN.out, HD2.out, HR3.out, B3.out⟩
        case measure => simp [intOf]; omega
      · have HA : Hid (∀ (k : Nat) (w : World), k ≤ 1000 → Rt 26 w g (E.at_ k) → Calls Try.prog 13 #[ptr g] w fun e w' => e = .returned (.int .i64 (E.at_ k).wt) ∧ Below w.heap.size w w') :=
          Lib.hid fun k w hk r => Wait_any r (at_ok O (by omega))
        have HK : Hid (∀ (k : Nat) (w : World), k ≤ 1000 → Rt 26 w g (E.at_ k) → Calls Try.prog 11 #[ptr g] w (Did 26 w g (E.at_ (k + 1)))) :=
          Lib.hid fun k w hk r => Back_any r (show k < 1000000 by omega)
        have HF : Hid (∀ (k : Nat) (w : World), Rt 26 w g (E.at_ k) → Calls Try.prog 12 #[ptr g] w (Did 26 w g (E.at_ 0))) :=
          Lib.hid fun k w r => Fresh_any (E := E.at_ k) r
        have HQ : Hid (∀ k : Nat, (E.at_ (k + 1)).wt = min (2 * (E.at_ k).wt) 16) := Lib.hid fun k => at_wt O k
        have HQ2 : Hid (∀ k : Nat, k ≤ 1000 → 2 ≤ (E.at_ k).wt ∧ (E.at_ k).wt ≤ 16) := Lib.hid fun k hk => wt_bd (at_ok O (by omega))
        have HR : Hid (Rt 26 wr g (E.at_ 0)) := Lib.hid (by rw [at_zero hd]; exact R)
        clear O hd R B HO HD
        have HX := Lib.hid (HA.out 0 wr (by omega) HR.out)
        unfold ptr at *
        go_wp2_with fail
        refine (HX.out).mono ?_
        rintro e w3 ⟨rfl, b3⟩
        have HR3 := Lib.hid (HR.out.below b3)
        have HB3 := Lib.hid (HB.out.trans (b3.mono HB.out.size))
        clear b3 HX HR HB
        go_wp2_with fail
        go_loopw [9, 31] (fun s9 ix wr2 => ∃ (k : Nat), k ≤ m ∧ ix = .int .u8 (k : Int) ∧ s9 = .int .i64 (E.at_ k).wt ∧ Rt 26 wr2 g (E.at_ k) ∧ Below W.heap.size W wr2) (fun _ ix _ => m - (intOf ix).toNat)
        case atStart => exact ⟨0, Nat.zero_le _, rfl, rfl, HR3.out, HB3.out⟩
        case round =>
          obtain ⟨k, hk, rfl, rfl, R4, B4⟩ := hrel
          have HB4 := Lib.hid B4
          have HR4 := Lib.hid R4
          have hb0 := HQ2.out 0 (by omega)
          have hbk := HQ2.out k (by omega)
          by_cases hkm : k < m
          · have hb1 := HQ2.out (k + 1) (by omega)
            have hq1 := HQ.out k
            have HP := Lib.hid (HK.out k wr (by omega) R4)
            have HY := Lib.hid (fun w r => HA.out (k + 1) w (by omega) r)
            clear R4 B4
            generalize hy0 : (E.at_ k).wt = y0 at *
            generalize hy1 : (E.at_ (k + 1)).wt = y1 at *
            have HY1 := Lib.hid hy1
            clear hy0 hy1
            have g1 : ¬ y1 < y0 := by omega
            have g2 : ¬ 16 < y1 := by omega
            have g3 : ¬ y1 < min (2 * y0) 16 := by omega
            have hw : IntKind.i64.wrap (2 * y0) = 2 * y0 := by rw [IntKind.wrap_i64]; omega
            have hwk : IntKind.u8.wrap ((k : Int) + 1) = (k : Int) + 1 := by simp [IntKind.wrap, IntKind.bits, IntKind.signed]; omega
            clear hq1
            unfold ptr at *
            go_wp2_with fail
            refine (HP.out).mono ?_
            rintro e w5 ⟨rfl, R5, C5⟩
            have B5 := Lib.hid (below_ch HB4.out C5 HG.out)
            have HR5 := Lib.hid R5
            have HX5 := Lib.hid (HY.out w5 R5)
            clear R5 C5 HP
            go_wp2_with fail
            refine (HX5.out).mono ?_
            rintro e w6 ⟨rfl, b6⟩
            have HR6 := Lib.hid (HR5.out.below b6)
            have B6 := Lib.hid (B5.out.trans (b6.mono B5.out.size))
            have HX6 := Lib.hid (HY.out w6 HR6.out)
            clear b6 HX5
            go_wp2_with fail
            refine (HX6.out).mono ?_
            rintro e w7 ⟨rfl, b7⟩
            have HR7 := Lib.hid (HR6.out.below b7)
            have B7 := Lib.hid (B6.out.trans (b7.mono B6.out.size))
            have HX7 := Lib.hid (HY.out w7 HR7.out)
            clear b7 HX6
            go_wp2_with fail
            refine (HX7.out).mono ?_
            rintro e w8 ⟨rfl, b8⟩
            have HR8 := Lib.hid (HR7.out.below b8)
            have B8 := Lib.hid (B7.out.trans (b8.mono B7.out.size))
            have HX8 := Lib.hid (HY.out w8 HR8.out)
            clear b8 HX7
            go_wp2_with fail
            refine (HX8.out).mono ?_
            rintro e w9 ⟨rfl, b9⟩
            have HR9 := Lib.hid (HR8.out.below b9)
            have B9 := Lib.hid (B8.out.trans (b9.mono B8.out.size))
            clear b9 HX8
            go_wp2_with fail
            go_roundw
            case rel => exact ⟨k + 1, by omega, by go_num, by rw [HY1.out], HR9.out, B9.out⟩
            case measure => simp [intOf]; omega
          · have HP := Lib.hid (HF.out k wr R4)
            have HY := Lib.hid (fun w r => HA.out 0 w (by omega) r)
            clear R4 B4
            generalize (E.at_ k).wt = y0 at *
            generalize (E.at_ 0).wt = y1 at *
            unfold ptr at *
            go_wp2_with fail
            refine (HP.out).mono ?_
            rintro e w5 ⟨rfl, R5, C5⟩
            have B5 := Lib.hid (below_ch HB4.out C5 HG.out)
            have HX5 := Lib.hid (HY.out w5 R5)
            clear R5 C5 HP
            go_wp2_with fail
            refine (HX5.out).mono ?_
            rintro e w6 ⟨rfl, b6⟩
            have B6 := Lib.hid (B5.out.trans (b6.mono B5.out.size))
            clear b6 HX5
            go_wp2_with fail
            go_ret
            exact ⟨rfl, B6.out⟩
end Go.Proofs.Ytlpndfmokebflaa
