/- The law SpanActs. Conditions: the acts lie where the slice says. -/
import Derived.Test.YteiojdmnfjcagaaSpU
namespace Go.Proofs.Yteiojdmnfjcagaa
set_option linter.unusedVariables false
set_option linter.unusedSimpArgs false
open Go.RowKit Go.Lib

set_option maxRecDepth 8000 in
set_option maxHeartbeats 16000000 in
theorem Acts_any (A : Option Addr) (na ca : Nat) (ac : List (Int × Int × Int)) (W : World) (hA : Tri W A na ca ac) :
    Calls Try.prog 3 #[.slice A na ca] W (Held W) := by
  have HW := Lib.hid (wakes_any W)
  have HA := Lib.hid hA
  have hcap := hA.cap
  have hmax := hA.max
  clear hA
  go_enter Try.func3, Try.ntmps3
  go_wp2_with fail
  refine (HW.out).mono ?_
  rintro e w1 ⟨rfl, b1⟩
  have B1 := Lib.hid b1
  clear b1 HW
  by_cases hn : 60 < na
  · have hn1 : (60 : Int) < (na : Int) := by omega
    go_wp2_with fail
    go_ret
    exact ⟨rfl, B1.out⟩
  have hn1 : ¬ (60 : Int) < (na : Int) := by omega
  have HN := Lib.hid (newS W w1 B1.out)
  go_wp2_with fail
  refine (HN.out).mono ?_
  rintro e w2 ⟨sb, v2, rfl, S2, _, _, _⟩
  have HS2 := Lib.hid S2
  have HX := Lib.hid (xnew_any w2)
  clear S2 HN
  go_wp2_with fail
  refine (HX.out).mono ?_
  rintro e w3 ⟨xb, rb, rfl, X3, b3, hxb, hrb⟩
  have HB3 : Hid (Bo W w3 sb v2 [] xb rb (fun _ => false)) := Lib.hid ⟨HS2.out.below b3, X3, Nat.le_trans HS2.out.bel.size hrb, fun e => by have := HS2.out.st.lt; omega, fun e => by have := HS2.out.st.lt; omega, fun e => by have := HS2.out.st.row.lt e; omega, fun e => by have := HS2.out.st.row.lt e; omega⟩
  clear X3 b3 hxb hrb HX HS2
  unfold ptr
  go_wp2_with fail
  go_loopw [19] (fun ix wr => ∃ (q : Nat) (vs : Value) (ls : List Rn) (b : Nat → Bool), q ≤ na ∧ ix = .int .i64 (q : Int) ∧ Bo W wr sb vs ls xb rb b ∧ Tw ls b) (fun ix _ => na - (intOf ix).toNat)
  case atStart => exact ⟨0, _, _, _, Nat.zero_le _, rfl, HB3.out, Tw.nil⟩
  case round =>
    obtain ⟨q, vs, ls, b, hq, rfl, S, T⟩ := hrel
    have HS := Lib.hid S
    have HTW := Lib.hid T
    by_cases hqn : q < na
    · obtain ⟨g, o, rfl, hce⟩ := (HA.out.below S.s.bel).mem (by omega)
      obtain ⟨x0, x1, x2⟩ := hce q hqn
      obtain ⟨_, hfi, hgi⟩ := HA.out.elem hqn
      generalize ac.getD q z3 = r at *
      obtain ⟨kd, f, gg⟩ := r
      dsimp only at *
      have hfi : isI f := hfi
      have hgi : isI gg := hgi
      have HBA := Lib.hid (S.below (below_a wr (.cells #[.int .i64 kd, .int .i64 f, .int .i64 gg] 29)))
      obtain ⟨e0, e1, e2⟩ := cell3 wr (.int .i64 kd) (.int .i64 f) (.int .i64 gg) 29
      have HNE : Hid (∀ k, k = wr.heap.size → ¬ (k = sb ∨ vs.ownBlock = some k)) := Lib.hid (fun k e h => by
        rcases h with h | h
        · have := HS.out.s.st.lt; omega
        · have := HS.out.s.st.row.lt h; omega)
      have HNR : Hid (∀ k, k = wr.heap.size → ¬ k = rb) := Lib.hid (fun k e h => by have := HS.out.x.rlt; omega)
      clear S T hce
      go_upto_region 9 with (fail)
      clear x0 x1 x2
      generalize wr.alloc (.cells #[.int .i64 kd, .int .i64 f, .int .i64 gg] 29) = w4 at *
      generalize wr.heap.size = ab at *
      by_cases hk : kd = 0
      · subst hk
        have hu1 := hfi.1
        have hu2 := hfi.2
        have hv1 := hgi.1
        have hv2 := hgi.2
        by_cases k1 : 200 ≤ f
        · have k1' : decide (200 ≤ f) = true := decide_eq_true k1
          go_wp2_with fail
          go_roundw
          case rel => exact ⟨q + 1, _, _, _, by omega, by go_num, HBA.out, HTW.out⟩
          case measure => simp [intOf]; omega
        by_cases k2 : 200 < gg
        · have k2' : decide (200 < gg) = true := decide_eq_true k2
          go_wp2_with fail
          go_roundw
          case rel => exact ⟨q + 1, _, _, _, by omega, by go_num, HBA.out, HTW.out⟩
          case measure => simp [intOf]; omega
        have hw1 : IntKind.i64.wrap (f + max gg 0) = f + max gg 0 := by rw [IntKind.wrap_i64]; omega
        by_cases k3 : 200 < f + max gg 0 ∧ 0 < f
        · have k3' := k3.1
          have k4' := k3.2
          go_wp2_with fail
          go_roundw
          case rel => exact ⟨q + 1, _, _, _, by omega, by go_num, HBA.out, HTW.out⟩
          case measure => simp [intOf]; omega
        have hskip := k3
        have k5 : ¬ 200 < f + max gg 0 ∨ ¬ 0 < f := by omega
        obtain ⟨z, hz⟩ : ∃ z, IntKind.i64.wrap (f + gg) = z := ⟨_, rfl⟩
        by_cases m3 : f < 0 ∧ -200 < f ∧ 200 < z
        · obtain ⟨m1, m2, m4⟩ := m3
          have k6 : ¬ 0 < f := by omega
          have k7 : ¬ 200 < f + max gg 0 := by omega
          clear k5 hskip k3
          go_wp2_with fail
          go_roundw
          case rel => exact ⟨q + 1, _, _, _, by omega, by go_num, HBA.out, HTW.out⟩
          case measure => simp [intOf]; omega
        have k7 : ¬ 200 < f + max gg 0 := by omega
        have m6 : (¬ f < 0) ∨ (f < 0 ∧ ¬ -200 < f) ∨ (f < 0 ∧ -200 < f ∧ ¬ 200 < z) := by omega
        clear k5 k3 m3
        rcases m6 with m6 | ⟨m6, m7⟩ | ⟨m6, m7, m8⟩
        all_goals
          have HE4 : Hid (∀ V, Below w4.heap.size w4 V → V.cell? ⟨ab, 1, none⟩ = some (.int .i64 f) ∧ V.cell? ⟨ab, 2, none⟩ = some (.int .i64 gg)) := Lib.hid (fun V hb => ⟨keepc hb e1, keepc hb e2⟩)
          obtain ⟨d, hd⟩ : ∃ d, d = cnt (addB b (max f (-1099511627776)) gg) 200 - cnt b 200 := ⟨_, rfl⟩
          have HSA : Hid (∀ V, Below w4.heap.size w4 V → Calls Try.prog 11 #[ptr sb, .int .i64 f, .int .i64 gg] V fun e w' => e = .returned (.int .i64 d) ∧ ∃ v9 l9, Bo W w' sb v9 l9 xb rb b ∧ Tw l9 (addB b (max f (-1099511627776)) gg) ∧ w'.cell? ⟨ab, 1, none⟩ = some (.int .i64 f) ∧ w'.cell? ⟨ab, 2, none⟩ = some (.int .i64 gg)) := Lib.hid (fun V hb => ((HBA.out.below hb).s.add hfi hgi).mono (by
            rintro e w' ⟨v9, l9, rfl, s9, a9, _, c9, o9⟩
            have t9 : Tw l9 (addB b (max f (-1099511627776)) gg) := HTW.out.add a9 (by omega) (by omega) hskip
            refine ⟨by rw [hd, t9.many s9.tid, HTW.out.many HBA.out.s.st.tid], v9, l9, (HBA.out.below hb).stepS s9 c9 o9, t9, c9.cell (HE4.out V hb).1 (HNE.out ab rfl), c9.cell (HE4.out V hb).2 (HNE.out ab rfl)⟩))
          have HXA : Hid (∀ V v9 l9, Bo W V sb v9 l9 xb rb b → V.cell? ⟨ab, 1, none⟩ = some (.int .i64 f) → V.cell? ⟨ab, 2, none⟩ = some (.int .i64 gg) → Calls Try.prog 12 #[ptr xb, .int .i64 (max f (-1099511627776)), .int .i64 gg] V fun e w' => e = .returned (.int .i64 d) ∧ Bo W w' sb v9 l9 xb rb (addB b (max f (-1099511627776)) gg) ∧ w'.cell? ⟨ab, 1, none⟩ = some (.int .i64 f) ∧ w'.cell? ⟨ab, 2, none⟩ = some (.int .i64 gg)) := Lib.hid (fun V v9 l9 hB h1 h2 => (xadd_any hB.x (by omega) (f := max f (-1099511627776)) (g := gg) (by have h1 := hfi.1; have h2 := hfi.2; omega) hgi).mono (by
            rintro e w' ⟨rfl, x9, c9⟩
            refine ⟨by rw [hd], hB.stepX x9 c9, c9.cell h1 (HNR.out ab rfl), c9.cell h2 (HNR.out ab rfl)⟩))
          generalize addB b (max f (-1099511627776)) gg = b9 at *
          unfold ptr at HSA HXA
          clear hd
          go_upto_region 12 with (fail)
          obtain ⟨f1, f2⟩ := HE4.out w4.drew (Below.refl _ _).drew
          clear e0 e1 e2
          go_region_held3 (fun V => V.cell? ⟨ab, 1, none⟩ = some (.int .i64 f) ∧ V.cell? ⟨ab, 2, none⟩ = some (.int .i64 gg))
            (first
              | exact ⟨f1, f2⟩
              | exact ⟨g1, g2⟩
              | exact ⟨h1, h2⟩)
            (first
              | (go_at_call 11; refine (HSA.out _ (Below.refl _ _).drew).mono ?_; rintro e w6 ⟨rfl, v9, l9, B6, t9, g1, g2⟩; have HB6 := Lib.hid B6; have HT9 := Lib.hid t9; clear B6 t9)
              | (go_at_call 12; refine (HXA.out _ _ _ HB6.out g1 g2).mono ?_; rintro e w7 ⟨rfl, B7, h1, h2⟩; have HB9 := Lib.hid B7; clear B7))
          all_goals
            clear f1 f2 g1 g2 h1 h2 HSA HXA HE4 HB6
            have hbd := cnt_bd b9 200
            have HTID := Lib.hid HB9.out.s.st.tid
            have cx := HB9.out.x.c0
            go_wp2_with fail
            go_loopw [7, 92] (fun s7 ix wr => ∃ p : Nat, p ≤ 200 ∧ ix = .int .i64 (p : Int) ∧ s7 = .int .i64 (cnt b9 p) ∧ Bo W wr sb v9 l9 xb rb b9) (fun _ ix _ => 200 - (intOf ix).toNat)
            case atStart => exact ⟨0, Nat.zero_le _, rfl, rfl, HB9.out⟩
            case round =>
              obtain ⟨p, hp, rfl, rfl, S9⟩ := hrel
              have HS9 := Lib.hid S9
              by_cases hpn : p < 200
              · have x0 := S9.x.cell hpn
                have hpi : isI (p : Int) := by unfold isI; omega
                have HHA := Lib.hid (Has_any S9.s.st hpi)
                have HNX := Lib.hid (fun w h => Next_any (w := w) (sb := sb) (v := v9) (l := l9) h hpi)
                have hbp := cnt_bd b9 p
                have HC1 : Hid (cnt b9 (p + 1) = cnt b9 p + if b9 p then 1 else 0) := Lib.hid rfl
                unfold ptr at HHA HNX
                clear S9 cx
                cases hb : b9 p with
                | true =>
                  rw [hb] at x0
                  go_wp2_with fail
                  refine (HHA.out).mono ?_
                  rintro e w20 ⟨c, rfl, hc, b20⟩
                  obtain rfl : c = true := (HT9.out.hasB hpn hc).trans hb
                  have HS20 := Lib.hid (HS9.out.below b20)
                  have HN20 := Lib.hid (HNX.out _ HS20.out.s.st)
                  clear hc b20 x0 HHA
                  go_wp2_with fail
                  refine (HN20.out).mono ?_
                  rintro e w21 ⟨xx, rfl, hx, b21⟩
                  have HS21 := Lib.hid (HS20.out.below b21)
                  have HXN := Lib.hid (xnext_any HS21.out.x (by omega) (f := p) hp)
                  have HX := Lib.hid hx
                  unfold ptr at HXN
                  clear hx b21 HN20
                  go_wp2_with fail
                  refine (HXN.out).mono ?_
                  rintro e w22 ⟨⟨y, rfl, hy⟩, rfl⟩
                  obtain rfl : xx = (y : Int) := HT9.out.next (q := p) (by omega) HX.out hy
                  have hw : IntKind.i64.wrap (cnt b9 p + 1) = cnt b9 p + 1 := by rw [IntKind.wrap_i64]; omega
                  clear hy HX HXN
                  go_wp2_with fail
                  go_roundw
                  case rel => exact ⟨p + 1, by omega, by go_num, by rw [HC1.out, hb]; rfl, HS21.out⟩
                  case measure => simp [intOf]; omega
                | false =>
                  rw [hb] at x0
                  go_wp2_with fail
                  refine (HHA.out).mono ?_
                  rintro e w20 ⟨c, rfl, hc, b20⟩
                  obtain rfl : c = false := (HT9.out.hasB hpn hc).trans hb
                  have HS20 := Lib.hid (HS9.out.below b20)
                  have HN20 := Lib.hid (HNX.out _ HS20.out.s.st)
                  clear hc b20 x0 HHA
                  go_wp2_with fail
                  refine (HN20.out).mono ?_
                  rintro e w21 ⟨xx, rfl, hx, b21⟩
                  have HS21 := Lib.hid (HS20.out.below b21)
                  have HXN := Lib.hid (xnext_any HS21.out.x (by omega) (f := p) hp)
                  have HX := Lib.hid hx
                  unfold ptr at HXN
                  clear hx b21 HN20
                  go_wp2_with fail
                  refine (HXN.out).mono ?_
                  rintro e w22 ⟨⟨y, rfl, hy⟩, rfl⟩
                  obtain rfl : xx = (y : Int) := HT9.out.next (q := p) (by omega) HX.out hy
                  clear hy HX HXN
                  go_wp2_with fail
                  go_roundw
                  case rel => exact ⟨p + 1, by omega, by go_num, by rw [HC1.out, hb]; simp, HS21.out⟩
                  case measure => simp [intOf]; omega
              · obtain rfl : p = 200 := by omega
                have HMY := Lib.hid (Many_any S9.s.st)
                rw [HT9.out.many HTID.out] at HMY
                unfold ptr at HMY
                clear S9 cx
                go_wp2_with fail
                refine (HMY.out).mono ?_
                rintro e w20 ⟨rfl, b20⟩
                have HS20 := Lib.hid (HS9.out.below b20)
                have HRU := Lib.hid (Runs_any HS20.out.s.st)
                unfold ptr at HRU
                clear b20 HMY
                go_wp2_with fail
                refine (HRU.out).mono ?_
                rintro e w21 ⟨u, rfl, r21, _, b21⟩
                have HS21 := Lib.hid (HS20.out.below b21)
                have HTI := Lib.hid (tidy_any r21 HTID.out)
                clear r21 b21 HRU
                go_wp2_with fail
                refine (HTI.out).mono ?_
                rintro e w22 ⟨rfl, b22⟩
                have HS22 := Lib.hid (HS21.out.below b22)
                have HHA := Lib.hid (Has_any HS22.out.s.st (x := -1) (by unfold isI; omega))
                unfold ptr at HHA
                clear b22 HTI
                go_wp2_with fail
                refine (HHA.out).mono ?_
                rintro e w23 ⟨c, rfl, hc, b23⟩
                obtain rfl : c = false := by
                  cases c with
                  | false => rfl
                  | true => exact absurd (has_ge HTID.out (hc.1 rfl)).1 (by omega)
                have HS23 := Lib.hid (HS22.out.below b23)
                have HN23 := Lib.hid (Next_any HS23.out.s.st (f := -5) (by unfold isI; omega))
                unfold ptr at HN23
                clear hc b23 HHA
                go_wp2_with fail
                refine (HN23.out).mono ?_
                rintro e w24 ⟨xx, rfl, hx, b24⟩
                have HS24 := Lib.hid (HS23.out.below b24)
                have HXN := Lib.hid (xnext_any HS24.out.x (by omega) (f := 0) (by omega))
                have HX := Lib.hid hx
                unfold ptr at HXN
                clear hx b24 HN23
                go_wp2_with fail
                refine (HXN.out).mono ?_
                rintro e w25 ⟨⟨y, rfl, hy⟩, rfl⟩
                obtain rfl : xx = (y : Int) := HT9.out.next (f := -5) (q := 0) (by omega) HX.out hy
                clear hy HX HXN
                go_wp2_with fail
                go_roundw
                case rel => exact ⟨q + 1, _, _, _, by omega, by go_num, HS24.out, HT9.out⟩
                case measure => simp [intOf]; omega
      · have hk1 : (kd == 0) = false := by simpa using hk
        have HE4 : Hid (∀ V, Below w4.heap.size w4 V → V.cell? ⟨ab, 1, none⟩ = some (.int .i64 f) ∧ V.cell? ⟨ab, 2, none⟩ = some (.int .i64 gg)) := Lib.hid (fun V hb => ⟨keepc hb e1, keepc hb e2⟩)
        obtain ⟨d, hd⟩ : ∃ d, d = cnt b 200 - cnt (dropB b f) 200 := ⟨_, rfl⟩
        have HSA : Hid (∀ V, Below w4.heap.size w4 V → Calls Try.prog 13 #[ptr sb, .int .i64 f] V fun e w' => e = .returned (.int .i64 d) ∧ ∃ v9 l9, Bo W w' sb v9 l9 xb rb b ∧ Tw l9 (dropB b f) ∧ w'.cell? ⟨ab, 1, none⟩ = some (.int .i64 f) ∧ w'.cell? ⟨ab, 2, none⟩ = some (.int .i64 gg)) := Lib.hid (fun V hb => (Drop_any (HBA.out.below hb).s.st hfi).mono (by
          rintro e w' ⟨v9, l9, rfl, s9, a9, _, c9, o9⟩
          have t9 : Tw l9 (dropB b f) := HTW.out.drop a9
          refine ⟨by rw [hd, t9.many s9.tid, HTW.out.many HBA.out.s.st.tid], v9, l9, (HBA.out.below hb).stepS s9 c9 o9, t9, c9.cell (HE4.out V hb).1 (HNE.out ab rfl), c9.cell (HE4.out V hb).2 (HNE.out ab rfl)⟩))
        have HXA : Hid (∀ V v9 l9, Bo W V sb v9 l9 xb rb b → V.cell? ⟨ab, 1, none⟩ = some (.int .i64 f) → V.cell? ⟨ab, 2, none⟩ = some (.int .i64 gg) → Calls Try.prog 14 #[ptr xb, .int .i64 f] V fun e w' => e = .returned (.int .i64 d) ∧ Bo W w' sb v9 l9 xb rb (dropB b f) ∧ w'.cell? ⟨ab, 1, none⟩ = some (.int .i64 f) ∧ w'.cell? ⟨ab, 2, none⟩ = some (.int .i64 gg)) := Lib.hid (fun V v9 l9 hB h1 h2 => (xdrop_any hB.x (by omega) hfi).mono (by
          rintro e w' ⟨rfl, x9, c9⟩
          refine ⟨by rw [hd], hB.stepX x9 c9, c9.cell h1 (HNR.out ab rfl), c9.cell h2 (HNR.out ab rfl)⟩))
        generalize dropB b f = b9 at *
        unfold ptr at HSA HXA
        clear hd
        go_upto_region 14 with (fail)
        obtain ⟨f1, f2⟩ := HE4.out w4.drew (Below.refl _ _).drew
        clear e0 e1 e2
        go_region_held3 (fun V => V.cell? ⟨ab, 1, none⟩ = some (.int .i64 f) ∧ V.cell? ⟨ab, 2, none⟩ = some (.int .i64 gg))
          (first
            | exact ⟨f1, f2⟩
            | exact ⟨g1, g2⟩
            | exact ⟨h1, h2⟩)
          (first
            | (go_at_call 13; refine (HSA.out _ (Below.refl _ _).drew).mono ?_; rintro e w6 ⟨rfl, v9, l9, B6, t9, g1, g2⟩; have HB6 := Lib.hid B6; have HT9 := Lib.hid t9; clear B6 t9)
            | (go_at_call 14; refine (HXA.out _ _ _ HB6.out g1 g2).mono ?_; rintro e w7 ⟨rfl, B7, h1, h2⟩; have HB9 := Lib.hid B7; clear B7))
        all_goals
          clear f1 f2 g1 g2 h1 h2 HSA HXA HE4 HB6
          have hbd := cnt_bd b9 200
          have HTID := Lib.hid HB9.out.s.st.tid
          have cx := HB9.out.x.c0
          go_wp2_with fail
          go_loopw [7, 92] (fun s7 ix wr => ∃ p : Nat, p ≤ 200 ∧ ix = .int .i64 (p : Int) ∧ s7 = .int .i64 (cnt b9 p) ∧ Bo W wr sb v9 l9 xb rb b9) (fun _ ix _ => 200 - (intOf ix).toNat)
          case atStart => exact ⟨0, Nat.zero_le _, rfl, rfl, HB9.out⟩
          case round =>
            obtain ⟨p, hp, rfl, rfl, S9⟩ := hrel
            have HS9 := Lib.hid S9
            by_cases hpn : p < 200
            · have x0 := S9.x.cell hpn
              have hpi : isI (p : Int) := by unfold isI; omega
              have HHA := Lib.hid (Has_any S9.s.st hpi)
              have HNX := Lib.hid (fun w h => Next_any (w := w) (sb := sb) (v := v9) (l := l9) h hpi)
              have hbp := cnt_bd b9 p
              have HC1 : Hid (cnt b9 (p + 1) = cnt b9 p + if b9 p then 1 else 0) := Lib.hid rfl
              unfold ptr at HHA HNX
              clear S9 cx
              cases hb : b9 p with
              | true =>
                rw [hb] at x0
                go_wp2_with fail
                refine (HHA.out).mono ?_
                rintro e w20 ⟨c, rfl, hc, b20⟩
                obtain rfl : c = true := (HT9.out.hasB hpn hc).trans hb
                have HS20 := Lib.hid (HS9.out.below b20)
                have HN20 := Lib.hid (HNX.out _ HS20.out.s.st)
                clear hc b20 x0 HHA
                go_wp2_with fail
                refine (HN20.out).mono ?_
                rintro e w21 ⟨xx, rfl, hx, b21⟩
                have HS21 := Lib.hid (HS20.out.below b21)
                have HXN := Lib.hid (xnext_any HS21.out.x (by omega) (f := p) hp)
                have HX := Lib.hid hx
                unfold ptr at HXN
                clear hx b21 HN20
                go_wp2_with fail
                refine (HXN.out).mono ?_
                rintro e w22 ⟨⟨y, rfl, hy⟩, rfl⟩
                obtain rfl : xx = (y : Int) := HT9.out.next (q := p) (by omega) HX.out hy
                have hw : IntKind.i64.wrap (cnt b9 p + 1) = cnt b9 p + 1 := by rw [IntKind.wrap_i64]; omega
                clear hy HX HXN
                go_wp2_with fail
                go_roundw
                case rel => exact ⟨p + 1, by omega, by go_num, by rw [HC1.out, hb]; rfl, HS21.out⟩
                case measure => simp [intOf]; omega
              | false =>
                rw [hb] at x0
                go_wp2_with fail
                refine (HHA.out).mono ?_
                rintro e w20 ⟨c, rfl, hc, b20⟩
                obtain rfl : c = false := (HT9.out.hasB hpn hc).trans hb
                have HS20 := Lib.hid (HS9.out.below b20)
                have HN20 := Lib.hid (HNX.out _ HS20.out.s.st)
                clear hc b20 x0 HHA
                go_wp2_with fail
                refine (HN20.out).mono ?_
                rintro e w21 ⟨xx, rfl, hx, b21⟩
                have HS21 := Lib.hid (HS20.out.below b21)
                have HXN := Lib.hid (xnext_any HS21.out.x (by omega) (f := p) hp)
                have HX := Lib.hid hx
                unfold ptr at HXN
                clear hx b21 HN20
                go_wp2_with fail
                refine (HXN.out).mono ?_
                rintro e w22 ⟨⟨y, rfl, hy⟩, rfl⟩
                obtain rfl : xx = (y : Int) := HT9.out.next (q := p) (by omega) HX.out hy
                clear hy HX HXN
                go_wp2_with fail
                go_roundw
                case rel => exact ⟨p + 1, by omega, by go_num, by rw [HC1.out, hb]; simp, HS21.out⟩
                case measure => simp [intOf]; omega
            · obtain rfl : p = 200 := by omega
              have HMY := Lib.hid (Many_any S9.s.st)
              rw [HT9.out.many HTID.out] at HMY
              unfold ptr at HMY
              clear S9 cx
              go_wp2_with fail
              refine (HMY.out).mono ?_
              rintro e w20 ⟨rfl, b20⟩
              have HS20 := Lib.hid (HS9.out.below b20)
              have HRU := Lib.hid (Runs_any HS20.out.s.st)
              unfold ptr at HRU
              clear b20 HMY
              go_wp2_with fail
              refine (HRU.out).mono ?_
              rintro e w21 ⟨u, rfl, r21, _, b21⟩
              have HS21 := Lib.hid (HS20.out.below b21)
              have HTI := Lib.hid (tidy_any r21 HTID.out)
              clear r21 b21 HRU
              go_wp2_with fail
              refine (HTI.out).mono ?_
              rintro e w22 ⟨rfl, b22⟩
              have HS22 := Lib.hid (HS21.out.below b22)
              have HHA := Lib.hid (Has_any HS22.out.s.st (x := -1) (by unfold isI; omega))
              unfold ptr at HHA
              clear b22 HTI
              go_wp2_with fail
              refine (HHA.out).mono ?_
              rintro e w23 ⟨c, rfl, hc, b23⟩
              obtain rfl : c = false := by
                cases c with
                | false => rfl
                | true => exact absurd (has_ge HTID.out (hc.1 rfl)).1 (by omega)
              have HS23 := Lib.hid (HS22.out.below b23)
              have HN23 := Lib.hid (Next_any HS23.out.s.st (f := -5) (by unfold isI; omega))
              unfold ptr at HN23
              clear hc b23 HHA
              go_wp2_with fail
              refine (HN23.out).mono ?_
              rintro e w24 ⟨xx, rfl, hx, b24⟩
              have HS24 := Lib.hid (HS23.out.below b24)
              have HXN := Lib.hid (xnext_any HS24.out.x (by omega) (f := 0) (by omega))
              have HX := Lib.hid hx
              unfold ptr at HXN
              clear hx b24 HN23
              go_wp2_with fail
              refine (HXN.out).mono ?_
              rintro e w25 ⟨⟨y, rfl, hy⟩, rfl⟩
              obtain rfl : xx = (y : Int) := HT9.out.next (f := -5) (q := 0) (by omega) HX.out hy
              clear hy HX HXN
              go_wp2_with fail
              go_roundw
              case rel => exact ⟨q + 1, _, _, _, by omega, by go_num, HS24.out, HT9.out⟩
              case measure => simp [intOf]; omega
    · obtain rfl : q = na := by omega
      have HBL := Lib.hid S.s.bel
      clear S T
      go_wp2_with fail
      go_ret
      exact ⟨rfl, HBL.out⟩
end Go.Proofs.Yteiojdmnfjcagaa
