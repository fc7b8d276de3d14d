/- The document's manager: Untold and Join, walked. Conditions: it stands. -/
import Derived.Test.YtpkhalneclmoeaaPaQ
namespace Go.Proofs.Ytpkhalneclmoeaa
set_option linter.unusedVariables false
set_option linter.unusedSimpArgs false
open Go.RowKit Go.Lib

theorem out_ch {w w' : World} {xb b0 : Nat} {base : Nat} {p : Pm} {L : List (Int × Int)} {y : Rx} {v : Value} {n : Nat} {l : List (Int × Int)} (h : Rf base w xb p L y) (o : w.ownsRow b0 48 2 v n (pv l)) (c : Ch w w' (fun k => k = xb)) : w'.ownsRow b0 48 2 v n (pv l) :=
  own_ch2 o c (fun g hg e => own_type o h.blk (by decide) (by rw [hg, e]))

set_option maxHeartbeats 3200000 in
theorem runtold_any {base : Nat} {w : World} {xb : Nat} {p : Pm} {L : List (Int × Int)} {y : Rx} (h : Rf base w xb p L y) (hb : base ≤ w.heap.size) (x : Int) : Calls Try.prog 18 #[ptr xb, .int .i64 x] w (DidLR base w xb y (p.untL x) (p.untoS x)) := by
  have HMO := Lib.hid (less_any h.rt (by have := h.tn4; omega) x)
  have c0 := h.c1
  have HR := Lib.hid h
  have HBB := Lib.hid hb
  have HXL := Lib.hid h.blk.lt
  clear h hb
  unfold ptr at *
  cases hm : mb x
  · rw [adr_less_no hm] at HMO
    rw [show p.untL x = [] from by unfold Pm.untL; rw [hm]; rfl, show p.untoS x = p from by unfold Pm.untoS; rw [hm]; rfl]
    have HBAD : Hid (∀ q : Int, (mb q && mb x) = false) := Lib.hid (fun q => by rw [hm, Bool.and_false])
    clear hm
    go_enter Try.func18, Try.ntmps18
    go_wp2_with fail
    refine (HMO.out).mono ?_
    rintro e w2 ⟨A, n, c, rfl, o2, b2⟩
    have HR2 := Lib.hid (HR.out.below b2)
    have c2 := HR2.out.c1
    have f2 := HR2.out.blk.fz 1
    have HR3 : Hid (Rf base (w2.setCell ⟨xb, 1, none⟩ (.slice A n c)) xb p L { y with tA := A, tn := n, tc := c }) := Lib.hid (by
      have h3 := own_mono2 o2 HBB.out
      obtain ⟨h1, h2, h4⟩ := HR2.out.own_far (ch_set (b := xb) (k := 1) (v := .slice A n c))
      exact ⟨HR2.out.blk.set 1 (.slice A n c), h1, own_ch2 h3 ch_set (fun g hg e => own_type h3 HR2.out.blk (by decide) (by rw [hg, e])), h4, HR2.out.nd, HR2.out.mem⟩)
    have HC3 : Hid (Ch w (w2.setCell ⟨xb, 1, none⟩ (.slice A n c)) (fun k => k = xb)) := Lib.hid ((Ch.of_below _ b2).then_ ch_set)
    clear o2 b2 c0 HR2 HMO
    go_wp2_with fail
    generalize w2.setCell ⟨xb, 1, none⟩ (.slice A n c) = w3 at *
    generalize ({ y with tA := A, tn := n, tc := c } : Rx) = y3 at *
    clear c2 f2
    go_loopw [5, 6] (fun s5 ix wr => ∃ (q : Nat) (L' : List (Int × Int)) (y' : Rx), q ≤ 4 ∧ s5 = .slice none 0 0 ∧ ix = .int .i64 (q : Int) ∧ Rf base wr xb p L' y' ∧ Ch w wr (fun k => k = xb)) (fun _ ix _ => 4 - (intOf ix).toNat)
    case atStart => exact ⟨0, L, y3, Nat.zero_le _, rfl, rfl, HR3.out, HC3.out⟩
    case round =>
      obtain ⟨q, L4, y4, hq, rfl, rfl, h4, k4⟩ := hrel
      have HR4 := Lib.hid h4
      have HC4 := Lib.hid k4
      have HG := Lib.hid (rgone_any h4 (Nat.le_trans HBB.out k4.size) (q : Int) x)
      rw [goneB_bad (HBAD.out _), goneS_no (goneB_bad (HBAD.out _))] at HG
      clear h4 k4 HR3 HC3
      unfold ptr at HG
      by_cases hqn : q < 4
      · have HQ := Lib.hid hqn
        have h3 : (q : Int) ≤ 3 := by omega
        go_wp2_with fail
        refine (HG.out).mono ?_
        rintro e w5 ⟨rfl, L5, y5, h5, k5, -⟩
        have HR5 := Lib.hid h5
        have HC5 := Lib.hid (HC4.out.then_ k5)
        clear h5 k5 HG
        go_wp2_with fail
        go_roundw
        case rel => exact ⟨q + 1, L5, y5, HQ.out, rfl, by go_num, HR5.out, HC5.out⟩
        case measure => have := HQ.out; simp [intOf]; omega
      · obtain rfl : q = 4 := by omega
        go_wp2_with fail
        go_ret
        exact ⟨[], none, 0, 0, rfl, PS.nil_ _, List.Pairwise.nil, fun u => Iff.rfl, ⟨L4, y4, HR4.out, HC4.out.mono fun _ _ e => .inl e⟩, fun g hg => by cases hg⟩
  · obtain ⟨o, rfl, ho⟩ := mb_nat hm
    rw [adr_less] at HMO
    have HO4 := Lib.hid ho
    have HUM := Lib.hid (unL_mem (p := p) ho)
    clear hm ho
    go_enter Try.func18, Try.ntmps18
    go_wp2_with fail
    refine (HMO.out).mono ?_
    rintro e w2 ⟨A, n, c, rfl, o2, b2⟩
    have HR2 := Lib.hid (HR.out.below b2)
    have c2 := HR2.out.c1
    have f2 := HR2.out.blk.fz 1
    have HR3 : Hid (Rf base (w2.setCell ⟨xb, 1, none⟩ (.slice A n c)) xb (p.unq o 0) L { y with tA := A, tn := n, tc := c }) := Lib.hid (unq_zero (HR2.out.setT (own_mono2 o2 HBB.out)))
    have HC3 : Hid (Ch w (w2.setCell ⟨xb, 1, none⟩ (.slice A n c)) (fun k => k = xb)) := Lib.hid ((Ch.of_below _ b2).then_ ch_set)
    clear o2 b2 c0 HR2 HMO
    go_wp2_with fail
    generalize w2.setCell ⟨xb, 1, none⟩ (.slice A n c) = w3 at *
    generalize ({ y with tA := A, tn := n, tc := c } : Rx) = y3 at *
    clear c2 f2
    go_loopw [5, 6] (fun s5 ix wr => ∃ (q : Nat) (L' : List (Int × Int)) (y' : Rx) (A' : Option Addr) (m c' : Nat), q ≤ 4 ∧ s5 = .slice A' m c' ∧ ix = .int .i64 (q : Int) ∧ wr.ownsRow w.heap.size 48 2 (.slice A' m c') m (pv (unL p o q)) ∧ Rf base wr xb (p.unq o q) L' y' ∧ Ch w wr (fun k => k = xb) ∧ ∀ g, (Value.slice y'.lA y'.ln y'.lc).ownBlock = some g → (Value.slice A' m c').ownBlock ≠ some g) (fun _ ix _ => 4 - (intOf ix).toNat)
    case atStart => exact ⟨0, L, y3, none, 0, 0, Nat.zero_le _, rfl, rfl, World.ownsRow_nil _ _ _ _, HR3.out, HC3.out, fun g _ e => by cases e⟩
    case round =>
      obtain ⟨q, L4, y4, A4, m4, c4, hq, rfl, rfl, o4, h4, k4, ap4⟩ := hrel
      have HM : Hid (m4 ≤ 4) := Lib.hid (by
        have h1 := o4.1
        rw [pv_length] at h1
        have := unL_len p o q
        omega)
      have HO := Lib.hid o4
      have HR4 := Lib.hid h4
      have HC4 := Lib.hid k4
      have HG := Lib.hid (rgone_any h4 (Nat.le_trans HBB.out k4.size) (q : Int) (o : Int))
      clear h4 k4 o4 ap4 HR3 HC3
      unfold ptr at HG
      by_cases hqn : q < 4
      · have HQ := Lib.hid hqn
        have h3 : (q : Int) ≤ 3 := by omega
        rw [unq_gone hqn HO4.out] at HG
        have HST := Lib.hid (fun w' L' y' h => @unq_step base w' xb p o q L' y' hqn HO4.out h)
        cases hf : p.fl q o
        · rw [hf] at HG
          have HU := Lib.hid (unL_no hf)
          clear hf
          go_wp2_with fail
          refine (HG.out).mono ?_
          rintro e w5 ⟨rfl, L5, y5, h5, k5, n5⟩
          have HR5 := Lib.hid (HST.out _ _ _ h5)
          have HC5 := Lib.hid (HC4.out.then_ k5)
          have HO5 := Lib.hid (out_ch HR4.out HO.out k5)
          have HA5 : Hid (∀ g, (Value.slice y5.lA y5.ln y5.lc).ownBlock = some g → (Value.slice A4 m4 c4).ownBlock ≠ some g) := Lib.hid fun g hg e => by
            have := n5 g hg
            have := (own_in HO.out e).2
            omega
          clear h5 k5 n5 HG
          go_wp2_with fail
          go_roundw
          case rel => exact ⟨q + 1, L5, y5, A4, m4, c4, HQ.out, rfl, by go_num, by rw [HU.out]; exact HO5.out, HR5.out, HC5.out, HA5.out⟩
          case measure => have := HQ.out; simp [intOf]; omega
        · rw [hf] at HG
          have HU := Lib.hid (unL_yes hf)
          clear hf
          go_wp2_with fail
          refine (HG.out).mono ?_
          rintro e w5 ⟨rfl, L5, y5, h5, k5, n5⟩
          have HR5 := Lib.hid (HST.out _ _ _ h5)
          have HC5 := Lib.hid (HC4.out.then_ k5)
          have HO5 := Lib.hid (out_ch HR4.out HO.out k5)
          have HA5 : Hid (∀ g, (Value.slice y5.lA y5.ln y5.lc).ownBlock = some g → (Value.slice A4 m4 c4).ownBlock ≠ some g) := Lib.hid fun g hg e => by
            have := n5 g hg
            have := (own_in HO.out e).2
            omega
          clear h5 k5 n5 HG
          go_wp2_with (at_builtin; refine wpList_app3 (base := w.heap.size) rfl _ _ 39 48 rfl Try.underlying39 infoPairR _ m4 _ rfl HO5.out HC5.out.size (q : Int) (o : Int) rfl (by have := HM.out; omega) ?_; intro A6 c6 w6 o6 k6 n6)
          have HR6 := Lib.hid (wpair HR5.out HO5.out k6 HA5.out)
          have HC6 : Hid (Ch w w6 (fun k => k = xb)) := Lib.hid (HC5.out.trans k6 (fun _ _ e => e) (fun k hk e => by have := (own_in HO5.out e).1; omega))
          have HA6 : Hid (∀ g, (Value.slice y5.lA y5.ln y5.lc).ownBlock = some g → (Value.slice A6 (m4 + 1) c6).ownBlock ≠ some g) := Lib.hid fun g hg e => by
            rcases n6 g e with e2 | e2
            · exact HA5.out g hg e2
            · have := (own_in HR5.out.l hg).2
              omega
          have HO6 := Lib.hid o6
          clear o6 k6 n6
          go_roundw
          case rel => exact ⟨q + 1, L5, y5, A6, m4 + 1, c6, HQ.out, rfl, by go_num, by rw [HU.out]; exact HO6.out, HR6.out, HC6.out, HA6.out⟩
          case measure => have := HQ.out; simp [intOf]; omega
      · obtain rfl : q = 4 := by omega
        go_wp2_with fail
        go_ret
        refine ⟨unL p o 4, A4, m4, c4, rfl, ?_, unL_nodup _ _ _, HUM.out, ⟨L4, y4, unq_end HO4.out HR4.out, HC4.out.mono fun _ _ e => .inl e⟩, fun g hg => (own_in HO.out hg).1⟩
        obtain ⟨A', c', e, r⟩ := PS.of_own HO.out
        injection e with e1 _ e2
        subst e1 e2
        exact r
end Go.Proofs.Ytpkhalneclmoeaa
