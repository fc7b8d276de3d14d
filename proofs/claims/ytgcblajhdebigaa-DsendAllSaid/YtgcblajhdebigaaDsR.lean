/- The law DsendAll. Conditions: the bytes lie where the slices say. -/
import Derived.Test.YtgcblajhdebigaaDsQ
import Derived.Test.YtgcblajhdebigaaSameR
namespace Go.Proofs.Ytgcblajhdebigaa
set_option linter.unusedVariables false
set_option linter.unusedSimpArgs false
open Go.RowKit Go.Lib

/-- What a law has gathered, apart from the sender. -/
structure Gt (base : Nat) (w : World) (sb : Nat) (z : Sh) (v : Value) (r : Nat) (l : List UInt8) : Prop where
  own : w.ownsRow base 5 1 v r (bv (l.take r))
  ap : ∀ g, v.ownBlock = some g → ¬ z.T sb g
section
variable {W w w' : World} {base sb : Nat} {z z' : Sh} {d d' : Dq} {v v' : Value} {r m : Nat} {l : List UInt8}
theorem Gt.step (h : Gt base w sb z v r l) (k : Left base w sb z d' w' z') : Gt base w' sb z' v r l :=
  ⟨own_ch2 h.own k.ch (fun g hg e => h.ap g hg e), fun g hg e => (k.new g e).elim (h.ap g hg) (fun q => by have := (own_in h.own hg).2; omega)⟩
theorem Gt.below (h : Gt base w sb z v r l) (b : Below w.heap.size w w') : Gt base w' sb z v r l := ⟨own_below h.own b, h.ap⟩
theorem Gt.app (h : Gt W.heap.size w sb z v r l) (s : Sv W w sb z d) (o : w'.ownsRow W.heap.size 5 1 v' (r + m) (bv (l.take r ++ (l.drop r).take m))) (g : w.grownBy w' v.ownBlock) (hv : v'.ownBlock = v.ownBlock ∨ v'.ownBlock = some w.heap.size) : Gt W.heap.size w' sb z v' (r + m) l ∧ Sv W w' sb z d := by
  have c : Ch w w' (fun k => v.ownBlock = some k) := Ch.grown (m := fun k => v.ownBlock = some k) (Ch.refl w _) g (fun k e _ => e)
  refine ⟨⟨by rw [List.take_add]; exact o, fun k hk e => ?_⟩, ⟨s.s.frame c (fun k hk e => h.ap k e hk), (below_grown s.bel h.own g)⟩⟩
  rcases hv with hv | hv
  · exact h.ap k (hv ▸ hk) e
  · rw [hv] at hk
    injection hk with hk
    have := (s.s.in_ e).2
    omega
end

set_option maxRecDepth 20000 in
set_option maxHeartbeats 6400000 in
theorem All_law (A : Option Addr) (n c : Nat) (l : List UInt8) (A2 : Option Addr) (n2 c2 : Nat) (l2 : List UInt8) (k : Nat) (W : World) (hA : RB W A n c l) (hB : RB W A2 n2 c2 l2) (hk : k < 256) : Calls Try.prog 4 #[.slice A n c, .slice A2 n2 c2, .int .u8 (k : Int)] W (Held W) := by
  have HW := Lib.hid (wakes_any W)
  obtain rfl := hA.len
  have HA := Lib.hid hA
  have HB := Lib.hid hB
  by_cases hn : 64 < l.length ∨ 20 < n2
  · have HQ : Hid (l.length = l.length) := Lib.hid rfl
    clear hA hB HA HB
    generalize l.length = n at *
    by_cases h1 : 64 < n
    · have h' : (64 : Int) < (n : Int) := by omega
      go_enter Try.func4, Try.ntmps4
      go_wp2_with fail
      refine (HW.out).mono ?_
      rintro e w1 ⟨rfl, b1⟩
      have B1 := Lib.hid b1
      clear b1
      go_wp2_with fail
      go_ret
      exact ⟨rfl, B1.out⟩
    · have h' : (20 : Int) < (n2 : Int) := by omega
      have h3 : ¬ ((64 : Int) < (n : Int)) := by omega
      have h4 : decide ((64 : Int) < (n : Int)) = false := decide_eq_false h3
      go_enter Try.func4, Try.ntmps4
      go_wp2_with fail
      refine (HW.out).mono ?_
      rintro e w1 ⟨rfl, b1⟩
      have B1 := Lib.hid b1
      clear b1
      go_wp2_with fail
      go_ret
      exact ⟨rfl, B1.out⟩
  · have hn1 : l.length ≤ 64 ∧ n2 ≤ 20 := by omega
    have HWN := Lib.hid (wrote_new (b := l) (by omega))
    clear hn hA hB
    obtain ⟨n, hln⟩ : ∃ n, n = l.length := ⟨_, rfl⟩
    rw [← hln] at hn1 HWN HA ⊢
    have HL := Lib.hid hln
    clear hln
    have hg1 : ¬ ((64 : Int) < (n : Int)) := by omega
    have hg2 : ¬ ((20 : Int) < (n2 : Int)) := by omega
    have hg3 : decide ((64 : Int) < (n : Int)) = false := decide_eq_false hg1
    have hg4 : decide ((20 : Int) < (n2 : Int)) = false := decide_eq_false hg2
    go_enter Try.func4, Try.ntmps4
    go_wp2_with fail
    refine (HW.out).mono ?_
    rintro e w1 ⟨rfl, b1⟩
    have HN1 := Lib.hid (new_sv W w1 b1)
    clear b1
    go_wp2_with fail
    refine (HN1.out).mono ?_
    rintro e w2 ⟨sb, z2, rfl, S2, -, -⟩
    have HWR := Lib.hid (Write_any S2.s S2.bel.size (by decide) (HA.out.below S2.bel) (by omega))
    have HS2 := Lib.hid S2
    clear S2 HN1
    unfold ptr at *
    go_wp2_with fail
    refine (HWR.out).mono ?_
    rintro e w3 ⟨rfl, z3, L3⟩
    rw [HWN.out.2.1, HWN.out.2.2]
    rw [HWN.out.1] at L3
    have HS3 := Lib.hid (HS2.out.step L3)
    clear L3 HS2 HWR
    go_wp2_with fail
    go_loopw [10, 11] (fun vg ix wr => ∃ (z : Sh) (u q r e kk : Nat), ix = .int .i64 (kk : Int) ∧ q = r + 1 ∧ 1 ≤ u ∧ u ≤ q ∧ r ≤ n ∧ q ≤ e ∧ e ≤ 100 ∧ (q < e → kk ≤ 2 * r + 1) ∧ (q = e → kk ≤ 2 * r) ∧ kk ≤ 200 ∧ Sv W wr sb z (cl l u q e false) ∧ Gt W.heap.size wr sb z vg r l) (fun _ ix _ => 200 - (intOf ix).toNat)
    case atStart => exact ⟨z3, 1, 1, 0, 33, 0, rfl, rfl, Nat.le_refl _, Nat.le_refl _, Nat.zero_le _, by omega, by omega, fun _ => by omega, fun h => by omega, by omega, HS3.out, ⟨World.ownsRow_nil _ _ _ _, fun g hg => by cases hg⟩⟩
    case round =>
      obtain ⟨z5, u, q, r, e5, kk, rfl, hqr, hu1, huq, hrn, hqe, he, hk1, hk2, hkk, S5, G5⟩ := hrel
      obtain ⟨Ag, cg, rfl, -, -⟩ := RB.of_own G5.own
      have HG5 := Lib.hid G5
      have HS5 := Lib.hid S5
      clear G5 S5
      by_cases hlt : r < n
      · have hkl : kk < 200 := by omega
        have HR := Lib.hid (And.intro hqr (And.intro hu1 (And.intro huq (And.intro hlt (And.intro hqe (And.intro he (And.intro hk1 (And.intro hk2 hkl))))))))
        clear hqr hu1 huq hrn hqe he hk1 hk2 hkk
        by_cases hk3 : kk < n2
        · obtain ⟨gm, om, rfl, xm⟩ := (HB.out.below HS5.out.bel).at_ hk3
          have hm0 := (l2.getD kk 0).toNat_lt
          generalize (l2.getD kk 0).toNat = m0 at *
          have HTK := Lib.hid (HS5.out.take (m := (m0 : Int)) (by unfold isI; omega))
          obtain ⟨M, hM⟩ : ∃ M, M = mostOf (m0 : Int) := ⟨_, rfl⟩
          have hM8 : 1 ≤ M ∧ M ≤ 8 := by rw [hM]; exact most_in _
          rw [← hM, cl_dsn HR.out.2.2.1, cl_take HR.out.2.2.1] at HTK
          obtain ⟨m, hm⟩ : ∃ m, m = min M (min e5 (l.length + 1) - q) := ⟨_, rfl⟩
          rw [← hm] at HTK
          have HMO : Hid ((cl l u q e5 false).most M = m) := Lib.hid (by rw [cl_most HR.out.2.2.1, hm])
          have HGO : Hid ((cl l u q e5 false).got M = (l.drop r).take m) := Lib.hid (by rw [cl_got HR.out.2.2.1, ← hm, HR.out.1]; rfl)
          have HM : Hid (m ≤ 8 ∧ q + m ≤ e5 ∧ r + m ≤ n ∧ (m = 0 → e5 = q)) := Lib.hid (by
            obtain ⟨q1, q2, q3, q4, q5, q6, q7, q8, q9⟩ := HR.out
            have := HL.out
            omega)
          clear hm hM hM8
          unfold ptr at HTK
          go_wp2_with fail
          refine (HTK.out).mono ?_
          rintro e w7 ⟨v7, z7, rfl, B7, S7, L7⟩
          have HG7 := Lib.hid (HG5.out.step L7)
          have B7 := B7.far_
          rw [HMO.out, HGO.out] at B7
          obtain ⟨A7, c7, rfl, r7⟩ := id B7.rb
          have HF7 := Lib.hid B7
          have HR7 := Lib.hid r7
          obtain ⟨q2, hq2⟩ : ∃ q2, q2 = q + m := ⟨_, rfl⟩
          rw [← hq2] at S7
          have HQ2 := Lib.hid hq2
          have HS7 := Lib.hid S7
          clear S7 B7 L7 r7 hq2 HTK HMO HGO HG5 HS5
          by_cases hm0 : m = 0
          · have hmi : (m : Int) = 0 := by omega
            have hmi3 : ((m : Int) == 0) = true := by simp; omega
            rw [if_pos hm0]
            have hqq : q2 = q := by have := HQ2.out; omega
            rw [hqq] at HS7
            have HNX : Hid (Calls Try.prog 23 #[.pointer (some ⟨sb, 0, none⟩)] w7 fun e w' => e = .returned (.int .i64 (q : Int)) ∧ w' = w7) := Lib.hid (Next_sd HS7.out.s)
            have HAK : Hid (Calls Try.prog 19 #[.pointer (some ⟨sb, 0, none⟩), .int .i64 (q : Int), .int .i64 32] w7 fun e w' => ∃ (z' : Sh) (gn : Nat), e = .returned (.tuple #[.int .i64 (gn : Int), .bool true]) ∧ Sv W w' sb z' (cl l q q (max e5 (q + 32)) false) ∧ Gt W.heap.size w' sb z' (.slice Ag r cg) r l) := by
              obtain ⟨q1, q2, q3, q4, q5, q6, q7, q8, q9⟩ := HR.out
              have hl := HL.out
              refine Lib.hid ((HS7.out.ack_yes (by show l.length + 1 ≤ _; omega) (a := q) (win := 32) (by rw [Dq.may_iff]; exact ⟨.inl ⟨by show ((u : Nat) : Int) ≤ _; omega, Int.le_refl _⟩, by omega, by omega⟩)).mono ?_)
              rintro e w' ⟨z', he, hs, hl7⟩
              refine ⟨z', _, he, ?_, HG7.out.step hl7⟩
              have ee : (cl l u q e5 false).ack q 32 = cl l q q (max e5 (q + 32)) false := by
                show (⟨l, fun k => false && decide (min q (l.length + 1) ≤ k), min q (l.length + 1), q, max e5 (q + 32), false, false || decide (l.length + 1 < q)⟩ : Dq) = _
                rw [show min q (l.length + 1) = q from by omega, decide_eq_false (show ¬ l.length + 1 < q by omega)]
                rfl
              rw [ee] at hs
              exact hs
            clear HF7 HR7 HG7
            go_wp2_with fail
            refine (HNX.out).mono ?_
            rintro e w8 ⟨rfl, rfl⟩
            go_wp2_with fail
            refine (HAK.out).mono ?_
            rintro e w9 ⟨z9, gn, rfl, S9, G9⟩
            have HS9 := Lib.hid S9
            have HG9 := Lib.hid G9
            clear S9 G9 HAK HNX
            go_wp2_with fail
            go_roundw
            case rel =>
              obtain ⟨q1, q2, q3, q4, q5, q6, q7, q8, q9⟩ := HR.out
              have hm4 := HM.out.2.2.2 hm0
              have hl := HL.out
              exact ⟨z9, q, q, r, max e5 (q + 32), kk + 1, by go_num, q1, by omega, Nat.le_refl _, by omega, by omega, by omega, fun _ => by have := q8 hm4.symm; omega, fun h => by omega, by omega, HS9.out, HG9.out⟩
            case measure => simp [intOf]; omega
          · have hmi : ¬ ((m : Int) = 0) := by omega
            have hmi3 : ((m : Int) == 0) = false := by simp; omega
            rw [if_neg hm0]
            have hwr : IntKind.i64.wrap ((r : Int) + 1) = (q : Int) := by have := HR.out.1; have := HR.out.2.2.2.1; rw [IntKind.wrap_i64]; omega
            have htm : ((k : Int).tmod 10) = ((k % 10 : Nat) : Int) := rfl
            obtain ⟨kt, hkt⟩ : ∃ kt, kt = k % 10 := ⟨_, rfl⟩
            rw [← hkt] at htm
            clear hkt
            by_cases hlo : kk = kt
            · have hlo1 : (kk : Int) = (kt : Int) := by omega
              have HLO := Lib.hid (HS7.out.lost (x := (q : Int)) (g := (m : Int)) (by have := HR.out.2.2.2.2.2.1; have := HR.out.2.2.2.2.1; omega) (by have := HM.out.1; omega) (f := q) (t := q + m) (by unfold Dq.lf; show (max (q : Int) ((u : Nat) : Int)).toNat = q; have := HR.out.2.2.1; omega) (by unfold Dq.lt; show (max (max (q : Int) ((u : Nat) : Int)) (min (q : Int) (((q2 : Nat) : Int) - max (m : Int) 0) + max (m : Int) 0)).toNat = q + m; have := HR.out.2.2.1; have := HQ2.out; omega))
              rw [cl_lose, show q + m - q = m from by omega, cl_kept] at HLO
              unfold ptr at HLO
              subst hlo
              go_wp2_with fail
              refine (HLO.out).mono ?_
              rintro e w8 ⟨z8, rfl, S8, L8⟩
              have HF8 := HF7.out.step L8
              have HTK := Lib.hid (S8.take (m := 8) (by unfold isI; omega))
              have hc : u ≤ q ∧ 1 ≤ m ∧ q < q2 ∧ q + m ≤ q2 ∧ m ≤ 8 := by
                obtain ⟨q1, q2, q3, q4, q5, q6, q7, q8, q9⟩ := HR.out
                have := HQ2.out
                have := HM.out.1
                omega
              have HC := Lib.hid hc
              rw [most8, ls1_dsn hc.1 hc.2.1 hc.2.2.1 hc.2.2.2.2, ls1_take hc.1 hc.2.1 hc.2.2.1 hc.2.2.2.1 hc.2.2.2.2] at HTK
              have HG8 := Lib.hid (HG7.out.step L8)
              have hap8 : ∀ g, (Value.slice A7 m c7).ownBlock = some g → g < w7.heap.size ∧ ¬ z7.T sb g → ¬ z8.T sb g := fun g hg h e => (L8.new g e).elim h.2 (fun q => by omega)
              have HAP8 := Lib.hid hap8
              have HL8 := Lib.hid L8
              clear S8 L8 HLO HF8 hc hap8
              unfold ptr at HTK
              go_wp2_with fail
              refine (HTK.out).mono ?_
              rintro e w9 ⟨v9, z9, rfl, B9, S9, L9⟩
              have HLL : Hid (Left W.heap.size w7 sb z7 (cl l u q2 e5 false) w9 z9) := Lib.hid (HL8.out.then_ L9)
              have HS9 := Lib.hid S9
              have HG9 := Lib.hid (HG8.out.step L9)
              obtain ⟨A9, c9, rfl, r9⟩ := B9.rb
              rw [ls1_most HC.out.1 HC.out.2.1 HC.out.2.2.1 HC.out.2.2.2.2] at r9 ⊢
              rw [ls1_got HC.out.1 HC.out.2.1 HC.out.2.2.1 HC.out.2.2.2.2, show q - 1 = r from by have := HR.out.1; omega] at r9
              obtain ⟨A7', c7', e7, r79⟩ := HF7.out.step HLL.out
              injection e7 with e71 e72 e73
              subst e71 e73
              have HR9 := Lib.hid r79
              have HSM := Lib.hid (Same_any _ _ m c9 m c7 _ _ _ r9 r79)
              rw [show ((l.drop r).take m == (l.drop r).take m) = true from by simp] at HSM
              clear B9 S9 L9 r9 r79 HTK HG8 HAP8 HL8
              go_wp2_with fail
              refine (HSM.out).mono ?_
              rintro e w10 ⟨rfl, qq, rfl⟩
              have HS10 := Lib.hid (HS9.out.below (below_dn (Below.refl _ _) qq))
              have HG10 := Lib.hid (HG9.out.below (below_dn (Below.refl _ _) qq))
              have HR10 := Lib.hid (HR9.out.drewN qq)
              clear HS9 HG9 HR9 HLL HSM
              generalize w9.drewN qq = w11 at *
              go_wp2_with (at_builtin; refine wpList_app _ rfl _ _ _ _ rfl undByte infoByte W.heap.size _ r _ rfl (HG10.out.own) A7 m c7 _ rfl HR10.out (by have := HM.out.2.2.1; omega) (HS10.out.bel.size) ?_; intro v12 w12 o12 g12 h12; obtain ⟨G13, S13⟩ := HG10.out.app HS10.out o12 g12 h12; have HG13 := Lib.hid G13; have HS13 := Lib.hid S13; obtain ⟨A13, c13, rfl, -, -⟩ := RB.of_own G13.own; clear G13 S13 o12 g12 h12)
              go_roundw
              case rel =>
                obtain ⟨q1, q2', q3, q4, q5, q6, q7, q8, q9⟩ := HR.out
                have hq2 := HQ2.out
                have hm := HM.out
                exact ⟨_, u, q2, r + m, e5, kk + 1, by go_num, by omega, q2', by omega, by omega, by omega, by omega, fun _ => by rcases Nat.lt_or_ge q e5 with h | h; exact (by have := q7 h; omega); exact (by have := q8 (by omega); omega), fun h => by rcases Nat.lt_or_ge q e5 with h' | h'; exact (by have := q7 h'; omega); exact (by have := q8 (by omega); omega), by omega, HS13.out, HG13.out⟩
              case measure => simp [intOf]; omega
            · have hlo1 : ¬ ((kk : Int) = (kt : Int)) := by omega
              have hlo3 : ((kk : Int) == (kt : Int)) = false := by simp; omega
              go_wp2_with (at_builtin; refine wpList_app _ rfl _ _ _ _ rfl undByte infoByte W.heap.size _ r _ rfl (HG7.out.own) A7 m c7 _ rfl HR7.out (by have := HM.out.2.2.1; omega) (HS7.out.bel.size) ?_; intro v12 w12 o12 g12 h12; obtain ⟨G13, S13⟩ := HG7.out.app HS7.out o12 g12 h12; have HG13 := Lib.hid G13; have HS13 := Lib.hid S13; obtain ⟨A13, c13, rfl, -, -⟩ := RB.of_own G13.own; clear G13 S13 o12 g12 h12)
              go_roundw
              case rel =>
                obtain ⟨q1, q2', q3, q4, q5, q6, q7, q8, q9⟩ := HR.out
                have hq2 := HQ2.out
                have hm := HM.out
                exact ⟨_, u, q2, r + m, e5, kk + 1, by go_num, by omega, q2', by omega, by omega, by omega, by omega, fun _ => by rcases Nat.lt_or_ge q e5 with h | h; exact (by have := q7 h; omega); exact (by have := q8 (by omega); omega), fun h => by rcases Nat.lt_or_ge q e5 with h' | h'; exact (by have := q7 h'; omega); exact (by have := q8 (by omega); omega), by omega, HS13.out, HG13.out⟩
              case measure => simp [intOf]; omega
        · have HTK := Lib.hid (HS5.out.take (m := 8) (by unfold isI; omega))
          obtain ⟨M, hM⟩ : ∃ M, M = mostOf 8 := ⟨_, rfl⟩
          have hM8 : 1 ≤ M ∧ M ≤ 8 := by rw [hM]; exact most_in _
          rw [← hM, cl_dsn HR.out.2.2.1, cl_take HR.out.2.2.1] at HTK
          obtain ⟨m, hm⟩ : ∃ m, m = min M (min e5 (l.length + 1) - q) := ⟨_, rfl⟩
          rw [← hm] at HTK
          have HMO : Hid ((cl l u q e5 false).most M = m) := Lib.hid (by rw [cl_most HR.out.2.2.1, hm])
          have HGO : Hid ((cl l u q e5 false).got M = (l.drop r).take m) := Lib.hid (by rw [cl_got HR.out.2.2.1, ← hm, HR.out.1]; rfl)
          have HM : Hid (m ≤ 8 ∧ q + m ≤ e5 ∧ r + m ≤ n ∧ (m = 0 → e5 = q)) := Lib.hid (by
            obtain ⟨q1, q2, q3, q4, q5, q6, q7, q8, q9⟩ := HR.out
            have := HL.out
            omega)
          clear hm hM hM8
          unfold ptr at HTK
          go_wp2_with fail
          refine (HTK.out).mono ?_
          rintro e w7 ⟨v7, z7, rfl, B7, S7, L7⟩
          have HG7 := Lib.hid (HG5.out.step L7)
          have B7 := B7.far_
          rw [HMO.out, HGO.out] at B7
          obtain ⟨A7, c7, rfl, r7⟩ := id B7.rb
          have HF7 := Lib.hid B7
          have HR7 := Lib.hid r7
          obtain ⟨q2, hq2⟩ : ∃ q2, q2 = q + m := ⟨_, rfl⟩
          rw [← hq2] at S7
          have HQ2 := Lib.hid hq2
          have HS7 := Lib.hid S7
          clear S7 B7 L7 r7 hq2 HTK HMO HGO HG5 HS5
          by_cases hm0 : m = 0
          · have hmi : (m : Int) = 0 := by omega
            have hmi3 : ((m : Int) == 0) = true := by simp; omega
            rw [if_pos hm0]
            have hqq : q2 = q := by have := HQ2.out; omega
            rw [hqq] at HS7
            have HNX : Hid (Calls Try.prog 23 #[.pointer (some ⟨sb, 0, none⟩)] w7 fun e w' => e = .returned (.int .i64 (q : Int)) ∧ w' = w7) := Lib.hid (Next_sd HS7.out.s)
            have HAK : Hid (Calls Try.prog 19 #[.pointer (some ⟨sb, 0, none⟩), .int .i64 (q : Int), .int .i64 32] w7 fun e w' => ∃ (z' : Sh) (gn : Nat), e = .returned (.tuple #[.int .i64 (gn : Int), .bool true]) ∧ Sv W w' sb z' (cl l q q (max e5 (q + 32)) false) ∧ Gt W.heap.size w' sb z' (.slice Ag r cg) r l) := by
              obtain ⟨q1, q2, q3, q4, q5, q6, q7, q8, q9⟩ := HR.out
              have hl := HL.out
              refine Lib.hid ((HS7.out.ack_yes (by show l.length + 1 ≤ _; omega) (a := q) (win := 32) (by rw [Dq.may_iff]; exact ⟨.inl ⟨by show ((u : Nat) : Int) ≤ _; omega, Int.le_refl _⟩, by omega, by omega⟩)).mono ?_)
              rintro e w' ⟨z', he, hs, hl7⟩
              refine ⟨z', _, he, ?_, HG7.out.step hl7⟩
              have ee : (cl l u q e5 false).ack q 32 = cl l q q (max e5 (q + 32)) false := by
                show (⟨l, fun k => false && decide (min q (l.length + 1) ≤ k), min q (l.length + 1), q, max e5 (q + 32), false, false || decide (l.length + 1 < q)⟩ : Dq) = _
                rw [show min q (l.length + 1) = q from by omega, decide_eq_false (show ¬ l.length + 1 < q by omega)]
                rfl
              rw [ee] at hs
              exact hs
            clear HF7 HR7 HG7
            go_wp2_with fail
            refine (HNX.out).mono ?_
            rintro e w8 ⟨rfl, rfl⟩
            go_wp2_with fail
            refine (HAK.out).mono ?_
            rintro e w9 ⟨z9, gn, rfl, S9, G9⟩
            have HS9 := Lib.hid S9
            have HG9 := Lib.hid G9
            clear S9 G9 HAK HNX
            go_wp2_with fail
            go_roundw
            case rel =>
              obtain ⟨q1, q2, q3, q4, q5, q6, q7, q8, q9⟩ := HR.out
              have hm4 := HM.out.2.2.2 hm0
              have hl := HL.out
              exact ⟨z9, q, q, r, max e5 (q + 32), kk + 1, by go_num, q1, by omega, Nat.le_refl _, by omega, by omega, by omega, fun _ => by have := q8 hm4.symm; omega, fun h => by omega, by omega, HS9.out, HG9.out⟩
            case measure => simp [intOf]; omega
          · have hmi : ¬ ((m : Int) = 0) := by omega
            have hmi3 : ((m : Int) == 0) = false := by simp; omega
            rw [if_neg hm0]
            have hwr : IntKind.i64.wrap ((r : Int) + 1) = (q : Int) := by have := HR.out.1; have := HR.out.2.2.2.1; rw [IntKind.wrap_i64]; omega
            have htm : ((k : Int).tmod 10) = ((k % 10 : Nat) : Int) := rfl
            obtain ⟨kt, hkt⟩ : ∃ kt, kt = k % 10 := ⟨_, rfl⟩
            rw [← hkt] at htm
            clear hkt
            by_cases hlo : kk = kt
            · have hlo1 : (kk : Int) = (kt : Int) := by omega
              have HLO := Lib.hid (HS7.out.lost (x := (q : Int)) (g := (m : Int)) (by have := HR.out.2.2.2.2.2.1; have := HR.out.2.2.2.2.1; omega) (by have := HM.out.1; omega) (f := q) (t := q + m) (by unfold Dq.lf; show (max (q : Int) ((u : Nat) : Int)).toNat = q; have := HR.out.2.2.1; omega) (by unfold Dq.lt; show (max (max (q : Int) ((u : Nat) : Int)) (min (q : Int) (((q2 : Nat) : Int) - max (m : Int) 0) + max (m : Int) 0)).toNat = q + m; have := HR.out.2.2.1; have := HQ2.out; omega))
              rw [cl_lose, show q + m - q = m from by omega, cl_kept] at HLO
              unfold ptr at HLO
              subst hlo
              go_wp2_with fail
              refine (HLO.out).mono ?_
              rintro e w8 ⟨z8, rfl, S8, L8⟩
              have HF8 := HF7.out.step L8
              have HTK := Lib.hid (S8.take (m := 8) (by unfold isI; omega))
              have hc : u ≤ q ∧ 1 ≤ m ∧ q < q2 ∧ q + m ≤ q2 ∧ m ≤ 8 := by
                obtain ⟨q1, q2, q3, q4, q5, q6, q7, q8, q9⟩ := HR.out
                have := HQ2.out
                have := HM.out.1
                omega
              have HC := Lib.hid hc
              rw [most8, ls1_dsn hc.1 hc.2.1 hc.2.2.1 hc.2.2.2.2, ls1_take hc.1 hc.2.1 hc.2.2.1 hc.2.2.2.1 hc.2.2.2.2] at HTK
              have HG8 := Lib.hid (HG7.out.step L8)
              have hap8 : ∀ g, (Value.slice A7 m c7).ownBlock = some g → g < w7.heap.size ∧ ¬ z7.T sb g → ¬ z8.T sb g := fun g hg h e => (L8.new g e).elim h.2 (fun q => by omega)
              have HAP8 := Lib.hid hap8
              have HL8 := Lib.hid L8
              clear S8 L8 HLO HF8 hc hap8
              unfold ptr at HTK
              go_wp2_with fail
              refine (HTK.out).mono ?_
              rintro e w9 ⟨v9, z9, rfl, B9, S9, L9⟩
              have HLL : Hid (Left W.heap.size w7 sb z7 (cl l u q2 e5 false) w9 z9) := Lib.hid (HL8.out.then_ L9)
              have HS9 := Lib.hid S9
              have HG9 := Lib.hid (HG8.out.step L9)
              obtain ⟨A9, c9, rfl, r9⟩ := B9.rb
              rw [ls1_most HC.out.1 HC.out.2.1 HC.out.2.2.1 HC.out.2.2.2.2] at r9 ⊢
              rw [ls1_got HC.out.1 HC.out.2.1 HC.out.2.2.1 HC.out.2.2.2.2, show q - 1 = r from by have := HR.out.1; omega] at r9
              obtain ⟨A7', c7', e7, r79⟩ := HF7.out.step HLL.out
              injection e7 with e71 e72 e73
              subst e71 e73
              have HR9 := Lib.hid r79
              have HSM := Lib.hid (Same_any _ _ m c9 m c7 _ _ _ r9 r79)
              rw [show ((l.drop r).take m == (l.drop r).take m) = true from by simp] at HSM
              clear B9 S9 L9 r9 r79 HTK HG8 HAP8 HL8
              go_wp2_with fail
              refine (HSM.out).mono ?_
              rintro e w10 ⟨rfl, qq, rfl⟩
              have HS10 := Lib.hid (HS9.out.below (below_dn (Below.refl _ _) qq))
              have HG10 := Lib.hid (HG9.out.below (below_dn (Below.refl _ _) qq))
              have HR10 := Lib.hid (HR9.out.drewN qq)
              clear HS9 HG9 HR9 HLL HSM
              generalize w9.drewN qq = w11 at *
              go_wp2_with (at_builtin; refine wpList_app _ rfl _ _ _ _ rfl undByte infoByte W.heap.size _ r _ rfl (HG10.out.own) A7 m c7 _ rfl HR10.out (by have := HM.out.2.2.1; omega) (HS10.out.bel.size) ?_; intro v12 w12 o12 g12 h12; obtain ⟨G13, S13⟩ := HG10.out.app HS10.out o12 g12 h12; have HG13 := Lib.hid G13; have HS13 := Lib.hid S13; obtain ⟨A13, c13, rfl, -, -⟩ := RB.of_own G13.own; clear G13 S13 o12 g12 h12)
              go_roundw
              case rel =>
                obtain ⟨q1, q2', q3, q4, q5, q6, q7, q8, q9⟩ := HR.out
                have hq2 := HQ2.out
                have hm := HM.out
                exact ⟨_, u, q2, r + m, e5, kk + 1, by go_num, by omega, q2', by omega, by omega, by omega, by omega, fun _ => by rcases Nat.lt_or_ge q e5 with h | h; exact (by have := q7 h; omega); exact (by have := q8 (by omega); omega), fun h => by rcases Nat.lt_or_ge q e5 with h' | h'; exact (by have := q7 h'; omega); exact (by have := q8 (by omega); omega), by omega, HS13.out, HG13.out⟩
              case measure => simp [intOf]; omega
            · have hlo1 : ¬ ((kk : Int) = (kt : Int)) := by omega
              have hlo3 : ((kk : Int) == (kt : Int)) = false := by simp; omega
              go_wp2_with (at_builtin; refine wpList_app _ rfl _ _ _ _ rfl undByte infoByte W.heap.size _ r _ rfl (HG7.out.own) A7 m c7 _ rfl HR7.out (by have := HM.out.2.2.1; omega) (HS7.out.bel.size) ?_; intro v12 w12 o12 g12 h12; obtain ⟨G13, S13⟩ := HG7.out.app HS7.out o12 g12 h12; have HG13 := Lib.hid G13; have HS13 := Lib.hid S13; obtain ⟨A13, c13, rfl, -, -⟩ := RB.of_own G13.own; clear G13 S13 o12 g12 h12)
              go_roundw
              case rel =>
                obtain ⟨q1, q2', q3, q4, q5, q6, q7, q8, q9⟩ := HR.out
                have hq2 := HQ2.out
                have hm := HM.out
                exact ⟨_, u, q2, r + m, e5, kk + 1, by go_num, by omega, q2', by omega, by omega, by omega, by omega, fun _ => by rcases Nat.lt_or_ge q e5 with h | h; exact (by have := q7 h; omega); exact (by have := q8 (by omega); omega), fun h => by rcases Nat.lt_or_ge q e5 with h' | h'; exact (by have := q7 h'; omega); exact (by have := q8 (by omega); omega), by omega, HS13.out, HG13.out⟩
              case measure => simp [intOf]; omega
      · obtain rfl : r = n := by omega
        have hnl : ¬ ((r : Int) < (r : Int)) := by omega
        have HSM := Lib.hid (Same_any _ _ r cg r c (l.take r) l _ (by obtain ⟨A', c', e1, r1, _⟩ := RB.of_own HG5.out.own; injection e1 with e1 e2 e3; subst e1 e3; exact r1) (HA.out.below HS5.out.bel))
        rw [show (l.take r == l) = true from by rw [HL.out, List.take_length]; simp] at HSM
        go_wp2_with fail
        refine (HSM.out).mono ?_
        rintro e w9 ⟨rfl, qq, rfl⟩
        go_wp2_with fail
        go_ret
        exact ⟨rfl, below_dn HS5.out.bel _⟩
end Go.Proofs.Ytgcblajhdebigaa
