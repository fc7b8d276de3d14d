/- The law DsendEnd. Conditions: the bytes lie where the slice says. -/
import Derived.Test.YtgcblajhdebigaaDsP
import Derived.Test.YtgcblajhdebigaaDsJ
namespace Go.Proofs.Ytgcblajhdebigaa
set_option linter.unusedVariables false
set_option linter.unusedSimpArgs false
open Go.RowKit Go.Lib

section
variable {W w : World} {sb : Nat} {z : Sh} {d : Dq}
theorem Sv.take (h : Sv W w sb z d) {m : Int} (hm : isI m) : Calls Try.prog 13 #[ptr sb, .int .i64 m] w fun e w' => ∃ v z', e = .returned (.tuple #[.int .i64 (d.dsn (mostOf m) : Int), v]) ∧ TookB w sb d (mostOf m) v w' z' ∧ Sv W w' sb z' (d.take (mostOf m)) ∧ Left W.heap.size w sb z (d.take (mostOf m)) w' z' :=
  (Take_any h.s hm).mono fun e w' ⟨v, z', he, hb, hl⟩ => ⟨v, z', he, hb, h.step hl, hl⟩
theorem Sv.lost (h : Sv W w sb z d) {x g : Int} (hx : -1099511627776 ≤ x ∧ x ≤ 4294967296) (hg : -1099511627776 ≤ g ∧ g ≤ 1099511627776) {f t : Nat} (hf : d.lf x = f) (ht : d.lt x g = t) : Calls Try.prog 17 #[ptr sb, .int .i64 x, .int .i64 g] w fun e w' => ∃ z', e = .returned (.int .i64 (kept d.L f (t - f) : Int)) ∧ Sv W w' sb z' (d.lose f t) ∧ Left W.heap.size w sb z (d.lose f t) w' z' := by
  subst hf ht
  exact (Lost_any h.s hx hg).mono fun e w' ⟨he, z', hl⟩ => ⟨z', he, h.step hl, hl⟩
theorem Sv.ack_yes (h : Sv W w sb z d) (hc : d.fin ≤ 1000000000) {a win : Nat} (hm : d.may (a : Int) (win : Int) = true) : Calls Try.prog 19 #[ptr sb, .int .i64 (a : Int), .int .i64 (win : Int)] w fun e w' => ∃ z', e = .returned (.tuple #[.int .i64 ((min a d.fin - d.una : Nat) : Int), .bool true]) ∧ Sv W w' sb z' (d.ack a win) ∧ Left W.heap.size w sb z (d.ack a win) w' z' := by
  have hh := Dq.may_iff.1 hm
  have hn := h.s.nums
  refine (Ack_any h.s hc (a := (a : Int)) (win := (win : Int)) (by unfold isI; omega) (by unfold isI; omega)).mono ?_
  rintro e w' ⟨he, z', hl⟩
  have e1 : d.acks (a : Int) (win : Int) = d.ack a win := by unfold Dq.acks; rw [if_pos hm]; rfl
  have e2 : d.gone (a : Int) (win : Int) = min a d.fin - d.una := by unfold Dq.gone; rw [if_pos hm]; rfl
  rw [e1] at hl
  rw [e2, hm] at he
  exact ⟨z', he, h.step hl, hl⟩
theorem Sv.due_no (h : Sv W w sb z d) (hd : d.due = 0) : Calls Try.prog 27 #[ptr sb] w fun e w' => e = .returned (.tuple #[.int .i64 0, .bool false]) ∧ Sv W w' sb z d ∧ Below w.heap.size w w' := by
  refine (Due_any h.s).mono ?_
  rintro e w' ⟨he, hb⟩
  rw [hd] at he
  exact ⟨he, h.below hb, hb⟩
theorem Sv.due_yes (h : Sv W w sb z d) {n : Nat} (hd : d.due = n + 1) : Calls Try.prog 27 #[ptr sb] w fun e w' => e = .returned (.tuple #[.int .i64 ((n + 1 : Nat) : Int), .bool true]) ∧ Sv W w' sb z d ∧ Below w.heap.size w w' := by
  refine (Due_any h.s).mono ?_
  rintro e w' ⟨he, hb⟩
  rw [hd, decide_eq_true (Nat.succ_pos n)] at he
  exact ⟨he, h.below hb, hb⟩
end

set_option maxRecDepth 20000 in
set_option maxHeartbeats 6400000 in
theorem End_law (A : Option Addr) (n c : Nat) (l : List UInt8) (k : Nat) (W : World) (hA : RB W A n c l) (hk : k < 256) : Calls Try.prog 7 #[.slice A n c, .int .u8 (k : Int)] W (Held W) := by
  have HW := Lib.hid (wakes_any W)
  obtain rfl := hA.len
  by_cases hn : 32 < l.length ∨ l.length = 0
  · clear hA
    generalize l.length = n at *
    rcases hn with h | h
    · have h' : (32 : Int) < (n : Int) := by omega
      go_enter Try.func7, Try.ntmps7
      go_wp2_with fail
      refine (HW.out).mono ?_
      rintro e w1 ⟨rfl, b1⟩
      have B1 := Lib.hid b1
      clear b1
      go_wp2_with fail
      go_ret
      exact ⟨rfl, B1.out⟩
    · have h' : (n : Int) = 0 := by omega
      go_enter Try.func7, Try.ntmps7
      go_wp2_with fail
      refine (HW.out).mono ?_
      rintro e w1 ⟨rfl, b1⟩
      have B1 := Lib.hid b1
      clear b1
      go_wp2_with fail
      go_ret
      exact ⟨rfl, B1.out⟩
  · have hn1 : 1 ≤ l.length ∧ l.length ≤ 32 := by omega
    have HA := Lib.hid hA
    have HWN := Lib.hid (wrote_new (b := l) (by omega))
    obtain ⟨p, hp⟩ : ∃ p, p = k % l.length := ⟨_, rfl⟩
    have hpl : p < l.length := by rw [hp]; exact Nat.mod_lt _ (by omega)
    have HKP : Hid ((k : Int).tmod (l.length : Int) = (p : Int)) := Lib.hid (by rw [hp]; rfl)
    have HGD : Hid (((l.drop p).take 1).getD 0 0 = l.getD p 0) := Lib.hid (by
      simp only [List.getD_eq_getElem?_getD, List.getElem?_take, List.getElem?_drop]
      simp)
    clear hp hn hA
    obtain ⟨n, hln⟩ : ∃ n, n = l.length := ⟨_, rfl⟩
    rw [← hln] at hn1 hpl HKP HWN HA ⊢
    have HL := Lib.hid hln
    clear hln
    have hg1 : ¬ ((32 : Int) < (n : Int)) := by omega
    have hg2 : ¬ ((n : Int) = 0) := by omega
    have hg3 : ((n : Int) == 0) = false := by simp; omega
    have hg4 : decide ((32 : Int) < (n : Int)) = false := decide_eq_false hg1
    go_enter Try.func7, Try.ntmps7
    go_wp2_with fail
    refine (HW.out).mono ?_
    rintro e w1 ⟨rfl, b1⟩
    have HN1 := Lib.hid (new_sv W w1 b1)
    clear b1
    go_wp2_with fail
    refine (HN1.out).mono ?_
    rintro e w2 ⟨sb, z2, rfl, S2, -, -⟩
    have HWR := Lib.hid (Write_any S2.s S2.bel.size (by decide) (HA.out.below S2.bel) (by omega))
    have HS2 := Lib.hid S2
    clear S2 HN1
    unfold ptr at *
    go_wp2_with fail
    refine (HWR.out).mono ?_
    rintro e w3 ⟨rfl, z3, L3⟩
    rw [HWN.out.2.1, HWN.out.2.2]
    rw [HWN.out.1] at L3
    have HS3 := Lib.hid (HS2.out.step L3)
    have HEN : Hid (Calls Try.prog 21 #[.pointer (some ⟨sb, 0, none⟩)] w3 fun e w' => e = .returned (.int .i64 0) ∧ Left W.heap.size w3 sb z3 (cl l 1 1 33 true) w' z3) := Lib.hid (End_any HS3.out.s)
    clear L3 HS2 HWR
    go_wp2_with fail
    refine (HEN.out).mono ?_
    rintro e w4 ⟨rfl, L4⟩
    have HS4 := Lib.hid (HS3.out.step L4)
    clear L4 HS3 HEN
    go_wp2_with fail
    go_loopg [9] (n + 1) (fun kx v9 wr => ∃ (z : Sh) (q : Nat), 1 ≤ q ∧ q ≤ n ∧ n + 1 - q ≤ kx ∧ Sv W wr sb z (cl l 1 q 33 true))
    case atStart => exact ⟨z3, 1, Nat.le_refl _, hn1.1, by omega, HS4.out⟩
    case round =>
      obtain ⟨z5, q, hq1, hqn, hkx, S5⟩ := hrel
      have HDU := Lib.hid (S5.due_no (by rw [cl_due hq1, if_neg (by have := HL.out; omega)]))
      clear S5
      unfold ptr at HDU
      go_wp2_with fail
      refine (HDU.out).mono ?_
      rintro e w6 ⟨rfl, S6, -⟩
      have HTK := Lib.hid (S6.take (m := 8) (by unfold isI; omega))
      rw [most8, cl_dsn hq1, cl_take hq1] at HTK
      obtain ⟨m, hm⟩ : ∃ m, m = min 8 (min 33 (l.length + 1) - q) := ⟨_, rfl⟩
      rw [← hm] at HTK
      have hm1 : 1 ≤ m ∧ q + m ≤ n + 1 := by have := HL.out; omega
      have HMO : Hid ((cl l 1 q 33 true).most 8 = m) := Lib.hid (by rw [cl_most hq1, hm])
      rw [if_neg (show ¬ m = 0 by omega)] at HTK
      clear S6 HDU hm
      unfold ptr at HTK
      go_wp2_with fail
      refine (HTK.out).mono ?_
      rintro e w7 ⟨v7, z7, rfl, B7, S7, -⟩
      have HS7 := Lib.hid S7
      have HNX := Lib.hid (Next_sd S7.s)
      obtain ⟨A7, c7, rfl, -⟩ := B7.rb
      rw [HMO.out]
      clear S7 B7 HTK
      unfold ptr at HNX
      go_wp2_with fail
      refine (HNX.out).mono ?_
      rintro e w8 ⟨rfl, rfl⟩
      have hnx : ((cl l 1 (q + m) 33 true).next : Int) = ((q + m : Nat) : Int) := rfl
      rw [hnx]
      have hw1 : IntKind.i64.wrap ((n : Int) + 1) = ((n + 1 : Nat) : Int) := by rw [IntKind.wrap_i64]; omega
      have HMQ := Lib.hid hm1
      have hm0 : ¬ ((m : Int) = 0) := by omega
      clear hnx HNX
      obtain ⟨q2, hq2⟩ : ∃ q2, q2 = q + m := ⟨_, rfl⟩
      rw [← hq2] at HS7 HMQ ⊢
      have HQ2 := Lib.hid hq2
      clear hm1 hq2 HMO
      by_cases hlast : q2 = n + 1
      · subst hlast
        have hone : ((n + 1 : Nat) : Int) = (n : Int) + 1 := by omega
        have HDY := Lib.hid (HS7.out.due_yes (n := n) (by rw [cl_due (by omega), if_pos (by rw [HL.out]), HL.out]))
        unfold ptr at HDY
        go_wp2_with fail
        refine (HDY.out).mono ?_
        rintro e w9 ⟨rfl, S9, -⟩
        obtain ⟨a, ha⟩ : ∃ a, a = p + 1 := ⟨_, rfl⟩
        have hkp := HKP.out
        have hwa : IntKind.i64.wrap (1 + (p : Int)) = (a : Int) := by rw [IntKind.wrap_i64]; omega
        have hwp : IntKind.i64.wrap ((a : Int) - 1) = (p : Int) := by rw [IntKind.wrap_i64]; omega
        have HLO := Lib.hid (S9.lost (x := (a : Int)) (g := 1) (by omega) (by omega) (f := a) (t := a + 1) (by unfold Dq.lf; show (max (a : Int) ((1 : Nat) : Int)).toNat = a; omega) (by unfold Dq.lt; show (max (max (a : Int) ((1 : Nat) : Int)) (min (a : Int) (((n + 1 : Nat) : Int) - max 1 0) + max 1 0)).toNat = a + 1; omega))
        rw [cl_lose] at HLO
        have HAP : Hid (1 ≤ a ∧ a < n + 1 ∧ a - 1 = p) := Lib.hid (by omega)
        generalize kept (cl l 1 (n + 1) 33 true).L a (a + 1 - a) = kp at *
        clear S9 HDY ha
        unfold ptr at HLO
        go_wp2_with fail
        refine (HLO.out).mono ?_
        rintro e w10 ⟨z10, rfl, S10, -⟩
        have HDN := Lib.hid (S10.due_no (ls1_due HAP.out.1 (Nat.le_refl _) HAP.out.2.1))
        clear S10 HLO
        unfold ptr at HDN
        go_wp2_with fail
        refine (HDN.out).mono ?_
        rintro e w11 ⟨rfl, S11, -⟩
        have HTK := Lib.hid (S11.take (m := 8) (by unfold isI; omega))
        rw [most8, ls1_dsn HAP.out.1 (Nat.le_refl _) HAP.out.2.1 (by omega), ls1_take HAP.out.1 (Nat.le_refl _) HAP.out.2.1 HAP.out.2.1 (by omega)] at HTK
        clear S11 HDN
        unfold ptr at HTK
        go_wp2_with fail
        refine (HTK.out).mono ?_
        rintro e w12 ⟨v12, z12, rfl, B12, S12, -⟩
        have HS12 := Lib.hid S12
        obtain ⟨A12, c12, rfl, r12⟩ := B12.rb
        rw [ls1_most HAP.out.1 (Nat.le_refl _) HAP.out.2.1 (by omega)] at r12 ⊢
        rw [ls1_got HAP.out.1 (Nat.le_refl _) HAP.out.2.1 (by omega), HAP.out.2.2] at r12
        obtain ⟨g12, o12, rfl, x12⟩ := r12.at_ (j := 0) (by omega)
        obtain ⟨gb, bo, rfl, xb⟩ := (HA.out.below S12.bel).at_ hpl
        rw [HGD.out, Nat.add_zero] at x12
        generalize (l.getD p 0).toNat = bt at *
        have hpn : p < n := hpl
        clear r12 B12 S12 HTK
        go_wp2_with fail
        go_quiet (fail)
        have HS13 := Lib.hid (HS12.out.below (below_dn (Below.refl _ _) nq))
        generalize w12.drewN nq = w13 at *
        have hw2 : IntKind.i64.wrap ((n : Int) + 2) = ((n + 2 : Nat) : Int) := by rw [IntKind.wrap_i64]; omega
        have HAK := Lib.hid (HS13.out.ack_yes (by show l.length + 1 ≤ _; rw [← HL.out]; omega) (a := n + 2) (win := 0) (by
          rw [Dq.may_iff]
          refine ⟨.inr ⟨rfl, ?_, ?_⟩, by omega, by omega⟩
          · show n + 1 = l.length + 1
            rw [HL.out]
          · show ((n + 2 : Nat) : Int) = ((l.length + 1 : Nat) : Int) + 1
            rw [← HL.out]
            omega))
        generalize min (n + 2) (cl l 1 (n + 1) 33 true).fin - (cl l 1 (n + 1) 33 true).una = gn at *
        have HFIN : Hid ((cl l 1 (n + 1) 33 true).fin = n + 1) := Lib.hid (by show l.length + 1 = _; rw [HL.out])
        clear HS12 HS13
        unfold ptr at HAK
        go_wp2_with fail
        refine (HAK.out).mono ?_
        rintro e w14 ⟨z14, rfl, S14, -⟩
        obtain ⟨dE, hdE⟩ : ∃ dE, dE = (cl l 1 (n + 1) 33 true).ack (n + 2) 0 := ⟨_, rfl⟩
        rw [← hdE] at S14
        have HD1 : Hid (dE.done = true) := Lib.hid (by rw [hdE]; show (false || decide ((cl l 1 (n + 1) 33 true).fin < n + 2)) = true; rw [HFIN.out, decide_eq_true (by omega)]; rfl)
        have HD2 : Hid (dE.told = true) := Lib.hid (by rw [hdE]; rfl)
        have HD3 : Hid (dE.held = 0) := Lib.hid (by
          rw [hdE]
          show (cl l 1 (n + 1) 33 true).fin - min (n + 2) (cl l 1 (n + 1) 33 true).fin = 0
          rw [HFIN.out]
          omega)
        have HD4 : Hid (dE.fin ≤ 1000000000) := Lib.hid (by rw [hdE]; show l.length + 1 ≤ _; rw [← HL.out]; omega)
        have HDN := Lib.hid (S14.due_no (by unfold Dq.due; exact if_neg (fun h => by rw [HD1.out] at h; cases h.2.2.2)))
        clear S14 HAK hdE
        unfold ptr at HDN
        go_wp2_with fail
        refine (HDN.out).mono ?_
        rintro e w15 ⟨rfl, S15, -⟩
        have hb1 := below_a w15 (.cells #[.int .u8 1] 5)
        have S16 := S15.below hb1
        have HWR : Hid (Calls Try.prog 11 #[.pointer (some ⟨sb, 0, none⟩), .slice (some ⟨w15.heap.size, 0, none⟩) 1 1] (w15.alloc (.cells #[.int .u8 1] 5)) (WriteP W.heap.size (w15.alloc (.cells #[.int .u8 1] 5)) sb z14 dE 1 [1])) := Lib.hid (Write_any S16.s S16.bel.size HD4.out (RB.lit w15 [1] 5 (by unfold maxLen; simp)) (by omega))
        have HS16 := Lib.hid S16
        have HWE : Hid (dE.wN 1 = 0 ∧ dE.wE 1 = 11 ∧ dE.wrote [1] = dE) := Lib.hid (by
          unfold Dq.wN Dq.wE Dq.wrote
          rw [HD2.out]
          exact ⟨rfl, rfl, rfl⟩)
        clear S15 S16 hb1 HDN
        go_wp2_with fail
        refine (HWR.out).mono ?_
        rintro e w17 ⟨rfl, z17, L17⟩
        rw [HWE.out.1, HWE.out.2.1]
        rw [HWE.out.2.2] at L17
        have HS17 := Lib.hid (HS16.out.step L17)
        have HDO := Lib.hid (Done_any HS17.out.s)
        have HHE := Lib.hid (Held_any HS17.out.s)
        rw [HD1.out] at HDO
        rw [HD3.out] at HHE
        clear L17 HS16 HWR
        unfold ptr at HDO HHE
        go_wp2_with fail
        refine (HDO.out).mono ?_
        rintro e w18 ⟨rfl, rfl⟩
        go_wp2_with fail
        refine (HHE.out).mono ?_
        rintro e w19 ⟨rfl, rfl⟩
        go_wp2_with fail
        go_ret
        exact ⟨rfl, HS17.out.bel⟩
      · have hne : ¬ ((q2 : Int) = (n : Int) + 1) := by omega
        have hne2 : ¬ ((q2 : Int) = ((n + 1 : Nat) : Int)) := by omega
        have hne3 : ((q2 : Int) == (n : Int) + 1) = false := by simp; omega
        have hne4 : ((q2 : Int) == ((n + 1 : Nat) : Int)) = false := by simp; omega
        have hm3 : ((m : Int) == 0) = false := by simp; omega
        go_wp2_with fail
        go_roundg (n + 1 - q2)
        case measure => have := HQ2.out; have := HMQ.out; omega
        case rel => exact ⟨z7, q2, by have := HQ2.out; omega, by have := HMQ.out; omega, Nat.le_refl _, HS7.out⟩
end Go.Proofs.Ytgcblajhdebigaa
