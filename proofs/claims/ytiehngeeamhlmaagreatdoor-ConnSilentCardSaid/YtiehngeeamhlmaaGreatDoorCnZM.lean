/- The contracts of Conn.fire, Conn.settle of a connection whose last leg is gone, and Conn.pass. Conditions: the connection stands; what expire and settle do there. -/
import Derived.Test.YtiehngeeamhlmaaGreatDoorCnFM
namespace Go.Proofs.YtiehngeeamhlmaaGreatDoor
set_option linter.unusedVariables false
set_option linter.unusedSimpArgs false
set_option maxRecDepth 20000
open Go.RowKit Go.Lib

section
variable {base : Nat} {w w' : World} {lab ro lab' ro' : Nat → Nat} {cb lb : Nat} {z : Zc} {c : Cv} {p : LP.Pm} {so sr sm n : Nat} {L : List (Int × Int)}
theorem fire_of {P : World → Prop} (t : Int) (H : Calls Tryz.prog 197 #[cptr cb, .int .i64 0, .int .i64 t] w fun e w' => e = .returned (.tuple #[]) ∧ P w') :
    Calls Tryz.prog 131 #[cptr cb, .int .i64 5, .int .i64 t] w fun e w' => e = .returned (.tuple #[]) ∧ P w' := by
  have HH := Lib.hid H
  clear H
  unfold cptr at *
  go_enter Tryz.func131, Tryz.ntmps131
  go_wp2_with fail
  refine HH.out.mono ?_
  rintro e w1 ⟨rfl, h1⟩
  have HP := Lib.hid h1
  clear h1 HH
  go_wp2_with fail
  refine bodyPost_ret (results_none rfl _ _ _) rfl ?_
  exact ⟨rfl, HP.out⟩
set_option maxHeartbeats 1600000 in
theorem moveZ_any (h : Wz base w lab ro cb c p so sr sm n L) (hs : c.st ≠ 7) (t : Int) :
    Calls Tryz.prog 113 #[cptr cb, .int .i64 t] w fun e w' => e = .returned (.tuple #[]) ∧ Below w.heap.size w w' := by
  have hcb := h.ca.lt
  have c4 := h.ca.st_
  have c8 := h.ca.sb_
  have c9 := h.ca.rb_
  have HD := Lib.hid (sDone_any h.sn)
  have HE := Lib.hid (rEnded_any h.rn)
  clear h
  have n1 : (c.st == 7) = false := by rw [beq_eq_false_iff_ne]; exact hs
  have n2 : (c.st != 7) = true := by simp [bne, n1]
  generalize c.st = st at *
  unfold cptr at *
  go_enter Tryz.func113, Tryz.ntmps113
  go_wp2_with fail
  refine HD.out.mono ?_
  rintro e w1 ⟨rfl, rfl⟩
  go_wp2_with fail
  refine HE.out.mono ?_
  rintro e w2 ⟨rfl, b2⟩
  have k4 := (b2.cell (p := ⟨cb, 4, none⟩) hcb).trans c4
  have HB := Lib.hid b2
  clear b2 HE HD c4 c8 c9
  go_wp2_with fail
  refine bodyPost_ret (results_none rfl _ _ _) rfl ?_
  exact ⟨rfl, HB.out⟩
set_option maxHeartbeats 1600000 in
theorem settleZ_any (h : Wz base w lab ro cb c p so sr sm n []) (C : c.Zero) (hn : n ≤ 1048576) {A : Option Addr} {k : Nat} (hlv : c.lv = .slice A 0 k) (hk : k ≤ 9223372036854775807) (hs : c.st = 0) (t : Int) (hT : ∀ W, Below base w W → LC.Tab W) :
    Calls Tryz.prog 57 #[cptr cb, .int .i64 t] w fun e w' => e = .returned (.tuple #[]) ∧ Wz base w' lab ro cb { c with er := c.la, st := 8 } p so sr sm n [] ∧ Fx lab ro w lab ro w' := by
  have HM := Lib.hid (moveZ_any h (by rw [hs]; decide) t)
  have HE := Lib.hid (fun W (b : Below w.heap.size w W) => end_any (h.below b) C hn hlv hk hs c.la (fun W2 b2 => hT W2 (by
    have := h.size
    exact (b.mono this).trans b2)))
  have HW := Lib.hid (fun W (b : Below w.heap.size w W) => (h.below b).ca)
  have hcb := h.ca.lt
  have c4 := h.ca.st_
  rw [hs] at c4
  have HLV := Lib.hid hlv
  have HST := Lib.hid hs
  clear h C hT hlv
  unfold cptr at *
  go_enter Tryz.func57, Tryz.ntmps57
  go_wp2_with fail
  refine HM.out.mono ?_
  rintro e w1 ⟨rfl, b1⟩
  have HE1 := Lib.hid (HE.out w1 b1)
  have k4 := (HW.out w1 b1).st_
  have k11 := (HW.out w1 b1).lv_
  have k6 := (HW.out w1 b1).la_
  rw [HLV.out] at k11
  rw [HST.out] at k4
  have HB := Lib.hid b1
  clear b1 HM HE HW c4
  generalize hla : c.la = la at *
  go_wp2_with fail
  refine HE1.out.mono ?_
  rintro e w2 ⟨rfl, Z2, X2⟩
  have HZ := Lib.hid Z2
  have HX := Lib.hid X2
  clear Z2 X2 HE1
  go_wp2_with fail
  refine bodyPost_ret (results_none rfl _ _ _) rfl ?_
  subst hla
  exact ⟨rfl, HZ.out, (Fx.below lab ro HB.out).trans HX.out⟩
def due2 : List Value := [.int .i64 0, .int .i64 0]
theorem sizeDue : (Tryz.prog.info? 170).map (·.size) = some 2 := by kernel_rfl
theorem zeroDue : (Tryz.prog.info? 170).map (·.zero) = some (some (.agg due2.toArray)) := by kernel_rfl
theorem own_rangeD {base2 g cp : Nat} {a b : Int} (h : w.ownsRow base2 170 2 (.slice (some ⟨g, 0, none⟩) 1 cp) 1 [.int .i64 a, .int .i64 b]) : w.rangeAt g 0 [.int .i64 a, .int .i64 b] := by
  intro k v hv
  have hk : k < 2 := (List.getElem?_eq_some_iff.1 hv).1
  rw [Nat.zero_add, World.ownsRow.cellAt h k (by omega)]
  exact hv
theorem due_one (a b : Int) : ∀ u ∈ [(.int .i64 a : Value), .int .i64 b], u.oneCell' = true := by
  intro u hu
  simp only [List.mem_cons, List.not_mem_nil, or_false] at hu
  rcases hu with rfl | rfl <;> rfl
set_option maxHeartbeats 1600000 in
theorem passNo_any (h : Wo base w lab ro cb lb z) (hb : base ≤ w.heap.size) {m : Int} (hL : z.L = [(5, m)]) (hn : z.n ≤ 1048576) (hm : ((z.n : Int) + 1) < m) :
    Calls Tryz.prog 77 #[cptr cb, .int .i64 ((z.n : Int) + 1)] w fun e w' => e = .returned (.tuple #[]) ∧ ∃ lab', Wo base w' lab' ro cb lb { z with n := z.n + 1 } ∧ Fx lab ro w lab' ro w' := by
  have HA := Lib.hid (LW.oadv_any h.wh (t := (z.n : Int) + 1) (by unfold LW.isI; omega) (by omega) (by rw [hL]; simp) (z.n + 1) (by omega) (by omega) (fun m hm => by omega))
  have HW := Lib.hid h
  have HB := Lib.hid hb
  have HL := Lib.hid hL
  have HM := Lib.hid hm
  have c16 := h.ca.wb_
  clear h hb hL hm
  unfold LW.ptr at HA
  unfold cptr at *
  go_enter Tryz.func77, Tryz.ntmps77
  go_wp2_with fail
  refine HA.out.mono ?_
  rintro e w1 ⟨v, lab1, out, rfl, o1, f1, d1, _, _, hout⟩
  have ho : out = [] := List.eq_nil_iff_forall_not_mem.2 fun q hq => by
    have h2 := (hout q).1 hq
    rw [HL.out] at h2
    have h3 : q = (5, m) := by simpa using h2.1
    have h4 := h2.2
    rw [h3] at h4
    have := HM.out
    simp at h4
    omega
  subst ho
  obtain ⟨A, cp, rfl, _, _⟩ := LF.own_slice d1
  rw [HL.out] at o1
  rw [show ([((5 : Int), m)].filter fun p => decide ((((z.n + 1 : Nat) : Nat) : Int) < p.2)) = [((5 : Int), m)] from by
    have := HM.out
    simp
    omega] at o1
  obtain ⟨W1, X1⟩ := HW.out.wheel HB.out o1 f1
  have HF : Hid (∃ lab', Wo base w1 lab' ro cb lb { z with n := z.n + 1 } ∧ Fx lab ro w lab' ro w1) := Lib.hid ⟨lab1, by rw [← HL.out] at W1; exact W1, X1⟩
  clear o1 f1 d1 hout W1 X1 HA
  go_wp2_with fail
  refine bodyPost_ret (results_none rfl _ _ _) rfl ?_
  exact ⟨rfl, HF.out⟩
set_option maxHeartbeats 3200000 in
theorem passDue_any (h : Wo base w lab ro cb lb z) (hb : base ≤ w.heap.size) (hL : z.L = [(5, (z.n : Int) + 1)]) (hn : z.n ≤ 1048576) (hbg : 0 ≤ z.c.bg ∧ z.c.bg ≤ 1048576) {P : World → Prop} {Q : World → Prop}
    (HE : ∀ W lab1, Wo base W lab1 ro cb lb { z with n := z.n + 1, L := [] } → Fx lab ro w lab1 ro W → Calls Tryz.prog 197 #[cptr cb, .int .i64 0, .int .i64 (z.c.bg + ((z.n : Int) + 1))] W fun e w' => e = .returned (.tuple #[]) ∧ P w')
    (HS : ∀ W, P W → Calls Tryz.prog 57 #[cptr cb, .int .i64 (z.c.bg + ((z.n : Int) + 1))] W fun e w' => e = .returned (.tuple #[]) ∧ Q w') :
    Calls Tryz.prog 77 #[cptr cb, .int .i64 ((z.n : Int) + 1)] w fun e w' => e = .returned (.tuple #[]) ∧ Q w' := by
  have HA := Lib.hid (LW.oadv_any h.wh (t := (z.n : Int) + 1) (by unfold LW.isI; omega) (by omega) (by rw [hL]; simp) (z.n + 1) (by omega) (by omega) (fun m hm => by omega))
  have HW := Lib.hid h
  have HB := Lib.hid hb
  have HL := Lib.hid hL
  have HEE := Lib.hid HE
  have HSS := Lib.hid HS
  have c16 := h.ca.wb_
  have hwr : IntKind.i64.wrap (z.c.bg + ((z.n : Int) + 1)) = z.c.bg + ((z.n : Int) + 1) := by rw [IntKind.wrap_i64]; omega
  have HWR := Lib.hid hwr
  clear h hb hL HE HS hwr
  unfold LW.ptr at HA
  unfold cptr at *
  go_enter Tryz.func77, Tryz.ntmps77
  go_wp2_with fail
  refine HA.out.mono ?_
  rintro e w1 ⟨v, lab1, out, rfl, o1, f1, d1, _, hO, hout⟩
  have hmem : ∀ q, q ∈ out ↔ q = (5, (z.n : Int) + 1) := fun q => by
    rw [hout q, HL.out]
    constructor
    · intro e; simpa using e.1
    · rintro rfl
      exact ⟨by simp, by show (z.n : Int) + 1 ≤ ((z.n + 1 : Nat) : Int); omega⟩
  obtain rfl : out = [(5, (z.n : Int) + 1)] := by
    match out, hmem, hO with
    | [], hm, _ => exact absurd ((hm (5, (z.n : Int) + 1)).2 rfl) (by simp)
    | [q], hm, _ => rw [(hm q).1 (by simp)]
    | q :: r :: l, hm, hO =>
      have e1 := (hm q).1 (by simp)
      have e2 := (hm r).1 (by simp)
      have h3 := List.rel_of_pairwise_cons hO (a' := r) (by simp)
      rw [e1, e2] at h3
      omega
  obtain ⟨gd, cd, rfl⟩ : ∃ g c, v = .slice (some ⟨g, 0, none⟩) 1 c := by
    rcases d1.2 with ⟨e, e2⟩ | ⟨g', cap, cur, e, _⟩
    · cases e2
    · exact ⟨g', cap, e⟩
  have r1 : w1.rangeAt gd 0 [.int .i64 5, .int .i64 ((z.n : Int) + 1)] := own_rangeD d1
  have hcd : 1 ≤ cd ∧ cd ≤ 9223372036854775807 := by
    obtain ⟨A, c, e, h1, h2⟩ := LF.own_slice d1
    injection e with _ _ e
    exact ⟨by have := h1; simp at this; omega, by omega⟩
  rw [HL.out] at o1
  rw [show ([((5 : Int), (z.n : Int) + 1)].filter fun p => decide ((((z.n + 1 : Nat) : Nat) : Int) < p.2)) = [] from by simp] at o1
  obtain ⟨W1, X1⟩ := HW.out.wheel HB.out o1 f1
  have HZ1 := Lib.hid W1
  have HX1 := Lib.hid X1
  have c15 := W1.ca.bg_
  clear o1 f1 d1 hO hout hmem W1 X1 HA c16
  generalize hbt : z.c.bg + ((z.n : Int) + 1) = tk at *
  have hwr := HWR.out
  generalize hnt : (z.n : Int) + 1 = nt at *
  dsimp only at c15
  generalize hbg2 : z.c.bg = bg at *
  go_wp2_with fail
  go_loopw [27, 7] (fun i _ wr => (i = .int .i64 0 ∧ wr = w1) ∨ (i = .int .i64 1 ∧ P wr)) (fun i _ _ => 1 - (intOf i).toNat)
  case atStart => exact .inl ⟨rfl, rfl⟩
  case round =>
    rcases hrel with ⟨rfl, rfl⟩ | ⟨rfl, hP⟩
    · go_wp2_with (first
        | ((with_reducible refine wpList_here ?_); refine wpList_loadV (o := ⟨some 30, _, _, _, _, _⟩) rfl 170 (.tmp 29) rfl gd 0 [.int .i64 5, .int .i64 nt] rfl r1 _ Tryz.underlying170 rfl sizeDue ?_)
        | ((with_reducible refine wpList_here ?_); refine wpList_allocV (o := ⟨some 7, _, _, _, _, _⟩) rfl 170 rfl due2 zeroDue _ rfl ?_; intro w2 z2 b2 s2)
        | ((with_reducible refine wpList_here ?_); refine wpList_storeV (o := ⟨none, .store 170 _ _, _, _, _, _⟩) rfl 170 (.tmp 7) (.tmp 30) rfl _ _ [.int .i64 5, .int .i64 nt] rfl rfl z2 rfl (due_one _ _) sizeDue ?_; intro w3 z3 g3 s3; have d0 : w3.cell? ⟨wr.heap.size, 0, none⟩ = some (.int .i64 5) := (z3 0 (by simp)).1)
        | fail)
      have b3 : Below wr.heap.size wr w3 := v_below_g b2 g3 b2.size (Nat.le_refl _)
      have HF := Lib.hid (fire_of tk (by unfold cptr; exact HEE.out w3 lab1 (HZ1.out.below b3) (HX1.out.trans (Fx.below lab1 ro b3))))
      unfold cptr at HF
      clear b3 z2 b2 s2 z3 g3 s3
      refine HF.out.mono ?_
      rintro e w4 ⟨rfl, h4⟩
      have HP := Lib.hid h4
      clear h4 HF
      go_wp2_with fail
      go_roundw
      case rel => exact .inr ⟨by go_num, HP.out⟩
      case measure => simp [intOf]
    · have HQ := Lib.hid (HSS.out wr hP)
      clear hP
      go_wp2_with fail
      refine HQ.out.mono ?_
      rintro e w4 ⟨rfl, h4⟩
      have HP := Lib.hid h4
      clear h4 HQ
      go_wp2_with fail
      go_end0
      exact ⟨rfl, HP.out⟩
end
end Go.Proofs.YtiehngeeamhlmaaGreatDoor
