/- The law's step: a flow closes; a tick; nothing; all of it. Conditions: the pair stands, its numbers within their bounds. -/
import Derived.Test.YtnpkmkjenlhkiaaMg24
namespace Go.Proofs.Ytnpkmkjenlhkiaa
set_option linter.unusedVariables false
set_option linter.unusedSimpArgs false
set_option maxRecDepth 20000
open Go.RowKit Go.Lib

theorem idx_flow (a b : Value) (W : World) : (Instr.index 28 (.agg #[a, b]) (.int .i64 0)).run Try.prog W = .ok a W ∧ (Instr.index 28 (.agg #[a, b]) (.int .i64 1)).run Try.prog W = .ok b W := by constructor <;> kernel_rfl
theorem two_flows : (Try.prog.info? 28).map (·.size) = some 2 := by kernel_rfl
section
variable {GB : Option Nat} {base : Nat} {w w' w1 : World} {pb : Nat} {p : P} {m : Ms} {lab : Nat → Nat}
set_option maxHeartbeats 12800000 in
theorem stepK5 (h : PR GB base w pb p m lab) (q : P) (hq : q = p.flush) (hB : Bd q) (I : Int) (hI : isInt I) :
    Calls Try.prog 10 #[ptr pb, .agg #[.int .i64 5, .int .i64 I]] w (StepP GB base w pb (q.act 5 I).flush) := by
  have HACT : Hid (q.act 5 I = { q with f0 := q.f0.close q.t }) := Lib.hid (by unfold P.act; rw [if_neg (by rintro ⟨⟨_, h⟩, _⟩; exact absurd h (by decide)), if_neg (by decide), if_neg (by decide), if_pos rfl])
  have hbs : base ≤ w.heap.size := by have := h.lo; have := h.lt; omega
  have HBD := Lib.hid hB
  have HFL : Hid (∀ W m lab, PR GB base W pb p m lab → Calls Try.prog 28 #[.pointer (some ⟨pb, 0, none⟩)] W fun e w' => e = .returned (.tuple #[]) ∧ (∃ m' lab', PR GB base w' pb q m' lab' ∧ Gh W w' lab lab') ∧ Below base W w') := Lib.hid (fun W m lab h => by rw [hq]; exact flush_g h)
  have HFE : Hid (∀ W q m lab, PR GB base W pb q m lab → Calls Try.prog 28 #[.pointer (some ⟨pb, 0, none⟩)] W fun e w' => e = .returned (.tuple #[]) ∧ (∃ m' lab', PR GB base w' pb q.flush m' lab') ∧ Below base W w') := Lib.hid (fun W q m lab h => flush_any h)
  have H := Lib.hid h
  have hplt := h.lt
  have hI2 : -9223372036854775808 ≤ I ∧ I ≤ 9223372036854775807 := hI
  clear h hq hB hI
  unfold ptr StepP
  go_enter Try.func10, Try.ntmps10
  go_wp2_with (first
    | ((with_reducible refine wpList_here ?_); refine wpList_boxV (o := ⟨some 3, _, _, _, _, _⟩) rfl 35 (.tmp 1) rfl [.int .i64 5, .int .i64 I] rfl _ rfl ?_; intro w1 z1 b1 s1; have HB1 := Lib.hid b1; have HZ1 := Lib.hid z1; clear z1 b1)
    | fail)
  obtain ⟨gk, hgk⟩ : ∃ g, g = w.heap.size := ⟨_, rfl⟩
  have HP1 := Lib.hid ((H.out.relabel (lab' := fun j => if j < w.heap.size then lab j else 0) (fun j hj => if_pos hj)).below HB1.out)
  rw [← hgk] at HZ1
  rw [← hgk]
  refine (HFL.out _ _ _ HP1.out).mono ?_
  rintro e w2 ⟨rfl, ⟨m2, lab2, h2, g2⟩, b2⟩
  have HK : Hid (Own w2 gk [.int .i64 5, .int .i64 I]) := Lib.hid (HZ1.out.ch (by show 0 < 2; omega) g2.1 (fun e => e (if_neg (by omega))))
  have HLK : Hid (lab2 gk = 0) := Lib.hid (g2.2 gk (HZ1.out.lt (by show 0 < 2; omega)) (if_neg (by omega)))
  have HBW : Hid (Below base w w2) := Lib.hid ((HB1.out.mono hbs).trans b2)
  have H2 := Lib.hid h2
  obtain ⟨A2, c2, hwv, hwl⟩ := Ms.way_slice h2
  obtain ⟨A9, c9, e9, hc1, hc2⟩ := own_slice h2.way
  obtain ⟨L, hL⟩ : ∃ L, m2.ws.length = L := ⟨_, rfl⟩
  rw [hL] at hwv hwl hc1
  have hLm : L ≤ 9223372036854775807 := by omega
  have kw : w2.cell? ⟨pb, 2, none⟩ = some (.slice A2 L c2) := (h2.at_ 2).trans (by rw [show (m2.cs q.t)[2]? = some m2.wv from rfl, hwv])
  have k0 : w2.cell? ⟨gk, 0, none⟩ = some (.int .i64 5) := (HK.out 0 (by show 0 < 2; omega)).1
  have k1 : w2.cell? ⟨gk, 1, none⟩ = some (.int .i64 I) := (HK.out 1 (by show 1 < 2; omega)).1
  have HWV := Lib.hid hwv
  have HWL := Lib.hid (And.intro hL hwl)
  have hwr : IntKind.i64.wrap ((L : Int) - 1) = (L : Int) - 1 := by rw [IntKind.wrap_i64]; omega
  obtain ⟨v9, hv9⟩ : ∃ v, v = min (max I 0) ((L : Int) - 1) := ⟨_, rfl⟩
  have hmin : min (max I 0) ((L : Int) - 1) = v9 := hv9.symm
  clear hv9
  clear h2 hwv hwl hL g2 b2 HZ1 HB1 s1 hgk HP1 A9 c9 e9 hc1 hc2 H
  go_wp2_with fail
  go_quiet (fail)
  have HBW := Lib.hid (below_drewN HBW.out nq)
  have H2 := Lib.hid (H2.out.below (below_drewN (Below.refl _ _) nq))
  have HK := Lib.hid (HK.out.below (below_drewN (Below.refl _ _) nq))
  have kw : (w2.drewN nq).cell? ⟨pb, 2, none⟩ = some (.slice A2 L c2) := kw
  have k0 : (w2.drewN nq).cell? ⟨gk, 0, none⟩ = some (.int .i64 5) := k0
  have k1 : (w2.drewN nq).cell? ⟨gk, 1, none⟩ = some (.int .i64 I) := k1
  generalize w2.drewN nq = w3 at *
  obtain ⟨FB, hFB⟩ : ∃ g, g = m2.a.fb := ⟨_, rfl⟩
  have kfb : w3.cell? ⟨pb, 0, none⟩ = some (.pointer (some ⟨FB, 0, none⟩)) := by rw [hFB]; exact H2.out.at_ 0
  have HFB := Lib.hid hFB
  clear hFB
  obtain ⟨tt, htt⟩ : ∃ t, t = q.t := ⟨_, rfl⟩
  have HTT := Lib.hid htt
  have HIN : Hid (isInt (tt : Int)) := Lib.hid (by have := HBD.out.t; unfold isInt; omega)
  have ktk : w3.cell? ⟨pb, 7, none⟩ = some (.int .i64 (tt : Int)) := by rw [htt]; exact H2.out.at_ 7
  have H5 := Lib.hid (H2.out.below (Below.refl _ _).drew)
  have HB5 := Lib.hid HBW.out.drew
  have e0 : w3.drew.cell? ⟨gk, 0, none⟩ = some (.int .i64 5) ∧ w3.drew.cell? ⟨pb, 0, none⟩ = some (.pointer (some ⟨FB, 0, none⟩)) ∧ w3.drew.cell? ⟨pb, 7, none⟩ = some (.int .i64 (tt : Int)) := ⟨k0, kfb, ktk⟩
  clear htt k1 kw kfb ktk
  go_wp2_with fail
  generalize hwd : w3.drew = wd at *
  clear k0
  have HSN := Lib.hid (Close_any H5.out.fa HBD.out.f0.l (Nat.le_trans HBD.out.f0.os (by decide)) HBD.out.f0.E (tt : Int) HIN.out)
  rw [show ptr m2.a.fb = .pointer (some ⟨FB, 0, none⟩) by rw [HFB.out]; rfl] at HSN
  generalize q.f0.closeE = E at *
  refine wp_region_noPanic ?_
  refine until_start (fun W => W.cell? ⟨gk, 0, none⟩ = some (.int .i64 5) ∧ W.cell? ⟨pb, 0, none⟩ = some (.pointer (some ⟨FB, 0, none⟩)) ∧ W.cell? ⟨pb, 7, none⟩ = some (.int .i64 (tt : Int))) 12 (by kernel_rfl) (by rw [hwd]; exact e0) (fun _ => ?_)
  rw [hwd]
  clear hwd
  refine until_take (i := 0) (v := .pointer (some ⟨pb, 0, none⟩)) (some 122) [4, 5, 6, 7, 12] rfl rfl (by kernel_rfl) (by kernel_rfl) (by kernel_rfl) (by kernel_rfl) rfl rfl (fun _ _ _ h => h) (Or.inl ⟨by rfl, fun W hW => by go_simp⟩) e0 ?_
  simp only [Act.put, List.setIfInBounds_toArray, List.set_cons_zero, List.set_cons_succ]
  refine until_take (i := 1) (v := .pointer (some ⟨gk, 0, none⟩)) (some 123) [2, 3, 6, 7, 12] rfl rfl (by kernel_rfl) (by kernel_rfl) (by kernel_rfl) (by kernel_rfl) rfl rfl (fun _ _ _ h => h) (Or.inl ⟨by rfl, fun W hW => by go_simp⟩) e0 ?_
  simp only [Act.put, List.setIfInBounds_toArray, List.set_cons_zero, List.set_cons_succ]
  refine until_take (i := 8) (v := .pointer (some ⟨pb, 0, none⟩)) (some 130) [9, 10, 11, 12] rfl rfl (by kernel_rfl) (by kernel_rfl) (by kernel_rfl) (by kernel_rfl) rfl rfl (fun _ _ _ h => h) (Or.inl ⟨by rfl, fun W hW => by go_simp⟩) e0 ?_
  simp only [Act.put, List.setIfInBounds_toArray, List.set_cons_zero, List.set_cons_succ]
  refine until_take (i := 2) (v := .int .i64 5) (some 124) [3, 6, 7, 12] rfl rfl (by kernel_rfl) (by kernel_rfl) (by kernel_rfl) (by kernel_rfl) rfl rfl (fun _ _ _ h => h) (Or.inl ⟨by rfl, fun W hW => by have hc := hW.1; go_simp⟩) e0 ?_
  simp only [Act.put, List.setIfInBounds_toArray, List.set_cons_zero, List.set_cons_succ]
  refine until_take (i := 4) (v := .pointer (some ⟨pb, 0, none⟩)) (some 126) [5, 6, 7, 12] rfl rfl (by kernel_rfl) (by kernel_rfl) (by kernel_rfl) (by kernel_rfl) rfl rfl (fun _ _ _ h => h) (Or.inl ⟨by rfl, fun W hW => by go_simp⟩) e0 ?_
  simp only [Act.put, List.setIfInBounds_toArray, List.set_cons_zero, List.set_cons_succ]
  refine until_take (i := 9) (v := .pointer (some ⟨pb, 0, none⟩)) (some 131) [10, 11, 12] rfl rfl (by kernel_rfl) (by kernel_rfl) (by kernel_rfl) (by kernel_rfl) rfl rfl (fun _ _ _ h => h) (Or.inl ⟨by rfl, fun W hW => by go_simp⟩) e0 ?_
  simp only [Act.put, List.setIfInBounds_toArray, List.set_cons_zero, List.set_cons_succ]
  refine until_take (i := 3) (v := .int .i64 0) (some 125) [6, 7, 12] rfl rfl (by kernel_rfl) (by kernel_rfl) (by kernel_rfl) (by kernel_rfl) rfl rfl (fun _ _ _ h => h) (Or.inl ⟨by rfl, fun W hW => by kernel_rfl⟩) e0 ?_
  simp only [Act.put, List.setIfInBounds_toArray, List.set_cons_zero, List.set_cons_succ]
  refine until_take (i := 5) (v := .pointer (some ⟨pb, 0, none⟩)) (some 127) [6, 7, 12] rfl rfl (by kernel_rfl) (by kernel_rfl) (by kernel_rfl) (by kernel_rfl) rfl rfl (fun _ _ _ h => h) (Or.inl ⟨by rfl, fun W hW => by go_simp⟩) e0 ?_
  simp only [Act.put, List.setIfInBounds_toArray, List.set_cons_zero, List.set_cons_succ]
  refine until_take (i := 10) (v := .pointer (some ⟨pb, 7, none⟩)) (some 132) [11, 12] rfl rfl (by kernel_rfl) (by kernel_rfl) (by kernel_rfl) (by kernel_rfl) rfl rfl (fun _ _ _ h => h) (Or.inl ⟨by rfl, fun W hW => by go_simp⟩) e0 ?_
  simp only [Act.put, List.setIfInBounds_toArray, List.set_cons_zero, List.set_cons_succ]
  refine until_take (i := 6) (v := .pointer (some ⟨pb, 0, none⟩)) (some 128) [7, 12] rfl rfl (by kernel_rfl) (by kernel_rfl) (by kernel_rfl) (by kernel_rfl) rfl rfl (fun _ _ _ h => h) (Or.inl ⟨by rfl, fun W hW => by go_simp⟩) e0 ?_
  simp only [Act.put, List.setIfInBounds_toArray, List.set_cons_zero, List.set_cons_succ]
  refine until_take (i := 11) (v := .int .i64 (tt : Int)) (some 133) [12] rfl rfl (by kernel_rfl) (by kernel_rfl) (by kernel_rfl) (by kernel_rfl) rfl rfl (fun _ _ _ h => h) (Or.inl ⟨by rfl, fun W hW => by have hc := hW.2.2; go_simp⟩) e0 ?_
  simp only [Act.put, List.setIfInBounds_toArray, List.set_cons_zero, List.set_cons_succ]
  refine until_take (i := 7) (v := .pointer (some ⟨FB, 0, none⟩)) (some 129) [12] rfl rfl (by kernel_rfl) (by kernel_rfl) (by kernel_rfl) (by kernel_rfl) rfl rfl (fun _ _ _ h => h) (Or.inl ⟨by rfl, fun W hW => by have hc := hW.2.1; go_simp⟩) e0 ?_
  simp only [Act.put, List.setIfInBounds_toArray, List.set_cons_zero, List.set_cons_succ]
  refine until_last (by kernel_rfl) rfl (fun K hK => ?_)
  go_simp
  refine HSN.out.mono ?_
  rintro e w5 ⟨rfl, l5⟩
  have HC5 := Lib.hid (H5.out.call0 l5)
  clear l5
  dsimp only
  refine hK.out _ _ ?_
  clear hK
  try simp only [Act.put, List.setIfInBounds_toArray, List.set_cons_zero, List.set_cons_succ]
  refine wpAnyH_done (by kernel_rfl) ?_ _
  refine NoPanic.normal ?_
  obtain ⟨⟨m6, lab6, h6, hl6⟩, ch6⟩ := HC5.out
  have HB10 : Hid (Below base w w5) := Lib.hid (HB5.out.trans (ch6.belowB (by have := H5.out.lo; have := H5.out.lt; omega) (fun g e => e.2)))
  have H6 := Lib.hid h6
  clear h6 hl6 ch6
  go_wp2_with fail
  refine (HFE.out _ _ _ _ H6.out).mono ?_
  rintro e w99 ⟨rfl, hp99, hb99⟩
  go_wp2_with fail
  go_end0
  exact ⟨rfl, by rw [HACT.out]; rw [HTT.out] at hp99; exact hp99, HB10.out.trans hb99⟩
set_option maxHeartbeats 12800000 in
theorem stepK6 (h : PR GB base w pb p m lab) (q : P) (hq : q = p.flush) (hB : Bd q) (I : Int) (hI : isInt I) :
    Calls Try.prog 10 #[ptr pb, .agg #[.int .i64 6, .int .i64 I]] w (StepP GB base w pb (q.act 6 I).flush) := by
  cases hf : q.f1 with
  | none =>
    as_aux_lemma =>
      have HF := Lib.hid hf
      have HACT : Hid (q.act 6 I = q) := Lib.hid (by
        unfold P.act
        rw [if_neg (by rintro ⟨⟨_, h⟩, _⟩; exact absurd h (by decide)), if_neg (by decide), if_neg (by decide), if_neg (by decide), if_pos rfl, hf]
        show ({ q with f1 := none } : P) = q
        rw [← hf])
      clear hf
      have hbs : base ≤ w.heap.size := by have := h.lo; have := h.lt; omega
      have HBD := Lib.hid hB
      have HFL : Hid (∀ W m lab, PR GB base W pb p m lab → Calls Try.prog 28 #[.pointer (some ⟨pb, 0, none⟩)] W fun e w' => e = .returned (.tuple #[]) ∧ (∃ m' lab', PR GB base w' pb q m' lab' ∧ Gh W w' lab lab') ∧ Below base W w') := Lib.hid (fun W m lab h => by rw [hq]; exact flush_g h)
      have HFE : Hid (∀ W q m lab, PR GB base W pb q m lab → Calls Try.prog 28 #[.pointer (some ⟨pb, 0, none⟩)] W fun e w' => e = .returned (.tuple #[]) ∧ (∃ m' lab', PR GB base w' pb q.flush m' lab') ∧ Below base W w') := Lib.hid (fun W q m lab h => flush_any h)
      have H := Lib.hid h
      have hplt := h.lt
      have hI2 : -9223372036854775808 ≤ I ∧ I ≤ 9223372036854775807 := hI
      clear h hq hB hI
      unfold ptr StepP
      go_enter Try.func10, Try.ntmps10
      go_wp2_with (first
        | ((with_reducible refine wpList_here ?_); refine wpList_boxV (o := ⟨some 3, _, _, _, _, _⟩) rfl 35 (.tmp 1) rfl [.int .i64 6, .int .i64 I] rfl _ rfl ?_; intro w1 z1 b1 s1; have HB1 := Lib.hid b1; have HZ1 := Lib.hid z1; clear z1 b1)
        | fail)
      obtain ⟨gk, hgk⟩ : ∃ g, g = w.heap.size := ⟨_, rfl⟩
      have HP1 := Lib.hid ((H.out.relabel (lab' := fun j => if j < w.heap.size then lab j else 0) (fun j hj => if_pos hj)).below HB1.out)
      rw [← hgk] at HZ1
      rw [← hgk]
      refine (HFL.out _ _ _ HP1.out).mono ?_
      rintro e w2 ⟨rfl, ⟨m2, lab2, h2, g2⟩, b2⟩
      have HK : Hid (Own w2 gk [.int .i64 6, .int .i64 I]) := Lib.hid (HZ1.out.ch (by show 0 < 2; omega) g2.1 (fun e => e (if_neg (by omega))))
      have HLK : Hid (lab2 gk = 0) := Lib.hid (g2.2 gk (HZ1.out.lt (by show 0 < 2; omega)) (if_neg (by omega)))
      have HBW : Hid (Below base w w2) := Lib.hid ((HB1.out.mono hbs).trans b2)
      have H2 := Lib.hid h2
      obtain ⟨A2, c2, hwv, hwl⟩ := Ms.way_slice h2
      obtain ⟨A9, c9, e9, hc1, hc2⟩ := own_slice h2.way
      obtain ⟨L, hL⟩ : ∃ L, m2.ws.length = L := ⟨_, rfl⟩
      rw [hL] at hwv hwl hc1
      have hLm : L ≤ 9223372036854775807 := by omega
      have kw : w2.cell? ⟨pb, 2, none⟩ = some (.slice A2 L c2) := (h2.at_ 2).trans (by rw [show (m2.cs q.t)[2]? = some m2.wv from rfl, hwv])
      have k0 : w2.cell? ⟨gk, 0, none⟩ = some (.int .i64 6) := (HK.out 0 (by show 0 < 2; omega)).1
      have k1 : w2.cell? ⟨gk, 1, none⟩ = some (.int .i64 I) := (HK.out 1 (by show 1 < 2; omega)).1
      have HWV := Lib.hid hwv
      have HWL := Lib.hid (And.intro hL hwl)
      have hwr : IntKind.i64.wrap ((L : Int) - 1) = (L : Int) - 1 := by rw [IntKind.wrap_i64]; omega
      obtain ⟨v9, hv9⟩ : ∃ v, v = min (max I 0) ((L : Int) - 1) := ⟨_, rfl⟩
      have hmin : min (max I 0) ((L : Int) - 1) = v9 := hv9.symm
      clear hv9
      clear h2 hwv hwl hL g2 b2 HZ1 HB1 s1 hgk HP1 A9 c9 e9 hc1 hc2 H
      go_wp2_with fail
      go_quiet (fail)
      have HBW := Lib.hid (below_drewN HBW.out nq)
      have H2 := Lib.hid (H2.out.below (below_drewN (Below.refl _ _) nq))
      have HK := Lib.hid (HK.out.below (below_drewN (Below.refl _ _) nq))
      have kw : (w2.drewN nq).cell? ⟨pb, 2, none⟩ = some (.slice A2 L c2) := kw
      have k0 : (w2.drewN nq).cell? ⟨gk, 0, none⟩ = some (.int .i64 6) := k0
      have k1 : (w2.drewN nq).cell? ⟨gk, 1, none⟩ = some (.int .i64 I) := k1
      generalize w2.drewN nq = w3 at *
      have kfb : w3.cell? ⟨pb, 1, none⟩ = some (.pointer none) := by have h9 := H2.out.at_ 1; rw [show (m2.cs q.t)[1]? = some (f1v m2.b) from rfl, H2.out.fn HF.out] at h9; exact h9
      obtain ⟨tt, htt⟩ : ∃ t, t = q.t := ⟨_, rfl⟩
      have HTT := Lib.hid htt
      have HIN : Hid (isInt (tt : Int)) := Lib.hid (by have := HBD.out.t; unfold isInt; omega)
      have ktk : w3.cell? ⟨pb, 7, none⟩ = some (.int .i64 (tt : Int)) := by rw [htt]; exact H2.out.at_ 7
      have H5 := Lib.hid (H2.out.below (Below.refl _ _).drew)
      have HB5 := Lib.hid HBW.out.drew
      have e0 : w3.drew.cell? ⟨gk, 0, none⟩ = some (.int .i64 6) ∧ w3.drew.cell? ⟨pb, 1, none⟩ = some (.pointer none) ∧ w3.drew.cell? ⟨pb, 7, none⟩ = some (.int .i64 (tt : Int)) := ⟨k0, kfb, ktk⟩
      clear htt k1 kw kfb ktk
      go_wp2_with fail
      generalize hwd : w3.drew = wd at *
      clear k0
      have HSN := Lib.hid (nClose (tt : Int) wd)
      unfold nilp at HSN
      refine wp_region_noPanic ?_
      refine until_start (fun W => W.cell? ⟨gk, 0, none⟩ = some (.int .i64 6) ∧ W.cell? ⟨pb, 1, none⟩ = some (.pointer none) ∧ W.cell? ⟨pb, 7, none⟩ = some (.int .i64 (tt : Int))) 12 (by kernel_rfl) (by rw [hwd]; exact e0) (fun _ => ?_)
      rw [hwd]
      clear hwd
      refine until_take (i := 0) (v := .pointer (some ⟨pb, 0, none⟩)) (some 122) [4, 5, 6, 7, 12] rfl rfl (by kernel_rfl) (by kernel_rfl) (by kernel_rfl) (by kernel_rfl) rfl rfl (fun _ _ _ h => h) (Or.inl ⟨by rfl, fun W hW => by go_simp⟩) e0 ?_
      simp only [Act.put, List.setIfInBounds_toArray, List.set_cons_zero, List.set_cons_succ]
      refine until_take (i := 1) (v := .pointer (some ⟨gk, 0, none⟩)) (some 123) [2, 3, 6, 7, 12] rfl rfl (by kernel_rfl) (by kernel_rfl) (by kernel_rfl) (by kernel_rfl) rfl rfl (fun _ _ _ h => h) (Or.inl ⟨by rfl, fun W hW => by go_simp⟩) e0 ?_
      simp only [Act.put, List.setIfInBounds_toArray, List.set_cons_zero, List.set_cons_succ]
      refine until_take (i := 8) (v := .pointer (some ⟨pb, 0, none⟩)) (some 130) [9, 10, 11, 12] rfl rfl (by kernel_rfl) (by kernel_rfl) (by kernel_rfl) (by kernel_rfl) rfl rfl (fun _ _ _ h => h) (Or.inl ⟨by rfl, fun W hW => by go_simp⟩) e0 ?_
      simp only [Act.put, List.setIfInBounds_toArray, List.set_cons_zero, List.set_cons_succ]
      refine until_take (i := 2) (v := .int .i64 6) (some 124) [3, 6, 7, 12] rfl rfl (by kernel_rfl) (by kernel_rfl) (by kernel_rfl) (by kernel_rfl) rfl rfl (fun _ _ _ h => h) (Or.inl ⟨by rfl, fun W hW => by have hc := hW.1; go_simp⟩) e0 ?_
      simp only [Act.put, List.setIfInBounds_toArray, List.set_cons_zero, List.set_cons_succ]
      refine until_take (i := 4) (v := .pointer (some ⟨pb, 0, none⟩)) (some 126) [5, 6, 7, 12] rfl rfl (by kernel_rfl) (by kernel_rfl) (by kernel_rfl) (by kernel_rfl) rfl rfl (fun _ _ _ h => h) (Or.inl ⟨by rfl, fun W hW => by go_simp⟩) e0 ?_
      simp only [Act.put, List.setIfInBounds_toArray, List.set_cons_zero, List.set_cons_succ]
      refine until_take (i := 9) (v := .pointer (some ⟨pb, 0, none⟩)) (some 131) [10, 11, 12] rfl rfl (by kernel_rfl) (by kernel_rfl) (by kernel_rfl) (by kernel_rfl) rfl rfl (fun _ _ _ h => h) (Or.inl ⟨by rfl, fun W hW => by go_simp⟩) e0 ?_
      simp only [Act.put, List.setIfInBounds_toArray, List.set_cons_zero, List.set_cons_succ]
      refine until_take (i := 3) (v := .int .i64 1) (some 125) [6, 7, 12] rfl rfl (by kernel_rfl) (by kernel_rfl) (by kernel_rfl) (by kernel_rfl) rfl rfl (fun _ _ _ h => h) (Or.inl ⟨by rfl, fun W hW => by kernel_rfl⟩) e0 ?_
      simp only [Act.put, List.setIfInBounds_toArray, List.set_cons_zero, List.set_cons_succ]
      refine until_take (i := 5) (v := .pointer (some ⟨pb, 0, none⟩)) (some 127) [6, 7, 12] rfl rfl (by kernel_rfl) (by kernel_rfl) (by kernel_rfl) (by kernel_rfl) rfl rfl (fun _ _ _ h => h) (Or.inl ⟨by rfl, fun W hW => by go_simp⟩) e0 ?_
      simp only [Act.put, List.setIfInBounds_toArray, List.set_cons_zero, List.set_cons_succ]
      refine until_take (i := 10) (v := .pointer (some ⟨pb, 7, none⟩)) (some 132) [11, 12] rfl rfl (by kernel_rfl) (by kernel_rfl) (by kernel_rfl) (by kernel_rfl) rfl rfl (fun _ _ _ h => h) (Or.inl ⟨by rfl, fun W hW => by go_simp⟩) e0 ?_
      simp only [Act.put, List.setIfInBounds_toArray, List.set_cons_zero, List.set_cons_succ]
      refine until_take (i := 6) (v := .pointer (some ⟨pb, 1, none⟩)) (some 128) [7, 12] rfl rfl (by kernel_rfl) (by kernel_rfl) (by kernel_rfl) (by kernel_rfl) rfl rfl (fun _ _ _ h => h) (Or.inl ⟨by rfl, fun W hW => by go_simp⟩) e0 ?_
      simp only [Act.put, List.setIfInBounds_toArray, List.set_cons_zero, List.set_cons_succ]
      refine until_take (i := 11) (v := .int .i64 (tt : Int)) (some 133) [12] rfl rfl (by kernel_rfl) (by kernel_rfl) (by kernel_rfl) (by kernel_rfl) rfl rfl (fun _ _ _ h => h) (Or.inl ⟨by rfl, fun W hW => by have hc := hW.2.2; go_simp⟩) e0 ?_
      simp only [Act.put, List.setIfInBounds_toArray, List.set_cons_zero, List.set_cons_succ]
      refine until_take (i := 7) (v := .pointer none) (some 129) [12] rfl rfl (by kernel_rfl) (by kernel_rfl) (by kernel_rfl) (by kernel_rfl) rfl rfl (fun _ _ _ h => h) (Or.inl ⟨by rfl, fun W hW => by have hc := hW.2.1; go_simp⟩) e0 ?_
      simp only [Act.put, List.setIfInBounds_toArray, List.set_cons_zero, List.set_cons_succ]
      refine until_last (by kernel_rfl) rfl (fun K hK => ?_)
      go_simp
      refine HSN.out.mono ?_
      rintro e w5 ⟨rfl, hw5⟩
      obtain rfl : w5 = wd := hw5
      dsimp only
      refine hK.out _ _ ?_
      clear hK
      try simp only [Act.put, List.setIfInBounds_toArray, List.set_cons_zero, List.set_cons_succ]
      refine wpAnyH_done (by kernel_rfl) ?_ _
      refine NoPanic.normal ?_
      go_wp2_with fail
      refine (HFE.out _ _ _ _ H5.out).mono ?_
      rintro e w99 ⟨rfl, hp99, hb99⟩
      go_wp2_with fail
      go_end0
      exact ⟨rfl, by rw [HACT.out]; exact hp99, HB5.out.trans hb99⟩
  | some f =>
    as_aux_lemma =>
      have HF := Lib.hid hf
      have HACT : Hid (q.act 6 I = { q with f1 := some (f.close q.t) }) := Lib.hid (by
        unfold P.act
        rw [if_neg (by rintro ⟨⟨_, h⟩, _⟩; exact absurd h (by decide)), if_neg (by decide), if_neg (by decide), if_neg (by decide), if_pos rfl, hf]
        rfl)
      clear hf
      have hbs : base ≤ w.heap.size := by have := h.lo; have := h.lt; omega
      have HBD := Lib.hid hB
      have HFL : Hid (∀ W m lab, PR GB base W pb p m lab → Calls Try.prog 28 #[.pointer (some ⟨pb, 0, none⟩)] W fun e w' => e = .returned (.tuple #[]) ∧ (∃ m' lab', PR GB base w' pb q m' lab' ∧ Gh W w' lab lab') ∧ Below base W w') := Lib.hid (fun W m lab h => by rw [hq]; exact flush_g h)
      have HFE : Hid (∀ W q m lab, PR GB base W pb q m lab → Calls Try.prog 28 #[.pointer (some ⟨pb, 0, none⟩)] W fun e w' => e = .returned (.tuple #[]) ∧ (∃ m' lab', PR GB base w' pb q.flush m' lab') ∧ Below base W w') := Lib.hid (fun W q m lab h => flush_any h)
      have H := Lib.hid h
      have hplt := h.lt
      have hI2 : -9223372036854775808 ≤ I ∧ I ≤ 9223372036854775807 := hI
      clear h hq hB hI
      unfold ptr StepP
      go_enter Try.func10, Try.ntmps10
      go_wp2_with (first
        | ((with_reducible refine wpList_here ?_); refine wpList_boxV (o := ⟨some 3, _, _, _, _, _⟩) rfl 35 (.tmp 1) rfl [.int .i64 6, .int .i64 I] rfl _ rfl ?_; intro w1 z1 b1 s1; have HB1 := Lib.hid b1; have HZ1 := Lib.hid z1; clear z1 b1)
        | fail)
      obtain ⟨gk, hgk⟩ : ∃ g, g = w.heap.size := ⟨_, rfl⟩
      have HP1 := Lib.hid ((H.out.relabel (lab' := fun j => if j < w.heap.size then lab j else 0) (fun j hj => if_pos hj)).below HB1.out)
      rw [← hgk] at HZ1
      rw [← hgk]
      refine (HFL.out _ _ _ HP1.out).mono ?_
      rintro e w2 ⟨rfl, ⟨m2, lab2, h2, g2⟩, b2⟩
      have HK : Hid (Own w2 gk [.int .i64 6, .int .i64 I]) := Lib.hid (HZ1.out.ch (by show 0 < 2; omega) g2.1 (fun e => e (if_neg (by omega))))
      have HLK : Hid (lab2 gk = 0) := Lib.hid (g2.2 gk (HZ1.out.lt (by show 0 < 2; omega)) (if_neg (by omega)))
      have HBW : Hid (Below base w w2) := Lib.hid ((HB1.out.mono hbs).trans b2)
      have H2 := Lib.hid h2
      obtain ⟨A2, c2, hwv, hwl⟩ := Ms.way_slice h2
      obtain ⟨A9, c9, e9, hc1, hc2⟩ := own_slice h2.way
      obtain ⟨L, hL⟩ : ∃ L, m2.ws.length = L := ⟨_, rfl⟩
      rw [hL] at hwv hwl hc1
      have hLm : L ≤ 9223372036854775807 := by omega
      have kw : w2.cell? ⟨pb, 2, none⟩ = some (.slice A2 L c2) := (h2.at_ 2).trans (by rw [show (m2.cs q.t)[2]? = some m2.wv from rfl, hwv])
      have k0 : w2.cell? ⟨gk, 0, none⟩ = some (.int .i64 6) := (HK.out 0 (by show 0 < 2; omega)).1
      have k1 : w2.cell? ⟨gk, 1, none⟩ = some (.int .i64 I) := (HK.out 1 (by show 1 < 2; omega)).1
      have HWV := Lib.hid hwv
      have HWL := Lib.hid (And.intro hL hwl)
      have hwr : IntKind.i64.wrap ((L : Int) - 1) = (L : Int) - 1 := by rw [IntKind.wrap_i64]; omega
      obtain ⟨v9, hv9⟩ : ∃ v, v = min (max I 0) ((L : Int) - 1) := ⟨_, rfl⟩
      have hmin : min (max I 0) ((L : Int) - 1) = v9 := hv9.symm
      clear hv9
      clear h2 hwv hwl hL g2 b2 HZ1 HB1 s1 hgk HP1 A9 c9 e9 hc1 hc2 H
      go_wp2_with fail
      go_quiet (fail)
      have HBW := Lib.hid (below_drewN HBW.out nq)
      have H2 := Lib.hid (H2.out.below (below_drewN (Below.refl _ _) nq))
      have HK := Lib.hid (HK.out.below (below_drewN (Below.refl _ _) nq))
      have kw : (w2.drewN nq).cell? ⟨pb, 2, none⟩ = some (.slice A2 L c2) := kw
      have k0 : (w2.drewN nq).cell? ⟨gk, 0, none⟩ = some (.int .i64 6) := k0
      have k1 : (w2.drewN nq).cell? ⟨gk, 1, none⟩ = some (.int .i64 I) := k1
      generalize w2.drewN nq = w3 at *
      obtain ⟨s, hs, hFl⟩ := H2.out.fb f HF.out
      obtain ⟨FB, hFB⟩ : ∃ g, g = s.fb := ⟨_, rfl⟩
      have kfb : w3.cell? ⟨pb, 1, none⟩ = some (.pointer (some ⟨FB, 0, none⟩)) := by rw [hFB]; have h9 := H2.out.at_ 1; rw [show (m2.cs q.t)[1]? = some (f1v m2.b) from rfl, hs] at h9; exact h9
      have HFB := Lib.hid hFB
      have HSS := Lib.hid hs
      clear hFB hs hFl
      obtain ⟨tt, htt⟩ : ∃ t, t = q.t := ⟨_, rfl⟩
      have HTT := Lib.hid htt
      have HIN : Hid (isInt (tt : Int)) := Lib.hid (by have := HBD.out.t; unfold isInt; omega)
      have ktk : w3.cell? ⟨pb, 7, none⟩ = some (.int .i64 (tt : Int)) := by rw [htt]; exact H2.out.at_ 7
      have H5 := Lib.hid (H2.out.below (Below.refl _ _).drew)
      have HB5 := Lib.hid HBW.out.drew
      have e0 : w3.drew.cell? ⟨gk, 0, none⟩ = some (.int .i64 6) ∧ w3.drew.cell? ⟨pb, 1, none⟩ = some (.pointer (some ⟨FB, 0, none⟩)) ∧ w3.drew.cell? ⟨pb, 7, none⟩ = some (.int .i64 (tt : Int)) := ⟨k0, kfb, ktk⟩
      clear htt k1 kw kfb ktk
      go_wp2_with fail
      generalize hwd : w3.drew = wd at *
      clear k0
      obtain ⟨s5, hs5, hF5⟩ := H5.out.fb f HF.out
      obtain rfl : s = s5 := by have h9 := HSS.out; rw [hs5] at h9; injection h9 with h9; exact h9.symm
      clear hs5
      have HSN := Lib.hid (Close_any hF5 (HBD.out.f1 f HF.out).l (Nat.le_trans (HBD.out.f1 f HF.out).os (by decide)) (HBD.out.f1 f HF.out).E (tt : Int) HIN.out)
      rw [show ptr s.fb = .pointer (some ⟨FB, 0, none⟩) by rw [HFB.out]; rfl] at HSN
      generalize f.closeE = E at *
      refine wp_region_noPanic ?_
      refine until_start (fun W => W.cell? ⟨gk, 0, none⟩ = some (.int .i64 6) ∧ W.cell? ⟨pb, 1, none⟩ = some (.pointer (some ⟨FB, 0, none⟩)) ∧ W.cell? ⟨pb, 7, none⟩ = some (.int .i64 (tt : Int))) 12 (by kernel_rfl) (by rw [hwd]; exact e0) (fun _ => ?_)
      rw [hwd]
      clear hwd
      refine until_take (i := 0) (v := .pointer (some ⟨pb, 0, none⟩)) (some 122) [4, 5, 6, 7, 12] rfl rfl (by kernel_rfl) (by kernel_rfl) (by kernel_rfl) (by kernel_rfl) rfl rfl (fun _ _ _ h => h) (Or.inl ⟨by rfl, fun W hW => by go_simp⟩) e0 ?_
      simp only [Act.put, List.setIfInBounds_toArray, List.set_cons_zero, List.set_cons_succ]
      refine until_take (i := 1) (v := .pointer (some ⟨gk, 0, none⟩)) (some 123) [2, 3, 6, 7, 12] rfl rfl (by kernel_rfl) (by kernel_rfl) (by kernel_rfl) (by kernel_rfl) rfl rfl (fun _ _ _ h => h) (Or.inl ⟨by rfl, fun W hW => by go_simp⟩) e0 ?_
      simp only [Act.put, List.setIfInBounds_toArray, List.set_cons_zero, List.set_cons_succ]
      refine until_take (i := 8) (v := .pointer (some ⟨pb, 0, none⟩)) (some 130) [9, 10, 11, 12] rfl rfl (by kernel_rfl) (by kernel_rfl) (by kernel_rfl) (by kernel_rfl) rfl rfl (fun _ _ _ h => h) (Or.inl ⟨by rfl, fun W hW => by go_simp⟩) e0 ?_
      simp only [Act.put, List.setIfInBounds_toArray, List.set_cons_zero, List.set_cons_succ]
      refine until_take (i := 2) (v := .int .i64 6) (some 124) [3, 6, 7, 12] rfl rfl (by kernel_rfl) (by kernel_rfl) (by kernel_rfl) (by kernel_rfl) rfl rfl (fun _ _ _ h => h) (Or.inl ⟨by rfl, fun W hW => by have hc := hW.1; go_simp⟩) e0 ?_
      simp only [Act.put, List.setIfInBounds_toArray, List.set_cons_zero, List.set_cons_succ]
      refine until_take (i := 4) (v := .pointer (some ⟨pb, 0, none⟩)) (some 126) [5, 6, 7, 12] rfl rfl (by kernel_rfl) (by kernel_rfl) (by kernel_rfl) (by kernel_rfl) rfl rfl (fun _ _ _ h => h) (Or.inl ⟨by rfl, fun W hW => by go_simp⟩) e0 ?_
      simp only [Act.put, List.setIfInBounds_toArray, List.set_cons_zero, List.set_cons_succ]
      refine until_take (i := 9) (v := .pointer (some ⟨pb, 0, none⟩)) (some 131) [10, 11, 12] rfl rfl (by kernel_rfl) (by kernel_rfl) (by kernel_rfl) (by kernel_rfl) rfl rfl (fun _ _ _ h => h) (Or.inl ⟨by rfl, fun W hW => by go_simp⟩) e0 ?_
      simp only [Act.put, List.setIfInBounds_toArray, List.set_cons_zero, List.set_cons_succ]
      refine until_take (i := 3) (v := .int .i64 1) (some 125) [6, 7, 12] rfl rfl (by kernel_rfl) (by kernel_rfl) (by kernel_rfl) (by kernel_rfl) rfl rfl (fun _ _ _ h => h) (Or.inl ⟨by rfl, fun W hW => by kernel_rfl⟩) e0 ?_
      simp only [Act.put, List.setIfInBounds_toArray, List.set_cons_zero, List.set_cons_succ]
      refine until_take (i := 5) (v := .pointer (some ⟨pb, 0, none⟩)) (some 127) [6, 7, 12] rfl rfl (by kernel_rfl) (by kernel_rfl) (by kernel_rfl) (by kernel_rfl) rfl rfl (fun _ _ _ h => h) (Or.inl ⟨by rfl, fun W hW => by go_simp⟩) e0 ?_
      simp only [Act.put, List.setIfInBounds_toArray, List.set_cons_zero, List.set_cons_succ]
      refine until_take (i := 10) (v := .pointer (some ⟨pb, 7, none⟩)) (some 132) [11, 12] rfl rfl (by kernel_rfl) (by kernel_rfl) (by kernel_rfl) (by kernel_rfl) rfl rfl (fun _ _ _ h => h) (Or.inl ⟨by rfl, fun W hW => by go_simp⟩) e0 ?_
      simp only [Act.put, List.setIfInBounds_toArray, List.set_cons_zero, List.set_cons_succ]
      refine until_take (i := 6) (v := .pointer (some ⟨pb, 1, none⟩)) (some 128) [7, 12] rfl rfl (by kernel_rfl) (by kernel_rfl) (by kernel_rfl) (by kernel_rfl) rfl rfl (fun _ _ _ h => h) (Or.inl ⟨by rfl, fun W hW => by go_simp⟩) e0 ?_
      simp only [Act.put, List.setIfInBounds_toArray, List.set_cons_zero, List.set_cons_succ]
      refine until_take (i := 11) (v := .int .i64 (tt : Int)) (some 133) [12] rfl rfl (by kernel_rfl) (by kernel_rfl) (by kernel_rfl) (by kernel_rfl) rfl rfl (fun _ _ _ h => h) (Or.inl ⟨by rfl, fun W hW => by have hc := hW.2.2; go_simp⟩) e0 ?_
      simp only [Act.put, List.setIfInBounds_toArray, List.set_cons_zero, List.set_cons_succ]
      refine until_take (i := 7) (v := .pointer (some ⟨FB, 0, none⟩)) (some 129) [12] rfl rfl (by kernel_rfl) (by kernel_rfl) (by kernel_rfl) (by kernel_rfl) rfl rfl (fun _ _ _ h => h) (Or.inl ⟨by rfl, fun W hW => by have hc := hW.2.1; go_simp⟩) e0 ?_
      simp only [Act.put, List.setIfInBounds_toArray, List.set_cons_zero, List.set_cons_succ]
      refine until_last (by kernel_rfl) rfl (fun K hK => ?_)
      go_simp
      refine HSN.out.mono ?_
      rintro e w5 ⟨rfl, l5⟩
      have HC5 := Lib.hid (H5.out.call1 HF.out HSS.out l5)
      clear l5
      dsimp only
      refine hK.out _ _ ?_
      clear hK
      try simp only [Act.put, List.setIfInBounds_toArray, List.set_cons_zero, List.set_cons_succ]
      refine wpAnyH_done (by kernel_rfl) ?_ _
      refine NoPanic.normal ?_
      obtain ⟨⟨m6, lab6, h6, hl6⟩, ch6⟩ := HC5.out
      have HB10 : Hid (Below base w w5) := Lib.hid (HB5.out.trans (ch6.belowB (by have := H5.out.lo; have := H5.out.lt; omega) (fun g e => e.2)))
      have H6 := Lib.hid h6
      clear h6 hl6 ch6
      go_wp2_with fail
      refine (HFE.out _ _ _ _ H6.out).mono ?_
      rintro e w99 ⟨rfl, hp99, hb99⟩
      go_wp2_with fail
      go_end0
      exact ⟨rfl, by rw [HACT.out]; rw [HTT.out] at hp99; exact hp99, HB10.out.trans hb99⟩
set_option maxHeartbeats 12800000 in
theorem stepK7 (h : PR GB base w pb p m lab) (q : P) (hq : q = p.flush) (hB : Bd q) (I : Int) (hI : isInt I) :
    Calls Try.prog 10 #[ptr pb, .agg #[.int .i64 7, .int .i64 I]] w (StepP GB base w pb (q.act 7 I).flush) := by
  obtain ⟨Q1, hQ1⟩ : ∃ Q : P, Q = { q with t := q.t + 1 } := ⟨_, rfl⟩
  obtain ⟨Q2, hQ2⟩ : ∃ Q : P, Q = { q with t := q.t + 1, f0 := q.f0.expire (q.t + 1 : Nat) } := ⟨_, rfl⟩
  have HACT : Hid (q.act 7 I = { Q2 with f1 := Q2.f1.map fun f => f.expire (q.t + 1 : Nat) }) := Lib.hid (by unfold P.act; rw [if_neg (by rintro ⟨⟨_, h⟩, _⟩; exact absurd h (by decide)), if_neg (by decide), if_neg (by decide), if_neg (by decide), if_neg (by decide), if_pos rfl, hQ2])
  have HQ := Lib.hid (And.intro hQ1 hQ2)
  clear hQ1 hQ2
  have hbs : base ≤ w.heap.size := by have := h.lo; have := h.lt; omega
  have HBD := Lib.hid hB
  have HFL : Hid (∀ W m lab, PR GB base W pb p m lab → Calls Try.prog 28 #[.pointer (some ⟨pb, 0, none⟩)] W fun e w' => e = .returned (.tuple #[]) ∧ (∃ m' lab', PR GB base w' pb q m' lab' ∧ Gh W w' lab lab') ∧ Below base W w') := Lib.hid (fun W m lab h => by rw [hq]; exact flush_g h)
  have HFE : Hid (∀ W q m lab, PR GB base W pb q m lab → Calls Try.prog 28 #[.pointer (some ⟨pb, 0, none⟩)] W fun e w' => e = .returned (.tuple #[]) ∧ (∃ m' lab', PR GB base w' pb q.flush m' lab') ∧ Below base W w') := Lib.hid (fun W q m lab h => flush_any h)
  have H := Lib.hid h
  have hplt := h.lt
  have hI2 : -9223372036854775808 ≤ I ∧ I ≤ 9223372036854775807 := hI
  clear h hq hB hI
  unfold ptr StepP
  go_enter Try.func10, Try.ntmps10
  go_wp2_with (first
    | ((with_reducible refine wpList_here ?_); refine wpList_boxV (o := ⟨some 3, _, _, _, _, _⟩) rfl 35 (.tmp 1) rfl [.int .i64 7, .int .i64 I] rfl _ rfl ?_; intro w1 z1 b1 s1; have HB1 := Lib.hid b1; have HZ1 := Lib.hid z1; clear z1 b1)
    | fail)
  obtain ⟨gk, hgk⟩ : ∃ g, g = w.heap.size := ⟨_, rfl⟩
  have HP1 := Lib.hid ((H.out.relabel (lab' := fun j => if j < w.heap.size then lab j else 0) (fun j hj => if_pos hj)).below HB1.out)
  rw [← hgk] at HZ1
  rw [← hgk]
  refine (HFL.out _ _ _ HP1.out).mono ?_
  rintro e w2 ⟨rfl, ⟨m2, lab2, h2, g2⟩, b2⟩
  have HK : Hid (Own w2 gk [.int .i64 7, .int .i64 I]) := Lib.hid (HZ1.out.ch (by show 0 < 2; omega) g2.1 (fun e => e (if_neg (by omega))))
  have HLK : Hid (lab2 gk = 0) := Lib.hid (g2.2 gk (HZ1.out.lt (by show 0 < 2; omega)) (if_neg (by omega)))
  have HBW : Hid (Below base w w2) := Lib.hid ((HB1.out.mono hbs).trans b2)
  have H2 := Lib.hid h2
  obtain ⟨A2, c2, hwv, hwl⟩ := Ms.way_slice h2
  obtain ⟨A9, c9, e9, hc1, hc2⟩ := own_slice h2.way
  obtain ⟨L, hL⟩ : ∃ L, m2.ws.length = L := ⟨_, rfl⟩
  rw [hL] at hwv hwl hc1
  have hLm : L ≤ 9223372036854775807 := by omega
  have kw : w2.cell? ⟨pb, 2, none⟩ = some (.slice A2 L c2) := (h2.at_ 2).trans (by rw [show (m2.cs q.t)[2]? = some m2.wv from rfl, hwv])
  have k0 : w2.cell? ⟨gk, 0, none⟩ = some (.int .i64 7) := (HK.out 0 (by show 0 < 2; omega)).1
  have k1 : w2.cell? ⟨gk, 1, none⟩ = some (.int .i64 I) := (HK.out 1 (by show 1 < 2; omega)).1
  have HWV := Lib.hid hwv
  have HWL := Lib.hid (And.intro hL hwl)
  have hwr : IntKind.i64.wrap ((L : Int) - 1) = (L : Int) - 1 := by rw [IntKind.wrap_i64]; omega
  obtain ⟨v9, hv9⟩ : ∃ v, v = min (max I 0) ((L : Int) - 1) := ⟨_, rfl⟩
  have hmin : min (max I 0) ((L : Int) - 1) = v9 := hv9.symm
  clear hv9
  clear h2 hwv hwl hL g2 b2 HZ1 HB1 s1 hgk HP1 A9 c9 e9 hc1 hc2 H
  go_wp2_with fail
  go_quiet (fail)
  have HBW := Lib.hid (below_drewN HBW.out nq)
  have H2 := Lib.hid (H2.out.below (below_drewN (Below.refl _ _) nq))
  have HK := Lib.hid (HK.out.below (below_drewN (Below.refl _ _) nq))
  have kw : (w2.drewN nq).cell? ⟨pb, 2, none⟩ = some (.slice A2 L c2) := kw
  have k0 : (w2.drewN nq).cell? ⟨gk, 0, none⟩ = some (.int .i64 7) := k0
  have k1 : (w2.drewN nq).cell? ⟨gk, 1, none⟩ = some (.int .i64 I) := k1
  generalize w2.drewN nq = w3 at *
  obtain ⟨tt, htt⟩ : ∃ t, t = q.t := ⟨_, rfl⟩
  obtain ⟨t1, ht1⟩ : ∃ t, t = tt + 1 := ⟨_, rfl⟩
  have hT9 : t1 ≤ 1152921504606846976 := by have := HBD.out.t; omega
  have HTT := Lib.hid (And.intro htt ht1)
  have hw1 : IntKind.i64.wrap ((tt : Int) + 1) = (t1 : Int) := by rw [IntKind.wrap_i64, ht1]; omega
  have ktk : w3.cell? ⟨pb, 7, none⟩ = some (.int .i64 (tt : Int)) := by rw [htt]; exact H2.out.at_ 7
  have ftk : w3.frozen? ⟨pb, 7, none⟩ = false := H2.out.fz 7
  have hpt := H2.out.tick t1
  have HP7 : Hid (PR GB base (w3.setCell ⟨pb, 7, none⟩ (.int .i64 (t1 : Int))) pb Q1 m2 lab2) := Lib.hid (by rw [HQ.out.1, ← htt, ← ht1]; exact hpt.1)
  have HB7 : Hid (Below base w (w3.setCell ⟨pb, 7, none⟩ (.int .i64 (t1 : Int)))) := Lib.hid (HBW.out.trans (hpt.2.belowB (by have := H2.out.lo; have := H2.out.lt; omega) (fun g e => e ▸ H2.out.lo)))
  have hr7 : (w3.setCell ⟨pb, 7, none⟩ (.int .i64 (t1 : Int))).rangeAt pb 0 [ptr m2.a.fb, f1v m2.b] := fun j v hv => by
    rcases j with _ | _ | j
    · injection hv with hv; subst hv; exact HP7.out.at_ 0
    · injection hv with hv; subst hv; exact HP7.out.at_ 1
    · cases hv
  have HF0 := Lib.hid HP7.out.fa
  have HF1 := Lib.hid HP7.out.fb
  have HFN := Lib.hid HP7.out.fn
  obtain ⟨FB, hFB⟩ : ∃ g, g = m2.a.fb := ⟨_, rfl⟩
  rw [← hFB] at hr7
  unfold ptr at hr7
  obtain ⟨V1, hV1⟩ : ∃ v, v = f1v m2.b := ⟨_, rfl⟩
  rw [← hV1] at hr7
  have HFB := Lib.hid (And.intro hFB hV1)
  clear htt ht1 hpt hFB hV1 k1
  go_wp2_with (first
    | ((with_reducible refine wpList_here ?_); refine wpList_loadV (o := ⟨some 149, _, _, _, _, _⟩) rfl 28 (.tmp 148) rfl _ _ [.pointer (some ⟨FB, 0, none⟩), V1] rfl hr7 _ Try.underlying28 rfl two_flows ?_)
    | fail)
  generalize w3.setCell ⟨pb, 7, none⟩ (.int .i64 (t1 : Int)) = w4 at *
  clear hr7 ktk ftk kw k0
  go_loopw [150] (fun v wr => Below base w wr ∧ ((v = .int .i64 0 ∧ PR GB base wr pb Q1 m2 lab2) ∨ (v = .int .i64 1 ∧ ∃ m' lab', PR GB base wr pb Q2 m' lab' ∧ m'.b = m2.b) ∨ (v = .int .i64 2 ∧ ∃ m' lab', PR GB base wr pb (q.act 7 I) m' lab'))) (fun v _ => 2 - (intOf v).toNat)
  case atStart => exact ⟨HB7.out, .inl ⟨rfl, HP7.out⟩⟩
  case round =>
    obtain ⟨hB, ⟨rfl, h1⟩ | ⟨rfl, m1, lab1, h1, hmb⟩ | ⟨rfl, m1, lab1, h1⟩⟩ := hrel
    · obtain ⟨wx, rfl⟩ : ∃ wx, wx = wr := ⟨_, rfl⟩
      have hq1 : Q1.f0 = q.f0 := by rw [HQ.out.1]
      have ktk : wx.cell? ⟨pb, 7, none⟩ = some (.int .i64 (t1 : Int)) := by have h9 := h1.at_ 7; rw [show (m2.cs Q1.t)[7]? = some (.int .i64 (Q1.t : Int)) from rfl, HQ.out.1] at h9; rw [HTT.out.2, HTT.out.1]; exact h9
      have HX0 := Lib.hid (Expire_any (x := Q1.f0) h1.fa (by rw [hq1]; exact HBD.out.f0.l) (by rw [hq1]; exact HBD.out.f0.d40) (by rw [hq1]; exact Nat.le_trans HBD.out.f0.os (by decide)) (by rw [hq1]; exact HBD.out.f0.E) (by rw [hq1]; exact HBD.out.f0.E2) (by rw [hq1]; exact HBD.out.f0.df) (by rw [hq1]; exact HBD.out.f0.tr) (t1 : Int) (by omega))
      rw [show ptr m2.a.fb = .pointer (some ⟨FB, 0, none⟩) by rw [HFB.out.1]; rfl] at HX0
      generalize F.dies Q1.f0 (t1 : Int) = DD at *
      have H1 := Lib.hid h1
      have HBr := Lib.hid hB
      clear h1 hB hq1
      have hix := (idx_flow (.pointer (some ⟨FB, 0, none⟩)) V1 wx).1
      go_wp2_with fail
      refine HX0.out.mono ?_
      rintro e w5 ⟨rfl, l5⟩
      obtain ⟨m5, lab5, h5, _, hm5, hl5⟩ := H1.out.flow0 l5
      have HB5 : Hid (Below base w w5) := Lib.hid (HBr.out.trans ((H1.out.call0 l5).2.belowB (by have := H1.out.lo; have := H1.out.lt; omega) (fun g e => e.2)))
      have HE : Hid (∃ m' lab', PR GB base w5 pb Q2 m' lab' ∧ m'.b = m2.b) := Lib.hid ⟨m5, lab5, by
        have h9 := h5
        rw [HQ.out.1, HTT.out.2, HTT.out.1] at h9
        rw [HQ.out.2]
        exact h9, by rw [hm5]⟩
      clear h5 hm5 hl5 l5
      go_wp2_with fail
      go_roundw
      case rel => exact ⟨HB5.out, .inr (.inl ⟨rfl, HE.out⟩)⟩
      case measure => simp [intOf]
    · obtain ⟨wx, rfl⟩ : ∃ wx, wx = wr := ⟨_, rfl⟩
      have ktk : wx.cell? ⟨pb, 7, none⟩ = some (.int .i64 (t1 : Int)) := by have h9 := h1.at_ 7; rw [show (m1.cs Q2.t)[7]? = some (.int .i64 (Q2.t : Int)) from rfl, HQ.out.2] at h9; rw [HTT.out.2, HTT.out.1]; exact h9
      have H1 := Lib.hid h1
      have HBr := Lib.hid hB
      have HMB := Lib.hid hmb
      clear h1 hB hmb
      cases hf : q.f1 with
      | none =>
        have hq1 : Q2.f1 = none := by rw [HQ.out.2]; exact hf
        have hv : V1 = .pointer none := by rw [HFB.out.2, ← HMB.out, H1.out.fn hq1]; rfl
        have HN := Lib.hid (fun W => nExpire (t1 : Int) W)
        unfold nilp at HN
        have HE0 : Hid (q.act 7 I = Q2) := Lib.hid (by rw [HACT.out, hq1]; show ({ Q2 with f1 := none } : P) = Q2; rw [← hq1])
        clear hq1 hf
        subst hv
        have hix := (idx_flow (.pointer (some ⟨FB, 0, none⟩)) (.pointer none) wx).2
        go_wp2_with fail
        refine (HN.out _).mono ?_
        rintro e w5 ⟨rfl, b5⟩
        have HB5 : Hid (Below base w w5) := Lib.hid (HBr.out.trans (b5.mono (by have := H1.out.lo; have := H1.out.lt; omega)))
        have HE := Lib.hid (H1.out.below b5)
        clear b5
        go_wp2_with fail
        go_roundw
        case rel => exact ⟨HB5.out, .inr (.inr ⟨rfl, _, _, by rw [HE0.out]; exact HE.out⟩)⟩
        case measure => simp [intOf]
      | some f =>
        have hq1 : Q2.f1 = some f := by rw [HQ.out.2]; exact hf
        obtain ⟨s, hs, hF⟩ := H1.out.fb f hq1
        have hv : V1 = .pointer (some ⟨s.fb, 0, none⟩) := by rw [HFB.out.2, ← HMB.out, hs]; rfl
        have BZ := HBD.out.f1 f hf
        have HX0 := Lib.hid (Expire_any (x := f) hF BZ.l BZ.d40 (Nat.le_trans BZ.os (by decide)) BZ.E BZ.E2 BZ.df BZ.tr (t1 : Int) (by omega))
        have HS := Lib.hid (And.intro hs hq1)
        have HE0 : Hid (q.act 7 I = { Q2 with f1 := some (f.expire (t1 : Int)) }) := Lib.hid (by rw [HACT.out, hq1, HTT.out.2, HTT.out.1]; rfl)
        unfold ptr at HX0
        clear hq1 hf hs hF BZ
        generalize F.dies f (t1 : Int) = DD at *
        subst hv
        have hix := (idx_flow (.pointer (some ⟨FB, 0, none⟩)) (.pointer (some ⟨s.fb, 0, none⟩)) wx).2
        go_wp2_with fail
        refine HX0.out.mono ?_
        rintro e w5 ⟨rfl, l5⟩
        obtain ⟨⟨m5, lab5, h5, hl5⟩, ch5⟩ := H1.out.call1 HS.out.2 HS.out.1 l5
        have HB5 : Hid (Below base w w5) := Lib.hid (HBr.out.trans (ch5.belowB (by have := H1.out.lo; have := H1.out.lt; omega) (fun g e => e.2)))
        have HE := Lib.hid h5
        clear h5 hl5 ch5 l5
        go_wp2_with fail
        go_roundw
        case rel => exact ⟨HB5.out, .inr (.inr ⟨rfl, _, _, by rw [HE0.out]; exact HE.out⟩)⟩
        case measure => simp [intOf]
    · have H1 := Lib.hid h1
      have HBr := Lib.hid hB
      clear h1 hB
      go_wp2_with fail
      refine (HFE.out _ _ _ _ H1.out).mono ?_
      rintro e w99 ⟨rfl, hp99, hb99⟩
      go_wp2_with fail
      go_end0
      exact ⟨rfl, hp99, HBr.out.trans hb99⟩
set_option maxHeartbeats 12800000 in
theorem stepN0 (h : PR GB base w pb p m lab) (q : P) (hq : q = p.flush) (hB : Bd q) (hw : q.way = []) (I : Int) (hI : isInt I) :
    Calls Try.prog 10 #[ptr pb, .agg #[.int .i64 0, .int .i64 I]] w (StepP GB base w pb (q.act 0 I).flush) := by
  have HACT : Hid (q.act 0 I = q) := Lib.hid (by unfold P.act; rw [if_neg (by rintro ⟨_, h⟩; exact h hw), if_neg (by decide), if_neg (by decide), if_neg (by decide), if_neg (by decide), if_neg (by decide)])
  have hbs : base ≤ w.heap.size := by have := h.lo; have := h.lt; omega
  have HBD := Lib.hid hB
  have HFL : Hid (∀ W m lab, PR GB base W pb p m lab → Calls Try.prog 28 #[.pointer (some ⟨pb, 0, none⟩)] W fun e w' => e = .returned (.tuple #[]) ∧ (∃ m' lab', PR GB base w' pb q m' lab' ∧ Gh W w' lab lab') ∧ Below base W w') := Lib.hid (fun W m lab h => by rw [hq]; exact flush_g h)
  have HFE : Hid (∀ W q m lab, PR GB base W pb q m lab → Calls Try.prog 28 #[.pointer (some ⟨pb, 0, none⟩)] W fun e w' => e = .returned (.tuple #[]) ∧ (∃ m' lab', PR GB base w' pb q.flush m' lab') ∧ Below base W w') := Lib.hid (fun W q m lab h => flush_any h)
  have H := Lib.hid h
  have hplt := h.lt
  have hI2 : -9223372036854775808 ≤ I ∧ I ≤ 9223372036854775807 := hI
  clear h hq hB hI
  unfold ptr StepP
  go_enter Try.func10, Try.ntmps10
  go_wp2_with (first
    | ((with_reducible refine wpList_here ?_); refine wpList_boxV (o := ⟨some 3, _, _, _, _, _⟩) rfl 35 (.tmp 1) rfl [.int .i64 0, .int .i64 I] rfl _ rfl ?_; intro w1 z1 b1 s1; have HB1 := Lib.hid b1; have HZ1 := Lib.hid z1; clear z1 b1)
    | fail)
  obtain ⟨gk, hgk⟩ : ∃ g, g = w.heap.size := ⟨_, rfl⟩
  have HP1 := Lib.hid ((H.out.relabel (lab' := fun j => if j < w.heap.size then lab j else 0) (fun j hj => if_pos hj)).below HB1.out)
  rw [← hgk] at HZ1
  rw [← hgk]
  refine (HFL.out _ _ _ HP1.out).mono ?_
  rintro e w2 ⟨rfl, ⟨m2, lab2, h2, g2⟩, b2⟩
  have HK : Hid (Own w2 gk [.int .i64 0, .int .i64 I]) := Lib.hid (HZ1.out.ch (by show 0 < 2; omega) g2.1 (fun e => e (if_neg (by omega))))
  have HLK : Hid (lab2 gk = 0) := Lib.hid (g2.2 gk (HZ1.out.lt (by show 0 < 2; omega)) (if_neg (by omega)))
  have HBW : Hid (Below base w w2) := Lib.hid ((HB1.out.mono hbs).trans b2)
  have H2 := Lib.hid h2
  obtain ⟨A2, c2, hwv, hwl⟩ := Ms.way_slice h2
  obtain ⟨A9, c9, e9, hc1, hc2⟩ := own_slice h2.way
  obtain ⟨L, hL⟩ : ∃ L, m2.ws.length = L := ⟨_, rfl⟩
  rw [hL] at hwv hwl hc1
  have hLm : L ≤ 9223372036854775807 := by omega
  have kw : w2.cell? ⟨pb, 2, none⟩ = some (.slice A2 L c2) := (h2.at_ 2).trans (by rw [show (m2.cs q.t)[2]? = some m2.wv from rfl, hwv])
  have k0 : w2.cell? ⟨gk, 0, none⟩ = some (.int .i64 0) := (HK.out 0 (by show 0 < 2; omega)).1
  have k1 : w2.cell? ⟨gk, 1, none⟩ = some (.int .i64 I) := (HK.out 1 (by show 1 < 2; omega)).1
  have HWV := Lib.hid hwv
  have HWL := Lib.hid (And.intro hL hwl)
  have hwr : IntKind.i64.wrap ((L : Int) - 1) = (L : Int) - 1 := by rw [IntKind.wrap_i64]; omega
  have hL0 : L = 0 := by
    rw [hwl, hw]
    rfl
  have hmin : min (max I 0) ((L : Int) - 1) = -1 := by omega
  clear hL0
  clear hw
  clear h2 hwv hwl hL g2 b2 HZ1 HB1 s1 hgk HP1 A9 c9 e9 hc1 hc2 H
  go_wp2_with fail
  go_quiet (fail)
  have HBW := Lib.hid (below_drewN HBW.out nq)
  have H2 := Lib.hid (H2.out.below (below_drewN (Below.refl _ _) nq))
  have HK := Lib.hid (HK.out.below (below_drewN (Below.refl _ _) nq))
  have kw : (w2.drewN nq).cell? ⟨pb, 2, none⟩ = some (.slice A2 L c2) := kw
  have k0 : (w2.drewN nq).cell? ⟨gk, 0, none⟩ = some (.int .i64 0) := k0
  have k1 : (w2.drewN nq).cell? ⟨gk, 1, none⟩ = some (.int .i64 I) := k1
  generalize w2.drewN nq = w3 at *
  go_wp2_with fail
  refine (HFE.out _ _ _ _ H2.out).mono ?_
  rintro e w99 ⟨rfl, hp99, hb99⟩
  go_wp2_with fail
  go_end0
  exact ⟨rfl, by rw [HACT.out]; exact hp99, HBW.out.trans hb99⟩
set_option maxHeartbeats 12800000 in
theorem stepN1 (h : PR GB base w pb p m lab) (q : P) (hq : q = p.flush) (hB : Bd q) (hw : q.way = []) (I : Int) (hI : isInt I) :
    Calls Try.prog 10 #[ptr pb, .agg #[.int .i64 1, .int .i64 I]] w (StepP GB base w pb (q.act 1 I).flush) := by
  have HACT : Hid (q.act 1 I = q) := Lib.hid (by unfold P.act; rw [if_neg (by rintro ⟨_, h⟩; exact h hw), if_neg (by decide), if_neg (by decide), if_neg (by decide), if_neg (by decide), if_neg (by decide)])
  have hbs : base ≤ w.heap.size := by have := h.lo; have := h.lt; omega
  have HBD := Lib.hid hB
  have HFL : Hid (∀ W m lab, PR GB base W pb p m lab → Calls Try.prog 28 #[.pointer (some ⟨pb, 0, none⟩)] W fun e w' => e = .returned (.tuple #[]) ∧ (∃ m' lab', PR GB base w' pb q m' lab' ∧ Gh W w' lab lab') ∧ Below base W w') := Lib.hid (fun W m lab h => by rw [hq]; exact flush_g h)
  have HFE : Hid (∀ W q m lab, PR GB base W pb q m lab → Calls Try.prog 28 #[.pointer (some ⟨pb, 0, none⟩)] W fun e w' => e = .returned (.tuple #[]) ∧ (∃ m' lab', PR GB base w' pb q.flush m' lab') ∧ Below base W w') := Lib.hid (fun W q m lab h => flush_any h)
  have H := Lib.hid h
  have hplt := h.lt
  have hI2 : -9223372036854775808 ≤ I ∧ I ≤ 9223372036854775807 := hI
  clear h hq hB hI
  unfold ptr StepP
  go_enter Try.func10, Try.ntmps10
  go_wp2_with (first
    | ((with_reducible refine wpList_here ?_); refine wpList_boxV (o := ⟨some 3, _, _, _, _, _⟩) rfl 35 (.tmp 1) rfl [.int .i64 1, .int .i64 I] rfl _ rfl ?_; intro w1 z1 b1 s1; have HB1 := Lib.hid b1; have HZ1 := Lib.hid z1; clear z1 b1)
    | fail)
  obtain ⟨gk, hgk⟩ : ∃ g, g = w.heap.size := ⟨_, rfl⟩
  have HP1 := Lib.hid ((H.out.relabel (lab' := fun j => if j < w.heap.size then lab j else 0) (fun j hj => if_pos hj)).below HB1.out)
  rw [← hgk] at HZ1
  rw [← hgk]
  refine (HFL.out _ _ _ HP1.out).mono ?_
  rintro e w2 ⟨rfl, ⟨m2, lab2, h2, g2⟩, b2⟩
  have HK : Hid (Own w2 gk [.int .i64 1, .int .i64 I]) := Lib.hid (HZ1.out.ch (by show 0 < 2; omega) g2.1 (fun e => e (if_neg (by omega))))
  have HLK : Hid (lab2 gk = 0) := Lib.hid (g2.2 gk (HZ1.out.lt (by show 0 < 2; omega)) (if_neg (by omega)))
  have HBW : Hid (Below base w w2) := Lib.hid ((HB1.out.mono hbs).trans b2)
  have H2 := Lib.hid h2
  obtain ⟨A2, c2, hwv, hwl⟩ := Ms.way_slice h2
  obtain ⟨A9, c9, e9, hc1, hc2⟩ := own_slice h2.way
  obtain ⟨L, hL⟩ : ∃ L, m2.ws.length = L := ⟨_, rfl⟩
  rw [hL] at hwv hwl hc1
  have hLm : L ≤ 9223372036854775807 := by omega
  have kw : w2.cell? ⟨pb, 2, none⟩ = some (.slice A2 L c2) := (h2.at_ 2).trans (by rw [show (m2.cs q.t)[2]? = some m2.wv from rfl, hwv])
  have k0 : w2.cell? ⟨gk, 0, none⟩ = some (.int .i64 1) := (HK.out 0 (by show 0 < 2; omega)).1
  have k1 : w2.cell? ⟨gk, 1, none⟩ = some (.int .i64 I) := (HK.out 1 (by show 1 < 2; omega)).1
  have HWV := Lib.hid hwv
  have HWL := Lib.hid (And.intro hL hwl)
  have hwr : IntKind.i64.wrap ((L : Int) - 1) = (L : Int) - 1 := by rw [IntKind.wrap_i64]; omega
  have hL0 : L = 0 := by
    rw [hwl, hw]
    rfl
  have hmin : min (max I 0) ((L : Int) - 1) = -1 := by omega
  clear hL0
  clear hw
  clear h2 hwv hwl hL g2 b2 HZ1 HB1 s1 hgk HP1 A9 c9 e9 hc1 hc2 H
  go_wp2_with fail
  go_quiet (fail)
  have HBW := Lib.hid (below_drewN HBW.out nq)
  have H2 := Lib.hid (H2.out.below (below_drewN (Below.refl _ _) nq))
  have HK := Lib.hid (HK.out.below (below_drewN (Below.refl _ _) nq))
  have kw : (w2.drewN nq).cell? ⟨pb, 2, none⟩ = some (.slice A2 L c2) := kw
  have k0 : (w2.drewN nq).cell? ⟨gk, 0, none⟩ = some (.int .i64 1) := k0
  have k1 : (w2.drewN nq).cell? ⟨gk, 1, none⟩ = some (.int .i64 I) := k1
  generalize w2.drewN nq = w3 at *
  go_wp2_with fail
  refine (HFE.out _ _ _ _ H2.out).mono ?_
  rintro e w99 ⟨rfl, hp99, hb99⟩
  go_wp2_with fail
  go_end0
  exact ⟨rfl, by rw [HACT.out]; exact hp99, HBW.out.trans hb99⟩
set_option maxHeartbeats 12800000 in
theorem stepN2 (h : PR GB base w pb p m lab) (q : P) (hq : q = p.flush) (hB : Bd q) (hw : q.way = []) (I : Int) (hI : isInt I) :
    Calls Try.prog 10 #[ptr pb, .agg #[.int .i64 2, .int .i64 I]] w (StepP GB base w pb (q.act 2 I).flush) := by
  have HACT : Hid (q.act 2 I = q) := Lib.hid (by unfold P.act; rw [if_neg (by rintro ⟨_, h⟩; exact h hw), if_neg (by decide), if_neg (by decide), if_neg (by decide), if_neg (by decide), if_neg (by decide)])
  have hbs : base ≤ w.heap.size := by have := h.lo; have := h.lt; omega
  have HBD := Lib.hid hB
  have HFL : Hid (∀ W m lab, PR GB base W pb p m lab → Calls Try.prog 28 #[.pointer (some ⟨pb, 0, none⟩)] W fun e w' => e = .returned (.tuple #[]) ∧ (∃ m' lab', PR GB base w' pb q m' lab' ∧ Gh W w' lab lab') ∧ Below base W w') := Lib.hid (fun W m lab h => by rw [hq]; exact flush_g h)
  have HFE : Hid (∀ W q m lab, PR GB base W pb q m lab → Calls Try.prog 28 #[.pointer (some ⟨pb, 0, none⟩)] W fun e w' => e = .returned (.tuple #[]) ∧ (∃ m' lab', PR GB base w' pb q.flush m' lab') ∧ Below base W w') := Lib.hid (fun W q m lab h => flush_any h)
  have H := Lib.hid h
  have hplt := h.lt
  have hI2 : -9223372036854775808 ≤ I ∧ I ≤ 9223372036854775807 := hI
  clear h hq hB hI
  unfold ptr StepP
  go_enter Try.func10, Try.ntmps10
  go_wp2_with (first
    | ((with_reducible refine wpList_here ?_); refine wpList_boxV (o := ⟨some 3, _, _, _, _, _⟩) rfl 35 (.tmp 1) rfl [.int .i64 2, .int .i64 I] rfl _ rfl ?_; intro w1 z1 b1 s1; have HB1 := Lib.hid b1; have HZ1 := Lib.hid z1; clear z1 b1)
    | fail)
  obtain ⟨gk, hgk⟩ : ∃ g, g = w.heap.size := ⟨_, rfl⟩
  have HP1 := Lib.hid ((H.out.relabel (lab' := fun j => if j < w.heap.size then lab j else 0) (fun j hj => if_pos hj)).below HB1.out)
  rw [← hgk] at HZ1
  rw [← hgk]
  refine (HFL.out _ _ _ HP1.out).mono ?_
  rintro e w2 ⟨rfl, ⟨m2, lab2, h2, g2⟩, b2⟩
  have HK : Hid (Own w2 gk [.int .i64 2, .int .i64 I]) := Lib.hid (HZ1.out.ch (by show 0 < 2; omega) g2.1 (fun e => e (if_neg (by omega))))
  have HLK : Hid (lab2 gk = 0) := Lib.hid (g2.2 gk (HZ1.out.lt (by show 0 < 2; omega)) (if_neg (by omega)))
  have HBW : Hid (Below base w w2) := Lib.hid ((HB1.out.mono hbs).trans b2)
  have H2 := Lib.hid h2
  obtain ⟨A2, c2, hwv, hwl⟩ := Ms.way_slice h2
  obtain ⟨A9, c9, e9, hc1, hc2⟩ := own_slice h2.way
  obtain ⟨L, hL⟩ : ∃ L, m2.ws.length = L := ⟨_, rfl⟩
  rw [hL] at hwv hwl hc1
  have hLm : L ≤ 9223372036854775807 := by omega
  have kw : w2.cell? ⟨pb, 2, none⟩ = some (.slice A2 L c2) := (h2.at_ 2).trans (by rw [show (m2.cs q.t)[2]? = some m2.wv from rfl, hwv])
  have k0 : w2.cell? ⟨gk, 0, none⟩ = some (.int .i64 2) := (HK.out 0 (by show 0 < 2; omega)).1
  have k1 : w2.cell? ⟨gk, 1, none⟩ = some (.int .i64 I) := (HK.out 1 (by show 1 < 2; omega)).1
  have HWV := Lib.hid hwv
  have HWL := Lib.hid (And.intro hL hwl)
  have hwr : IntKind.i64.wrap ((L : Int) - 1) = (L : Int) - 1 := by rw [IntKind.wrap_i64]; omega
  have hL0 : L = 0 := by
    rw [hwl, hw]
    rfl
  have hmin : min (max I 0) ((L : Int) - 1) = -1 := by omega
  clear hL0
  clear hw
  clear h2 hwv hwl hL g2 b2 HZ1 HB1 s1 hgk HP1 A9 c9 e9 hc1 hc2 H
  go_wp2_with fail
  go_quiet (fail)
  have HBW := Lib.hid (below_drewN HBW.out nq)
  have H2 := Lib.hid (H2.out.below (below_drewN (Below.refl _ _) nq))
  have HK := Lib.hid (HK.out.below (below_drewN (Below.refl _ _) nq))
  have kw : (w2.drewN nq).cell? ⟨pb, 2, none⟩ = some (.slice A2 L c2) := kw
  have k0 : (w2.drewN nq).cell? ⟨gk, 0, none⟩ = some (.int .i64 2) := k0
  have k1 : (w2.drewN nq).cell? ⟨gk, 1, none⟩ = some (.int .i64 I) := k1
  generalize w2.drewN nq = w3 at *
  go_wp2_with fail
  refine (HFE.out _ _ _ _ H2.out).mono ?_
  rintro e w99 ⟨rfl, hp99, hb99⟩
  go_wp2_with fail
  go_end0
  exact ⟨rfl, by rw [HACT.out]; exact hp99, HBW.out.trans hb99⟩
set_option maxHeartbeats 12800000 in
theorem stepL (h : PR GB base w pb p m lab) (q : P) (hq : q = p.flush) (hB : Bd q) (k : Int) (hk : k < 0) (I : Int) (hI : isInt I) :
    Calls Try.prog 10 #[ptr pb, .agg #[.int .i64 k, .int .i64 I]] w (StepP GB base w pb (q.act k I).flush) := by
  have HACT : Hid (q.act k I = q) := Lib.hid (by unfold P.act; rw [if_neg (by rintro ⟨⟨_, _⟩, _⟩; omega), if_neg (by omega), if_neg (by omega), if_neg (by omega), if_neg (by omega), if_neg (by omega)])
  have hbs : base ≤ w.heap.size := by have := h.lo; have := h.lt; omega
  have HBD := Lib.hid hB
  have HFL : Hid (∀ W m lab, PR GB base W pb p m lab → Calls Try.prog 28 #[.pointer (some ⟨pb, 0, none⟩)] W fun e w' => e = .returned (.tuple #[]) ∧ (∃ m' lab', PR GB base w' pb q m' lab' ∧ Gh W w' lab lab') ∧ Below base W w') := Lib.hid (fun W m lab h => by rw [hq]; exact flush_g h)
  have HFE : Hid (∀ W q m lab, PR GB base W pb q m lab → Calls Try.prog 28 #[.pointer (some ⟨pb, 0, none⟩)] W fun e w' => e = .returned (.tuple #[]) ∧ (∃ m' lab', PR GB base w' pb q.flush m' lab') ∧ Below base W w') := Lib.hid (fun W q m lab h => flush_any h)
  have H := Lib.hid h
  have hplt := h.lt
  have hI2 : -9223372036854775808 ≤ I ∧ I ≤ 9223372036854775807 := hI
  clear h hq hB hI
  unfold ptr StepP
  go_enter Try.func10, Try.ntmps10
  go_wp2_with (first
    | ((with_reducible refine wpList_here ?_); refine wpList_boxV (o := ⟨some 3, _, _, _, _, _⟩) rfl 35 (.tmp 1) rfl [.int .i64 k, .int .i64 I] rfl _ rfl ?_; intro w1 z1 b1 s1; have HB1 := Lib.hid b1; have HZ1 := Lib.hid z1; clear z1 b1)
    | fail)
  obtain ⟨gk, hgk⟩ : ∃ g, g = w.heap.size := ⟨_, rfl⟩
  have HP1 := Lib.hid ((H.out.relabel (lab' := fun j => if j < w.heap.size then lab j else 0) (fun j hj => if_pos hj)).below HB1.out)
  rw [← hgk] at HZ1
  rw [← hgk]
  refine (HFL.out _ _ _ HP1.out).mono ?_
  rintro e w2 ⟨rfl, ⟨m2, lab2, h2, g2⟩, b2⟩
  have HK : Hid (Own w2 gk [.int .i64 k, .int .i64 I]) := Lib.hid (HZ1.out.ch (by show 0 < 2; omega) g2.1 (fun e => e (if_neg (by omega))))
  have HLK : Hid (lab2 gk = 0) := Lib.hid (g2.2 gk (HZ1.out.lt (by show 0 < 2; omega)) (if_neg (by omega)))
  have HBW : Hid (Below base w w2) := Lib.hid ((HB1.out.mono hbs).trans b2)
  have H2 := Lib.hid h2
  obtain ⟨A2, c2, hwv, hwl⟩ := Ms.way_slice h2
  obtain ⟨A9, c9, e9, hc1, hc2⟩ := own_slice h2.way
  obtain ⟨L, hL⟩ : ∃ L, m2.ws.length = L := ⟨_, rfl⟩
  rw [hL] at hwv hwl hc1
  have hLm : L ≤ 9223372036854775807 := by omega
  have kw : w2.cell? ⟨pb, 2, none⟩ = some (.slice A2 L c2) := (h2.at_ 2).trans (by rw [show (m2.cs q.t)[2]? = some m2.wv from rfl, hwv])
  have k0 : w2.cell? ⟨gk, 0, none⟩ = some (.int .i64 k) := (HK.out 0 (by show 0 < 2; omega)).1
  have k1 : w2.cell? ⟨gk, 1, none⟩ = some (.int .i64 I) := (HK.out 1 (by show 1 < 2; omega)).1
  have HWV := Lib.hid hwv
  have HWL := Lib.hid (And.intro hL hwl)
  have hwr : IntKind.i64.wrap ((L : Int) - 1) = (L : Int) - 1 := by rw [IntKind.wrap_i64]; omega
  obtain ⟨v9, hv9⟩ : ∃ v, v = min (max I 0) ((L : Int) - 1) := ⟨_, rfl⟩
  have hmin : min (max I 0) ((L : Int) - 1) = v9 := hv9.symm
  clear hv9
  clear h2 hwv hwl hL g2 b2 HZ1 HB1 s1 hgk HP1 A9 c9 e9 hc1 hc2 H
  go_wp2_with fail
  go_quiet (fail)
  have HBW := Lib.hid (below_drewN HBW.out nq)
  have H2 := Lib.hid (H2.out.below (below_drewN (Below.refl _ _) nq))
  have HK := Lib.hid (HK.out.below (below_drewN (Below.refl _ _) nq))
  have kw : (w2.drewN nq).cell? ⟨pb, 2, none⟩ = some (.slice A2 L c2) := kw
  have k0 : (w2.drewN nq).cell? ⟨gk, 0, none⟩ = some (.int .i64 k) := k0
  have k1 : (w2.drewN nq).cell? ⟨gk, 1, none⟩ = some (.int .i64 I) := k1
  generalize w2.drewN nq = w3 at *
  have l2 : decide (k ≤ 2) = true := decide_eq_true (by omega)
  have l0 : decide (0 ≤ k) = false := decide_eq_false (by omega)
  have n3 : decide (k = 3) = false := decide_eq_false (by omega)
  have m3 : ¬ k = 3 := by omega
  have b3 : (k == 3) = false := by simp; omega
  have n4 : decide (k = 4) = false := decide_eq_false (by omega)
  have m4 : ¬ k = 4 := by omega
  have b4 : (k == 4) = false := by simp; omega
  have n5 : decide (k = 5) = false := decide_eq_false (by omega)
  have m5 : ¬ k = 5 := by omega
  have b5 : (k == 5) = false := by simp; omega
  have n6 : decide (k = 6) = false := decide_eq_false (by omega)
  have m6 : ¬ k = 6 := by omega
  have b6 : (k == 6) = false := by simp; omega
  have n7 : decide (k = 7) = false := decide_eq_false (by omega)
  have m7 : ¬ k = 7 := by omega
  have b7 : (k == 7) = false := by simp; omega
  go_wp2_with fail
  refine (HFE.out _ _ _ _ H2.out).mono ?_
  rintro e w99 ⟨rfl, hp99, hb99⟩
  go_wp2_with fail
  go_end0
  exact ⟨rfl, by rw [HACT.out]; exact hp99, HBW.out.trans hb99⟩
set_option maxHeartbeats 12800000 in
theorem stepG (h : PR GB base w pb p m lab) (q : P) (hq : q = p.flush) (hB : Bd q) (k : Int) (hk : 7 < k) (I : Int) (hI : isInt I) :
    Calls Try.prog 10 #[ptr pb, .agg #[.int .i64 k, .int .i64 I]] w (StepP GB base w pb (q.act k I).flush) := by
  have HACT : Hid (q.act k I = q) := Lib.hid (by unfold P.act; rw [if_neg (by rintro ⟨⟨_, _⟩, _⟩; omega), if_neg (by omega), if_neg (by omega), if_neg (by omega), if_neg (by omega), if_neg (by omega)])
  have hbs : base ≤ w.heap.size := by have := h.lo; have := h.lt; omega
  have HBD := Lib.hid hB
  have HFL : Hid (∀ W m lab, PR GB base W pb p m lab → Calls Try.prog 28 #[.pointer (some ⟨pb, 0, none⟩)] W fun e w' => e = .returned (.tuple #[]) ∧ (∃ m' lab', PR GB base w' pb q m' lab' ∧ Gh W w' lab lab') ∧ Below base W w') := Lib.hid (fun W m lab h => by rw [hq]; exact flush_g h)
  have HFE : Hid (∀ W q m lab, PR GB base W pb q m lab → Calls Try.prog 28 #[.pointer (some ⟨pb, 0, none⟩)] W fun e w' => e = .returned (.tuple #[]) ∧ (∃ m' lab', PR GB base w' pb q.flush m' lab') ∧ Below base W w') := Lib.hid (fun W q m lab h => flush_any h)
  have H := Lib.hid h
  have hplt := h.lt
  have hI2 : -9223372036854775808 ≤ I ∧ I ≤ 9223372036854775807 := hI
  clear h hq hB hI
  unfold ptr StepP
  go_enter Try.func10, Try.ntmps10
  go_wp2_with (first
    | ((with_reducible refine wpList_here ?_); refine wpList_boxV (o := ⟨some 3, _, _, _, _, _⟩) rfl 35 (.tmp 1) rfl [.int .i64 k, .int .i64 I] rfl _ rfl ?_; intro w1 z1 b1 s1; have HB1 := Lib.hid b1; have HZ1 := Lib.hid z1; clear z1 b1)
    | fail)
  obtain ⟨gk, hgk⟩ : ∃ g, g = w.heap.size := ⟨_, rfl⟩
  have HP1 := Lib.hid ((H.out.relabel (lab' := fun j => if j < w.heap.size then lab j else 0) (fun j hj => if_pos hj)).below HB1.out)
  rw [← hgk] at HZ1
  rw [← hgk]
  refine (HFL.out _ _ _ HP1.out).mono ?_
  rintro e w2 ⟨rfl, ⟨m2, lab2, h2, g2⟩, b2⟩
  have HK : Hid (Own w2 gk [.int .i64 k, .int .i64 I]) := Lib.hid (HZ1.out.ch (by show 0 < 2; omega) g2.1 (fun e => e (if_neg (by omega))))
  have HLK : Hid (lab2 gk = 0) := Lib.hid (g2.2 gk (HZ1.out.lt (by show 0 < 2; omega)) (if_neg (by omega)))
  have HBW : Hid (Below base w w2) := Lib.hid ((HB1.out.mono hbs).trans b2)
  have H2 := Lib.hid h2
  obtain ⟨A2, c2, hwv, hwl⟩ := Ms.way_slice h2
  obtain ⟨A9, c9, e9, hc1, hc2⟩ := own_slice h2.way
  obtain ⟨L, hL⟩ : ∃ L, m2.ws.length = L := ⟨_, rfl⟩
  rw [hL] at hwv hwl hc1
  have hLm : L ≤ 9223372036854775807 := by omega
  have kw : w2.cell? ⟨pb, 2, none⟩ = some (.slice A2 L c2) := (h2.at_ 2).trans (by rw [show (m2.cs q.t)[2]? = some m2.wv from rfl, hwv])
  have k0 : w2.cell? ⟨gk, 0, none⟩ = some (.int .i64 k) := (HK.out 0 (by show 0 < 2; omega)).1
  have k1 : w2.cell? ⟨gk, 1, none⟩ = some (.int .i64 I) := (HK.out 1 (by show 1 < 2; omega)).1
  have HWV := Lib.hid hwv
  have HWL := Lib.hid (And.intro hL hwl)
  have hwr : IntKind.i64.wrap ((L : Int) - 1) = (L : Int) - 1 := by rw [IntKind.wrap_i64]; omega
  obtain ⟨v9, hv9⟩ : ∃ v, v = min (max I 0) ((L : Int) - 1) := ⟨_, rfl⟩
  have hmin : min (max I 0) ((L : Int) - 1) = v9 := hv9.symm
  clear hv9
  clear h2 hwv hwl hL g2 b2 HZ1 HB1 s1 hgk HP1 A9 c9 e9 hc1 hc2 H
  go_wp2_with fail
  go_quiet (fail)
  have HBW := Lib.hid (below_drewN HBW.out nq)
  have H2 := Lib.hid (H2.out.below (below_drewN (Below.refl _ _) nq))
  have HK := Lib.hid (HK.out.below (below_drewN (Below.refl _ _) nq))
  have kw : (w2.drewN nq).cell? ⟨pb, 2, none⟩ = some (.slice A2 L c2) := kw
  have k0 : (w2.drewN nq).cell? ⟨gk, 0, none⟩ = some (.int .i64 k) := k0
  have k1 : (w2.drewN nq).cell? ⟨gk, 1, none⟩ = some (.int .i64 I) := k1
  generalize w2.drewN nq = w3 at *
  have l2 : decide (k ≤ 2) = false := decide_eq_false (by omega)
  have n3 : decide (k = 3) = false := decide_eq_false (by omega)
  have m3 : ¬ k = 3 := by omega
  have b3 : (k == 3) = false := by simp; omega
  have n4 : decide (k = 4) = false := decide_eq_false (by omega)
  have m4 : ¬ k = 4 := by omega
  have b4 : (k == 4) = false := by simp; omega
  have n5 : decide (k = 5) = false := decide_eq_false (by omega)
  have m5 : ¬ k = 5 := by omega
  have b5 : (k == 5) = false := by simp; omega
  have n6 : decide (k = 6) = false := decide_eq_false (by omega)
  have m6 : ¬ k = 6 := by omega
  have b6 : (k == 6) = false := by simp; omega
  have n7 : decide (k = 7) = false := decide_eq_false (by omega)
  have m7 : ¬ k = 7 := by omega
  have b7 : (k == 7) = false := by simp; omega
  go_wp2_with fail
  refine (HFE.out _ _ _ _ H2.out).mono ?_
  rintro e w99 ⟨rfl, hp99, hb99⟩
  go_wp2_with fail
  go_end0
  exact ⟨rfl, by rw [HACT.out]; exact hp99, HBW.out.trans hb99⟩
/-- The law's step, all of it. -/
theorem step_any (h : PR GB base w pb p m lab) (hB : Bd p.flush) (k I : Int) (hk : isInt k) (hI : isInt I) :
    Calls Try.prog 10 #[ptr pb, .agg #[.int .i64 k, .int .i64 I]] w (StepP GB base w pb (p.step k I)) := by
  show Calls _ _ _ _ (StepP GB base w pb (p.flush.act k I).flush)
  by_cases hw : p.flush.way = []
  · by_cases c0 : k = 0
    · subst c0; exact stepN0 h _ rfl hB hw I hI
    by_cases c1 : k = 1
    · subst c1; exact stepN1 h _ rfl hB hw I hI
    by_cases c2 : k = 2
    · subst c2; exact stepN2 h _ rfl hB hw I hI
    by_cases c3 : k = 3
    · subst c3; exact stepK3 h _ rfl hB I hI
    by_cases c4 : k = 4
    · subst c4; exact stepK4 h _ rfl hB I hI
    by_cases c5 : k = 5
    · subst c5; exact stepK5 h _ rfl hB I hI
    by_cases c6 : k = 6
    · subst c6; exact stepK6 h _ rfl hB I hI
    by_cases c7 : k = 7
    · subst c7; exact stepK7 h _ rfl hB I hI
    by_cases c8 : k < 0
    · exact stepL h _ rfl hB k c8 I hI
    · exact stepG h _ rfl hB k (by omega) I hI
  · by_cases c0 : k = 0
    · subst c0; exact stepK0 h _ rfl hB hw I hI
    by_cases c1 : k = 1
    · subst c1; exact stepK1 h _ rfl hB hw I hI
    by_cases c2 : k = 2
    · subst c2; exact stepK2 h _ rfl hB hw I hI
    by_cases c3 : k = 3
    · subst c3; exact stepK3 h _ rfl hB I hI
    by_cases c4 : k = 4
    · subst c4; exact stepK4 h _ rfl hB I hI
    by_cases c5 : k = 5
    · subst c5; exact stepK5 h _ rfl hB I hI
    by_cases c6 : k = 6
    · subst c6; exact stepK6 h _ rfl hB I hI
    by_cases c7 : k = 7
    · subst c7; exact stepK7 h _ rfl hB I hI
    by_cases c8 : k < 0
    · exact stepL h _ rfl hB k c8 I hI
    · exact stepG h _ rfl hB k (by omega) I hI
end
end Go.Proofs.Ytnpkmkjenlhkiaa
