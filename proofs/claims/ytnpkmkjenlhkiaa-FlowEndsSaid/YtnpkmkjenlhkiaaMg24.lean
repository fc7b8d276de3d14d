/- The law's step: a flow sends bytes. Conditions: the pair stands, its numbers within their bounds. -/
import Derived.Test.YtnpkmkjenlhkiaaMg23
namespace Go.Proofs.Ytnpkmkjenlhkiaa
set_option linter.unusedVariables false
set_option linter.unusedSimpArgs false
set_option maxRecDepth 20000
open Go.RowKit Go.Lib

section
variable {GB : Option Nat} {base : Nat} {w w' w1 : World} {pb : Nat} {p : P} {m : Ms} {lab : Nat → Nat}
set_option maxHeartbeats 12800000 in
theorem stepK3 (h : PR GB base w pb p m lab) (q : P) (hq : q = p.flush) (hB : Bd q) (I : Int) (hI : isInt I) :
    Calls Try.prog 10 #[ptr pb, .agg #[.int .i64 3, .int .i64 I]] w (StepP GB base w pb (q.act 3 I).flush) := by
  have HACT : Hid (q.act 3 I = { q with f0 := q.f0.put 1 false (byts I) q.t, s0 := q.s0 ++ (if q.f0.putE (byts I) = 0 then byts I else []) }) := Lib.hid (by unfold P.act; rw [if_neg (by rintro ⟨⟨_, h⟩, _⟩; exact absurd h (by decide)), if_pos rfl])
  have hbs : base ≤ w.heap.size := by have := h.lo; have := h.lt; omega
  have HBD := Lib.hid hB
  have HFL : Hid (∀ W m lab, PR GB base W pb p m lab → Calls Try.prog 28 #[.pointer (some ⟨pb, 0, none⟩)] W fun e w' => e = .returned (.tuple #[]) ∧ (∃ m' lab', PR GB base w' pb q m' lab' ∧ Gh W w' lab lab') ∧ Below base W w') := Lib.hid (fun W m lab h => by rw [hq]; exact flush_g h)
  have HFE : Hid (∀ W q m lab, PR GB base W pb q m lab → Calls Try.prog 28 #[.pointer (some ⟨pb, 0, none⟩)] W fun e w' => e = .returned (.tuple #[]) ∧ (∃ m' lab', PR GB base w' pb q.flush m' lab') ∧ Below base W w') := Lib.hid (fun W q m lab h => flush_any h)
  have H := Lib.hid h
  have hplt := h.lt
  have hI2 : -9223372036854775808 ≤ I ∧ I ≤ 9223372036854775807 := hI
  clear h hq hB hI
  unfold ptr StepP
  go_enter Try.func10, Try.ntmps10
  go_wp2_with (first
    | ((with_reducible refine wpList_here ?_); refine wpList_boxV (o := ⟨some 3, _, _, _, _, _⟩) rfl 35 (.tmp 1) rfl [.int .i64 3, .int .i64 I] rfl _ rfl ?_; intro w1 z1 b1 s1; have HB1 := Lib.hid b1; have HZ1 := Lib.hid z1; clear z1 b1)
    | fail)
  obtain ⟨gk, hgk⟩ : ∃ g, g = w.heap.size := ⟨_, rfl⟩
  have HP1 := Lib.hid ((H.out.relabel (lab' := fun j => if j < w.heap.size then lab j else 0) (fun j hj => if_pos hj)).below HB1.out)
  rw [← hgk] at HZ1
  rw [← hgk]
  refine (HFL.out _ _ _ HP1.out).mono ?_
  rintro e w2 ⟨rfl, ⟨m2, lab2, h2, g2⟩, b2⟩
  have HK : Hid (Own w2 gk [.int .i64 3, .int .i64 I]) := Lib.hid (HZ1.out.ch (by show 0 < 2; omega) g2.1 (fun e => e (if_neg (by omega))))
  have HLK : Hid (lab2 gk = 0) := Lib.hid (g2.2 gk (HZ1.out.lt (by show 0 < 2; omega)) (if_neg (by omega)))
  have HBW : Hid (Below base w w2) := Lib.hid ((HB1.out.mono hbs).trans b2)
  have H2 := Lib.hid h2
  obtain ⟨A2, c2, hwv, hwl⟩ := Ms.way_slice h2
  obtain ⟨A9, c9, e9, hc1, hc2⟩ := own_slice h2.way
  obtain ⟨L, hL⟩ : ∃ L, m2.ws.length = L := ⟨_, rfl⟩
  rw [hL] at hwv hwl hc1
  have hLm : L ≤ 9223372036854775807 := by omega
  have kw : w2.cell? ⟨pb, 2, none⟩ = some (.slice A2 L c2) := (h2.at_ 2).trans (by rw [show (m2.cs q.t)[2]? = some m2.wv from rfl, hwv])
  have k0 : w2.cell? ⟨gk, 0, none⟩ = some (.int .i64 3) := (HK.out 0 (by show 0 < 2; omega)).1
  have k1 : w2.cell? ⟨gk, 1, none⟩ = some (.int .i64 I) := (HK.out 1 (by show 1 < 2; omega)).1
  have HWV := Lib.hid hwv
  have HWL := Lib.hid (And.intro hL hwl)
  have hwr : IntKind.i64.wrap ((L : Int) - 1) = (L : Int) - 1 := by rw [IntKind.wrap_i64]; omega
  obtain ⟨v9, hv9⟩ : ∃ v, v = min (max I 0) ((L : Int) - 1) := ⟨_, rfl⟩
  have hmin : min (max I 0) ((L : Int) - 1) = v9 := hv9.symm
  clear hv9
  clear h2 hwv hwl hL g2 b2 HZ1 HB1 s1 hgk HP1 A9 c9 e9 hc1 hc2 H
  go_wp2_with fail
  go_quiet (fail)
  have HBW := Lib.hid (below_drewN HBW.out nq)
  have H2 := Lib.hid (H2.out.below (below_drewN (Below.refl _ _) nq))
  have HK := Lib.hid (HK.out.below (below_drewN (Below.refl _ _) nq))
  have kw : (w2.drewN nq).cell? ⟨pb, 2, none⟩ = some (.slice A2 L c2) := kw
  have k0 : (w2.drewN nq).cell? ⟨gk, 0, none⟩ = some (.int .i64 3) := k0
  have k1 : (w2.drewN nq).cell? ⟨gk, 1, none⟩ = some (.int .i64 I) := k1
  generalize w2.drewN nq = w3 at *
  obtain ⟨FB, hFB⟩ : ∃ g, g = m2.a.fb := ⟨_, rfl⟩
  have kfb : w3.cell? ⟨pb, 0, none⟩ = some (.pointer (some ⟨FB, 0, none⟩)) := by rw [hFB]; exact H2.out.at_ 0
  have HFB := Lib.hid hFB
  clear hFB
  obtain ⟨tt, htt⟩ : ∃ t, t = q.t := ⟨_, rfl⟩
  have HTT := Lib.hid htt
  have HIN : Hid (isInt (tt : Int)) := Lib.hid (by have := HBD.out.t; unfold isInt; omega)
  have ktk : w3.cell? ⟨pb, 7, none⟩ = some (.int .i64 (tt : Int)) := by rw [htt]; exact H2.out.at_ 7
  clear htt
  have HBY := Lib.hid (fun W => bytes_any I W hI2)
  go_wp2_with fail
  refine (HBY.out _).mono ?_
  rintro e w4 ⟨A4, c4, rfl, hrb, hrow, hb4⟩
  obtain ⟨n4, hn4⟩ : ∃ n, n = (min (max I 0) 12).toNat := ⟨_, rfl⟩
  obtain ⟨ds, hds⟩ : ∃ ds, ds = byts I := ⟨_, rfl⟩
  rw [← hn4, ← hds] at hrb hrow
  rw [← hn4]
  have hn12 : n4 ≤ 12 := by omega
  have hnl : ds.length = n4 := hrb.len
  have HP4 := Lib.hid ((H2.out.relabel (lab' := fun j => if j < w3.heap.size then lab2 j else 0) (fun j hj => if_pos hj)).below hb4)
  have HBW4 := Lib.hid (HBW.out.trans (hb4.mono (by have := H2.out.lo; have := H2.out.lt; omega)))
  have HK4 := Lib.hid (HK.out.below hb4)
  have HLB : Hid ((fun j => if j < w3.heap.size then lab2 j else 0) gk = 0) := Lib.hid (by
    show (if gk < w3.heap.size then lab2 gk else 0) = 0
    rw [if_pos (HK.out.lt (by show 0 < 2; omega))]
    exact HLK.out)
  have hge : ∀ g o s', A4 = some ⟨g, o, s'⟩ → 0 < n4 → w3.heap.size ≤ g := fun g o s' e hn => by
    obtain ⟨g9, c9, e9, hb9, _⟩ := hrow.form hn
    injection e9 with e9
    rw [e] at e9
    injection e9 with e9
    injection e9 with e9
    rw [e9]; exact hb9
  have HSL : Hid (∀ s : Sh, (∀ g, s.T g → g < w3.heap.size) → ∀ g o s', A4 = some ⟨g, o, s'⟩ → 0 < n4 → ¬ s.T g) := Lib.hid (fun s hs g o s' e hn hT => by have := hge g o s' e hn; have := hs g hT; omega)
  have HRB := Lib.hid (And.intro hrb (And.intro hrow hge))
  have HDS := Lib.hid (And.intro hds hnl)
  have e0 : w4.cell? ⟨gk, 0, none⟩ = some (.int .i64 3) ∧ w4.cell? ⟨pb, 0, none⟩ = some (.pointer (some ⟨FB, 0, none⟩)) ∧ w4.cell? ⟨pb, 7, none⟩ = some (.int .i64 (tt : Int)) := ⟨cellB hb4 k0, cellB hb4 kfb, cellB hb4 ktk⟩
  have k04 := e0.1
  clear kfb hrb hrow hge hds hn4 hb4 k0 k1 kw ktk hnl
  have HL0 : Hid (∀ g, w3.heap.size ≤ g → (fun j => if j < w3.heap.size then lab2 j else 0) g = 0) := Lib.hid (fun g hg => if_neg (by omega))
  have HLT : Hid (∀ g, g < w3.heap.size ∨ w3.heap.size ≤ g) := Lib.hid (fun g => by omega)
  have HIN3 := Lib.hid (show (∀ s f, Fl base w3 s f → ∀ g, s.T g → g < w3.heap.size) from fun s f h g hg => (h.in_ hg).2)
  have HP5 := Lib.hid (HP4.out.below (Below.refl _ _).drew)
  have HK5 := Lib.hid (HK4.out.below (Below.refl _ _).drew)
  have HB5 := Lib.hid HBW4.out.drew
  have HRB5 : Hid (RB w4.drew A4 n4 c4 ds ∧ w4.drew.ownsRow w3.heap.size 5 1 (.slice A4 n4 c4) n4 (bv ds)) := Lib.hid ⟨HRB.out.1, own_below HRB.out.2.1 (Below.refl _ _).drew⟩
  have e0 : w4.drew.cell? ⟨gk, 0, none⟩ = some (.int .i64 3) ∧ w4.drew.cell? ⟨pb, 0, none⟩ = some (.pointer (some ⟨FB, 0, none⟩)) ∧ w4.drew.cell? ⟨pb, 7, none⟩ = some (.int .i64 (tt : Int)) := e0
  clear HP4 HK4 HBW4
  generalize (fun j => if j < w3.heap.size then lab2 j else 0) = lab4 at *
  go_wp2_with fail
  generalize hwd : w4.drew = wd at *
  clear k04
  obtain ⟨X, hX⟩ : ∃ X, X = q.f0.put 1 false ds (tt : Int) := ⟨_, rfl⟩
  have HSN0 := Lib.hid (Send_any HP5.out.fa A4 n4 c4 ds HRB5.out.1 (HSL.out m2.a (fun g hg => HIN3.out m2.a q.f0 H2.out.fa g hg)) 1 (by unfold isInt; omega) false HBD.out.f0.l (Nat.le_trans HBD.out.f0.os (by decide)) HBD.out.f0.E (tt : Int) HIN.out)
  rw [← hX, show ptr m2.a.fb = .pointer (some ⟨FB, 0, none⟩) by rw [HFB.out]; rfl] at HSN0
  have HX := Lib.hid hX
  clear hX
  have hE3 : q.f0.putE ds = 0 ∨ q.f0.putE ds = 1 ∨ q.f0.putE ds = 9 := by unfold F.putE; split <;> (try split) <;> simp
  obtain ⟨P1, hP1⟩ : ∃ P1 : P, P1 = { q with f0 := X } := ⟨_, rfl⟩
  have HP1 := Lib.hid hP1
  have HLS : Hid (P1.s0.length ≤ 549755813800) := Lib.hid (by rw [hP1]; exact HBD.out.s0)
  clear hP1
  rcases hE3 with hE | hE | hE
  · as_aux_lemma =>
      rw [hE] at HSN0
      have HSN := Lib.hid HSN0.out
      have HEE := Lib.hid hE
      clear hE HSN0
      refine wp_region_noPanic ?_
      refine until_start (fun W => W.cell? ⟨gk, 0, none⟩ = some (.int .i64 3) ∧ W.cell? ⟨pb, 0, none⟩ = some (.pointer (some ⟨FB, 0, none⟩)) ∧ W.cell? ⟨pb, 7, none⟩ = some (.int .i64 (tt : Int))) 13 (by kernel_rfl) (by rw [hwd]; exact e0) (fun _ => ?_)
      rw [hwd]
      clear hwd
      refine until_take (i := 0) (v := .pointer (some ⟨pb, 0, none⟩)) (some 81) [4, 5, 6, 7, 13] rfl rfl (by kernel_rfl) (by kernel_rfl) (by kernel_rfl) (by kernel_rfl) rfl rfl (fun _ _ _ h => h) (Or.inl ⟨by rfl, fun W hW => by go_simp⟩) e0 ?_
      simp only [Act.put, List.setIfInBounds_toArray, List.set_cons_zero, List.set_cons_succ]
      refine until_take (i := 1) (v := .pointer (some ⟨gk, 0, none⟩)) (some 82) [2, 3, 6, 7, 13] rfl rfl (by kernel_rfl) (by kernel_rfl) (by kernel_rfl) (by kernel_rfl) rfl rfl (fun _ _ _ h => h) (Or.inl ⟨by rfl, fun W hW => by go_simp⟩) e0 ?_
      simp only [Act.put, List.setIfInBounds_toArray, List.set_cons_zero, List.set_cons_succ]
      refine until_take (i := 8) (v := .slice A4 n4 c4) (some 89) [13] rfl rfl (by kernel_rfl) (by kernel_rfl) (by kernel_rfl) (by kernel_rfl) rfl rfl (fun _ _ _ h => h) (Or.inl ⟨by rfl, fun W hW => by go_simp⟩) e0 ?_
      simp only [Act.put, List.setIfInBounds_toArray, List.set_cons_zero, List.set_cons_succ]
      refine until_take (i := 9) (v := .pointer (some ⟨pb, 0, none⟩)) (some 90) [10, 11, 12, 13] rfl rfl (by kernel_rfl) (by kernel_rfl) (by kernel_rfl) (by kernel_rfl) rfl rfl (fun _ _ _ h => h) (Or.inl ⟨by rfl, fun W hW => by go_simp⟩) e0 ?_
      simp only [Act.put, List.setIfInBounds_toArray, List.set_cons_zero, List.set_cons_succ]
      refine until_take (i := 2) (v := .int .i64 3) (some 83) [3, 6, 7, 13] rfl rfl (by kernel_rfl) (by kernel_rfl) (by kernel_rfl) (by kernel_rfl) rfl rfl (fun _ _ _ h => h) (Or.inl ⟨by rfl, fun W hW => by have hc := hW.1; go_simp⟩) e0 ?_
      simp only [Act.put, List.setIfInBounds_toArray, List.set_cons_zero, List.set_cons_succ]
      refine until_take (i := 4) (v := .pointer (some ⟨pb, 0, none⟩)) (some 85) [5, 6, 7, 13] rfl rfl (by kernel_rfl) (by kernel_rfl) (by kernel_rfl) (by kernel_rfl) rfl rfl (fun _ _ _ h => h) (Or.inl ⟨by rfl, fun W hW => by go_simp⟩) e0 ?_
      simp only [Act.put, List.setIfInBounds_toArray, List.set_cons_zero, List.set_cons_succ]
      refine until_take (i := 10) (v := .pointer (some ⟨pb, 0, none⟩)) (some 91) [11, 12, 13] rfl rfl (by kernel_rfl) (by kernel_rfl) (by kernel_rfl) (by kernel_rfl) rfl rfl (fun _ _ _ h => h) (Or.inl ⟨by rfl, fun W hW => by go_simp⟩) e0 ?_
      simp only [Act.put, List.setIfInBounds_toArray, List.set_cons_zero, List.set_cons_succ]
      refine until_take (i := 3) (v := .int .i64 0) (some 84) [6, 7, 13] rfl rfl (by kernel_rfl) (by kernel_rfl) (by kernel_rfl) (by kernel_rfl) rfl rfl (fun _ _ _ h => h) (Or.inl ⟨by rfl, fun W hW => by kernel_rfl⟩) e0 ?_
      simp only [Act.put, List.setIfInBounds_toArray, List.set_cons_zero, List.set_cons_succ]
      refine until_take (i := 5) (v := .pointer (some ⟨pb, 0, none⟩)) (some 86) [6, 7, 13] rfl rfl (by kernel_rfl) (by kernel_rfl) (by kernel_rfl) (by kernel_rfl) rfl rfl (fun _ _ _ h => h) (Or.inl ⟨by rfl, fun W hW => by go_simp⟩) e0 ?_
      simp only [Act.put, List.setIfInBounds_toArray, List.set_cons_zero, List.set_cons_succ]
      refine until_take (i := 11) (v := .pointer (some ⟨pb, 7, none⟩)) (some 92) [12, 13] rfl rfl (by kernel_rfl) (by kernel_rfl) (by kernel_rfl) (by kernel_rfl) rfl rfl (fun _ _ _ h => h) (Or.inl ⟨by rfl, fun W hW => by go_simp⟩) e0 ?_
      simp only [Act.put, List.setIfInBounds_toArray, List.set_cons_zero, List.set_cons_succ]
      refine until_take (i := 6) (v := .pointer (some ⟨pb, 0, none⟩)) (some 87) [7, 13] rfl rfl (by kernel_rfl) (by kernel_rfl) (by kernel_rfl) (by kernel_rfl) rfl rfl (fun _ _ _ h => h) (Or.inl ⟨by rfl, fun W hW => by go_simp⟩) e0 ?_
      simp only [Act.put, List.setIfInBounds_toArray, List.set_cons_zero, List.set_cons_succ]
      refine until_take (i := 12) (v := .int .i64 (tt : Int)) (some 93) [13] rfl rfl (by kernel_rfl) (by kernel_rfl) (by kernel_rfl) (by kernel_rfl) rfl rfl (fun _ _ _ h => h) (Or.inl ⟨by rfl, fun W hW => by have hc := hW.2.2; go_simp⟩) e0 ?_
      simp only [Act.put, List.setIfInBounds_toArray, List.set_cons_zero, List.set_cons_succ]
      refine until_take (i := 7) (v := .pointer (some ⟨FB, 0, none⟩)) (some 88) [13] rfl rfl (by kernel_rfl) (by kernel_rfl) (by kernel_rfl) (by kernel_rfl) rfl rfl (fun _ _ _ h => h) (Or.inl ⟨by rfl, fun W hW => by have hc := hW.2.1; go_simp⟩) e0 ?_
      simp only [Act.put, List.setIfInBounds_toArray, List.set_cons_zero, List.set_cons_succ]
      refine until_last (by kernel_rfl) rfl (fun K hK => ?_)
      go_simp
      refine HSN.out.mono ?_
      rintro e w5 ⟨rfl, l5⟩
      have HC5 := Lib.hid ((show (∃ m' lab', PR GB base w5 pb P1 m' lab' ∧ ∀ g, g < wd.heap.size → lab' g = lab4 g) ∧ Ch wd w5 (fun g => lab4 g = 1 ∧ base ≤ g) by rw [HP1.out]; exact HP5.out.call0 l5))
      have k05 : w5.cell? ⟨gk, 0, none⟩ = some (.int .i64 3) := HC5.out.2.cell e0.1 (fun e => by have h9 : lab4 gk = 1 := e.1; have h8 := HLB.out; omega)
      clear l5
      dsimp only
      refine hK.out _ _ ?_
      clear hK
      try simp only [Act.put, List.setIfInBounds_toArray, List.set_cons_zero, List.set_cons_succ]
      refine held_take (i := 14) (v := .bool true) (some 95) rfl rfl (by kernel_rfl) (by kernel_rfl) (by kernel_rfl) (fun _ _ _ h => h) (Or.inl ⟨by rfl, fun W hW => by go_simp⟩) trivial ?_
      simp only [Act.put, List.setIfInBounds_toArray, List.set_cons_zero, List.set_cons_succ]
      refine wpAnyH_done (by kernel_rfl) ?_ _
      refine NoPanic.normal ?_
      go_wp2_with fail
      obtain ⟨⟨m6, lab6, h6, hl6⟩, ch6⟩ := HC5.out
      have h6 := h6.below (Below.refl _ _).drew
      have ch6 := ch6.drew
      have HK6 : Hid (Own w5.drew gk [.int .i64 3, .int .i64 I] ∧ lab6 gk = 0) := Lib.hid ⟨HK5.out.ch (by show 0 < 2; omega) ch6 (fun e => by have h9 : lab4 gk = 1 := e.1; have h8 := HLB.out; omega), (hl6 gk (HK5.out.lt (by show 0 < 2; omega))).trans HLB.out⟩
      have hrow9 := own_ch2 HRB5.out.2 ch6 (fun g hg e => by have h9 : lab4 g = 1 := e.1; have h8 := HL0.out g (own_in HRB5.out.2 hg).1; omega)
      obtain ⟨A7, k7, e7, hrb6, _⟩ := RB.of_own hrow9
      injection e7 with e71 _ e72
      subst e71 e72
      obtain ⟨A5, c5, hv5, hc5, hm5⟩ := own_slice h6.s0.row
      obtain ⟨L5, hL5⟩ : ∃ L, L = P1.s0.length := ⟨_, rfl⟩
      rw [← hL5] at hv5 hc5
      have hL9 : L5 ≤ 549755813800 := by rw [hL5]; exact HLS.out
      have H6 := Lib.hid (And.intro h6 (And.intro hv5 hL5))
      have hrow6 := h6.s0.row
      rw [hv5, ← hL5] at hrow6
      have e6 : w5.drew.cell? ⟨gk, 0, none⟩ = some (.int .i64 3) ∧ w5.drew.cell? ⟨pb, 3, none⟩ = some (.slice A5 L5 c5) := ⟨(HK6.out.1 0 (by show 0 < 2; omega)).1, (h6.at_ 3).trans (by rw [show (m6.cs P1.t)[3]? = some m6.sv0 from rfl, hv5])⟩
      have HCH6 := Lib.hid ch6
      clear h6 hv5 hL5 hl6 ch6 hrow9 k05
      generalize hwd : w5.drew = w6 at *
      refine wp_region_noPanic ?_
      refine until_start (fun W => W.cell? ⟨gk, 0, none⟩ = some (.int .i64 3) ∧ W.cell? ⟨pb, 3, none⟩ = some (.slice A5 L5 c5)) 17 (by kernel_rfl) (by rw [hwd]; exact e6) (fun _ => ?_)
      rw [hwd]
      clear hwd
      refine until_take (i := 0) (v := .pointer (some ⟨pb, 0, none⟩)) (some 96) [17] rfl rfl (by kernel_rfl) (by kernel_rfl) (by kernel_rfl) (by kernel_rfl) rfl rfl (fun _ _ _ h => h) (Or.inl ⟨by rfl, fun W hW => by go_simp⟩) e6 ?_
      simp only [Act.put, List.setIfInBounds_toArray, List.set_cons_zero, List.set_cons_succ]
      refine until_take (i := 1) (v := .pointer (some ⟨gk, 0, none⟩)) (some 97) [17] rfl rfl (by kernel_rfl) (by kernel_rfl) (by kernel_rfl) (by kernel_rfl) rfl rfl (fun _ _ _ h => h) (Or.inl ⟨by rfl, fun W hW => by go_simp⟩) e6 ?_
      simp only [Act.put, List.setIfInBounds_toArray, List.set_cons_zero, List.set_cons_succ]
      refine until_take (i := 4) (v := .pointer (some ⟨pb, 0, none⟩)) (some 100) [17] rfl rfl (by kernel_rfl) (by kernel_rfl) (by kernel_rfl) (by kernel_rfl) rfl rfl (fun _ _ _ h => h) (Or.inl ⟨by rfl, fun W hW => by go_simp⟩) e6 ?_
      simp only [Act.put, List.setIfInBounds_toArray, List.set_cons_zero, List.set_cons_succ]
      refine until_take (i := 5) (v := .pointer (some ⟨gk, 0, none⟩)) (some 101) [17] rfl rfl (by kernel_rfl) (by kernel_rfl) (by kernel_rfl) (by kernel_rfl) rfl rfl (fun _ _ _ h => h) (Or.inl ⟨by rfl, fun W hW => by go_simp⟩) e6 ?_
      simp only [Act.put, List.setIfInBounds_toArray, List.set_cons_zero, List.set_cons_succ]
      refine until_take (i := 12) (v := .slice A4 n4 c4) (some 108) [17] rfl rfl (by kernel_rfl) (by kernel_rfl) (by kernel_rfl) (by kernel_rfl) rfl rfl (fun _ _ _ h => h) (Or.inl ⟨by rfl, fun W hW => by go_simp⟩) e6 ?_
      simp only [Act.put, List.setIfInBounds_toArray, List.set_cons_zero, List.set_cons_succ]
      refine until_take (i := 2) (v := .int .i64 3) (some 98) [17] rfl rfl (by kernel_rfl) (by kernel_rfl) (by kernel_rfl) (by kernel_rfl) rfl rfl (fun _ _ _ h => h) (Or.inl ⟨by rfl, fun W hW => by have hc := hW.1; go_simp⟩) e6 ?_
      simp only [Act.put, List.setIfInBounds_toArray, List.set_cons_zero, List.set_cons_succ]
      refine until_take (i := 6) (v := .int .i64 3) (some 102) [17] rfl rfl (by kernel_rfl) (by kernel_rfl) (by kernel_rfl) (by kernel_rfl) rfl rfl (fun _ _ _ h => h) (Or.inl ⟨by rfl, fun W hW => by have hc := hW.1; go_simp⟩) e6 ?_
      simp only [Act.put, List.setIfInBounds_toArray, List.set_cons_zero, List.set_cons_succ]
      refine until_take (i := 8) (v := .pointer (some ⟨pb, 0, none⟩)) (some 104) [17] rfl rfl (by kernel_rfl) (by kernel_rfl) (by kernel_rfl) (by kernel_rfl) rfl rfl (fun _ _ _ h => h) (Or.inl ⟨by rfl, fun W hW => by go_simp⟩) e6 ?_
      simp only [Act.put, List.setIfInBounds_toArray, List.set_cons_zero, List.set_cons_succ]
      refine until_take (i := 14) (v := .pointer (some ⟨pb, 0, none⟩)) (some 110) [15, 16, 17] rfl rfl (by kernel_rfl) (by kernel_rfl) (by kernel_rfl) (by kernel_rfl) rfl rfl (fun _ _ _ h => h) (Or.inl ⟨by rfl, fun W hW => by go_simp⟩) e6 ?_
      simp only [Act.put, List.setIfInBounds_toArray, List.set_cons_zero, List.set_cons_succ]
      refine until_take (i := 3) (v := .int .i64 0) (some 99) [17] rfl rfl (by kernel_rfl) (by kernel_rfl) (by kernel_rfl) (by kernel_rfl) rfl rfl (fun _ _ _ h => h) (Or.inl ⟨by rfl, fun W hW => by kernel_rfl⟩) e6 ?_
      simp only [Act.put, List.setIfInBounds_toArray, List.set_cons_zero, List.set_cons_succ]
      refine until_take (i := 7) (v := .int .i64 0) (some 103) [17] rfl rfl (by kernel_rfl) (by kernel_rfl) (by kernel_rfl) (by kernel_rfl) rfl rfl (fun _ _ _ h => h) (Or.inl ⟨by rfl, fun W hW => by kernel_rfl⟩) e6 ?_
      simp only [Act.put, List.setIfInBounds_toArray, List.set_cons_zero, List.set_cons_succ]
      refine until_take (i := 9) (v := .pointer (some ⟨pb, 3, none⟩)) (some 105) [17] rfl rfl (by kernel_rfl) (by kernel_rfl) (by kernel_rfl) (by kernel_rfl) rfl rfl (fun _ _ _ h => h) (Or.inl ⟨by rfl, fun W hW => by go_simp⟩) e6 ?_
      simp only [Act.put, List.setIfInBounds_toArray, List.set_cons_zero, List.set_cons_succ]
      refine until_take (i := 15) (v := .pointer (some ⟨pb, 3, none⟩)) (some 111) [16, 17] rfl rfl (by kernel_rfl) (by kernel_rfl) (by kernel_rfl) (by kernel_rfl) rfl rfl (fun _ _ _ h => h) (Or.inl ⟨by rfl, fun W hW => by go_simp⟩) e6 ?_
      simp only [Act.put, List.setIfInBounds_toArray, List.set_cons_zero, List.set_cons_succ]
      refine until_take (i := 10) (v := .pointer (some ⟨pb, 3, none⟩)) (some 106) [17] rfl rfl (by kernel_rfl) (by kernel_rfl) (by kernel_rfl) (by kernel_rfl) rfl rfl (fun _ _ _ h => h) (Or.inl ⟨by rfl, fun W hW => by go_simp⟩) e6 ?_
      simp only [Act.put, List.setIfInBounds_toArray, List.set_cons_zero, List.set_cons_succ]
      refine until_take (i := 11) (v := .slice A5 L5 c5) (some 107) [17] rfl rfl (by kernel_rfl) (by kernel_rfl) (by kernel_rfl) (by kernel_rfl) rfl rfl (fun _ _ _ h => h) (Or.inl ⟨by rfl, fun W hW => by have hc := hW.2; go_simp⟩) e6 ?_
      simp only [Act.put, List.setIfInBounds_toArray, List.set_cons_zero, List.set_cons_succ]
      refine until_step (i := 13) (by kernel_rfl) rfl rfl (fun K hK => ?_)
      refine step_app _ rfl (.tmp 107) (.tmp 108) 30 5 rfl Try.underlying30 infoU8 base (.slice A5 L5 c5) L5 P1.s0 rfl hrow6 A4 n4 c4 ds rfl hrb6 (by omega) (by have := H6.out.1.lo; have := H6.out.1.lt; omega) ?_
      intro v9 w9 r9 g9 o9
      have HAP := Lib.hid (H6.out.1.put3 ds (n := L5 + n4) (v' := v9) (w' := w9) (by rw [List.length_append, HDS.out.2, H6.out.2.2]) r9 (by rw [H6.out.2.1]; exact g9) (by rw [H6.out.2.1]; exact o9))
      have g0 := HK6.out.1.lt (by show 0 < 2; omega)
      have n0 : some gk ≠ (Value.slice A5 L5 c5).ownBlock := fun e => by have h3 := H6.out.1.s0.lab gk (by rw [H6.out.2.1]; exact e.symm); have := HK6.out.2; omega
      have n1 : some pb ≠ (Value.slice A5 L5 c5).ownBlock := fun e => by have h3 := H6.out.1.s0.lab pb (by rw [H6.out.2.1]; exact e.symm); have := H6.out.1.lp; omega
      have e9 : w9.cell? ⟨gk, 0, none⟩ = some (.int .i64 3) ∧ w9.cell? ⟨pb, 3, none⟩ = some (.slice A5 L5 c5) := ⟨(g9.cell_far _ g0 n0).trans e6.1, (g9.cell_far _ (by have := H6.out.1.lt; exact this) n1).trans e6.2⟩
      have f9 : w9.frozen? ⟨pb, 3, none⟩ = false := (g9.frozen_far _ (by have := H6.out.1.lt; exact this) n1).trans (H6.out.1.fz 3)
      obtain ⟨A9, k9, rfl, hk9, hm9⟩ := own_slice r9
      generalize L5 + n4 = L9 at *
      have c9 := e9.2
      clear r9 g9 o9 g0 n0 n1
      show K (Act.put _ (some 109) _) _
      refine hK.out _ _ e9 (fun _ => ?_)
      clear hK
      try simp only [Act.put, List.setIfInBounds_toArray, List.set_cons_zero, List.set_cons_succ]
      refine until_take (i := 16) (v := .pointer (some ⟨pb, 3, none⟩)) (some 112) [17] rfl rfl (by kernel_rfl) (by kernel_rfl) (by kernel_rfl) (by kernel_rfl) rfl rfl (fun _ _ _ h => h) (Or.inl ⟨by rfl, fun W hW => by go_simp⟩) e9 ?_
      simp only [Act.put, List.setIfInBounds_toArray, List.set_cons_zero, List.set_cons_succ]
      refine until_last (by kernel_rfl) rfl (fun K hK => ?_)
      go_simp
      refine hK.out _ _ ?_
      clear hK
      try simp only [Act.put, List.setIfInBounds_toArray, List.set_cons_zero, List.set_cons_succ]
      refine wpAnyH_done (by kernel_rfl) ?_ _
      refine NoPanic.normal ?_
      have hap := HAP.out
      have HE9 := Lib.hid hap
      clear hap e9 c9 f9
      generalize w9.setCell ⟨pb, 3, none⟩ (.slice A9 L9 k9) = w10 at *
      obtain ⟨⟨lab10, h10⟩, hb10⟩ := HE9.out
      have HB10 : Hid (Below base w w10) := Lib.hid ((HB5.out.trans ((HCH6.out.belowB (by have := HP5.out.lo; have := HP5.out.lt; omega) (fun g e => e.2)))).trans hb10)
      clear hb10
      go_wp2_with fail
      refine (HFE.out _ _ _ _ h10).mono ?_
      rintro e w99 ⟨rfl, hp99, hb99⟩
      go_wp2_with fail
      go_end0
      have hact : q.act 3 I = { P1 with s0 := P1.s0 ++ ds } := by rw [HACT.out, HDS.out.1.symm, if_pos HEE.out, HP1.out, HX.out, HTT.out]
      exact ⟨rfl, by rw [hact]; exact hp99, HB10.out.trans hb99⟩
  · as_aux_lemma =>
      rw [hE] at HSN0
      have HSN := Lib.hid HSN0.out
      have HEE := Lib.hid hE
      clear hE HSN0
      refine wp_region_noPanic ?_
      refine until_start (fun W => W.cell? ⟨gk, 0, none⟩ = some (.int .i64 3) ∧ W.cell? ⟨pb, 0, none⟩ = some (.pointer (some ⟨FB, 0, none⟩)) ∧ W.cell? ⟨pb, 7, none⟩ = some (.int .i64 (tt : Int))) 13 (by kernel_rfl) (by rw [hwd]; exact e0) (fun _ => ?_)
      rw [hwd]
      clear hwd
      refine until_take (i := 0) (v := .pointer (some ⟨pb, 0, none⟩)) (some 81) [4, 5, 6, 7, 13] rfl rfl (by kernel_rfl) (by kernel_rfl) (by kernel_rfl) (by kernel_rfl) rfl rfl (fun _ _ _ h => h) (Or.inl ⟨by rfl, fun W hW => by go_simp⟩) e0 ?_
      simp only [Act.put, List.setIfInBounds_toArray, List.set_cons_zero, List.set_cons_succ]
      refine until_take (i := 1) (v := .pointer (some ⟨gk, 0, none⟩)) (some 82) [2, 3, 6, 7, 13] rfl rfl (by kernel_rfl) (by kernel_rfl) (by kernel_rfl) (by kernel_rfl) rfl rfl (fun _ _ _ h => h) (Or.inl ⟨by rfl, fun W hW => by go_simp⟩) e0 ?_
      simp only [Act.put, List.setIfInBounds_toArray, List.set_cons_zero, List.set_cons_succ]
      refine until_take (i := 8) (v := .slice A4 n4 c4) (some 89) [13] rfl rfl (by kernel_rfl) (by kernel_rfl) (by kernel_rfl) (by kernel_rfl) rfl rfl (fun _ _ _ h => h) (Or.inl ⟨by rfl, fun W hW => by go_simp⟩) e0 ?_
      simp only [Act.put, List.setIfInBounds_toArray, List.set_cons_zero, List.set_cons_succ]
      refine until_take (i := 9) (v := .pointer (some ⟨pb, 0, none⟩)) (some 90) [10, 11, 12, 13] rfl rfl (by kernel_rfl) (by kernel_rfl) (by kernel_rfl) (by kernel_rfl) rfl rfl (fun _ _ _ h => h) (Or.inl ⟨by rfl, fun W hW => by go_simp⟩) e0 ?_
      simp only [Act.put, List.setIfInBounds_toArray, List.set_cons_zero, List.set_cons_succ]
      refine until_take (i := 2) (v := .int .i64 3) (some 83) [3, 6, 7, 13] rfl rfl (by kernel_rfl) (by kernel_rfl) (by kernel_rfl) (by kernel_rfl) rfl rfl (fun _ _ _ h => h) (Or.inl ⟨by rfl, fun W hW => by have hc := hW.1; go_simp⟩) e0 ?_
      simp only [Act.put, List.setIfInBounds_toArray, List.set_cons_zero, List.set_cons_succ]
      refine until_take (i := 4) (v := .pointer (some ⟨pb, 0, none⟩)) (some 85) [5, 6, 7, 13] rfl rfl (by kernel_rfl) (by kernel_rfl) (by kernel_rfl) (by kernel_rfl) rfl rfl (fun _ _ _ h => h) (Or.inl ⟨by rfl, fun W hW => by go_simp⟩) e0 ?_
      simp only [Act.put, List.setIfInBounds_toArray, List.set_cons_zero, List.set_cons_succ]
      refine until_take (i := 10) (v := .pointer (some ⟨pb, 0, none⟩)) (some 91) [11, 12, 13] rfl rfl (by kernel_rfl) (by kernel_rfl) (by kernel_rfl) (by kernel_rfl) rfl rfl (fun _ _ _ h => h) (Or.inl ⟨by rfl, fun W hW => by go_simp⟩) e0 ?_
      simp only [Act.put, List.setIfInBounds_toArray, List.set_cons_zero, List.set_cons_succ]
      refine until_take (i := 3) (v := .int .i64 0) (some 84) [6, 7, 13] rfl rfl (by kernel_rfl) (by kernel_rfl) (by kernel_rfl) (by kernel_rfl) rfl rfl (fun _ _ _ h => h) (Or.inl ⟨by rfl, fun W hW => by kernel_rfl⟩) e0 ?_
      simp only [Act.put, List.setIfInBounds_toArray, List.set_cons_zero, List.set_cons_succ]
      refine until_take (i := 5) (v := .pointer (some ⟨pb, 0, none⟩)) (some 86) [6, 7, 13] rfl rfl (by kernel_rfl) (by kernel_rfl) (by kernel_rfl) (by kernel_rfl) rfl rfl (fun _ _ _ h => h) (Or.inl ⟨by rfl, fun W hW => by go_simp⟩) e0 ?_
      simp only [Act.put, List.setIfInBounds_toArray, List.set_cons_zero, List.set_cons_succ]
      refine until_take (i := 11) (v := .pointer (some ⟨pb, 7, none⟩)) (some 92) [12, 13] rfl rfl (by kernel_rfl) (by kernel_rfl) (by kernel_rfl) (by kernel_rfl) rfl rfl (fun _ _ _ h => h) (Or.inl ⟨by rfl, fun W hW => by go_simp⟩) e0 ?_
      simp only [Act.put, List.setIfInBounds_toArray, List.set_cons_zero, List.set_cons_succ]
      refine until_take (i := 6) (v := .pointer (some ⟨pb, 0, none⟩)) (some 87) [7, 13] rfl rfl (by kernel_rfl) (by kernel_rfl) (by kernel_rfl) (by kernel_rfl) rfl rfl (fun _ _ _ h => h) (Or.inl ⟨by rfl, fun W hW => by go_simp⟩) e0 ?_
      simp only [Act.put, List.setIfInBounds_toArray, List.set_cons_zero, List.set_cons_succ]
      refine until_take (i := 12) (v := .int .i64 (tt : Int)) (some 93) [13] rfl rfl (by kernel_rfl) (by kernel_rfl) (by kernel_rfl) (by kernel_rfl) rfl rfl (fun _ _ _ h => h) (Or.inl ⟨by rfl, fun W hW => by have hc := hW.2.2; go_simp⟩) e0 ?_
      simp only [Act.put, List.setIfInBounds_toArray, List.set_cons_zero, List.set_cons_succ]
      refine until_take (i := 7) (v := .pointer (some ⟨FB, 0, none⟩)) (some 88) [13] rfl rfl (by kernel_rfl) (by kernel_rfl) (by kernel_rfl) (by kernel_rfl) rfl rfl (fun _ _ _ h => h) (Or.inl ⟨by rfl, fun W hW => by have hc := hW.2.1; go_simp⟩) e0 ?_
      simp only [Act.put, List.setIfInBounds_toArray, List.set_cons_zero, List.set_cons_succ]
      refine until_last (by kernel_rfl) rfl (fun K hK => ?_)
      go_simp
      refine HSN.out.mono ?_
      rintro e w5 ⟨rfl, l5⟩
      have HC5 := Lib.hid ((show (∃ m' lab', PR GB base w5 pb P1 m' lab' ∧ ∀ g, g < wd.heap.size → lab' g = lab4 g) ∧ Ch wd w5 (fun g => lab4 g = 1 ∧ base ≤ g) by rw [HP1.out]; exact HP5.out.call0 l5))
      have k05 : w5.cell? ⟨gk, 0, none⟩ = some (.int .i64 3) := HC5.out.2.cell e0.1 (fun e => by have h9 : lab4 gk = 1 := e.1; have h8 := HLB.out; omega)
      clear l5
      dsimp only
      refine hK.out _ _ ?_
      clear hK
      try simp only [Act.put, List.setIfInBounds_toArray, List.set_cons_zero, List.set_cons_succ]
      refine held_take (i := 14) (v := .bool false) (some 95) rfl rfl (by kernel_rfl) (by kernel_rfl) (by kernel_rfl) (fun _ _ _ h => h) (Or.inl ⟨by rfl, fun W hW => by go_simp⟩) trivial ?_
      simp only [Act.put, List.setIfInBounds_toArray, List.set_cons_zero, List.set_cons_succ]
      refine wpAnyH_done (by kernel_rfl) ?_ _
      refine NoPanic.normal ?_
      obtain ⟨⟨m6, lab6, h6, hl6⟩, ch6⟩ := HC5.out
      have HB10 : Hid (Below base w w5) := Lib.hid (HB5.out.trans (ch6.belowB (by have := HP5.out.lo; have := HP5.out.lt; omega) (fun g e => e.2)))
      have H6 := Lib.hid h6
      clear h6 hl6 ch6
      go_wp2_with fail
      refine (HFE.out _ _ _ _ H6.out).mono ?_
      rintro e w99 ⟨rfl, hp99, hb99⟩
      go_wp2_with fail
      go_end0
      have hact : q.act 3 I = P1 := by rw [HACT.out, HDS.out.1.symm, if_neg (by rw [HEE.out]; decide), List.append_nil, HP1.out, HX.out, HTT.out]
      exact ⟨rfl, by rw [hact]; exact hp99, HB10.out.trans hb99⟩
  · as_aux_lemma =>
      rw [hE] at HSN0
      have HSN := Lib.hid HSN0.out
      have HEE := Lib.hid hE
      clear hE HSN0
      refine wp_region_noPanic ?_
      refine until_start (fun W => W.cell? ⟨gk, 0, none⟩ = some (.int .i64 3) ∧ W.cell? ⟨pb, 0, none⟩ = some (.pointer (some ⟨FB, 0, none⟩)) ∧ W.cell? ⟨pb, 7, none⟩ = some (.int .i64 (tt : Int))) 13 (by kernel_rfl) (by rw [hwd]; exact e0) (fun _ => ?_)
      rw [hwd]
      clear hwd
      refine until_take (i := 0) (v := .pointer (some ⟨pb, 0, none⟩)) (some 81) [4, 5, 6, 7, 13] rfl rfl (by kernel_rfl) (by kernel_rfl) (by kernel_rfl) (by kernel_rfl) rfl rfl (fun _ _ _ h => h) (Or.inl ⟨by rfl, fun W hW => by go_simp⟩) e0 ?_
      simp only [Act.put, List.setIfInBounds_toArray, List.set_cons_zero, List.set_cons_succ]
      refine until_take (i := 1) (v := .pointer (some ⟨gk, 0, none⟩)) (some 82) [2, 3, 6, 7, 13] rfl rfl (by kernel_rfl) (by kernel_rfl) (by kernel_rfl) (by kernel_rfl) rfl rfl (fun _ _ _ h => h) (Or.inl ⟨by rfl, fun W hW => by go_simp⟩) e0 ?_
      simp only [Act.put, List.setIfInBounds_toArray, List.set_cons_zero, List.set_cons_succ]
      refine until_take (i := 8) (v := .slice A4 n4 c4) (some 89) [13] rfl rfl (by kernel_rfl) (by kernel_rfl) (by kernel_rfl) (by kernel_rfl) rfl rfl (fun _ _ _ h => h) (Or.inl ⟨by rfl, fun W hW => by go_simp⟩) e0 ?_
      simp only [Act.put, List.setIfInBounds_toArray, List.set_cons_zero, List.set_cons_succ]
      refine until_take (i := 9) (v := .pointer (some ⟨pb, 0, none⟩)) (some 90) [10, 11, 12, 13] rfl rfl (by kernel_rfl) (by kernel_rfl) (by kernel_rfl) (by kernel_rfl) rfl rfl (fun _ _ _ h => h) (Or.inl ⟨by rfl, fun W hW => by go_simp⟩) e0 ?_
      simp only [Act.put, List.setIfInBounds_toArray, List.set_cons_zero, List.set_cons_succ]
      refine until_take (i := 2) (v := .int .i64 3) (some 83) [3, 6, 7, 13] rfl rfl (by kernel_rfl) (by kernel_rfl) (by kernel_rfl) (by kernel_rfl) rfl rfl (fun _ _ _ h => h) (Or.inl ⟨by rfl, fun W hW => by have hc := hW.1; go_simp⟩) e0 ?_
      simp only [Act.put, List.setIfInBounds_toArray, List.set_cons_zero, List.set_cons_succ]
      refine until_take (i := 4) (v := .pointer (some ⟨pb, 0, none⟩)) (some 85) [5, 6, 7, 13] rfl rfl (by kernel_rfl) (by kernel_rfl) (by kernel_rfl) (by kernel_rfl) rfl rfl (fun _ _ _ h => h) (Or.inl ⟨by rfl, fun W hW => by go_simp⟩) e0 ?_
      simp only [Act.put, List.setIfInBounds_toArray, List.set_cons_zero, List.set_cons_succ]
      refine until_take (i := 10) (v := .pointer (some ⟨pb, 0, none⟩)) (some 91) [11, 12, 13] rfl rfl (by kernel_rfl) (by kernel_rfl) (by kernel_rfl) (by kernel_rfl) rfl rfl (fun _ _ _ h => h) (Or.inl ⟨by rfl, fun W hW => by go_simp⟩) e0 ?_
      simp only [Act.put, List.setIfInBounds_toArray, List.set_cons_zero, List.set_cons_succ]
      refine until_take (i := 3) (v := .int .i64 0) (some 84) [6, 7, 13] rfl rfl (by kernel_rfl) (by kernel_rfl) (by kernel_rfl) (by kernel_rfl) rfl rfl (fun _ _ _ h => h) (Or.inl ⟨by rfl, fun W hW => by kernel_rfl⟩) e0 ?_
      simp only [Act.put, List.setIfInBounds_toArray, List.set_cons_zero, List.set_cons_succ]
      refine until_take (i := 5) (v := .pointer (some ⟨pb, 0, none⟩)) (some 86) [6, 7, 13] rfl rfl (by kernel_rfl) (by kernel_rfl) (by kernel_rfl) (by kernel_rfl) rfl rfl (fun _ _ _ h => h) (Or.inl ⟨by rfl, fun W hW => by go_simp⟩) e0 ?_
      simp only [Act.put, List.setIfInBounds_toArray, List.set_cons_zero, List.set_cons_succ]
      refine until_take (i := 11) (v := .pointer (some ⟨pb, 7, none⟩)) (some 92) [12, 13] rfl rfl (by kernel_rfl) (by kernel_rfl) (by kernel_rfl) (by kernel_rfl) rfl rfl (fun _ _ _ h => h) (Or.inl ⟨by rfl, fun W hW => by go_simp⟩) e0 ?_
      simp only [Act.put, List.setIfInBounds_toArray, List.set_cons_zero, List.set_cons_succ]
      refine until_take (i := 6) (v := .pointer (some ⟨pb, 0, none⟩)) (some 87) [7, 13] rfl rfl (by kernel_rfl) (by kernel_rfl) (by kernel_rfl) (by kernel_rfl) rfl rfl (fun _ _ _ h => h) (Or.inl ⟨by rfl, fun W hW => by go_simp⟩) e0 ?_
      simp only [Act.put, List.setIfInBounds_toArray, List.set_cons_zero, List.set_cons_succ]
      refine until_take (i := 12) (v := .int .i64 (tt : Int)) (some 93) [13] rfl rfl (by kernel_rfl) (by kernel_rfl) (by kernel_rfl) (by kernel_rfl) rfl rfl (fun _ _ _ h => h) (Or.inl ⟨by rfl, fun W hW => by have hc := hW.2.2; go_simp⟩) e0 ?_
      simp only [Act.put, List.setIfInBounds_toArray, List.set_cons_zero, List.set_cons_succ]
      refine until_take (i := 7) (v := .pointer (some ⟨FB, 0, none⟩)) (some 88) [13] rfl rfl (by kernel_rfl) (by kernel_rfl) (by kernel_rfl) (by kernel_rfl) rfl rfl (fun _ _ _ h => h) (Or.inl ⟨by rfl, fun W hW => by have hc := hW.2.1; go_simp⟩) e0 ?_
      simp only [Act.put, List.setIfInBounds_toArray, List.set_cons_zero, List.set_cons_succ]
      refine until_last (by kernel_rfl) rfl (fun K hK => ?_)
      go_simp
      refine HSN.out.mono ?_
      rintro e w5 ⟨rfl, l5⟩
      have HC5 := Lib.hid ((show (∃ m' lab', PR GB base w5 pb P1 m' lab' ∧ ∀ g, g < wd.heap.size → lab' g = lab4 g) ∧ Ch wd w5 (fun g => lab4 g = 1 ∧ base ≤ g) by rw [HP1.out]; exact HP5.out.call0 l5))
      have k05 : w5.cell? ⟨gk, 0, none⟩ = some (.int .i64 3) := HC5.out.2.cell e0.1 (fun e => by have h9 : lab4 gk = 1 := e.1; have h8 := HLB.out; omega)
      clear l5
      dsimp only
      refine hK.out _ _ ?_
      clear hK
      try simp only [Act.put, List.setIfInBounds_toArray, List.set_cons_zero, List.set_cons_succ]
      refine held_take (i := 14) (v := .bool false) (some 95) rfl rfl (by kernel_rfl) (by kernel_rfl) (by kernel_rfl) (fun _ _ _ h => h) (Or.inl ⟨by rfl, fun W hW => by go_simp⟩) trivial ?_
      simp only [Act.put, List.setIfInBounds_toArray, List.set_cons_zero, List.set_cons_succ]
      refine wpAnyH_done (by kernel_rfl) ?_ _
      refine NoPanic.normal ?_
      obtain ⟨⟨m6, lab6, h6, hl6⟩, ch6⟩ := HC5.out
      have HB10 : Hid (Below base w w5) := Lib.hid (HB5.out.trans (ch6.belowB (by have := HP5.out.lo; have := HP5.out.lt; omega) (fun g e => e.2)))
      have H6 := Lib.hid h6
      clear h6 hl6 ch6
      go_wp2_with fail
      refine (HFE.out _ _ _ _ H6.out).mono ?_
      rintro e w99 ⟨rfl, hp99, hb99⟩
      go_wp2_with fail
      go_end0
      have hact : q.act 3 I = P1 := by rw [HACT.out, HDS.out.1.symm, if_neg (by rw [HEE.out]; decide), List.append_nil, HP1.out, HX.out, HTT.out]
      exact ⟨rfl, by rw [hact]; exact hp99, HB10.out.trans hb99⟩
set_option maxHeartbeats 12800000 in
theorem stepK4 (h : PR GB base w pb p m lab) (q : P) (hq : q = p.flush) (hB : Bd q) (I : Int) (hI : isInt I) :
    Calls Try.prog 10 #[ptr pb, .agg #[.int .i64 4, .int .i64 I]] w (StepP GB base w pb (q.act 4 I).flush) := by
  cases hf : q.f1 with
  | none =>
    as_aux_lemma =>
      have HF := Lib.hid hf
      have HACTN : Hid (q.act 4 I = q) := Lib.hid (by
        unfold P.act
        rw [if_neg (by rintro ⟨⟨_, h⟩, _⟩; exact absurd h (by decide)), if_neg (by decide), if_pos rfl, hf]
        show ({ q with f1 := none, s1 := q.s1 ++ (if (2 : Int) = 0 then byts I else []) } : P) = q
        rw [if_neg (by decide), List.append_nil, ← hf])
      clear hf
      have hbs : base ≤ w.heap.size := by have := h.lo; have := h.lt; omega
      have HBD := Lib.hid hB
      have HFL : Hid (∀ W m lab, PR GB base W pb p m lab → Calls Try.prog 28 #[.pointer (some ⟨pb, 0, none⟩)] W fun e w' => e = .returned (.tuple #[]) ∧ (∃ m' lab', PR GB base w' pb q m' lab' ∧ Gh W w' lab lab') ∧ Below base W w') := Lib.hid (fun W m lab h => by rw [hq]; exact flush_g h)
      have HFE : Hid (∀ W q m lab, PR GB base W pb q m lab → Calls Try.prog 28 #[.pointer (some ⟨pb, 0, none⟩)] W fun e w' => e = .returned (.tuple #[]) ∧ (∃ m' lab', PR GB base w' pb q.flush m' lab') ∧ Below base W w') := Lib.hid (fun W q m lab h => flush_any h)
      have H := Lib.hid h
      have hplt := h.lt
      have hI2 : -9223372036854775808 ≤ I ∧ I ≤ 9223372036854775807 := hI
      clear h hq hB hI
      unfold ptr StepP
      go_enter Try.func10, Try.ntmps10
      go_wp2_with (first
        | ((with_reducible refine wpList_here ?_); refine wpList_boxV (o := ⟨some 3, _, _, _, _, _⟩) rfl 35 (.tmp 1) rfl [.int .i64 4, .int .i64 I] rfl _ rfl ?_; intro w1 z1 b1 s1; have HB1 := Lib.hid b1; have HZ1 := Lib.hid z1; clear z1 b1)
        | fail)
      obtain ⟨gk, hgk⟩ : ∃ g, g = w.heap.size := ⟨_, rfl⟩
      have HP1 := Lib.hid ((H.out.relabel (lab' := fun j => if j < w.heap.size then lab j else 0) (fun j hj => if_pos hj)).below HB1.out)
      rw [← hgk] at HZ1
      rw [← hgk]
      refine (HFL.out _ _ _ HP1.out).mono ?_
      rintro e w2 ⟨rfl, ⟨m2, lab2, h2, g2⟩, b2⟩
      have HK : Hid (Own w2 gk [.int .i64 4, .int .i64 I]) := Lib.hid (HZ1.out.ch (by show 0 < 2; omega) g2.1 (fun e => e (if_neg (by omega))))
      have HLK : Hid (lab2 gk = 0) := Lib.hid (g2.2 gk (HZ1.out.lt (by show 0 < 2; omega)) (if_neg (by omega)))
      have HBW : Hid (Below base w w2) := Lib.hid ((HB1.out.mono hbs).trans b2)
      have H2 := Lib.hid h2
      obtain ⟨A2, c2, hwv, hwl⟩ := Ms.way_slice h2
      obtain ⟨A9, c9, e9, hc1, hc2⟩ := own_slice h2.way
      obtain ⟨L, hL⟩ : ∃ L, m2.ws.length = L := ⟨_, rfl⟩
      rw [hL] at hwv hwl hc1
      have hLm : L ≤ 9223372036854775807 := by omega
      have kw : w2.cell? ⟨pb, 2, none⟩ = some (.slice A2 L c2) := (h2.at_ 2).trans (by rw [show (m2.cs q.t)[2]? = some m2.wv from rfl, hwv])
      have k0 : w2.cell? ⟨gk, 0, none⟩ = some (.int .i64 4) := (HK.out 0 (by show 0 < 2; omega)).1
      have k1 : w2.cell? ⟨gk, 1, none⟩ = some (.int .i64 I) := (HK.out 1 (by show 1 < 2; omega)).1
      have HWV := Lib.hid hwv
      have HWL := Lib.hid (And.intro hL hwl)
      have hwr : IntKind.i64.wrap ((L : Int) - 1) = (L : Int) - 1 := by rw [IntKind.wrap_i64]; omega
      obtain ⟨v9, hv9⟩ : ∃ v, v = min (max I 0) ((L : Int) - 1) := ⟨_, rfl⟩
      have hmin : min (max I 0) ((L : Int) - 1) = v9 := hv9.symm
      clear hv9
      clear h2 hwv hwl hL g2 b2 HZ1 HB1 s1 hgk HP1 A9 c9 e9 hc1 hc2 H
      go_wp2_with fail
      go_quiet (fail)
      have HBW := Lib.hid (below_drewN HBW.out nq)
      have H2 := Lib.hid (H2.out.below (below_drewN (Below.refl _ _) nq))
      have HK := Lib.hid (HK.out.below (below_drewN (Below.refl _ _) nq))
      have kw : (w2.drewN nq).cell? ⟨pb, 2, none⟩ = some (.slice A2 L c2) := kw
      have k0 : (w2.drewN nq).cell? ⟨gk, 0, none⟩ = some (.int .i64 4) := k0
      have k1 : (w2.drewN nq).cell? ⟨gk, 1, none⟩ = some (.int .i64 I) := k1
      generalize w2.drewN nq = w3 at *
      have kfb : w3.cell? ⟨pb, 1, none⟩ = some (.pointer none) := by have h9 := H2.out.at_ 1; rw [show (m2.cs q.t)[1]? = some (f1v m2.b) from rfl, H2.out.fn HF.out] at h9; exact h9
      obtain ⟨tt, htt⟩ : ∃ t, t = q.t := ⟨_, rfl⟩
      have HTT := Lib.hid htt
      have HIN : Hid (isInt (tt : Int)) := Lib.hid (by have := HBD.out.t; unfold isInt; omega)
      have ktk : w3.cell? ⟨pb, 7, none⟩ = some (.int .i64 (tt : Int)) := by rw [htt]; exact H2.out.at_ 7
      clear htt
      have HBY := Lib.hid (fun W => bytes_any I W hI2)
      go_wp2_with fail
      refine (HBY.out _).mono ?_
      rintro e w4 ⟨A4, c4, rfl, hrb, hrow, hb4⟩
      obtain ⟨n4, hn4⟩ : ∃ n, n = (min (max I 0) 12).toNat := ⟨_, rfl⟩
      obtain ⟨ds, hds⟩ : ∃ ds, ds = byts I := ⟨_, rfl⟩
      rw [← hn4, ← hds] at hrb hrow
      rw [← hn4]
      have hn12 : n4 ≤ 12 := by omega
      have hnl : ds.length = n4 := hrb.len
      have HP4 := Lib.hid ((H2.out.relabel (lab' := fun j => if j < w3.heap.size then lab2 j else 0) (fun j hj => if_pos hj)).below hb4)
      have HBW4 := Lib.hid (HBW.out.trans (hb4.mono (by have := H2.out.lo; have := H2.out.lt; omega)))
      have HK4 := Lib.hid (HK.out.below hb4)
      have HLB : Hid ((fun j => if j < w3.heap.size then lab2 j else 0) gk = 0) := Lib.hid (by
        show (if gk < w3.heap.size then lab2 gk else 0) = 0
        rw [if_pos (HK.out.lt (by show 0 < 2; omega))]
        exact HLK.out)
      have hge : ∀ g o s', A4 = some ⟨g, o, s'⟩ → 0 < n4 → w3.heap.size ≤ g := fun g o s' e hn => by
        obtain ⟨g9, c9, e9, hb9, _⟩ := hrow.form hn
        injection e9 with e9
        rw [e] at e9
        injection e9 with e9
        injection e9 with e9
        rw [e9]; exact hb9
      have HSL : Hid (∀ s : Sh, (∀ g, s.T g → g < w3.heap.size) → ∀ g o s', A4 = some ⟨g, o, s'⟩ → 0 < n4 → ¬ s.T g) := Lib.hid (fun s hs g o s' e hn hT => by have := hge g o s' e hn; have := hs g hT; omega)
      have HRB := Lib.hid (And.intro hrb (And.intro hrow hge))
      have HDS := Lib.hid (And.intro hds hnl)
      have e0 : w4.cell? ⟨gk, 0, none⟩ = some (.int .i64 4) ∧ w4.cell? ⟨pb, 1, none⟩ = some (.pointer none) ∧ w4.cell? ⟨pb, 7, none⟩ = some (.int .i64 (tt : Int)) := ⟨cellB hb4 k0, cellB hb4 kfb, cellB hb4 ktk⟩
      have k04 := e0.1
      clear kfb hrb hrow hge hds hn4 hb4 k0 k1 kw ktk hnl
      have HL0 : Hid (∀ g, w3.heap.size ≤ g → (fun j => if j < w3.heap.size then lab2 j else 0) g = 0) := Lib.hid (fun g hg => if_neg (by omega))
      have HLT : Hid (∀ g, g < w3.heap.size ∨ w3.heap.size ≤ g) := Lib.hid (fun g => by omega)
      have HIN3 := Lib.hid (show (∀ s f, Fl base w3 s f → ∀ g, s.T g → g < w3.heap.size) from fun s f h g hg => (h.in_ hg).2)
      have HP5 := Lib.hid (HP4.out.below (Below.refl _ _).drew)
      have HK5 := Lib.hid (HK4.out.below (Below.refl _ _).drew)
      have HB5 := Lib.hid HBW4.out.drew
      have HRB5 : Hid (RB w4.drew A4 n4 c4 ds ∧ w4.drew.ownsRow w3.heap.size 5 1 (.slice A4 n4 c4) n4 (bv ds)) := Lib.hid ⟨HRB.out.1, own_below HRB.out.2.1 (Below.refl _ _).drew⟩
      have e0 : w4.drew.cell? ⟨gk, 0, none⟩ = some (.int .i64 4) ∧ w4.drew.cell? ⟨pb, 1, none⟩ = some (.pointer none) ∧ w4.drew.cell? ⟨pb, 7, none⟩ = some (.int .i64 (tt : Int)) := e0
      clear HP4 HK4 HBW4
      generalize (fun j => if j < w3.heap.size then lab2 j else 0) = lab4 at *
      go_wp2_with fail
      generalize hwd : w4.drew = wd at *
      clear k04
      have HSN := Lib.hid (nSend (.slice A4 n4 c4) 1 false (tt : Int) wd)
      unfold nilp at HSN
      refine wp_region_noPanic ?_
      refine until_start (fun W => W.cell? ⟨gk, 0, none⟩ = some (.int .i64 4) ∧ W.cell? ⟨pb, 1, none⟩ = some (.pointer none) ∧ W.cell? ⟨pb, 7, none⟩ = some (.int .i64 (tt : Int))) 13 (by kernel_rfl) (by rw [hwd]; exact e0) (fun _ => ?_)
      rw [hwd]
      clear hwd
      refine until_take (i := 0) (v := .pointer (some ⟨pb, 0, none⟩)) (some 81) [4, 5, 6, 7, 13] rfl rfl (by kernel_rfl) (by kernel_rfl) (by kernel_rfl) (by kernel_rfl) rfl rfl (fun _ _ _ h => h) (Or.inl ⟨by rfl, fun W hW => by go_simp⟩) e0 ?_
      simp only [Act.put, List.setIfInBounds_toArray, List.set_cons_zero, List.set_cons_succ]
      refine until_take (i := 1) (v := .pointer (some ⟨gk, 0, none⟩)) (some 82) [2, 3, 6, 7, 13] rfl rfl (by kernel_rfl) (by kernel_rfl) (by kernel_rfl) (by kernel_rfl) rfl rfl (fun _ _ _ h => h) (Or.inl ⟨by rfl, fun W hW => by go_simp⟩) e0 ?_
      simp only [Act.put, List.setIfInBounds_toArray, List.set_cons_zero, List.set_cons_succ]
      refine until_take (i := 8) (v := .slice A4 n4 c4) (some 89) [13] rfl rfl (by kernel_rfl) (by kernel_rfl) (by kernel_rfl) (by kernel_rfl) rfl rfl (fun _ _ _ h => h) (Or.inl ⟨by rfl, fun W hW => by go_simp⟩) e0 ?_
      simp only [Act.put, List.setIfInBounds_toArray, List.set_cons_zero, List.set_cons_succ]
      refine until_take (i := 9) (v := .pointer (some ⟨pb, 0, none⟩)) (some 90) [10, 11, 12, 13] rfl rfl (by kernel_rfl) (by kernel_rfl) (by kernel_rfl) (by kernel_rfl) rfl rfl (fun _ _ _ h => h) (Or.inl ⟨by rfl, fun W hW => by go_simp⟩) e0 ?_
      simp only [Act.put, List.setIfInBounds_toArray, List.set_cons_zero, List.set_cons_succ]
      refine until_take (i := 2) (v := .int .i64 4) (some 83) [3, 6, 7, 13] rfl rfl (by kernel_rfl) (by kernel_rfl) (by kernel_rfl) (by kernel_rfl) rfl rfl (fun _ _ _ h => h) (Or.inl ⟨by rfl, fun W hW => by have hc := hW.1; go_simp⟩) e0 ?_
      simp only [Act.put, List.setIfInBounds_toArray, List.set_cons_zero, List.set_cons_succ]
      refine until_take (i := 4) (v := .pointer (some ⟨pb, 0, none⟩)) (some 85) [5, 6, 7, 13] rfl rfl (by kernel_rfl) (by kernel_rfl) (by kernel_rfl) (by kernel_rfl) rfl rfl (fun _ _ _ h => h) (Or.inl ⟨by rfl, fun W hW => by go_simp⟩) e0 ?_
      simp only [Act.put, List.setIfInBounds_toArray, List.set_cons_zero, List.set_cons_succ]
      refine until_take (i := 10) (v := .pointer (some ⟨pb, 0, none⟩)) (some 91) [11, 12, 13] rfl rfl (by kernel_rfl) (by kernel_rfl) (by kernel_rfl) (by kernel_rfl) rfl rfl (fun _ _ _ h => h) (Or.inl ⟨by rfl, fun W hW => by go_simp⟩) e0 ?_
      simp only [Act.put, List.setIfInBounds_toArray, List.set_cons_zero, List.set_cons_succ]
      refine until_take (i := 3) (v := .int .i64 1) (some 84) [6, 7, 13] rfl rfl (by kernel_rfl) (by kernel_rfl) (by kernel_rfl) (by kernel_rfl) rfl rfl (fun _ _ _ h => h) (Or.inl ⟨by rfl, fun W hW => by kernel_rfl⟩) e0 ?_
      simp only [Act.put, List.setIfInBounds_toArray, List.set_cons_zero, List.set_cons_succ]
      refine until_take (i := 5) (v := .pointer (some ⟨pb, 0, none⟩)) (some 86) [6, 7, 13] rfl rfl (by kernel_rfl) (by kernel_rfl) (by kernel_rfl) (by kernel_rfl) rfl rfl (fun _ _ _ h => h) (Or.inl ⟨by rfl, fun W hW => by go_simp⟩) e0 ?_
      simp only [Act.put, List.setIfInBounds_toArray, List.set_cons_zero, List.set_cons_succ]
      refine until_take (i := 11) (v := .pointer (some ⟨pb, 7, none⟩)) (some 92) [12, 13] rfl rfl (by kernel_rfl) (by kernel_rfl) (by kernel_rfl) (by kernel_rfl) rfl rfl (fun _ _ _ h => h) (Or.inl ⟨by rfl, fun W hW => by go_simp⟩) e0 ?_
      simp only [Act.put, List.setIfInBounds_toArray, List.set_cons_zero, List.set_cons_succ]
      refine until_take (i := 6) (v := .pointer (some ⟨pb, 1, none⟩)) (some 87) [7, 13] rfl rfl (by kernel_rfl) (by kernel_rfl) (by kernel_rfl) (by kernel_rfl) rfl rfl (fun _ _ _ h => h) (Or.inl ⟨by rfl, fun W hW => by go_simp⟩) e0 ?_
      simp only [Act.put, List.setIfInBounds_toArray, List.set_cons_zero, List.set_cons_succ]
      refine until_take (i := 12) (v := .int .i64 (tt : Int)) (some 93) [13] rfl rfl (by kernel_rfl) (by kernel_rfl) (by kernel_rfl) (by kernel_rfl) rfl rfl (fun _ _ _ h => h) (Or.inl ⟨by rfl, fun W hW => by have hc := hW.2.2; go_simp⟩) e0 ?_
      simp only [Act.put, List.setIfInBounds_toArray, List.set_cons_zero, List.set_cons_succ]
      refine until_take (i := 7) (v := .pointer none) (some 88) [13] rfl rfl (by kernel_rfl) (by kernel_rfl) (by kernel_rfl) (by kernel_rfl) rfl rfl (fun _ _ _ h => h) (Or.inl ⟨by rfl, fun W hW => by have hc := hW.2.1; go_simp⟩) e0 ?_
      simp only [Act.put, List.setIfInBounds_toArray, List.set_cons_zero, List.set_cons_succ]
      refine until_last (by kernel_rfl) rfl (fun K hK => ?_)
      go_simp
      refine HSN.out.mono ?_
      rintro e w5 ⟨rfl, hw5⟩
      obtain rfl : w5 = wd := hw5
      have k05 : w5.cell? ⟨gk, 0, none⟩ = some (.int .i64 4) := e0.1
      dsimp only
      refine hK.out _ _ ?_
      clear hK
      try simp only [Act.put, List.setIfInBounds_toArray, List.set_cons_zero, List.set_cons_succ]
      refine held_take (i := 14) (v := .bool false) (some 95) rfl rfl (by kernel_rfl) (by kernel_rfl) (by kernel_rfl) (fun _ _ _ h => h) (Or.inl ⟨by rfl, fun W hW => by go_simp⟩) trivial ?_
      simp only [Act.put, List.setIfInBounds_toArray, List.set_cons_zero, List.set_cons_succ]
      refine wpAnyH_done (by kernel_rfl) ?_ _
      refine NoPanic.normal ?_
      have HC6 := Lib.hid HP5.out
      go_wp2_with fail
      refine (HFE.out _ _ _ _ HC6.out).mono ?_
      rintro e w99 ⟨rfl, hp99, hb99⟩
      go_wp2_with fail
      go_end0
      exact ⟨rfl, by rw [HACTN.out]; exact hp99, HB5.out.trans hb99⟩
  | some f =>
    as_aux_lemma =>
      have HF := Lib.hid hf
      have HACT : Hid (q.act 4 I = { q with f1 := some (f.put 1 false (byts I) q.t), s1 := q.s1 ++ (if f.putE (byts I) = 0 then byts I else []) }) := Lib.hid (by
        unfold P.act
        rw [if_neg (by rintro ⟨⟨_, h⟩, _⟩; exact absurd h (by decide)), if_neg (by decide), if_pos rfl, hf]
        rfl)
      clear hf
      have hbs : base ≤ w.heap.size := by have := h.lo; have := h.lt; omega
      have HBD := Lib.hid hB
      have HFL : Hid (∀ W m lab, PR GB base W pb p m lab → Calls Try.prog 28 #[.pointer (some ⟨pb, 0, none⟩)] W fun e w' => e = .returned (.tuple #[]) ∧ (∃ m' lab', PR GB base w' pb q m' lab' ∧ Gh W w' lab lab') ∧ Below base W w') := Lib.hid (fun W m lab h => by rw [hq]; exact flush_g h)
      have HFE : Hid (∀ W q m lab, PR GB base W pb q m lab → Calls Try.prog 28 #[.pointer (some ⟨pb, 0, none⟩)] W fun e w' => e = .returned (.tuple #[]) ∧ (∃ m' lab', PR GB base w' pb q.flush m' lab') ∧ Below base W w') := Lib.hid (fun W q m lab h => flush_any h)
      have H := Lib.hid h
      have hplt := h.lt
      have hI2 : -9223372036854775808 ≤ I ∧ I ≤ 9223372036854775807 := hI
      clear h hq hB hI
      unfold ptr StepP
      go_enter Try.func10, Try.ntmps10
      go_wp2_with (first
        | ((with_reducible refine wpList_here ?_); refine wpList_boxV (o := ⟨some 3, _, _, _, _, _⟩) rfl 35 (.tmp 1) rfl [.int .i64 4, .int .i64 I] rfl _ rfl ?_; intro w1 z1 b1 s1; have HB1 := Lib.hid b1; have HZ1 := Lib.hid z1; clear z1 b1)
        | fail)
      obtain ⟨gk, hgk⟩ : ∃ g, g = w.heap.size := ⟨_, rfl⟩
      have HP1 := Lib.hid ((H.out.relabel (lab' := fun j => if j < w.heap.size then lab j else 0) (fun j hj => if_pos hj)).below HB1.out)
      rw [← hgk] at HZ1
      rw [← hgk]
      refine (HFL.out _ _ _ HP1.out).mono ?_
      rintro e w2 ⟨rfl, ⟨m2, lab2, h2, g2⟩, b2⟩
      have HK : Hid (Own w2 gk [.int .i64 4, .int .i64 I]) := Lib.hid (HZ1.out.ch (by show 0 < 2; omega) g2.1 (fun e => e (if_neg (by omega))))
      have HLK : Hid (lab2 gk = 0) := Lib.hid (g2.2 gk (HZ1.out.lt (by show 0 < 2; omega)) (if_neg (by omega)))
      have HBW : Hid (Below base w w2) := Lib.hid ((HB1.out.mono hbs).trans b2)
      have H2 := Lib.hid h2
      obtain ⟨A2, c2, hwv, hwl⟩ := Ms.way_slice h2
      obtain ⟨A9, c9, e9, hc1, hc2⟩ := own_slice h2.way
      obtain ⟨L, hL⟩ : ∃ L, m2.ws.length = L := ⟨_, rfl⟩
      rw [hL] at hwv hwl hc1
      have hLm : L ≤ 9223372036854775807 := by omega
      have kw : w2.cell? ⟨pb, 2, none⟩ = some (.slice A2 L c2) := (h2.at_ 2).trans (by rw [show (m2.cs q.t)[2]? = some m2.wv from rfl, hwv])
      have k0 : w2.cell? ⟨gk, 0, none⟩ = some (.int .i64 4) := (HK.out 0 (by show 0 < 2; omega)).1
      have k1 : w2.cell? ⟨gk, 1, none⟩ = some (.int .i64 I) := (HK.out 1 (by show 1 < 2; omega)).1
      have HWV := Lib.hid hwv
      have HWL := Lib.hid (And.intro hL hwl)
      have hwr : IntKind.i64.wrap ((L : Int) - 1) = (L : Int) - 1 := by rw [IntKind.wrap_i64]; omega
      obtain ⟨v9, hv9⟩ : ∃ v, v = min (max I 0) ((L : Int) - 1) := ⟨_, rfl⟩
      have hmin : min (max I 0) ((L : Int) - 1) = v9 := hv9.symm
      clear hv9
      clear h2 hwv hwl hL g2 b2 HZ1 HB1 s1 hgk HP1 A9 c9 e9 hc1 hc2 H
      go_wp2_with fail
      go_quiet (fail)
      have HBW := Lib.hid (below_drewN HBW.out nq)
      have H2 := Lib.hid (H2.out.below (below_drewN (Below.refl _ _) nq))
      have HK := Lib.hid (HK.out.below (below_drewN (Below.refl _ _) nq))
      have kw : (w2.drewN nq).cell? ⟨pb, 2, none⟩ = some (.slice A2 L c2) := kw
      have k0 : (w2.drewN nq).cell? ⟨gk, 0, none⟩ = some (.int .i64 4) := k0
      have k1 : (w2.drewN nq).cell? ⟨gk, 1, none⟩ = some (.int .i64 I) := k1
      generalize w2.drewN nq = w3 at *
      obtain ⟨s, hs, hFl⟩ := H2.out.fb f HF.out
      obtain ⟨FB, hFB⟩ : ∃ g, g = s.fb := ⟨_, rfl⟩
      have kfb : w3.cell? ⟨pb, 1, none⟩ = some (.pointer (some ⟨FB, 0, none⟩)) := by rw [hFB]; have h9 := H2.out.at_ 1; rw [show (m2.cs q.t)[1]? = some (f1v m2.b) from rfl, hs] at h9; exact h9
      have HFB := Lib.hid hFB
      have HSS := Lib.hid hs
      have HSIN := Lib.hid (show ∀ g, s.T g → g < w3.heap.size from fun g hg => (hFl.in_ hg).2)
      clear hFB hs hFl
      obtain ⟨tt, htt⟩ : ∃ t, t = q.t := ⟨_, rfl⟩
      have HTT := Lib.hid htt
      have HIN : Hid (isInt (tt : Int)) := Lib.hid (by have := HBD.out.t; unfold isInt; omega)
      have ktk : w3.cell? ⟨pb, 7, none⟩ = some (.int .i64 (tt : Int)) := by rw [htt]; exact H2.out.at_ 7
      clear htt
      have HBY := Lib.hid (fun W => bytes_any I W hI2)
      go_wp2_with fail
      refine (HBY.out _).mono ?_
      rintro e w4 ⟨A4, c4, rfl, hrb, hrow, hb4⟩
      obtain ⟨n4, hn4⟩ : ∃ n, n = (min (max I 0) 12).toNat := ⟨_, rfl⟩
      obtain ⟨ds, hds⟩ : ∃ ds, ds = byts I := ⟨_, rfl⟩
      rw [← hn4, ← hds] at hrb hrow
      rw [← hn4]
      have hn12 : n4 ≤ 12 := by omega
      have hnl : ds.length = n4 := hrb.len
      have HP4 := Lib.hid ((H2.out.relabel (lab' := fun j => if j < w3.heap.size then lab2 j else 0) (fun j hj => if_pos hj)).below hb4)
      have HBW4 := Lib.hid (HBW.out.trans (hb4.mono (by have := H2.out.lo; have := H2.out.lt; omega)))
      have HK4 := Lib.hid (HK.out.below hb4)
      have HLB : Hid ((fun j => if j < w3.heap.size then lab2 j else 0) gk = 0) := Lib.hid (by
        show (if gk < w3.heap.size then lab2 gk else 0) = 0
        rw [if_pos (HK.out.lt (by show 0 < 2; omega))]
        exact HLK.out)
      have hge : ∀ g o s', A4 = some ⟨g, o, s'⟩ → 0 < n4 → w3.heap.size ≤ g := fun g o s' e hn => by
        obtain ⟨g9, c9, e9, hb9, _⟩ := hrow.form hn
        injection e9 with e9
        rw [e] at e9
        injection e9 with e9
        injection e9 with e9
        rw [e9]; exact hb9
      have HSL : Hid (∀ s : Sh, (∀ g, s.T g → g < w3.heap.size) → ∀ g o s', A4 = some ⟨g, o, s'⟩ → 0 < n4 → ¬ s.T g) := Lib.hid (fun s hs g o s' e hn hT => by have := hge g o s' e hn; have := hs g hT; omega)
      have HRB := Lib.hid (And.intro hrb (And.intro hrow hge))
      have HDS := Lib.hid (And.intro hds hnl)
      have e0 : w4.cell? ⟨gk, 0, none⟩ = some (.int .i64 4) ∧ w4.cell? ⟨pb, 1, none⟩ = some (.pointer (some ⟨FB, 0, none⟩)) ∧ w4.cell? ⟨pb, 7, none⟩ = some (.int .i64 (tt : Int)) := ⟨cellB hb4 k0, cellB hb4 kfb, cellB hb4 ktk⟩
      have k04 := e0.1
      clear kfb hrb hrow hge hds hn4 hb4 k0 k1 kw ktk hnl
      have HL0 : Hid (∀ g, w3.heap.size ≤ g → (fun j => if j < w3.heap.size then lab2 j else 0) g = 0) := Lib.hid (fun g hg => if_neg (by omega))
      have HLT : Hid (∀ g, g < w3.heap.size ∨ w3.heap.size ≤ g) := Lib.hid (fun g => by omega)
      have HIN3 := Lib.hid (show (∀ s f, Fl base w3 s f → ∀ g, s.T g → g < w3.heap.size) from fun s f h g hg => (h.in_ hg).2)
      have HP5 := Lib.hid (HP4.out.below (Below.refl _ _).drew)
      have HK5 := Lib.hid (HK4.out.below (Below.refl _ _).drew)
      have HB5 := Lib.hid HBW4.out.drew
      have HRB5 : Hid (RB w4.drew A4 n4 c4 ds ∧ w4.drew.ownsRow w3.heap.size 5 1 (.slice A4 n4 c4) n4 (bv ds)) := Lib.hid ⟨HRB.out.1, own_below HRB.out.2.1 (Below.refl _ _).drew⟩
      have e0 : w4.drew.cell? ⟨gk, 0, none⟩ = some (.int .i64 4) ∧ w4.drew.cell? ⟨pb, 1, none⟩ = some (.pointer (some ⟨FB, 0, none⟩)) ∧ w4.drew.cell? ⟨pb, 7, none⟩ = some (.int .i64 (tt : Int)) := e0
      clear HP4 HK4 HBW4
      generalize (fun j => if j < w3.heap.size then lab2 j else 0) = lab4 at *
      go_wp2_with fail
      generalize hwd : w4.drew = wd at *
      clear k04
      obtain ⟨s5, hs5, hF5⟩ := HP5.out.fb f HF.out
      obtain rfl : s = s5 := by have h9 := HSS.out; rw [hs5] at h9; injection h9 with h9; exact h9.symm
      clear hs5
      obtain ⟨X, hX⟩ : ∃ X, X = f.put 1 false ds (tt : Int) := ⟨_, rfl⟩
      have HSN0 := Lib.hid (Send_any hF5 A4 n4 c4 ds HRB5.out.1 (HSL.out s (fun g hg => HSIN.out g hg)) 1 (by unfold isInt; omega) false (HBD.out.f1 f HF.out).l (Nat.le_trans (HBD.out.f1 f HF.out).os (by decide)) (HBD.out.f1 f HF.out).E (tt : Int) HIN.out)
      rw [← hX, show ptr s.fb = .pointer (some ⟨FB, 0, none⟩) by rw [HFB.out]; rfl] at HSN0
      have HX := Lib.hid hX
      clear hX
      have hE3 : f.putE ds = 0 ∨ f.putE ds = 1 ∨ f.putE ds = 9 := by unfold F.putE; split <;> (try split) <;> simp
      obtain ⟨P1, hP1⟩ : ∃ P1 : P, P1 = { q with f1 := some X } := ⟨_, rfl⟩
      have HP1 := Lib.hid hP1
      have HLS : Hid (P1.s1.length ≤ 549755813800) := Lib.hid (by rw [hP1]; exact HBD.out.s1)
      clear hP1
      rcases hE3 with hE | hE | hE
      · as_aux_lemma =>
          rw [hE] at HSN0
          have HSN := Lib.hid HSN0.out
          have HEE := Lib.hid hE
          clear hE HSN0
          refine wp_region_noPanic ?_
          refine until_start (fun W => W.cell? ⟨gk, 0, none⟩ = some (.int .i64 4) ∧ W.cell? ⟨pb, 1, none⟩ = some (.pointer (some ⟨FB, 0, none⟩)) ∧ W.cell? ⟨pb, 7, none⟩ = some (.int .i64 (tt : Int))) 13 (by kernel_rfl) (by rw [hwd]; exact e0) (fun _ => ?_)
          rw [hwd]
          clear hwd
          refine until_take (i := 0) (v := .pointer (some ⟨pb, 0, none⟩)) (some 81) [4, 5, 6, 7, 13] rfl rfl (by kernel_rfl) (by kernel_rfl) (by kernel_rfl) (by kernel_rfl) rfl rfl (fun _ _ _ h => h) (Or.inl ⟨by rfl, fun W hW => by go_simp⟩) e0 ?_
          simp only [Act.put, List.setIfInBounds_toArray, List.set_cons_zero, List.set_cons_succ]
          refine until_take (i := 1) (v := .pointer (some ⟨gk, 0, none⟩)) (some 82) [2, 3, 6, 7, 13] rfl rfl (by kernel_rfl) (by kernel_rfl) (by kernel_rfl) (by kernel_rfl) rfl rfl (fun _ _ _ h => h) (Or.inl ⟨by rfl, fun W hW => by go_simp⟩) e0 ?_
          simp only [Act.put, List.setIfInBounds_toArray, List.set_cons_zero, List.set_cons_succ]
          refine until_take (i := 8) (v := .slice A4 n4 c4) (some 89) [13] rfl rfl (by kernel_rfl) (by kernel_rfl) (by kernel_rfl) (by kernel_rfl) rfl rfl (fun _ _ _ h => h) (Or.inl ⟨by rfl, fun W hW => by go_simp⟩) e0 ?_
          simp only [Act.put, List.setIfInBounds_toArray, List.set_cons_zero, List.set_cons_succ]
          refine until_take (i := 9) (v := .pointer (some ⟨pb, 0, none⟩)) (some 90) [10, 11, 12, 13] rfl rfl (by kernel_rfl) (by kernel_rfl) (by kernel_rfl) (by kernel_rfl) rfl rfl (fun _ _ _ h => h) (Or.inl ⟨by rfl, fun W hW => by go_simp⟩) e0 ?_
          simp only [Act.put, List.setIfInBounds_toArray, List.set_cons_zero, List.set_cons_succ]
          refine until_take (i := 2) (v := .int .i64 4) (some 83) [3, 6, 7, 13] rfl rfl (by kernel_rfl) (by kernel_rfl) (by kernel_rfl) (by kernel_rfl) rfl rfl (fun _ _ _ h => h) (Or.inl ⟨by rfl, fun W hW => by have hc := hW.1; go_simp⟩) e0 ?_
          simp only [Act.put, List.setIfInBounds_toArray, List.set_cons_zero, List.set_cons_succ]
          refine until_take (i := 4) (v := .pointer (some ⟨pb, 0, none⟩)) (some 85) [5, 6, 7, 13] rfl rfl (by kernel_rfl) (by kernel_rfl) (by kernel_rfl) (by kernel_rfl) rfl rfl (fun _ _ _ h => h) (Or.inl ⟨by rfl, fun W hW => by go_simp⟩) e0 ?_
          simp only [Act.put, List.setIfInBounds_toArray, List.set_cons_zero, List.set_cons_succ]
          refine until_take (i := 10) (v := .pointer (some ⟨pb, 0, none⟩)) (some 91) [11, 12, 13] rfl rfl (by kernel_rfl) (by kernel_rfl) (by kernel_rfl) (by kernel_rfl) rfl rfl (fun _ _ _ h => h) (Or.inl ⟨by rfl, fun W hW => by go_simp⟩) e0 ?_
          simp only [Act.put, List.setIfInBounds_toArray, List.set_cons_zero, List.set_cons_succ]
          refine until_take (i := 3) (v := .int .i64 1) (some 84) [6, 7, 13] rfl rfl (by kernel_rfl) (by kernel_rfl) (by kernel_rfl) (by kernel_rfl) rfl rfl (fun _ _ _ h => h) (Or.inl ⟨by rfl, fun W hW => by kernel_rfl⟩) e0 ?_
          simp only [Act.put, List.setIfInBounds_toArray, List.set_cons_zero, List.set_cons_succ]
          refine until_take (i := 5) (v := .pointer (some ⟨pb, 0, none⟩)) (some 86) [6, 7, 13] rfl rfl (by kernel_rfl) (by kernel_rfl) (by kernel_rfl) (by kernel_rfl) rfl rfl (fun _ _ _ h => h) (Or.inl ⟨by rfl, fun W hW => by go_simp⟩) e0 ?_
          simp only [Act.put, List.setIfInBounds_toArray, List.set_cons_zero, List.set_cons_succ]
          refine until_take (i := 11) (v := .pointer (some ⟨pb, 7, none⟩)) (some 92) [12, 13] rfl rfl (by kernel_rfl) (by kernel_rfl) (by kernel_rfl) (by kernel_rfl) rfl rfl (fun _ _ _ h => h) (Or.inl ⟨by rfl, fun W hW => by go_simp⟩) e0 ?_
          simp only [Act.put, List.setIfInBounds_toArray, List.set_cons_zero, List.set_cons_succ]
          refine until_take (i := 6) (v := .pointer (some ⟨pb, 1, none⟩)) (some 87) [7, 13] rfl rfl (by kernel_rfl) (by kernel_rfl) (by kernel_rfl) (by kernel_rfl) rfl rfl (fun _ _ _ h => h) (Or.inl ⟨by rfl, fun W hW => by go_simp⟩) e0 ?_
          simp only [Act.put, List.setIfInBounds_toArray, List.set_cons_zero, List.set_cons_succ]
          refine until_take (i := 12) (v := .int .i64 (tt : Int)) (some 93) [13] rfl rfl (by kernel_rfl) (by kernel_rfl) (by kernel_rfl) (by kernel_rfl) rfl rfl (fun _ _ _ h => h) (Or.inl ⟨by rfl, fun W hW => by have hc := hW.2.2; go_simp⟩) e0 ?_
          simp only [Act.put, List.setIfInBounds_toArray, List.set_cons_zero, List.set_cons_succ]
          refine until_take (i := 7) (v := .pointer (some ⟨FB, 0, none⟩)) (some 88) [13] rfl rfl (by kernel_rfl) (by kernel_rfl) (by kernel_rfl) (by kernel_rfl) rfl rfl (fun _ _ _ h => h) (Or.inl ⟨by rfl, fun W hW => by have hc := hW.2.1; go_simp⟩) e0 ?_
          simp only [Act.put, List.setIfInBounds_toArray, List.set_cons_zero, List.set_cons_succ]
          refine until_last (by kernel_rfl) rfl (fun K hK => ?_)
          go_simp
          refine HSN.out.mono ?_
          rintro e w5 ⟨rfl, l5⟩
          have HC5 := Lib.hid ((show (∃ m' lab', PR GB base w5 pb P1 m' lab' ∧ ∀ g, g < wd.heap.size → lab' g = lab4 g) ∧ Ch wd w5 (fun g => lab4 g = 2 ∧ base ≤ g) by rw [HP1.out]; exact HP5.out.call1 HF.out HSS.out l5))
          have k05 : w5.cell? ⟨gk, 0, none⟩ = some (.int .i64 4) := HC5.out.2.cell e0.1 (fun e => by have h9 : lab4 gk = 2 := e.1; have h8 := HLB.out; omega)
          clear l5
          dsimp only
          refine hK.out _ _ ?_
          clear hK
          try simp only [Act.put, List.setIfInBounds_toArray, List.set_cons_zero, List.set_cons_succ]
          refine held_take (i := 14) (v := .bool true) (some 95) rfl rfl (by kernel_rfl) (by kernel_rfl) (by kernel_rfl) (fun _ _ _ h => h) (Or.inl ⟨by rfl, fun W hW => by go_simp⟩) trivial ?_
          simp only [Act.put, List.setIfInBounds_toArray, List.set_cons_zero, List.set_cons_succ]
          refine wpAnyH_done (by kernel_rfl) ?_ _
          refine NoPanic.normal ?_
          go_wp2_with fail
          obtain ⟨⟨m6, lab6, h6, hl6⟩, ch6⟩ := HC5.out
          have h6 := h6.below (Below.refl _ _).drew
          have ch6 := ch6.drew
          have HK6 : Hid (Own w5.drew gk [.int .i64 4, .int .i64 I] ∧ lab6 gk = 0) := Lib.hid ⟨HK5.out.ch (by show 0 < 2; omega) ch6 (fun e => by have h9 : lab4 gk = 2 := e.1; have h8 := HLB.out; omega), (hl6 gk (HK5.out.lt (by show 0 < 2; omega))).trans HLB.out⟩
          have hrow9 := own_ch2 HRB5.out.2 ch6 (fun g hg e => by have h9 : lab4 g = 2 := e.1; have h8 := HL0.out g (own_in HRB5.out.2 hg).1; omega)
          obtain ⟨A7, k7, e7, hrb6, _⟩ := RB.of_own hrow9
          injection e7 with e71 _ e72
          subst e71 e72
          obtain ⟨A5, c5, hv5, hc5, hm5⟩ := own_slice h6.s1.row
          obtain ⟨L5, hL5⟩ : ∃ L, L = P1.s1.length := ⟨_, rfl⟩
          rw [← hL5] at hv5 hc5
          have hL9 : L5 ≤ 549755813800 := by rw [hL5]; exact HLS.out
          have H6 := Lib.hid (And.intro h6 (And.intro hv5 hL5))
          have hrow6 := h6.s1.row
          rw [hv5, ← hL5] at hrow6
          have e6 : w5.drew.cell? ⟨gk, 0, none⟩ = some (.int .i64 4) ∧ w5.drew.cell? ⟨pb, 4, none⟩ = some (.slice A5 L5 c5) := ⟨(HK6.out.1 0 (by show 0 < 2; omega)).1, (h6.at_ 4).trans (by rw [show (m6.cs P1.t)[4]? = some m6.sv1 from rfl, hv5])⟩
          have HCH6 := Lib.hid ch6
          clear h6 hv5 hL5 hl6 ch6 hrow9 k05
          generalize hwd : w5.drew = w6 at *
          refine wp_region_noPanic ?_
          refine until_start (fun W => W.cell? ⟨gk, 0, none⟩ = some (.int .i64 4) ∧ W.cell? ⟨pb, 4, none⟩ = some (.slice A5 L5 c5)) 17 (by kernel_rfl) (by rw [hwd]; exact e6) (fun _ => ?_)
          rw [hwd]
          clear hwd
          refine until_take (i := 0) (v := .pointer (some ⟨pb, 0, none⟩)) (some 96) [17] rfl rfl (by kernel_rfl) (by kernel_rfl) (by kernel_rfl) (by kernel_rfl) rfl rfl (fun _ _ _ h => h) (Or.inl ⟨by rfl, fun W hW => by go_simp⟩) e6 ?_
          simp only [Act.put, List.setIfInBounds_toArray, List.set_cons_zero, List.set_cons_succ]
          refine until_take (i := 1) (v := .pointer (some ⟨gk, 0, none⟩)) (some 97) [17] rfl rfl (by kernel_rfl) (by kernel_rfl) (by kernel_rfl) (by kernel_rfl) rfl rfl (fun _ _ _ h => h) (Or.inl ⟨by rfl, fun W hW => by go_simp⟩) e6 ?_
          simp only [Act.put, List.setIfInBounds_toArray, List.set_cons_zero, List.set_cons_succ]
          refine until_take (i := 4) (v := .pointer (some ⟨pb, 0, none⟩)) (some 100) [17] rfl rfl (by kernel_rfl) (by kernel_rfl) (by kernel_rfl) (by kernel_rfl) rfl rfl (fun _ _ _ h => h) (Or.inl ⟨by rfl, fun W hW => by go_simp⟩) e6 ?_
          simp only [Act.put, List.setIfInBounds_toArray, List.set_cons_zero, List.set_cons_succ]
          refine until_take (i := 5) (v := .pointer (some ⟨gk, 0, none⟩)) (some 101) [17] rfl rfl (by kernel_rfl) (by kernel_rfl) (by kernel_rfl) (by kernel_rfl) rfl rfl (fun _ _ _ h => h) (Or.inl ⟨by rfl, fun W hW => by go_simp⟩) e6 ?_
          simp only [Act.put, List.setIfInBounds_toArray, List.set_cons_zero, List.set_cons_succ]
          refine until_take (i := 12) (v := .slice A4 n4 c4) (some 108) [17] rfl rfl (by kernel_rfl) (by kernel_rfl) (by kernel_rfl) (by kernel_rfl) rfl rfl (fun _ _ _ h => h) (Or.inl ⟨by rfl, fun W hW => by go_simp⟩) e6 ?_
          simp only [Act.put, List.setIfInBounds_toArray, List.set_cons_zero, List.set_cons_succ]
          refine until_take (i := 2) (v := .int .i64 4) (some 98) [17] rfl rfl (by kernel_rfl) (by kernel_rfl) (by kernel_rfl) (by kernel_rfl) rfl rfl (fun _ _ _ h => h) (Or.inl ⟨by rfl, fun W hW => by have hc := hW.1; go_simp⟩) e6 ?_
          simp only [Act.put, List.setIfInBounds_toArray, List.set_cons_zero, List.set_cons_succ]
          refine until_take (i := 6) (v := .int .i64 4) (some 102) [17] rfl rfl (by kernel_rfl) (by kernel_rfl) (by kernel_rfl) (by kernel_rfl) rfl rfl (fun _ _ _ h => h) (Or.inl ⟨by rfl, fun W hW => by have hc := hW.1; go_simp⟩) e6 ?_
          simp only [Act.put, List.setIfInBounds_toArray, List.set_cons_zero, List.set_cons_succ]
          refine until_take (i := 8) (v := .pointer (some ⟨pb, 0, none⟩)) (some 104) [17] rfl rfl (by kernel_rfl) (by kernel_rfl) (by kernel_rfl) (by kernel_rfl) rfl rfl (fun _ _ _ h => h) (Or.inl ⟨by rfl, fun W hW => by go_simp⟩) e6 ?_
          simp only [Act.put, List.setIfInBounds_toArray, List.set_cons_zero, List.set_cons_succ]
          refine until_take (i := 14) (v := .pointer (some ⟨pb, 0, none⟩)) (some 110) [15, 16, 17] rfl rfl (by kernel_rfl) (by kernel_rfl) (by kernel_rfl) (by kernel_rfl) rfl rfl (fun _ _ _ h => h) (Or.inl ⟨by rfl, fun W hW => by go_simp⟩) e6 ?_
          simp only [Act.put, List.setIfInBounds_toArray, List.set_cons_zero, List.set_cons_succ]
          refine until_take (i := 3) (v := .int .i64 1) (some 99) [17] rfl rfl (by kernel_rfl) (by kernel_rfl) (by kernel_rfl) (by kernel_rfl) rfl rfl (fun _ _ _ h => h) (Or.inl ⟨by rfl, fun W hW => by kernel_rfl⟩) e6 ?_
          simp only [Act.put, List.setIfInBounds_toArray, List.set_cons_zero, List.set_cons_succ]
          refine until_take (i := 7) (v := .int .i64 1) (some 103) [17] rfl rfl (by kernel_rfl) (by kernel_rfl) (by kernel_rfl) (by kernel_rfl) rfl rfl (fun _ _ _ h => h) (Or.inl ⟨by rfl, fun W hW => by kernel_rfl⟩) e6 ?_
          simp only [Act.put, List.setIfInBounds_toArray, List.set_cons_zero, List.set_cons_succ]
          refine until_take (i := 9) (v := .pointer (some ⟨pb, 3, none⟩)) (some 105) [17] rfl rfl (by kernel_rfl) (by kernel_rfl) (by kernel_rfl) (by kernel_rfl) rfl rfl (fun _ _ _ h => h) (Or.inl ⟨by rfl, fun W hW => by go_simp⟩) e6 ?_
          simp only [Act.put, List.setIfInBounds_toArray, List.set_cons_zero, List.set_cons_succ]
          refine until_take (i := 15) (v := .pointer (some ⟨pb, 3, none⟩)) (some 111) [16, 17] rfl rfl (by kernel_rfl) (by kernel_rfl) (by kernel_rfl) (by kernel_rfl) rfl rfl (fun _ _ _ h => h) (Or.inl ⟨by rfl, fun W hW => by go_simp⟩) e6 ?_
          simp only [Act.put, List.setIfInBounds_toArray, List.set_cons_zero, List.set_cons_succ]
          refine until_take (i := 10) (v := .pointer (some ⟨pb, 4, none⟩)) (some 106) [17] rfl rfl (by kernel_rfl) (by kernel_rfl) (by kernel_rfl) (by kernel_rfl) rfl rfl (fun _ _ _ h => h) (Or.inl ⟨by rfl, fun W hW => by go_simp⟩) e6 ?_
          simp only [Act.put, List.setIfInBounds_toArray, List.set_cons_zero, List.set_cons_succ]
          refine until_take (i := 11) (v := .slice A5 L5 c5) (some 107) [17] rfl rfl (by kernel_rfl) (by kernel_rfl) (by kernel_rfl) (by kernel_rfl) rfl rfl (fun _ _ _ h => h) (Or.inl ⟨by rfl, fun W hW => by have hc := hW.2; go_simp⟩) e6 ?_
          simp only [Act.put, List.setIfInBounds_toArray, List.set_cons_zero, List.set_cons_succ]
          refine until_step (i := 13) (by kernel_rfl) rfl rfl (fun K hK => ?_)
          refine step_app _ rfl (.tmp 107) (.tmp 108) 30 5 rfl Try.underlying30 infoU8 base (.slice A5 L5 c5) L5 P1.s1 rfl hrow6 A4 n4 c4 ds rfl hrb6 (by omega) (by have := H6.out.1.lo; have := H6.out.1.lt; omega) ?_
          intro v9 w9 r9 g9 o9
          have HAP := Lib.hid (H6.out.1.put4 ds (n := L5 + n4) (v' := v9) (w' := w9) (by rw [List.length_append, HDS.out.2, H6.out.2.2]) r9 (by rw [H6.out.2.1]; exact g9) (by rw [H6.out.2.1]; exact o9))
          have g0 := HK6.out.1.lt (by show 0 < 2; omega)
          have n0 : some gk ≠ (Value.slice A5 L5 c5).ownBlock := fun e => by have h3 := H6.out.1.s1.lab gk (by rw [H6.out.2.1]; exact e.symm); have := HK6.out.2; omega
          have n1 : some pb ≠ (Value.slice A5 L5 c5).ownBlock := fun e => by have h3 := H6.out.1.s1.lab pb (by rw [H6.out.2.1]; exact e.symm); have := H6.out.1.lp; omega
          have e9 : w9.cell? ⟨gk, 0, none⟩ = some (.int .i64 4) ∧ w9.cell? ⟨pb, 4, none⟩ = some (.slice A5 L5 c5) := ⟨(g9.cell_far _ g0 n0).trans e6.1, (g9.cell_far _ (by have := H6.out.1.lt; exact this) n1).trans e6.2⟩
          have f9 : w9.frozen? ⟨pb, 4, none⟩ = false := (g9.frozen_far _ (by have := H6.out.1.lt; exact this) n1).trans (H6.out.1.fz 4)
          obtain ⟨A9, k9, rfl, hk9, hm9⟩ := own_slice r9
          generalize L5 + n4 = L9 at *
          have c9 := e9.2
          clear r9 g9 o9 g0 n0 n1
          show K (Act.put _ (some 109) _) _
          refine hK.out _ _ e9 (fun _ => ?_)
          clear hK
          try simp only [Act.put, List.setIfInBounds_toArray, List.set_cons_zero, List.set_cons_succ]
          refine until_take (i := 16) (v := .pointer (some ⟨pb, 4, none⟩)) (some 112) [17] rfl rfl (by kernel_rfl) (by kernel_rfl) (by kernel_rfl) (by kernel_rfl) rfl rfl (fun _ _ _ h => h) (Or.inl ⟨by rfl, fun W hW => by go_simp⟩) e9 ?_
          simp only [Act.put, List.setIfInBounds_toArray, List.set_cons_zero, List.set_cons_succ]
          refine until_last (by kernel_rfl) rfl (fun K hK => ?_)
          go_simp
          refine hK.out _ _ ?_
          clear hK
          try simp only [Act.put, List.setIfInBounds_toArray, List.set_cons_zero, List.set_cons_succ]
          refine wpAnyH_done (by kernel_rfl) ?_ _
          refine NoPanic.normal ?_
          have hap := HAP.out
          have HE9 := Lib.hid hap
          clear hap e9 c9 f9
          generalize w9.setCell ⟨pb, 4, none⟩ (.slice A9 L9 k9) = w10 at *
          obtain ⟨⟨lab10, h10⟩, hb10⟩ := HE9.out
          have HB10 : Hid (Below base w w10) := Lib.hid ((HB5.out.trans ((HCH6.out.belowB (by have := HP5.out.lo; have := HP5.out.lt; omega) (fun g e => e.2)))).trans hb10)
          clear hb10
          go_wp2_with fail
          refine (HFE.out _ _ _ _ h10).mono ?_
          rintro e w99 ⟨rfl, hp99, hb99⟩
          go_wp2_with fail
          go_end0
          have hact : q.act 4 I = { P1 with s1 := P1.s1 ++ ds } := by rw [HACT.out, HDS.out.1.symm, if_pos HEE.out, HP1.out, HX.out, HTT.out]
          exact ⟨rfl, by rw [hact]; exact hp99, HB10.out.trans hb99⟩
      · as_aux_lemma =>
          rw [hE] at HSN0
          have HSN := Lib.hid HSN0.out
          have HEE := Lib.hid hE
          clear hE HSN0
          refine wp_region_noPanic ?_
          refine until_start (fun W => W.cell? ⟨gk, 0, none⟩ = some (.int .i64 4) ∧ W.cell? ⟨pb, 1, none⟩ = some (.pointer (some ⟨FB, 0, none⟩)) ∧ W.cell? ⟨pb, 7, none⟩ = some (.int .i64 (tt : Int))) 13 (by kernel_rfl) (by rw [hwd]; exact e0) (fun _ => ?_)
          rw [hwd]
          clear hwd
          refine until_take (i := 0) (v := .pointer (some ⟨pb, 0, none⟩)) (some 81) [4, 5, 6, 7, 13] rfl rfl (by kernel_rfl) (by kernel_rfl) (by kernel_rfl) (by kernel_rfl) rfl rfl (fun _ _ _ h => h) (Or.inl ⟨by rfl, fun W hW => by go_simp⟩) e0 ?_
          simp only [Act.put, List.setIfInBounds_toArray, List.set_cons_zero, List.set_cons_succ]
          refine until_take (i := 1) (v := .pointer (some ⟨gk, 0, none⟩)) (some 82) [2, 3, 6, 7, 13] rfl rfl (by kernel_rfl) (by kernel_rfl) (by kernel_rfl) (by kernel_rfl) rfl rfl (fun _ _ _ h => h) (Or.inl ⟨by rfl, fun W hW => by go_simp⟩) e0 ?_
          simp only [Act.put, List.setIfInBounds_toArray, List.set_cons_zero, List.set_cons_succ]
          refine until_take (i := 8) (v := .slice A4 n4 c4) (some 89) [13] rfl rfl (by kernel_rfl) (by kernel_rfl) (by kernel_rfl) (by kernel_rfl) rfl rfl (fun _ _ _ h => h) (Or.inl ⟨by rfl, fun W hW => by go_simp⟩) e0 ?_
          simp only [Act.put, List.setIfInBounds_toArray, List.set_cons_zero, List.set_cons_succ]
          refine until_take (i := 9) (v := .pointer (some ⟨pb, 0, none⟩)) (some 90) [10, 11, 12, 13] rfl rfl (by kernel_rfl) (by kernel_rfl) (by kernel_rfl) (by kernel_rfl) rfl rfl (fun _ _ _ h => h) (Or.inl ⟨by rfl, fun W hW => by go_simp⟩) e0 ?_
          simp only [Act.put, List.setIfInBounds_toArray, List.set_cons_zero, List.set_cons_succ]
          refine until_take (i := 2) (v := .int .i64 4) (some 83) [3, 6, 7, 13] rfl rfl (by kernel_rfl) (by kernel_rfl) (by kernel_rfl) (by kernel_rfl) rfl rfl (fun _ _ _ h => h) (Or.inl ⟨by rfl, fun W hW => by have hc := hW.1; go_simp⟩) e0 ?_
          simp only [Act.put, List.setIfInBounds_toArray, List.set_cons_zero, List.set_cons_succ]
          refine until_take (i := 4) (v := .pointer (some ⟨pb, 0, none⟩)) (some 85) [5, 6, 7, 13] rfl rfl (by kernel_rfl) (by kernel_rfl) (by kernel_rfl) (by kernel_rfl) rfl rfl (fun _ _ _ h => h) (Or.inl ⟨by rfl, fun W hW => by go_simp⟩) e0 ?_
          simp only [Act.put, List.setIfInBounds_toArray, List.set_cons_zero, List.set_cons_succ]
          refine until_take (i := 10) (v := .pointer (some ⟨pb, 0, none⟩)) (some 91) [11, 12, 13] rfl rfl (by kernel_rfl) (by kernel_rfl) (by kernel_rfl) (by kernel_rfl) rfl rfl (fun _ _ _ h => h) (Or.inl ⟨by rfl, fun W hW => by go_simp⟩) e0 ?_
          simp only [Act.put, List.setIfInBounds_toArray, List.set_cons_zero, List.set_cons_succ]
          refine until_take (i := 3) (v := .int .i64 1) (some 84) [6, 7, 13] rfl rfl (by kernel_rfl) (by kernel_rfl) (by kernel_rfl) (by kernel_rfl) rfl rfl (fun _ _ _ h => h) (Or.inl ⟨by rfl, fun W hW => by kernel_rfl⟩) e0 ?_
          simp only [Act.put, List.setIfInBounds_toArray, List.set_cons_zero, List.set_cons_succ]
          refine until_take (i := 5) (v := .pointer (some ⟨pb, 0, none⟩)) (some 86) [6, 7, 13] rfl rfl (by kernel_rfl) (by kernel_rfl) (by kernel_rfl) (by kernel_rfl) rfl rfl (fun _ _ _ h => h) (Or.inl ⟨by rfl, fun W hW => by go_simp⟩) e0 ?_
          simp only [Act.put, List.setIfInBounds_toArray, List.set_cons_zero, List.set_cons_succ]
          refine until_take (i := 11) (v := .pointer (some ⟨pb, 7, none⟩)) (some 92) [12, 13] rfl rfl (by kernel_rfl) (by kernel_rfl) (by kernel_rfl) (by kernel_rfl) rfl rfl (fun _ _ _ h => h) (Or.inl ⟨by rfl, fun W hW => by go_simp⟩) e0 ?_
          simp only [Act.put, List.setIfInBounds_toArray, List.set_cons_zero, List.set_cons_succ]
          refine until_take (i := 6) (v := .pointer (some ⟨pb, 1, none⟩)) (some 87) [7, 13] rfl rfl (by kernel_rfl) (by kernel_rfl) (by kernel_rfl) (by kernel_rfl) rfl rfl (fun _ _ _ h => h) (Or.inl ⟨by rfl, fun W hW => by go_simp⟩) e0 ?_
          simp only [Act.put, List.setIfInBounds_toArray, List.set_cons_zero, List.set_cons_succ]
          refine until_take (i := 12) (v := .int .i64 (tt : Int)) (some 93) [13] rfl rfl (by kernel_rfl) (by kernel_rfl) (by kernel_rfl) (by kernel_rfl) rfl rfl (fun _ _ _ h => h) (Or.inl ⟨by rfl, fun W hW => by have hc := hW.2.2; go_simp⟩) e0 ?_
          simp only [Act.put, List.setIfInBounds_toArray, List.set_cons_zero, List.set_cons_succ]
          refine until_take (i := 7) (v := .pointer (some ⟨FB, 0, none⟩)) (some 88) [13] rfl rfl (by kernel_rfl) (by kernel_rfl) (by kernel_rfl) (by kernel_rfl) rfl rfl (fun _ _ _ h => h) (Or.inl ⟨by rfl, fun W hW => by have hc := hW.2.1; go_simp⟩) e0 ?_
          simp only [Act.put, List.setIfInBounds_toArray, List.set_cons_zero, List.set_cons_succ]
          refine until_last (by kernel_rfl) rfl (fun K hK => ?_)
          go_simp
          refine HSN.out.mono ?_
          rintro e w5 ⟨rfl, l5⟩
          have HC5 := Lib.hid ((show (∃ m' lab', PR GB base w5 pb P1 m' lab' ∧ ∀ g, g < wd.heap.size → lab' g = lab4 g) ∧ Ch wd w5 (fun g => lab4 g = 2 ∧ base ≤ g) by rw [HP1.out]; exact HP5.out.call1 HF.out HSS.out l5))
          have k05 : w5.cell? ⟨gk, 0, none⟩ = some (.int .i64 4) := HC5.out.2.cell e0.1 (fun e => by have h9 : lab4 gk = 2 := e.1; have h8 := HLB.out; omega)
          clear l5
          dsimp only
          refine hK.out _ _ ?_
          clear hK
          try simp only [Act.put, List.setIfInBounds_toArray, List.set_cons_zero, List.set_cons_succ]
          refine held_take (i := 14) (v := .bool false) (some 95) rfl rfl (by kernel_rfl) (by kernel_rfl) (by kernel_rfl) (fun _ _ _ h => h) (Or.inl ⟨by rfl, fun W hW => by go_simp⟩) trivial ?_
          simp only [Act.put, List.setIfInBounds_toArray, List.set_cons_zero, List.set_cons_succ]
          refine wpAnyH_done (by kernel_rfl) ?_ _
          refine NoPanic.normal ?_
          obtain ⟨⟨m6, lab6, h6, hl6⟩, ch6⟩ := HC5.out
          have HB10 : Hid (Below base w w5) := Lib.hid (HB5.out.trans (ch6.belowB (by have := HP5.out.lo; have := HP5.out.lt; omega) (fun g e => e.2)))
          have H6 := Lib.hid h6
          clear h6 hl6 ch6
          go_wp2_with fail
          refine (HFE.out _ _ _ _ H6.out).mono ?_
          rintro e w99 ⟨rfl, hp99, hb99⟩
          go_wp2_with fail
          go_end0
          have hact : q.act 4 I = P1 := by rw [HACT.out, HDS.out.1.symm, if_neg (by rw [HEE.out]; decide), List.append_nil, HP1.out, HX.out, HTT.out]
          exact ⟨rfl, by rw [hact]; exact hp99, HB10.out.trans hb99⟩
      · as_aux_lemma =>
          rw [hE] at HSN0
          have HSN := Lib.hid HSN0.out
          have HEE := Lib.hid hE
          clear hE HSN0
          refine wp_region_noPanic ?_
          refine until_start (fun W => W.cell? ⟨gk, 0, none⟩ = some (.int .i64 4) ∧ W.cell? ⟨pb, 1, none⟩ = some (.pointer (some ⟨FB, 0, none⟩)) ∧ W.cell? ⟨pb, 7, none⟩ = some (.int .i64 (tt : Int))) 13 (by kernel_rfl) (by rw [hwd]; exact e0) (fun _ => ?_)
          rw [hwd]
          clear hwd
          refine until_take (i := 0) (v := .pointer (some ⟨pb, 0, none⟩)) (some 81) [4, 5, 6, 7, 13] rfl rfl (by kernel_rfl) (by kernel_rfl) (by kernel_rfl) (by kernel_rfl) rfl rfl (fun _ _ _ h => h) (Or.inl ⟨by rfl, fun W hW => by go_simp⟩) e0 ?_
          simp only [Act.put, List.setIfInBounds_toArray, List.set_cons_zero, List.set_cons_succ]
          refine until_take (i := 1) (v := .pointer (some ⟨gk, 0, none⟩)) (some 82) [2, 3, 6, 7, 13] rfl rfl (by kernel_rfl) (by kernel_rfl) (by kernel_rfl) (by kernel_rfl) rfl rfl (fun _ _ _ h => h) (Or.inl ⟨by rfl, fun W hW => by go_simp⟩) e0 ?_
          simp only [Act.put, List.setIfInBounds_toArray, List.set_cons_zero, List.set_cons_succ]
          refine until_take (i := 8) (v := .slice A4 n4 c4) (some 89) [13] rfl rfl (by kernel_rfl) (by kernel_rfl) (by kernel_rfl) (by kernel_rfl) rfl rfl (fun _ _ _ h => h) (Or.inl ⟨by rfl, fun W hW => by go_simp⟩) e0 ?_
          simp only [Act.put, List.setIfInBounds_toArray, List.set_cons_zero, List.set_cons_succ]
          refine until_take (i := 9) (v := .pointer (some ⟨pb, 0, none⟩)) (some 90) [10, 11, 12, 13] rfl rfl (by kernel_rfl) (by kernel_rfl) (by kernel_rfl) (by kernel_rfl) rfl rfl (fun _ _ _ h => h) (Or.inl ⟨by rfl, fun W hW => by go_simp⟩) e0 ?_
          simp only [Act.put, List.setIfInBounds_toArray, List.set_cons_zero, List.set_cons_succ]
          refine until_take (i := 2) (v := .int .i64 4) (some 83) [3, 6, 7, 13] rfl rfl (by kernel_rfl) (by kernel_rfl) (by kernel_rfl) (by kernel_rfl) rfl rfl (fun _ _ _ h => h) (Or.inl ⟨by rfl, fun W hW => by have hc := hW.1; go_simp⟩) e0 ?_
          simp only [Act.put, List.setIfInBounds_toArray, List.set_cons_zero, List.set_cons_succ]
          refine until_take (i := 4) (v := .pointer (some ⟨pb, 0, none⟩)) (some 85) [5, 6, 7, 13] rfl rfl (by kernel_rfl) (by kernel_rfl) (by kernel_rfl) (by kernel_rfl) rfl rfl (fun _ _ _ h => h) (Or.inl ⟨by rfl, fun W hW => by go_simp⟩) e0 ?_
          simp only [Act.put, List.setIfInBounds_toArray, List.set_cons_zero, List.set_cons_succ]
          refine until_take (i := 10) (v := .pointer (some ⟨pb, 0, none⟩)) (some 91) [11, 12, 13] rfl rfl (by kernel_rfl) (by kernel_rfl) (by kernel_rfl) (by kernel_rfl) rfl rfl (fun _ _ _ h => h) (Or.inl ⟨by rfl, fun W hW => by go_simp⟩) e0 ?_
          simp only [Act.put, List.setIfInBounds_toArray, List.set_cons_zero, List.set_cons_succ]
          refine until_take (i := 3) (v := .int .i64 1) (some 84) [6, 7, 13] rfl rfl (by kernel_rfl) (by kernel_rfl) (by kernel_rfl) (by kernel_rfl) rfl rfl (fun _ _ _ h => h) (Or.inl ⟨by rfl, fun W hW => by kernel_rfl⟩) e0 ?_
          simp only [Act.put, List.setIfInBounds_toArray, List.set_cons_zero, List.set_cons_succ]
          refine until_take (i := 5) (v := .pointer (some ⟨pb, 0, none⟩)) (some 86) [6, 7, 13] rfl rfl (by kernel_rfl) (by kernel_rfl) (by kernel_rfl) (by kernel_rfl) rfl rfl (fun _ _ _ h => h) (Or.inl ⟨by rfl, fun W hW => by go_simp⟩) e0 ?_
          simp only [Act.put, List.setIfInBounds_toArray, List.set_cons_zero, List.set_cons_succ]
          refine until_take (i := 11) (v := .pointer (some ⟨pb, 7, none⟩)) (some 92) [12, 13] rfl rfl (by kernel_rfl) (by kernel_rfl) (by kernel_rfl) (by kernel_rfl) rfl rfl (fun _ _ _ h => h) (Or.inl ⟨by rfl, fun W hW => by go_simp⟩) e0 ?_
          simp only [Act.put, List.setIfInBounds_toArray, List.set_cons_zero, List.set_cons_succ]
          refine until_take (i := 6) (v := .pointer (some ⟨pb, 1, none⟩)) (some 87) [7, 13] rfl rfl (by kernel_rfl) (by kernel_rfl) (by kernel_rfl) (by kernel_rfl) rfl rfl (fun _ _ _ h => h) (Or.inl ⟨by rfl, fun W hW => by go_simp⟩) e0 ?_
          simp only [Act.put, List.setIfInBounds_toArray, List.set_cons_zero, List.set_cons_succ]
          refine until_take (i := 12) (v := .int .i64 (tt : Int)) (some 93) [13] rfl rfl (by kernel_rfl) (by kernel_rfl) (by kernel_rfl) (by kernel_rfl) rfl rfl (fun _ _ _ h => h) (Or.inl ⟨by rfl, fun W hW => by have hc := hW.2.2; go_simp⟩) e0 ?_
          simp only [Act.put, List.setIfInBounds_toArray, List.set_cons_zero, List.set_cons_succ]
          refine until_take (i := 7) (v := .pointer (some ⟨FB, 0, none⟩)) (some 88) [13] rfl rfl (by kernel_rfl) (by kernel_rfl) (by kernel_rfl) (by kernel_rfl) rfl rfl (fun _ _ _ h => h) (Or.inl ⟨by rfl, fun W hW => by have hc := hW.2.1; go_simp⟩) e0 ?_
          simp only [Act.put, List.setIfInBounds_toArray, List.set_cons_zero, List.set_cons_succ]
          refine until_last (by kernel_rfl) rfl (fun K hK => ?_)
          go_simp
          refine HSN.out.mono ?_
          rintro e w5 ⟨rfl, l5⟩
          have HC5 := Lib.hid ((show (∃ m' lab', PR GB base w5 pb P1 m' lab' ∧ ∀ g, g < wd.heap.size → lab' g = lab4 g) ∧ Ch wd w5 (fun g => lab4 g = 2 ∧ base ≤ g) by rw [HP1.out]; exact HP5.out.call1 HF.out HSS.out l5))
          have k05 : w5.cell? ⟨gk, 0, none⟩ = some (.int .i64 4) := HC5.out.2.cell e0.1 (fun e => by have h9 : lab4 gk = 2 := e.1; have h8 := HLB.out; omega)
          clear l5
          dsimp only
          refine hK.out _ _ ?_
          clear hK
          try simp only [Act.put, List.setIfInBounds_toArray, List.set_cons_zero, List.set_cons_succ]
          refine held_take (i := 14) (v := .bool false) (some 95) rfl rfl (by kernel_rfl) (by kernel_rfl) (by kernel_rfl) (fun _ _ _ h => h) (Or.inl ⟨by rfl, fun W hW => by go_simp⟩) trivial ?_
          simp only [Act.put, List.setIfInBounds_toArray, List.set_cons_zero, List.set_cons_succ]
          refine wpAnyH_done (by kernel_rfl) ?_ _
          refine NoPanic.normal ?_
          obtain ⟨⟨m6, lab6, h6, hl6⟩, ch6⟩ := HC5.out
          have HB10 : Hid (Below base w w5) := Lib.hid (HB5.out.trans (ch6.belowB (by have := HP5.out.lo; have := HP5.out.lt; omega) (fun g e => e.2)))
          have H6 := Lib.hid h6
          clear h6 hl6 ch6
          go_wp2_with fail
          refine (HFE.out _ _ _ _ H6.out).mono ?_
          rintro e w99 ⟨rfl, hp99, hb99⟩
          go_wp2_with fail
          go_end0
          have hact : q.act 4 I = P1 := by rw [HACT.out, HDS.out.1.symm, if_neg (by rw [HEE.out]; decide), List.append_nil, HP1.out, HX.out, HTT.out]
          exact ⟨rfl, by rw [hact]; exact hp99, HB10.out.trans hb99⟩
end
end Go.Proofs.Ytnpkmkjenlhkiaa
