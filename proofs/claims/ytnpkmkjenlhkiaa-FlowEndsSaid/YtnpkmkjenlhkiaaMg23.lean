/- The law's step: a packet is lost. Conditions: the pair stands, its numbers within their bounds. -/
import Derived.Test.YtnpkmkjenlhkiaaMg22
namespace Go.Proofs.Ytnpkmkjenlhkiaa
set_option linter.unusedVariables false
set_option linter.unusedSimpArgs false
set_option maxRecDepth 20000
open Go.RowKit Go.Lib

def StepP (GB : Option Nat) (base : Nat) (w : World) (pb : Nat) (r : P) (e : Ending) (w' : World) : Prop := e = .returned (.tuple #[]) ∧ (∃ m' lab', PR GB base w' pb r m' lab') ∧ Below base w w'
theorem below_drewN {B : Nat} {a w : World} (h : Below B a w) (n : Nat) : Below B a (w.drewN n) := ⟨h.os, h.tape, h.output, h.size, h.block⟩
section
variable {GB : Option Nat} {base : Nat} {w w' w1 : World} {pb : Nat} {p : P} {m : Ms} {lab : Nat → Nat}
set_option maxHeartbeats 12800000 in
theorem stepK1 (h : PR GB base w pb p m lab) (q : P) (hq : q = p.flush) (hB : Bd q) (hw : q.way ≠ []) (I : Int) (hI : isInt I) :
    Calls Try.prog 10 #[ptr pb, .agg #[.int .i64 1, .int .i64 I]] w (StepP GB base w pb (q.act 1 I).flush) := by
  have HACT : Hid (∀ x, q.way[q.at_ I]? = some x → q.act 1 I = { q with way := q.way.eraseIdx (q.at_ I) }) := Lib.hid (fun x hx => by unfold P.act; rw [if_pos ⟨by decide, hw⟩, hx]; rfl)
  have HWLEN : Hid (q.way.length ≤ 1000) := Lib.hid hB.wl
  have hbs : base ≤ w.heap.size := by have := h.lo; have := h.lt; omega
  have HBD := Lib.hid hB
  have HFL : Hid (∀ W m lab, PR GB base W pb p m lab → Calls Try.prog 28 #[.pointer (some ⟨pb, 0, none⟩)] W fun e w' => e = .returned (.tuple #[]) ∧ (∃ m' lab', PR GB base w' pb q m' lab' ∧ Gh W w' lab lab') ∧ Below base W w') := Lib.hid (fun W m lab h => by rw [hq]; exact flush_g h)
  have HFE : Hid (∀ W q m lab, PR GB base W pb q m lab → Calls Try.prog 28 #[.pointer (some ⟨pb, 0, none⟩)] W fun e w' => e = .returned (.tuple #[]) ∧ (∃ m' lab', PR GB base w' pb q.flush m' lab') ∧ Below base W w') := Lib.hid (fun W q m lab h => flush_any h)
  have H := Lib.hid h
  have hplt := h.lt
  have hI2 : -9223372036854775808 ≤ I ∧ I ≤ 9223372036854775807 := hI
  clear h hq hB hI
  unfold ptr StepP
  go_enter Try.func10, Try.ntmps10
  go_wp2_with (first
    | ((with_reducible refine wpList_here ?_); refine wpList_boxV (o := ⟨some 3, _, _, _, _, _⟩) rfl 35 (.tmp 1) rfl [.int .i64 1, .int .i64 I] rfl _ rfl ?_; intro w1 z1 b1 s1; have HB1 := Lib.hid b1; have HZ1 := Lib.hid z1; clear z1 b1)
    | fail)
  obtain ⟨gk, hgk⟩ : ∃ g, g = w.heap.size := ⟨_, rfl⟩
  have HP1 := Lib.hid ((H.out.relabel (lab' := fun j => if j < w.heap.size then lab j else 0) (fun j hj => if_pos hj)).below HB1.out)
  rw [← hgk] at HZ1
  rw [← hgk]
  refine (HFL.out _ _ _ HP1.out).mono ?_
  rintro e w2 ⟨rfl, ⟨m2, lab2, h2, g2⟩, b2⟩
  have HK : Hid (Own w2 gk [.int .i64 1, .int .i64 I]) := Lib.hid (HZ1.out.ch (by show 0 < 2; omega) g2.1 (fun e => e (if_neg (by omega))))
  have HLK : Hid (lab2 gk = 0) := Lib.hid (g2.2 gk (HZ1.out.lt (by show 0 < 2; omega)) (if_neg (by omega)))
  have HBW : Hid (Below base w w2) := Lib.hid ((HB1.out.mono hbs).trans b2)
  have H2 := Lib.hid h2
  obtain ⟨A2, c2, hwv, hwl⟩ := Ms.way_slice h2
  obtain ⟨A9, c9, e9, hc1, hc2⟩ := own_slice h2.way
  obtain ⟨L, hL⟩ : ∃ L, m2.ws.length = L := ⟨_, rfl⟩
  rw [hL] at hwv hwl hc1
  have hLm : L ≤ 9223372036854775807 := by omega
  have kw : w2.cell? ⟨pb, 2, none⟩ = some (.slice A2 L c2) := (h2.at_ 2).trans (by rw [show (m2.cs q.t)[2]? = some m2.wv from rfl, hwv])
  have k0 : w2.cell? ⟨gk, 0, none⟩ = some (.int .i64 1) := (HK.out 0 (by show 0 < 2; omega)).1
  have k1 : w2.cell? ⟨gk, 1, none⟩ = some (.int .i64 I) := (HK.out 1 (by show 1 < 2; omega)).1
  have HWV := Lib.hid hwv
  have HWL := Lib.hid (And.intro hL hwl)
  have hwr : IntKind.i64.wrap ((L : Int) - 1) = (L : Int) - 1 := by rw [IntKind.wrap_i64]; omega
  obtain ⟨j, hjq⟩ : ∃ j, j = q.at_ I := ⟨_, rfl⟩
  have hL0 : 0 < L := by
    rw [hwl]
    exact List.length_pos_iff.2 hw
  have hjL : j < L := by rw [hjq]; unfold P.at_; omega
  have hmin : min (max I 0) ((L : Int) - 1) = (j : Int) := by rw [hjq]; unfold P.at_; omega
  have hli : (j : Int) < (L : Int) := by omega
  have HJQ := Lib.hid hjq
  clear hw hjq
  clear h2 hwv hwl hL g2 b2 HZ1 HB1 s1 hgk HP1 A9 c9 e9 hc1 hc2 H
  go_wp2_with fail
  go_quiet (fail)
  have HBW := Lib.hid (below_drewN HBW.out nq)
  have H2 := Lib.hid (H2.out.below (below_drewN (Below.refl _ _) nq))
  have HK := Lib.hid (HK.out.below (below_drewN (Below.refl _ _) nq))
  have kw : (w2.drewN nq).cell? ⟨pb, 2, none⟩ = some (.slice A2 L c2) := kw
  have k0 : (w2.drewN nq).cell? ⟨gk, 0, none⟩ = some (.int .i64 1) := k0
  have k1 : (w2.drewN nq).cell? ⟨gk, 1, none⟩ = some (.int .i64 I) := k1
  generalize w2.drewN nq = w3 at *
  have hL60 : L ≤ 1000 := by rw [HWL.out.2]; exact HWLEN.out
  have hrow := H2.out.way
  rw [HWV.out, HWL.out.1] at hrow
  obtain ⟨g, cap, hv0, hgb, hgl⟩ := hrow.form (by omega)
  injection hv0 with hA hn1 hcc
  subst hA hcc
  have hr := own_rangeK (j := j) hrow hjL
  obtain ⟨kk, hkk⟩ : ∃ kk, kk = m2.ws.getD j zPm := ⟨_, rfl⟩
  rw [← hkk] at hr
  have hmem : kk ∈ m2.ws := by
    rw [hkk, List.getD_eq_getElem?_getD, List.getElem?_eq_getElem (by rw [HWL.out.1]; exact hjL)]
    exact List.getElem_mem _
  have hkey : q.way[j]? = some kk.key := by
    rw [← H2.out.key, List.getElem?_map, hkk, List.getD_eq_getElem?_getD, List.getElem?_eq_getElem (show j < m2.ws.length by rw [HWL.out.1]; exact hjL)]
    rfl
  have HKK := Lib.hid (And.intro hmem hkey)
  obtain ⟨A3, c3, hs1, hs2, hs3, hs4⟩ := way_cut hrow hjL
  obtain ⟨n3, hn3⟩ : ∃ n3, L - (j + 1) = n3 := ⟨_, rfl⟩
  obtain ⟨j1, hj1⟩ : ∃ j1, j1 = j + 1 := ⟨_, rfl⟩
  rw [hn3, ← hj1] at hs2
  rw [hn3] at hs4
  have hwj : IntKind.i64.wrap ((j : Int) + 1) = (j1 : Int) := by rw [IntKind.wrap_i64, hj1]; omega
  have HSL2 := Lib.hid hs2
  have HN3 := Lib.hid hn3
  clear hj1 hn3
  have HSL := Lib.hid (And.intro hs1 (And.intro hs2 (And.intro hs3 hs4)))
  have hplt2 := H2.out.lt
  clear hmem hkey hkk hrow hs1 hs2 hs3 hs4
  go_wp2_with (first
    | ((with_reducible refine wpList_here ?_); refine wpList_loadV (o := ⟨some 40, _, _, _, _, _⟩) rfl 69 (.tmp 39) rfl _ _ kk.vals rfl hr _ Try.underlying69 rfl sizePk ?_)
    | ((with_reducible refine wpList_here ?_); refine wpList_allocV (o := ⟨some 5, _, _, _, _, _⟩) rfl 69 rfl zPm.vals zeroPk _ rfl ?_; intro w4 z4 b4 s4; have k04 := cellB b4 k0)
    | ((with_reducible refine wpList_here ?_); refine wpList_storeV rfl 69 (.tmp 5) (.tmp 40) rfl _ _ kk.vals rfl rfl z4 rfl (pm_one _) sizePk ?_; intro w5 z5 g5 s5; have HB5 := Lib.hid (v_below_g b4 g5 b4.size (Nat.le_refl _)); have k05 := cellB HB5.out k0; have HZ5 := Lib.hid z5; clear z4 b4 g5 k04)
    | fail)
  obtain ⟨gp, hgp⟩ : ∃ gp, gp = w3.heap.size := ⟨_, rfl⟩
  rw [← hgp] at HZ5
  rw [← hgp]
  have HGP : Hid (gp ≠ pb) := Lib.hid (by omega)
  clear hgp s4 s5
  have HBW5 := Lib.hid HB5.out.drew
  have H5 := Lib.hid (H2.out.below HBW5.out)
  have HZ5 : Hid (Own w5.drew gp kk.vals) := Lib.hid HZ5.out
  have e0 : w5.drew.cell? ⟨pb, 2, none⟩ = some (.slice (some ⟨g, 0, none⟩) L c2) := cellB HBW5.out kw
  have k05 : w5.drew.cell? ⟨gk, 0, none⟩ = some (.int .i64 1) := k05
  clear kw k0 k1
  generalize hwd : w5.drew = wd at *
  refine wp_region_noPanic ?_
  refine until_start (fun W => W.cell? ⟨pb, 2, none⟩ = some (.slice (some ⟨g, 0, none⟩) L c2)) 19 (by kernel_rfl) (by rw [hwd]; exact e0) (fun _ => ?_)
  rw [hwd]
  clear hwd
  refine until_take (i := 0) (v := .pointer (some ⟨pb, 0, none⟩)) (some 44) [19] rfl rfl (by kernel_rfl) (by kernel_rfl) (by kernel_rfl) (by kernel_rfl) rfl rfl (fun _ _ _ h => h) (Or.inl ⟨by rfl, fun W hW => by go_simp⟩) e0 ?_
  simp only [Act.put, List.setIfInBounds_toArray, List.set_cons_zero, List.set_cons_succ]
  refine until_take (i := 2) (v := .pointer (some ⟨pb, 0, none⟩)) (some 46) [19] rfl rfl (by kernel_rfl) (by kernel_rfl) (by kernel_rfl) (by kernel_rfl) rfl rfl (fun _ _ _ h => h) (Or.inl ⟨by rfl, fun W hW => by go_simp⟩) e0 ?_
  simp only [Act.put, List.setIfInBounds_toArray, List.set_cons_zero, List.set_cons_succ]
  refine until_take (i := 6) (v := .int .i64 (j : Int)) (some 50) [19] rfl rfl (by kernel_rfl) (by kernel_rfl) (by kernel_rfl) (by kernel_rfl) rfl rfl (fun _ _ _ h => h) (Or.inl ⟨by rfl, fun W hW => by go_simp⟩) e0 ?_
  simp only [Act.put, List.setIfInBounds_toArray, List.set_cons_zero, List.set_cons_succ]
  refine until_take (i := 9) (v := .pointer (some ⟨pb, 0, none⟩)) (some 53) [19] rfl rfl (by kernel_rfl) (by kernel_rfl) (by kernel_rfl) (by kernel_rfl) rfl rfl (fun _ _ _ h => h) (Or.inl ⟨by rfl, fun W hW => by go_simp⟩) e0 ?_
  simp only [Act.put, List.setIfInBounds_toArray, List.set_cons_zero, List.set_cons_succ]
  refine until_take (i := 13) (v := .int .i64 (j : Int)) (some 57) [19] rfl rfl (by kernel_rfl) (by kernel_rfl) (by kernel_rfl) (by kernel_rfl) rfl rfl (fun _ _ _ h => h) (Or.inl ⟨by rfl, fun W hW => by go_simp⟩) e0 ?_
  simp only [Act.put, List.setIfInBounds_toArray, List.set_cons_zero, List.set_cons_succ]
  refine until_take (i := 3) (v := .pointer (some ⟨pb, 0, none⟩)) (some 47) [19] rfl rfl (by kernel_rfl) (by kernel_rfl) (by kernel_rfl) (by kernel_rfl) rfl rfl (fun _ _ _ h => h) (Or.inl ⟨by rfl, fun W hW => by go_simp⟩) e0 ?_
  simp only [Act.put, List.setIfInBounds_toArray, List.set_cons_zero, List.set_cons_succ]
  refine until_take (i := 10) (v := .pointer (some ⟨pb, 0, none⟩)) (some 54) [19] rfl rfl (by kernel_rfl) (by kernel_rfl) (by kernel_rfl) (by kernel_rfl) rfl rfl (fun _ _ _ h => h) (Or.inl ⟨by rfl, fun W hW => by go_simp⟩) e0 ?_
  simp only [Act.put, List.setIfInBounds_toArray, List.set_cons_zero, List.set_cons_succ]
  refine until_take (i := 14) (v := .int .i64 (j1 : Int)) (some 58) [19] rfl rfl (by kernel_rfl) (by kernel_rfl) (by kernel_rfl) (by kernel_rfl) rfl rfl (fun _ _ _ h => h) (Or.inl ⟨by rfl, fun W hW => by go_simp⟩) e0 ?_
  simp only [Act.put, List.setIfInBounds_toArray, List.set_cons_zero, List.set_cons_succ]
  refine until_take (i := 4) (v := .pointer (some ⟨pb, 2, none⟩)) (some 48) [19] rfl rfl (by kernel_rfl) (by kernel_rfl) (by kernel_rfl) (by kernel_rfl) rfl rfl (fun _ _ _ h => h) (Or.inl ⟨by rfl, fun W hW => by go_simp⟩) e0 ?_
  simp only [Act.put, List.setIfInBounds_toArray, List.set_cons_zero, List.set_cons_succ]
  refine until_take (i := 11) (v := .pointer (some ⟨pb, 2, none⟩)) (some 55) [19] rfl rfl (by kernel_rfl) (by kernel_rfl) (by kernel_rfl) (by kernel_rfl) rfl rfl (fun _ _ _ h => h) (Or.inl ⟨by rfl, fun W hW => by go_simp⟩) e0 ?_
  simp only [Act.put, List.setIfInBounds_toArray, List.set_cons_zero, List.set_cons_succ]
  refine until_take (i := 5) (v := .slice (some ⟨g, 0, none⟩) L c2) (some 49) [19] rfl rfl (by kernel_rfl) (by kernel_rfl) (by kernel_rfl) (by kernel_rfl) rfl rfl (fun _ _ _ h => h) (Or.inl ⟨by rfl, fun W hW => by have hc := hW; go_simp⟩) e0 ?_
  simp only [Act.put, List.setIfInBounds_toArray, List.set_cons_zero, List.set_cons_succ]
  refine until_take (i := 12) (v := .slice (some ⟨g, 0, none⟩) L c2) (some 56) [19] rfl rfl (by kernel_rfl) (by kernel_rfl) (by kernel_rfl) (by kernel_rfl) rfl rfl (fun _ _ _ h => h) (Or.inl ⟨by rfl, fun W hW => by have hc := hW; go_simp⟩) e0 ?_
  simp only [Act.put, List.setIfInBounds_toArray, List.set_cons_zero, List.set_cons_succ]
  refine until_take (i := 7) (v := .slice (some ⟨g, 0, none⟩) j c2) (some 51) [19] rfl rfl (by kernel_rfl) (by kernel_rfl) (by kernel_rfl) (by kernel_rfl) rfl rfl (fun _ _ _ h => h) (Or.inl ⟨by rfl, fun W hW => by have hc := HSL.out.1 W; go_simp⟩) e0 ?_
  simp only [Act.put, List.setIfInBounds_toArray, List.set_cons_zero, List.set_cons_succ]
  refine until_take (i := 15) (v := .slice A3 n3 c3) (some 59) [19] rfl rfl (by kernel_rfl) (by kernel_rfl) (by kernel_rfl) (by kernel_rfl) rfl rfl (fun _ _ _ h => h) (Or.inl ⟨by rfl, fun W hW => by have hc := HSL2.out W; go_simp⟩) e0 ?_
  simp only [Act.put, List.setIfInBounds_toArray, List.set_cons_zero, List.set_cons_succ]
  refine until_step (i := 1) (by kernel_rfl) rfl rfl (fun K hK => ?_)
  refine step_lit0 (by rfl) 29 69 rfl (lit0 _) ?_
  intro gl w6 hgl6 o6 b6 t6
  have HB6 := Lib.hid b6
  have HGL := Lib.hid (show wd.heap.size ≤ gl by rw [hgl6.out]; exact Nat.le_refl _)
  have e6 : w6.cell? ⟨pb, 2, none⟩ = some (.slice (some ⟨g, 0, none⟩) L c2) := cellB b6 e0
  have hrow6 := own_empty (base := wd.heap.size) o6 HGL.out
  have HS3 := Lib.hid ((HSL.out.2.2.1.below HBW5.out).below b6)
  clear b6 o6 t6
  show K (Act.put _ (some 45) _) _
  refine hK.out _ _ e6 (fun _ => ?_)
  clear hK
  try simp only [Act.put, List.setIfInBounds_toArray, List.set_cons_zero, List.set_cons_succ]
  refine until_step (i := 8) (by kernel_rfl) rfl rfl (fun K hK => ?_)
  refine step_appG rfl (.tmp 45) (.tmp 51) 29 69 rfl (.agg zPm.vals.toArray) 14 112 Try.underlying29 infoPk rfl (by decide) (by decide) wd.heap.size (.slice (some ⟨gl, 0, none⟩) 0 0) 0 (pkv []) rfl hrow6 (some ⟨g, 0, none⟩) j c2 (pkv (m2.ws.take j)) rfl HS3.out (by omega) HB6.out.size ?_
  intro v7 w7 r7 g7 o7
  have HB7 := Lib.hid (HB6.out.grown g7 HB6.out.size (fun b e => by injection e with e; exact e ▸ HGL.out))
  have e7 : w7.cell? ⟨pb, 2, none⟩ = some (.slice (some ⟨g, 0, none⟩) L c2) := cellB HB7.out e0
  have HO7 := Lib.hid (show ∀ b, v7.ownBlock = some b → wd.heap.size ≤ b from fun b e => by rcases o7 with o7 | o7; (rw [o7] at e; injection e with e; exact e ▸ HGL.out); (rw [o7] at e; injection e with e; have := HB6.out.size; omega))
  have HS4 := Lib.hid ((HSL.out.2.2.2.below HBW5.out).below HB7.out)
  clear g7 o7 hrow6 HS3
  show K (Act.put _ (some 52) _) _
  refine hK.out _ _ e7 (fun _ => ?_)
  clear hK
  try simp only [Act.put, List.setIfInBounds_toArray, List.set_cons_zero, List.set_cons_succ]
  refine until_step (i := 16) (by kernel_rfl) rfl rfl (fun K hK => ?_)
  refine step_appG rfl (.tmp 52) (.tmp 59) 29 69 rfl (.agg zPm.vals.toArray) 14 112 Try.underlying29 infoPk rfl (by decide) (by decide) wd.heap.size v7 (0 + j) (pkv [] ++ pkv (m2.ws.take j)) rfl r7 A3 n3 c3 (pkv (m2.ws.drop (j + 1))) rfl HS4.out (by have := HN3.out; omega) HB7.out.size ?_
  intro v9 w9 r9 g9 o9
  have HB9 := Lib.hid (HB7.out.grown g9 HB7.out.size (fun b e => HO7.out b e))
  have e9 : w9.cell? ⟨pb, 2, none⟩ = some (.slice (some ⟨g, 0, none⟩) L c2) := cellB HB9.out e0
  have HO9 := Lib.hid (show ∀ b, v9.ownBlock = some b → wd.heap.size ≤ b from fun b e => by rcases o9 with o9 | o9; (rw [o9] at e; exact HO7.out b e); (rw [o9] at e; injection e with e; have := HB7.out.size; omega))
  have HW9 : m2.ws.eraseIdx j = m2.ws.take j ++ m2.ws.drop (j + 1) := List.eraseIdx_eq_take_drop_succ _ _
  have hlen9 : (m2.ws.eraseIdx j).length = 0 + j + n3 := by rw [List.length_eraseIdx, if_pos (by rw [HWL.out.1]; exact hjL), HWL.out.1]; have := HN3.out; omega
  have HAP := Lib.hid (H5.out.setway HB9.out (m2.ws.eraseIdx j) (fun k hk => List.mem_of_mem_eraseIdx hk) (v' := v9) (by rw [hlen9, HW9, pkv_append]; have r9b := r9; rw [show pkv [] = [] from rfl, List.nil_append] at r9b; exact World.ownsRow.mono r9b (by have := H5.out.lo; have := H5.out.lt; omega)) HO9.out)
  have c9 := e9
  have f9 : w9.frozen? ⟨pb, 2, none⟩ = false := (HB9.out.frozen H5.out.lt).trans (H5.out.fz 2)
  clear g9 o9 HW9 hlen9
  obtain ⟨A9, k9, rfl, hk9, hm9⟩ := own_slice r9
  generalize 0 + j + n3 = L9 at *
  clear r9
  show K (Act.put _ (some 60) _) _
  refine hK.out _ _ e9 (fun _ => ?_)
  clear hK
  try simp only [Act.put, List.setIfInBounds_toArray, List.set_cons_zero, List.set_cons_succ]
  refine until_take (i := 17) (v := .pointer (some ⟨pb, 0, none⟩)) (some 61) [18, 19] rfl rfl (by kernel_rfl) (by kernel_rfl) (by kernel_rfl) (by kernel_rfl) rfl rfl (fun _ _ _ h => h) (Or.inl ⟨by rfl, fun W hW => by go_simp⟩) e9 ?_
  simp only [Act.put, List.setIfInBounds_toArray, List.set_cons_zero, List.set_cons_succ]
  refine until_take (i := 18) (v := .pointer (some ⟨pb, 2, none⟩)) (some 62) [19] rfl rfl (by kernel_rfl) (by kernel_rfl) (by kernel_rfl) (by kernel_rfl) rfl rfl (fun _ _ _ h => h) (Or.inl ⟨by rfl, fun W hW => by go_simp⟩) e9 ?_
  simp only [Act.put, List.setIfInBounds_toArray, List.set_cons_zero, List.set_cons_succ]
  refine until_last (by kernel_rfl) rfl (fun K hK => ?_)
  go_simp
  refine hK.out _ _ ?_
  clear hK
  try simp only [Act.put, List.setIfInBounds_toArray, List.set_cons_zero, List.set_cons_succ]
  refine wpAnyH_done (by kernel_rfl) ?_ _
  refine NoPanic.normal ?_
  obtain ⟨lab10, h10, hl10, ch10⟩ := HAP.out
  have hgkpb : ¬ gk = pb := fun e => by have h8 := HLK.out; rw [e] at h8; have := H2.out.lp; omega
  have k010 := ch10.cell k05 hgkpb
  have HZ10 := Lib.hid (HZ5.out.ch (by rw [Pm.vals_length]; omega) ch10 (fun e => by have := HGP.out; omega))
  have HB10 := Lib.hid ((HBW5.out.mono (by have := H2.out.lo; have := H2.out.lt; omega)).trans (ch10.belowB (by have := H5.out.lo; have := H5.out.lt; omega) (fun b e => e ▸ H5.out.lo)))
  have HL10 := Lib.hid hl10
  have hway10 : (m2.ws.eraseIdx j).map Pm.key = q.way.eraseIdx j := by rw [List.map_eraseIdx_, H2.out.key]
  rw [hway10] at h10
  have H10 := Lib.hid h10
  clear h10 hl10 ch10 e9 c9 f9 k05 hway10 e7 e6 e0
  generalize w9.setCell ⟨pb, 2, none⟩ (.slice A9 L9 k9) = w10 at *
  go_wp2_with fail
  refine (HFE.out _ _ _ _ H10.out).mono ?_
  rintro e w99 ⟨rfl, hp99, hb99⟩
  go_wp2_with fail
  go_end0
  exact ⟨rfl, by rw [HACT.out _ (HJQ.out ▸ HKK.out.2), ← HJQ.out]; exact hp99, (HBW.out.trans HB10.out).trans hb99⟩
set_option maxHeartbeats 12800000 in
theorem stepK0 (h : PR GB base w pb p m lab) (q : P) (hq : q = p.flush) (hB : Bd q) (hw : q.way ≠ []) (I : Int) (hI : isInt I) :
    Calls Try.prog 10 #[ptr pb, .agg #[.int .i64 0, .int .i64 I]] w (StepP GB base w pb (q.act 0 I).flush) := by
  have HACT : Hid (∀ x, q.way[q.at_ I]? = some x → q.act 0 I = { q with way := q.way.eraseIdx (q.at_ I) }.comes x) := Lib.hid (fun x hx => by unfold P.act; rw [if_pos ⟨by decide, hw⟩, hx]; rfl)
  have HWLEN : Hid (q.way.length ≤ 1000) := Lib.hid hB.wl
  have hbs : base ≤ w.heap.size := by have := h.lo; have := h.lt; omega
  have HBD := Lib.hid hB
  have HFL : Hid (∀ W m lab, PR GB base W pb p m lab → Calls Try.prog 28 #[.pointer (some ⟨pb, 0, none⟩)] W fun e w' => e = .returned (.tuple #[]) ∧ (∃ m' lab', PR GB base w' pb q m' lab' ∧ Gh W w' lab lab') ∧ Below base W w') := Lib.hid (fun W m lab h => by rw [hq]; exact flush_g h)
  have HFE : Hid (∀ W q m lab, PR GB base W pb q m lab → Calls Try.prog 28 #[.pointer (some ⟨pb, 0, none⟩)] W fun e w' => e = .returned (.tuple #[]) ∧ (∃ m' lab', PR GB base w' pb q.flush m' lab') ∧ Below base W w') := Lib.hid (fun W q m lab h => flush_any h)
  have H := Lib.hid h
  have hplt := h.lt
  have hI2 : -9223372036854775808 ≤ I ∧ I ≤ 9223372036854775807 := hI
  clear h hq hB hI
  unfold ptr StepP
  go_enter Try.func10, Try.ntmps10
  go_wp2_with (first
    | ((with_reducible refine wpList_here ?_); refine wpList_boxV (o := ⟨some 3, _, _, _, _, _⟩) rfl 35 (.tmp 1) rfl [.int .i64 0, .int .i64 I] rfl _ rfl ?_; intro w1 z1 b1 s1; have HB1 := Lib.hid b1; have HZ1 := Lib.hid z1; clear z1 b1)
    | fail)
  obtain ⟨gk, hgk⟩ : ∃ g, g = w.heap.size := ⟨_, rfl⟩
  have HP1 := Lib.hid ((H.out.relabel (lab' := fun j => if j < w.heap.size then lab j else 0) (fun j hj => if_pos hj)).below HB1.out)
  rw [← hgk] at HZ1
  rw [← hgk]
  refine (HFL.out _ _ _ HP1.out).mono ?_
  rintro e w2 ⟨rfl, ⟨m2, lab2, h2, g2⟩, b2⟩
  have HK : Hid (Own w2 gk [.int .i64 0, .int .i64 I]) := Lib.hid (HZ1.out.ch (by show 0 < 2; omega) g2.1 (fun e => e (if_neg (by omega))))
  have HLK : Hid (lab2 gk = 0) := Lib.hid (g2.2 gk (HZ1.out.lt (by show 0 < 2; omega)) (if_neg (by omega)))
  have HBW : Hid (Below base w w2) := Lib.hid ((HB1.out.mono hbs).trans b2)
  have H2 := Lib.hid h2
  obtain ⟨A2, c2, hwv, hwl⟩ := Ms.way_slice h2
  obtain ⟨A9, c9, e9, hc1, hc2⟩ := own_slice h2.way
  obtain ⟨L, hL⟩ : ∃ L, m2.ws.length = L := ⟨_, rfl⟩
  rw [hL] at hwv hwl hc1
  have hLm : L ≤ 9223372036854775807 := by omega
  have kw : w2.cell? ⟨pb, 2, none⟩ = some (.slice A2 L c2) := (h2.at_ 2).trans (by rw [show (m2.cs q.t)[2]? = some m2.wv from rfl, hwv])
  have k0 : w2.cell? ⟨gk, 0, none⟩ = some (.int .i64 0) := (HK.out 0 (by show 0 < 2; omega)).1
  have k1 : w2.cell? ⟨gk, 1, none⟩ = some (.int .i64 I) := (HK.out 1 (by show 1 < 2; omega)).1
  have HWV := Lib.hid hwv
  have HWL := Lib.hid (And.intro hL hwl)
  have hwr : IntKind.i64.wrap ((L : Int) - 1) = (L : Int) - 1 := by rw [IntKind.wrap_i64]; omega
  obtain ⟨j, hjq⟩ : ∃ j, j = q.at_ I := ⟨_, rfl⟩
  have hL0 : 0 < L := by
    rw [hwl]
    exact List.length_pos_iff.2 hw
  have hjL : j < L := by rw [hjq]; unfold P.at_; omega
  have hmin : min (max I 0) ((L : Int) - 1) = (j : Int) := by rw [hjq]; unfold P.at_; omega
  have hli : (j : Int) < (L : Int) := by omega
  have HJQ := Lib.hid hjq
  clear hw hjq
  clear h2 hwv hwl hL g2 b2 HZ1 HB1 s1 hgk HP1 A9 c9 e9 hc1 hc2 H
  go_wp2_with fail
  go_quiet (fail)
  have HBW := Lib.hid (below_drewN HBW.out nq)
  have H2 := Lib.hid (H2.out.below (below_drewN (Below.refl _ _) nq))
  have HK := Lib.hid (HK.out.below (below_drewN (Below.refl _ _) nq))
  have kw : (w2.drewN nq).cell? ⟨pb, 2, none⟩ = some (.slice A2 L c2) := kw
  have k0 : (w2.drewN nq).cell? ⟨gk, 0, none⟩ = some (.int .i64 0) := k0
  have k1 : (w2.drewN nq).cell? ⟨gk, 1, none⟩ = some (.int .i64 I) := k1
  generalize w2.drewN nq = w3 at *
  have hL60 : L ≤ 1000 := by rw [HWL.out.2]; exact HWLEN.out
  have hrow := H2.out.way
  rw [HWV.out, HWL.out.1] at hrow
  obtain ⟨g, cap, hv0, hgb, hgl⟩ := hrow.form (by omega)
  injection hv0 with hA hn1 hcc
  subst hA hcc
  have hr := own_rangeK (j := j) hrow hjL
  obtain ⟨kk, hkk⟩ : ∃ kk, kk = m2.ws.getD j zPm := ⟨_, rfl⟩
  rw [← hkk] at hr
  have hmem : kk ∈ m2.ws := by
    rw [hkk, List.getD_eq_getElem?_getD, List.getElem?_eq_getElem (by rw [HWL.out.1]; exact hjL)]
    exact List.getElem_mem _
  have hkey : q.way[j]? = some kk.key := by
    rw [← H2.out.key, List.getElem?_map, hkk, List.getD_eq_getElem?_getD, List.getElem?_eq_getElem (show j < m2.ws.length by rw [HWL.out.1]; exact hjL)]
    rfl
  have HKK := Lib.hid (And.intro hmem hkey)
  obtain ⟨A3, c3, hs1, hs2, hs3, hs4⟩ := way_cut hrow hjL
  obtain ⟨n3, hn3⟩ : ∃ n3, L - (j + 1) = n3 := ⟨_, rfl⟩
  obtain ⟨j1, hj1⟩ : ∃ j1, j1 = j + 1 := ⟨_, rfl⟩
  rw [hn3, ← hj1] at hs2
  rw [hn3] at hs4
  have hwj : IntKind.i64.wrap ((j : Int) + 1) = (j1 : Int) := by rw [IntKind.wrap_i64, hj1]; omega
  have HSL2 := Lib.hid hs2
  have HN3 := Lib.hid hn3
  clear hj1 hn3
  have HSL := Lib.hid (And.intro hs1 (And.intro hs2 (And.intro hs3 hs4)))
  have hplt2 := H2.out.lt
  clear hmem hkey hkk hrow hs1 hs2 hs3 hs4
  have hog := H2.out.og kk HKK.out.1
  have hld := H2.out.ld kk HKK.out.1
  have hbd := HBD.out.way kk.key (List.mem_of_getElem? HKK.out.2)
  have hdn : kk.o.p.dn ≤ 549755813888 := by
    have h8 := hog.1.dn
    have h9 : kk.o.p.ds.length ≤ 12 := hbd.2
    omega
  have HOG := Lib.hid (And.intro hog (And.intro hld (And.intro hbd hdn)))
  clear hog hld hbd hdn
  go_wp2_with (first
    | ((with_reducible refine wpList_here ?_); refine wpList_loadV (o := ⟨some 40, _, _, _, _, _⟩) rfl 69 (.tmp 39) rfl _ _ kk.vals rfl hr _ Try.underlying69 rfl sizePk ?_)
    | ((with_reducible refine wpList_here ?_); refine wpList_allocV (o := ⟨some 5, _, _, _, _, _⟩) rfl 69 rfl zPm.vals zeroPk _ rfl ?_; intro w4 z4 b4 s4; have k04 := cellB b4 k0)
    | ((with_reducible refine wpList_here ?_); refine wpList_storeV rfl 69 (.tmp 5) (.tmp 40) rfl _ _ kk.vals rfl rfl z4 rfl (pm_one _) sizePk ?_; intro w5 z5 g5 s5; have HB5 := Lib.hid (v_below_g b4 g5 b4.size (Nat.le_refl _)); have k05 := cellB HB5.out k0; have HZ5 := Lib.hid z5; clear z4 b4 g5 k04)
    | fail)
  obtain ⟨gp, hgp⟩ : ∃ gp, gp = w3.heap.size := ⟨_, rfl⟩
  rw [← hgp] at HZ5
  rw [← hgp]
  have HGP : Hid (gp ≠ pb) := Lib.hid (by omega)
  clear hgp s4 s5
  have HBW5 := Lib.hid HB5.out.drew
  have H5 := Lib.hid (H2.out.below HBW5.out)
  have HZ5 : Hid (Own w5.drew gp kk.vals) := Lib.hid HZ5.out
  have e0 : w5.drew.cell? ⟨pb, 2, none⟩ = some (.slice (some ⟨g, 0, none⟩) L c2) := cellB HBW5.out kw
  have k05 : w5.drew.cell? ⟨gk, 0, none⟩ = some (.int .i64 0) := k05
  clear kw k0 k1
  generalize hwd : w5.drew = wd at *
  refine wp_region_noPanic ?_
  refine until_start (fun W => W.cell? ⟨pb, 2, none⟩ = some (.slice (some ⟨g, 0, none⟩) L c2)) 19 (by kernel_rfl) (by rw [hwd]; exact e0) (fun _ => ?_)
  rw [hwd]
  clear hwd
  refine until_take (i := 0) (v := .pointer (some ⟨pb, 0, none⟩)) (some 44) [19] rfl rfl (by kernel_rfl) (by kernel_rfl) (by kernel_rfl) (by kernel_rfl) rfl rfl (fun _ _ _ h => h) (Or.inl ⟨by rfl, fun W hW => by go_simp⟩) e0 ?_
  simp only [Act.put, List.setIfInBounds_toArray, List.set_cons_zero, List.set_cons_succ]
  refine until_take (i := 2) (v := .pointer (some ⟨pb, 0, none⟩)) (some 46) [19] rfl rfl (by kernel_rfl) (by kernel_rfl) (by kernel_rfl) (by kernel_rfl) rfl rfl (fun _ _ _ h => h) (Or.inl ⟨by rfl, fun W hW => by go_simp⟩) e0 ?_
  simp only [Act.put, List.setIfInBounds_toArray, List.set_cons_zero, List.set_cons_succ]
  refine until_take (i := 6) (v := .int .i64 (j : Int)) (some 50) [19] rfl rfl (by kernel_rfl) (by kernel_rfl) (by kernel_rfl) (by kernel_rfl) rfl rfl (fun _ _ _ h => h) (Or.inl ⟨by rfl, fun W hW => by go_simp⟩) e0 ?_
  simp only [Act.put, List.setIfInBounds_toArray, List.set_cons_zero, List.set_cons_succ]
  refine until_take (i := 9) (v := .pointer (some ⟨pb, 0, none⟩)) (some 53) [19] rfl rfl (by kernel_rfl) (by kernel_rfl) (by kernel_rfl) (by kernel_rfl) rfl rfl (fun _ _ _ h => h) (Or.inl ⟨by rfl, fun W hW => by go_simp⟩) e0 ?_
  simp only [Act.put, List.setIfInBounds_toArray, List.set_cons_zero, List.set_cons_succ]
  refine until_take (i := 13) (v := .int .i64 (j : Int)) (some 57) [19] rfl rfl (by kernel_rfl) (by kernel_rfl) (by kernel_rfl) (by kernel_rfl) rfl rfl (fun _ _ _ h => h) (Or.inl ⟨by rfl, fun W hW => by go_simp⟩) e0 ?_
  simp only [Act.put, List.setIfInBounds_toArray, List.set_cons_zero, List.set_cons_succ]
  refine until_take (i := 3) (v := .pointer (some ⟨pb, 0, none⟩)) (some 47) [19] rfl rfl (by kernel_rfl) (by kernel_rfl) (by kernel_rfl) (by kernel_rfl) rfl rfl (fun _ _ _ h => h) (Or.inl ⟨by rfl, fun W hW => by go_simp⟩) e0 ?_
  simp only [Act.put, List.setIfInBounds_toArray, List.set_cons_zero, List.set_cons_succ]
  refine until_take (i := 10) (v := .pointer (some ⟨pb, 0, none⟩)) (some 54) [19] rfl rfl (by kernel_rfl) (by kernel_rfl) (by kernel_rfl) (by kernel_rfl) rfl rfl (fun _ _ _ h => h) (Or.inl ⟨by rfl, fun W hW => by go_simp⟩) e0 ?_
  simp only [Act.put, List.setIfInBounds_toArray, List.set_cons_zero, List.set_cons_succ]
  refine until_take (i := 14) (v := .int .i64 (j1 : Int)) (some 58) [19] rfl rfl (by kernel_rfl) (by kernel_rfl) (by kernel_rfl) (by kernel_rfl) rfl rfl (fun _ _ _ h => h) (Or.inl ⟨by rfl, fun W hW => by go_simp⟩) e0 ?_
  simp only [Act.put, List.setIfInBounds_toArray, List.set_cons_zero, List.set_cons_succ]
  refine until_take (i := 4) (v := .pointer (some ⟨pb, 2, none⟩)) (some 48) [19] rfl rfl (by kernel_rfl) (by kernel_rfl) (by kernel_rfl) (by kernel_rfl) rfl rfl (fun _ _ _ h => h) (Or.inl ⟨by rfl, fun W hW => by go_simp⟩) e0 ?_
  simp only [Act.put, List.setIfInBounds_toArray, List.set_cons_zero, List.set_cons_succ]
  refine until_take (i := 11) (v := .pointer (some ⟨pb, 2, none⟩)) (some 55) [19] rfl rfl (by kernel_rfl) (by kernel_rfl) (by kernel_rfl) (by kernel_rfl) rfl rfl (fun _ _ _ h => h) (Or.inl ⟨by rfl, fun W hW => by go_simp⟩) e0 ?_
  simp only [Act.put, List.setIfInBounds_toArray, List.set_cons_zero, List.set_cons_succ]
  refine until_take (i := 5) (v := .slice (some ⟨g, 0, none⟩) L c2) (some 49) [19] rfl rfl (by kernel_rfl) (by kernel_rfl) (by kernel_rfl) (by kernel_rfl) rfl rfl (fun _ _ _ h => h) (Or.inl ⟨by rfl, fun W hW => by have hc := hW; go_simp⟩) e0 ?_
  simp only [Act.put, List.setIfInBounds_toArray, List.set_cons_zero, List.set_cons_succ]
  refine until_take (i := 12) (v := .slice (some ⟨g, 0, none⟩) L c2) (some 56) [19] rfl rfl (by kernel_rfl) (by kernel_rfl) (by kernel_rfl) (by kernel_rfl) rfl rfl (fun _ _ _ h => h) (Or.inl ⟨by rfl, fun W hW => by have hc := hW; go_simp⟩) e0 ?_
  simp only [Act.put, List.setIfInBounds_toArray, List.set_cons_zero, List.set_cons_succ]
  refine until_take (i := 7) (v := .slice (some ⟨g, 0, none⟩) j c2) (some 51) [19] rfl rfl (by kernel_rfl) (by kernel_rfl) (by kernel_rfl) (by kernel_rfl) rfl rfl (fun _ _ _ h => h) (Or.inl ⟨by rfl, fun W hW => by have hc := HSL.out.1 W; go_simp⟩) e0 ?_
  simp only [Act.put, List.setIfInBounds_toArray, List.set_cons_zero, List.set_cons_succ]
  refine until_take (i := 15) (v := .slice A3 n3 c3) (some 59) [19] rfl rfl (by kernel_rfl) (by kernel_rfl) (by kernel_rfl) (by kernel_rfl) rfl rfl (fun _ _ _ h => h) (Or.inl ⟨by rfl, fun W hW => by have hc := HSL2.out W; go_simp⟩) e0 ?_
  simp only [Act.put, List.setIfInBounds_toArray, List.set_cons_zero, List.set_cons_succ]
  refine until_step (i := 1) (by kernel_rfl) rfl rfl (fun K hK => ?_)
  refine step_lit0 (by rfl) 29 69 rfl (lit0 _) ?_
  intro gl w6 hgl6 o6 b6 t6
  have HB6 := Lib.hid b6
  have HGL := Lib.hid (show wd.heap.size ≤ gl by rw [hgl6.out]; exact Nat.le_refl _)
  have e6 : w6.cell? ⟨pb, 2, none⟩ = some (.slice (some ⟨g, 0, none⟩) L c2) := cellB b6 e0
  have hrow6 := own_empty (base := wd.heap.size) o6 HGL.out
  have HS3 := Lib.hid ((HSL.out.2.2.1.below HBW5.out).below b6)
  clear b6 o6 t6
  show K (Act.put _ (some 45) _) _
  refine hK.out _ _ e6 (fun _ => ?_)
  clear hK
  try simp only [Act.put, List.setIfInBounds_toArray, List.set_cons_zero, List.set_cons_succ]
  refine until_step (i := 8) (by kernel_rfl) rfl rfl (fun K hK => ?_)
  refine step_appG rfl (.tmp 45) (.tmp 51) 29 69 rfl (.agg zPm.vals.toArray) 14 112 Try.underlying29 infoPk rfl (by decide) (by decide) wd.heap.size (.slice (some ⟨gl, 0, none⟩) 0 0) 0 (pkv []) rfl hrow6 (some ⟨g, 0, none⟩) j c2 (pkv (m2.ws.take j)) rfl HS3.out (by omega) HB6.out.size ?_
  intro v7 w7 r7 g7 o7
  have HB7 := Lib.hid (HB6.out.grown g7 HB6.out.size (fun b e => by injection e with e; exact e ▸ HGL.out))
  have e7 : w7.cell? ⟨pb, 2, none⟩ = some (.slice (some ⟨g, 0, none⟩) L c2) := cellB HB7.out e0
  have HO7 := Lib.hid (show ∀ b, v7.ownBlock = some b → wd.heap.size ≤ b from fun b e => by rcases o7 with o7 | o7; (rw [o7] at e; injection e with e; exact e ▸ HGL.out); (rw [o7] at e; injection e with e; have := HB6.out.size; omega))
  have HS4 := Lib.hid ((HSL.out.2.2.2.below HBW5.out).below HB7.out)
  clear g7 o7 hrow6 HS3
  show K (Act.put _ (some 52) _) _
  refine hK.out _ _ e7 (fun _ => ?_)
  clear hK
  try simp only [Act.put, List.setIfInBounds_toArray, List.set_cons_zero, List.set_cons_succ]
  refine until_step (i := 16) (by kernel_rfl) rfl rfl (fun K hK => ?_)
  refine step_appG rfl (.tmp 52) (.tmp 59) 29 69 rfl (.agg zPm.vals.toArray) 14 112 Try.underlying29 infoPk rfl (by decide) (by decide) wd.heap.size v7 (0 + j) (pkv [] ++ pkv (m2.ws.take j)) rfl r7 A3 n3 c3 (pkv (m2.ws.drop (j + 1))) rfl HS4.out (by have := HN3.out; omega) HB7.out.size ?_
  intro v9 w9 r9 g9 o9
  have HB9 := Lib.hid (HB7.out.grown g9 HB7.out.size (fun b e => HO7.out b e))
  have e9 : w9.cell? ⟨pb, 2, none⟩ = some (.slice (some ⟨g, 0, none⟩) L c2) := cellB HB9.out e0
  have HO9 := Lib.hid (show ∀ b, v9.ownBlock = some b → wd.heap.size ≤ b from fun b e => by rcases o9 with o9 | o9; (rw [o9] at e; exact HO7.out b e); (rw [o9] at e; injection e with e; have := HB7.out.size; omega))
  have HW9 : m2.ws.eraseIdx j = m2.ws.take j ++ m2.ws.drop (j + 1) := List.eraseIdx_eq_take_drop_succ _ _
  have hlen9 : (m2.ws.eraseIdx j).length = 0 + j + n3 := by rw [List.length_eraseIdx, if_pos (by rw [HWL.out.1]; exact hjL), HWL.out.1]; have := HN3.out; omega
  have HAP := Lib.hid (H5.out.setway HB9.out (m2.ws.eraseIdx j) (fun k hk => List.mem_of_mem_eraseIdx hk) (v' := v9) (by rw [hlen9, HW9, pkv_append]; have r9b := r9; rw [show pkv [] = [] from rfl, List.nil_append] at r9b; exact World.ownsRow.mono r9b (by have := H5.out.lo; have := H5.out.lt; omega)) HO9.out)
  have c9 := e9
  have f9 : w9.frozen? ⟨pb, 2, none⟩ = false := (HB9.out.frozen H5.out.lt).trans (H5.out.fz 2)
  clear g9 o9 HW9 hlen9
  obtain ⟨A9, k9, rfl, hk9, hm9⟩ := own_slice r9
  generalize 0 + j + n3 = L9 at *
  clear r9
  show K (Act.put _ (some 60) _) _
  refine hK.out _ _ e9 (fun _ => ?_)
  clear hK
  try simp only [Act.put, List.setIfInBounds_toArray, List.set_cons_zero, List.set_cons_succ]
  refine until_take (i := 17) (v := .pointer (some ⟨pb, 0, none⟩)) (some 61) [18, 19] rfl rfl (by kernel_rfl) (by kernel_rfl) (by kernel_rfl) (by kernel_rfl) rfl rfl (fun _ _ _ h => h) (Or.inl ⟨by rfl, fun W hW => by go_simp⟩) e9 ?_
  simp only [Act.put, List.setIfInBounds_toArray, List.set_cons_zero, List.set_cons_succ]
  refine until_take (i := 18) (v := .pointer (some ⟨pb, 2, none⟩)) (some 62) [19] rfl rfl (by kernel_rfl) (by kernel_rfl) (by kernel_rfl) (by kernel_rfl) rfl rfl (fun _ _ _ h => h) (Or.inl ⟨by rfl, fun W hW => by go_simp⟩) e9 ?_
  simp only [Act.put, List.setIfInBounds_toArray, List.set_cons_zero, List.set_cons_succ]
  refine until_last (by kernel_rfl) rfl (fun K hK => ?_)
  go_simp
  refine hK.out _ _ ?_
  clear hK
  try simp only [Act.put, List.setIfInBounds_toArray, List.set_cons_zero, List.set_cons_succ]
  refine wpAnyH_done (by kernel_rfl) ?_ _
  refine NoPanic.normal ?_
  obtain ⟨lab10, h10, hl10, ch10⟩ := HAP.out
  have hgkpb : ¬ gk = pb := fun e => by have h8 := HLK.out; rw [e] at h8; have := H2.out.lp; omega
  have k010 := ch10.cell k05 hgkpb
  have HZ10 := Lib.hid (HZ5.out.ch (by rw [Pm.vals_length]; omega) ch10 (fun e => by have := HGP.out; omega))
  have HB10 := Lib.hid ((HBW5.out.mono (by have := H2.out.lo; have := H2.out.lt; omega)).trans (ch10.belowB (by have := H5.out.lo; have := H5.out.lt; omega) (fun b e => e ▸ H5.out.lo)))
  have HL10 := Lib.hid hl10
  have HCH := Lib.hid ch10
  have hway10 : (m2.ws.eraseIdx j).map Pm.key = q.way.eraseIdx j := by rw [List.map_eraseIdx_, H2.out.key]
  rw [hway10] at h10
  have H10 := Lib.hid h10
  clear h10 hl10 ch10 e9 c9 f9 k05 hway10 e7 e6 e0
  generalize w9.setCell ⟨pb, 2, none⟩ (.slice A9 L9 k9) = w10 at *
  have HCM := Lib.hid (comes_any H10.out kk ((HOG.out.1.1.below HBW5.out).ch HCH.out (fun b e hb => by have h7 := HOG.out.2.1 b e; have h8 := H2.out.lp; rw [hb, h8] at h7; cases h7)) HOG.out.1.2.1 HOG.out.1.2.2 HOG.out.2.2.1.1 (fun b e => (HL10.out b ((HOG.out.1.1.below HBW5.out).lt e).2).trans (HOG.out.2.1 b e)) HOG.out.2.2.2 HBD.out.f0.fb (fun f e => (HBD.out.f1 f e).fb) (Nat.le_trans HBD.out.t (by decide)) (Nat.le_trans HBD.out.c0 (by decide)) (Nat.le_trans HBD.out.c1 (by decide)))
  unfold ptr at HCM
  go_wp2_with (first
    | ((with_reducible refine wpList_here ?_); refine wpList_loadV (o := ⟨some 67, _, _, _, _, _⟩) rfl 69 (.tmp 5) rfl _ _ kk.vals rfl (HZ10.out).range _ Try.underlying69 rfl sizePk ?_)
    | fail)
  refine HCM.out.mono ?_
  rintro e w11 ⟨rfl, ⟨m11, lab11, h11⟩, b11⟩
  have HB11 := Lib.hid b11
  have H11 := Lib.hid h11
  clear h11 b11
  go_wp2_with fail
  refine (HFE.out _ _ _ _ H11.out).mono ?_
  rintro e w99 ⟨rfl, hp99, hb99⟩
  go_wp2_with fail
  go_end0
  exact ⟨rfl, by rw [HACT.out _ (HJQ.out ▸ HKK.out.2), ← HJQ.out]; exact hp99, ((HBW.out.trans HB10.out).trans HB11.out).trans hb99⟩
set_option maxHeartbeats 12800000 in
theorem stepK2 (h : PR GB base w pb p m lab) (q : P) (hq : q = p.flush) (hB : Bd q) (hw : q.way ≠ []) (I : Int) (hI : isInt I) :
    Calls Try.prog 10 #[ptr pb, .agg #[.int .i64 2, .int .i64 I]] w (StepP GB base w pb (q.act 2 I).flush) := by
  have HACT : Hid (∀ x, q.way[q.at_ I]? = some x → q.act 2 I = q.comes x) := Lib.hid (fun x hx => by unfold P.act; rw [if_pos ⟨by decide, hw⟩, hx]; rfl)
  have HWLEN : Hid (q.way.length ≤ 1000) := Lib.hid hB.wl
  have hbs : base ≤ w.heap.size := by have := h.lo; have := h.lt; omega
  have HBD := Lib.hid hB
  have HFL : Hid (∀ W m lab, PR GB base W pb p m lab → Calls Try.prog 28 #[.pointer (some ⟨pb, 0, none⟩)] W fun e w' => e = .returned (.tuple #[]) ∧ (∃ m' lab', PR GB base w' pb q m' lab' ∧ Gh W w' lab lab') ∧ Below base W w') := Lib.hid (fun W m lab h => by rw [hq]; exact flush_g h)
  have HFE : Hid (∀ W q m lab, PR GB base W pb q m lab → Calls Try.prog 28 #[.pointer (some ⟨pb, 0, none⟩)] W fun e w' => e = .returned (.tuple #[]) ∧ (∃ m' lab', PR GB base w' pb q.flush m' lab') ∧ Below base W w') := Lib.hid (fun W q m lab h => flush_any h)
  have H := Lib.hid h
  have hplt := h.lt
  have hI2 : -9223372036854775808 ≤ I ∧ I ≤ 9223372036854775807 := hI
  clear h hq hB hI
  unfold ptr StepP
  go_enter Try.func10, Try.ntmps10
  go_wp2_with (first
    | ((with_reducible refine wpList_here ?_); refine wpList_boxV (o := ⟨some 3, _, _, _, _, _⟩) rfl 35 (.tmp 1) rfl [.int .i64 2, .int .i64 I] rfl _ rfl ?_; intro w1 z1 b1 s1; have HB1 := Lib.hid b1; have HZ1 := Lib.hid z1; clear z1 b1)
    | fail)
  obtain ⟨gk, hgk⟩ : ∃ g, g = w.heap.size := ⟨_, rfl⟩
  have HP1 := Lib.hid ((H.out.relabel (lab' := fun j => if j < w.heap.size then lab j else 0) (fun j hj => if_pos hj)).below HB1.out)
  rw [← hgk] at HZ1
  rw [← hgk]
  refine (HFL.out _ _ _ HP1.out).mono ?_
  rintro e w2 ⟨rfl, ⟨m2, lab2, h2, g2⟩, b2⟩
  have HK : Hid (Own w2 gk [.int .i64 2, .int .i64 I]) := Lib.hid (HZ1.out.ch (by show 0 < 2; omega) g2.1 (fun e => e (if_neg (by omega))))
  have HLK : Hid (lab2 gk = 0) := Lib.hid (g2.2 gk (HZ1.out.lt (by show 0 < 2; omega)) (if_neg (by omega)))
  have HBW : Hid (Below base w w2) := Lib.hid ((HB1.out.mono hbs).trans b2)
  have H2 := Lib.hid h2
  obtain ⟨A2, c2, hwv, hwl⟩ := Ms.way_slice h2
  obtain ⟨A9, c9, e9, hc1, hc2⟩ := own_slice h2.way
  obtain ⟨L, hL⟩ : ∃ L, m2.ws.length = L := ⟨_, rfl⟩
  rw [hL] at hwv hwl hc1
  have hLm : L ≤ 9223372036854775807 := by omega
  have kw : w2.cell? ⟨pb, 2, none⟩ = some (.slice A2 L c2) := (h2.at_ 2).trans (by rw [show (m2.cs q.t)[2]? = some m2.wv from rfl, hwv])
  have k0 : w2.cell? ⟨gk, 0, none⟩ = some (.int .i64 2) := (HK.out 0 (by show 0 < 2; omega)).1
  have k1 : w2.cell? ⟨gk, 1, none⟩ = some (.int .i64 I) := (HK.out 1 (by show 1 < 2; omega)).1
  have HWV := Lib.hid hwv
  have HWL := Lib.hid (And.intro hL hwl)
  have hwr : IntKind.i64.wrap ((L : Int) - 1) = (L : Int) - 1 := by rw [IntKind.wrap_i64]; omega
  obtain ⟨j, hjq⟩ : ∃ j, j = q.at_ I := ⟨_, rfl⟩
  have hL0 : 0 < L := by
    rw [hwl]
    exact List.length_pos_iff.2 hw
  have hjL : j < L := by rw [hjq]; unfold P.at_; omega
  have hmin : min (max I 0) ((L : Int) - 1) = (j : Int) := by rw [hjq]; unfold P.at_; omega
  have hli : (j : Int) < (L : Int) := by omega
  have HJQ := Lib.hid hjq
  clear hw hjq
  clear h2 hwv hwl hL g2 b2 HZ1 HB1 s1 hgk HP1 A9 c9 e9 hc1 hc2 H
  go_wp2_with fail
  go_quiet (fail)
  have HBW := Lib.hid (below_drewN HBW.out nq)
  have H2 := Lib.hid (H2.out.below (below_drewN (Below.refl _ _) nq))
  have HK := Lib.hid (HK.out.below (below_drewN (Below.refl _ _) nq))
  have kw : (w2.drewN nq).cell? ⟨pb, 2, none⟩ = some (.slice A2 L c2) := kw
  have k0 : (w2.drewN nq).cell? ⟨gk, 0, none⟩ = some (.int .i64 2) := k0
  have k1 : (w2.drewN nq).cell? ⟨gk, 1, none⟩ = some (.int .i64 I) := k1
  generalize w2.drewN nq = w3 at *
  have hL60 : L ≤ 1000 := by rw [HWL.out.2]; exact HWLEN.out
  have hrow := H2.out.way
  rw [HWV.out, HWL.out.1] at hrow
  obtain ⟨g, cap, hv0, hgb, hgl⟩ := hrow.form (by omega)
  injection hv0 with hA hn1 hcc
  subst hA hcc
  have hr := own_rangeK (j := j) hrow hjL
  obtain ⟨kk, hkk⟩ : ∃ kk, kk = m2.ws.getD j zPm := ⟨_, rfl⟩
  rw [← hkk] at hr
  have hmem : kk ∈ m2.ws := by
    rw [hkk, List.getD_eq_getElem?_getD, List.getElem?_eq_getElem (by rw [HWL.out.1]; exact hjL)]
    exact List.getElem_mem _
  have hkey : q.way[j]? = some kk.key := by
    rw [← H2.out.key, List.getElem?_map, hkk, List.getD_eq_getElem?_getD, List.getElem?_eq_getElem (show j < m2.ws.length by rw [HWL.out.1]; exact hjL)]
    rfl
  have HKK := Lib.hid (And.intro hmem hkey)
  obtain ⟨A3, c3, hs1, hs2, hs3, hs4⟩ := way_cut hrow hjL
  obtain ⟨n3, hn3⟩ : ∃ n3, L - (j + 1) = n3 := ⟨_, rfl⟩
  obtain ⟨j1, hj1⟩ : ∃ j1, j1 = j + 1 := ⟨_, rfl⟩
  rw [hn3, ← hj1] at hs2
  rw [hn3] at hs4
  have hwj : IntKind.i64.wrap ((j : Int) + 1) = (j1 : Int) := by rw [IntKind.wrap_i64, hj1]; omega
  have HSL2 := Lib.hid hs2
  have HN3 := Lib.hid hn3
  clear hj1 hn3
  have HSL := Lib.hid (And.intro hs1 (And.intro hs2 (And.intro hs3 hs4)))
  have hplt2 := H2.out.lt
  clear hmem hkey hkk hrow hs1 hs2 hs3 hs4
  have hog := H2.out.og kk HKK.out.1
  have hld := H2.out.ld kk HKK.out.1
  have hbd := HBD.out.way kk.key (List.mem_of_getElem? HKK.out.2)
  have hdn : kk.o.p.dn ≤ 549755813888 := by
    have h8 := hog.1.dn
    have h9 : kk.o.p.ds.length ≤ 12 := hbd.2
    omega
  have HCMA : Hid (∀ W, Below w3.heap.size w3 W → Calls Try.prog 30 #[.pointer (some ⟨pb, 0, none⟩), .agg kk.vals.toArray] W (ComesP GB base W pb (q.comes kk.key))) := Lib.hid (fun W b => comes_any (H2.out.below b) kk (hog.1.below b) hog.2.1 hog.2.2 hbd.1 hld hdn HBD.out.f0.fb (fun f e => (HBD.out.f1 f e).fb) (Nat.le_trans HBD.out.t (by decide)) (Nat.le_trans HBD.out.c0 (by decide)) (Nat.le_trans HBD.out.c1 (by decide)))
  clear hog hld hbd hdn
  go_wp2_with (first
    | ((with_reducible refine wpList_here ?_); refine wpList_loadV (o := ⟨some 40, _, _, _, _, _⟩) rfl 69 (.tmp 39) rfl _ _ kk.vals rfl hr _ Try.underlying69 rfl sizePk ?_)
    | ((with_reducible refine wpList_here ?_); refine wpList_allocV (o := ⟨some 5, _, _, _, _, _⟩) rfl 69 rfl zPm.vals zeroPk _ rfl ?_; intro w4 z4 b4 s4; have k04 := cellB b4 k0)
    | ((with_reducible refine wpList_here ?_); refine wpList_storeV rfl 69 (.tmp 5) (.tmp 40) rfl _ _ kk.vals rfl rfl z4 rfl (pm_one _) sizePk ?_; intro w5 z5 g5 s5; have HB5 := Lib.hid (v_below_g b4 g5 b4.size (Nat.le_refl _)); have k05 := cellB HB5.out k0; have HZ5 := Lib.hid z5; clear z4 b4 g5 k04)
    | ((with_reducible refine wpList_here ?_); refine wpList_loadV (o := ⟨some 67, _, _, _, _, _⟩) rfl 69 (.tmp 5) rfl _ _ kk.vals rfl (HZ5.out).range _ Try.underlying69 rfl sizePk ?_)
    | fail)
  have HBX := Lib.hid (HB5.out.mono (show base ≤ w3.heap.size by have := H2.out.lo; have := H2.out.lt; omega))
  refine (HCMA.out _ HB5.out).mono ?_
  rintro e w11 ⟨rfl, ⟨m11, lab11, h11⟩, b11⟩
  have HB11 := Lib.hid b11
  have H11 := Lib.hid h11
  clear h11 b11
  go_wp2_with fail
  refine (HFE.out _ _ _ _ H11.out).mono ?_
  rintro e w99 ⟨rfl, hp99, hb99⟩
  go_wp2_with fail
  go_end0
  exact ⟨rfl, by rw [HACT.out _ (HJQ.out ▸ HKK.out.2)]; exact hp99, ((HBW.out.trans HBX.out).trans HB11.out).trans hb99⟩
end
end Go.Proofs.Ytnpkmkjenlhkiaa
