/- The law's flush. Condition: the pair stands. -/
import Derived.Test.YtnpkmkjenlhkiaaMg18
import Derived.Test.YtnpkmkjenlhkiaaMg4
namespace Go.Proofs.Ytnpkmkjenlhkiaa
set_option linter.unusedVariables false
set_option linter.unusedSimpArgs false
set_option maxRecDepth 20000
open Go.RowKit Go.Lib

section
variable {GB : Option Nat} {base : Nat} {w w' : World} {pb : Nat} {p : P} {m : Ms} {lab : Nat → Nat}
theorem PR.out1 (h : PR GB base w pb p m lab) {s : Sh} {x : F} (hs : m.b = some s) (hx : p.f1 = some x) (hF : Fl base w s x) (f : Fl base w' s.quiet x.quiet) (c : Ch w w' (fun g => g = s.fb)) :
    PR GB base w' pb { p with f1 := some x.quiet } { m with b := some s.quiet } (labO lab s.ol) ∧ Od base w' (labO lab s.ol) s.ov s.ol 2 := by
  have hd : ∀ g, (∃ o ∈ s.ol, o.p.blk = some g) → lab g = 2 := fun g ⟨o, ho, hg⟩ => h.lb s hs g (.inr (.inr (.inr ⟨o, ho, hg⟩)))
  have hM : ∀ g, g = s.fb → lab g = 2 := fun g e => h.lb s hs g (.inl e)
  have hk : ∀ {d : Nat}, d ≠ 2 → ∀ g, lab g = d → labO lab s.ol g = d := fun hd1 g e => by
    rw [labO_no (fun hx => hd1 (e.symm.trans (hd g hx)))]
    exact e
  have hne : ∀ o ∈ s.ol, o.p.blk ≠ some s.fb := fun o ho => hF.ne_data ho
  refine ⟨⟨?_, h.lo, h.fa.frame c (fun j hj e => by have := hM j e; have := h.la j hj; omega), fun g hg => ?_, (fun e => by cases e), own_ch2 h.way c (fun g hg e => by have := hM g e; have := h.lw g hg; omega), h.key, fun k hk2 => ⟨(h.og k hk2).1.ch c (fun g hg e => by have := hM g e; have := h.ld k hk2 g hg; omega), (h.og k hk2).2⟩,
    h.s0.relab c hM (by decide) (hk (by decide)), h.s1.relab c hM (by decide) (hk (by decide)), h.c0.relab c hM (by decide) (hk (by decide)), h.c1.relab c hM (by decide) (hk (by decide)), fun g hg => hk (by decide) g (h.la g hg), fun s2 hs2 g hg => ?_, hk (by decide) pb h.lp, fun g hg => hk (by decide) g (h.lw g hg), fun k hk2 g hg => hk (by decide) g (h.ld k hk2 g hg), fun g hg => ⟨(c.block g (h.bx_lt hg) (fun e => by have := hM g e; have := (h.bx g hg).2; omega)).trans (h.bx g hg).1, hk (by decide) g (h.bx g hg).2⟩⟩,
    ⟨own_ch2 hF.row c (fun g hg e => hF.ne_row (e ▸ hg)), fun o ho => ⟨(hF.og o ho).1.ch c (fun g hg e => hne o ho (e ▸ hg)), (hF.og o ho).2⟩, fun g hg => ?_, fun o ho g hg => labO_yes ho hg⟩⟩
  · have h1 := (c.block pb h.lt (fun e => by have := hM pb e; have := h.lp; omega)).trans h.obj
    rw [h1]
    unfold Ms.cs f1v
    rw [hs]
    rfl
  · have hg : some x.quiet = some g := hg
    injection hg with hg
    exact ⟨_, rfl, hg ▸ f⟩
  · have hs2 : some s.quiet = some s2 := hs2
    injection hs2 with hs2
    subst hs2
    have hx : ¬ ∃ o ∈ s.ol, o.p.blk = some g := by
      rintro ⟨o, ho, e⟩
      rcases hg with hg | hg | hg | ⟨o2, ho2, _⟩
      · exact hne o ho (by rw [e, hg]; rfl)
      · exact hF.ap o ho g e hg
      · cases hg
      · cases ho2
    rw [labO_no hx]
    rcases hg with hg | hg | hg | ⟨o2, ho2, _⟩
    · exact h.lb s hs g (.inl hg)
    · exact h.lb s hs g (.inr (.inl hg))
    · cases hg
    · cases ho2
  · rw [labO_no (fun ⟨o, ho, e⟩ => hF.row_data hg ho e)]
    exact h.lb s hs g (.inr (.inr (.inl hg)))
/-- Since then: what had no label is as it was, and still has none. -/
def Gh (w W : World) (l0 l : Nat → Nat) : Prop := Ch w W (fun g => l0 g ≠ 0) ∧ ∀ g, g < w.heap.size → l0 g = 0 → l g = 0
theorem Gh.refl (w : World) (l : Nat → Nat) : Gh w w l l := ⟨Ch.refl w _, fun _ _ e => e⟩
theorem Gh.step {W W' : World} {l0 l l' : Nat → Nat} (h : Gh w W l0 l) {M : Nat → Prop} (c : Ch W W' M) (hM : ∀ g, M g → l g ≠ 0) (hl : ∀ g, g < W.heap.size → l g = 0 → l' g = 0) : Gh w W' l0 l' :=
  ⟨h.1.trans c (fun _ _ e => e) (fun g hg hm e => hM g hm (h.2 g hg e)), fun g hg e => hl g (Nat.lt_of_lt_of_le hg h.1.size) (h.2 g hg e)⟩
theorem Gh.below {W W' : World} {l0 l : Nat → Nat} (h : Gh w W l0 l) (b : Below W.heap.size W W') : Gh w W' l0 l := h.step (Ch.of_below (fun _ => False) b) (fun _ e => e.elim) (fun _ _ e => e)
theorem labO_zero {ol : List Oc} {g d : Nat} (h : ∀ j, (∃ o ∈ ol, o.p.blk = some j) → lab j = d) (hd : d ≠ 0) (e : lab g = 0) : labO lab ol g = 0 := by
  rw [labO_no (fun hx => hd ((h g hx).symm.trans e))]
  exact e
theorem Od.below {v : Value} {ol : List Oc} {c : Nat} (h : Od base w lab v ol c) (b : Below w.heap.size w w') : Od base w' lab v ol c := ⟨own_below h.row b, fun o ho => ⟨(h.og o ho).1.below b, (h.og o ho).2⟩, h.lr, h.ld⟩
theorem Od.frame {v : Value} {ol : List Oc} {c : Nat} {lab' : Nat → Nat} (h : Od base w lab v ol c) {M : Nat → Prop} (k : Ch w w' M) (hM : ∀ g, M g → lab g = 3 ∨ lab g = 4) (hc : c ≤ 2) (hl : ∀ g, g < w.heap.size → lab' g = lab g) : Od base w' lab' v ol c :=
  ⟨own_ch2 h.row k (fun g hg e => by have := hM g e; have := h.lr g hg; omega), fun o ho => ⟨(h.og o ho).1.ch k (fun g hg e => by have := hM g e; have := h.ld o ho g hg; omega), (h.og o ho).2⟩, fun g hg => (hl g (own_in h.row hg).2).trans (h.lr g hg), fun o ho g hg => (hl g ((h.og o ho).1.lt hg).2).trans (h.ld o ho g hg)⟩
theorem zeroOc : (Try.prog.info? 54).map (·.zero) = some (some (.agg zO.vals.toArray)) := by kernel_rfl
theorem Ms.way_slice (h : PR GB base w pb p m lab) : ∃ A c, m.wv = .slice A m.ws.length c ∧ m.ws.length = p.way.length := by
  obtain ⟨A, c, e, _, _⟩ := own_slice h.way
  exact ⟨A, c, e, by rw [← h.key, List.length_map]⟩
set_option maxHeartbeats 12800000 in
theorem flush_g (h : PR GB base w pb p m lab) : Calls Try.prog 28 #[ptr pb] w fun e w' => e = .returned (.tuple #[]) ∧ (∃ m' lab', PR GB base w' pb p.flush m' lab' ∧ Gh w w' lab lab') ∧ Below base w w' := by
  have hbs : base ≤ w.heap.size := by have := h.lo; have := h.lt; omega
  have H := Lib.hid (show (∃ m' lab', PR GB base w pb p m' lab' ∧ Gh w w lab lab') ∧ Below base w w from ⟨⟨m, lab, h, Gh.refl _ _⟩, Below.refl _ _⟩)
  clear h
  unfold ptr
  go_enter Try.func28, Try.ntmps28
  go_wp2_with fail
  go_loopw [5] (fun v wr => Below base w wr ∧ ((v = .int .i64 0 ∧ ∃ m' lab', PR GB base wr pb p m' lab' ∧ Gh w wr lab lab') ∨ (v = .int .i64 1 ∧ ∃ m' lab', PR GB base wr pb { p with f0 := p.f0.quiet, way := addw 1 p.way p.f0.os } m' lab' ∧ Gh w wr lab lab') ∨ (v = .int .i64 2 ∧ ∃ m' lab', PR GB base wr pb p.flush m' lab' ∧ Gh w wr lab lab'))) (fun v _ => 2 - (intOf v).toNat)
  case atStart => exact ⟨H.out.2, .inl ⟨rfl, H.out.1⟩⟩
  case round =>
    obtain ⟨hB, ⟨rfl, m1, lab1, h1, gh1⟩ | ⟨rfl, m1, lab1, h1, gh1⟩ | ⟨rfl, m1, lab1, h1, gh1⟩⟩ := hrel
    · obtain ⟨wx, rfl⟩ : ∃ wx, wx = wr := ⟨_, rfl⟩
      have HO := Lib.hid (Out_any h1.fa)
      have hol : m1.a.ol.map Oc.key = p.f0.os := h1.fa.os
      have H1 := Lib.hid h1
      have q0 : wx.cell? ⟨pb, 0, none⟩ = some (.pointer (some ⟨m1.a.fb, 0, none⟩)) := h1.at_ 0
      unfold ptr at HO
      have HBr := Lib.hid hB
      have HGr := Lib.hid gh1
      clear h1 hB gh1
      go_wp2_with fail
      refine HO.out.mono ?_
      rintro e w1 ⟨rfl, f1, c1⟩
      have hout := H1.out.out0 f1 c1
      have HPR := Lib.hid hout.1
      have HOD := Lib.hid hout.2
      have HB1 : Hid (Below base w w1) := Lib.hid (HBr.out.trans (c1.belowB (by have := H1.out.lo; have := H1.out.lt; omega) (fun g e => by have := H1.out.fa.lo; omega)))
      have HG1 : Hid (Gh w w1 lab (labO lab1 m1.a.ol)) := Lib.hid (HGr.out.step c1 (fun g e => by have := H1.out.la g (.inl e); omega) (fun g hg e => labO_zero (d := 1) (fun j ⟨o, ho, hj⟩ => H1.out.la j (.inr (.inr (.inr ⟨o, ho, hj⟩)))) (by decide) e))
      clear f1 c1 hout HO
      obtain ⟨A0, c0, hv, hc1, hc2⟩ := own_slice HOD.out.row
      rw [hv] at HOD ⊢
      have HOL := Lib.hid hol
      generalize hn : m1.a.ol.length = n at *
      have HNL := Lib.hid hn
      clear hv hol hn
      go_wp2_with fail
      go_loopw [16] (fun v wr => ∃ j : Nat, j ≤ n ∧ v = .int .i64 (j : Int) ∧ Below base w wr ∧ ∃ m2 lab2, PR GB base wr pb { p with f0 := p.f0.quiet, way := addw 1 p.way (p.f0.os.take j) } m2 lab2 ∧ Od base wr lab2 (.slice A0 n c0) m1.a.ol 1 ∧ Gh w wr lab lab2) (fun v _ => n - (intOf v).toNat)
      case atStart => exact ⟨0, Nat.zero_le _, rfl, HB1.out, _, _, by rw [List.take_zero, addw_nil]; exact HPR.out, HOD.out, HG1.out⟩
      case round =>
        obtain ⟨j, hj, rfl, hBq, m2, lab2, h2, hod, gh2⟩ := hrel
        by_cases hlt : j < n
        · have hli : (j : Int) < (n : Int) := by omega
          have hrow := hod.row
          rw [HNL.out] at hrow
          obtain ⟨g, cap, hv0, hgb, hgl⟩ := hrow.form (by omega)
          injection hv0 with hA hn1 hcc
          subst hA hcc
          have hr := own_rangeO (j := j) (n := n) hrow hlt
          have hmem : m1.a.ol.getD j zO ∈ m1.a.ol := by
            rw [List.getD_eq_getElem?_getD, List.getElem?_eq_getElem (by rw [HNL.out]; exact hlt)]
            exact List.getElem_mem _
          have hog := hod.og _ hmem
          have hld := hod.ld _ hmem
          have htk : p.f0.os.take (j + 1) = p.f0.os.take j ++ [(m1.a.ol.getD j zO).key] := by
            have hl1 : p.f0.os.length = n := by rw [← HOL.out, List.length_map, HNL.out]
            rw [List.take_succ_eq_append_getElem (by rw [hl1]; exact hlt)]
            have h3 : (m1.a.ol.map Oc.key)[j]'(by rw [List.length_map, HNL.out]; exact hlt) = p.f0.os[j]'(by rw [hl1]; exact hlt) := by simp only [HOL.out]
            rw [← h3, List.getElem_map, List.getD_eq_getElem?_getD, List.getElem?_eq_getElem (by rw [HNL.out]; exact hlt)]
            rfl
          have HTK := Lib.hid htk
          have HOG := Lib.hid (And.intro hog hld)
          clear htk hrow hmem hog hld
          generalize m1.a.ol.getD j zO = o at *
          have H2 := Lib.hid h2
          have HODq := Lib.hid hod
          have HBq := Lib.hid hBq
          obtain ⟨A2, c2, hwv, hwl⟩ := Ms.way_slice h2
          obtain ⟨L, hL⟩ : ∃ L, m2.ws.length = L := ⟨_, rfl⟩
          rw [hL] at hwv hwl
          have HLL := Lib.hid (And.intro hL hwl)
          clear hL hwl
          have hwa2 : wr.cell? ⟨pb, 2, none⟩ = some m2.wv := h2.at_ 2
          rw [hwv] at hwa2
          have HWV := Lib.hid hwv
          have hplt := h2.lt
          have hk5 : ∀ W, Below wr.heap.size wr W → W.cell? ⟨pb, 2, none⟩ = some (.slice A2 L c2) := fun W b => cellB b hwa2
          have HK5 := Lib.hid hk5
          have HGq := Lib.hid gh2
          clear h2 hod hBq hwa2 hk5 hwv gh2
          have arm : True := trivial
          by_cases hfull : L < 60
          · have hfi : (L : Int) < 60 := by omega
            go_wp2_with (first
              | ((with_reducible refine wpList_here ?_); refine wpList_loadV (o := ⟨some 19, _, _, _, _, _⟩) rfl 54 (.tmp 18) rfl _ _ o.vals rfl hr _ Try.underlying54 rfl sizeOc ?_)
              | ((with_reducible refine wpList_here ?_); refine wpList_allocV (o := ⟨some 4, _, _, _, _, _⟩) rfl 54 rfl zO.vals zeroOc _ rfl ?_; intro w4 z4 b4 s4)
              | ((with_reducible refine wpList_here ?_); refine wpList_storeV rfl 54 (.tmp 4) (.tmp 19) rfl _ _ o.vals rfl rfl z4 rfl (oc_one _) sizeOc ?_; intro w5 z5 g5 s5; have HB5 := Lib.hid (v_below_g b4 g5 b4.size (Nat.le_refl _)); have HBq5 := Lib.hid (HBq.out.trans (HB5.out.mono (by have := H2.out.lo; have := H2.out.lt; omega))); have k5 := HK5.out w5 HB5.out; clear z4 b4 g5)
              | fail)
            have HB5 := Lib.hid HB5.out.drew
            have z5d : Own w5.drew wr.heap.size o.vals := z5
            have k5d : w5.drew.cell? ⟨pb, 2, none⟩ = some (.slice A2 L c2) := k5
            clear k5
            generalize hgv : wr.heap.size = gv at *
            generalize hwd : w5.drew = wd at *
            have e0 : wd.cell? ⟨pb, 2, none⟩ = some (.slice A2 L c2) ∧ wd.rangeAt gv 0 o.vals := ⟨k5d, z5d.range⟩
            refine wp_region_noPanic ?_
            refine until_start (fun W => W.cell? ⟨pb, 2, none⟩ = some (.slice A2 L c2) ∧ W.rangeAt gv 0 o.vals) 14 (by kernel_rfl) (by rw [hwd]; exact e0) (fun _ => ?_)
            rw [hwd]
            clear hwd
            refine until_take (i := 0) (v := .pointer (some ⟨pb, 0, none⟩)) (some 26) [14] rfl rfl (by kernel_rfl) (by kernel_rfl) (by kernel_rfl) (by kernel_rfl) rfl rfl (fun _ _ _ h => h) (Or.inl ⟨by rfl, fun W hW => by go_simp⟩) e0 ?_
            simp only [Act.put, List.setIfInBounds_toArray, List.set_cons_zero, List.set_cons_succ]
            refine until_take (i := 1) (v := .pointer (some ⟨pb, 0, none⟩)) (some 27) [14] rfl rfl (by kernel_rfl) (by kernel_rfl) (by kernel_rfl) (by kernel_rfl) rfl rfl (fun _ _ _ h => h) (Or.inl ⟨by rfl, fun W hW => by go_simp⟩) e0 ?_
            simp only [Act.put, List.setIfInBounds_toArray, List.set_cons_zero, List.set_cons_succ]
            refine until_take (i := 5) (v := .int .i64 0) (some 31) [14] rfl rfl (by kernel_rfl) (by kernel_rfl) (by kernel_rfl) (by kernel_rfl) rfl rfl (fun _ _ _ h => h) (Or.inl ⟨by rfl, fun W hW => by go_simp⟩) e0 ?_
            simp only [Act.put, List.setIfInBounds_toArray, List.set_cons_zero, List.set_cons_succ]
            refine until_take (i := 7) (v := .agg o.vals.toArray) (some 33) [14] rfl rfl (by kernel_rfl) (by kernel_rfl) (by kernel_rfl) (by kernel_rfl) rfl rfl (fun _ _ _ h => h) (yieldsIf_load_mid (by rfl) 54 (.tmp 4) rfl _ _ rfl _ _ (fun W hW => hW.2) Try.underlying54 rfl sizeOc) e0 ?_
            simp only [Act.put, List.setIfInBounds_toArray, List.set_cons_zero, List.set_cons_succ]
            refine until_take (i := 2) (v := .pointer (some ⟨pb, 0, none⟩)) (some 28) [14] rfl rfl (by kernel_rfl) (by kernel_rfl) (by kernel_rfl) (by kernel_rfl) rfl rfl (fun _ _ _ h => h) (Or.inl ⟨by rfl, fun W hW => by go_simp⟩) e0 ?_
            simp only [Act.put, List.setIfInBounds_toArray, List.set_cons_zero, List.set_cons_succ]
            refine until_take (i := 6) (v := .int .i64 1) (some 32) [14] rfl rfl (by kernel_rfl) (by kernel_rfl) (by kernel_rfl) (by kernel_rfl) rfl rfl (fun _ _ _ h => h) (Or.inl ⟨by rfl, fun W hW => by kernel_rfl⟩) e0 ?_
            simp only [Act.put, List.setIfInBounds_toArray, List.set_cons_zero, List.set_cons_succ]
            refine until_take (i := 3) (v := .pointer (some ⟨pb, 2, none⟩)) (some 29) [14] rfl rfl (by kernel_rfl) (by kernel_rfl) (by kernel_rfl) (by kernel_rfl) rfl rfl (fun _ _ _ h => h) (Or.inl ⟨by rfl, fun W hW => by go_simp⟩) e0 ?_
            simp only [Act.put, List.setIfInBounds_toArray, List.set_cons_zero, List.set_cons_succ]
            refine until_take (i := 4) (v := .slice A2 L c2) (some 30) [14] rfl rfl (by kernel_rfl) (by kernel_rfl) (by kernel_rfl) (by kernel_rfl) rfl rfl (fun _ _ _ h => h) (Or.inl ⟨by rfl, fun W hW => by have hc := hW.1; go_simp⟩) e0 ?_
            simp only [Act.put, List.setIfInBounds_toArray, List.set_cons_zero, List.set_cons_succ]
            refine until_step (i := 8) (by kernel_rfl) rfl rfl (fun K hK => ?_)
            go_simp
            refine (segment_any o _).mono ?_
            rintro e w6 ⟨rfl, b6⟩
            have HB6 := Lib.hid (HB5.out.trans (b6.mono (by have := HB5.out.size; omega)))
            have e0 : w6.cell? ⟨pb, 2, none⟩ = some (.slice A2 L c2) ∧ w6.rangeAt gv 0 o.vals := ⟨cellB b6 e0.1, range_below e0.2 b6⟩
            clear b6
            dsimp only
            refine hK.out _ _ e0 (fun _ => ?_)
            clear hK
            try simp only [Act.put, List.setIfInBounds_toArray, List.set_cons_zero, List.set_cons_succ]
            refine until_take (i := 9) (v := .agg (Pm.mk 1 o).vals.toArray) (some 35) [14] rfl rfl (by kernel_rfl) (by kernel_rfl) (by kernel_rfl) (by kernel_rfl) rfl rfl (fun _ _ _ h => h) (Or.inl ⟨by rfl, fun W hW => by kernel_rfl⟩) e0 ?_
            simp only [Act.put, List.setIfInBounds_toArray, List.set_cons_zero, List.set_cons_succ]
            refine until_step (i := 10) (by kernel_rfl) rfl rfl (fun K hK => ?_)
            refine step_litG (by rfl) (.tmp 35) 29 69 (Pm.mk 1 o).vals rfl (litK _ _) rfl _ rfl ?_
            intro w8 x8 b8 t8
            have HB8 : Hid (Below wr.heap.size wr w8) := Lib.hid (by rw [hgv]; exact HB6.out.trans (b8.mono (by have := HB6.out.size; omega)))
            have e8 : w8.cell? ⟨pb, 2, none⟩ = some (.slice A2 L c2) ∧ w8.rangeAt gv 0 o.vals := ⟨cellB b8 e0.1, range_below e0.2 b8⟩
            have H8 := Lib.hid (H2.out.below HB8.out)
            have HO8 := Lib.hid (HODq.out.below HB8.out)
            have hway := H8.out.way
            rw [HWV.out, HLL.out.1] at hway
            show K (Act.put _ (some 36) _) _
            refine hK.out _ _ e8 (fun _ => ?_)
            clear hK
            try simp only [Act.put, List.setIfInBounds_toArray, List.set_cons_zero, List.set_cons_succ]
            refine until_step (i := 11) (by kernel_rfl) rfl rfl (fun K hK => ?_)
            refine step_appG rfl (.tmp 30) (.tmp 36) 29 69 rfl (.agg zPm.vals.toArray) 14 112 Try.underlying29 infoPk rfl (by decide) (by decide) base (.slice A2 L c2) L (pkv m2.ws) rfl hway (some ⟨w6.heap.size, 0, none⟩) 1 1 (Pm.mk 1 o).vals rfl ⟨rfl, Nat.le_refl _, by omega, pm_one _, fun _ => ⟨_, _, rfl, x8.range⟩⟩ (by omega) (by have := H8.out.lo; have := H8.out.lt; omega) ?_
            intro v9 w9 r9 g9 o9
            have e9 : w9.cell? ⟨pb, 2, none⟩ = some (.slice A2 L c2) ∧ w9.rangeAt gv 0 o.vals := ⟨(g9.cell_far _ (by have := H8.out.lt; exact this) (fun e => by have h3 := H8.out.lw pb (by rw [HWV.out]; exact e.symm); have := H8.out.lp; omega)).trans e8.1, fun i y hy => (g9.cell_far _ (World.block_lt_of_cell? w8 _ (e8.2 i y hy)) (fun e => by have h3 := (own_in H2.out.way (g := gv) (by rw [HWV.out]; exact e.symm)).2; omega)).trans (e8.2 i y hy)⟩
            have HAP := Lib.hid (H8.out.append (Pm.mk 1 o) ⟨(HOG.out.1.1.below HB8.out), HOG.out.1.2, by show 1 ≤ 1; omega⟩ HOG.out.2 (v' := v9) (w' := w9) (by rw [HLL.out.1]; exact r9) (by rw [HWV.out]; exact g9) (by rw [HWV.out]; exact o9))
            obtain ⟨A9, k9, rfl, hk9, hm9⟩ := own_slice r9
            generalize L + 1 = L9 at *
            have c9 := e9.1
            have f9 : w9.frozen? ⟨pb, 2, none⟩ = false := (g9.frozen_far _ (by have := H8.out.lt; exact this) (fun e => by have h3 := H8.out.lw pb (by rw [HWV.out]; exact e.symm); have := H8.out.lp; omega)).trans (H8.out.fz 2)
            clear r9 g9 o9 x8 e8 hway
            show K (Act.put _ (some 37) _) _
            refine hK.out _ _ e9 (fun _ => ?_)
            clear hK
            try simp only [Act.put, List.setIfInBounds_toArray, List.set_cons_zero, List.set_cons_succ]
            refine until_take (i := 12) (v := .pointer (some ⟨pb, 0, none⟩)) (some 38) [13, 14] rfl rfl (by kernel_rfl) (by kernel_rfl) (by kernel_rfl) (by kernel_rfl) rfl rfl (fun _ _ _ h => h) (Or.inl ⟨by rfl, fun W hW => by go_simp⟩) e9 ?_
            simp only [Act.put, List.setIfInBounds_toArray, List.set_cons_zero, List.set_cons_succ]
            refine until_take (i := 13) (v := .pointer (some ⟨pb, 2, none⟩)) (some 39) [14] rfl rfl (by kernel_rfl) (by kernel_rfl) (by kernel_rfl) (by kernel_rfl) rfl rfl (fun _ _ _ h => h) (Or.inl ⟨by rfl, fun W hW => by go_simp⟩) e9 ?_
            simp only [Act.put, List.setIfInBounds_toArray, List.set_cons_zero, List.set_cons_succ]
            refine until_last (by kernel_rfl) rfl (fun K hK => ?_)
            go_simp
            refine hK.out _ _ ?_
            clear hK
            try simp only [Act.put, List.setIfInBounds_toArray, List.set_cons_zero, List.set_cons_succ]
            refine wpAnyH_done (by kernel_rfl) ?_ _
            refine NoPanic.normal ?_
            obtain ⟨lab3, h3, hl3, c3⟩ := HAP.out
            have HEN := Lib.hid (And.intro h3 (HO8.out.frame c3 (fun g hg => by rcases hg with rfl | hg; exact .inl H8.out.lp; exact .inr (H8.out.lw g hg)) (by omega) hl3))
            have HBE : Hid (Below base w (w9.setCell ⟨pb, 2, none⟩ (.slice A9 L9 k9))) := Lib.hid ((HBq.out.trans (HB8.out.mono (by have := H2.out.lo; have := H2.out.lt; omega))).trans (c3.belowB (by have := H8.out.lo; have := H8.out.lt; omega) (fun g hg => by rcases hg with rfl | hg; exact H8.out.lo; exact (own_in H8.out.way hg).1)))
            have HGE := Lib.hid ((HGq.out.below HB8.out).step c3 (fun g hg => by rcases hg with rfl | hg; (have := H8.out.lp; omega); (have := H8.out.lw g hg; omega)) (fun g hg e => (hl3 g hg).trans e))
            clear h3 hl3 c3 e9 c9 f9
            generalize w9.setCell ⟨pb, 2, none⟩ (.slice A9 L9 k9) = w10 at *
            go_wp2_with fail
            go_roundw
            case rel => exact ⟨j + 1, by omega, by go_num, HBE.out, _, lab3, by rw [HTK.out, addw_snoc, if_pos (by rw [show (addw 1 p.way (p.f0.os.take j)).length = L from HLL.out.2.symm]; exact hfull)]; exact HEN.out.1, HEN.out.2, HGE.out⟩
            case measure => simp [intOf]; omega
          · have hfi : decide ((L : Int) < 60) = false := decide_eq_false (by omega)
            go_wp2_with (first
              | ((with_reducible refine wpList_here ?_); refine wpList_loadV (o := ⟨some 19, _, _, _, _, _⟩) rfl 54 (.tmp 18) rfl _ _ o.vals rfl hr _ Try.underlying54 rfl sizeOc ?_)
              | ((with_reducible refine wpList_here ?_); refine wpList_allocV (o := ⟨some 4, _, _, _, _, _⟩) rfl 54 rfl zO.vals zeroOc _ rfl ?_; intro w4 z4 b4 s4)
              | ((with_reducible refine wpList_here ?_); refine wpList_storeV rfl 54 (.tmp 4) (.tmp 19) rfl _ _ o.vals rfl rfl z4 rfl (oc_one _) sizeOc ?_; intro w5 z5 g5 s5; have HB5 := Lib.hid (v_below_g b4 g5 b4.size (Nat.le_refl _)); have HBq5 := Lib.hid (HBq.out.trans (HB5.out.mono (by have := H2.out.lo; have := H2.out.lt; omega))); have k5 := HK5.out w5 HB5.out; clear z4 b4 g5)
              | fail)
            go_roundw
            case rel => exact ⟨j + 1, by omega, by go_num, HBq5.out, m2, lab2, by rw [HTK.out, addw_snoc, if_neg (by rw [show (addw 1 p.way (p.f0.os.take j)).length = L from HLL.out.2.symm]; exact hfull)]; exact H2.out.below HB5.out, HODq.out.below HB5.out, HGq.out.below HB5.out⟩
            case measure => simp [intOf]; omega
        · obtain rfl : j = n := by omega
          have hl1 : p.f0.os.length = j := by rw [← HOL.out, List.length_map, HNL.out]
          have HE : Hid (∃ m2 lab2, PR GB base wr pb { p with f0 := p.f0.quiet, way := addw 1 p.way p.f0.os } m2 lab2 ∧ Gh w wr lab lab2) := Lib.hid ⟨m2, lab2, by
            have := h2
            rw [List.take_of_length_le (by rw [hl1]; exact Nat.le_refl _)] at this
            exact this, gh2⟩
          clear h2 hod gh2
          go_wp2_with fail
          go_roundw
          case rel => exact ⟨hBq, .inr (.inl ⟨rfl, HE.out⟩)⟩
          case measure => simp [intOf]
    · obtain ⟨wx, rfl⟩ : ∃ wx, wx = wr := ⟨_, rfl⟩
      cases hf : p.f1 with
      | some f =>
        obtain ⟨s, hs, hF⟩ := h1.fb f hf
        have HFL : Hid (p.flush = { p with f0 := p.f0.quiet, f1 := some f.quiet, way := addw 0 (addw 1 p.way p.f0.os) f.os }) := Lib.hid (by unfold P.flush outs; rw [hf]; rfl)
        have HO := Lib.hid (Out_any hF)
        have hol : s.ol.map Oc.key = f.os := hF.os
        have H1 := Lib.hid (And.intro h1 (And.intro hs hF))
        have q0 : wx.cell? ⟨pb, 1, none⟩ = some (.pointer (some ⟨s.fb, 0, none⟩)) := by
          rw [h1.at_ 1]
          unfold Ms.cs f1v
          rw [hs]
          rfl
        unfold ptr at HO
        have HBr := Lib.hid hB
        have HGr := Lib.hid gh1
        clear h1 hB hs hF gh1
        go_wp2_with fail
        refine HO.out.mono ?_
        rintro e w1 ⟨rfl, f1, c1⟩
        have hout := H1.out.1.out1 H1.out.2.1 hf H1.out.2.2 f1 c1
        have HPR := Lib.hid hout.1
        have HOD := Lib.hid hout.2
        have HB1 : Hid (Below base w w1) := Lib.hid (HBr.out.trans (c1.belowB (by have := H1.out.1.lo; have := H1.out.1.lt; omega) (fun g e => by have := H1.out.2.2.lo; omega)))
        have HG1 : Hid (Gh w w1 lab (labO lab1 s.ol)) := Lib.hid (HGr.out.step c1 (fun g e => by have := H1.out.1.lb s H1.out.2.1 g (.inl e); omega) (fun g hg e => labO_zero (d := 2) (fun j ⟨o, ho, hj⟩ => H1.out.1.lb s H1.out.2.1 j (.inr (.inr (.inr ⟨o, ho, hj⟩)))) (by decide) e))
        clear f1 c1 hout HO hf
        obtain ⟨A0, c0, hv, hc1, hc2⟩ := own_slice HOD.out.row
        rw [hv] at HOD ⊢
        have HOL := Lib.hid hol
        generalize hn : s.ol.length = n at *
        have HNL := Lib.hid hn
        clear hv hol hn
        go_wp2_with fail
        go_loopw [16] (fun v wr => ∃ j : Nat, j ≤ n ∧ v = .int .i64 (j : Int) ∧ Below base w wr ∧ ∃ m2 lab2, PR GB base wr pb { p with f0 := p.f0.quiet, f1 := some f.quiet, way := addw 0 (addw 1 p.way p.f0.os) (f.os.take j) } m2 lab2 ∧ Od base wr lab2 (.slice A0 n c0) s.ol 2 ∧ Gh w wr lab lab2) (fun v _ => n - (intOf v).toNat)
        case atStart => exact ⟨0, Nat.zero_le _, rfl, HB1.out, _, _, by rw [List.take_zero, addw_nil]; exact HPR.out, HOD.out, HG1.out⟩
        case round =>
          obtain ⟨j, hj, rfl, hBq, m2, lab2, h2, hod, gh2⟩ := hrel
          by_cases hlt : j < n
          · have hli : (j : Int) < (n : Int) := by omega
            have hrow := hod.row
            rw [HNL.out] at hrow
            obtain ⟨g, cap, hv0, hgb, hgl⟩ := hrow.form (by omega)
            injection hv0 with hA hn1 hcc
            subst hA hcc
            have hr := own_rangeO (j := j) (n := n) hrow hlt
            have hmem : s.ol.getD j zO ∈ s.ol := by
              rw [List.getD_eq_getElem?_getD, List.getElem?_eq_getElem (by rw [HNL.out]; exact hlt)]
              exact List.getElem_mem _
            have hog := hod.og _ hmem
            have hld := hod.ld _ hmem
            have htk : f.os.take (j + 1) = f.os.take j ++ [(s.ol.getD j zO).key] := by
              have hl1 : f.os.length = n := by rw [← HOL.out, List.length_map, HNL.out]
              rw [List.take_succ_eq_append_getElem (by rw [hl1]; exact hlt)]
              have h3 : (s.ol.map Oc.key)[j]'(by rw [List.length_map, HNL.out]; exact hlt) = f.os[j]'(by rw [hl1]; exact hlt) := by simp only [HOL.out]
              rw [← h3, List.getElem_map, List.getD_eq_getElem?_getD, List.getElem?_eq_getElem (by rw [HNL.out]; exact hlt)]
              rfl
            have HTK := Lib.hid htk
            have HOG := Lib.hid (And.intro hog hld)
            clear htk hrow hmem hog hld
            generalize s.ol.getD j zO = o at *
            have H2 := Lib.hid h2
            have HODq := Lib.hid hod
            have HBq := Lib.hid hBq
            obtain ⟨A2, c2, hwv, hwl⟩ := Ms.way_slice h2
            obtain ⟨L, hL⟩ : ∃ L, m2.ws.length = L := ⟨_, rfl⟩
            rw [hL] at hwv hwl
            have HLL := Lib.hid (And.intro hL hwl)
            clear hL hwl
            have hwa2 : wr.cell? ⟨pb, 2, none⟩ = some m2.wv := h2.at_ 2
            rw [hwv] at hwa2
            have HWV := Lib.hid hwv
            have hplt := h2.lt
            have hk5 : ∀ W, Below wr.heap.size wr W → W.cell? ⟨pb, 2, none⟩ = some (.slice A2 L c2) := fun W b => cellB b hwa2
            have HK5 := Lib.hid hk5
            have HGq := Lib.hid gh2
            clear h2 hod hBq hwa2 hk5 hwv gh2
            have arm : True := trivial
            by_cases hfull : L < 60
            · have hfi : (L : Int) < 60 := by omega
              go_wp2_with (first
                | ((with_reducible refine wpList_here ?_); refine wpList_loadV (o := ⟨some 19, _, _, _, _, _⟩) rfl 54 (.tmp 18) rfl _ _ o.vals rfl hr _ Try.underlying54 rfl sizeOc ?_)
                | ((with_reducible refine wpList_here ?_); refine wpList_allocV (o := ⟨some 4, _, _, _, _, _⟩) rfl 54 rfl zO.vals zeroOc _ rfl ?_; intro w4 z4 b4 s4)
                | ((with_reducible refine wpList_here ?_); refine wpList_storeV rfl 54 (.tmp 4) (.tmp 19) rfl _ _ o.vals rfl rfl z4 rfl (oc_one _) sizeOc ?_; intro w5 z5 g5 s5; have HB5 := Lib.hid (v_below_g b4 g5 b4.size (Nat.le_refl _)); have HBq5 := Lib.hid (HBq.out.trans (HB5.out.mono (by have := H2.out.lo; have := H2.out.lt; omega))); have k5 := HK5.out w5 HB5.out; clear z4 b4 g5)
                | fail)
              have HB5 := Lib.hid HB5.out.drew
              have z5d : Own w5.drew wr.heap.size o.vals := z5
              have k5d : w5.drew.cell? ⟨pb, 2, none⟩ = some (.slice A2 L c2) := k5
              clear k5
              generalize hgv : wr.heap.size = gv at *
              generalize hwd : w5.drew = wd at *
              have e0 : wd.cell? ⟨pb, 2, none⟩ = some (.slice A2 L c2) ∧ wd.rangeAt gv 0 o.vals := ⟨k5d, z5d.range⟩
              refine wp_region_noPanic ?_
              refine until_start (fun W => W.cell? ⟨pb, 2, none⟩ = some (.slice A2 L c2) ∧ W.rangeAt gv 0 o.vals) 14 (by kernel_rfl) (by rw [hwd]; exact e0) (fun _ => ?_)
              rw [hwd]
              clear hwd
              refine until_take (i := 0) (v := .pointer (some ⟨pb, 0, none⟩)) (some 26) [14] rfl rfl (by kernel_rfl) (by kernel_rfl) (by kernel_rfl) (by kernel_rfl) rfl rfl (fun _ _ _ h => h) (Or.inl ⟨by rfl, fun W hW => by go_simp⟩) e0 ?_
              simp only [Act.put, List.setIfInBounds_toArray, List.set_cons_zero, List.set_cons_succ]
              refine until_take (i := 1) (v := .pointer (some ⟨pb, 0, none⟩)) (some 27) [14] rfl rfl (by kernel_rfl) (by kernel_rfl) (by kernel_rfl) (by kernel_rfl) rfl rfl (fun _ _ _ h => h) (Or.inl ⟨by rfl, fun W hW => by go_simp⟩) e0 ?_
              simp only [Act.put, List.setIfInBounds_toArray, List.set_cons_zero, List.set_cons_succ]
              refine until_take (i := 5) (v := .int .i64 1) (some 31) [14] rfl rfl (by kernel_rfl) (by kernel_rfl) (by kernel_rfl) (by kernel_rfl) rfl rfl (fun _ _ _ h => h) (Or.inl ⟨by rfl, fun W hW => by go_simp⟩) e0 ?_
              simp only [Act.put, List.setIfInBounds_toArray, List.set_cons_zero, List.set_cons_succ]
              refine until_take (i := 7) (v := .agg o.vals.toArray) (some 33) [14] rfl rfl (by kernel_rfl) (by kernel_rfl) (by kernel_rfl) (by kernel_rfl) rfl rfl (fun _ _ _ h => h) (yieldsIf_load_mid (by rfl) 54 (.tmp 4) rfl _ _ rfl _ _ (fun W hW => hW.2) Try.underlying54 rfl sizeOc) e0 ?_
              simp only [Act.put, List.setIfInBounds_toArray, List.set_cons_zero, List.set_cons_succ]
              refine until_take (i := 2) (v := .pointer (some ⟨pb, 0, none⟩)) (some 28) [14] rfl rfl (by kernel_rfl) (by kernel_rfl) (by kernel_rfl) (by kernel_rfl) rfl rfl (fun _ _ _ h => h) (Or.inl ⟨by rfl, fun W hW => by go_simp⟩) e0 ?_
              simp only [Act.put, List.setIfInBounds_toArray, List.set_cons_zero, List.set_cons_succ]
              refine until_take (i := 6) (v := .int .i64 0) (some 32) [14] rfl rfl (by kernel_rfl) (by kernel_rfl) (by kernel_rfl) (by kernel_rfl) rfl rfl (fun _ _ _ h => h) (Or.inl ⟨by rfl, fun W hW => by kernel_rfl⟩) e0 ?_
              simp only [Act.put, List.setIfInBounds_toArray, List.set_cons_zero, List.set_cons_succ]
              refine until_take (i := 3) (v := .pointer (some ⟨pb, 2, none⟩)) (some 29) [14] rfl rfl (by kernel_rfl) (by kernel_rfl) (by kernel_rfl) (by kernel_rfl) rfl rfl (fun _ _ _ h => h) (Or.inl ⟨by rfl, fun W hW => by go_simp⟩) e0 ?_
              simp only [Act.put, List.setIfInBounds_toArray, List.set_cons_zero, List.set_cons_succ]
              refine until_take (i := 4) (v := .slice A2 L c2) (some 30) [14] rfl rfl (by kernel_rfl) (by kernel_rfl) (by kernel_rfl) (by kernel_rfl) rfl rfl (fun _ _ _ h => h) (Or.inl ⟨by rfl, fun W hW => by have hc := hW.1; go_simp⟩) e0 ?_
              simp only [Act.put, List.setIfInBounds_toArray, List.set_cons_zero, List.set_cons_succ]
              refine until_step (i := 8) (by kernel_rfl) rfl rfl (fun K hK => ?_)
              go_simp
              refine (segment_any o _).mono ?_
              rintro e w6 ⟨rfl, b6⟩
              have HB6 := Lib.hid (HB5.out.trans (b6.mono (by have := HB5.out.size; omega)))
              have e0 : w6.cell? ⟨pb, 2, none⟩ = some (.slice A2 L c2) ∧ w6.rangeAt gv 0 o.vals := ⟨cellB b6 e0.1, range_below e0.2 b6⟩
              clear b6
              dsimp only
              refine hK.out _ _ e0 (fun _ => ?_)
              clear hK
              try simp only [Act.put, List.setIfInBounds_toArray, List.set_cons_zero, List.set_cons_succ]
              refine until_take (i := 9) (v := .agg (Pm.mk 0 o).vals.toArray) (some 35) [14] rfl rfl (by kernel_rfl) (by kernel_rfl) (by kernel_rfl) (by kernel_rfl) rfl rfl (fun _ _ _ h => h) (Or.inl ⟨by rfl, fun W hW => by kernel_rfl⟩) e0 ?_
              simp only [Act.put, List.setIfInBounds_toArray, List.set_cons_zero, List.set_cons_succ]
              refine until_step (i := 10) (by kernel_rfl) rfl rfl (fun K hK => ?_)
              refine step_litG (by rfl) (.tmp 35) 29 69 (Pm.mk 0 o).vals rfl (litK _ _) rfl _ rfl ?_
              intro w8 x8 b8 t8
              have HB8 : Hid (Below wr.heap.size wr w8) := Lib.hid (by rw [hgv]; exact HB6.out.trans (b8.mono (by have := HB6.out.size; omega)))
              have e8 : w8.cell? ⟨pb, 2, none⟩ = some (.slice A2 L c2) ∧ w8.rangeAt gv 0 o.vals := ⟨cellB b8 e0.1, range_below e0.2 b8⟩
              have H8 := Lib.hid (H2.out.below HB8.out)
              have HO8 := Lib.hid (HODq.out.below HB8.out)
              have hway := H8.out.way
              rw [HWV.out, HLL.out.1] at hway
              show K (Act.put _ (some 36) _) _
              refine hK.out _ _ e8 (fun _ => ?_)
              clear hK
              try simp only [Act.put, List.setIfInBounds_toArray, List.set_cons_zero, List.set_cons_succ]
              refine until_step (i := 11) (by kernel_rfl) rfl rfl (fun K hK => ?_)
              refine step_appG rfl (.tmp 30) (.tmp 36) 29 69 rfl (.agg zPm.vals.toArray) 14 112 Try.underlying29 infoPk rfl (by decide) (by decide) base (.slice A2 L c2) L (pkv m2.ws) rfl hway (some ⟨w6.heap.size, 0, none⟩) 1 1 (Pm.mk 0 o).vals rfl ⟨rfl, Nat.le_refl _, by omega, pm_one _, fun _ => ⟨_, _, rfl, x8.range⟩⟩ (by omega) (by have := H8.out.lo; have := H8.out.lt; omega) ?_
              intro v9 w9 r9 g9 o9
              have e9 : w9.cell? ⟨pb, 2, none⟩ = some (.slice A2 L c2) ∧ w9.rangeAt gv 0 o.vals := ⟨(g9.cell_far _ (by have := H8.out.lt; exact this) (fun e => by have h3 := H8.out.lw pb (by rw [HWV.out]; exact e.symm); have := H8.out.lp; omega)).trans e8.1, fun i y hy => (g9.cell_far _ (World.block_lt_of_cell? w8 _ (e8.2 i y hy)) (fun e => by have h3 := (own_in H2.out.way (g := gv) (by rw [HWV.out]; exact e.symm)).2; omega)).trans (e8.2 i y hy)⟩
              have HAP := Lib.hid (H8.out.append (Pm.mk 0 o) ⟨(HOG.out.1.1.below HB8.out), HOG.out.1.2, by show 0 ≤ 1; omega⟩ HOG.out.2 (v' := v9) (w' := w9) (by rw [HLL.out.1]; exact r9) (by rw [HWV.out]; exact g9) (by rw [HWV.out]; exact o9))
              obtain ⟨A9, k9, rfl, hk9, hm9⟩ := own_slice r9
              generalize L + 1 = L9 at *
              have c9 := e9.1
              have f9 : w9.frozen? ⟨pb, 2, none⟩ = false := (g9.frozen_far _ (by have := H8.out.lt; exact this) (fun e => by have h3 := H8.out.lw pb (by rw [HWV.out]; exact e.symm); have := H8.out.lp; omega)).trans (H8.out.fz 2)
              clear r9 g9 o9 x8 e8 hway
              show K (Act.put _ (some 37) _) _
              refine hK.out _ _ e9 (fun _ => ?_)
              clear hK
              try simp only [Act.put, List.setIfInBounds_toArray, List.set_cons_zero, List.set_cons_succ]
              refine until_take (i := 12) (v := .pointer (some ⟨pb, 0, none⟩)) (some 38) [13, 14] rfl rfl (by kernel_rfl) (by kernel_rfl) (by kernel_rfl) (by kernel_rfl) rfl rfl (fun _ _ _ h => h) (Or.inl ⟨by rfl, fun W hW => by go_simp⟩) e9 ?_
              simp only [Act.put, List.setIfInBounds_toArray, List.set_cons_zero, List.set_cons_succ]
              refine until_take (i := 13) (v := .pointer (some ⟨pb, 2, none⟩)) (some 39) [14] rfl rfl (by kernel_rfl) (by kernel_rfl) (by kernel_rfl) (by kernel_rfl) rfl rfl (fun _ _ _ h => h) (Or.inl ⟨by rfl, fun W hW => by go_simp⟩) e9 ?_
              simp only [Act.put, List.setIfInBounds_toArray, List.set_cons_zero, List.set_cons_succ]
              refine until_last (by kernel_rfl) rfl (fun K hK => ?_)
              go_simp
              refine hK.out _ _ ?_
              clear hK
              try simp only [Act.put, List.setIfInBounds_toArray, List.set_cons_zero, List.set_cons_succ]
              refine wpAnyH_done (by kernel_rfl) ?_ _
              refine NoPanic.normal ?_
              obtain ⟨lab3, h3, hl3, c3⟩ := HAP.out
              have HEN := Lib.hid (And.intro h3 (HO8.out.frame c3 (fun g hg => by rcases hg with rfl | hg; exact .inl H8.out.lp; exact .inr (H8.out.lw g hg)) (by omega) hl3))
              have HBE : Hid (Below base w (w9.setCell ⟨pb, 2, none⟩ (.slice A9 L9 k9))) := Lib.hid ((HBq.out.trans (HB8.out.mono (by have := H2.out.lo; have := H2.out.lt; omega))).trans (c3.belowB (by have := H8.out.lo; have := H8.out.lt; omega) (fun g hg => by rcases hg with rfl | hg; exact H8.out.lo; exact (own_in H8.out.way hg).1)))
              have HGE := Lib.hid ((HGq.out.below HB8.out).step c3 (fun g hg => by rcases hg with rfl | hg; (have := H8.out.lp; omega); (have := H8.out.lw g hg; omega)) (fun g hg e => (hl3 g hg).trans e))
              clear h3 hl3 c3 e9 c9 f9
              generalize w9.setCell ⟨pb, 2, none⟩ (.slice A9 L9 k9) = w10 at *
              go_wp2_with fail
              go_roundw
              case rel => exact ⟨j + 1, by omega, by go_num, HBE.out, _, lab3, by rw [HTK.out, addw_snoc, if_pos (by rw [show (addw 0 (addw 1 p.way p.f0.os) (f.os.take j)).length = L from HLL.out.2.symm]; exact hfull)]; exact HEN.out.1, HEN.out.2, HGE.out⟩
              case measure => simp [intOf]; omega
            · have hfi : decide ((L : Int) < 60) = false := decide_eq_false (by omega)
              go_wp2_with (first
                | ((with_reducible refine wpList_here ?_); refine wpList_loadV (o := ⟨some 19, _, _, _, _, _⟩) rfl 54 (.tmp 18) rfl _ _ o.vals rfl hr _ Try.underlying54 rfl sizeOc ?_)
                | ((with_reducible refine wpList_here ?_); refine wpList_allocV (o := ⟨some 4, _, _, _, _, _⟩) rfl 54 rfl zO.vals zeroOc _ rfl ?_; intro w4 z4 b4 s4)
                | ((with_reducible refine wpList_here ?_); refine wpList_storeV rfl 54 (.tmp 4) (.tmp 19) rfl _ _ o.vals rfl rfl z4 rfl (oc_one _) sizeOc ?_; intro w5 z5 g5 s5; have HB5 := Lib.hid (v_below_g b4 g5 b4.size (Nat.le_refl _)); have HBq5 := Lib.hid (HBq.out.trans (HB5.out.mono (by have := H2.out.lo; have := H2.out.lt; omega))); have k5 := HK5.out w5 HB5.out; clear z4 b4 g5)
                | fail)
              go_roundw
              case rel => exact ⟨j + 1, by omega, by go_num, HBq5.out, m2, lab2, by rw [HTK.out, addw_snoc, if_neg (by rw [show (addw 0 (addw 1 p.way p.f0.os) (f.os.take j)).length = L from HLL.out.2.symm]; exact hfull)]; exact H2.out.below HB5.out, HODq.out.below HB5.out, HGq.out.below HB5.out⟩
              case measure => simp [intOf]; omega
          · obtain rfl : j = n := by omega
            have hl1 : f.os.length = j := by rw [← HOL.out, List.length_map, HNL.out]
            have HE : Hid (∃ m2 lab2, PR GB base wr pb p.flush m2 lab2 ∧ Gh w wr lab lab2) := Lib.hid ⟨m2, lab2, by
              rw [HFL.out]
              have := h2
              rw [List.take_of_length_le (by rw [hl1]; exact Nat.le_refl _)] at this
              exact this, gh2⟩
            clear h2 hod gh2
            go_wp2_with fail
            go_roundw
            case rel => exact ⟨hBq, .inr (.inr ⟨rfl, HE.out⟩)⟩
            case measure => simp [intOf]
      | none =>
        have HFL : Hid (p.flush = { p with f0 := p.f0.quiet, way := addw 1 p.way p.f0.os }) := Lib.hid (by unfold P.flush outs; rw [hf, addw_nil]; show ({ p with f0 := p.f0.quiet, f1 := none, way := _ } : P) = _; rw [← hf])
        have hb := h1.fn hf
        have q0 : wx.cell? ⟨pb, 1, none⟩ = some (.pointer none) := by
          rw [h1.at_ 1]
          unfold Ms.cs f1v
          rw [hb]
          rfl
        have HN := Lib.hid (fun W => nOut W)
        have H1 := Lib.hid h1
        have HGr := Lib.hid gh1
        have HBr := Lib.hid hB
        unfold nilp at HN
        clear h1 hB hb hf gh1
        go_wp2_with (first
          | (go_at_call 18; refine (HN.out _).mono ?_; rintro e w1 ⟨rfl, hw1⟩; obtain rfl : wx = w1 := hw1.symm)
          | fail)
        go_loopw [16] (fun v wr => v = .int .i64 0 ∧ wr = wx) (fun _ _ => 0)
        case atStart => exact ⟨rfl, rfl⟩
        case round =>
          obtain ⟨rfl, rfl⟩ := hrel
          go_wp2_with fail
          go_roundw
          case rel => exact ⟨HBr.out, .inr (.inr ⟨rfl, _, _, by rw [HFL.out]; exact H1.out, HGr.out⟩)⟩
          case measure => simp [intOf]
    · go_wp2_with fail
      go_end0
      exact ⟨rfl, ⟨m1, lab1, h1, gh1⟩, hB⟩
theorem flush_any (h : PR GB base w pb p m lab) : Calls Try.prog 28 #[ptr pb] w fun e w' => e = .returned (.tuple #[]) ∧ (∃ m' lab', PR GB base w' pb p.flush m' lab') ∧ Below base w w' :=
  (flush_g h).mono fun _ _ ⟨e, ⟨m', lab', a, _⟩, b⟩ => ⟨e, ⟨m', lab', a⟩, b⟩
end
end Go.Proofs.Ytnpkmkjenlhkiaa
