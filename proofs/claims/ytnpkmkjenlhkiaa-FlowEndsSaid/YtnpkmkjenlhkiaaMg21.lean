/- The law's comes. Conditions: the pair stands, its numbers within their bounds; the packet does not reset. -/
import Derived.Test.YtnpkmkjenlhkiaaMg20
namespace Go.Proofs.Ytnpkmkjenlhkiaa
set_option linter.unusedVariables false
set_option linter.unusedSimpArgs false
set_option maxRecDepth 20000
open Go.RowKit Go.Lib

section
variable {GB : Option Nat} {base : Nat} {w w' w1 : World} {pb : Nat} {p : P} {m : Ms} {lab lab' : Nat → Nat}
theorem Cq.below {wd W W' : World} {k : Pm} {gk FB tt : Nat} {og : Option Nat} {vs : List Value} (h : Cq GB base wd pb k gk FB tt p og vs W) (b : Below W.heap.size W W') : Cq GB base wd pb k gk FB tt p og vs W' := by
  obtain ⟨m, lab, hp, h1, h2, h3⟩ := h.pr
  exact ⟨⟨m, lab, hp.below b, h1, h2, h3⟩, h.po.below b, h.gk.below b, fun g e => (h.hd g e).below b, cellB b h.fp, h.b.trans (b.mono h.lo), Nat.le_trans h.lo b.size, h.t⟩
def ComesP (GB : Option Nat) (base : Nat) (w : World) (pb : Nat) (p : P) (e : Ending) (w' : World) : Prop := e = .returned (.tuple #[]) ∧ (∃ m' lab', PR GB base w' pb p m' lab') ∧ Below base w w'
theorem infoU8 : (Try.prog.info? 5).map (fun i => (i.zero, i.size, i.bytes)) = some (some (.int .u8 0), 1, 1) := by kernel_rfl
set_option maxHeartbeats 12800000 in
theorem comes_any (h : PR GB base w pb p m lab) (k : Pm) (hpo : PO base w k.o.p) (hack : k.o.ack < 4294967296) (hto : k.to ≤ 1) (hr : k.o.rst = false) (hbl : ∀ g, k.o.p.blk = some g → lab g = 9) (hdn : k.o.p.dn ≤ 549755813888)
    (hb0 : Fb p.f0) (hb1 : ∀ f, p.f1 = some f → Fb f) (hT : p.t ≤ 1152921504606846976) (hc0 : p.c0.length ≤ 549755813888) (hc1 : p.c1.length ≤ 549755813888) :
    Calls Try.prog 30 #[ptr pb, .agg k.vals.toArray] w (ComesP GB base w pb (p.comes k.key)) := by
  obtain ⟨to, o⟩ := k
  have H := Lib.hid h
  have HPO : Hid (PO base w o.p) := Lib.hid hpo
  have hplt := h.lt
  have hr : o.rst = false := hr
  have hack : o.ack < 4294967296 := hack
  have hbl : ∀ g, o.p.blk = some g → lab g = 9 := hbl
  have hdn : o.p.dn ≤ 549755813888 := hdn
  show Calls _ _ _ _ (ComesP GB base w pb (p.comes ⟨to, o.key⟩))
  unfold ptr
  unfold ComesP
  cases hf : p.f1 with
  | none =>
    rcases Nat.lt_or_ge to 1 with ht0 | ht1
    · obtain rfl : to = 0 := by omega
      as_aux_lemma =>
        have HCALL := Lib.hid (fun (gk : Nat) (wd : World) (og : Option Nat) (W : World) (q : Cq GB base wd pb ⟨0, o⟩ gk m.a.fb p.t p og hz W) => q.call0 rfl (by decide) hr hack hb0 (Nat.le_trans hdn (by decide)) hT)
        obtain ⟨fr, hfr⟩ : ∃ b, b = p.f0.heardO o.key p.t := ⟨_, rfl⟩
        obtain ⟨P1, hP1⟩ : ∃ q : P, q = { p with f0 := p.f0.hearO o.key p.t } := ⟨_, rfl⟩
        rw [← hfr, ← hP1] at HCALL
        have HCOM : Hid (p.comes ⟨0, o.key⟩ = { P1 with c0 := P1.c0 ++ (if fr = true then o.p.ds else []) }) := Lib.hid (by rw [hP1, hfr]; rfl)
        have HLC : Hid (P1.c0.length ≤ 549755813888) := Lib.hid (by rw [hP1]; exact hc0)
        have HDN := Lib.hid hdn
        have HBL := Lib.hid hbl
        clear hfr hP1
        clear h hr hack hdn hT hb0 hb1 hpo hbl hc0 hc1
        go_enter Try.func30, Try.ntmps30
        go_wp2_with (first
          | ((with_reducible refine wpList_here ?_); refine wpList_boxV (o := ⟨some 3, _, _, _, _, _⟩) rfl 69 (.tmp 1) rfl (Pm.mk 0 o).vals rfl _ rfl ?_; intro w1 z1 b1 s1; have k0 : w1.cell? ⟨w.heap.size, 0, none⟩ = some (.int .i64 0) := (z1 0 (by rw [Pm.vals_length]; omega)).1; have HB1 := Lib.hid b1; have HZ1 := Lib.hid z1; clear z1 b1)
          | fail)
        obtain ⟨gk, hgk⟩ : ∃ g, g = w.heap.size := ⟨_, rfl⟩
        obtain ⟨FB, hFB⟩ : ∃ g, g = m.a.fb := ⟨_, rfl⟩
        obtain ⟨tt, htt⟩ : ∃ g, g = p.t := ⟨_, rfl⟩
        rw [← hgk] at HZ1
        rw [← hgk]
        rw [← hFB, ← htt] at HCALL
        clear k0 
        have HBWX := Lib.hid (show Below base w w1.drew from (HB1.out.drew).mono (by have := H.out.lo; have := H.out.lt; omega))
        have HQ0 : Hid (Cq GB base w1.drew pb ⟨0, o⟩ gk FB tt p none hz w1.drew) := Lib.hid (by
          have hd := HB1.out.drew
          have hpk := H.out.relabel (lab' := fun j => if j < w.heap.size then lab j else 0) (fun j hj => if_pos hj)
          refine ⟨⟨m, _, hpk.below hd, if_neg (by omega), (fun g e => by cases e), fun g e => (if_pos (HPO.out.lt e).2).trans (HBL.out g e)⟩, HPO.out.below hd, HZ1.out, (fun g e => by cases e), ?_, Below.refl _ _, by have := H.out.lo; have := H.out.lt; have := hd.size; omega, htt.symm⟩
          have h1 := cellB hd (H.out.at_ 0)
          rw [hFB]; exact h1)
        have HGL : Hid (gk < w1.drew.heap.size) := Lib.hid (HQ0.out.gk.lt (by rw [Pm.vals_length]; omega))
        have HBS : Hid (base ≤ w1.drew.heap.size) := Lib.hid HQ0.out.lo
        have HQ := Lib.hid (And.intro HQ0.out (show w1.drew.cell? ⟨gk, 0, none⟩ = some (.int .i64 0) ∧ w1.drew.cell? ⟨pb, 0, none⟩ = some (.pointer (some ⟨FB, 0, none⟩)) ∧ w1.drew.rangeAt gk 1 o.sg ∧ w1.drew.cell? ⟨pb, 7, none⟩ = some (.int .i64 (tt : Int)) from ⟨HQ0.out.g0, HQ0.out.fp, HQ0.out.sg, HQ0.out.tick⟩))
        have HCALL := Lib.hid (HCALL.out gk w1.drew)
        have HBW := Lib.hid HBWX.out
        clear HQ0 HBWX HZ1 HB1 s1 hgk hFB htt
        generalize hwd : w1.drew = wd at *
        refine wp_region_noPanic ?_
        refine wp_region_held_drew (S := fun W => W.cell? ⟨gk, 0, none⟩ = some (.int .i64 0) ∧ W.cell? ⟨pb, 0, none⟩ = some (.pointer (some ⟨FB, 0, none⟩)) ∧ W.rangeAt gk 1 o.sg ∧ W.cell? ⟨pb, 7, none⟩ = some (.int .i64 (tt : Int))) (by kernel_rfl) (by rw [hwd]; exact HQ.out.2) (fun _ => ?_)
        rw [hwd]
        clear hwd
        refine held_take (i := 0) (v := .pointer (some ⟨pb, 0, none⟩)) (some 42) rfl rfl (by kernel_rfl) (by kernel_rfl) (by kernel_rfl) (fun _ _ _ h => h) (Or.inl ⟨by rfl, fun W hW => by go_simp⟩) HQ.out.2 ?_
        simp only [Act.put, List.setIfInBounds_toArray, List.set_cons_zero, List.set_cons_succ]
        refine held_take (i := 1) (v := .pointer (some ⟨gk, 0, none⟩)) (some 43) rfl rfl (by kernel_rfl) (by kernel_rfl) (by kernel_rfl) (fun _ _ _ h => h) (Or.inl ⟨by rfl, fun W hW => by go_simp⟩) HQ.out.2 ?_
        simp only [Act.put, List.setIfInBounds_toArray, List.set_cons_zero, List.set_cons_succ]
        refine held_take (i := 7) (v := .pointer (some ⟨gk, 1, none⟩)) (some 49) rfl rfl (by kernel_rfl) (by kernel_rfl) (by kernel_rfl) (fun _ _ _ h => h) (Or.inl ⟨by rfl, fun W hW => by go_simp⟩) HQ.out.2 ?_
        simp only [Act.put, List.setIfInBounds_toArray, List.set_cons_zero, List.set_cons_succ]
        refine held_take (i := 9) (v := .pointer (some ⟨pb, 0, none⟩)) (some 51) rfl rfl (by kernel_rfl) (by kernel_rfl) (by kernel_rfl) (fun _ _ _ h => h) (Or.inl ⟨by rfl, fun W hW => by go_simp⟩) HQ.out.2 ?_
        simp only [Act.put, List.setIfInBounds_toArray, List.set_cons_zero, List.set_cons_succ]
        refine held_take (i := 2) (v := .int .i64 0) (some 44) rfl rfl (by kernel_rfl) (by kernel_rfl) (by kernel_rfl) (fun _ _ _ h => h) (Or.inl ⟨by rfl, fun W hW => by have hc := hW.1; go_simp⟩) HQ.out.2 ?_
        simp only [Act.put, List.setIfInBounds_toArray, List.set_cons_zero, List.set_cons_succ]
        refine held_take (i := 3) (v := .pointer (some ⟨pb, 0, none⟩)) (some 45) rfl rfl (by kernel_rfl) (by kernel_rfl) (by kernel_rfl) (fun _ _ _ h => h) (Or.inl ⟨by rfl, fun W hW => by go_simp⟩) HQ.out.2 ?_
        simp only [Act.put, List.setIfInBounds_toArray, List.set_cons_zero, List.set_cons_succ]
        refine held_take (i := 8) (v := .agg o.sg.toArray) (some 50) rfl rfl (by kernel_rfl) (by kernel_rfl) (by kernel_rfl) (fun _ _ _ h => h) (yieldsIf_load_mid (by rfl) 47 (.tmp 49) rfl _ _ rfl _ _ (fun W hW => hW.2.2.1) Try.underlying47 rfl infoSg) HQ.out.2 ?_
        simp only [Act.put, List.setIfInBounds_toArray, List.set_cons_zero, List.set_cons_succ]
        refine held_take (i := 10) (v := .pointer (some ⟨pb, 0, none⟩)) (some 52) rfl rfl (by kernel_rfl) (by kernel_rfl) (by kernel_rfl) (fun _ _ _ h => h) (Or.inl ⟨by rfl, fun W hW => by go_simp⟩) HQ.out.2 ?_
        simp only [Act.put, List.setIfInBounds_toArray, List.set_cons_zero, List.set_cons_succ]
        refine held_take (i := 4) (v := .pointer (some ⟨pb, 0, none⟩)) (some 46) rfl rfl (by kernel_rfl) (by kernel_rfl) (by kernel_rfl) (fun _ _ _ h => h) (Or.inl ⟨by rfl, fun W hW => by go_simp⟩) HQ.out.2 ?_
        simp only [Act.put, List.setIfInBounds_toArray, List.set_cons_zero, List.set_cons_succ]
        refine held_take (i := 11) (v := .pointer (some ⟨pb, 7, none⟩)) (some 53) rfl rfl (by kernel_rfl) (by kernel_rfl) (by kernel_rfl) (fun _ _ _ h => h) (Or.inl ⟨by rfl, fun W hW => by go_simp⟩) HQ.out.2 ?_
        simp only [Act.put, List.setIfInBounds_toArray, List.set_cons_zero, List.set_cons_succ]
        refine held_take (i := 5) (v := .pointer (some ⟨pb, 0, none⟩)) (some 47) rfl rfl (by kernel_rfl) (by kernel_rfl) (by kernel_rfl) (fun _ _ _ h => h) (Or.inl ⟨by rfl, fun W hW => by go_simp⟩) HQ.out.2 ?_
        simp only [Act.put, List.setIfInBounds_toArray, List.set_cons_zero, List.set_cons_succ]
        refine held_take (i := 12) (v := .int .i64 (tt : Int)) (some 54) rfl rfl (by kernel_rfl) (by kernel_rfl) (by kernel_rfl) (fun _ _ _ h => h) (Or.inl ⟨by rfl, fun W hW => by have hc := hW.2.2.2; go_simp⟩) HQ.out.2 ?_
        simp only [Act.put, List.setIfInBounds_toArray, List.set_cons_zero, List.set_cons_succ]
        refine held_take (i := 6) (v := .pointer (some ⟨FB, 0, none⟩)) (some 48) rfl rfl (by kernel_rfl) (by kernel_rfl) (by kernel_rfl) (fun _ _ _ h => h) (Or.inl ⟨by rfl, fun W hW => by have hc := hW.2.1; go_simp⟩) HQ.out.2 ?_
        simp only [Act.put, List.setIfInBounds_toArray, List.set_cons_zero, List.set_cons_succ]
        refine wpAnyH_ready (rs := [13, 14]) (by kernel_rfl) (by simp) ?_
        refine AllReadyH.cons rfl (fun K hK => ?_) (AllReadyH.cons rfl (fun K hK => ?_) AllReadyH.nil)
        · go_simp
          refine (HCALL.out _ _ HQ.out.1).mono ?_
          rintro e w4 ⟨op4, fin4, A4, n4, c4, rfl, l4⟩
          have HQ4 := Lib.hid (And.intro l4 (show w4.cell? ⟨gk, 0, none⟩ = some (.int .i64 0) ∧ w4.cell? ⟨pb, 0, none⟩ = some (.pointer (some ⟨FB, 0, none⟩)) ∧ w4.rangeAt gk 1 o.sg ∧ w4.cell? ⟨pb, 7, none⟩ = some (.int .i64 (tt : Int)) from ⟨l4.g0, l4.fp, l4.sg, l4.tick⟩))
          clear l4
          dsimp only
          refine hK.out _ _ HQ4.out.2 (fun _ => ?_)
          clear hK
          try simp only [Act.put, List.setIfInBounds_toArray, List.set_cons_zero, List.set_cons_succ]
          refine wpAnyH_ready (rs := [14]) (by kernel_rfl) (by simp) ?_
          refine AllReadyH.cons rfl (fun K hK => ?_) AllReadyH.nil
          refine step_allocV (by rfl) 57 rfl hz zeroHd ?_
          intro g w5 hg z b s
          have l4 := HQ4.out.1.alloc hg.out z b
          have HGE := Lib.hid (show wd.heap.size ≤ g by rw [hg.out]; exact HQ4.out.1.b.size)
          have HQ5 := Lib.hid (And.intro l4 (show w5.cell? ⟨gk, 0, none⟩ = some (.int .i64 0) ∧ w5.cell? ⟨pb, 0, none⟩ = some (.pointer (some ⟨FB, 0, none⟩)) ∧ w5.rangeAt gk 1 o.sg ∧ w5.cell? ⟨pb, 7, none⟩ = some (.int .i64 (tt : Int)) from ⟨l4.g0, l4.fp, l4.sg, l4.tick⟩))
          clear l4 hg z b s
          show K (Act.put _ (some 4) _) _
          refine hK.out _ _ HQ5.out.2 (fun _ => ?_)
          clear hK
          try simp only [Act.put, List.setIfInBounds_toArray, List.set_cons_zero, List.set_cons_succ]
          refine wpAnyH_ready (rs := [15]) (by kernel_rfl) (by simp) ?_
          refine AllReadyH.cons rfl (fun K hK => ?_) AllReadyH.nil
          refine step_storeV (by rfl) 57 (.tmp 4) (.tmp 55) rfl g hz (hv op4 fin4 false false fr (.slice A4 n4 c4)) rfl rfl (HQ5.out.1.hd g rfl) rfl (hd_one _ _ _ _ _ rfl) infoHd ?_
          intro w6 z c s
          have l4 := HQ5.out.1.store (by have := HGE.out; have := HBS.out; omega) z (by have := HGE.out; have := HGL.out; omega) c
          have HQ6 := Lib.hid (And.intro l4 (show w6.cell? ⟨gk, 0, none⟩ = some (.int .i64 0) ∧ w6.cell? ⟨pb, 0, none⟩ = some (.pointer (some ⟨FB, 0, none⟩)) ∧ w6.rangeAt gk 1 o.sg ∧ w6.cell? ⟨pb, 7, none⟩ = some (.int .i64 (tt : Int)) from ⟨l4.g0, l4.fp, l4.sg, l4.tick⟩))
          clear l4 z c s
          show K (Act.put _ none _) _
          refine hK.out _ _ HQ6.out.2 (fun _ => ?_)
          clear hK
          try simp only [Act.put, List.setIfInBounds_toArray, List.set_cons_zero, List.set_cons_succ]
          refine wpAnyH_done (by kernel_rfl) ?_ _
          refine NoPanic.normal ?_
          have HR := Lib.hid HQ6.out.1
          have z4 : w6.cell? ⟨g, 4, none⟩ = some (.bool fr) := (HQ6.out.1.hd g rfl 4 (by simp [hv])).1
          clear HQ6 HQ5 HQ4
          cases fr with
          | false =>
            go_wp2_with fail
            go_end0
            obtain ⟨m6, lab6, h6, _⟩ := HR.out.pr
            exact ⟨rfl, ⟨m6, lab6, by rw [HCOM.out, if_neg (by decide), List.append_nil]; exact h6⟩, HBW.out.trans HR.out.b⟩
          | true =>
            go_wp2_with fail
            refine wp_region_noPanic ?_
            have HR := Lib.hid (HR.out.below (Below.refl _ _).drew)
            generalize hwd : w6.drew = w7 at *
            clear z4
            obtain ⟨m6, lab6, h6, hg6, _, h96⟩ := HR.out.pr
            obtain ⟨A5, c5, hv5, hc5, hm5⟩ := own_slice h6.c0.row
            obtain ⟨L5, hL5⟩ : ∃ L, L = P1.c0.length := ⟨_, rfl⟩
            rw [← hL5] at hv5 hc5
            have hL9 : L5 ≤ 549755813888 := by rw [hL5]; exact HLC.out
            have hdn9 := HDN.out
            have H6 := Lib.hid (And.intro h6 (And.intro hv5 (And.intro hL5 hg6)))
            have hrow := h6.c0.row
            rw [hv5, ← hL5] at hrow
            obtain ⟨A7, k7, e7, hRB, _⟩ := RB.of_own HR.out.po.data
            injection e7 with e71 _ e72
            subst e71 e72
            have e0 : w7.cell? ⟨gk, 0, none⟩ = some (.int .i64 0) ∧ w7.cell? ⟨pb, 5, none⟩ = some (.slice A5 L5 c5) ∧ w7.cell? ⟨gk, 13, none⟩ = some (.slice o.p.dA o.p.dn o.p.dc) := ⟨HR.out.g0, (h6.at_ 5).trans (by rw [show (m6.cs P1.t)[5]? = some m6.cv0 from rfl, hv5]), (HR.out.gk 13 (by rw [Pm.vals_length]; omega)).1⟩
            clear h6 h96 hv5 hL5 hg6
            refine until_start (fun W => W.cell? ⟨gk, 0, none⟩ = some (.int .i64 0) ∧ W.cell? ⟨pb, 5, none⟩ = some (.slice A5 L5 c5) ∧ W.cell? ⟨gk, 13, none⟩ = some (.slice o.p.dA o.p.dn o.p.dc)) 17 (by kernel_rfl) (by rw [hwd]; exact e0) (fun _ => ?_)
            rw [hwd]
            clear hwd
            refine until_take (i := 0) (v := .pointer (some ⟨pb, 0, none⟩)) (some 58) [17] rfl rfl (by kernel_rfl) (by kernel_rfl) (by kernel_rfl) (by kernel_rfl) rfl rfl (fun _ _ _ h => h) (Or.inl ⟨by rfl, fun W hW => by go_simp⟩) e0 ?_
            simp only [Act.put, List.setIfInBounds_toArray, List.set_cons_zero, List.set_cons_succ]
            refine until_take (i := 1) (v := .pointer (some ⟨gk, 0, none⟩)) (some 59) [17] rfl rfl (by kernel_rfl) (by kernel_rfl) (by kernel_rfl) (by kernel_rfl) rfl rfl (fun _ _ _ h => h) (Or.inl ⟨by rfl, fun W hW => by go_simp⟩) e0 ?_
            simp only [Act.put, List.setIfInBounds_toArray, List.set_cons_zero, List.set_cons_succ]
            refine until_take (i := 3) (v := .pointer (some ⟨pb, 0, none⟩)) (some 61) [17] rfl rfl (by kernel_rfl) (by kernel_rfl) (by kernel_rfl) (by kernel_rfl) rfl rfl (fun _ _ _ h => h) (Or.inl ⟨by rfl, fun W hW => by go_simp⟩) e0 ?_
            simp only [Act.put, List.setIfInBounds_toArray, List.set_cons_zero, List.set_cons_succ]
            refine until_take (i := 4) (v := .pointer (some ⟨gk, 0, none⟩)) (some 62) [17] rfl rfl (by kernel_rfl) (by kernel_rfl) (by kernel_rfl) (by kernel_rfl) rfl rfl (fun _ _ _ h => h) (Or.inl ⟨by rfl, fun W hW => by go_simp⟩) e0 ?_
            simp only [Act.put, List.setIfInBounds_toArray, List.set_cons_zero, List.set_cons_succ]
            refine until_take (i := 10) (v := .pointer (some ⟨gk, 1, none⟩)) (some 68) [17] rfl rfl (by kernel_rfl) (by kernel_rfl) (by kernel_rfl) (by kernel_rfl) rfl rfl (fun _ _ _ h => h) (Or.inl ⟨by rfl, fun W hW => by go_simp⟩) e0 ?_
            simp only [Act.put, List.setIfInBounds_toArray, List.set_cons_zero, List.set_cons_succ]
            refine until_take (i := 2) (v := .int .i64 0) (some 60) [17] rfl rfl (by kernel_rfl) (by kernel_rfl) (by kernel_rfl) (by kernel_rfl) rfl rfl (fun _ _ _ h => h) (Or.inl ⟨by rfl, fun W hW => by have hc := hW.1; go_simp⟩) e0 ?_
            simp only [Act.put, List.setIfInBounds_toArray, List.set_cons_zero, List.set_cons_succ]
            refine until_take (i := 5) (v := .int .i64 0) (some 63) [17] rfl rfl (by kernel_rfl) (by kernel_rfl) (by kernel_rfl) (by kernel_rfl) rfl rfl (fun _ _ _ h => h) (Or.inl ⟨by rfl, fun W hW => by have hc := hW.1; go_simp⟩) e0 ?_
            simp only [Act.put, List.setIfInBounds_toArray, List.set_cons_zero, List.set_cons_succ]
            refine until_take (i := 6) (v := .pointer (some ⟨pb, 0, none⟩)) (some 64) [17] rfl rfl (by kernel_rfl) (by kernel_rfl) (by kernel_rfl) (by kernel_rfl) rfl rfl (fun _ _ _ h => h) (Or.inl ⟨by rfl, fun W hW => by go_simp⟩) e0 ?_
            simp only [Act.put, List.setIfInBounds_toArray, List.set_cons_zero, List.set_cons_succ]
            refine until_take (i := 11) (v := .pointer (some ⟨gk, 13, none⟩)) (some 69) [17] rfl rfl (by kernel_rfl) (by kernel_rfl) (by kernel_rfl) (by kernel_rfl) rfl rfl (fun _ _ _ h => h) (Or.inl ⟨by rfl, fun W hW => by go_simp⟩) e0 ?_
            simp only [Act.put, List.setIfInBounds_toArray, List.set_cons_zero, List.set_cons_succ]
            refine until_take (i := 14) (v := .pointer (some ⟨pb, 0, none⟩)) (some 72) [15, 16, 17] rfl rfl (by kernel_rfl) (by kernel_rfl) (by kernel_rfl) (by kernel_rfl) rfl rfl (fun _ _ _ h => h) (Or.inl ⟨by rfl, fun W hW => by go_simp⟩) e0 ?_
            simp only [Act.put, List.setIfInBounds_toArray, List.set_cons_zero, List.set_cons_succ]
            refine until_take (i := 7) (v := .pointer (some ⟨pb, 5, none⟩)) (some 65) [17] rfl rfl (by kernel_rfl) (by kernel_rfl) (by kernel_rfl) (by kernel_rfl) rfl rfl (fun _ _ _ h => h) (Or.inl ⟨by rfl, fun W hW => by go_simp⟩) e0 ?_
            simp only [Act.put, List.setIfInBounds_toArray, List.set_cons_zero, List.set_cons_succ]
            refine until_take (i := 12) (v := .slice o.p.dA o.p.dn o.p.dc) (some 70) [17] rfl rfl (by kernel_rfl) (by kernel_rfl) (by kernel_rfl) (by kernel_rfl) rfl rfl (fun _ _ _ h => h) (Or.inl ⟨by rfl, fun W hW => by have hc := hW.2.2; go_simp⟩) e0 ?_
            simp only [Act.put, List.setIfInBounds_toArray, List.set_cons_zero, List.set_cons_succ]
            refine until_take (i := 15) (v := .pointer (some ⟨pb, 5, none⟩)) (some 73) [16, 17] rfl rfl (by kernel_rfl) (by kernel_rfl) (by kernel_rfl) (by kernel_rfl) rfl rfl (fun _ _ _ h => h) (Or.inl ⟨by rfl, fun W hW => by go_simp⟩) e0 ?_
            simp only [Act.put, List.setIfInBounds_toArray, List.set_cons_zero, List.set_cons_succ]
            refine until_take (i := 8) (v := .pointer (some ⟨pb, 5, none⟩)) (some 66) [17] rfl rfl (by kernel_rfl) (by kernel_rfl) (by kernel_rfl) (by kernel_rfl) rfl rfl (fun _ _ _ h => h) (Or.inl ⟨by rfl, fun W hW => by go_simp⟩) e0 ?_
            simp only [Act.put, List.setIfInBounds_toArray, List.set_cons_zero, List.set_cons_succ]
            refine until_take (i := 9) (v := .slice A5 L5 c5) (some 67) [17] rfl rfl (by kernel_rfl) (by kernel_rfl) (by kernel_rfl) (by kernel_rfl) rfl rfl (fun _ _ _ h => h) (Or.inl ⟨by rfl, fun W hW => by have hc := hW.2.1; go_simp⟩) e0 ?_
            simp only [Act.put, List.setIfInBounds_toArray, List.set_cons_zero, List.set_cons_succ]
            refine until_step (i := 13) (by kernel_rfl) rfl rfl (fun K hK => ?_)
            refine step_app _ rfl (.tmp 67) (.tmp 70) 30 5 rfl Try.underlying30 infoU8 base (.slice A5 L5 c5) L5 P1.c0 rfl hrow o.p.dA o.p.dn o.p.dc o.p.ds rfl hRB (by omega) (by have := HR.out.lo; exact this) ?_
            intro v9 w9 r9 g9 o9
            have HAP := Lib.hid (H6.out.1.put5 o.p.ds (n := L5 + o.p.dn) (v' := v9) (w' := w9) (by rw [List.length_append, HR.out.po.dn, H6.out.2.2.1]) r9 (by rw [H6.out.2.1]; exact g9) (by rw [H6.out.2.1]; exact o9))
            have g0 := HR.out.gk.lt (by rw [Pm.vals_length]; omega)
            have n0 : some gk ≠ (Value.slice A5 L5 c5).ownBlock := fun e => by have h3 := H6.out.1.c0.lab gk (by rw [H6.out.2.1]; exact e.symm); have := H6.out.2.2.2; omega
            have e9 : w9.cell? ⟨gk, 0, none⟩ = some (.int .i64 0) ∧ w9.cell? ⟨pb, 5, none⟩ = some (.slice A5 L5 c5) ∧ w9.cell? ⟨gk, 13, none⟩ = some (.slice o.p.dA o.p.dn o.p.dc) := ⟨(g9.cell_far _ g0 n0).trans e0.1, (g9.cell_far _ (by have := H6.out.1.lt; exact this) (fun e => by have h3 := H6.out.1.c0.lab pb (by rw [H6.out.2.1]; exact e.symm); have := H6.out.1.lp; omega)).trans e0.2.1, (g9.cell_far _ g0 n0).trans e0.2.2⟩
            have f9 : w9.frozen? ⟨pb, 5, none⟩ = false := (g9.frozen_far _ (by have := H6.out.1.lt; exact this) (fun e => by have h3 := H6.out.1.c0.lab pb (by rw [H6.out.2.1]; exact e.symm); have := H6.out.1.lp; omega)).trans (H6.out.1.fz 5)
            obtain ⟨A9, k9, rfl, hk9, hm9⟩ := own_slice r9
            generalize L5 + o.p.dn = L9 at *
            have c9 := e9.2.1
            clear r9 g9 o9 g0 n0
            show K (Act.put _ (some 71) _) _
            refine hK.out _ _ e9 (fun _ => ?_)
            clear hK
            try simp only [Act.put, List.setIfInBounds_toArray, List.set_cons_zero, List.set_cons_succ]
            refine until_take (i := 16) (v := .pointer (some ⟨pb, 5, none⟩)) (some 74) [17] rfl rfl (by kernel_rfl) (by kernel_rfl) (by kernel_rfl) (by kernel_rfl) rfl rfl (fun _ _ _ h => h) (Or.inl ⟨by rfl, fun W hW => by go_simp⟩) e9 ?_
            simp only [Act.put, List.setIfInBounds_toArray, List.set_cons_zero, List.set_cons_succ]
            refine until_last (by kernel_rfl) rfl (fun K hK => ?_)
            go_simp
            refine hK.out _ _ ?_
            clear hK
            try simp only [Act.put, List.setIfInBounds_toArray, List.set_cons_zero, List.set_cons_succ]
            refine wpAnyH_done (by kernel_rfl) ?_ _
            refine NoPanic.normal ?_
            go_wp2_with fail
            go_end0
            obtain ⟨⟨lab9, hp9⟩, hb9⟩ := HAP.out
            exact ⟨rfl, ⟨_, lab9, by rw [HCOM.out, if_pos trivial]; exact hp9⟩, HBW.out.trans (HR.out.b.trans hb9)⟩
        · refine step_allocV (by rfl) 57 rfl hz zeroHd ?_
          intro g w4 hg z b s
          have l4 := HQ.out.1.alloc hg.out z b
          have HGE := Lib.hid (show wd.heap.size ≤ g by rw [hg.out]; exact HQ.out.1.b.size)
          have HQ4 := Lib.hid (And.intro l4 (show w4.cell? ⟨gk, 0, none⟩ = some (.int .i64 0) ∧ w4.cell? ⟨pb, 0, none⟩ = some (.pointer (some ⟨FB, 0, none⟩)) ∧ w4.rangeAt gk 1 o.sg ∧ w4.cell? ⟨pb, 7, none⟩ = some (.int .i64 (tt : Int)) from ⟨l4.g0, l4.fp, l4.sg, l4.tick⟩))
          clear l4 hg z b s
          show K (Act.put _ (some 4) _) _
          refine hK.out _ _ HQ4.out.2 (fun _ => ?_)
          clear hK
          try simp only [Act.put, List.setIfInBounds_toArray, List.set_cons_zero, List.set_cons_succ]
          refine wpAnyH_ready (rs := [13]) (by kernel_rfl) (by simp) ?_
          refine AllReadyH.cons rfl (fun K hK => ?_) AllReadyH.nil
          go_simp
          refine (HCALL.out _ _ HQ4.out.1).mono ?_
          rintro e w5 ⟨op4, fin4, A4, n4, c4, rfl, l4⟩
          have HQ5 := Lib.hid (And.intro l4 (show w5.cell? ⟨gk, 0, none⟩ = some (.int .i64 0) ∧ w5.cell? ⟨pb, 0, none⟩ = some (.pointer (some ⟨FB, 0, none⟩)) ∧ w5.rangeAt gk 1 o.sg ∧ w5.cell? ⟨pb, 7, none⟩ = some (.int .i64 (tt : Int)) from ⟨l4.g0, l4.fp, l4.sg, l4.tick⟩))
          clear l4
          dsimp only
          refine hK.out _ _ HQ5.out.2 (fun _ => ?_)
          clear hK
          try simp only [Act.put, List.setIfInBounds_toArray, List.set_cons_zero, List.set_cons_succ]
          refine wpAnyH_ready (rs := [15]) (by kernel_rfl) (by simp) ?_
          refine AllReadyH.cons rfl (fun K hK => ?_) AllReadyH.nil
          refine step_storeV (by rfl) 57 (.tmp 4) (.tmp 55) rfl g hz (hv op4 fin4 false false fr (.slice A4 n4 c4)) rfl rfl (HQ5.out.1.hd g rfl) rfl (hd_one _ _ _ _ _ rfl) infoHd ?_
          intro w6 z c s
          have l4 := HQ5.out.1.store (by have := HGE.out; have := HBS.out; omega) z (by have := HGE.out; have := HGL.out; omega) c
          have HQ6 := Lib.hid (And.intro l4 (show w6.cell? ⟨gk, 0, none⟩ = some (.int .i64 0) ∧ w6.cell? ⟨pb, 0, none⟩ = some (.pointer (some ⟨FB, 0, none⟩)) ∧ w6.rangeAt gk 1 o.sg ∧ w6.cell? ⟨pb, 7, none⟩ = some (.int .i64 (tt : Int)) from ⟨l4.g0, l4.fp, l4.sg, l4.tick⟩))
          clear l4 z c s
          show K (Act.put _ none _) _
          refine hK.out _ _ HQ6.out.2 (fun _ => ?_)
          clear hK
          try simp only [Act.put, List.setIfInBounds_toArray, List.set_cons_zero, List.set_cons_succ]
          refine wpAnyH_done (by kernel_rfl) ?_ _
          refine NoPanic.normal ?_
          have HR := Lib.hid HQ6.out.1
          have z4 : w6.cell? ⟨g, 4, none⟩ = some (.bool fr) := (HQ6.out.1.hd g rfl 4 (by simp [hv])).1
          clear HQ6 HQ5 HQ4
          cases fr with
          | false =>
            go_wp2_with fail
            go_end0
            obtain ⟨m6, lab6, h6, _⟩ := HR.out.pr
            exact ⟨rfl, ⟨m6, lab6, by rw [HCOM.out, if_neg (by decide), List.append_nil]; exact h6⟩, HBW.out.trans HR.out.b⟩
          | true =>
            go_wp2_with fail
            refine wp_region_noPanic ?_
            have HR := Lib.hid (HR.out.below (Below.refl _ _).drew)
            generalize hwd : w6.drew = w7 at *
            clear z4
            obtain ⟨m6, lab6, h6, hg6, _, h96⟩ := HR.out.pr
            obtain ⟨A5, c5, hv5, hc5, hm5⟩ := own_slice h6.c0.row
            obtain ⟨L5, hL5⟩ : ∃ L, L = P1.c0.length := ⟨_, rfl⟩
            rw [← hL5] at hv5 hc5
            have hL9 : L5 ≤ 549755813888 := by rw [hL5]; exact HLC.out
            have hdn9 := HDN.out
            have H6 := Lib.hid (And.intro h6 (And.intro hv5 (And.intro hL5 hg6)))
            have hrow := h6.c0.row
            rw [hv5, ← hL5] at hrow
            obtain ⟨A7, k7, e7, hRB, _⟩ := RB.of_own HR.out.po.data
            injection e7 with e71 _ e72
            subst e71 e72
            have e0 : w7.cell? ⟨gk, 0, none⟩ = some (.int .i64 0) ∧ w7.cell? ⟨pb, 5, none⟩ = some (.slice A5 L5 c5) ∧ w7.cell? ⟨gk, 13, none⟩ = some (.slice o.p.dA o.p.dn o.p.dc) := ⟨HR.out.g0, (h6.at_ 5).trans (by rw [show (m6.cs P1.t)[5]? = some m6.cv0 from rfl, hv5]), (HR.out.gk 13 (by rw [Pm.vals_length]; omega)).1⟩
            clear h6 h96 hv5 hL5 hg6
            refine until_start (fun W => W.cell? ⟨gk, 0, none⟩ = some (.int .i64 0) ∧ W.cell? ⟨pb, 5, none⟩ = some (.slice A5 L5 c5) ∧ W.cell? ⟨gk, 13, none⟩ = some (.slice o.p.dA o.p.dn o.p.dc)) 17 (by kernel_rfl) (by rw [hwd]; exact e0) (fun _ => ?_)
            rw [hwd]
            clear hwd
            refine until_take (i := 0) (v := .pointer (some ⟨pb, 0, none⟩)) (some 58) [17] rfl rfl (by kernel_rfl) (by kernel_rfl) (by kernel_rfl) (by kernel_rfl) rfl rfl (fun _ _ _ h => h) (Or.inl ⟨by rfl, fun W hW => by go_simp⟩) e0 ?_
            simp only [Act.put, List.setIfInBounds_toArray, List.set_cons_zero, List.set_cons_succ]
            refine until_take (i := 1) (v := .pointer (some ⟨gk, 0, none⟩)) (some 59) [17] rfl rfl (by kernel_rfl) (by kernel_rfl) (by kernel_rfl) (by kernel_rfl) rfl rfl (fun _ _ _ h => h) (Or.inl ⟨by rfl, fun W hW => by go_simp⟩) e0 ?_
            simp only [Act.put, List.setIfInBounds_toArray, List.set_cons_zero, List.set_cons_succ]
            refine until_take (i := 3) (v := .pointer (some ⟨pb, 0, none⟩)) (some 61) [17] rfl rfl (by kernel_rfl) (by kernel_rfl) (by kernel_rfl) (by kernel_rfl) rfl rfl (fun _ _ _ h => h) (Or.inl ⟨by rfl, fun W hW => by go_simp⟩) e0 ?_
            simp only [Act.put, List.setIfInBounds_toArray, List.set_cons_zero, List.set_cons_succ]
            refine until_take (i := 4) (v := .pointer (some ⟨gk, 0, none⟩)) (some 62) [17] rfl rfl (by kernel_rfl) (by kernel_rfl) (by kernel_rfl) (by kernel_rfl) rfl rfl (fun _ _ _ h => h) (Or.inl ⟨by rfl, fun W hW => by go_simp⟩) e0 ?_
            simp only [Act.put, List.setIfInBounds_toArray, List.set_cons_zero, List.set_cons_succ]
            refine until_take (i := 10) (v := .pointer (some ⟨gk, 1, none⟩)) (some 68) [17] rfl rfl (by kernel_rfl) (by kernel_rfl) (by kernel_rfl) (by kernel_rfl) rfl rfl (fun _ _ _ h => h) (Or.inl ⟨by rfl, fun W hW => by go_simp⟩) e0 ?_
            simp only [Act.put, List.setIfInBounds_toArray, List.set_cons_zero, List.set_cons_succ]
            refine until_take (i := 2) (v := .int .i64 0) (some 60) [17] rfl rfl (by kernel_rfl) (by kernel_rfl) (by kernel_rfl) (by kernel_rfl) rfl rfl (fun _ _ _ h => h) (Or.inl ⟨by rfl, fun W hW => by have hc := hW.1; go_simp⟩) e0 ?_
            simp only [Act.put, List.setIfInBounds_toArray, List.set_cons_zero, List.set_cons_succ]
            refine until_take (i := 5) (v := .int .i64 0) (some 63) [17] rfl rfl (by kernel_rfl) (by kernel_rfl) (by kernel_rfl) (by kernel_rfl) rfl rfl (fun _ _ _ h => h) (Or.inl ⟨by rfl, fun W hW => by have hc := hW.1; go_simp⟩) e0 ?_
            simp only [Act.put, List.setIfInBounds_toArray, List.set_cons_zero, List.set_cons_succ]
            refine until_take (i := 6) (v := .pointer (some ⟨pb, 0, none⟩)) (some 64) [17] rfl rfl (by kernel_rfl) (by kernel_rfl) (by kernel_rfl) (by kernel_rfl) rfl rfl (fun _ _ _ h => h) (Or.inl ⟨by rfl, fun W hW => by go_simp⟩) e0 ?_
            simp only [Act.put, List.setIfInBounds_toArray, List.set_cons_zero, List.set_cons_succ]
            refine until_take (i := 11) (v := .pointer (some ⟨gk, 13, none⟩)) (some 69) [17] rfl rfl (by kernel_rfl) (by kernel_rfl) (by kernel_rfl) (by kernel_rfl) rfl rfl (fun _ _ _ h => h) (Or.inl ⟨by rfl, fun W hW => by go_simp⟩) e0 ?_
            simp only [Act.put, List.setIfInBounds_toArray, List.set_cons_zero, List.set_cons_succ]
            refine until_take (i := 14) (v := .pointer (some ⟨pb, 0, none⟩)) (some 72) [15, 16, 17] rfl rfl (by kernel_rfl) (by kernel_rfl) (by kernel_rfl) (by kernel_rfl) rfl rfl (fun _ _ _ h => h) (Or.inl ⟨by rfl, fun W hW => by go_simp⟩) e0 ?_
            simp only [Act.put, List.setIfInBounds_toArray, List.set_cons_zero, List.set_cons_succ]
            refine until_take (i := 7) (v := .pointer (some ⟨pb, 5, none⟩)) (some 65) [17] rfl rfl (by kernel_rfl) (by kernel_rfl) (by kernel_rfl) (by kernel_rfl) rfl rfl (fun _ _ _ h => h) (Or.inl ⟨by rfl, fun W hW => by go_simp⟩) e0 ?_
            simp only [Act.put, List.setIfInBounds_toArray, List.set_cons_zero, List.set_cons_succ]
            refine until_take (i := 12) (v := .slice o.p.dA o.p.dn o.p.dc) (some 70) [17] rfl rfl (by kernel_rfl) (by kernel_rfl) (by kernel_rfl) (by kernel_rfl) rfl rfl (fun _ _ _ h => h) (Or.inl ⟨by rfl, fun W hW => by have hc := hW.2.2; go_simp⟩) e0 ?_
            simp only [Act.put, List.setIfInBounds_toArray, List.set_cons_zero, List.set_cons_succ]
            refine until_take (i := 15) (v := .pointer (some ⟨pb, 5, none⟩)) (some 73) [16, 17] rfl rfl (by kernel_rfl) (by kernel_rfl) (by kernel_rfl) (by kernel_rfl) rfl rfl (fun _ _ _ h => h) (Or.inl ⟨by rfl, fun W hW => by go_simp⟩) e0 ?_
            simp only [Act.put, List.setIfInBounds_toArray, List.set_cons_zero, List.set_cons_succ]
            refine until_take (i := 8) (v := .pointer (some ⟨pb, 5, none⟩)) (some 66) [17] rfl rfl (by kernel_rfl) (by kernel_rfl) (by kernel_rfl) (by kernel_rfl) rfl rfl (fun _ _ _ h => h) (Or.inl ⟨by rfl, fun W hW => by go_simp⟩) e0 ?_
            simp only [Act.put, List.setIfInBounds_toArray, List.set_cons_zero, List.set_cons_succ]
            refine until_take (i := 9) (v := .slice A5 L5 c5) (some 67) [17] rfl rfl (by kernel_rfl) (by kernel_rfl) (by kernel_rfl) (by kernel_rfl) rfl rfl (fun _ _ _ h => h) (Or.inl ⟨by rfl, fun W hW => by have hc := hW.2.1; go_simp⟩) e0 ?_
            simp only [Act.put, List.setIfInBounds_toArray, List.set_cons_zero, List.set_cons_succ]
            refine until_step (i := 13) (by kernel_rfl) rfl rfl (fun K hK => ?_)
            refine step_app _ rfl (.tmp 67) (.tmp 70) 30 5 rfl Try.underlying30 infoU8 base (.slice A5 L5 c5) L5 P1.c0 rfl hrow o.p.dA o.p.dn o.p.dc o.p.ds rfl hRB (by omega) (by have := HR.out.lo; exact this) ?_
            intro v9 w9 r9 g9 o9
            have HAP := Lib.hid (H6.out.1.put5 o.p.ds (n := L5 + o.p.dn) (v' := v9) (w' := w9) (by rw [List.length_append, HR.out.po.dn, H6.out.2.2.1]) r9 (by rw [H6.out.2.1]; exact g9) (by rw [H6.out.2.1]; exact o9))
            have g0 := HR.out.gk.lt (by rw [Pm.vals_length]; omega)
            have n0 : some gk ≠ (Value.slice A5 L5 c5).ownBlock := fun e => by have h3 := H6.out.1.c0.lab gk (by rw [H6.out.2.1]; exact e.symm); have := H6.out.2.2.2; omega
            have e9 : w9.cell? ⟨gk, 0, none⟩ = some (.int .i64 0) ∧ w9.cell? ⟨pb, 5, none⟩ = some (.slice A5 L5 c5) ∧ w9.cell? ⟨gk, 13, none⟩ = some (.slice o.p.dA o.p.dn o.p.dc) := ⟨(g9.cell_far _ g0 n0).trans e0.1, (g9.cell_far _ (by have := H6.out.1.lt; exact this) (fun e => by have h3 := H6.out.1.c0.lab pb (by rw [H6.out.2.1]; exact e.symm); have := H6.out.1.lp; omega)).trans e0.2.1, (g9.cell_far _ g0 n0).trans e0.2.2⟩
            have f9 : w9.frozen? ⟨pb, 5, none⟩ = false := (g9.frozen_far _ (by have := H6.out.1.lt; exact this) (fun e => by have h3 := H6.out.1.c0.lab pb (by rw [H6.out.2.1]; exact e.symm); have := H6.out.1.lp; omega)).trans (H6.out.1.fz 5)
            obtain ⟨A9, k9, rfl, hk9, hm9⟩ := own_slice r9
            generalize L5 + o.p.dn = L9 at *
            have c9 := e9.2.1
            clear r9 g9 o9 g0 n0
            show K (Act.put _ (some 71) _) _
            refine hK.out _ _ e9 (fun _ => ?_)
            clear hK
            try simp only [Act.put, List.setIfInBounds_toArray, List.set_cons_zero, List.set_cons_succ]
            refine until_take (i := 16) (v := .pointer (some ⟨pb, 5, none⟩)) (some 74) [17] rfl rfl (by kernel_rfl) (by kernel_rfl) (by kernel_rfl) (by kernel_rfl) rfl rfl (fun _ _ _ h => h) (Or.inl ⟨by rfl, fun W hW => by go_simp⟩) e9 ?_
            simp only [Act.put, List.setIfInBounds_toArray, List.set_cons_zero, List.set_cons_succ]
            refine until_last (by kernel_rfl) rfl (fun K hK => ?_)
            go_simp
            refine hK.out _ _ ?_
            clear hK
            try simp only [Act.put, List.setIfInBounds_toArray, List.set_cons_zero, List.set_cons_succ]
            refine wpAnyH_done (by kernel_rfl) ?_ _
            refine NoPanic.normal ?_
            go_wp2_with fail
            go_end0
            obtain ⟨⟨lab9, hp9⟩, hb9⟩ := HAP.out
            exact ⟨rfl, ⟨_, lab9, by rw [HCOM.out, if_pos trivial]; exact hp9⟩, HBW.out.trans (HR.out.b.trans hb9)⟩
    · obtain rfl : to = 1 := by
        have : to ≤ 1 := hto
        omega
      as_aux_lemma =>
        have HF := Lib.hid hf
        have HAN := Lib.hid (fun W => Answer_any 9000 o (p.t : Int) W (by omega) HPO.out.seq (by unfold isInt; omega))
        have HP1 : Hid (w.cell? ⟨pb, 1, none⟩ = some (.pointer none)) := Lib.hid (by have := h.at_ 1; rw [show (m.cs p.t)[1]? = some (f1v m.b) from rfl, h.fn hf] at this; exact this)
        have hrr : o.rst = false := hr
        clear h hr hack hdn hT hb0 hb1 hpo hbl hc0 hc1
        cases hsy : o.p.syn with
        | false =>
          have HCOM : Hid (p.comes ⟨1, o.key⟩ = p) := Lib.hid (by unfold P.comes; rw [if_pos rfl, HF.out]; exact if_neg (fun e => by have e1 : o.p.syn = true := e.1; rw [hsy] at e1; cases e1))
          go_enter Try.func30, Try.ntmps30
          go_wp2_with (first
            | ((with_reducible refine wpList_here ?_); refine wpList_boxV (o := ⟨some 3, _, _, _, _, _⟩) rfl 69 (.tmp 1) rfl (Pm.mk 1 o).vals rfl _ rfl ?_; intro w1 z1 b1 s1; have k0 : w1.cell? ⟨w.heap.size, 0, none⟩ = some (.int .i64 1) := (z1 0 (by rw [Pm.vals_length]; omega)).1; have HB1 := Lib.hid b1; have HZ1 := Lib.hid z1; have q1 : w1.cell? ⟨pb, 1, none⟩ = some (.pointer none) := cellB HB1.out HP1.out; have k7 : w1.cell? ⟨w.heap.size, 7, none⟩ = some (.bool o.p.syn) := (HZ1.out 7 (by rw [Pm.vals_length]; omega)).1; have k8 : w1.cell? ⟨w.heap.size, 8, none⟩ = some (.bool o.acks) := (HZ1.out 8 (by rw [Pm.vals_length]; omega)).1; have k10 : w1.cell? ⟨w.heap.size, 10, none⟩ = some (.bool false) := (HZ1.out 10 (by rw [Pm.vals_length]; omega)).1.trans (by rw [← hrr]; rfl); rw [hsy] at k7; clear z1 b1)
            | fail)
          refine bodyPost_ret (results_none rfl _ _ _) rfl ?_
          exact ⟨rfl, ⟨m, lab, by rw [HCOM.out]; exact H.out.below HB1.out⟩, HB1.out.mono (by have := H.out.lo; have := H.out.lt; omega)⟩
        | true =>
          cases hac : o.acks with
          | true =>
            have HCOM : Hid (p.comes ⟨1, o.key⟩ = p) := Lib.hid (by unfold P.comes; rw [if_pos rfl, HF.out]; exact if_neg (fun e => by have e1 : o.acks = false := e.2.1; rw [hac] at e1; cases e1))
            go_enter Try.func30, Try.ntmps30
            go_wp2_with (first
              | ((with_reducible refine wpList_here ?_); refine wpList_boxV (o := ⟨some 3, _, _, _, _, _⟩) rfl 69 (.tmp 1) rfl (Pm.mk 1 o).vals rfl _ rfl ?_; intro w1 z1 b1 s1; have k0 : w1.cell? ⟨w.heap.size, 0, none⟩ = some (.int .i64 1) := (z1 0 (by rw [Pm.vals_length]; omega)).1; have HB1 := Lib.hid b1; have HZ1 := Lib.hid z1; have q1 : w1.cell? ⟨pb, 1, none⟩ = some (.pointer none) := cellB HB1.out HP1.out; have k7 : w1.cell? ⟨w.heap.size, 7, none⟩ = some (.bool o.p.syn) := (HZ1.out 7 (by rw [Pm.vals_length]; omega)).1; have k8 : w1.cell? ⟨w.heap.size, 8, none⟩ = some (.bool o.acks) := (HZ1.out 8 (by rw [Pm.vals_length]; omega)).1; have k10 : w1.cell? ⟨w.heap.size, 10, none⟩ = some (.bool false) := (HZ1.out 10 (by rw [Pm.vals_length]; omega)).1.trans (by rw [← hrr]; rfl); rw [hsy] at k7; rw [hac] at k8; clear z1 b1)
              | fail)
            refine bodyPost_ret (results_none rfl _ _ _) rfl ?_
            exact ⟨rfl, ⟨m, lab, by rw [HCOM.out]; exact H.out.below HB1.out⟩, HB1.out.mono (by have := H.out.lo; have := H.out.lt; omega)⟩
          | false =>
            have HCOM : Hid (p.comes ⟨1, o.key⟩ = { p with f1 := some (F.answer 9000 o.p.seq p.t) }) := Lib.hid (by unfold P.comes; rw [if_pos rfl, HF.out]; exact if_pos ⟨hsy, hac, hrr⟩)
            go_enter Try.func30, Try.ntmps30
            go_wp2_with (first
              | ((with_reducible refine wpList_here ?_); refine wpList_boxV (o := ⟨some 3, _, _, _, _, _⟩) rfl 69 (.tmp 1) rfl (Pm.mk 1 o).vals rfl _ rfl ?_; intro w1 z1 b1 s1; have k0 : w1.cell? ⟨w.heap.size, 0, none⟩ = some (.int .i64 1) := (z1 0 (by rw [Pm.vals_length]; omega)).1; have HB1 := Lib.hid b1; have HZ1 := Lib.hid z1; have q1 : w1.cell? ⟨pb, 1, none⟩ = some (.pointer none) := cellB HB1.out HP1.out; have k7 : w1.cell? ⟨w.heap.size, 7, none⟩ = some (.bool o.p.syn) := (HZ1.out 7 (by rw [Pm.vals_length]; omega)).1; have k8 : w1.cell? ⟨w.heap.size, 8, none⟩ = some (.bool o.acks) := (HZ1.out 8 (by rw [Pm.vals_length]; omega)).1; have k10 : w1.cell? ⟨w.heap.size, 10, none⟩ = some (.bool false) := (HZ1.out 10 (by rw [Pm.vals_length]; omega)).1.trans (by rw [← hrr]; rfl); rw [hsy] at k7; rw [hac] at k8; clear z1 b1)
              | fail)
            obtain ⟨gk, hgk⟩ : ∃ g, g = w.heap.size := ⟨_, rfl⟩
            obtain ⟨tt, htt⟩ : ∃ g, g = p.t := ⟨_, rfl⟩
            rw [← hgk] at HZ1
            rw [← hgk]
            rw [← htt] at HAN
            have HTT := Lib.hid htt
            have hd := HB1.out.drew
            have HP := Lib.hid (H.out.below hd)
            have HBW := Lib.hid (show Below base w w1.drew from hd.mono (by have := H.out.lo; have := H.out.lt; omega))
            have e0 : w1.drew.rangeAt gk 1 o.sg ∧ w1.drew.cell? ⟨pb, 7, none⟩ = some (.int .i64 (tt : Int)) := ⟨fun j v hv => by
              have hj : j < 13 := (List.getElem?_eq_some_iff.1 hv).1
              exact (HZ1.out (1 + j) (by rw [Pm.vals_length]; omega)).1.trans (by rw [show 1 + j = j + 1 from by omega]; exact hv), by rw [htt]; exact HP.out.at_ 7⟩
            have q1 : w1.drew.cell? ⟨pb, 1, none⟩ = some (.pointer none) := q1
            clear hd k0 k7 k8 k10 HZ1 HB1 s1 hgk htt
            generalize hwd : w1.drew = wd at *
            refine wp_region_noPanic ?_
            refine until_start (fun W => W.rangeAt gk 1 o.sg ∧ W.cell? ⟨pb, 7, none⟩ = some (.int .i64 (tt : Int))) 11 (by kernel_rfl) (by rw [hwd]; exact e0) (fun _ => ?_)
            rw [hwd]
            clear hwd
            refine until_take (i := 0) (v := .pointer (some ⟨pb, 0, none⟩)) (some 31) [11] rfl rfl (by kernel_rfl) (by kernel_rfl) (by kernel_rfl) (by kernel_rfl) rfl rfl (fun _ _ _ h => h) (Or.inl ⟨by rfl, fun W hW => by go_simp⟩) e0 ?_
            simp only [Act.put, List.setIfInBounds_toArray, List.set_cons_zero, List.set_cons_succ]
            refine until_take (i := 1) (v := .pointer (some ⟨gk, 1, none⟩)) (some 32) [11] rfl rfl (by kernel_rfl) (by kernel_rfl) (by kernel_rfl) (by kernel_rfl) rfl rfl (fun _ _ _ h => h) (Or.inl ⟨by rfl, fun W hW => by go_simp⟩) e0 ?_
            simp only [Act.put, List.setIfInBounds_toArray, List.set_cons_zero, List.set_cons_succ]
            refine until_take (i := 3) (v := .pointer (some ⟨pb, 0, none⟩)) (some 34) [11] rfl rfl (by kernel_rfl) (by kernel_rfl) (by kernel_rfl) (by kernel_rfl) rfl rfl (fun _ _ _ h => h) (Or.inl ⟨by rfl, fun W hW => by go_simp⟩) e0 ?_
            simp only [Act.put, List.setIfInBounds_toArray, List.set_cons_zero, List.set_cons_succ]
            refine until_take (i := 2) (v := .agg o.sg.toArray) (some 33) [11] rfl rfl (by kernel_rfl) (by kernel_rfl) (by kernel_rfl) (by kernel_rfl) rfl rfl (fun _ _ _ h => h) (yieldsIf_load_mid (by rfl) 47 (.tmp 32) rfl _ _ rfl _ _ (fun W hW => hW.1) Try.underlying47 rfl infoSg) e0 ?_
            simp only [Act.put, List.setIfInBounds_toArray, List.set_cons_zero, List.set_cons_succ]
            refine until_take (i := 4) (v := .pointer (some ⟨pb, 0, none⟩)) (some 35) [11] rfl rfl (by kernel_rfl) (by kernel_rfl) (by kernel_rfl) (by kernel_rfl) rfl rfl (fun _ _ _ h => h) (Or.inl ⟨by rfl, fun W hW => by go_simp⟩) e0 ?_
            simp only [Act.put, List.setIfInBounds_toArray, List.set_cons_zero, List.set_cons_succ]
            refine until_take (i := 8) (v := .pointer (some ⟨pb, 0, none⟩)) (some 39) [9, 10, 11] rfl rfl (by kernel_rfl) (by kernel_rfl) (by kernel_rfl) (by kernel_rfl) rfl rfl (fun _ _ _ h => h) (Or.inl ⟨by rfl, fun W hW => by go_simp⟩) e0 ?_
            simp only [Act.put, List.setIfInBounds_toArray, List.set_cons_zero, List.set_cons_succ]
            refine until_take (i := 5) (v := .pointer (some ⟨pb, 7, none⟩)) (some 36) [11] rfl rfl (by kernel_rfl) (by kernel_rfl) (by kernel_rfl) (by kernel_rfl) rfl rfl (fun _ _ _ h => h) (Or.inl ⟨by rfl, fun W hW => by go_simp⟩) e0 ?_
            simp only [Act.put, List.setIfInBounds_toArray, List.set_cons_zero, List.set_cons_succ]
            refine until_take (i := 9) (v := .pointer (some ⟨pb, 0, none⟩)) (some 40) [10, 11] rfl rfl (by kernel_rfl) (by kernel_rfl) (by kernel_rfl) (by kernel_rfl) rfl rfl (fun _ _ _ h => h) (Or.inl ⟨by rfl, fun W hW => by go_simp⟩) e0 ?_
            simp only [Act.put, List.setIfInBounds_toArray, List.set_cons_zero, List.set_cons_succ]
            refine until_take (i := 6) (v := .int .i64 (tt : Int)) (some 37) [11] rfl rfl (by kernel_rfl) (by kernel_rfl) (by kernel_rfl) (by kernel_rfl) rfl rfl (fun _ _ _ h => h) (Or.inl ⟨by rfl, fun W hW => by have hc := hW.2; go_simp⟩) e0 ?_
            simp only [Act.put, List.setIfInBounds_toArray, List.set_cons_zero, List.set_cons_succ]
            refine until_step (i := 7) (by kernel_rfl) rfl rfl (fun K hK => ?_)
            go_simp
            refine (HAN.out wd).mono ?_
            rintro e w4 ⟨s4, rfl, f4, b4⟩
            have HBN := Lib.hid (HP.out.born HF.out f4 b4)
            have c4 : w4.cell? ⟨pb, 1, none⟩ = some (.pointer none) := cellB b4 q1
            have f4 : w4.frozen? ⟨pb, 1, none⟩ = false := (b4.frozen HP.out.lt).trans (HP.out.fz 1)
            have e4 : w4.rangeAt gk 1 o.sg ∧ w4.cell? ⟨pb, 7, none⟩ = some (.int .i64 (tt : Int)) := ⟨range_below e0.1 b4, cellB b4 e0.2⟩
            clear b4
            unfold ptr at *
            dsimp only
            refine hK.out _ _ e4 (fun _ => ?_)
            clear hK
            try simp only [Act.put, List.setIfInBounds_toArray, List.set_cons_zero, List.set_cons_succ]
            refine until_take (i := 10) (v := .pointer (some ⟨pb, 1, none⟩)) (some 41) [11] rfl rfl (by kernel_rfl) (by kernel_rfl) (by kernel_rfl) (by kernel_rfl) rfl rfl (fun _ _ _ h => h) (Or.inl ⟨by rfl, fun W hW => by go_simp⟩) e4 ?_
            simp only [Act.put, List.setIfInBounds_toArray, List.set_cons_zero, List.set_cons_succ]
            refine until_last (by kernel_rfl) rfl (fun K hK => ?_)
            go_simp
            refine hK.out _ _ ?_
            clear hK
            try simp only [Act.put, List.setIfInBounds_toArray, List.set_cons_zero, List.set_cons_succ]
            refine wpAnyH_done (by kernel_rfl) ?_ _
            refine NoPanic.normal ?_
            obtain ⟨⟨lab9, hp9⟩, hb9⟩ : (∃ lab', PR GB base _ pb _ _ lab') ∧ _ := by
              obtain ⟨lab9, a, b⟩ := HBN.out
              exact ⟨⟨lab9, a⟩, b⟩
            have HE := Lib.hid (And.intro hp9 hb9)
            clear hp9 hb9
            go_wp2_with fail
            refine bodyPost_ret (results_none rfl _ _ _) rfl ?_
            exact ⟨rfl, ⟨_, lab9, by rw [HCOM.out]; have h9 := HE.out.1; rw [HTT.out] at h9; exact h9⟩, HBW.out.trans HE.out.2⟩
  | some f =>
    obtain ⟨s, hs, hF⟩ := h.fb f hf
    rcases Nat.lt_or_ge to 1 with ht0 | ht1
    · obtain rfl : to = 0 := by omega
      as_aux_lemma =>
        clear hF hs
        have HCALL := Lib.hid (fun (gk : Nat) (wd : World) (og : Option Nat) (W : World) (q : Cq GB base wd pb ⟨0, o⟩ gk m.a.fb p.t p og hz W) => q.call0 rfl (by decide) hr hack hb0 (Nat.le_trans hdn (by decide)) hT)
        obtain ⟨fr, hfr⟩ : ∃ b, b = p.f0.heardO o.key p.t := ⟨_, rfl⟩
        obtain ⟨P1, hP1⟩ : ∃ q : P, q = { p with f0 := p.f0.hearO o.key p.t } := ⟨_, rfl⟩
        rw [← hfr, ← hP1] at HCALL
        have HCOM : Hid (p.comes ⟨0, o.key⟩ = { P1 with c0 := P1.c0 ++ (if fr = true then o.p.ds else []) }) := Lib.hid (by rw [hP1, hfr]; rfl)
        have HLC : Hid (P1.c0.length ≤ 549755813888) := Lib.hid (by rw [hP1]; exact hc0)
        have HDN := Lib.hid hdn
        have HBL := Lib.hid hbl
        clear hfr hP1
        clear h hr hack hdn hT hb0 hb1 hpo hbl hc0 hc1
        go_enter Try.func30, Try.ntmps30
        go_wp2_with (first
          | ((with_reducible refine wpList_here ?_); refine wpList_boxV (o := ⟨some 3, _, _, _, _, _⟩) rfl 69 (.tmp 1) rfl (Pm.mk 0 o).vals rfl _ rfl ?_; intro w1 z1 b1 s1; have k0 : w1.cell? ⟨w.heap.size, 0, none⟩ = some (.int .i64 0) := (z1 0 (by rw [Pm.vals_length]; omega)).1; have HB1 := Lib.hid b1; have HZ1 := Lib.hid z1; clear z1 b1)
          | fail)
        obtain ⟨gk, hgk⟩ : ∃ g, g = w.heap.size := ⟨_, rfl⟩
        obtain ⟨FB, hFB⟩ : ∃ g, g = m.a.fb := ⟨_, rfl⟩
        obtain ⟨tt, htt⟩ : ∃ g, g = p.t := ⟨_, rfl⟩
        rw [← hgk] at HZ1
        rw [← hgk]
        rw [← hFB, ← htt] at HCALL
        clear k0 
        have HBWX := Lib.hid (show Below base w w1.drew from (HB1.out.drew).mono (by have := H.out.lo; have := H.out.lt; omega))
        have HQ0 : Hid (Cq GB base w1.drew pb ⟨0, o⟩ gk FB tt p none hz w1.drew) := Lib.hid (by
          have hd := HB1.out.drew
          have hpk := H.out.relabel (lab' := fun j => if j < w.heap.size then lab j else 0) (fun j hj => if_pos hj)
          refine ⟨⟨m, _, hpk.below hd, if_neg (by omega), (fun g e => by cases e), fun g e => (if_pos (HPO.out.lt e).2).trans (HBL.out g e)⟩, HPO.out.below hd, HZ1.out, (fun g e => by cases e), ?_, Below.refl _ _, by have := H.out.lo; have := H.out.lt; have := hd.size; omega, htt.symm⟩
          have h1 := cellB hd (H.out.at_ 0)
          rw [hFB]; exact h1)
        have HGL : Hid (gk < w1.drew.heap.size) := Lib.hid (HQ0.out.gk.lt (by rw [Pm.vals_length]; omega))
        have HBS : Hid (base ≤ w1.drew.heap.size) := Lib.hid HQ0.out.lo
        have HQ := Lib.hid (And.intro HQ0.out (show w1.drew.cell? ⟨gk, 0, none⟩ = some (.int .i64 0) ∧ w1.drew.cell? ⟨pb, 0, none⟩ = some (.pointer (some ⟨FB, 0, none⟩)) ∧ w1.drew.rangeAt gk 1 o.sg ∧ w1.drew.cell? ⟨pb, 7, none⟩ = some (.int .i64 (tt : Int)) from ⟨HQ0.out.g0, HQ0.out.fp, HQ0.out.sg, HQ0.out.tick⟩))
        have HCALL := Lib.hid (HCALL.out gk w1.drew)
        have HBW := Lib.hid HBWX.out
        clear HQ0 HBWX HZ1 HB1 s1 hgk hFB htt
        generalize hwd : w1.drew = wd at *
        refine wp_region_noPanic ?_
        refine wp_region_held_drew (S := fun W => W.cell? ⟨gk, 0, none⟩ = some (.int .i64 0) ∧ W.cell? ⟨pb, 0, none⟩ = some (.pointer (some ⟨FB, 0, none⟩)) ∧ W.rangeAt gk 1 o.sg ∧ W.cell? ⟨pb, 7, none⟩ = some (.int .i64 (tt : Int))) (by kernel_rfl) (by rw [hwd]; exact HQ.out.2) (fun _ => ?_)
        rw [hwd]
        clear hwd
        refine held_take (i := 0) (v := .pointer (some ⟨pb, 0, none⟩)) (some 42) rfl rfl (by kernel_rfl) (by kernel_rfl) (by kernel_rfl) (fun _ _ _ h => h) (Or.inl ⟨by rfl, fun W hW => by go_simp⟩) HQ.out.2 ?_
        simp only [Act.put, List.setIfInBounds_toArray, List.set_cons_zero, List.set_cons_succ]
        refine held_take (i := 1) (v := .pointer (some ⟨gk, 0, none⟩)) (some 43) rfl rfl (by kernel_rfl) (by kernel_rfl) (by kernel_rfl) (fun _ _ _ h => h) (Or.inl ⟨by rfl, fun W hW => by go_simp⟩) HQ.out.2 ?_
        simp only [Act.put, List.setIfInBounds_toArray, List.set_cons_zero, List.set_cons_succ]
        refine held_take (i := 7) (v := .pointer (some ⟨gk, 1, none⟩)) (some 49) rfl rfl (by kernel_rfl) (by kernel_rfl) (by kernel_rfl) (fun _ _ _ h => h) (Or.inl ⟨by rfl, fun W hW => by go_simp⟩) HQ.out.2 ?_
        simp only [Act.put, List.setIfInBounds_toArray, List.set_cons_zero, List.set_cons_succ]
        refine held_take (i := 9) (v := .pointer (some ⟨pb, 0, none⟩)) (some 51) rfl rfl (by kernel_rfl) (by kernel_rfl) (by kernel_rfl) (fun _ _ _ h => h) (Or.inl ⟨by rfl, fun W hW => by go_simp⟩) HQ.out.2 ?_
        simp only [Act.put, List.setIfInBounds_toArray, List.set_cons_zero, List.set_cons_succ]
        refine held_take (i := 2) (v := .int .i64 0) (some 44) rfl rfl (by kernel_rfl) (by kernel_rfl) (by kernel_rfl) (fun _ _ _ h => h) (Or.inl ⟨by rfl, fun W hW => by have hc := hW.1; go_simp⟩) HQ.out.2 ?_
        simp only [Act.put, List.setIfInBounds_toArray, List.set_cons_zero, List.set_cons_succ]
        refine held_take (i := 3) (v := .pointer (some ⟨pb, 0, none⟩)) (some 45) rfl rfl (by kernel_rfl) (by kernel_rfl) (by kernel_rfl) (fun _ _ _ h => h) (Or.inl ⟨by rfl, fun W hW => by go_simp⟩) HQ.out.2 ?_
        simp only [Act.put, List.setIfInBounds_toArray, List.set_cons_zero, List.set_cons_succ]
        refine held_take (i := 8) (v := .agg o.sg.toArray) (some 50) rfl rfl (by kernel_rfl) (by kernel_rfl) (by kernel_rfl) (fun _ _ _ h => h) (yieldsIf_load_mid (by rfl) 47 (.tmp 49) rfl _ _ rfl _ _ (fun W hW => hW.2.2.1) Try.underlying47 rfl infoSg) HQ.out.2 ?_
        simp only [Act.put, List.setIfInBounds_toArray, List.set_cons_zero, List.set_cons_succ]
        refine held_take (i := 10) (v := .pointer (some ⟨pb, 0, none⟩)) (some 52) rfl rfl (by kernel_rfl) (by kernel_rfl) (by kernel_rfl) (fun _ _ _ h => h) (Or.inl ⟨by rfl, fun W hW => by go_simp⟩) HQ.out.2 ?_
        simp only [Act.put, List.setIfInBounds_toArray, List.set_cons_zero, List.set_cons_succ]
        refine held_take (i := 4) (v := .pointer (some ⟨pb, 0, none⟩)) (some 46) rfl rfl (by kernel_rfl) (by kernel_rfl) (by kernel_rfl) (fun _ _ _ h => h) (Or.inl ⟨by rfl, fun W hW => by go_simp⟩) HQ.out.2 ?_
        simp only [Act.put, List.setIfInBounds_toArray, List.set_cons_zero, List.set_cons_succ]
        refine held_take (i := 11) (v := .pointer (some ⟨pb, 7, none⟩)) (some 53) rfl rfl (by kernel_rfl) (by kernel_rfl) (by kernel_rfl) (fun _ _ _ h => h) (Or.inl ⟨by rfl, fun W hW => by go_simp⟩) HQ.out.2 ?_
        simp only [Act.put, List.setIfInBounds_toArray, List.set_cons_zero, List.set_cons_succ]
        refine held_take (i := 5) (v := .pointer (some ⟨pb, 0, none⟩)) (some 47) rfl rfl (by kernel_rfl) (by kernel_rfl) (by kernel_rfl) (fun _ _ _ h => h) (Or.inl ⟨by rfl, fun W hW => by go_simp⟩) HQ.out.2 ?_
        simp only [Act.put, List.setIfInBounds_toArray, List.set_cons_zero, List.set_cons_succ]
        refine held_take (i := 12) (v := .int .i64 (tt : Int)) (some 54) rfl rfl (by kernel_rfl) (by kernel_rfl) (by kernel_rfl) (fun _ _ _ h => h) (Or.inl ⟨by rfl, fun W hW => by have hc := hW.2.2.2; go_simp⟩) HQ.out.2 ?_
        simp only [Act.put, List.setIfInBounds_toArray, List.set_cons_zero, List.set_cons_succ]
        refine held_take (i := 6) (v := .pointer (some ⟨FB, 0, none⟩)) (some 48) rfl rfl (by kernel_rfl) (by kernel_rfl) (by kernel_rfl) (fun _ _ _ h => h) (Or.inl ⟨by rfl, fun W hW => by have hc := hW.2.1; go_simp⟩) HQ.out.2 ?_
        simp only [Act.put, List.setIfInBounds_toArray, List.set_cons_zero, List.set_cons_succ]
        refine wpAnyH_ready (rs := [13, 14]) (by kernel_rfl) (by simp) ?_
        refine AllReadyH.cons rfl (fun K hK => ?_) (AllReadyH.cons rfl (fun K hK => ?_) AllReadyH.nil)
        · go_simp
          refine (HCALL.out _ _ HQ.out.1).mono ?_
          rintro e w4 ⟨op4, fin4, A4, n4, c4, rfl, l4⟩
          have HQ4 := Lib.hid (And.intro l4 (show w4.cell? ⟨gk, 0, none⟩ = some (.int .i64 0) ∧ w4.cell? ⟨pb, 0, none⟩ = some (.pointer (some ⟨FB, 0, none⟩)) ∧ w4.rangeAt gk 1 o.sg ∧ w4.cell? ⟨pb, 7, none⟩ = some (.int .i64 (tt : Int)) from ⟨l4.g0, l4.fp, l4.sg, l4.tick⟩))
          clear l4
          dsimp only
          refine hK.out _ _ HQ4.out.2 (fun _ => ?_)
          clear hK
          try simp only [Act.put, List.setIfInBounds_toArray, List.set_cons_zero, List.set_cons_succ]
          refine wpAnyH_ready (rs := [14]) (by kernel_rfl) (by simp) ?_
          refine AllReadyH.cons rfl (fun K hK => ?_) AllReadyH.nil
          refine step_allocV (by rfl) 57 rfl hz zeroHd ?_
          intro g w5 hg z b s
          have l4 := HQ4.out.1.alloc hg.out z b
          have HGE := Lib.hid (show wd.heap.size ≤ g by rw [hg.out]; exact HQ4.out.1.b.size)
          have HQ5 := Lib.hid (And.intro l4 (show w5.cell? ⟨gk, 0, none⟩ = some (.int .i64 0) ∧ w5.cell? ⟨pb, 0, none⟩ = some (.pointer (some ⟨FB, 0, none⟩)) ∧ w5.rangeAt gk 1 o.sg ∧ w5.cell? ⟨pb, 7, none⟩ = some (.int .i64 (tt : Int)) from ⟨l4.g0, l4.fp, l4.sg, l4.tick⟩))
          clear l4 hg z b s
          show K (Act.put _ (some 4) _) _
          refine hK.out _ _ HQ5.out.2 (fun _ => ?_)
          clear hK
          try simp only [Act.put, List.setIfInBounds_toArray, List.set_cons_zero, List.set_cons_succ]
          refine wpAnyH_ready (rs := [15]) (by kernel_rfl) (by simp) ?_
          refine AllReadyH.cons rfl (fun K hK => ?_) AllReadyH.nil
          refine step_storeV (by rfl) 57 (.tmp 4) (.tmp 55) rfl g hz (hv op4 fin4 false false fr (.slice A4 n4 c4)) rfl rfl (HQ5.out.1.hd g rfl) rfl (hd_one _ _ _ _ _ rfl) infoHd ?_
          intro w6 z c s
          have l4 := HQ5.out.1.store (by have := HGE.out; have := HBS.out; omega) z (by have := HGE.out; have := HGL.out; omega) c
          have HQ6 := Lib.hid (And.intro l4 (show w6.cell? ⟨gk, 0, none⟩ = some (.int .i64 0) ∧ w6.cell? ⟨pb, 0, none⟩ = some (.pointer (some ⟨FB, 0, none⟩)) ∧ w6.rangeAt gk 1 o.sg ∧ w6.cell? ⟨pb, 7, none⟩ = some (.int .i64 (tt : Int)) from ⟨l4.g0, l4.fp, l4.sg, l4.tick⟩))
          clear l4 z c s
          show K (Act.put _ none _) _
          refine hK.out _ _ HQ6.out.2 (fun _ => ?_)
          clear hK
          try simp only [Act.put, List.setIfInBounds_toArray, List.set_cons_zero, List.set_cons_succ]
          refine wpAnyH_done (by kernel_rfl) ?_ _
          refine NoPanic.normal ?_
          have HR := Lib.hid HQ6.out.1
          have z4 : w6.cell? ⟨g, 4, none⟩ = some (.bool fr) := (HQ6.out.1.hd g rfl 4 (by simp [hv])).1
          clear HQ6 HQ5 HQ4
          cases fr with
          | false =>
            go_wp2_with fail
            go_end0
            obtain ⟨m6, lab6, h6, _⟩ := HR.out.pr
            exact ⟨rfl, ⟨m6, lab6, by rw [HCOM.out, if_neg (by decide), List.append_nil]; exact h6⟩, HBW.out.trans HR.out.b⟩
          | true =>
            go_wp2_with fail
            refine wp_region_noPanic ?_
            have HR := Lib.hid (HR.out.below (Below.refl _ _).drew)
            generalize hwd : w6.drew = w7 at *
            clear z4
            obtain ⟨m6, lab6, h6, hg6, _, h96⟩ := HR.out.pr
            obtain ⟨A5, c5, hv5, hc5, hm5⟩ := own_slice h6.c0.row
            obtain ⟨L5, hL5⟩ : ∃ L, L = P1.c0.length := ⟨_, rfl⟩
            rw [← hL5] at hv5 hc5
            have hL9 : L5 ≤ 549755813888 := by rw [hL5]; exact HLC.out
            have hdn9 := HDN.out
            have H6 := Lib.hid (And.intro h6 (And.intro hv5 (And.intro hL5 hg6)))
            have hrow := h6.c0.row
            rw [hv5, ← hL5] at hrow
            obtain ⟨A7, k7, e7, hRB, _⟩ := RB.of_own HR.out.po.data
            injection e7 with e71 _ e72
            subst e71 e72
            have e0 : w7.cell? ⟨gk, 0, none⟩ = some (.int .i64 0) ∧ w7.cell? ⟨pb, 5, none⟩ = some (.slice A5 L5 c5) ∧ w7.cell? ⟨gk, 13, none⟩ = some (.slice o.p.dA o.p.dn o.p.dc) := ⟨HR.out.g0, (h6.at_ 5).trans (by rw [show (m6.cs P1.t)[5]? = some m6.cv0 from rfl, hv5]), (HR.out.gk 13 (by rw [Pm.vals_length]; omega)).1⟩
            clear h6 h96 hv5 hL5 hg6
            refine until_start (fun W => W.cell? ⟨gk, 0, none⟩ = some (.int .i64 0) ∧ W.cell? ⟨pb, 5, none⟩ = some (.slice A5 L5 c5) ∧ W.cell? ⟨gk, 13, none⟩ = some (.slice o.p.dA o.p.dn o.p.dc)) 17 (by kernel_rfl) (by rw [hwd]; exact e0) (fun _ => ?_)
            rw [hwd]
            clear hwd
            refine until_take (i := 0) (v := .pointer (some ⟨pb, 0, none⟩)) (some 58) [17] rfl rfl (by kernel_rfl) (by kernel_rfl) (by kernel_rfl) (by kernel_rfl) rfl rfl (fun _ _ _ h => h) (Or.inl ⟨by rfl, fun W hW => by go_simp⟩) e0 ?_
            simp only [Act.put, List.setIfInBounds_toArray, List.set_cons_zero, List.set_cons_succ]
            refine until_take (i := 1) (v := .pointer (some ⟨gk, 0, none⟩)) (some 59) [17] rfl rfl (by kernel_rfl) (by kernel_rfl) (by kernel_rfl) (by kernel_rfl) rfl rfl (fun _ _ _ h => h) (Or.inl ⟨by rfl, fun W hW => by go_simp⟩) e0 ?_
            simp only [Act.put, List.setIfInBounds_toArray, List.set_cons_zero, List.set_cons_succ]
            refine until_take (i := 3) (v := .pointer (some ⟨pb, 0, none⟩)) (some 61) [17] rfl rfl (by kernel_rfl) (by kernel_rfl) (by kernel_rfl) (by kernel_rfl) rfl rfl (fun _ _ _ h => h) (Or.inl ⟨by rfl, fun W hW => by go_simp⟩) e0 ?_
            simp only [Act.put, List.setIfInBounds_toArray, List.set_cons_zero, List.set_cons_succ]
            refine until_take (i := 4) (v := .pointer (some ⟨gk, 0, none⟩)) (some 62) [17] rfl rfl (by kernel_rfl) (by kernel_rfl) (by kernel_rfl) (by kernel_rfl) rfl rfl (fun _ _ _ h => h) (Or.inl ⟨by rfl, fun W hW => by go_simp⟩) e0 ?_
            simp only [Act.put, List.setIfInBounds_toArray, List.set_cons_zero, List.set_cons_succ]
            refine until_take (i := 10) (v := .pointer (some ⟨gk, 1, none⟩)) (some 68) [17] rfl rfl (by kernel_rfl) (by kernel_rfl) (by kernel_rfl) (by kernel_rfl) rfl rfl (fun _ _ _ h => h) (Or.inl ⟨by rfl, fun W hW => by go_simp⟩) e0 ?_
            simp only [Act.put, List.setIfInBounds_toArray, List.set_cons_zero, List.set_cons_succ]
            refine until_take (i := 2) (v := .int .i64 0) (some 60) [17] rfl rfl (by kernel_rfl) (by kernel_rfl) (by kernel_rfl) (by kernel_rfl) rfl rfl (fun _ _ _ h => h) (Or.inl ⟨by rfl, fun W hW => by have hc := hW.1; go_simp⟩) e0 ?_
            simp only [Act.put, List.setIfInBounds_toArray, List.set_cons_zero, List.set_cons_succ]
            refine until_take (i := 5) (v := .int .i64 0) (some 63) [17] rfl rfl (by kernel_rfl) (by kernel_rfl) (by kernel_rfl) (by kernel_rfl) rfl rfl (fun _ _ _ h => h) (Or.inl ⟨by rfl, fun W hW => by have hc := hW.1; go_simp⟩) e0 ?_
            simp only [Act.put, List.setIfInBounds_toArray, List.set_cons_zero, List.set_cons_succ]
            refine until_take (i := 6) (v := .pointer (some ⟨pb, 0, none⟩)) (some 64) [17] rfl rfl (by kernel_rfl) (by kernel_rfl) (by kernel_rfl) (by kernel_rfl) rfl rfl (fun _ _ _ h => h) (Or.inl ⟨by rfl, fun W hW => by go_simp⟩) e0 ?_
            simp only [Act.put, List.setIfInBounds_toArray, List.set_cons_zero, List.set_cons_succ]
            refine until_take (i := 11) (v := .pointer (some ⟨gk, 13, none⟩)) (some 69) [17] rfl rfl (by kernel_rfl) (by kernel_rfl) (by kernel_rfl) (by kernel_rfl) rfl rfl (fun _ _ _ h => h) (Or.inl ⟨by rfl, fun W hW => by go_simp⟩) e0 ?_
            simp only [Act.put, List.setIfInBounds_toArray, List.set_cons_zero, List.set_cons_succ]
            refine until_take (i := 14) (v := .pointer (some ⟨pb, 0, none⟩)) (some 72) [15, 16, 17] rfl rfl (by kernel_rfl) (by kernel_rfl) (by kernel_rfl) (by kernel_rfl) rfl rfl (fun _ _ _ h => h) (Or.inl ⟨by rfl, fun W hW => by go_simp⟩) e0 ?_
            simp only [Act.put, List.setIfInBounds_toArray, List.set_cons_zero, List.set_cons_succ]
            refine until_take (i := 7) (v := .pointer (some ⟨pb, 5, none⟩)) (some 65) [17] rfl rfl (by kernel_rfl) (by kernel_rfl) (by kernel_rfl) (by kernel_rfl) rfl rfl (fun _ _ _ h => h) (Or.inl ⟨by rfl, fun W hW => by go_simp⟩) e0 ?_
            simp only [Act.put, List.setIfInBounds_toArray, List.set_cons_zero, List.set_cons_succ]
            refine until_take (i := 12) (v := .slice o.p.dA o.p.dn o.p.dc) (some 70) [17] rfl rfl (by kernel_rfl) (by kernel_rfl) (by kernel_rfl) (by kernel_rfl) rfl rfl (fun _ _ _ h => h) (Or.inl ⟨by rfl, fun W hW => by have hc := hW.2.2; go_simp⟩) e0 ?_
            simp only [Act.put, List.setIfInBounds_toArray, List.set_cons_zero, List.set_cons_succ]
            refine until_take (i := 15) (v := .pointer (some ⟨pb, 5, none⟩)) (some 73) [16, 17] rfl rfl (by kernel_rfl) (by kernel_rfl) (by kernel_rfl) (by kernel_rfl) rfl rfl (fun _ _ _ h => h) (Or.inl ⟨by rfl, fun W hW => by go_simp⟩) e0 ?_
            simp only [Act.put, List.setIfInBounds_toArray, List.set_cons_zero, List.set_cons_succ]
            refine until_take (i := 8) (v := .pointer (some ⟨pb, 5, none⟩)) (some 66) [17] rfl rfl (by kernel_rfl) (by kernel_rfl) (by kernel_rfl) (by kernel_rfl) rfl rfl (fun _ _ _ h => h) (Or.inl ⟨by rfl, fun W hW => by go_simp⟩) e0 ?_
            simp only [Act.put, List.setIfInBounds_toArray, List.set_cons_zero, List.set_cons_succ]
            refine until_take (i := 9) (v := .slice A5 L5 c5) (some 67) [17] rfl rfl (by kernel_rfl) (by kernel_rfl) (by kernel_rfl) (by kernel_rfl) rfl rfl (fun _ _ _ h => h) (Or.inl ⟨by rfl, fun W hW => by have hc := hW.2.1; go_simp⟩) e0 ?_
            simp only [Act.put, List.setIfInBounds_toArray, List.set_cons_zero, List.set_cons_succ]
            refine until_step (i := 13) (by kernel_rfl) rfl rfl (fun K hK => ?_)
            refine step_app _ rfl (.tmp 67) (.tmp 70) 30 5 rfl Try.underlying30 infoU8 base (.slice A5 L5 c5) L5 P1.c0 rfl hrow o.p.dA o.p.dn o.p.dc o.p.ds rfl hRB (by omega) (by have := HR.out.lo; exact this) ?_
            intro v9 w9 r9 g9 o9
            have HAP := Lib.hid (H6.out.1.put5 o.p.ds (n := L5 + o.p.dn) (v' := v9) (w' := w9) (by rw [List.length_append, HR.out.po.dn, H6.out.2.2.1]) r9 (by rw [H6.out.2.1]; exact g9) (by rw [H6.out.2.1]; exact o9))
            have g0 := HR.out.gk.lt (by rw [Pm.vals_length]; omega)
            have n0 : some gk ≠ (Value.slice A5 L5 c5).ownBlock := fun e => by have h3 := H6.out.1.c0.lab gk (by rw [H6.out.2.1]; exact e.symm); have := H6.out.2.2.2; omega
            have e9 : w9.cell? ⟨gk, 0, none⟩ = some (.int .i64 0) ∧ w9.cell? ⟨pb, 5, none⟩ = some (.slice A5 L5 c5) ∧ w9.cell? ⟨gk, 13, none⟩ = some (.slice o.p.dA o.p.dn o.p.dc) := ⟨(g9.cell_far _ g0 n0).trans e0.1, (g9.cell_far _ (by have := H6.out.1.lt; exact this) (fun e => by have h3 := H6.out.1.c0.lab pb (by rw [H6.out.2.1]; exact e.symm); have := H6.out.1.lp; omega)).trans e0.2.1, (g9.cell_far _ g0 n0).trans e0.2.2⟩
            have f9 : w9.frozen? ⟨pb, 5, none⟩ = false := (g9.frozen_far _ (by have := H6.out.1.lt; exact this) (fun e => by have h3 := H6.out.1.c0.lab pb (by rw [H6.out.2.1]; exact e.symm); have := H6.out.1.lp; omega)).trans (H6.out.1.fz 5)
            obtain ⟨A9, k9, rfl, hk9, hm9⟩ := own_slice r9
            generalize L5 + o.p.dn = L9 at *
            have c9 := e9.2.1
            clear r9 g9 o9 g0 n0
            show K (Act.put _ (some 71) _) _
            refine hK.out _ _ e9 (fun _ => ?_)
            clear hK
            try simp only [Act.put, List.setIfInBounds_toArray, List.set_cons_zero, List.set_cons_succ]
            refine until_take (i := 16) (v := .pointer (some ⟨pb, 5, none⟩)) (some 74) [17] rfl rfl (by kernel_rfl) (by kernel_rfl) (by kernel_rfl) (by kernel_rfl) rfl rfl (fun _ _ _ h => h) (Or.inl ⟨by rfl, fun W hW => by go_simp⟩) e9 ?_
            simp only [Act.put, List.setIfInBounds_toArray, List.set_cons_zero, List.set_cons_succ]
            refine until_last (by kernel_rfl) rfl (fun K hK => ?_)
            go_simp
            refine hK.out _ _ ?_
            clear hK
            try simp only [Act.put, List.setIfInBounds_toArray, List.set_cons_zero, List.set_cons_succ]
            refine wpAnyH_done (by kernel_rfl) ?_ _
            refine NoPanic.normal ?_
            go_wp2_with fail
            go_end0
            obtain ⟨⟨lab9, hp9⟩, hb9⟩ := HAP.out
            exact ⟨rfl, ⟨_, lab9, by rw [HCOM.out, if_pos trivial]; exact hp9⟩, HBW.out.trans (HR.out.b.trans hb9)⟩
        · refine step_allocV (by rfl) 57 rfl hz zeroHd ?_
          intro g w4 hg z b s
          have l4 := HQ.out.1.alloc hg.out z b
          have HGE := Lib.hid (show wd.heap.size ≤ g by rw [hg.out]; exact HQ.out.1.b.size)
          have HQ4 := Lib.hid (And.intro l4 (show w4.cell? ⟨gk, 0, none⟩ = some (.int .i64 0) ∧ w4.cell? ⟨pb, 0, none⟩ = some (.pointer (some ⟨FB, 0, none⟩)) ∧ w4.rangeAt gk 1 o.sg ∧ w4.cell? ⟨pb, 7, none⟩ = some (.int .i64 (tt : Int)) from ⟨l4.g0, l4.fp, l4.sg, l4.tick⟩))
          clear l4 hg z b s
          show K (Act.put _ (some 4) _) _
          refine hK.out _ _ HQ4.out.2 (fun _ => ?_)
          clear hK
          try simp only [Act.put, List.setIfInBounds_toArray, List.set_cons_zero, List.set_cons_succ]
          refine wpAnyH_ready (rs := [13]) (by kernel_rfl) (by simp) ?_
          refine AllReadyH.cons rfl (fun K hK => ?_) AllReadyH.nil
          go_simp
          refine (HCALL.out _ _ HQ4.out.1).mono ?_
          rintro e w5 ⟨op4, fin4, A4, n4, c4, rfl, l4⟩
          have HQ5 := Lib.hid (And.intro l4 (show w5.cell? ⟨gk, 0, none⟩ = some (.int .i64 0) ∧ w5.cell? ⟨pb, 0, none⟩ = some (.pointer (some ⟨FB, 0, none⟩)) ∧ w5.rangeAt gk 1 o.sg ∧ w5.cell? ⟨pb, 7, none⟩ = some (.int .i64 (tt : Int)) from ⟨l4.g0, l4.fp, l4.sg, l4.tick⟩))
          clear l4
          dsimp only
          refine hK.out _ _ HQ5.out.2 (fun _ => ?_)
          clear hK
          try simp only [Act.put, List.setIfInBounds_toArray, List.set_cons_zero, List.set_cons_succ]
          refine wpAnyH_ready (rs := [15]) (by kernel_rfl) (by simp) ?_
          refine AllReadyH.cons rfl (fun K hK => ?_) AllReadyH.nil
          refine step_storeV (by rfl) 57 (.tmp 4) (.tmp 55) rfl g hz (hv op4 fin4 false false fr (.slice A4 n4 c4)) rfl rfl (HQ5.out.1.hd g rfl) rfl (hd_one _ _ _ _ _ rfl) infoHd ?_
          intro w6 z c s
          have l4 := HQ5.out.1.store (by have := HGE.out; have := HBS.out; omega) z (by have := HGE.out; have := HGL.out; omega) c
          have HQ6 := Lib.hid (And.intro l4 (show w6.cell? ⟨gk, 0, none⟩ = some (.int .i64 0) ∧ w6.cell? ⟨pb, 0, none⟩ = some (.pointer (some ⟨FB, 0, none⟩)) ∧ w6.rangeAt gk 1 o.sg ∧ w6.cell? ⟨pb, 7, none⟩ = some (.int .i64 (tt : Int)) from ⟨l4.g0, l4.fp, l4.sg, l4.tick⟩))
          clear l4 z c s
          show K (Act.put _ none _) _
          refine hK.out _ _ HQ6.out.2 (fun _ => ?_)
          clear hK
          try simp only [Act.put, List.setIfInBounds_toArray, List.set_cons_zero, List.set_cons_succ]
          refine wpAnyH_done (by kernel_rfl) ?_ _
          refine NoPanic.normal ?_
          have HR := Lib.hid HQ6.out.1
          have z4 : w6.cell? ⟨g, 4, none⟩ = some (.bool fr) := (HQ6.out.1.hd g rfl 4 (by simp [hv])).1
          clear HQ6 HQ5 HQ4
          cases fr with
          | false =>
            go_wp2_with fail
            go_end0
            obtain ⟨m6, lab6, h6, _⟩ := HR.out.pr
            exact ⟨rfl, ⟨m6, lab6, by rw [HCOM.out, if_neg (by decide), List.append_nil]; exact h6⟩, HBW.out.trans HR.out.b⟩
          | true =>
            go_wp2_with fail
            refine wp_region_noPanic ?_
            have HR := Lib.hid (HR.out.below (Below.refl _ _).drew)
            generalize hwd : w6.drew = w7 at *
            clear z4
            obtain ⟨m6, lab6, h6, hg6, _, h96⟩ := HR.out.pr
            obtain ⟨A5, c5, hv5, hc5, hm5⟩ := own_slice h6.c0.row
            obtain ⟨L5, hL5⟩ : ∃ L, L = P1.c0.length := ⟨_, rfl⟩
            rw [← hL5] at hv5 hc5
            have hL9 : L5 ≤ 549755813888 := by rw [hL5]; exact HLC.out
            have hdn9 := HDN.out
            have H6 := Lib.hid (And.intro h6 (And.intro hv5 (And.intro hL5 hg6)))
            have hrow := h6.c0.row
            rw [hv5, ← hL5] at hrow
            obtain ⟨A7, k7, e7, hRB, _⟩ := RB.of_own HR.out.po.data
            injection e7 with e71 _ e72
            subst e71 e72
            have e0 : w7.cell? ⟨gk, 0, none⟩ = some (.int .i64 0) ∧ w7.cell? ⟨pb, 5, none⟩ = some (.slice A5 L5 c5) ∧ w7.cell? ⟨gk, 13, none⟩ = some (.slice o.p.dA o.p.dn o.p.dc) := ⟨HR.out.g0, (h6.at_ 5).trans (by rw [show (m6.cs P1.t)[5]? = some m6.cv0 from rfl, hv5]), (HR.out.gk 13 (by rw [Pm.vals_length]; omega)).1⟩
            clear h6 h96 hv5 hL5 hg6
            refine until_start (fun W => W.cell? ⟨gk, 0, none⟩ = some (.int .i64 0) ∧ W.cell? ⟨pb, 5, none⟩ = some (.slice A5 L5 c5) ∧ W.cell? ⟨gk, 13, none⟩ = some (.slice o.p.dA o.p.dn o.p.dc)) 17 (by kernel_rfl) (by rw [hwd]; exact e0) (fun _ => ?_)
            rw [hwd]
            clear hwd
            refine until_take (i := 0) (v := .pointer (some ⟨pb, 0, none⟩)) (some 58) [17] rfl rfl (by kernel_rfl) (by kernel_rfl) (by kernel_rfl) (by kernel_rfl) rfl rfl (fun _ _ _ h => h) (Or.inl ⟨by rfl, fun W hW => by go_simp⟩) e0 ?_
            simp only [Act.put, List.setIfInBounds_toArray, List.set_cons_zero, List.set_cons_succ]
            refine until_take (i := 1) (v := .pointer (some ⟨gk, 0, none⟩)) (some 59) [17] rfl rfl (by kernel_rfl) (by kernel_rfl) (by kernel_rfl) (by kernel_rfl) rfl rfl (fun _ _ _ h => h) (Or.inl ⟨by rfl, fun W hW => by go_simp⟩) e0 ?_
            simp only [Act.put, List.setIfInBounds_toArray, List.set_cons_zero, List.set_cons_succ]
            refine until_take (i := 3) (v := .pointer (some ⟨pb, 0, none⟩)) (some 61) [17] rfl rfl (by kernel_rfl) (by kernel_rfl) (by kernel_rfl) (by kernel_rfl) rfl rfl (fun _ _ _ h => h) (Or.inl ⟨by rfl, fun W hW => by go_simp⟩) e0 ?_
            simp only [Act.put, List.setIfInBounds_toArray, List.set_cons_zero, List.set_cons_succ]
            refine until_take (i := 4) (v := .pointer (some ⟨gk, 0, none⟩)) (some 62) [17] rfl rfl (by kernel_rfl) (by kernel_rfl) (by kernel_rfl) (by kernel_rfl) rfl rfl (fun _ _ _ h => h) (Or.inl ⟨by rfl, fun W hW => by go_simp⟩) e0 ?_
            simp only [Act.put, List.setIfInBounds_toArray, List.set_cons_zero, List.set_cons_succ]
            refine until_take (i := 10) (v := .pointer (some ⟨gk, 1, none⟩)) (some 68) [17] rfl rfl (by kernel_rfl) (by kernel_rfl) (by kernel_rfl) (by kernel_rfl) rfl rfl (fun _ _ _ h => h) (Or.inl ⟨by rfl, fun W hW => by go_simp⟩) e0 ?_
            simp only [Act.put, List.setIfInBounds_toArray, List.set_cons_zero, List.set_cons_succ]
            refine until_take (i := 2) (v := .int .i64 0) (some 60) [17] rfl rfl (by kernel_rfl) (by kernel_rfl) (by kernel_rfl) (by kernel_rfl) rfl rfl (fun _ _ _ h => h) (Or.inl ⟨by rfl, fun W hW => by have hc := hW.1; go_simp⟩) e0 ?_
            simp only [Act.put, List.setIfInBounds_toArray, List.set_cons_zero, List.set_cons_succ]
            refine until_take (i := 5) (v := .int .i64 0) (some 63) [17] rfl rfl (by kernel_rfl) (by kernel_rfl) (by kernel_rfl) (by kernel_rfl) rfl rfl (fun _ _ _ h => h) (Or.inl ⟨by rfl, fun W hW => by have hc := hW.1; go_simp⟩) e0 ?_
            simp only [Act.put, List.setIfInBounds_toArray, List.set_cons_zero, List.set_cons_succ]
            refine until_take (i := 6) (v := .pointer (some ⟨pb, 0, none⟩)) (some 64) [17] rfl rfl (by kernel_rfl) (by kernel_rfl) (by kernel_rfl) (by kernel_rfl) rfl rfl (fun _ _ _ h => h) (Or.inl ⟨by rfl, fun W hW => by go_simp⟩) e0 ?_
            simp only [Act.put, List.setIfInBounds_toArray, List.set_cons_zero, List.set_cons_succ]
            refine until_take (i := 11) (v := .pointer (some ⟨gk, 13, none⟩)) (some 69) [17] rfl rfl (by kernel_rfl) (by kernel_rfl) (by kernel_rfl) (by kernel_rfl) rfl rfl (fun _ _ _ h => h) (Or.inl ⟨by rfl, fun W hW => by go_simp⟩) e0 ?_
            simp only [Act.put, List.setIfInBounds_toArray, List.set_cons_zero, List.set_cons_succ]
            refine until_take (i := 14) (v := .pointer (some ⟨pb, 0, none⟩)) (some 72) [15, 16, 17] rfl rfl (by kernel_rfl) (by kernel_rfl) (by kernel_rfl) (by kernel_rfl) rfl rfl (fun _ _ _ h => h) (Or.inl ⟨by rfl, fun W hW => by go_simp⟩) e0 ?_
            simp only [Act.put, List.setIfInBounds_toArray, List.set_cons_zero, List.set_cons_succ]
            refine until_take (i := 7) (v := .pointer (some ⟨pb, 5, none⟩)) (some 65) [17] rfl rfl (by kernel_rfl) (by kernel_rfl) (by kernel_rfl) (by kernel_rfl) rfl rfl (fun _ _ _ h => h) (Or.inl ⟨by rfl, fun W hW => by go_simp⟩) e0 ?_
            simp only [Act.put, List.setIfInBounds_toArray, List.set_cons_zero, List.set_cons_succ]
            refine until_take (i := 12) (v := .slice o.p.dA o.p.dn o.p.dc) (some 70) [17] rfl rfl (by kernel_rfl) (by kernel_rfl) (by kernel_rfl) (by kernel_rfl) rfl rfl (fun _ _ _ h => h) (Or.inl ⟨by rfl, fun W hW => by have hc := hW.2.2; go_simp⟩) e0 ?_
            simp only [Act.put, List.setIfInBounds_toArray, List.set_cons_zero, List.set_cons_succ]
            refine until_take (i := 15) (v := .pointer (some ⟨pb, 5, none⟩)) (some 73) [16, 17] rfl rfl (by kernel_rfl) (by kernel_rfl) (by kernel_rfl) (by kernel_rfl) rfl rfl (fun _ _ _ h => h) (Or.inl ⟨by rfl, fun W hW => by go_simp⟩) e0 ?_
            simp only [Act.put, List.setIfInBounds_toArray, List.set_cons_zero, List.set_cons_succ]
            refine until_take (i := 8) (v := .pointer (some ⟨pb, 5, none⟩)) (some 66) [17] rfl rfl (by kernel_rfl) (by kernel_rfl) (by kernel_rfl) (by kernel_rfl) rfl rfl (fun _ _ _ h => h) (Or.inl ⟨by rfl, fun W hW => by go_simp⟩) e0 ?_
            simp only [Act.put, List.setIfInBounds_toArray, List.set_cons_zero, List.set_cons_succ]
            refine until_take (i := 9) (v := .slice A5 L5 c5) (some 67) [17] rfl rfl (by kernel_rfl) (by kernel_rfl) (by kernel_rfl) (by kernel_rfl) rfl rfl (fun _ _ _ h => h) (Or.inl ⟨by rfl, fun W hW => by have hc := hW.2.1; go_simp⟩) e0 ?_
            simp only [Act.put, List.setIfInBounds_toArray, List.set_cons_zero, List.set_cons_succ]
            refine until_step (i := 13) (by kernel_rfl) rfl rfl (fun K hK => ?_)
            refine step_app _ rfl (.tmp 67) (.tmp 70) 30 5 rfl Try.underlying30 infoU8 base (.slice A5 L5 c5) L5 P1.c0 rfl hrow o.p.dA o.p.dn o.p.dc o.p.ds rfl hRB (by omega) (by have := HR.out.lo; exact this) ?_
            intro v9 w9 r9 g9 o9
            have HAP := Lib.hid (H6.out.1.put5 o.p.ds (n := L5 + o.p.dn) (v' := v9) (w' := w9) (by rw [List.length_append, HR.out.po.dn, H6.out.2.2.1]) r9 (by rw [H6.out.2.1]; exact g9) (by rw [H6.out.2.1]; exact o9))
            have g0 := HR.out.gk.lt (by rw [Pm.vals_length]; omega)
            have n0 : some gk ≠ (Value.slice A5 L5 c5).ownBlock := fun e => by have h3 := H6.out.1.c0.lab gk (by rw [H6.out.2.1]; exact e.symm); have := H6.out.2.2.2; omega
            have e9 : w9.cell? ⟨gk, 0, none⟩ = some (.int .i64 0) ∧ w9.cell? ⟨pb, 5, none⟩ = some (.slice A5 L5 c5) ∧ w9.cell? ⟨gk, 13, none⟩ = some (.slice o.p.dA o.p.dn o.p.dc) := ⟨(g9.cell_far _ g0 n0).trans e0.1, (g9.cell_far _ (by have := H6.out.1.lt; exact this) (fun e => by have h3 := H6.out.1.c0.lab pb (by rw [H6.out.2.1]; exact e.symm); have := H6.out.1.lp; omega)).trans e0.2.1, (g9.cell_far _ g0 n0).trans e0.2.2⟩
            have f9 : w9.frozen? ⟨pb, 5, none⟩ = false := (g9.frozen_far _ (by have := H6.out.1.lt; exact this) (fun e => by have h3 := H6.out.1.c0.lab pb (by rw [H6.out.2.1]; exact e.symm); have := H6.out.1.lp; omega)).trans (H6.out.1.fz 5)
            obtain ⟨A9, k9, rfl, hk9, hm9⟩ := own_slice r9
            generalize L5 + o.p.dn = L9 at *
            have c9 := e9.2.1
            clear r9 g9 o9 g0 n0
            show K (Act.put _ (some 71) _) _
            refine hK.out _ _ e9 (fun _ => ?_)
            clear hK
            try simp only [Act.put, List.setIfInBounds_toArray, List.set_cons_zero, List.set_cons_succ]
            refine until_take (i := 16) (v := .pointer (some ⟨pb, 5, none⟩)) (some 74) [17] rfl rfl (by kernel_rfl) (by kernel_rfl) (by kernel_rfl) (by kernel_rfl) rfl rfl (fun _ _ _ h => h) (Or.inl ⟨by rfl, fun W hW => by go_simp⟩) e9 ?_
            simp only [Act.put, List.setIfInBounds_toArray, List.set_cons_zero, List.set_cons_succ]
            refine until_last (by kernel_rfl) rfl (fun K hK => ?_)
            go_simp
            refine hK.out _ _ ?_
            clear hK
            try simp only [Act.put, List.setIfInBounds_toArray, List.set_cons_zero, List.set_cons_succ]
            refine wpAnyH_done (by kernel_rfl) ?_ _
            refine NoPanic.normal ?_
            go_wp2_with fail
            go_end0
            obtain ⟨⟨lab9, hp9⟩, hb9⟩ := HAP.out
            exact ⟨rfl, ⟨_, lab9, by rw [HCOM.out, if_pos trivial]; exact hp9⟩, HBW.out.trans (HR.out.b.trans hb9)⟩
    · obtain rfl : to = 1 := by
        have : to ≤ 1 := hto
        omega
      as_aux_lemma =>
        have HP1 : Hid (w.cell? ⟨pb, 1, none⟩ = some (.pointer (some ⟨s.fb, 0, none⟩))) := Lib.hid (by have := h.at_ 1; rw [show (m.cs p.t)[1]? = some (f1v m.b) from rfl, hs] at this; exact this)
        clear hF
        have HCALL := Lib.hid (fun (gk : Nat) (wd : World) (og : Option Nat) (W : World) (q : Cq GB base wd pb ⟨1, o⟩ gk s.fb p.t p og hz W) => q.call1 rfl hf (by decide) hr hack (hb1 f hf) (Nat.le_trans hdn (by decide)) hT)
        obtain ⟨fr, hfr⟩ : ∃ b, b = f.heardO o.key p.t := ⟨_, rfl⟩
        obtain ⟨P1, hP1⟩ : ∃ q : P, q = { p with f1 := some (f.hearO o.key p.t) } := ⟨_, rfl⟩
        rw [← hfr, ← hP1] at HCALL
        have HCOM : Hid (p.comes ⟨1, o.key⟩ = { P1 with c1 := P1.c1 ++ (if fr = true then o.p.ds else []) }) := Lib.hid (by rw [hP1, hfr]; unfold P.comes; rw [if_pos rfl, hf]; rfl)
        have HLC : Hid (P1.c1.length ≤ 549755813888) := Lib.hid (by rw [hP1]; exact hc1)
        have HDN := Lib.hid hdn
        have HBL := Lib.hid hbl
        clear hfr hP1
        clear h hr hack hdn hT hb0 hb1 hpo hbl hc0 hc1
        go_enter Try.func30, Try.ntmps30
        go_wp2_with (first
          | ((with_reducible refine wpList_here ?_); refine wpList_boxV (o := ⟨some 3, _, _, _, _, _⟩) rfl 69 (.tmp 1) rfl (Pm.mk 1 o).vals rfl _ rfl ?_; intro w1 z1 b1 s1; have k0 : w1.cell? ⟨w.heap.size, 0, none⟩ = some (.int .i64 1) := (z1 0 (by rw [Pm.vals_length]; omega)).1; have HB1 := Lib.hid b1; have HZ1 := Lib.hid z1; have q1 : w1.cell? ⟨pb, 1, none⟩ = some (.pointer (some ⟨s.fb, 0, none⟩)) := cellB HB1.out HP1.out; clear z1 b1)
          | fail)
        obtain ⟨gk, hgk⟩ : ∃ g, g = w.heap.size := ⟨_, rfl⟩
        obtain ⟨FB, hFB⟩ : ∃ g, g = s.fb := ⟨_, rfl⟩
        obtain ⟨tt, htt⟩ : ∃ g, g = p.t := ⟨_, rfl⟩
        rw [← hgk] at HZ1
        rw [← hgk]
        rw [← hFB, ← htt] at HCALL
        clear k0 q1
        have HBWX := Lib.hid (show Below base w w1.drew from (HB1.out.drew).mono (by have := H.out.lo; have := H.out.lt; omega))
        have HQ0 : Hid (Cq GB base w1.drew pb ⟨1, o⟩ gk FB tt p none hz w1.drew) := Lib.hid (by
          have hd := HB1.out.drew
          have hpk := H.out.relabel (lab' := fun j => if j < w.heap.size then lab j else 0) (fun j hj => if_pos hj)
          refine ⟨⟨m, _, hpk.below hd, if_neg (by omega), (fun g e => by cases e), fun g e => (if_pos (HPO.out.lt e).2).trans (HBL.out g e)⟩, HPO.out.below hd, HZ1.out, (fun g e => by cases e), ?_, Below.refl _ _, by have := H.out.lo; have := H.out.lt; have := hd.size; omega, htt.symm⟩
          rw [hFB]; exact cellB hd HP1.out)
        have HGL : Hid (gk < w1.drew.heap.size) := Lib.hid (HQ0.out.gk.lt (by rw [Pm.vals_length]; omega))
        have HBS : Hid (base ≤ w1.drew.heap.size) := Lib.hid HQ0.out.lo
        have HQ := Lib.hid (And.intro HQ0.out (show w1.drew.cell? ⟨gk, 0, none⟩ = some (.int .i64 1) ∧ w1.drew.cell? ⟨pb, 1, none⟩ = some (.pointer (some ⟨FB, 0, none⟩)) ∧ w1.drew.rangeAt gk 1 o.sg ∧ w1.drew.cell? ⟨pb, 7, none⟩ = some (.int .i64 (tt : Int)) from ⟨HQ0.out.g0, HQ0.out.fp, HQ0.out.sg, HQ0.out.tick⟩))
        have HCALL := Lib.hid (HCALL.out gk w1.drew)
        have HBW := Lib.hid HBWX.out
        clear HQ0 HBWX HZ1 HB1 s1 hgk hFB htt
        generalize hwd : w1.drew = wd at *
        refine wp_region_noPanic ?_
        refine wp_region_held_drew (S := fun W => W.cell? ⟨gk, 0, none⟩ = some (.int .i64 1) ∧ W.cell? ⟨pb, 1, none⟩ = some (.pointer (some ⟨FB, 0, none⟩)) ∧ W.rangeAt gk 1 o.sg ∧ W.cell? ⟨pb, 7, none⟩ = some (.int .i64 (tt : Int))) (by kernel_rfl) (by rw [hwd]; exact HQ.out.2) (fun _ => ?_)
        rw [hwd]
        clear hwd
        refine held_take (i := 0) (v := .pointer (some ⟨pb, 0, none⟩)) (some 42) rfl rfl (by kernel_rfl) (by kernel_rfl) (by kernel_rfl) (fun _ _ _ h => h) (Or.inl ⟨by rfl, fun W hW => by go_simp⟩) HQ.out.2 ?_
        simp only [Act.put, List.setIfInBounds_toArray, List.set_cons_zero, List.set_cons_succ]
        refine held_take (i := 1) (v := .pointer (some ⟨gk, 0, none⟩)) (some 43) rfl rfl (by kernel_rfl) (by kernel_rfl) (by kernel_rfl) (fun _ _ _ h => h) (Or.inl ⟨by rfl, fun W hW => by go_simp⟩) HQ.out.2 ?_
        simp only [Act.put, List.setIfInBounds_toArray, List.set_cons_zero, List.set_cons_succ]
        refine held_take (i := 7) (v := .pointer (some ⟨gk, 1, none⟩)) (some 49) rfl rfl (by kernel_rfl) (by kernel_rfl) (by kernel_rfl) (fun _ _ _ h => h) (Or.inl ⟨by rfl, fun W hW => by go_simp⟩) HQ.out.2 ?_
        simp only [Act.put, List.setIfInBounds_toArray, List.set_cons_zero, List.set_cons_succ]
        refine held_take (i := 9) (v := .pointer (some ⟨pb, 0, none⟩)) (some 51) rfl rfl (by kernel_rfl) (by kernel_rfl) (by kernel_rfl) (fun _ _ _ h => h) (Or.inl ⟨by rfl, fun W hW => by go_simp⟩) HQ.out.2 ?_
        simp only [Act.put, List.setIfInBounds_toArray, List.set_cons_zero, List.set_cons_succ]
        refine held_take (i := 2) (v := .int .i64 1) (some 44) rfl rfl (by kernel_rfl) (by kernel_rfl) (by kernel_rfl) (fun _ _ _ h => h) (Or.inl ⟨by rfl, fun W hW => by have hc := hW.1; go_simp⟩) HQ.out.2 ?_
        simp only [Act.put, List.setIfInBounds_toArray, List.set_cons_zero, List.set_cons_succ]
        refine held_take (i := 3) (v := .pointer (some ⟨pb, 0, none⟩)) (some 45) rfl rfl (by kernel_rfl) (by kernel_rfl) (by kernel_rfl) (fun _ _ _ h => h) (Or.inl ⟨by rfl, fun W hW => by go_simp⟩) HQ.out.2 ?_
        simp only [Act.put, List.setIfInBounds_toArray, List.set_cons_zero, List.set_cons_succ]
        refine held_take (i := 8) (v := .agg o.sg.toArray) (some 50) rfl rfl (by kernel_rfl) (by kernel_rfl) (by kernel_rfl) (fun _ _ _ h => h) (yieldsIf_load_mid (by rfl) 47 (.tmp 49) rfl _ _ rfl _ _ (fun W hW => hW.2.2.1) Try.underlying47 rfl infoSg) HQ.out.2 ?_
        simp only [Act.put, List.setIfInBounds_toArray, List.set_cons_zero, List.set_cons_succ]
        refine held_take (i := 10) (v := .pointer (some ⟨pb, 0, none⟩)) (some 52) rfl rfl (by kernel_rfl) (by kernel_rfl) (by kernel_rfl) (fun _ _ _ h => h) (Or.inl ⟨by rfl, fun W hW => by go_simp⟩) HQ.out.2 ?_
        simp only [Act.put, List.setIfInBounds_toArray, List.set_cons_zero, List.set_cons_succ]
        refine held_take (i := 4) (v := .pointer (some ⟨pb, 0, none⟩)) (some 46) rfl rfl (by kernel_rfl) (by kernel_rfl) (by kernel_rfl) (fun _ _ _ h => h) (Or.inl ⟨by rfl, fun W hW => by go_simp⟩) HQ.out.2 ?_
        simp only [Act.put, List.setIfInBounds_toArray, List.set_cons_zero, List.set_cons_succ]
        refine held_take (i := 11) (v := .pointer (some ⟨pb, 7, none⟩)) (some 53) rfl rfl (by kernel_rfl) (by kernel_rfl) (by kernel_rfl) (fun _ _ _ h => h) (Or.inl ⟨by rfl, fun W hW => by go_simp⟩) HQ.out.2 ?_
        simp only [Act.put, List.setIfInBounds_toArray, List.set_cons_zero, List.set_cons_succ]
        refine held_take (i := 5) (v := .pointer (some ⟨pb, 1, none⟩)) (some 47) rfl rfl (by kernel_rfl) (by kernel_rfl) (by kernel_rfl) (fun _ _ _ h => h) (Or.inl ⟨by rfl, fun W hW => by go_simp⟩) HQ.out.2 ?_
        simp only [Act.put, List.setIfInBounds_toArray, List.set_cons_zero, List.set_cons_succ]
        refine held_take (i := 12) (v := .int .i64 (tt : Int)) (some 54) rfl rfl (by kernel_rfl) (by kernel_rfl) (by kernel_rfl) (fun _ _ _ h => h) (Or.inl ⟨by rfl, fun W hW => by have hc := hW.2.2.2; go_simp⟩) HQ.out.2 ?_
        simp only [Act.put, List.setIfInBounds_toArray, List.set_cons_zero, List.set_cons_succ]
        refine held_take (i := 6) (v := .pointer (some ⟨FB, 0, none⟩)) (some 48) rfl rfl (by kernel_rfl) (by kernel_rfl) (by kernel_rfl) (fun _ _ _ h => h) (Or.inl ⟨by rfl, fun W hW => by have hc := hW.2.1; go_simp⟩) HQ.out.2 ?_
        simp only [Act.put, List.setIfInBounds_toArray, List.set_cons_zero, List.set_cons_succ]
        refine wpAnyH_ready (rs := [13, 14]) (by kernel_rfl) (by simp) ?_
        refine AllReadyH.cons rfl (fun K hK => ?_) (AllReadyH.cons rfl (fun K hK => ?_) AllReadyH.nil)
        · go_simp
          refine (HCALL.out _ _ HQ.out.1).mono ?_
          rintro e w4 ⟨op4, fin4, A4, n4, c4, rfl, l4⟩
          have HQ4 := Lib.hid (And.intro l4 (show w4.cell? ⟨gk, 0, none⟩ = some (.int .i64 1) ∧ w4.cell? ⟨pb, 1, none⟩ = some (.pointer (some ⟨FB, 0, none⟩)) ∧ w4.rangeAt gk 1 o.sg ∧ w4.cell? ⟨pb, 7, none⟩ = some (.int .i64 (tt : Int)) from ⟨l4.g0, l4.fp, l4.sg, l4.tick⟩))
          clear l4
          dsimp only
          refine hK.out _ _ HQ4.out.2 (fun _ => ?_)
          clear hK
          try simp only [Act.put, List.setIfInBounds_toArray, List.set_cons_zero, List.set_cons_succ]
          refine wpAnyH_ready (rs := [14]) (by kernel_rfl) (by simp) ?_
          refine AllReadyH.cons rfl (fun K hK => ?_) AllReadyH.nil
          refine step_allocV (by rfl) 57 rfl hz zeroHd ?_
          intro g w5 hg z b s
          have l4 := HQ4.out.1.alloc hg.out z b
          have HGE := Lib.hid (show wd.heap.size ≤ g by rw [hg.out]; exact HQ4.out.1.b.size)
          have HQ5 := Lib.hid (And.intro l4 (show w5.cell? ⟨gk, 0, none⟩ = some (.int .i64 1) ∧ w5.cell? ⟨pb, 1, none⟩ = some (.pointer (some ⟨FB, 0, none⟩)) ∧ w5.rangeAt gk 1 o.sg ∧ w5.cell? ⟨pb, 7, none⟩ = some (.int .i64 (tt : Int)) from ⟨l4.g0, l4.fp, l4.sg, l4.tick⟩))
          clear l4 hg z b s
          show K (Act.put _ (some 4) _) _
          refine hK.out _ _ HQ5.out.2 (fun _ => ?_)
          clear hK
          try simp only [Act.put, List.setIfInBounds_toArray, List.set_cons_zero, List.set_cons_succ]
          refine wpAnyH_ready (rs := [15]) (by kernel_rfl) (by simp) ?_
          refine AllReadyH.cons rfl (fun K hK => ?_) AllReadyH.nil
          refine step_storeV (by rfl) 57 (.tmp 4) (.tmp 55) rfl g hz (hv op4 fin4 false false fr (.slice A4 n4 c4)) rfl rfl (HQ5.out.1.hd g rfl) rfl (hd_one _ _ _ _ _ rfl) infoHd ?_
          intro w6 z c s
          have l4 := HQ5.out.1.store (by have := HGE.out; have := HBS.out; omega) z (by have := HGE.out; have := HGL.out; omega) c
          have HQ6 := Lib.hid (And.intro l4 (show w6.cell? ⟨gk, 0, none⟩ = some (.int .i64 1) ∧ w6.cell? ⟨pb, 1, none⟩ = some (.pointer (some ⟨FB, 0, none⟩)) ∧ w6.rangeAt gk 1 o.sg ∧ w6.cell? ⟨pb, 7, none⟩ = some (.int .i64 (tt : Int)) from ⟨l4.g0, l4.fp, l4.sg, l4.tick⟩))
          clear l4 z c s
          show K (Act.put _ none _) _
          refine hK.out _ _ HQ6.out.2 (fun _ => ?_)
          clear hK
          try simp only [Act.put, List.setIfInBounds_toArray, List.set_cons_zero, List.set_cons_succ]
          refine wpAnyH_done (by kernel_rfl) ?_ _
          refine NoPanic.normal ?_
          have HR := Lib.hid HQ6.out.1
          have z4 : w6.cell? ⟨g, 4, none⟩ = some (.bool fr) := (HQ6.out.1.hd g rfl 4 (by simp [hv])).1
          clear HQ6 HQ5 HQ4
          cases fr with
          | false =>
            go_wp2_with fail
            go_end0
            obtain ⟨m6, lab6, h6, _⟩ := HR.out.pr
            exact ⟨rfl, ⟨m6, lab6, by rw [HCOM.out, if_neg (by decide), List.append_nil]; exact h6⟩, HBW.out.trans HR.out.b⟩
          | true =>
            go_wp2_with fail
            refine wp_region_noPanic ?_
            have HR := Lib.hid (HR.out.below (Below.refl _ _).drew)
            generalize hwd : w6.drew = w7 at *
            clear z4
            obtain ⟨m6, lab6, h6, hg6, _, h96⟩ := HR.out.pr
            obtain ⟨A5, c5, hv5, hc5, hm5⟩ := own_slice h6.c1.row
            obtain ⟨L5, hL5⟩ : ∃ L, L = P1.c1.length := ⟨_, rfl⟩
            rw [← hL5] at hv5 hc5
            have hL9 : L5 ≤ 549755813888 := by rw [hL5]; exact HLC.out
            have hdn9 := HDN.out
            have H6 := Lib.hid (And.intro h6 (And.intro hv5 (And.intro hL5 hg6)))
            have hrow := h6.c1.row
            rw [hv5, ← hL5] at hrow
            obtain ⟨A7, k7, e7, hRB, _⟩ := RB.of_own HR.out.po.data
            injection e7 with e71 _ e72
            subst e71 e72
            have e0 : w7.cell? ⟨gk, 0, none⟩ = some (.int .i64 1) ∧ w7.cell? ⟨pb, 6, none⟩ = some (.slice A5 L5 c5) ∧ w7.cell? ⟨gk, 13, none⟩ = some (.slice o.p.dA o.p.dn o.p.dc) := ⟨HR.out.g0, (h6.at_ 6).trans (by rw [show (m6.cs P1.t)[6]? = some m6.cv1 from rfl, hv5]), (HR.out.gk 13 (by rw [Pm.vals_length]; omega)).1⟩
            clear h6 h96 hv5 hL5 hg6
            refine until_start (fun W => W.cell? ⟨gk, 0, none⟩ = some (.int .i64 1) ∧ W.cell? ⟨pb, 6, none⟩ = some (.slice A5 L5 c5) ∧ W.cell? ⟨gk, 13, none⟩ = some (.slice o.p.dA o.p.dn o.p.dc)) 17 (by kernel_rfl) (by rw [hwd]; exact e0) (fun _ => ?_)
            rw [hwd]
            clear hwd
            refine until_take (i := 0) (v := .pointer (some ⟨pb, 0, none⟩)) (some 58) [17] rfl rfl (by kernel_rfl) (by kernel_rfl) (by kernel_rfl) (by kernel_rfl) rfl rfl (fun _ _ _ h => h) (Or.inl ⟨by rfl, fun W hW => by go_simp⟩) e0 ?_
            simp only [Act.put, List.setIfInBounds_toArray, List.set_cons_zero, List.set_cons_succ]
            refine until_take (i := 1) (v := .pointer (some ⟨gk, 0, none⟩)) (some 59) [17] rfl rfl (by kernel_rfl) (by kernel_rfl) (by kernel_rfl) (by kernel_rfl) rfl rfl (fun _ _ _ h => h) (Or.inl ⟨by rfl, fun W hW => by go_simp⟩) e0 ?_
            simp only [Act.put, List.setIfInBounds_toArray, List.set_cons_zero, List.set_cons_succ]
            refine until_take (i := 3) (v := .pointer (some ⟨pb, 0, none⟩)) (some 61) [17] rfl rfl (by kernel_rfl) (by kernel_rfl) (by kernel_rfl) (by kernel_rfl) rfl rfl (fun _ _ _ h => h) (Or.inl ⟨by rfl, fun W hW => by go_simp⟩) e0 ?_
            simp only [Act.put, List.setIfInBounds_toArray, List.set_cons_zero, List.set_cons_succ]
            refine until_take (i := 4) (v := .pointer (some ⟨gk, 0, none⟩)) (some 62) [17] rfl rfl (by kernel_rfl) (by kernel_rfl) (by kernel_rfl) (by kernel_rfl) rfl rfl (fun _ _ _ h => h) (Or.inl ⟨by rfl, fun W hW => by go_simp⟩) e0 ?_
            simp only [Act.put, List.setIfInBounds_toArray, List.set_cons_zero, List.set_cons_succ]
            refine until_take (i := 10) (v := .pointer (some ⟨gk, 1, none⟩)) (some 68) [17] rfl rfl (by kernel_rfl) (by kernel_rfl) (by kernel_rfl) (by kernel_rfl) rfl rfl (fun _ _ _ h => h) (Or.inl ⟨by rfl, fun W hW => by go_simp⟩) e0 ?_
            simp only [Act.put, List.setIfInBounds_toArray, List.set_cons_zero, List.set_cons_succ]
            refine until_take (i := 2) (v := .int .i64 1) (some 60) [17] rfl rfl (by kernel_rfl) (by kernel_rfl) (by kernel_rfl) (by kernel_rfl) rfl rfl (fun _ _ _ h => h) (Or.inl ⟨by rfl, fun W hW => by have hc := hW.1; go_simp⟩) e0 ?_
            simp only [Act.put, List.setIfInBounds_toArray, List.set_cons_zero, List.set_cons_succ]
            refine until_take (i := 5) (v := .int .i64 1) (some 63) [17] rfl rfl (by kernel_rfl) (by kernel_rfl) (by kernel_rfl) (by kernel_rfl) rfl rfl (fun _ _ _ h => h) (Or.inl ⟨by rfl, fun W hW => by have hc := hW.1; go_simp⟩) e0 ?_
            simp only [Act.put, List.setIfInBounds_toArray, List.set_cons_zero, List.set_cons_succ]
            refine until_take (i := 6) (v := .pointer (some ⟨pb, 0, none⟩)) (some 64) [17] rfl rfl (by kernel_rfl) (by kernel_rfl) (by kernel_rfl) (by kernel_rfl) rfl rfl (fun _ _ _ h => h) (Or.inl ⟨by rfl, fun W hW => by go_simp⟩) e0 ?_
            simp only [Act.put, List.setIfInBounds_toArray, List.set_cons_zero, List.set_cons_succ]
            refine until_take (i := 11) (v := .pointer (some ⟨gk, 13, none⟩)) (some 69) [17] rfl rfl (by kernel_rfl) (by kernel_rfl) (by kernel_rfl) (by kernel_rfl) rfl rfl (fun _ _ _ h => h) (Or.inl ⟨by rfl, fun W hW => by go_simp⟩) e0 ?_
            simp only [Act.put, List.setIfInBounds_toArray, List.set_cons_zero, List.set_cons_succ]
            refine until_take (i := 14) (v := .pointer (some ⟨pb, 0, none⟩)) (some 72) [15, 16, 17] rfl rfl (by kernel_rfl) (by kernel_rfl) (by kernel_rfl) (by kernel_rfl) rfl rfl (fun _ _ _ h => h) (Or.inl ⟨by rfl, fun W hW => by go_simp⟩) e0 ?_
            simp only [Act.put, List.setIfInBounds_toArray, List.set_cons_zero, List.set_cons_succ]
            refine until_take (i := 7) (v := .pointer (some ⟨pb, 5, none⟩)) (some 65) [17] rfl rfl (by kernel_rfl) (by kernel_rfl) (by kernel_rfl) (by kernel_rfl) rfl rfl (fun _ _ _ h => h) (Or.inl ⟨by rfl, fun W hW => by go_simp⟩) e0 ?_
            simp only [Act.put, List.setIfInBounds_toArray, List.set_cons_zero, List.set_cons_succ]
            refine until_take (i := 12) (v := .slice o.p.dA o.p.dn o.p.dc) (some 70) [17] rfl rfl (by kernel_rfl) (by kernel_rfl) (by kernel_rfl) (by kernel_rfl) rfl rfl (fun _ _ _ h => h) (Or.inl ⟨by rfl, fun W hW => by have hc := hW.2.2; go_simp⟩) e0 ?_
            simp only [Act.put, List.setIfInBounds_toArray, List.set_cons_zero, List.set_cons_succ]
            refine until_take (i := 15) (v := .pointer (some ⟨pb, 5, none⟩)) (some 73) [16, 17] rfl rfl (by kernel_rfl) (by kernel_rfl) (by kernel_rfl) (by kernel_rfl) rfl rfl (fun _ _ _ h => h) (Or.inl ⟨by rfl, fun W hW => by go_simp⟩) e0 ?_
            simp only [Act.put, List.setIfInBounds_toArray, List.set_cons_zero, List.set_cons_succ]
            refine until_take (i := 8) (v := .pointer (some ⟨pb, 6, none⟩)) (some 66) [17] rfl rfl (by kernel_rfl) (by kernel_rfl) (by kernel_rfl) (by kernel_rfl) rfl rfl (fun _ _ _ h => h) (Or.inl ⟨by rfl, fun W hW => by go_simp⟩) e0 ?_
            simp only [Act.put, List.setIfInBounds_toArray, List.set_cons_zero, List.set_cons_succ]
            refine until_take (i := 9) (v := .slice A5 L5 c5) (some 67) [17] rfl rfl (by kernel_rfl) (by kernel_rfl) (by kernel_rfl) (by kernel_rfl) rfl rfl (fun _ _ _ h => h) (Or.inl ⟨by rfl, fun W hW => by have hc := hW.2.1; go_simp⟩) e0 ?_
            simp only [Act.put, List.setIfInBounds_toArray, List.set_cons_zero, List.set_cons_succ]
            refine until_step (i := 13) (by kernel_rfl) rfl rfl (fun K hK => ?_)
            refine step_app _ rfl (.tmp 67) (.tmp 70) 30 5 rfl Try.underlying30 infoU8 base (.slice A5 L5 c5) L5 P1.c1 rfl hrow o.p.dA o.p.dn o.p.dc o.p.ds rfl hRB (by omega) (by have := HR.out.lo; exact this) ?_
            intro v9 w9 r9 g9 o9
            have HAP := Lib.hid (H6.out.1.put6 o.p.ds (n := L5 + o.p.dn) (v' := v9) (w' := w9) (by rw [List.length_append, HR.out.po.dn, H6.out.2.2.1]) r9 (by rw [H6.out.2.1]; exact g9) (by rw [H6.out.2.1]; exact o9))
            have g0 := HR.out.gk.lt (by rw [Pm.vals_length]; omega)
            have n0 : some gk ≠ (Value.slice A5 L5 c5).ownBlock := fun e => by have h3 := H6.out.1.c1.lab gk (by rw [H6.out.2.1]; exact e.symm); have := H6.out.2.2.2; omega
            have e9 : w9.cell? ⟨gk, 0, none⟩ = some (.int .i64 1) ∧ w9.cell? ⟨pb, 6, none⟩ = some (.slice A5 L5 c5) ∧ w9.cell? ⟨gk, 13, none⟩ = some (.slice o.p.dA o.p.dn o.p.dc) := ⟨(g9.cell_far _ g0 n0).trans e0.1, (g9.cell_far _ (by have := H6.out.1.lt; exact this) (fun e => by have h3 := H6.out.1.c1.lab pb (by rw [H6.out.2.1]; exact e.symm); have := H6.out.1.lp; omega)).trans e0.2.1, (g9.cell_far _ g0 n0).trans e0.2.2⟩
            have f9 : w9.frozen? ⟨pb, 6, none⟩ = false := (g9.frozen_far _ (by have := H6.out.1.lt; exact this) (fun e => by have h3 := H6.out.1.c1.lab pb (by rw [H6.out.2.1]; exact e.symm); have := H6.out.1.lp; omega)).trans (H6.out.1.fz 6)
            obtain ⟨A9, k9, rfl, hk9, hm9⟩ := own_slice r9
            generalize L5 + o.p.dn = L9 at *
            have c9 := e9.2.1
            clear r9 g9 o9 g0 n0
            show K (Act.put _ (some 71) _) _
            refine hK.out _ _ e9 (fun _ => ?_)
            clear hK
            try simp only [Act.put, List.setIfInBounds_toArray, List.set_cons_zero, List.set_cons_succ]
            refine until_take (i := 16) (v := .pointer (some ⟨pb, 6, none⟩)) (some 74) [17] rfl rfl (by kernel_rfl) (by kernel_rfl) (by kernel_rfl) (by kernel_rfl) rfl rfl (fun _ _ _ h => h) (Or.inl ⟨by rfl, fun W hW => by go_simp⟩) e9 ?_
            simp only [Act.put, List.setIfInBounds_toArray, List.set_cons_zero, List.set_cons_succ]
            refine until_last (by kernel_rfl) rfl (fun K hK => ?_)
            go_simp
            refine hK.out _ _ ?_
            clear hK
            try simp only [Act.put, List.setIfInBounds_toArray, List.set_cons_zero, List.set_cons_succ]
            refine wpAnyH_done (by kernel_rfl) ?_ _
            refine NoPanic.normal ?_
            go_wp2_with fail
            go_end0
            obtain ⟨⟨lab9, hp9⟩, hb9⟩ := HAP.out
            exact ⟨rfl, ⟨_, lab9, by rw [HCOM.out, if_pos trivial]; exact hp9⟩, HBW.out.trans (HR.out.b.trans hb9)⟩
        · refine step_allocV (by rfl) 57 rfl hz zeroHd ?_
          intro g w4 hg z b s
          have l4 := HQ.out.1.alloc hg.out z b
          have HGE := Lib.hid (show wd.heap.size ≤ g by rw [hg.out]; exact HQ.out.1.b.size)
          have HQ4 := Lib.hid (And.intro l4 (show w4.cell? ⟨gk, 0, none⟩ = some (.int .i64 1) ∧ w4.cell? ⟨pb, 1, none⟩ = some (.pointer (some ⟨FB, 0, none⟩)) ∧ w4.rangeAt gk 1 o.sg ∧ w4.cell? ⟨pb, 7, none⟩ = some (.int .i64 (tt : Int)) from ⟨l4.g0, l4.fp, l4.sg, l4.tick⟩))
          clear l4 hg z b s
          show K (Act.put _ (some 4) _) _
          refine hK.out _ _ HQ4.out.2 (fun _ => ?_)
          clear hK
          try simp only [Act.put, List.setIfInBounds_toArray, List.set_cons_zero, List.set_cons_succ]
          refine wpAnyH_ready (rs := [13]) (by kernel_rfl) (by simp) ?_
          refine AllReadyH.cons rfl (fun K hK => ?_) AllReadyH.nil
          go_simp
          refine (HCALL.out _ _ HQ4.out.1).mono ?_
          rintro e w5 ⟨op4, fin4, A4, n4, c4, rfl, l4⟩
          have HQ5 := Lib.hid (And.intro l4 (show w5.cell? ⟨gk, 0, none⟩ = some (.int .i64 1) ∧ w5.cell? ⟨pb, 1, none⟩ = some (.pointer (some ⟨FB, 0, none⟩)) ∧ w5.rangeAt gk 1 o.sg ∧ w5.cell? ⟨pb, 7, none⟩ = some (.int .i64 (tt : Int)) from ⟨l4.g0, l4.fp, l4.sg, l4.tick⟩))
          clear l4
          dsimp only
          refine hK.out _ _ HQ5.out.2 (fun _ => ?_)
          clear hK
          try simp only [Act.put, List.setIfInBounds_toArray, List.set_cons_zero, List.set_cons_succ]
          refine wpAnyH_ready (rs := [15]) (by kernel_rfl) (by simp) ?_
          refine AllReadyH.cons rfl (fun K hK => ?_) AllReadyH.nil
          refine step_storeV (by rfl) 57 (.tmp 4) (.tmp 55) rfl g hz (hv op4 fin4 false false fr (.slice A4 n4 c4)) rfl rfl (HQ5.out.1.hd g rfl) rfl (hd_one _ _ _ _ _ rfl) infoHd ?_
          intro w6 z c s
          have l4 := HQ5.out.1.store (by have := HGE.out; have := HBS.out; omega) z (by have := HGE.out; have := HGL.out; omega) c
          have HQ6 := Lib.hid (And.intro l4 (show w6.cell? ⟨gk, 0, none⟩ = some (.int .i64 1) ∧ w6.cell? ⟨pb, 1, none⟩ = some (.pointer (some ⟨FB, 0, none⟩)) ∧ w6.rangeAt gk 1 o.sg ∧ w6.cell? ⟨pb, 7, none⟩ = some (.int .i64 (tt : Int)) from ⟨l4.g0, l4.fp, l4.sg, l4.tick⟩))
          clear l4 z c s
          show K (Act.put _ none _) _
          refine hK.out _ _ HQ6.out.2 (fun _ => ?_)
          clear hK
          try simp only [Act.put, List.setIfInBounds_toArray, List.set_cons_zero, List.set_cons_succ]
          refine wpAnyH_done (by kernel_rfl) ?_ _
          refine NoPanic.normal ?_
          have HR := Lib.hid HQ6.out.1
          have z4 : w6.cell? ⟨g, 4, none⟩ = some (.bool fr) := (HQ6.out.1.hd g rfl 4 (by simp [hv])).1
          clear HQ6 HQ5 HQ4
          cases fr with
          | false =>
            go_wp2_with fail
            go_end0
            obtain ⟨m6, lab6, h6, _⟩ := HR.out.pr
            exact ⟨rfl, ⟨m6, lab6, by rw [HCOM.out, if_neg (by decide), List.append_nil]; exact h6⟩, HBW.out.trans HR.out.b⟩
          | true =>
            go_wp2_with fail
            refine wp_region_noPanic ?_
            have HR := Lib.hid (HR.out.below (Below.refl _ _).drew)
            generalize hwd : w6.drew = w7 at *
            clear z4
            obtain ⟨m6, lab6, h6, hg6, _, h96⟩ := HR.out.pr
            obtain ⟨A5, c5, hv5, hc5, hm5⟩ := own_slice h6.c1.row
            obtain ⟨L5, hL5⟩ : ∃ L, L = P1.c1.length := ⟨_, rfl⟩
            rw [← hL5] at hv5 hc5
            have hL9 : L5 ≤ 549755813888 := by rw [hL5]; exact HLC.out
            have hdn9 := HDN.out
            have H6 := Lib.hid (And.intro h6 (And.intro hv5 (And.intro hL5 hg6)))
            have hrow := h6.c1.row
            rw [hv5, ← hL5] at hrow
            obtain ⟨A7, k7, e7, hRB, _⟩ := RB.of_own HR.out.po.data
            injection e7 with e71 _ e72
            subst e71 e72
            have e0 : w7.cell? ⟨gk, 0, none⟩ = some (.int .i64 1) ∧ w7.cell? ⟨pb, 6, none⟩ = some (.slice A5 L5 c5) ∧ w7.cell? ⟨gk, 13, none⟩ = some (.slice o.p.dA o.p.dn o.p.dc) := ⟨HR.out.g0, (h6.at_ 6).trans (by rw [show (m6.cs P1.t)[6]? = some m6.cv1 from rfl, hv5]), (HR.out.gk 13 (by rw [Pm.vals_length]; omega)).1⟩
            clear h6 h96 hv5 hL5 hg6
            refine until_start (fun W => W.cell? ⟨gk, 0, none⟩ = some (.int .i64 1) ∧ W.cell? ⟨pb, 6, none⟩ = some (.slice A5 L5 c5) ∧ W.cell? ⟨gk, 13, none⟩ = some (.slice o.p.dA o.p.dn o.p.dc)) 17 (by kernel_rfl) (by rw [hwd]; exact e0) (fun _ => ?_)
            rw [hwd]
            clear hwd
            refine until_take (i := 0) (v := .pointer (some ⟨pb, 0, none⟩)) (some 58) [17] rfl rfl (by kernel_rfl) (by kernel_rfl) (by kernel_rfl) (by kernel_rfl) rfl rfl (fun _ _ _ h => h) (Or.inl ⟨by rfl, fun W hW => by go_simp⟩) e0 ?_
            simp only [Act.put, List.setIfInBounds_toArray, List.set_cons_zero, List.set_cons_succ]
            refine until_take (i := 1) (v := .pointer (some ⟨gk, 0, none⟩)) (some 59) [17] rfl rfl (by kernel_rfl) (by kernel_rfl) (by kernel_rfl) (by kernel_rfl) rfl rfl (fun _ _ _ h => h) (Or.inl ⟨by rfl, fun W hW => by go_simp⟩) e0 ?_
            simp only [Act.put, List.setIfInBounds_toArray, List.set_cons_zero, List.set_cons_succ]
            refine until_take (i := 3) (v := .pointer (some ⟨pb, 0, none⟩)) (some 61) [17] rfl rfl (by kernel_rfl) (by kernel_rfl) (by kernel_rfl) (by kernel_rfl) rfl rfl (fun _ _ _ h => h) (Or.inl ⟨by rfl, fun W hW => by go_simp⟩) e0 ?_
            simp only [Act.put, List.setIfInBounds_toArray, List.set_cons_zero, List.set_cons_succ]
            refine until_take (i := 4) (v := .pointer (some ⟨gk, 0, none⟩)) (some 62) [17] rfl rfl (by kernel_rfl) (by kernel_rfl) (by kernel_rfl) (by kernel_rfl) rfl rfl (fun _ _ _ h => h) (Or.inl ⟨by rfl, fun W hW => by go_simp⟩) e0 ?_
            simp only [Act.put, List.setIfInBounds_toArray, List.set_cons_zero, List.set_cons_succ]
            refine until_take (i := 10) (v := .pointer (some ⟨gk, 1, none⟩)) (some 68) [17] rfl rfl (by kernel_rfl) (by kernel_rfl) (by kernel_rfl) (by kernel_rfl) rfl rfl (fun _ _ _ h => h) (Or.inl ⟨by rfl, fun W hW => by go_simp⟩) e0 ?_
            simp only [Act.put, List.setIfInBounds_toArray, List.set_cons_zero, List.set_cons_succ]
            refine until_take (i := 2) (v := .int .i64 1) (some 60) [17] rfl rfl (by kernel_rfl) (by kernel_rfl) (by kernel_rfl) (by kernel_rfl) rfl rfl (fun _ _ _ h => h) (Or.inl ⟨by rfl, fun W hW => by have hc := hW.1; go_simp⟩) e0 ?_
            simp only [Act.put, List.setIfInBounds_toArray, List.set_cons_zero, List.set_cons_succ]
            refine until_take (i := 5) (v := .int .i64 1) (some 63) [17] rfl rfl (by kernel_rfl) (by kernel_rfl) (by kernel_rfl) (by kernel_rfl) rfl rfl (fun _ _ _ h => h) (Or.inl ⟨by rfl, fun W hW => by have hc := hW.1; go_simp⟩) e0 ?_
            simp only [Act.put, List.setIfInBounds_toArray, List.set_cons_zero, List.set_cons_succ]
            refine until_take (i := 6) (v := .pointer (some ⟨pb, 0, none⟩)) (some 64) [17] rfl rfl (by kernel_rfl) (by kernel_rfl) (by kernel_rfl) (by kernel_rfl) rfl rfl (fun _ _ _ h => h) (Or.inl ⟨by rfl, fun W hW => by go_simp⟩) e0 ?_
            simp only [Act.put, List.setIfInBounds_toArray, List.set_cons_zero, List.set_cons_succ]
            refine until_take (i := 11) (v := .pointer (some ⟨gk, 13, none⟩)) (some 69) [17] rfl rfl (by kernel_rfl) (by kernel_rfl) (by kernel_rfl) (by kernel_rfl) rfl rfl (fun _ _ _ h => h) (Or.inl ⟨by rfl, fun W hW => by go_simp⟩) e0 ?_
            simp only [Act.put, List.setIfInBounds_toArray, List.set_cons_zero, List.set_cons_succ]
            refine until_take (i := 14) (v := .pointer (some ⟨pb, 0, none⟩)) (some 72) [15, 16, 17] rfl rfl (by kernel_rfl) (by kernel_rfl) (by kernel_rfl) (by kernel_rfl) rfl rfl (fun _ _ _ h => h) (Or.inl ⟨by rfl, fun W hW => by go_simp⟩) e0 ?_
            simp only [Act.put, List.setIfInBounds_toArray, List.set_cons_zero, List.set_cons_succ]
            refine until_take (i := 7) (v := .pointer (some ⟨pb, 5, none⟩)) (some 65) [17] rfl rfl (by kernel_rfl) (by kernel_rfl) (by kernel_rfl) (by kernel_rfl) rfl rfl (fun _ _ _ h => h) (Or.inl ⟨by rfl, fun W hW => by go_simp⟩) e0 ?_
            simp only [Act.put, List.setIfInBounds_toArray, List.set_cons_zero, List.set_cons_succ]
            refine until_take (i := 12) (v := .slice o.p.dA o.p.dn o.p.dc) (some 70) [17] rfl rfl (by kernel_rfl) (by kernel_rfl) (by kernel_rfl) (by kernel_rfl) rfl rfl (fun _ _ _ h => h) (Or.inl ⟨by rfl, fun W hW => by have hc := hW.2.2; go_simp⟩) e0 ?_
            simp only [Act.put, List.setIfInBounds_toArray, List.set_cons_zero, List.set_cons_succ]
            refine until_take (i := 15) (v := .pointer (some ⟨pb, 5, none⟩)) (some 73) [16, 17] rfl rfl (by kernel_rfl) (by kernel_rfl) (by kernel_rfl) (by kernel_rfl) rfl rfl (fun _ _ _ h => h) (Or.inl ⟨by rfl, fun W hW => by go_simp⟩) e0 ?_
            simp only [Act.put, List.setIfInBounds_toArray, List.set_cons_zero, List.set_cons_succ]
            refine until_take (i := 8) (v := .pointer (some ⟨pb, 6, none⟩)) (some 66) [17] rfl rfl (by kernel_rfl) (by kernel_rfl) (by kernel_rfl) (by kernel_rfl) rfl rfl (fun _ _ _ h => h) (Or.inl ⟨by rfl, fun W hW => by go_simp⟩) e0 ?_
            simp only [Act.put, List.setIfInBounds_toArray, List.set_cons_zero, List.set_cons_succ]
            refine until_take (i := 9) (v := .slice A5 L5 c5) (some 67) [17] rfl rfl (by kernel_rfl) (by kernel_rfl) (by kernel_rfl) (by kernel_rfl) rfl rfl (fun _ _ _ h => h) (Or.inl ⟨by rfl, fun W hW => by have hc := hW.2.1; go_simp⟩) e0 ?_
            simp only [Act.put, List.setIfInBounds_toArray, List.set_cons_zero, List.set_cons_succ]
            refine until_step (i := 13) (by kernel_rfl) rfl rfl (fun K hK => ?_)
            refine step_app _ rfl (.tmp 67) (.tmp 70) 30 5 rfl Try.underlying30 infoU8 base (.slice A5 L5 c5) L5 P1.c1 rfl hrow o.p.dA o.p.dn o.p.dc o.p.ds rfl hRB (by omega) (by have := HR.out.lo; exact this) ?_
            intro v9 w9 r9 g9 o9
            have HAP := Lib.hid (H6.out.1.put6 o.p.ds (n := L5 + o.p.dn) (v' := v9) (w' := w9) (by rw [List.length_append, HR.out.po.dn, H6.out.2.2.1]) r9 (by rw [H6.out.2.1]; exact g9) (by rw [H6.out.2.1]; exact o9))
            have g0 := HR.out.gk.lt (by rw [Pm.vals_length]; omega)
            have n0 : some gk ≠ (Value.slice A5 L5 c5).ownBlock := fun e => by have h3 := H6.out.1.c1.lab gk (by rw [H6.out.2.1]; exact e.symm); have := H6.out.2.2.2; omega
            have e9 : w9.cell? ⟨gk, 0, none⟩ = some (.int .i64 1) ∧ w9.cell? ⟨pb, 6, none⟩ = some (.slice A5 L5 c5) ∧ w9.cell? ⟨gk, 13, none⟩ = some (.slice o.p.dA o.p.dn o.p.dc) := ⟨(g9.cell_far _ g0 n0).trans e0.1, (g9.cell_far _ (by have := H6.out.1.lt; exact this) (fun e => by have h3 := H6.out.1.c1.lab pb (by rw [H6.out.2.1]; exact e.symm); have := H6.out.1.lp; omega)).trans e0.2.1, (g9.cell_far _ g0 n0).trans e0.2.2⟩
            have f9 : w9.frozen? ⟨pb, 6, none⟩ = false := (g9.frozen_far _ (by have := H6.out.1.lt; exact this) (fun e => by have h3 := H6.out.1.c1.lab pb (by rw [H6.out.2.1]; exact e.symm); have := H6.out.1.lp; omega)).trans (H6.out.1.fz 6)
            obtain ⟨A9, k9, rfl, hk9, hm9⟩ := own_slice r9
            generalize L5 + o.p.dn = L9 at *
            have c9 := e9.2.1
            clear r9 g9 o9 g0 n0
            show K (Act.put _ (some 71) _) _
            refine hK.out _ _ e9 (fun _ => ?_)
            clear hK
            try simp only [Act.put, List.setIfInBounds_toArray, List.set_cons_zero, List.set_cons_succ]
            refine until_take (i := 16) (v := .pointer (some ⟨pb, 6, none⟩)) (some 74) [17] rfl rfl (by kernel_rfl) (by kernel_rfl) (by kernel_rfl) (by kernel_rfl) rfl rfl (fun _ _ _ h => h) (Or.inl ⟨by rfl, fun W hW => by go_simp⟩) e9 ?_
            simp only [Act.put, List.setIfInBounds_toArray, List.set_cons_zero, List.set_cons_succ]
            refine until_last (by kernel_rfl) rfl (fun K hK => ?_)
            go_simp
            refine hK.out _ _ ?_
            clear hK
            try simp only [Act.put, List.setIfInBounds_toArray, List.set_cons_zero, List.set_cons_succ]
            refine wpAnyH_done (by kernel_rfl) ?_ _
            refine NoPanic.normal ?_
            go_wp2_with fail
            go_end0
            obtain ⟨⟨lab9, hp9⟩, hb9⟩ := HAP.out
            exact ⟨rfl, ⟨_, lab9, by rw [HCOM.out, if_pos trivial]; exact hp9⟩, HBW.out.trans (HR.out.b.trans hb9)⟩
end
end Go.Proofs.Ytnpkmkjenlhkiaa
