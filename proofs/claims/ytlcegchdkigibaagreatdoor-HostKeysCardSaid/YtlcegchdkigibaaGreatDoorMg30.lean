/- The contracts of leg.open, leg.path, Conn.ways, sendData, sendEnd, stuck, watchWindow and move, where the leg isn't open, and nothing was written, read or told. Condition: the connection stands.
The contracts of Conn.sendData, sendEnd, stuck, watchWindow and move, where the leg isn't open, and nothing was written, read or told. Condition: the connection stands.
The contracts of the timers' arm, and of Conn.settle, where the leg isn't open, and nothing was written, read or told. Conditions: the connection stands, its leg has a deadline. -/
import Derived.Test.YtlcegchdkigibaaGreatDoorMg28
import Derived.Test.YtlcegchdkigibaaGreatDoorMg29
namespace Go.Proofs.YtlcegchdkigibaaGreatDoor
set_option linter.unusedVariables false
set_option linter.unusedSimpArgs false
set_option maxRecDepth 20000
open Go.RowKit Go.Lib

section
variable {base : Nat} {w w' : World} {lab ro lab' ro' : Nat → Nat} {cb lb : Nat} {z : Zc}
set_option maxHeartbeats 1600000 in
theorem openNo_any (h : Wo base w lab ro cb lb z) (h3 : z.x.st ≠ 3) (h6 : z.x.st ≠ 6) : Calls Tryz.prog 154 #[cptr lb] w fun e w' => e = .returned (.bool false) ∧ w' = w := by
  have c0 := h.la.fl_
  rw [h.fe] at c0
  have HS := Lib.hid (LF.State_any h.fl.fa)
  clear h
  unfold cptr at *
  unfold LF.ptr at HS
  dsimp only [LF.F.fc] at HS
  have n1 : ((z.x.st : Int) == 3) = false := by rw [beq_eq_false_iff_ne]; omega
  have n2 : ((z.x.st : Int) == 6) = false := by rw [beq_eq_false_iff_ne]; omega
  have n3 : ¬ (z.x.st : Int) = 3 := by omega
  have n4 : ¬ (z.x.st : Int) = 6 := by omega
  go_enter Tryz.func154, Tryz.ntmps154
  go_wp2_with (first
    | (go_at_call 218; refine HS.out.mono ?_; rintro e w1 ⟨rfl, rfl⟩)
    | fail)
  go_ret
  exact ⟨rfl, rfl⟩
theorem fSmooth_any {b : Nat} {c : LF.Fc} (h : LF.Fa w b c) : Calls Tryz.prog 347 #[cptr b] w fun e w' => e = .returned (.int .i64 c.E.told) ∧ Below w.heap.size w w' := by
  have HS := Lib.hid (LF.Smooth_any h)
  clear h
  unfold cptr
  unfold LF.ptr1 at HS
  go_enter Tryz.func347, Tryz.ntmps347
  go_wp2_with fail
  refine HS.out.mono ?_
  rintro e w1 ⟨rfl, b1⟩
  have HB := Lib.hid b1
  clear b1
  go_wp2_with fail
  go_ret
  exact ⟨rfl, HB.out⟩
theorem zeroPa : (Tryz.prog.info? 328).map (·.zero) = some (some (.agg LS.p0.vals.toArray)) := by kernel_rfl
theorem infoPa : (Tryz.prog.info? 328).map (fun i => (i.zero, i.size, i.bytes)) = some (some (.agg LS.p0.vals.toArray), 4, 24) := by kernel_rfl
theorem sizePa : (Tryz.prog.info? 328).map (·.size) = some 4 := by kernel_rfl
theorem undPas : Tryz.prog.underlying 244 = some (.slice 328) := by kernel_rfl
theorem pa_one (p : LS.Pa) : ∀ u ∈ p.vals, u.oneCell' = true := by
  intro u hu
  simp only [LS.Pa.vals, List.mem_cons, List.not_mem_nil, or_false] at hu
  rcases hu with rfl | rfl | rfl | rfl <;> rfl
theorem litPa (w : World) (p : LS.Pa) : (Instr.buildSlice 244 1 #[(0, .agg p.vals.toArray)]).run Tryz.prog w = .ok (.slice (some ⟨w.heap.size, 0, none⟩) 1 1) (w.alloc (.cells p.vals.toArray 328)) := by kernel_rfl
/-- What the scheduler is told of a leg that isn't open. -/
def Zc.pa (z : Zc) : LS.Pa := ⟨false, z.l.bk, z.x.E.told, (z.x.ks.length : Int)⟩
set_option maxHeartbeats 3200000 in
theorem path_any (h : Wo base w lab ro cb lb z) (h3 : z.x.st ≠ 3) (h6 : z.x.st ≠ 6) (hk : z.x.ks.length ≤ 1073741824) (hd : ∀ k ∈ z.x.ks, k.ds.length ≤ 1099511627776) :
    Calls Tryz.prog 279 #[cptr lb] w fun e w' => e = .returned (.agg z.pa.vals.toArray) ∧ Below w.heap.size w w' := by
  have HW := Lib.hid h
  have HOP := Lib.hid (fun W (b : Below w.heap.size w W) => openNo_any (h.below b) h3 h6)
  have HSM := Lib.hid (fun W (b : Below w.heap.size w W) => fSmooth_any (h.below b).fl.fa)
  have HLE := Lib.hid (fun W (b : Below w.heap.size w W) => LF.Left_any (h.below b).fl hk hd)
  have hlb := h.la.lt
  have c3 := h.la.bk_
  have c0 := h.la.fl_
  rw [h.fe] at c0
  clear h hk hd h3 h6
  unfold Zc.pa
  dsimp only [LF.F.fc] at HSM
  unfold LF.ptr at HLE
  unfold cptr at *
  generalize z.x.E.told = sm at *
  generalize z.x.ks.length = nl at *
  generalize z.l.bk = bk at *
  generalize z.s.fb = fb at *
  go_enter Tryz.func279, Tryz.ntmps279
  go_wp2_with (first
    | ((with_reducible refine wpList_here ?_); refine wpList_allocV (o := ⟨some 2, _, _, _, _, _⟩) rfl 328 rfl LS.p0.vals zeroPa _ rfl ?_; intro w1 z1 b1 s1)
    | fail)
  have BW := Lib.hid b1.drew
  have e0 : w1.drew.cell? ⟨lb, 3, none⟩ = some (.bool bk) ∧ w1.drew.cell? ⟨lb, 0, none⟩ = some (.pointer (some ⟨fb, 0, none⟩)) := ⟨(BW.out.cell hlb).trans c3, (BW.out.cell hlb).trans c0⟩
  have z0 : Own w1.drew w.heap.size LS.p0.vals := z1
  have hz : w1.drew.heap.size = w.heap.size + 1 := s1
  clear b1 z1 s1 c3 c0
  generalize hwd : w1.drew = wd at *
  have BD := Lib.hid (Below.refl wd.heap.size wd)
  refine wp_region_noPanic ?_
  refine wp_region_held_drew (S := fun W => W.cell? ⟨lb, 3, none⟩ = some (.bool bk) ∧ W.cell? ⟨lb, 0, none⟩ = some (.pointer (some ⟨fb, 0, none⟩))) (by kernel_rfl) (by rw [hwd]; exact e0) (fun _ => ?_)
  rw [hwd]
  clear hwd
  refine held_take (i := 0) (v := .pointer (some ⟨lb, 0, none⟩)) (some 3) rfl rfl (by kernel_rfl) (by kernel_rfl) (by kernel_rfl) (fun _ _ _ h => h) (Or.inl ⟨by rfl, fun W hW => by go_simp⟩) e0 ?_
  simp only [Act.put, List.setIfInBounds_toArray, List.set_cons_zero, List.set_cons_succ]
  refine held_take (i := 2) (v := .pointer (some ⟨lb, 0, none⟩)) (some 5) rfl rfl (by kernel_rfl) (by kernel_rfl) (by kernel_rfl) (fun _ _ _ h => h) (Or.inl ⟨by rfl, fun W hW => by go_simp⟩) e0 ?_
  simp only [Act.put, List.setIfInBounds_toArray, List.set_cons_zero, List.set_cons_succ]
  refine held_take (i := 6) (v := .pointer (some ⟨lb, 0, none⟩)) (some 9) rfl rfl (by kernel_rfl) (by kernel_rfl) (by kernel_rfl) (fun _ _ _ h => h) (Or.inl ⟨by rfl, fun W hW => by go_simp⟩) e0 ?_
  simp only [Act.put, List.setIfInBounds_toArray, List.set_cons_zero, List.set_cons_succ]
  refine held_take (i := 11) (v := .pointer (some ⟨lb, 0, none⟩)) (some 14) rfl rfl (by kernel_rfl) (by kernel_rfl) (by kernel_rfl) (fun _ _ _ h => h) (Or.inl ⟨by rfl, fun W hW => by go_simp⟩) e0 ?_
  simp only [Act.put, List.setIfInBounds_toArray, List.set_cons_zero, List.set_cons_succ]
  refine held_take (i := 3) (v := .pointer (some ⟨lb, 0, none⟩)) (some 6) rfl rfl (by kernel_rfl) (by kernel_rfl) (by kernel_rfl) (fun _ _ _ h => h) (Or.inl ⟨by rfl, fun W hW => by go_simp⟩) e0 ?_
  simp only [Act.put, List.setIfInBounds_toArray, List.set_cons_zero, List.set_cons_succ]
  refine held_take (i := 7) (v := .pointer (some ⟨lb, 0, none⟩)) (some 10) rfl rfl (by kernel_rfl) (by kernel_rfl) (by kernel_rfl) (fun _ _ _ h => h) (Or.inl ⟨by rfl, fun W hW => by go_simp⟩) e0 ?_
  simp only [Act.put, List.setIfInBounds_toArray, List.set_cons_zero, List.set_cons_succ]
  refine held_take (i := 12) (v := .pointer (some ⟨lb, 0, none⟩)) (some 15) rfl rfl (by kernel_rfl) (by kernel_rfl) (by kernel_rfl) (fun _ _ _ h => h) (Or.inl ⟨by rfl, fun W hW => by go_simp⟩) e0 ?_
  simp only [Act.put, List.setIfInBounds_toArray, List.set_cons_zero, List.set_cons_succ]
  refine held_take (i := 4) (v := .pointer (some ⟨lb, 3, none⟩)) (some 7) rfl rfl (by kernel_rfl) (by kernel_rfl) (by kernel_rfl) (fun _ _ _ h => h) (Or.inl ⟨by rfl, fun W hW => by go_simp⟩) e0 ?_
  simp only [Act.put, List.setIfInBounds_toArray, List.set_cons_zero, List.set_cons_succ]
  refine held_take (i := 8) (v := .pointer (some ⟨lb, 0, none⟩)) (some 11) rfl rfl (by kernel_rfl) (by kernel_rfl) (by kernel_rfl) (fun _ _ _ h => h) (Or.inl ⟨by rfl, fun W hW => by go_simp⟩) e0 ?_
  simp only [Act.put, List.setIfInBounds_toArray, List.set_cons_zero, List.set_cons_succ]
  refine held_take (i := 13) (v := .pointer (some ⟨lb, 0, none⟩)) (some 16) rfl rfl (by kernel_rfl) (by kernel_rfl) (by kernel_rfl) (fun _ _ _ h => h) (Or.inl ⟨by rfl, fun W hW => by go_simp⟩) e0 ?_
  simp only [Act.put, List.setIfInBounds_toArray, List.set_cons_zero, List.set_cons_succ]
  refine held_take (i := 5) (v := .bool bk) (some 8) rfl rfl (by kernel_rfl) (by kernel_rfl) (by kernel_rfl) (fun _ _ _ h => h) (Or.inl ⟨by rfl, fun W hW => by have hc := hW.1; go_simp⟩) e0 ?_
  simp only [Act.put, List.setIfInBounds_toArray, List.set_cons_zero, List.set_cons_succ]
  refine held_take (i := 9) (v := .pointer (some ⟨fb, 0, none⟩)) (some 12) rfl rfl (by kernel_rfl) (by kernel_rfl) (by kernel_rfl) (fun _ _ _ h => h) (Or.inl ⟨by rfl, fun W hW => by have hc := hW.2; go_simp⟩) e0 ?_
  simp only [Act.put, List.setIfInBounds_toArray, List.set_cons_zero, List.set_cons_succ]
  refine held_take (i := 14) (v := .pointer (some ⟨fb, 0, none⟩)) (some 17) rfl rfl (by kernel_rfl) (by kernel_rfl) (by kernel_rfl) (fun _ _ _ h => h) (Or.inl ⟨by rfl, fun W hW => by have hc := hW.2; go_simp⟩) e0 ?_
  simp only [Act.put, List.setIfInBounds_toArray, List.set_cons_zero, List.set_cons_succ]
  refine wpAnyH_ready (rs := [1]) (by kernel_rfl) (by simp) ?_
  refine AllReadyH.cons rfl (fun K hK => ?_) AllReadyH.nil
  go_simp
  refine (HOP.out _ (BW.out.trans (BD.out.mono BW.out.size))).mono ?_
  rintro e w2 ⟨rfl, rfl⟩
  dsimp only
  refine hK.out _ _ e0 (fun _ => ?_)
  clear hK
  try simp only [Act.put, List.setIfInBounds_toArray, List.set_cons_zero, List.set_cons_succ]
  refine wpAnyH_ready (rs := [10]) (by kernel_rfl) (by simp) ?_
  refine AllReadyH.cons rfl (fun K hK => ?_) AllReadyH.nil
  go_simp
  refine (HSM.out _ (BW.out.trans (BD.out.mono BW.out.size))).mono ?_
  rintro e wA ⟨rfl, bA⟩
  have eA : wA.cell? ⟨lb, 3, none⟩ = some (.bool bk) ∧ wA.cell? ⟨lb, 0, none⟩ = some (.pointer (some ⟨fb, 0, none⟩)) := ⟨(bA.cell (by have := BD.out.size; show lb < _; omega)).trans e0.1, (bA.cell (by have := BD.out.size; show lb < _; omega)).trans e0.2⟩
  have zA := z0.below bA
  have BA := Lib.hid (BD.out.trans (bA.mono BD.out.size))
  clear bA
  dsimp only
  refine hK.out _ _ eA (fun _ => ?_)
  clear hK
  try simp only [Act.put, List.setIfInBounds_toArray, List.set_cons_zero, List.set_cons_succ]
  refine wpAnyH_ready (rs := [15]) (by kernel_rfl) (by simp) ?_
  refine AllReadyH.cons rfl (fun K hK => ?_) AllReadyH.nil
  go_simp
  refine (HLE.out _ (BW.out.trans (BA.out.mono BW.out.size))).mono ?_
  rintro e wL ⟨⟨AL, cL, rfl⟩, bL⟩
  have eL : wL.cell? ⟨lb, 3, none⟩ = some (.bool bk) ∧ wL.cell? ⟨lb, 0, none⟩ = some (.pointer (some ⟨fb, 0, none⟩)) := ⟨(bL.cell (by have := BA.out.size; show lb < _; omega)).trans eA.1, (bL.cell (by have := BA.out.size; show lb < _; omega)).trans eA.2⟩
  have zL := zA.below bL
  have BL := Lib.hid (BA.out.trans (bL.mono BA.out.size))
  clear bL
  dsimp only
  refine hK.out _ _ eL (fun _ => ?_)
  clear hK
  try simp only [Act.put, List.setIfInBounds_toArray, List.set_cons_zero, List.set_cons_succ]
  refine held_take (i := 16) (v := .int .i64 (nl : Int)) (some 19) rfl rfl (by kernel_rfl) (by kernel_rfl) (by kernel_rfl) (fun _ _ _ h => h) (Or.inl ⟨by rfl, fun W hW => by go_simp⟩) eL ?_
  simp only [Act.put, List.setIfInBounds_toArray, List.set_cons_zero, List.set_cons_succ]
  refine held_take (i := 17) (v := .agg (LS.Pa.mk false bk sm (nl : Int)).vals.toArray) (some 20) rfl rfl (by kernel_rfl) (by kernel_rfl) (by kernel_rfl) (fun _ _ _ h => h) (Or.inl ⟨by rfl, fun W hW => by kernel_rfl⟩) eL ?_
  simp only [Act.put, List.setIfInBounds_toArray, List.set_cons_zero, List.set_cons_succ]
  refine wpAnyH_ready (rs := [18]) (by kernel_rfl) (by simp) ?_
  refine AllReadyH.cons rfl (fun K hK => ?_) AllReadyH.nil
  refine step_storeV (by rfl) 328 (.tmp 2) (.tmp 20) rfl w.heap.size LS.p0.vals (LS.Pa.mk false bk sm (nl : Int)).vals rfl rfl zL rfl (pa_one _) sizePa ?_
  intro wE zE gE sE
  have hEb : Below w.heap.size w wE := v_below_g (BW.out.trans (BL.out.mono BW.out.size)) gE (by have := BL.out.size; have := BW.out.size; omega) (Nat.le_refl _)
  have eE : wE.cell? ⟨lb, 3, none⟩ = some (.bool bk) ∧ wE.cell? ⟨lb, 0, none⟩ = some (.pointer (some ⟨fb, 0, none⟩)) := ⟨(gE.cell_far _ (by have := BL.out.size; show lb < _; omega) (fun e => by injection e with e; have e : lb = w.heap.size := e; omega)).trans eL.1, (gE.cell_far _ (by have := BL.out.size; show lb < _; omega) (fun e => by injection e with e; have e : lb = w.heap.size := e; omega)).trans eL.2⟩
  have HEB := Lib.hid hEb
  clear hEb gE
  show K (Act.put _ none _) _
  refine hK.out _ _ eE (fun _ => ?_)
  clear hK
  try simp only [Act.put, List.setIfInBounds_toArray, List.set_cons_zero, List.set_cons_succ]
  refine wpAnyH_done (by kernel_rfl) ?_ _
  refine NoPanic.normal ?_
  go_wp2_with fail
  refine bodyPost_ret (results_c0 rfl _ _ w.heap.size (LS.Pa.mk false bk sm (nl : Int)).vals _ rfl zE.range Tryz.underlying328 rfl sizePa) rfl ?_
  exact ⟨rfl, HEB.out⟩
theorem row1 {w : World} {base : Nat} {e : TypeId} {v u : Value} (h : w.ownsRow base e 1 v 1 [u]) : ∃ g cap, v = .slice (some ⟨g, 0, none⟩) 1 cap ∧ 1 ≤ cap ∧ cap ≤ 9223372036854775807 := by
  rcases h.2 with ⟨e, e2⟩ | ⟨g', cap, cur, e, _, _, h1, h2, _⟩
  · cases e2
  · exact ⟨g', cap, e, h1, by unfold maxLen at h2; omega⟩
theorem pas1 {w : World} {base : Nat} {v : Value} {p : LS.Pa} (h : w.ownsRow base 328 4 v (0 + 1) ([] ++ p.vals)) (h1 : LS.B64 p.sm) (h2 : LS.B64 p.lf) : ∃ A c, v = .slice A 1 c ∧ LS.Pas w A 1 c [p] := by
  have h : w.ownsRow base 328 4 v 1 p.vals := h
  rcases h.2 with ⟨e, e2⟩ | ⟨g', cap, cur, rfl, _, _, h3, h4, _⟩
  · cases e2
  · refine ⟨_, cap, rfl, rfl, h3, by unfold maxLen at h4; omega, fun x hx => ?_, fun _ => ⟨g', 0, rfl, fun j hj => ?_⟩⟩
    · obtain rfl : x = p := by simpa using hx
      exact ⟨h1, h2⟩
    · obtain rfl : j = 0 := by omega
      exact ⟨World.ownsRow.cellAt h 0 (by simp [LS.Pa.vals]), World.ownsRow.cellAt h 1 (by simp [LS.Pa.vals]), World.ownsRow.cellAt h 2 (by simp [LS.Pa.vals]), World.ownsRow.cellAt h 3 (by simp [LS.Pa.vals])⟩
set_option maxHeartbeats 3200000 in
theorem ways_any (h : Wo base w lab ro cb lb z) (h3 : z.x.st ≠ 3) (h6 : z.x.st ≠ 6) (hk : z.x.ks.length ≤ 1073741824) (hd : ∀ k ∈ z.x.ks, k.ds.length ≤ 1099511627776) (hE : LS.B64 z.x.E.told) :
    Calls Tryz.prog 200 #[cptr cb] w fun e w' => ∃ A c, e = .returned (.slice A 1 c) ∧ LS.Pas w' A 1 c [z.pa] ∧ Below w.heap.size w w' := by
  have HP := Lib.hid (path_any h h3 h6 hk hd)
  have HK := Lib.hid hk
  have c11 := h.ca.lv_
  have hlv := h.lv
  obtain ⟨gl, cap, hl, hcp, hmx⟩ := row1 hlv
  rw [hl] at c11 hlv
  have c0 : w.cell? ⟨gl, 0, none⟩ = some (cptr lb) := World.ownsRow.cellAt hlv 0 (by simp)
  clear h hlv h3 h6 hk hd hl
  unfold cptr at *
  go_enter Tryz.func200, Tryz.ntmps200
  go_wp2_with fail
  go_loopw [11, 3, 5] (fun i v _ wr => (i = .int .i64 0 ∧ v = .slice none 0 0 ∧ wr = w) ∨ (i = .int .i64 1 ∧ (∃ A c, v = .slice A 1 c ∧ LS.Pas wr A 1 c [z.pa]) ∧ Below w.heap.size w wr)) (fun i _ _ _ => 1 - (intOf i).toNat)
  case atStart => exact .inl ⟨rfl, rfl, rfl⟩
  case round =>
    rcases hrel with ⟨rfl, rfl, rfl⟩ | ⟨rfl, ⟨A, c, rfl, hP⟩, hB⟩
    · go_wp2_with fail
      refine HP.out.mono ?_
      rintro e w1 ⟨rfl, b1⟩
      generalize hg : w1.heap.size = g1 at *
      have HG := Lib.hid hg
      have HB1 := Lib.hid b1
      clear b1 hg HP
      go_wp2_with (first
        | ((with_reducible refine wpList_here ?_); refine wpList_litG (by rfl) (.tmp 17) 244 328 z.pa.vals rfl (litPa _ _) rfl g1 HG.out ?_; intro w2 z2 b2 s2)
        | (at_builtin; refine wpList_appG rfl _ _ 244 328 rfl (.agg LS.p0.vals.toArray) 4 24 undPas infoPa rfl (by decide) (by decide) w2.heap.size (.slice none 0 0) 0 [] rfl (World.ownsRow_nil _ _ _ _) (some ⟨g1, 0, none⟩) 1 1 z.pa.vals rfl ⟨rfl, Nat.le_refl _, by omega, pa_one _, fun _ => ⟨_, _, rfl, z2.range⟩⟩ (by omega) (Nat.le_refl _) ?_; intro v3 w3 r3 g3 o3; obtain ⟨A3, c3, rfl, HP3⟩ := pas1 r3 hE (by have := HK.out; unfold LS.B64 Zc.pa; dsimp only; omega); have HB3 := Lib.hid (HB1.out.trans ((b2.mono (by have := HG.out; have := HB1.out.size; omega)).grown g3 (by have := b2.size; have := HG.out; have := HB1.out.size; omega) (fun k e => by cases e))))
        | fail)
      go_roundw
      case rel => exact .inr ⟨by go_num, ⟨A3, c3, rfl, HP3⟩, HB3.out⟩
      case measure => simp [intOf]
    · have HPP := Lib.hid hP
      have HBB := Lib.hid hB
      clear hP hB
      go_wp2_with fail
      go_ret
      exact ⟨A, c, rfl, HPP.out, HBB.out⟩
end
end Go.Proofs.YtlcegchdkigibaaGreatDoor

namespace Go.Proofs.YtlcegchdkigibaaGreatDoor
set_option linter.unusedVariables false
set_option linter.unusedSimpArgs false
set_option maxRecDepth 20000
open Go.RowKit Go.Lib

section
variable {base : Nat} {w w' : World} {lab ro lab' ro' : Nat → Nat} {cb lb : Nat} {z : Zc}
theorem ables_no (p : LS.Pa) (h : p.rd = false) : LS.ables [p] [p].length = [] := by
  simp [LS.ables, LS.abl, LS.may, h, List.range_succ]
set_option maxHeartbeats 3200000 in
theorem sendData_any (h : Wo base w lab ro cb lb z) (h3 : z.x.st ≠ 3) (h6 : z.x.st ≠ 6) (hk : z.x.ks.length ≤ 1073741824) (hd : ∀ k ∈ z.x.ks, k.ds.length ≤ 1099511627776) (hE : LS.B64 z.x.E.told) (hh : LS.B64 z.c.ho) (t : Int) :
    Calls Tryz.prog 137 #[cptr cb, .int .i64 t] w fun e w' => e = .returned (.tuple #[]) ∧ Below w.heap.size w w' := by
  have HWY := Lib.hid (fun W (b : Below w.heap.size w W) => ways_any (h.below b) h3 h6 hk hd hE)
  have hcb := h.ca.lt
  have c13 := h.ca.ho_
  have c14 := h.ca.ls_
  have HA := Lib.hid (ables_no z.pa rfl)
  have HH := Lib.hid hh
  clear h h3 h6 hk hd hE hh
  unfold cptr at *
  generalize z.c.ho = ho at *
  generalize z.c.ls = ls at *
  go_enter Tryz.func137, Tryz.ntmps137
  go_wp2_with fail
  go_loopw [4] (fun _ wr => wr = w) (fun _ _ => 0)
  case atStart => rfl
  case round =>
    subst hrel
    have BW := Lib.hid (Below.refl wr.heap.size wr).drew
    have e0 : wr.drew.cell? ⟨cb, 13, none⟩ = some (.int .i64 ho) ∧ wr.drew.cell? ⟨cb, 14, none⟩ = some (.int .i64 ls) := ⟨c13, c14⟩
    generalize hwd : wr.drew = wd at *
    go_wp2_with fail
    refine wp_region_noPanic ?_
    refine wp_region_held_drew (S := fun W => W.cell? ⟨cb, 13, none⟩ = some (.int .i64 ho) ∧ W.cell? ⟨cb, 14, none⟩ = some (.int .i64 ls)) (by kernel_rfl) (by rw [hwd]; exact e0) (fun _ => ?_)
    rw [hwd]
    clear hwd
    refine held_take (i := 0) (v := .pointer (some ⟨cb, 0, none⟩)) (some 10) rfl rfl (by kernel_rfl) (by kernel_rfl) (by kernel_rfl) (fun _ _ _ h => h) (Or.inl ⟨by rfl, fun W hW => by go_simp⟩) e0 ?_
    simp only [Act.put, List.setIfInBounds_toArray, List.set_cons_zero, List.set_cons_succ]
    refine held_take (i := 4) (v := .pointer (some ⟨cb, 0, none⟩)) (some 14) rfl rfl (by kernel_rfl) (by kernel_rfl) (by kernel_rfl) (fun _ _ _ h => h) (Or.inl ⟨by rfl, fun W hW => by go_simp⟩) e0 ?_
    simp only [Act.put, List.setIfInBounds_toArray, List.set_cons_zero, List.set_cons_succ]
    refine held_take (i := 8) (v := .pointer (some ⟨cb, 0, none⟩)) (some 18) rfl rfl (by kernel_rfl) (by kernel_rfl) (by kernel_rfl) (fun _ _ _ h => h) (Or.inl ⟨by rfl, fun W hW => by go_simp⟩) e0 ?_
    simp only [Act.put, List.setIfInBounds_toArray, List.set_cons_zero, List.set_cons_succ]
    refine held_take (i := 1) (v := .pointer (some ⟨cb, 0, none⟩)) (some 11) rfl rfl (by kernel_rfl) (by kernel_rfl) (by kernel_rfl) (fun _ _ _ h => h) (Or.inl ⟨by rfl, fun W hW => by go_simp⟩) e0 ?_
    simp only [Act.put, List.setIfInBounds_toArray, List.set_cons_zero, List.set_cons_succ]
    refine held_take (i := 5) (v := .pointer (some ⟨cb, 0, none⟩)) (some 15) rfl rfl (by kernel_rfl) (by kernel_rfl) (by kernel_rfl) (fun _ _ _ h => h) (Or.inl ⟨by rfl, fun W hW => by go_simp⟩) e0 ?_
    simp only [Act.put, List.setIfInBounds_toArray, List.set_cons_zero, List.set_cons_succ]
    refine held_take (i := 2) (v := .pointer (some ⟨cb, 13, none⟩)) (some 12) rfl rfl (by kernel_rfl) (by kernel_rfl) (by kernel_rfl) (fun _ _ _ h => h) (Or.inl ⟨by rfl, fun W hW => by go_simp⟩) e0 ?_
    simp only [Act.put, List.setIfInBounds_toArray, List.set_cons_zero, List.set_cons_succ]
    refine held_take (i := 6) (v := .pointer (some ⟨cb, 14, none⟩)) (some 16) rfl rfl (by kernel_rfl) (by kernel_rfl) (by kernel_rfl) (fun _ _ _ h => h) (Or.inl ⟨by rfl, fun W hW => by go_simp⟩) e0 ?_
    simp only [Act.put, List.setIfInBounds_toArray, List.set_cons_zero, List.set_cons_succ]
    refine held_take (i := 3) (v := .int .i64 ho) (some 13) rfl rfl (by kernel_rfl) (by kernel_rfl) (by kernel_rfl) (fun _ _ _ h => h) (Or.inl ⟨by rfl, fun W hW => by have hc := hW.1; go_simp⟩) e0 ?_
    simp only [Act.put, List.setIfInBounds_toArray, List.set_cons_zero, List.set_cons_succ]
    refine held_take (i := 7) (v := .int .i64 ls) (some 17) rfl rfl (by kernel_rfl) (by kernel_rfl) (by kernel_rfl) (fun _ _ _ h => h) (Or.inl ⟨by rfl, fun W hW => by have hc := hW.2; go_simp⟩) e0 ?_
    simp only [Act.put, List.setIfInBounds_toArray, List.set_cons_zero, List.set_cons_succ]
    refine wpAnyH_ready (rs := [9]) (by kernel_rfl) (by simp) ?_
    refine AllReadyH.cons rfl (fun K hK => ?_) AllReadyH.nil
    go_simp
    refine (HWY.out _ BW.out).mono ?_
    rintro e wA ⟨A1, c1, rfl, P1, bA⟩
    have eA : wA.cell? ⟨cb, 13, none⟩ = some (.int .i64 ho) ∧ wA.cell? ⟨cb, 14, none⟩ = some (.int .i64 ls) := ⟨(bA.cell (by have := BW.out.size; show cb < _; omega)).trans e0.1, (bA.cell (by have := BW.out.size; show cb < _; omega)).trans e0.2⟩
    have BA := Lib.hid (BW.out.trans (bA.mono BW.out.size))
    have HPK := Lib.hid (LS.Pick_any P1 (by omega) ho ls HH.out)
    clear P1 bA HWY
    dsimp only
    refine hK.out _ _ eA (fun _ => ?_)
    clear hK
    try simp only [Act.put, List.setIfInBounds_toArray, List.set_cons_zero, List.set_cons_succ]
    refine wpAnyH_ready (rs := [10]) (by kernel_rfl) (by simp) ?_
    refine AllReadyH.cons rfl (fun K hK => ?_) AllReadyH.nil
    go_simp
    refine HPK.out.mono ?_
    rintro e wB ⟨A2, m2, c2, r2, rfl, R2, q2, bB⟩
    obtain rfl : r2 = [] := q2.1 (.inr (.inr HA.out))
    obtain rfl : m2 = 0 := by have := R2.len; simpa using this.symm
    have eB : wB.cell? ⟨cb, 13, none⟩ = some (.int .i64 ho) ∧ wB.cell? ⟨cb, 14, none⟩ = some (.int .i64 ls) := ⟨(bB.cell (by have := BA.out.size; show cb < _; omega)).trans eA.1, (bB.cell (by have := BA.out.size; show cb < _; omega)).trans eA.2⟩
    have BB := Lib.hid (BA.out.trans (bB.mono BA.out.size))
    clear R2 q2 bB HPK
    dsimp only
    refine hK.out _ _ eB (fun _ => ?_)
    clear hK
    try simp only [Act.put, List.setIfInBounds_toArray, List.set_cons_zero, List.set_cons_succ]
    refine held_take (i := 11) (v := .slice A2 0 c2) (some 4) rfl rfl (by kernel_rfl) (by kernel_rfl) (by kernel_rfl) (fun _ _ _ h => h) (Or.inl ⟨by rfl, fun W hW => by go_simp⟩) eB ?_
    simp only [Act.put, List.setIfInBounds_toArray, List.set_cons_zero, List.set_cons_succ]
    refine wpAnyH_done (by kernel_rfl) ?_ _
    refine NoPanic.normal ?_
    go_wp2_with fail
    refine bodyPost_ret (results_none rfl _ _ _) rfl ?_
    exact ⟨rfl, BB.out⟩

set_option maxHeartbeats 1600000 in
theorem sendEnd_any (h : Wo base w lab ro cb lb z) (ha : z.c.a2 = 0) (t : Int) :
    Calls Tryz.prog 138 #[cptr cb, .int .i64 t] w fun e w' => e = .returned (.tuple #[]) ∧ Wo base w' lab ro cb lb z ∧ Fx lab ro w lab ro w' := by
  have HW := Lib.hid h
  have c8 := h.ca.sb_
  have HD := Lib.hid (sDue_any h.sn)
  have HU := Lib.hid (unset2_any h.ca ha)
  clear h
  unfold tptr at HU
  unfold cptr at *
  go_enter Tryz.func138, Tryz.ntmps138
  go_wp2_with fail
  refine HD.out.mono ?_
  rintro e w1 ⟨rfl, rfl⟩
  go_wp2_with fail
  refine HU.out.mono ?_
  rintro e w2 ⟨rfl, C2, k2⟩
  have HZ := Lib.hid (HW.out.own k2 C2 rfl rfl rfl rfl rfl rfl)
  clear C2 k2 HU
  go_wp2_with fail
  refine bodyPost_ret (results_none rfl _ _ _) rfl ?_
  exact ⟨rfl, HZ.out.1, HZ.out.2⟩
set_option maxHeartbeats 1600000 in
theorem stuck_any (h : Wo base w lab ro cb lb z) : Calls Tryz.prog 205 #[cptr cb] w fun e w' => e = .returned (.bool false) ∧ Below w.heap.size w w' := by
  have c8 := h.ca.sb_
  have HN := Lib.hid (sNext_any h.sn)
  have HU := Lib.hid (fun n => sUna_any (w := w.drewN n) (h.sn.below (below_dn (Below.refl _ _) n)))
  have HH := Lib.hid (fun n => sHeld_any (w := w.drewN n) (h.sn.below (below_dn (Below.refl _ _) n)))
  clear h
  unfold cptr at *
  go_enter Tryz.func205, Tryz.ntmps205
  go_wp2_with fail
  refine HN.out.mono ?_
  rintro e w1 ⟨rfl, rfl⟩
  go_wp2_with fail
  go_quiet (first
    | (go_at_call 274; exact Calls.quiet_of_same (HU.out _))
    | (go_at_call 286; exact Calls.quiet_of_same (HH.out _)))
  go_wp2_with fail
  go_ret
  exact ⟨rfl, below_dn (Below.refl _ _) _⟩
theorem watch_any (h : Wo base w lab ro cb lb z) (ha : z.c.a4 = 0) (t : Int) :
    Calls Tryz.prog 139 #[cptr cb, .int .i64 t] w fun e w' => e = .returned (.tuple #[]) ∧ Wo base w' lab ro cb lb z ∧ Fx lab ro w lab ro w' := by
  have HW := Lib.hid h
  have HS := Lib.hid (stuck_any h)
  have HU := Lib.hid (fun W (b : Below w.heap.size w W) => unset4_any (h.below b).ca ha)
  clear h
  unfold tptr at HU
  unfold cptr at *
  go_enter Tryz.func139, Tryz.ntmps139
  go_wp2_with fail
  refine HS.out.mono ?_
  rintro e w1 ⟨rfl, b1⟩
  have HU1 := Lib.hid (HU.out _ b1)
  have HB := Lib.hid b1
  clear b1 HU
  go_wp2_with fail
  refine HU1.out.mono ?_
  rintro e w2 ⟨rfl, C2, k2⟩
  have HZ := Lib.hid ((HW.out.below HB.out).own k2 C2 rfl rfl rfl rfl rfl rfl)
  clear C2 k2 HU1
  go_wp2_with fail
  go_end0
  exact ⟨rfl, HZ.out.1, (Fx.below lab ro HB.out).trans HZ.out.2⟩
set_option maxHeartbeats 1600000 in
theorem move_any (h : Wo base w lab ro cb lb z) (hs : z.c.st ≠ 7) (t : Int) :
    Calls Tryz.prog 136 #[cptr cb, .int .i64 t] w fun e w' => e = .returned (.tuple #[]) ∧ Below w.heap.size w w' := by
  have hcb := h.ca.lt
  have c4 := h.ca.st_
  have c8 := h.ca.sb_
  have c9 := h.ca.rb_
  have HD := Lib.hid (sDone_any h.sn)
  have HE := Lib.hid (rEnded_any h.rn)
  clear h
  have n1 : (z.c.st == 7) = false := by rw [beq_eq_false_iff_ne]; exact hs
  have n2 : (z.c.st != 7) = true := by simp [bne, n1]
  generalize z.c.st = st at *
  unfold cptr at *
  go_enter Tryz.func136, Tryz.ntmps136
  go_wp2_with fail
  refine HD.out.mono ?_
  rintro e w1 ⟨rfl, rfl⟩
  go_wp2_with fail
  refine HE.out.mono ?_
  rintro e w2 ⟨rfl, b2⟩
  have k4 := (b2.cell (p := ⟨cb, 4, none⟩) hcb).trans c4
  have HB := Lib.hid b2
  clear b2 HE HD c4 c8 c9
  go_wp2_with fail
  refine bodyPost_ret (results_none rfl _ _ _) rfl ?_
  exact ⟨rfl, HB.out⟩
end
end Go.Proofs.YtlcegchdkigibaaGreatDoor

namespace Go.Proofs.YtlcegchdkigibaaGreatDoor
set_option linter.unusedVariables false
set_option linter.unusedSimpArgs false
set_option maxRecDepth 20000
open Go.RowKit Go.Lib

/-- A connection that dials, and waits. -/
structure Calm (z : Zc) : Prop where
  st : z.c.st = 0
  a0 : z.c.a0 = 0
  a1 : z.c.a1 = 0
  a2 : z.c.a2 = 0
  a3 : z.c.a3 = 0
  a4 : z.c.a4 = 0
  nm : z.l.nm = 0
  x1 : z.x.st = 1
  ks : z.x.ks.length ≤ 1073741824
  ds : ∀ k ∈ z.x.ks, k.ds.length ≤ 1099511627776
  tl : LS.B64 z.x.E.told
  ho : LS.B64 z.c.ho
  L5 : ∀ p ∈ z.L, p.1 = 5
  Ll : z.L.length ≤ 1099511627775
  bg : 0 ≤ z.c.bg ∧ z.c.bg ≤ 1048576
  df : 0 ≤ z.x.df ∧ z.x.df ≤ 1048576
  dw : 0 < z.x.dw ∧ z.x.dw ≤ 16
  n : z.n ≤ 1048576
  due : snc z.c.bg (z.x.df + z.x.dw) ≤ (z.n : Int) + 4096
def zer5 : List Value := [.int .i64 0, .int .i64 0, .int .i64 0, .int .i64 0, .int .i64 0]
theorem sizeI5 : (Tryz.prog.info? 132).map (·.size) = some 5 := by kernel_rfl
/-- The wheel has just this leg's timer. -/
def Zc.armed (z : Zc) : Zc := { z with L := [(5, max (snc z.c.bg (z.x.df + z.x.dw)) ((z.n : Int) + 1))] }
section
variable {base : Nat} {w w' : World} {lab ro lab' ro' : Nat → Nat} {cb lb : Nat} {z : Zc}
theorem Wo.ats (h : Wo base w lab ro cb lb z) (C : Calm z) : w.rangeAt cb 17 zer5 := by
  intro j v hv
  have hj : j < 5 := (List.getElem?_eq_some_iff.1 hv).1
  have h0 := h.ca.a0_
  have h1 := h.ca.a1_
  have h2 := h.ca.a2_
  have h3 := h.ca.a3_
  have h4 := h.ca.a4_
  rw [C.a0] at h0
  rw [C.a1] at h1
  rw [C.a2] at h2
  rw [C.a3] at h3
  rw [C.a4] at h4
  match j, hj with
  | 0, _ => injection hv with hv; subst hv; exact h0
  | 1, _ => injection hv with hv; subst hv; exact h1
  | 2, _ => injection hv with hv; subst hv; exact h2
  | 3, _ => injection hv with hv; subst hv; exact h3
  | 4, _ => injection hv with hv; subst hv; exact h4
set_option maxHeartbeats 6400000 in
theorem arm_any (h : Wo base w lab ro cb lb z) (hb : base ≤ w.heap.size) (C : Calm z) :
    Calls Tryz.prog 140 #[tptr cb, z.c.lv] w fun e w' => e = .returned (.tuple #[]) ∧ ∃ lab', Wo base w' lab' ro cb lb z.armed ∧ Fx lab ro w lab' ro w' := by
  have HW := Lib.hid h
  have HB := Lib.hid hb
  have HC := Lib.hid C
  have hat := h.ats C
  have hcb := h.ca.lt
  obtain ⟨gl, cap, hl, hcp, hmx⟩ := row1 h.lv
  have HHL := Lib.hid hl
  rw [hl]
  have HN := Lib.hid (fun W (Z : Wo base W lab ro cb lb z) (X : Fx lab ro w lab ro W) (k : Int) (hk : LW.isI k) (h5 : k ≠ 5) => hangNo_any Z (by have := X.1.size; omega) k 0 hk (by have := C.n; omega) (fun p hp e => h5 (by rw [← e]; exact (C.L5 p hp))))
  clear h C hl
  unfold tptr at *
  go_enter Tryz.func140, Tryz.ntmps140
  go_wp2_with (first
    | ((with_reducible refine wpList_here ?_); refine wpList_loadV (o := ⟨some 13, _, _, _, _, _⟩) rfl 132 (.tmp 12) rfl cb 17 zer5 rfl hat _ Tryz.underlying132 rfl sizeI5 ?_)
    | fail)
  unfold zer5
  go_loopw [14, 4, 5] (fun i _ _ wr => ∃ k : Nat, k ≤ 5 ∧ i = .int .i64 (k : Int) ∧ Wo base wr lab ro cb lb z ∧ Fx lab ro w lab ro wr) (fun i _ _ _ => 5 - (intOf i).toNat)
  case atStart => exact ⟨0, by omega, rfl, HW.out, Fx.refl _ _ _⟩
  case round =>
    obtain ⟨k, hk, rfl, Z, X⟩ := hrel
    have HZ := Lib.hid Z
    have HX := Lib.hid X
    clear Z X
    by_cases hk5 : k < 5
    · have HNk := Lib.hid (HN.out wr HZ.out HX.out (k : Int) (by unfold LW.isI; omega) (by omega))
      have hcases : k = 0 ∨ k = 1 ∨ k = 2 ∨ k = 3 ∨ k = 4 := by omega
      rcases hcases with rfl | rfl | rfl | rfl | rfl
      · go_wp2_with (first
          | ((with_reducible refine wpList_here ?_); refine wpList_val (o := ⟨some 17, .index _ _ _, _, _, _, _⟩) rfl (.int .i64 0) (by kernel_rfl) ?_)
          | fail)
        refine HNk.out.mono ?_
        rintro e w1 ⟨rfl, Z1, X1⟩
        have HZ1 := Lib.hid Z1
        have HX1 := Lib.hid (HX.out.trans X1)
        clear Z1 X1 HNk
        go_wp2_with fail
        go_roundw
        case rel => exact ⟨1, by omega, by go_num, HZ1.out, HX1.out⟩
        case measure => simp [intOf]
      · go_wp2_with (first
          | ((with_reducible refine wpList_here ?_); refine wpList_val (o := ⟨some 17, .index _ _ _, _, _, _, _⟩) rfl (.int .i64 0) (by kernel_rfl) ?_)
          | fail)
        refine HNk.out.mono ?_
        rintro e w1 ⟨rfl, Z1, X1⟩
        have HZ1 := Lib.hid Z1
        have HX1 := Lib.hid (HX.out.trans X1)
        clear Z1 X1 HNk
        go_wp2_with fail
        go_roundw
        case rel => exact ⟨2, by omega, by go_num, HZ1.out, HX1.out⟩
        case measure => simp [intOf]
      · go_wp2_with (first
          | ((with_reducible refine wpList_here ?_); refine wpList_val (o := ⟨some 17, .index _ _ _, _, _, _, _⟩) rfl (.int .i64 0) (by kernel_rfl) ?_)
          | fail)
        refine HNk.out.mono ?_
        rintro e w1 ⟨rfl, Z1, X1⟩
        have HZ1 := Lib.hid Z1
        have HX1 := Lib.hid (HX.out.trans X1)
        clear Z1 X1 HNk
        go_wp2_with fail
        go_roundw
        case rel => exact ⟨3, by omega, by go_num, HZ1.out, HX1.out⟩
        case measure => simp [intOf]
      · go_wp2_with (first
          | ((with_reducible refine wpList_here ?_); refine wpList_val (o := ⟨some 17, .index _ _ _, _, _, _, _⟩) rfl (.int .i64 0) (by kernel_rfl) ?_)
          | fail)
        refine HNk.out.mono ?_
        rintro e w1 ⟨rfl, Z1, X1⟩
        have HZ1 := Lib.hid Z1
        have HX1 := Lib.hid (HX.out.trans X1)
        clear Z1 X1 HNk
        go_wp2_with fail
        go_roundw
        case rel => exact ⟨4, by omega, by go_num, HZ1.out, HX1.out⟩
        case measure => simp [intOf]
      · go_wp2_with (first
          | ((with_reducible refine wpList_here ?_); refine wpList_val (o := ⟨some 17, .index _ _ _, _, _, _, _⟩) rfl (.int .i64 0) (by kernel_rfl) ?_)
          | fail)
        refine HNk.out.mono ?_
        rintro e w1 ⟨rfl, Z1, X1⟩
        have HZ1 := Lib.hid Z1
        have HX1 := Lib.hid (HX.out.trans X1)
        clear Z1 X1 HNk
        go_wp2_with fail
        go_roundw
        case rel => exact ⟨5, by omega, by go_num, HZ1.out, HX1.out⟩
        case measure => simp [intOf]
    · obtain rfl : k = 5 := by omega
      have hlv := HZ.out.lv
      rw [HHL.out] at hlv
      have d0 : wr.cell? ⟨gl, 0, none⟩ = some (cptr lb) := World.ownsRow.cellAt hlv 0 (by simp)
      have f0 := HZ.out.la.fl_
      rw [HZ.out.fe] at f0
      have HAT := Lib.hid (LF.At_any HZ.out.fl.fa (by have := HC.out.df; dsimp only [LF.F.fc]; omega) (by have := HC.out.dw; dsimp only [LF.F.fc]; omega))
      dsimp only [LF.F.fc] at HAT
      unfold LF.due at HAT
      rw [if_pos HC.out.dw.1] at HAT
      unfold LF.ptr at HAT
      unfold cptr at *
      clear hlv
      generalize hdl : z.x.df + z.x.dw = dl at *
      go_wp2_with fail
      go_loopw [27, 7, 8, 9] (fun i _ _ _ wx => (i = .int .i64 0 ∧ wx = wr) ∨ (i = .int .i64 1 ∧ ∃ lab', Wo base wx lab' ro cb lb z.armed ∧ Fx lab ro w lab' ro wx)) (fun i _ _ _ _ => 1 - (intOf i).toNat)
      case atStart => exact .inl ⟨rfl, rfl⟩
      case round =>
        rcases hrel with ⟨rfl, rfl⟩ | ⟨rfl, hP⟩
        · go_wp2_with fail
          refine HAT.out.mono ?_
          rintro e w2 ⟨rfl, b2⟩
          have HZ2 := Lib.hid (HZ.out.below b2)
          have HX2 := Lib.hid (HX.out.trans (Fx.below lab ro b2))
          clear b2 HAT d0 f0
          go_wp2_with fail
          have e4 := HZ2.out.la.nm_
          rw [HC.out.nm] at e4
          have BW := Lib.hid (Below.refl w2.heap.size w2).drew
          have e0 : w2.drew.cell? ⟨lb, 4, none⟩ = some (.int .i64 0) := e4
          have HZ3 := Lib.hid (HZ2.out.below BW.out)
          have HX3 := Lib.hid (HX2.out.trans (Fx.below lab ro BW.out))
          clear e4
          generalize hwd : w2.drew = wd at *
          have HSN := Lib.hid (since_any HZ3.out.ca dl (by have := HC.out.bg; omega) (by have := HC.out.df; have := HC.out.dw; omega))
          have hdu : snc z.c.bg dl ≤ (z.n : Int) + 4096 := by have := HC.out.due; rw [hdl] at this; exact this
          have HHG := Lib.hid (hangYes_any HZ3.out (by have := HX3.out.1.size; have := HB.out; omega) 5 (snc z.c.bg dl) (by unfold LW.isI; omega) (by have := HC.out.n; omega) HC.out.Ll hdu)
          rw [woL_all HC.out.L5] at HHG
          have HAR : Hid (({ z with L := [] ++ [((5 : Int), max (snc z.c.bg dl) ((z.n : Int) + 1))] } : Zc) = z.armed) := Lib.hid (by unfold Zc.armed; rw [hdl]; rfl)
          rw [HAR.out] at HHG
          unfold tptr at HSN HHG
          clear hdu
          generalize hsn : snc z.c.bg dl = sn at *
          refine wp_region_noPanic ?_
          refine wp_region_held_drew (S := fun W => W.cell? ⟨lb, 4, none⟩ = some (.int .i64 0)) (by kernel_rfl) (by rw [hwd]; exact e0) (fun _ => ?_)
          rw [hwd]
          clear hwd
          refine held_take (i := 0) (v := .pointer (some ⟨cb, 15, none⟩)) (some 39) rfl rfl (by kernel_rfl) (by kernel_rfl) (by kernel_rfl) (fun _ _ _ h => h) (Or.inl ⟨by rfl, fun W hW => by go_simp⟩) e0 ?_
          simp only [Act.put, List.setIfInBounds_toArray, List.set_cons_zero, List.set_cons_succ]
          refine held_take (i := 1) (v := .pointer (some ⟨lb, 0, none⟩)) (some 40) rfl rfl (by kernel_rfl) (by kernel_rfl) (by kernel_rfl) (fun _ _ _ h => h) (Or.inl ⟨by rfl, fun W hW => by go_simp⟩) e0 ?_
          simp only [Act.put, List.setIfInBounds_toArray, List.set_cons_zero, List.set_cons_succ]
          refine held_take (i := 6) (v := .pointer (some ⟨cb, 15, none⟩)) (some 45) rfl rfl (by kernel_rfl) (by kernel_rfl) (by kernel_rfl) (fun _ _ _ h => h) (Or.inl ⟨by rfl, fun W hW => by go_simp⟩) e0 ?_
          simp only [Act.put, List.setIfInBounds_toArray, List.set_cons_zero, List.set_cons_succ]
          refine held_take (i := 7) (v := .int .i64 dl) (some 46) rfl rfl (by kernel_rfl) (by kernel_rfl) (by kernel_rfl) (fun _ _ _ h => h) (Or.inl ⟨by rfl, fun W hW => by go_simp⟩) e0 ?_
          simp only [Act.put, List.setIfInBounds_toArray, List.set_cons_zero, List.set_cons_succ]
          refine held_take (i := 9) (v := .bool true) (some 48) rfl rfl (by kernel_rfl) (by kernel_rfl) (by kernel_rfl) (fun _ _ _ h => h) (Or.inl ⟨by rfl, fun W hW => by go_simp⟩) e0 ?_
          simp only [Act.put, List.setIfInBounds_toArray, List.set_cons_zero, List.set_cons_succ]
          refine held_take (i := 2) (v := .pointer (some ⟨lb, 0, none⟩)) (some 41) rfl rfl (by kernel_rfl) (by kernel_rfl) (by kernel_rfl) (fun _ _ _ h => h) (Or.inl ⟨by rfl, fun W hW => by go_simp⟩) e0 ?_
          simp only [Act.put, List.setIfInBounds_toArray, List.set_cons_zero, List.set_cons_succ]
          refine held_take (i := 3) (v := .pointer (some ⟨lb, 4, none⟩)) (some 42) rfl rfl (by kernel_rfl) (by kernel_rfl) (by kernel_rfl) (fun _ _ _ h => h) (Or.inl ⟨by rfl, fun W hW => by go_simp⟩) e0 ?_
          simp only [Act.put, List.setIfInBounds_toArray, List.set_cons_zero, List.set_cons_succ]
          refine held_take (i := 4) (v := .int .i64 0) (some 43) rfl rfl (by kernel_rfl) (by kernel_rfl) (by kernel_rfl) (fun _ _ _ h => h) (Or.inl ⟨by rfl, fun W hW => by have hc := hW; go_simp⟩) e0 ?_
          simp only [Act.put, List.setIfInBounds_toArray, List.set_cons_zero, List.set_cons_succ]
          refine held_take (i := 5) (v := .int .i64 5) (some 44) rfl rfl (by kernel_rfl) (by kernel_rfl) (by kernel_rfl) (fun _ _ _ h => h) (Or.inl ⟨by rfl, fun W hW => by kernel_rfl⟩) e0 ?_
          simp only [Act.put, List.setIfInBounds_toArray, List.set_cons_zero, List.set_cons_succ]
          refine wpAnyH_ready (rs := [8]) (by kernel_rfl) (by simp) ?_
          refine AllReadyH.cons rfl (fun K hK => ?_) AllReadyH.nil
          go_simp
          refine HSN.out.mono ?_
          rintro e wA ⟨rfl, rfl⟩
          dsimp only
          refine hK.out _ _ e0 (fun _ => ?_)
          clear hK
          try simp only [Act.put, List.setIfInBounds_toArray, List.set_cons_zero, List.set_cons_succ]
          refine wpAnyH_ready (rs := [10]) (by kernel_rfl) (by simp) ?_
          refine AllReadyH.cons rfl (fun K hK => ?_) AllReadyH.nil
          go_simp
          refine HHG.out.mono ?_
          rintro e wB ⟨rfl, lab', Z4, X4⟩
          have eB : wB.cell? ⟨lb, 4, none⟩ = some (.int .i64 0) := by
            have := Z4.la.nm_
            rw [show z.armed.l.nm = 0 from HC.out.nm] at this
            exact this
          have HZ4 := Lib.hid Z4
          have HX4 := Lib.hid (HX3.out.trans X4)
          clear Z4 X4 HHG
          dsimp only
          refine hK.out _ _ eB (fun _ => ?_)
          clear hK
          try simp only [Act.put, List.setIfInBounds_toArray, List.set_cons_zero, List.set_cons_succ]
          refine wpAnyH_done (by kernel_rfl) ?_ _
          refine NoPanic.normal ?_
          go_wp2_with fail
          refine ⟨?_, ?measure⟩
          refine ⟨_, _, _, _, _, _, _, _, _, _, _, _, _, _, _, _, _, _, _, _, _, _, _, _, _, _, _, ?rel, rfl⟩
          case rel => exact .inr ⟨by go_num, lab', HZ4.out, HX4.out⟩
          case measure => simp [intOf]
        · go_wp2_with fail
          go_end0
          exact ⟨rfl, hP⟩
set_option maxHeartbeats 3200000 in
theorem settle_any (h : Wo base w lab ro cb lb z) (hb : base ≤ w.heap.size) (C : Calm z) (t : Int) :
    Calls Tryz.prog 92 #[cptr cb, .int .i64 t] w fun e w' => e = .returned (.tuple #[]) ∧ ∃ lab', Wo base w' lab' ro cb lb z.armed ∧ Fx lab ro w lab' ro w' := by
  have HW := Lib.hid h
  have HB := Lib.hid hb
  have HC := Lib.hid C
  have hcb := h.ca.lt
  obtain ⟨gl, cap, hl, hcp, hmx⟩ := row1 h.lv
  have c4 := h.ca.st_
  have c11 := h.ca.lv_
  have HHL := Lib.hid hl
  rw [hl] at c11
  rw [C.st] at c4
  have HM := Lib.hid (move_any h (by rw [C.st]; decide) t)
  have HSD := Lib.hid (fun W (Z : Wo base W lab ro cb lb z) => sendData_any Z (by rw [C.x1]; decide) (by rw [C.x1]; decide) C.ks C.ds C.tl C.ho t)
  have HSE := Lib.hid (fun W (Z : Wo base W lab ro cb lb z) => sendEnd_any Z C.a2 t)
  have HWA := Lib.hid (fun W (Z : Wo base W lab ro cb lb z) => watch_any Z C.a4 t)
  have HAR := Lib.hid (fun W (Z : Wo base W lab ro cb lb z) (hb : base ≤ W.heap.size) => arm_any Z hb C)
  rw [hl] at HAR
  unfold tptr at HAR
  clear h C hl hb
  unfold cptr at *
  go_enter Tryz.func92, Tryz.ntmps92
  go_wp2_with fail
  refine HM.out.mono ?_
  rintro e w1 ⟨rfl, b1⟩
  have k11 := (b1.cell (p := ⟨cb, 11, none⟩) hcb).trans c11
  have HZ1 := Lib.hid (HW.out.below b1)
  have HX1 := Lib.hid (Fx.below lab ro b1)
  have HSD1 := Lib.hid (HSD.out w1 HZ1.out)
  clear b1 HM HSD c11 c4
  go_wp2_with fail
  refine HSD1.out.mono ?_
  rintro e w2 ⟨rfl, b2⟩
  have HZ2 := Lib.hid (HZ1.out.below b2)
  have HX2 := Lib.hid (HX1.out.trans (Fx.below lab ro b2))
  have HSE1 := Lib.hid (HSE.out w2 HZ2.out)
  clear b2 HSD1 HSE k11
  go_wp2_with fail
  refine HSE1.out.mono ?_
  rintro e w3 ⟨rfl, Z3, X3⟩
  have HZ3 := Lib.hid Z3
  have HX3 := Lib.hid (HX2.out.trans X3)
  have HWA1 := Lib.hid (HWA.out w3 Z3)
  clear Z3 X3 HSE1 HWA
  go_wp2_with fail
  refine HWA1.out.mono ?_
  rintro e w4 ⟨rfl, Z4, X4⟩
  have BW := Lib.hid (Below.refl w4.heap.size w4).drew
  have HZ4 := Lib.hid (Z4.below BW.out)
  have HX4 := Lib.hid ((HX3.out.trans X4).trans (Fx.below lab ro BW.out))
  have e0 := HZ4.out.ca.lv_
  rw [HHL.out] at e0
  clear Z4 X4 HWA1
  go_wp2_with fail
  generalize hwd : w4.drew = wd at *
  have HA1 := Lib.hid (HAR.out wd HZ4.out (by have := HX4.out.1.size; have := HB.out; omega))
  clear HAR
  refine wp_region_noPanic ?_
  refine wp_region_held_drew (S := fun W => W.cell? ⟨cb, 11, none⟩ = some (.slice (some ⟨gl, 0, none⟩) 1 cap)) (by kernel_rfl) (by rw [hwd]; exact e0) (fun _ => ?_)
  rw [hwd]
  clear hwd
  refine held_take (i := 0) (v := .pointer (some ⟨cb, 0, none⟩)) (some 40) rfl rfl (by kernel_rfl) (by kernel_rfl) (by kernel_rfl) (fun _ _ _ h => h) (Or.inl ⟨by rfl, fun W hW => by go_simp⟩) e0 ?_
  simp only [Act.put, List.setIfInBounds_toArray, List.set_cons_zero, List.set_cons_succ]
  refine held_take (i := 3) (v := .pointer (some ⟨cb, 0, none⟩)) (some 43) rfl rfl (by kernel_rfl) (by kernel_rfl) (by kernel_rfl) (fun _ _ _ h => h) (Or.inl ⟨by rfl, fun W hW => by go_simp⟩) e0 ?_
  simp only [Act.put, List.setIfInBounds_toArray, List.set_cons_zero, List.set_cons_succ]
  refine held_take (i := 1) (v := .pointer (some ⟨cb, 0, none⟩)) (some 41) rfl rfl (by kernel_rfl) (by kernel_rfl) (by kernel_rfl) (fun _ _ _ h => h) (Or.inl ⟨by rfl, fun W hW => by go_simp⟩) e0 ?_
  simp only [Act.put, List.setIfInBounds_toArray, List.set_cons_zero, List.set_cons_succ]
  refine held_take (i := 4) (v := .pointer (some ⟨cb, 0, none⟩)) (some 44) rfl rfl (by kernel_rfl) (by kernel_rfl) (by kernel_rfl) (fun _ _ _ h => h) (Or.inl ⟨by rfl, fun W hW => by go_simp⟩) e0 ?_
  simp only [Act.put, List.setIfInBounds_toArray, List.set_cons_zero, List.set_cons_succ]
  refine held_take (i := 2) (v := .pointer (some ⟨cb, 15, none⟩)) (some 42) rfl rfl (by kernel_rfl) (by kernel_rfl) (by kernel_rfl) (fun _ _ _ h => h) (Or.inl ⟨by rfl, fun W hW => by go_simp⟩) e0 ?_
  simp only [Act.put, List.setIfInBounds_toArray, List.set_cons_zero, List.set_cons_succ]
  refine held_take (i := 5) (v := .pointer (some ⟨cb, 11, none⟩)) (some 45) rfl rfl (by kernel_rfl) (by kernel_rfl) (by kernel_rfl) (fun _ _ _ h => h) (Or.inl ⟨by rfl, fun W hW => by go_simp⟩) e0 ?_
  simp only [Act.put, List.setIfInBounds_toArray, List.set_cons_zero, List.set_cons_succ]
  refine held_take (i := 6) (v := .slice (some ⟨gl, 0, none⟩) 1 cap) (some 46) rfl rfl (by kernel_rfl) (by kernel_rfl) (by kernel_rfl) (fun _ _ _ h => h) (Or.inl ⟨by rfl, fun W hW => by have hc := hW; go_simp⟩) e0 ?_
  simp only [Act.put, List.setIfInBounds_toArray, List.set_cons_zero, List.set_cons_succ]
  refine wpAnyH_ready (rs := [7]) (by kernel_rfl) (by simp) ?_
  refine AllReadyH.cons rfl (fun K hK => ?_) AllReadyH.nil
  go_simp
  refine HA1.out.mono ?_
  rintro e w5 ⟨rfl, lab', Z5, X5⟩
  have e5 : w5.cell? ⟨cb, 11, none⟩ = some (.slice (some ⟨gl, 0, none⟩) 1 cap) := by
    have := Z5.ca.lv_
    rw [show z.armed.c.lv = _ from HHL.out] at this
    exact this
  have HZ5 := Lib.hid Z5
  have HX5 := Lib.hid (HX4.out.trans X5)
  clear Z5 X5 HA1
  dsimp only
  refine hK.out _ _ e5 (fun _ => ?_)
  clear hK
  try simp only [Act.put, List.setIfInBounds_toArray, List.set_cons_zero, List.set_cons_succ]
  refine wpAnyH_done (by kernel_rfl) ?_ _
  refine NoPanic.normal ?_
  go_wp2_with fail
  go_end0
  exact ⟨rfl, lab', HZ5.out, HX5.out⟩
end
end Go.Proofs.YtlcegchdkigibaaGreatDoor
