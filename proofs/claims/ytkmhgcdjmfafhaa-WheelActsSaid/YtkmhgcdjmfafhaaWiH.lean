/- Walked: whatever is armed, cancelled, and however time goes on, a wheel tells what the document says. No condition. -/
import Derived.Test.YtkmhgcdjmfafhaaWiG
import Derived.Test.YtkmhgcdjmfafhaaUnt
import Derived.Deep.CutRange
namespace Go.Proofs.Ytkmhgcdjmfafhaa
set_option linter.unusedVariables false
set_option linter.unusedSimpArgs false
open Go.RowKit

/-- Behind j acts: both wheels alike. -/
def Mid (W : World) (wb xb n0 j : Nat) (w : World) : Prop := ∃ lab v n l, St W w lab wb xb v n l n l ∧ n ≤ n0 + 10000 * j ∧ l.length ≤ j

theorem cell3 (w : World) (a b c : Int) (t : TypeId) : (w.alloc (.cells #[.int .i64 a, .int .i64 b, .int .i64 c] t)).cell? ⟨w.heap.size, 0, none⟩ = some (.int .i64 a) ∧ (w.alloc (.cells #[.int .i64 a, .int .i64 b, .int .i64 c] t)).cell? ⟨w.heap.size, 1, none⟩ = some (.int .i64 b) ∧ (w.alloc (.cells #[.int .i64 a, .int .i64 b, .int .i64 c] t)).cell? ⟨w.heap.size, 2, none⟩ = some (.int .i64 c) := by
  refine ⟨?_, ?_, ?_⟩ <;> (rw [cell_of_row _ w.heap.size _ _ t (0, 0) (heap_alloc_new w _)]; rfl)

set_option maxRecDepth 100000 in
set_option maxHeartbeats 1000000 in
theorem Acts_any (tick : Int) (A : Option Addr) (na ca : Nat) (ac : List (Int × Int × Int)) (W : World) (ht : -9223372036854775808 ≤ tick ∧ tick ≤ 9223372036854775807) (hA : Tri W A na ca ac) :
    Calls Try.prog 3 #[.int .i64 tick, .slice A na ca] W (Held W) := by
  have HW := Lib.hid (wakes_any W)
  have HA := Lib.hid hA
  have hcap := hA.cap
  have hmax := hA.max
  clear hA
  by_cases hlen : 80 < na
  · go_enter Try.func3, Try.ntmps3
    go_wp2_with fail
    refine (HW.out).mono ?_
    rintro e w0 ⟨rfl, b0⟩
    go_wp2_with fail
    go_ret
    exact ⟨rfl, b0⟩
  · have hn0 := clamp_le tick
    go_enter Try.func3, Try.ntmps3
    go_wp2_with fail
    refine (HW.out).mono ?_
    rintro e w0 ⟨rfl, b0⟩
    go_wp2_with fail
    refine (new_any tick ht w0).mono ?_
    rintro e w1 ⟨lab, wb, rfl, O1, F1⟩
    have HO1 := Lib.hid O1
    have HF1 := Lib.hid F1
    clear O1 F1
    unfold ptr
    go_wp2_with fail
    refine (rnew_any tick ht w1).mono ?_
    rintro e w2 ⟨xb, rfl, R2, b2, hx2⟩
    have HM : Hid (Mid W wb xb (clamp tick) 0 w2) := Lib.hid (by
      have bb : RowKit.Below W.heap.size W w1 := b0.trans ((HF1.out.start).mono b0.size)
      refine ⟨lab, _, _, _, ⟨HO1.out.below b2, R2, ?_, fun g hg => (by cases hg), bb.trans (b2.mono bb.size), fun g hg => ?_, ?_⟩, by omega, by simp⟩
      · by_cases h0 : lab xb = 0
        · exact h0
        · have := HO1.out.lt h0
          omega
      · exact HF1.out.2 g (Nat.lt_of_lt_of_le hg b0.size)
      · have := bb.size
        omega)
    clear R2 b2 hx2 HO1 HF1 b0 HW
    generalize clamp tick = n0 at *
    unfold ptr
    go_wp2_with fail
    go_loopg [28] na (fun kx ix wz => ∃ j : Nat, j ≤ na ∧ na - j ≤ kx ∧ ix = .int .i64 (j : Int) ∧ Mid W wb xb n0 j wz)
    case atStart => exact ⟨0, Nat.zero_le _, Nat.le_refl _, rfl, HM.out⟩
    case round =>
      clear HM
      obtain ⟨j, hj, hkx, rfl, lab, v, n, l, hSt, hn, hl⟩ := hrel
      by_cases hjl : j < na
      · have hT := HA.out.below hSt.bel
        obtain ⟨ga, oa, rfl, hcells⟩ := hT.mem (by omega)
        obtain ⟨c0, c1, c2⟩ := hcells j hjl
        have hok := hT.ok (ac.getD j z3) (by rw [List.getD_eq_getElem?_getD, List.getElem?_eq_getElem (by rw [hT.len]; exact hjl)]; exact List.getElem_mem _)
        clear hT hcells
        generalize (ac.getD j z3).1 = kd at *
        generalize (ac.getD j z3).2.1 = hh at *
        generalize (ac.getD j z3).2.2 = nn at *
        obtain ⟨ok0, ok1, ok2⟩ := hok
        have HSt := Lib.hid (hSt.alloc (.cells #[.int .i64 kd, .int .i64 hh, .int .i64 nn] 29))
        have HLA := Lib.hid (hSt.lab0 (Nat.le_refl wr.heap.size))
        have HAX := Lib.hid (show wr.heap.size ≠ xb from fun e => by have := hSt.rf.lt; omega)
        obtain ⟨d0, d1, d2⟩ := cell3 wr kd hh nn 29
        clear hSt
        go_upto_region 10 with (first | (go_at_call 11; refine (near_any _ _).mono ?_; rintro e w' ⟨rfl, rfl⟩))
        iterate 10 (first | go_values | go_skip | go_guarded | go_step | go_upon | go_back)
        generalize wr.alloc (.cells #[.int .i64 kd, .int .i64 hh, .int .i64 nn] 29) = W8 at *
        generalize wr.heap.size = ab at *
        have hn2 : n + 20000 ≤ 4611686018427387904 := by omega
        have hU : l.length ≤ 1099511627775 := by omega
        have hih : isI (near hh) := near_isI hh
        have hlab : ∀ x, (woL l x).length ≤ l.length := fun x => List.length_filter_le _ _
        have HLB := Lib.hid hlab
        clear hlab
        go_cut [28] from 28 to 176 (fun ix wx => ix = .int .i64 (j : Int) ∧ Mid W wb xb n0 (j + 1) wx)
        case first =>
          by_cases hk0 : kd = 0
          · subst hk0
            have hS9 := (HSt.out).drew
            have x0 := hS9.rf.c0
            have e2 : W8.drew.cell? ⟨ab, 2, none⟩ = some (.int .i64 nn) := d2
            have hnr := near_le nn
            obtain ⟨t, htd⟩ : ∃ t, (n : Int) + near nn = t := ⟨_, rfl⟩
            have hti : isI t := by unfold isI; omega
            have hw : IntKind.i64.wrap ((n : Int) + near nn) = t := by rw [htd]; exact wrap_i hti
            have HON := Lib.hid (onow_any hS9.on)
            have HNE := Lib.hid (fun w => near_any nn w)
            have HTI := Lib.hid hti
            have HS9 := Lib.hid hS9
            clear d0 d1 d2 c0 c1 c2 hS9 hti hnr htd
            generalize near hh = h at *
            generalize near nn = nr at *
            by_cases hg : (n : Int) < t ∧ t ≤ (n : Int) + 4096
            · have HA1 := Lib.hid (oarm_good HS9.out.on hih hn2 hU hg)
              unfold ptr at *
              go_wp2_with fail
              go_region_held3 (fun w' => w'.cell? ⟨ab, 2, none⟩ = some (.int .i64 nn) ∧ w'.cell? ⟨xb, 0, none⟩ = some (.int .i64 (n : Int)))
                (first
                  | exact ⟨e2, x0⟩
                  | exact ⟨f2, f0⟩
                  | exact ⟨g2, g0⟩)
                (first
                  | (go_at_call 13; refine (HON.out).mono ?_; rintro e w' ⟨rfl, rfl⟩)
                  | (go_at_call 11; refine (HNE.out _).mono ?_; rintro e w' ⟨rfl, rfl⟩)
                  | (go_at_call 12; refine (HA1.out).mono ?_; rintro e w9 ⟨rfl, lab9, O9, F9⟩; have S9 := HS9.out.whl O9 F9; have f0 := S9.rf.c0; have f2 := F9.1.cell e2 (fun e => e HLA.out); have HS10 := Lib.hid S9; clear S9 O9 F9)
                  | (go_at_call 14; refine (rarm_good HS10.out.rf hih hn2 hU hg.1 hg.2).mono ?_; rintro e w10 ⟨rfl, v10, R10, C10, r10⟩; have S10 := HS10.out.doc R10 C10 (fun g hg => .inr (r10 g hg)); have g0 := S10.rf.c0; have g2 := C10.cell f2 HAX.out; have HS11 := Lib.hid S10; clear S10 R10))
              go_wp2_with fail
              go_meet
              case rel => exact ⟨rfl, _, _, n, _, HS11.out, by omega, by have := HLB.out h; rw [List.length_append]; simp; omega⟩
            · have HA1 := Lib.hid (oarm_bad HS9.out.on (x := h) HTI.out hn2 hg)
              have HA2 := Lib.hid (rarm_bad HS9.out.rf (x := h) HTI.out hn2 hg)
              unfold ptr at *
              go_wp2_with fail
              go_region_held3 (fun w' => w'.cell? ⟨ab, 2, none⟩ = some (.int .i64 nn) ∧ w'.cell? ⟨xb, 0, none⟩ = some (.int .i64 (n : Int)))
                (first
                  | exact ⟨e2, x0⟩)
                (first
                  | (go_at_call 13; refine (HON.out).mono ?_; rintro e w' ⟨rfl, rfl⟩)
                  | (go_at_call 11; refine (HNE.out _).mono ?_; rintro e w' ⟨rfl, rfl⟩)
                  | (go_at_call 12; refine (HA1.out).mono ?_; rintro e w' ⟨rfl, rfl⟩)
                  | (go_at_call 14; refine (HA2.out).mono ?_; rintro e w' ⟨rfl, rfl⟩))
              go_wp2_with fail
              go_meet
              case rel => exact ⟨rfl, _, _, n, _, HS9.out, by omega, by omega⟩
          · have hq0 : (kd == 0) = false := by simpa using hk0
            by_cases hk1 : kd = 1
            · subst hk1
              have hS9 := (HSt.out).alloc (.cells #[.int .i64 (near hh)] 3)
              have HCN := Lib.hid (ocancel_any hS9.on hih hn2 (g := W8.heap.size) (cell_new W8 (.int .i64 (near hh)) 3) ((HSt.out).lab0 (Nat.le_refl _)))
              have HS9 := Lib.hid hS9
              clear d0 d1 d2 c0 c1 c2 hS9
              generalize near hh = h at *
              unfold ptr at *
              go_wp2_with fail
              refine (HCN.out).mono ?_
              rintro e w9 ⟨c, rfl, hc, O9, F9⟩
              have HS10 := Lib.hid (HS9.out.whl O9 F9)
              have HC := Lib.hid hc
              clear hc O9 F9 HCN
              go_wp2_with fail
              refine (rcancel_any HS10.out.rf hih (by omega)).mono ?_
              rintro e w10 ⟨b, v10, rfl, hb, R10, C10, r10⟩
              have HS11 := Lib.hid (HS10.out.doc R10 C10 (fun g hg => .inr (r10 g hg)))
              clear R10 C10 r10
              rcases HC.out with ⟨hc1, rfl⟩ | ⟨hc1, rfl⟩
              · rcases hb with ⟨hb1, rfl⟩ | ⟨hb1, rfl⟩
                · clear hc1 hb1
                  go_wp2_with fail
                  go_meet
                  case rel => exact ⟨rfl, _, _, n, _, HS11.out, by omega, by have := HLB.out h; omega⟩
                · obtain ⟨p, hp, e⟩ := hc1
                  exact absurd e (hb1 p hp)
              · rcases hb with ⟨hb1, rfl⟩ | ⟨hb1, rfl⟩
                · obtain ⟨p, hp, e⟩ := hb1
                  exact absurd e (hc1 p hp)
                · clear hc1 hb1
                  go_wp2_with fail
                  go_meet
                  case rel => exact ⟨rfl, _, _, n, _, HS11.out, by omega, by have := HLB.out h; omega⟩
            · have hq1 : (kd == 1) = false := by simpa using hk1
              by_cases hk2 : kd = 2
              · subst hk2
                have hS9 := (HSt.out).drew
                have x0 := hS9.rf.c0
                have e2 : W8.drew.cell? ⟨ab, 2, none⟩ = some (.int .i64 nn) := d2
                have hnr := near_le nn
                obtain ⟨t, htd⟩ : ∃ t, (n : Int) + near nn = t := ⟨_, rfl⟩
                have hti : isI t := by unfold isI; omega
                have hw : IntKind.i64.wrap ((n : Int) + near nn) = t := by rw [htd]; exact wrap_i hti
                have HON := Lib.hid (onow_any hS9.on)
                have HNE := Lib.hid (fun w => near_any nn w)
                obtain ⟨np, p1, p2, p3, p4, p5, p6⟩ := adv_np n t
                have HAV := Lib.hid (oadv_any hS9.on hti hn2 hU np p1 p2 p3)
                have HRV : Hid (∀ w5 : World, Rf w5 xb v n l → Calls Try.prog 19 #[ptr xb, .int .i64 t] w5 (RAd w5 xb v l np)) := Lib.hid (fun w5 R => radv_any R hS9.on.dist (fun p hp => (hS9.on.due p hp).2.2) (fun p hp => (hS9.on.due p hp).1) hti hn2 hU np p4 p5 p6)
                have HXB : Hid (xb < W8.drew.heap.size) := Lib.hid hS9.rf.lt
                have HS9 := Lib.hid hS9
                have HFL : Hid ((l.filter fun p => decide ((np : Int) < p.2)).length ≤ l.length) := Lib.hid (List.length_filter_le _ _)
                clear d0 d1 d2 c0 c1 c2 hS9 hti hnr htd p3 p4 p5 p6
                generalize near hh = h at *
                generalize near nn = nr at *
                unfold ptr at *
                go_wp2_with fail
                refine wp_region_noPanic ?_
                refine until_start (fun W => W.cell? ⟨ab, 2, none⟩ = some (.int .i64 nn) ∧ W.cell? ⟨xb, 0, none⟩ = some (.int .i64 (n : Int))) 17 (by kernel_rfl) ⟨e2, x0⟩ (fun _ => ?_)
                refine until_take (i := 0) (v := .pointer (some ⟨wb, 0, none⟩)) (some 73) [7, 15, 16, 17] rfl rfl (by kernel_rfl) (by kernel_rfl) (by kernel_rfl) (by kernel_rfl) rfl rfl (fun _ _ _ h => h) (Or.inl ⟨by rfl, fun W hW => by go_simp⟩) ⟨e2, x0⟩ ?_
                simp only [Act.put, List.setIfInBounds_toArray, List.set_cons_zero, List.set_cons_succ]
                refine until_take (i := 1) (v := .pointer (some ⟨wb, 0, none⟩)) (some 74) [2, 5, 7, 15, 16, 17] rfl rfl (by kernel_rfl) (by kernel_rfl) (by kernel_rfl) (by kernel_rfl) rfl rfl (fun _ _ _ h => h) (Or.inl ⟨by rfl, fun W hW => by go_simp⟩) ⟨e2, x0⟩ ?_
                simp only [Act.put, List.setIfInBounds_toArray, List.set_cons_zero, List.set_cons_succ]
                refine until_take (i := 3) (v := .pointer (some ⟨ab, 2, none⟩)) (some 76) [4, 5, 7, 15, 16, 17] rfl rfl (by kernel_rfl) (by kernel_rfl) (by kernel_rfl) (by kernel_rfl) rfl rfl (fun _ _ _ h => h) (Or.inl ⟨by rfl, fun W hW => by go_simp⟩) ⟨e2, x0⟩ ?_
                simp only [Act.put, List.setIfInBounds_toArray, List.set_cons_zero, List.set_cons_succ]
                refine until_take (i := 4) (v := .int .i64 nn) (some 77) [5, 7, 15, 16, 17] rfl rfl (by kernel_rfl) (by kernel_rfl) (by kernel_rfl) (by kernel_rfl) rfl rfl (fun _ _ _ h => h) (Or.inl ⟨by rfl, fun W hW => by have hc := hW.1; go_simp⟩) ⟨e2, x0⟩ ?_
                simp only [Act.put, List.setIfInBounds_toArray, List.set_cons_zero, List.set_cons_succ]
                refine until_take (i := 8) (v := .pointer (some ⟨xb, 0, none⟩)) (some 81) [17] rfl rfl (by kernel_rfl) (by kernel_rfl) (by kernel_rfl) (by kernel_rfl) rfl rfl (fun _ _ _ h => h) (Or.inl ⟨by rfl, fun W hW => by go_simp⟩) ⟨e2, x0⟩ ?_
                simp only [Act.put, List.setIfInBounds_toArray, List.set_cons_zero, List.set_cons_succ]
                refine until_take (i := 9) (v := .pointer (some ⟨xb, 0, none⟩)) (some 82) [10, 11, 12, 16, 17] rfl rfl (by kernel_rfl) (by kernel_rfl) (by kernel_rfl) (by kernel_rfl) rfl rfl (fun _ _ _ h => h) (Or.inl ⟨by rfl, fun W hW => by go_simp⟩) ⟨e2, x0⟩ ?_
                simp only [Act.put, List.setIfInBounds_toArray, List.set_cons_zero, List.set_cons_succ]
                refine until_take (i := 10) (v := .pointer (some ⟨xb, 0, none⟩)) (some 83) [11, 12, 16, 17] rfl rfl (by kernel_rfl) (by kernel_rfl) (by kernel_rfl) (by kernel_rfl) rfl rfl (fun _ _ _ h => h) (Or.inl ⟨by rfl, fun W hW => by go_simp⟩) ⟨e2, x0⟩ ?_
                simp only [Act.put, List.setIfInBounds_toArray, List.set_cons_zero, List.set_cons_succ]
                refine until_take (i := 11) (v := .pointer (some ⟨xb, 0, none⟩)) (some 84) [12, 16, 17] rfl rfl (by kernel_rfl) (by kernel_rfl) (by kernel_rfl) (by kernel_rfl) rfl rfl (fun _ _ _ h => h) (Or.inl ⟨by rfl, fun W hW => by go_simp⟩) ⟨e2, x0⟩ ?_
                simp only [Act.put, List.setIfInBounds_toArray, List.set_cons_zero, List.set_cons_succ]
                refine until_take (i := 12) (v := .int .i64 (n : Int)) (some 85) [16, 17] rfl rfl (by kernel_rfl) (by kernel_rfl) (by kernel_rfl) (by kernel_rfl) rfl rfl (fun _ _ _ h => h) (Or.inl ⟨by rfl, fun W hW => by have hc := hW.2; go_simp⟩) ⟨e2, x0⟩ ?_
                simp only [Act.put, List.setIfInBounds_toArray, List.set_cons_zero, List.set_cons_succ]
                refine until_take (i := 13) (v := .pointer (some ⟨ab, 2, none⟩)) (some 86) [14, 15, 16, 17] rfl rfl (by kernel_rfl) (by kernel_rfl) (by kernel_rfl) (by kernel_rfl) rfl rfl (fun _ _ _ h => h) (Or.inl ⟨by rfl, fun W hW => by go_simp⟩) ⟨e2, x0⟩ ?_
                simp only [Act.put, List.setIfInBounds_toArray, List.set_cons_zero, List.set_cons_succ]
                refine until_take (i := 14) (v := .int .i64 nn) (some 87) [15, 16, 17] rfl rfl (by kernel_rfl) (by kernel_rfl) (by kernel_rfl) (by kernel_rfl) rfl rfl (fun _ _ _ h => h) (Or.inl ⟨by rfl, fun W hW => by have hc := hW.1; go_simp⟩) ⟨e2, x0⟩ ?_
                simp only [Act.put, List.setIfInBounds_toArray, List.set_cons_zero, List.set_cons_succ]
                refine until_step (i := 2) (by kernel_rfl) rfl rfl (fun K hK => ?_)
                go_simp
                refine (HON.out).mono ?_
                rintro e w' ⟨rfl, rfl⟩
                dsimp only
                refine hK.out _ _ ⟨e2, x0⟩ (fun _ => ?_)
                clear hK
                try simp only [Act.put, List.setIfInBounds_toArray, List.set_cons_zero, List.set_cons_succ]
                refine until_step (i := 5) (by kernel_rfl) rfl rfl (fun K hK => ?_)
                go_simp
                refine (HNE.out _).mono ?_
                rintro e w' ⟨rfl, rfl⟩
                dsimp only
                refine hK.out _ _ ⟨e2, x0⟩ (fun _ => ?_)
                clear hK
                try simp only [Act.put, List.setIfInBounds_toArray, List.set_cons_zero, List.set_cons_succ]
                refine until_take (i := 6) (v := .int .i64 (IntKind.i64.wrap ((n : Int) + nr))) (some 79) [7, 15, 16, 17] rfl rfl (by kernel_rfl) (by kernel_rfl) (by kernel_rfl) (by kernel_rfl) rfl rfl (fun _ _ _ h => h) (Or.inl ⟨by rfl, fun W hW => by go_simp⟩) ⟨e2, x0⟩ ?_
                simp only [Act.put, List.setIfInBounds_toArray, List.set_cons_zero, List.set_cons_succ]
                refine until_step (i := 7) (by kernel_rfl) rfl rfl (fun K hK => ?_)
                go_simp
                refine (HAV.out).mono ?_
                rintro e w9 ⟨v5, lab9, out, rfl, O9, F9, D9, vl9, od9, mm9⟩
                have S9 := HS9.out.whl O9 F9
                have f0 := S9.rf.c0
                have f2 := F9.1.cell e2 (fun e => e HLA.out)
                have HS10 := Lib.hid S9
                have HD9 := Lib.hid D9
                have HOD := Lib.hid od9
                have HMM := Lib.hid mm9
                clear S9 O9 F9 D9 vl9 od9 mm9
                dsimp only
                refine hK.out _ _ ⟨f2, f0⟩ (fun _ => ?_)
                clear hK
                try simp only [Act.put, List.setIfInBounds_toArray, List.set_cons_zero, List.set_cons_succ]
                refine until_step (i := 15) (by kernel_rfl) rfl rfl (fun K hK => ?_)
                go_simp
                refine (HNE.out _).mono ?_
                rintro e w' ⟨rfl, rfl⟩
                dsimp only
                refine hK.out _ _ ⟨f2, f0⟩ (fun _ => ?_)
                clear hK
                try simp only [Act.put, List.setIfInBounds_toArray, List.set_cons_zero, List.set_cons_succ]
                refine until_take (i := 16) (v := .int .i64 (IntKind.i64.wrap ((n : Int) + nr))) (some 89) [17] rfl rfl (by kernel_rfl) (by kernel_rfl) (by kernel_rfl) (by kernel_rfl) rfl rfl (fun _ _ _ h => h) (Or.inl ⟨by rfl, fun W hW => by go_simp⟩) ⟨f2, f0⟩ ?_
                simp only [Act.put, List.setIfInBounds_toArray, List.set_cons_zero, List.set_cons_succ]
                refine until_last (by kernel_rfl) rfl (fun K hK => ?_)
                go_simp
                refine (HRV.out _ HS10.out.rf).mono ?_
                rintro e w10 ⟨vo, v10, out2, rfl, ow10, R10, C10, fr10, od10, mm10⟩
                obtain rfl : out2 = out := ordL_ext od10 HOD.out (fun p => (mm10 p).trans (HMM.out p).symm)
                have HS11 := Lib.hid (HS10.out.doc R10 C10 fr10)
                have HD10 := Lib.hid (own_ch2 HD9.out C10 (fun g hg e => by have := (own_ge HD9.out hg).1; have := HXB.out; omega))
                have HOW := Lib.hid ow10
                clear R10 C10 ow10 od10 mm10 fr10 f0 f2 e2 x0
                dsimp only
                refine hK.out _ _ ?_
                clear hK
                try simp only [Act.put, List.setIfInBounds_toArray, List.set_cons_zero, List.set_cons_succ]
                refine wpAnyH_ready (rs := [18]) (by kernel_rfl) (by simp) ?_
                refine AllReadyH.cons rfl (fun K hK => ?_) AllReadyH.nil
                go_simp
                refine (same_any HD10.out HOW.out).mono ?_
                rintro e w11 ⟨rfl, S12⟩
                have HS12 := Lib.hid (HS11.out.ch (S12.ch fun _ => False))
                clear S12
                dsimp only
                refine hK.out _ _ trivial (fun _ => ?_)
                clear hK
                try simp only [Act.put, List.setIfInBounds_toArray, List.set_cons_zero, List.set_cons_succ]
                refine held_take (i := 19) (v := .bool false) (some 92) rfl rfl (by kernel_rfl) (by kernel_rfl) (by kernel_rfl) (fun _ _ _ h => h) (Or.inl ⟨by rfl, fun W hW => by go_simp⟩) trivial ?_
                simp only [Act.put, List.setIfInBounds_toArray, List.set_cons_zero, List.set_cons_succ]
                refine wpAnyH_done (by kernel_rfl) ?_ _
                refine NoPanic.normal ?_
                go_wp2_with fail
                go_meet
                case rel => exact ⟨rfl, _, _, np, _, HS12.out, by omega, by have := HFL.out; omega⟩
              · have hq2 : (kd == 2) = false := by simpa using hk2
                by_cases hk3 : kd = 3
                · subst hk3
                  have hS9 := (HSt.out).drew
                  have e2 : W8.drew.cell? ⟨ab, 2, none⟩ = some (.int .i64 nn) := d2
                  have HTI : Hid (isI nn) := Lib.hid ok2
                  have HS9 := Lib.hid hS9
                  clear d0 d1 d2 c0 c1 c2 hS9
                  generalize near hh = h at *
                  by_cases hg : (n : Int) < nn ∧ nn ≤ (n : Int) + 4096
                  · have HA1 := Lib.hid (oarm_good HS9.out.on hih hn2 hU hg)
                    unfold ptr at *
                    go_wp2_with fail
                    go_region_held3 (fun w' => w'.cell? ⟨ab, 2, none⟩ = some (.int .i64 nn))
                      (first
                        | exact e2
                        | exact f2
                        | exact g2)
                      (first
                        | (go_at_call 12; refine (HA1.out).mono ?_; rintro e w9 ⟨rfl, lab9, O9, F9⟩; have S9 := HS9.out.whl O9 F9; have f2 := F9.1.cell e2 (fun e => e HLA.out); have HS10 := Lib.hid S9; clear S9 O9 F9)
                        | (go_at_call 14; refine (rarm_good HS10.out.rf hih hn2 hU hg.1 hg.2).mono ?_; rintro e w10 ⟨rfl, v10, R10, C10, r10⟩; have S10 := HS10.out.doc R10 C10 (fun g hg => .inr (r10 g hg)); have g2 := C10.cell f2 HAX.out; have HS11 := Lib.hid S10; clear S10 R10))
                    go_wp2_with fail
                    go_meet
                    case rel => exact ⟨rfl, _, _, n, _, HS11.out, by omega, by have := HLB.out h; rw [List.length_append]; simp; omega⟩
                  · have HA1 := Lib.hid (oarm_bad HS9.out.on (x := h) HTI.out hn2 hg)
                    have HA2 := Lib.hid (rarm_bad HS9.out.rf (x := h) HTI.out hn2 hg)
                    unfold ptr at *
                    go_wp2_with fail
                    go_region_held3 (fun w' => w'.cell? ⟨ab, 2, none⟩ = some (.int .i64 nn))
                      (first
                        | exact e2)
                      (first
                        | (go_at_call 12; refine (HA1.out).mono ?_; rintro e w' ⟨rfl, rfl⟩)
                        | (go_at_call 14; refine (HA2.out).mono ?_; rintro e w' ⟨rfl, rfl⟩))
                    go_wp2_with fail
                    go_meet
                    case rel => exact ⟨rfl, _, _, n, _, HS9.out, by omega, by omega⟩
                · have hq3 : (kd == 3) = false := by simpa using hk3
                  clear d0 d1 d2 c0 c1 c2
                  go_wp2_with fail
                  go_meet
                  case rel => exact ⟨rfl, _, _, n, _, HSt.out, by omega, by omega⟩
        case rest =>
          obtain ⟨rfl, lb, vb, m, r, S1, hm, hr⟩ := hcut
          obtain ⟨A1, cz, rfl, hc1, hc2⟩ := own_slice S1.rf.row
          have hm2 : m + 20000 ≤ 4611686018427387904 := by omega
          have HNX := Lib.hid (onext_any S1.on hm2 (by omega))
          have HS1 := Lib.hid S1
          clear S1 HSt HLA HAX HLB d0 d1 d2 c0 c1 c2 hn2 hU hih ok0 ok1 ok2 hn hl
          unfold ptr at *
          go_wp2_with fail
          refine (HNX.out).mono ?_
          rintro e w1 ⟨⟨t, ok, rfl, ht1, ht2⟩, b1⟩
          have S2 := HS1.out.below b1
          have HF := Lib.hid (rfirst_any S2.rf (by omega))
          have HS2 := Lib.hid S2
          have HT1 := Lib.hid ht1
          have HT2 := Lib.hid ht2
          clear S2 ht1 ht2 b1 HNX HS1
          go_wp2_with fail
          refine (HF.out).mono ?_
          rintro e w2 ⟨k, rfl, S3, hk⟩
          have S4 := HS2.out.ch (S3.ch _)
          have HNOW : Hid (∀ q, Calls Try.prog 13 #[.pointer (some ⟨wb, 0, none⟩)] (w2.drewN q) fun e w' => e = .returned (.int .i64 (m : Int)) ∧ w' = w2.drewN q) := Lib.hid (fun q => onow_any (S4.on.drewN q))
          have HLEN : Hid (∀ q, Calls Try.prog 22 #[.pointer (some ⟨wb, 0, none⟩)] (w2.drewN q) fun e w' => e = .returned (.int .i64 (r.length : Int)) ∧ w' = w2.drewN q) := Lib.hid (fun q => olen_any (S4.on.drewN q))
          have k0 := S4.rf.c0
          have k1 := S4.rf.c1
          have HSE := Lib.hid S4
          rcases next_first HT1.out HT2.out hk with ⟨rfl, rfl, hnil⟩ | ⟨rfl, j', rfl, hj', rfl⟩
          · clear S3 hk S4 HT1 HT2 HF HS2 hnil
            go_wp2_with fail
            go_quiet (first | (go_at_call 13; exact Calls.quiet_of_same (HNOW.out _)) | (go_at_call 22; exact Calls.quiet_of_same (HLEN.out _)))
            go_wp2_with fail
            generalize hrn : r.length = rn at *
            have HRN := Lib.hid hrn
            clear hrn
            go_loopw [156] (fun ix wz => ∃ q : Nat, q ≤ rn ∧ ix = .int .i64 (q : Int) ∧ St W wz lb wb xb (.slice A1 rn cz) m r m r) (fun ix _ => rn - (intOf ix).toNat)
            case atStart => exact ⟨0, Nat.zero_le _, rfl, HSE.out.ch (((Ch.refl _ _).drewN _))⟩
            case round =>
              obtain ⟨q, hq, rfl, S5⟩ := hrel
              by_cases hql : q < rn
              · have hrw := S5.rf.row
                rw [← HRN.out] at hrw
                have hqo : q < r.length := by rw [HRN.out]; exact hql
                obtain ⟨g5, rfl, x0, x1⟩ := own_cells hrw hqo
                have S6 := S5.alloc (.cells #[.int .i64 (r.getD q (0, 0)).1, .int .i64 (r.getD q (0, 0)).2] 47)
                have HAT := Lib.hid (oat_any S6.on (getD_mem hqo))
                have HS6 := Lib.hid S6
                obtain ⟨y0, y1⟩ := d_cells wr (.int .i64 (r.getD q (0, 0)).1) (.int .i64 (r.getD q (0, 0)).2) 47
                clear S5 S6 hrw
                generalize (r.getD q (0, 0)).1 = p1 at *
                generalize (r.getD q (0, 0)).2 = p2 at *
                unfold ptr at *
                go_wp2_with fail
                refine (HAT.out).mono ?_
                rintro e w9 ⟨rfl, rfl⟩
                go_wp2_with fail
                go_roundw
                case rel => exact ⟨q + 1, by omega, by go_num, HS6.out⟩
                case measure => simp [intOf]; omega
              · obtain rfl : q = rn := by omega
                have HS5 := Lib.hid S5
                clear S5
                go_wp2_with fail
                go_roundg (na - (j + 1))
                case rel => exact ⟨j + 1, by omega, Nat.le_refl _, by go_num, lb, _, m, r, HS5.out, hm, by rw [HRN.out]; exact hr⟩
                case measure => omega
          · obtain ⟨g4, hg4, x4, x5⟩ := own_cells S4.rf.row hj'
            subst hg4
            clear S3 hk S4 HT1 HT2 HF HS2
            generalize (r.getD j' (0, 0)).2 = tt at *
            generalize (r.getD j' (0, 0)).1 = t1 at *
            go_wp2_with fail
            go_quiet (first | (go_at_call 13; exact Calls.quiet_of_same (HNOW.out _)) | (go_at_call 22; exact Calls.quiet_of_same (HLEN.out _)))
            go_wp2_with fail
            generalize hrn : r.length = rn at *
            have HRN := Lib.hid hrn
            clear hrn
            go_loopw [156] (fun ix wz => ∃ q : Nat, q ≤ rn ∧ ix = .int .i64 (q : Int) ∧ St W wz lb wb xb (.slice (some ⟨g4, 0, none⟩) rn cz) m r m r) (fun ix _ => rn - (intOf ix).toNat)
            case atStart => exact ⟨0, Nat.zero_le _, rfl, HSE.out.ch (((Ch.refl _ _).drewN _))⟩
            case round =>
              obtain ⟨q, hq, rfl, S5⟩ := hrel
              by_cases hql : q < rn
              · have hrw := S5.rf.row
                rw [← HRN.out] at hrw
                have hqo : q < r.length := by rw [HRN.out]; exact hql
                obtain ⟨g5, hg5, x0, x1⟩ := own_cells hrw hqo
                injection hg5 with hg5
                injection hg5 with hg5 _ _
                subst hg5
                have S6 := S5.alloc (.cells #[.int .i64 (r.getD q (0, 0)).1, .int .i64 (r.getD q (0, 0)).2] 47)
                have HAT := Lib.hid (oat_any S6.on (getD_mem hqo))
                have HS6 := Lib.hid S6
                obtain ⟨y0, y1⟩ := d_cells wr (.int .i64 (r.getD q (0, 0)).1) (.int .i64 (r.getD q (0, 0)).2) 47
                clear S5 S6 hrw
                generalize (r.getD q (0, 0)).1 = p1 at *
                generalize (r.getD q (0, 0)).2 = p2 at *
                unfold ptr at *
                go_wp2_with fail
                refine (HAT.out).mono ?_
                rintro e w9 ⟨rfl, rfl⟩
                go_wp2_with fail
                go_roundw
                case rel => exact ⟨q + 1, by omega, by go_num, HS6.out⟩
                case measure => simp [intOf]; omega
              · obtain rfl : q = rn := by omega
                have HS5 := Lib.hid S5
                clear S5
                go_wp2_with fail
                go_roundg (na - (j + 1))
                case rel => exact ⟨j + 1, by omega, Nat.le_refl _, by go_num, lb, _, m, r, HS5.out, hm, by rw [HRN.out]; exact hr⟩
                case measure => omega
      · obtain rfl : j = na := by omega
        have HB := Lib.hid hSt.bel
        clear hSt
        go_wp2_with fail
        go_ret
        exact ⟨rfl, HB.out⟩

end Go.Proofs.Ytkmhgcdjmfafhaa
