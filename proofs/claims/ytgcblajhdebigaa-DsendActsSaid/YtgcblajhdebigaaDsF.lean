/- The run of which a beginning is to be sent. Conditions: the sender stands. -/
import Derived.Test.YtgcblajhdebigaaDsE
namespace Go.Proofs.Ytgcblajhdebigaa
set_option linter.unusedVariables false
set_option linter.unusedSimpArgs false
open Go.RowKit Go.Lib

section
variable {base : Nat} {w : World} {sb : Nat} {z : Sh} {d : Dq}
theorem rg_range (w : World) (x y : Int) : (w.alloc (.cells #[.int .i64 x, .int .i64 y] 66)).heap[w.heap.size]? = some (.cells #[.int .i64 x, .int .i64 y] 66 (0, 0)) := heap_alloc_new w _
set_option maxRecDepth 8000 in
set_option maxHeartbeats 3200000 in
theorem first_any (H : Sd base w sb z d) : Calls Try.prog 31 #[ptr sb] w fun e w' => e = .returned (rg (d.run z.l)) ∧ Below w.heap.size w w' := by
  have hb2 := rg_range w 0 0
  have HB0 := Lib.hid (below_a w (.cells #[.int .i64 0, .int .i64 0] 66))
  have HH := Lib.hid (H.below HB0.out)
  have c0 := HH.out.cell 0
  have hn := H.nums
  have hmin : min (d.edge : Int) (d.fin : Int) = ((min d.edge d.fin : Nat) : Int) := by omega
  have hsub : IntKind.i64.wrap (((min d.edge d.fin : Nat) : Int) - (d.next : Int)) = ((min d.edge d.fin - d.next : Nat) : Int) := by rw [IntKind.wrap_i64]; omega
  have HRN : Hid (d.run [] = ((d.next : Int), ((min d.edge d.fin - d.next : Nat) : Int))) := Lib.hid d.run_nil
  unfold cellsOf at c0
  have HEV : Hid (∀ V, Below (w.alloc (.cells #[.int .i64 0, .int .i64 0] 66)).heap.size (w.alloc (.cells #[.int .i64 0, .int .i64 0] 66)) V → V.cell? ⟨sb, 3, none⟩ = some (.int .i64 (d.next : Int)) ∧ V.cell? ⟨sb, 4, none⟩ = some (.int .i64 (d.edge : Int)) ∧ Calls Try.prog 36 #[ptr sb] V fun e w' => e = .returned (.int .i64 (d.fin : Int)) ∧ Below V.heap.size V w') := Lib.hid (fun V hb => ⟨(HH.out.below hb).cell 3, (HH.out.below hb).cell 4, end_sd (HH.out.below hb)⟩)
  have HRU := Lib.hid (Runs_any HH.out.st)
  have HRC : Hid (∀ r t, d.run (r :: t) = r) := Lib.hid (fun _ _ => rfl)
  clear H hn HH
  generalize hzl : z.l = zl at *
  clear hzl
  unfold ptr at *
  rcases zl with _ | ⟨r, t⟩
  · rw [HRN.out]
    clear HRN HRC
    generalize min d.edge d.fin - d.next = lg at *
    generalize min d.edge d.fin = mn at *
    generalize d.fin = fn at *
    generalize d.edge = eg at *
    generalize d.next = nx at *
    go_enter Try.func31, Try.ntmps31
    go_upto_region 1 with (fail)
    generalize w.alloc (.cells #[.int .i64 0, .int .i64 0] 66) = w2 at *
    have HX : Hid (∀ V, Below w2.heap.size w2 V → V.heap[w.heap.size]? = some (.cells #[.int .i64 0, .int .i64 0] 66 (0, 0))) := Lib.hid (fun V hb => (hb.block _ (Array.getElem?_eq_some_iff.1 hb2).1).trans hb2)
    clear hb2
    go_wp2_with fail
    refine (HRU.out).mono ?_
    rintro e w3 ⟨v3, rfl, r3, o3, b3⟩
    have HD : Hid (∀ (V : World) (a b : Int), Below w3.heap.size w3 V → Below w.heap.size w ((V.setCell ⟨w.heap.size, 0, none⟩ (.int .i64 a)).setCell ⟨w.heap.size, 1, none⟩ (.int .i64 b)) ∧ ((V.setCell ⟨w.heap.size, 0, none⟩ (.int .i64 a)).setCell ⟨w.heap.size, 1, none⟩ (.int .i64 b)).rangeAt w.heap.size 0 [.int .i64 a, .int .i64 b]) := Lib.hid (fun V a b hb => by
      have hb' := below_trans b3 hb
      have st := store2 (HX.out V hb') (.int .i64 a) (.int .i64 b)
      exact ⟨((Ch.of_below (fun k => k = w.heap.size) (HB0.out.trans (hb'.mono HB0.out.size))).then_ st.2).below (fun x hx e => by omega), st.1⟩)
    have HX3 : Hid (∀ V, Below w3.heap.size w3 V → V.heap[w.heap.size]? = some (.cells #[.int .i64 0, .int .i64 0] 66 (0, 0))) := Lib.hid (fun V hb => HX.out V (below_trans b3 hb))
    have hx3 := HX3.out w3 (Below.refl _ _)
    have pf := frozen_of hx3
    have p0 : w3.cell? ⟨w.heap.size, 0, none⟩ = some (.int .i64 0) := (cell_of_row _ _ 0 _ _ (0, 0) hx3)
    have p9 : w3.cell? ⟨w.heap.size, 1, none⟩ = some (.int .i64 0) := (cell_of_row _ _ 1 _ _ (0, 0) hx3)
    clear hx3 o3 HX HRU c0
    obtain ⟨A3, c3, rfl, -, -⟩ := r3.slice
    obtain ⟨d3, d4, he⟩ := HEV.out w3.drew (b3.drew)
    have HE := Lib.hid he
    clear r3 he b3 HEV
    dsimp only [List.length_nil]
    go_wp2_with fail
    refine wp_region_noPanic ?_
    refine until_start (fun W => W.cell? ⟨sb, 3, none⟩ = some (.int .i64 (nx : Int)) ∧ W.cell? ⟨sb, 4, none⟩ = some (.int .i64 (eg : Int))) 17 (by kernel_rfl) ⟨d3, d4⟩ (fun _ => ?_)
    refine until_take (i := 0) (v := .pointer (some ⟨sb, 0, none⟩)) (some 15) [17] rfl rfl (by kernel_rfl) (by kernel_rfl) (by kernel_rfl) (by kernel_rfl) rfl rfl (fun _ _ _ h => h) (Or.inl ⟨by rfl, fun W hW => by go_simp⟩) ⟨d3, d4⟩ ?_
    simp only [Act.put, List.setIfInBounds_toArray, List.set_cons_zero, List.set_cons_succ]
    refine until_take (i := 4) (v := .pointer (some ⟨sb, 0, none⟩)) (some 19) [17] rfl rfl (by kernel_rfl) (by kernel_rfl) (by kernel_rfl) (by kernel_rfl) rfl rfl (fun _ _ _ h => h) (Or.inl ⟨by rfl, fun W hW => by go_simp⟩) ⟨d3, d4⟩ ?_
    simp only [Act.put, List.setIfInBounds_toArray, List.set_cons_zero, List.set_cons_succ]
    refine until_take (i := 8) (v := .pointer (some ⟨sb, 0, none⟩)) (some 23) [17] rfl rfl (by kernel_rfl) (by kernel_rfl) (by kernel_rfl) (by kernel_rfl) rfl rfl (fun _ _ _ h => h) (Or.inl ⟨by rfl, fun W hW => by go_simp⟩) ⟨d3, d4⟩ ?_
    simp only [Act.put, List.setIfInBounds_toArray, List.set_cons_zero, List.set_cons_succ]
    refine until_take (i := 11) (v := .pointer (some ⟨sb, 0, none⟩)) (some 26) [17] rfl rfl (by kernel_rfl) (by kernel_rfl) (by kernel_rfl) (by kernel_rfl) rfl rfl (fun _ _ _ h => h) (Or.inl ⟨by rfl, fun W hW => by go_simp⟩) ⟨d3, d4⟩ ?_
    simp only [Act.put, List.setIfInBounds_toArray, List.set_cons_zero, List.set_cons_succ]
    refine until_take (i := 1) (v := .pointer (some ⟨sb, 0, none⟩)) (some 16) [17] rfl rfl (by kernel_rfl) (by kernel_rfl) (by kernel_rfl) (by kernel_rfl) rfl rfl (fun _ _ _ h => h) (Or.inl ⟨by rfl, fun W hW => by go_simp⟩) ⟨d3, d4⟩ ?_
    simp only [Act.put, List.setIfInBounds_toArray, List.set_cons_zero, List.set_cons_succ]
    refine until_take (i := 5) (v := .pointer (some ⟨sb, 0, none⟩)) (some 20) [17] rfl rfl (by kernel_rfl) (by kernel_rfl) (by kernel_rfl) (by kernel_rfl) rfl rfl (fun _ _ _ h => h) (Or.inl ⟨by rfl, fun W hW => by go_simp⟩) ⟨d3, d4⟩ ?_
    simp only [Act.put, List.setIfInBounds_toArray, List.set_cons_zero, List.set_cons_succ]
    refine until_take (i := 12) (v := .pointer (some ⟨sb, 0, none⟩)) (some 27) [17] rfl rfl (by kernel_rfl) (by kernel_rfl) (by kernel_rfl) (by kernel_rfl) rfl rfl (fun _ _ _ h => h) (Or.inl ⟨by rfl, fun W hW => by go_simp⟩) ⟨d3, d4⟩ ?_
    simp only [Act.put, List.setIfInBounds_toArray, List.set_cons_zero, List.set_cons_succ]
    refine until_take (i := 2) (v := .pointer (some ⟨sb, 3, none⟩)) (some 17) [17] rfl rfl (by kernel_rfl) (by kernel_rfl) (by kernel_rfl) (by kernel_rfl) rfl rfl (fun _ _ _ h => h) (Or.inl ⟨by rfl, fun W hW => by go_simp⟩) ⟨d3, d4⟩ ?_
    simp only [Act.put, List.setIfInBounds_toArray, List.set_cons_zero, List.set_cons_succ]
    refine until_take (i := 6) (v := .pointer (some ⟨sb, 4, none⟩)) (some 21) [17] rfl rfl (by kernel_rfl) (by kernel_rfl) (by kernel_rfl) (by kernel_rfl) rfl rfl (fun _ _ _ h => h) (Or.inl ⟨by rfl, fun W hW => by go_simp⟩) ⟨d3, d4⟩ ?_
    simp only [Act.put, List.setIfInBounds_toArray, List.set_cons_zero, List.set_cons_succ]
    refine until_take (i := 13) (v := .pointer (some ⟨sb, 3, none⟩)) (some 28) [17] rfl rfl (by kernel_rfl) (by kernel_rfl) (by kernel_rfl) (by kernel_rfl) rfl rfl (fun _ _ _ h => h) (Or.inl ⟨by rfl, fun W hW => by go_simp⟩) ⟨d3, d4⟩ ?_
    simp only [Act.put, List.setIfInBounds_toArray, List.set_cons_zero, List.set_cons_succ]
    refine until_take (i := 3) (v := .int .i64 (nx : Int)) (some 18) [17] rfl rfl (by kernel_rfl) (by kernel_rfl) (by kernel_rfl) (by kernel_rfl) rfl rfl (fun _ _ _ h => h) (Or.inl ⟨by rfl, fun W hW => by have hc := hW.1; go_simp⟩) ⟨d3, d4⟩ ?_
    simp only [Act.put, List.setIfInBounds_toArray, List.set_cons_zero, List.set_cons_succ]
    refine until_take (i := 7) (v := .int .i64 (eg : Int)) (some 22) [17] rfl rfl (by kernel_rfl) (by kernel_rfl) (by kernel_rfl) (by kernel_rfl) rfl rfl (fun _ _ _ h => h) (Or.inl ⟨by rfl, fun W hW => by have hc := hW.2; go_simp⟩) ⟨d3, d4⟩ ?_
    simp only [Act.put, List.setIfInBounds_toArray, List.set_cons_zero, List.set_cons_succ]
    refine until_take (i := 14) (v := .int .i64 (nx : Int)) (some 29) [17] rfl rfl (by kernel_rfl) (by kernel_rfl) (by kernel_rfl) (by kernel_rfl) rfl rfl (fun _ _ _ h => h) (Or.inl ⟨by rfl, fun W hW => by have hc := hW.1; go_simp⟩) ⟨d3, d4⟩ ?_
    simp only [Act.put, List.setIfInBounds_toArray, List.set_cons_zero, List.set_cons_succ]
    refine until_step (i := 9) (by kernel_rfl) rfl rfl (fun K hK => ?_)
    go_simp
    refine (HE.out).mono ?_
    rintro e w5 ⟨rfl, b5⟩
    have e5 : w5.cell? ⟨sb, 3, none⟩ = some (.int .i64 (nx : Int)) ∧ w5.cell? ⟨sb, 4, none⟩ = some (.int .i64 (eg : Int)) := ⟨keepc b5 d3, keepc b5 d4⟩
    have b5w : Below w3.heap.size w3 w5 := ⟨b5.os, b5.tape, b5.output, b5.size, b5.block⟩
    have HDX0 := Lib.hid (HD.out w5 (nx : Int) (lg : Int) b5w)
    have hx5 := HX3.out w5 b5w
    have pf5 := frozen_of hx5
    have q0 : w5.cell? ⟨w.heap.size, 0, none⟩ = some (.int .i64 0) := (cell_of_row _ _ 0 _ _ (0, 0) hx5)
    have q9 : w5.cell? ⟨w.heap.size, 1, none⟩ = some (.int .i64 0) := (cell_of_row _ _ 1 _ _ (0, 0) hx5)
    clear b5 b5w hx5 p0 p9 pf HD HX3 HE
    dsimp only
    refine hK.out _ _ e5 (fun _ => ?_)
    clear hK
    try simp only [Act.put, List.setIfInBounds_toArray, List.set_cons_zero, List.set_cons_succ]
    refine until_take (i := 10) (v := .int .i64 (mn : Int)) (some 25) [17] rfl rfl (by kernel_rfl) (by kernel_rfl) (by kernel_rfl) (by kernel_rfl) rfl rfl (fun _ _ _ h => h) (Or.inl ⟨by rfl, fun W hW => by have hc := hmin; go_simp⟩) e5 ?_
    simp only [Act.put, List.setIfInBounds_toArray, List.set_cons_zero, List.set_cons_succ]
    refine until_take (i := 15) (v := .int .i64 (lg : Int)) (some 30) [17] rfl rfl (by kernel_rfl) (by kernel_rfl) (by kernel_rfl) (by kernel_rfl) rfl rfl (fun _ _ _ h => h) (Or.inl ⟨by rfl, fun W hW => by have hc := hsub; go_simp⟩) e5 ?_
    simp only [Act.put, List.setIfInBounds_toArray, List.set_cons_zero, List.set_cons_succ]
    refine until_take (i := 16) (v := .agg #[.int .i64 (nx : Int), .int .i64 (lg : Int)]) (some 31) [17] rfl rfl (by kernel_rfl) (by kernel_rfl) (by kernel_rfl) (by kernel_rfl) rfl rfl (fun _ _ _ h => h) (Or.inl ⟨by rfl, fun W hW => by go_simp⟩) e5 ?_
    simp only [Act.put, List.setIfInBounds_toArray, List.set_cons_zero, List.set_cons_succ]
    refine until_last (by kernel_rfl) rfl (fun K hK => ?_)
    go_simp
    have HDX := Lib.hid HDX0.out
    clear HDX0 e5
    refine hK.out _ _ ?_
    clear hK
    try simp only [Act.put, List.setIfInBounds_toArray, List.set_cons_zero, List.set_cons_succ]
    refine wpAnyH_done (by kernel_rfl) ?_ _
    refine NoPanic.normal ?_
    go_wp2_with fail
    exact bodyPost_ret (results_c0 rfl _ _ w.heap.size _ _ rfl (HDX.out).2 Try.underlying66 rfl sz2) rfl ⟨rfl, (HDX.out).1⟩
  · rw [HRC.out]
    clear HRN HRC
    go_enter Try.func31, Try.ntmps31
    go_upto_region 1 with (fail)
    generalize w.alloc (.cells #[.int .i64 0, .int .i64 0] 66) = w2 at *
    have HX : Hid (∀ V, Below w2.heap.size w2 V → V.heap[w.heap.size]? = some (.cells #[.int .i64 0, .int .i64 0] 66 (0, 0))) := Lib.hid (fun V hb => (hb.block _ (Array.getElem?_eq_some_iff.1 hb2).1).trans hb2)
    clear hb2
    go_wp2_with fail
    refine (HRU.out).mono ?_
    rintro e w3 ⟨v3, rfl, r3, o3, b3⟩
    have HD : Hid (∀ (V : World) (a b : Int), Below w3.heap.size w3 V → Below w.heap.size w ((V.setCell ⟨w.heap.size, 0, none⟩ (.int .i64 a)).setCell ⟨w.heap.size, 1, none⟩ (.int .i64 b)) ∧ ((V.setCell ⟨w.heap.size, 0, none⟩ (.int .i64 a)).setCell ⟨w.heap.size, 1, none⟩ (.int .i64 b)).rangeAt w.heap.size 0 [.int .i64 a, .int .i64 b]) := Lib.hid (fun V a b hb => by
      have hb' := below_trans b3 hb
      have st := store2 (HX.out V hb') (.int .i64 a) (.int .i64 b)
      exact ⟨((Ch.of_below (fun k => k = w.heap.size) (HB0.out.trans (hb'.mono HB0.out.size))).then_ st.2).below (fun x hx e => by omega), st.1⟩)
    have HX3 : Hid (∀ V, Below w3.heap.size w3 V → V.heap[w.heap.size]? = some (.cells #[.int .i64 0, .int .i64 0] 66 (0, 0))) := Lib.hid (fun V hb => HX.out V (below_trans b3 hb))
    have hx3 := HX3.out w3 (Below.refl _ _)
    have pf := frozen_of hx3
    have p0 : w3.cell? ⟨w.heap.size, 0, none⟩ = some (.int .i64 0) := (cell_of_row _ _ 0 _ _ (0, 0) hx3)
    have p9 : w3.cell? ⟨w.heap.size, 1, none⟩ = some (.int .i64 0) := (cell_of_row _ _ 1 _ _ (0, 0) hx3)
    clear hx3 o3 HX HRU c0
    obtain ⟨A3, c3, rfl, -, -⟩ := r3.slice
    obtain ⟨g, o, rfl, y0, y1, _⟩ := r3.cells (j := 0) (by simp)
    obtain ⟨ra, rb⟩ := r
    have y0' : w3.cell? ⟨g, o, none⟩ = some (.int .i64 ra) := by simpa using y0
    have y1' : w3.cell? ⟨g, o + 1, none⟩ = some (.int .i64 rb) := by simpa using y1
    have hlen : (0 : Int) < ((((ra, rb) :: t).length : Nat) : Int) := by rw [List.length_cons]; omega
    have hlen0 : 0 < ((ra, rb) :: t).length := by rw [List.length_cons]; omega
    have HB := Lib.hid (HD.out w3 ra rb (Below.refl _ _))
    clear r3 y0 y1 hmin hsub b3 HEV
    generalize ((ra, rb) :: t).length = n at *
    go_wp2_with fail
    exact bodyPost_ret (results_c0 rfl _ _ w.heap.size _ _ rfl (HB.out).2 Try.underlying66 rfl sz2) rfl ⟨rfl, (HB.out).1⟩
end
end Go.Proofs.Ytgcblajhdebigaa
