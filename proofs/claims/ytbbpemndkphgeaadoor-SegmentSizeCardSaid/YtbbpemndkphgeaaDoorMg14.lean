/- The contracts of the document's own way to read an option, kind by kind. Conditions: the slice holds bytes, just as many as the kind has. -/
import Derived.Test.YtbbpemndkphgeaaDoorMg11
import Derived.Test.YtbbpemndkphgeaaDoorMg13
namespace Go.Proofs.YtbbpemndkphgeaaDoor
set_option linter.unusedVariables false
set_option linter.unusedSimpArgs false
open Go.RowKit

/-- What parse leaves. -/
def ParseMade (W : World) (x : Opt) (e : Ending) (w' : World) : Prop := e = .returned (.agg x.vals.toArray) ∧ Below W.heap.size W w'
theorem results_O {P : Program} {fn : Func} {p : Tmp} {ty : TypeId} (h : fn.results = #[.cell p ty]) (tmps : Array Value) (w : World) (g : Nat) (cs : List Value) (d : TypeDesc)
    (hp : tmps.getD p undef = .pointer (some ⟨g, 0, none⟩)) (hc : w.rangeAt g 0 cs) (hu : P.underlying ty = some d) (hd : d.isRow = true) (hi : (P.info? ty).map (·.size) = some cs.length) :
    (results fn tmps).run P w = .ok (.agg cs.toArray) w := by
  have hp' : tmps[p]?.getD undef = .pointer (some ⟨g, 0, none⟩) := by simpa using hp
  simp [results, h, hp', asAddr, run_loadVar_mid w g 0 ty cs d hc hu hd hi]
theorem sizeU64 : (Tryd.prog.info? 44).map (·.size) = some 1 := by kernel_rfl
theorem sizeU32 : (Tryd.prog.info? 22).map (·.size) = some 1 := by kernel_rfl
theorem sizeInt : (Tryd.prog.info? 3).map (·.size) = some 1 := by kernel_rfl
theorem sizeBool : (Tryd.prog.info? 4).map (·.size) = some 1 := by kernel_rfl

set_option maxRecDepth 8000 in
set_option maxHeartbeats 1600000 in
theorem parse_1 (A : Option Addr) (c : Nat) (bs : List UInt8) (w : World) (h : RB w A 9 c bs) (hk : (bs.getD 0 0).toNat = 1) :
    Calls Tryd.prog 45 #[.slice A 9 c] w (ParseMade w (prs (zK 1) (tab 1) (bs.drop 1))) := by
  have HP : Hid (prs (zK 1) (tab 1) (bs.drop 1) = (zK 1).put 1 (num ((bs.drop 1).take 8))) := Lib.hid (by
    show (zK 1).put 1 (num ((bs.drop 1).take 8)) = _
    simp only [List.drop_drop, Nat.reduceAdd])
  obtain ⟨b, o, rfl, _⟩ := h.2.2.2 (by omega)
  have c0 := h.cell_at (j := 0) (by omega)
  rw [hk, Nat.add_zero] at c0
  have hcap := h.cap
  have hmax := h.max
  have HLEN := Lib.hid h.len
  clear hk
  obtain ⟨A1, run1, r1⟩ := h.tail_ 1 1 rfl (by omega)
  rw [show bs.drop 1 = (bs.drop 1).take 8 from (List.take_of_length_le (by rw [List.length_drop, HLEN.out]; omega)).symm] at r1
  have hx1 := num_few (bs.drop 1) 8
  have HN1 := Lib.hid (fun W (hW : RB W A1 8 (c - 1) ((bs.drop 1).take 8)) => Number_any A1 _ _ _ W hW (by omega))
  simp only [Nat.reduceSub] at run1 r1
  clear h HLEN
  generalize (bs.drop 1).take 8 = l1 at *
  generalize num l1 = x1 at *
  simp only [Nat.reducePow] at hx1
  go_enter Tryd.func45, Tryd.ntmps45
  go_wp2_with (first
    | ((with_reducible refine wpList_here ?_); refine wpList_allocV (o := ⟨some 2, _, _, _, _, _⟩) rfl 52 rfl (zK 0).vals zeroOpt _ rfl ?_; intro w1 z1 d1 s1; have c0' := (d1.cell (World.block_lt_of_cell? w _ c0)).trans c0)
    | ((with_reducible refine wpList_here ?_); refine wpList_allocV (o := ⟨some 3, _, _, _, _, _⟩) rfl 52 rfl (zK 0).vals zeroOpt _ rfl ?_; intro w2 z2 d2 s2)
    | ((with_reducible refine wpList_here ?_); refine wpList_storeO rfl 52 (.tmp 3) (.tmp 8) rfl _ (zK 0) (zK 1) rfl rfl z2 infoOpt ?_; intro v0 q0 g0 y0
       have b0 := v_below_g d2 g0 d2.size (Nat.le_refl _)
       have k0 : v0.cell? ⟨w1.heap.size, 0, none⟩ = some (.int .i64 1) := (q0 0 (Nat.zero_lt_succ _)).1
       have zr := z1.below b0
       have br := below_trans d1 b0
       have yr : Bytes8 w v0 := Bytes8.of_below br
       have hlt : w.heap.size < w1.heap.size := by omega
       replace r1 := r1.bytes yr
       clear z1 d1 z2 d2 g0 y0 b0 c0 c0' s1 s2)
    | (go_at_call 61; ((with_reducible refine (HN1.out _ r1).mono ?_); rintro e w' ⟨rfl, rfl⟩))
    | ((with_reducible refine wpList_here ?_); refine wpList_putO rfl 44 (.tmp 17) (.tmp 16) rfl _ 1 x1 _ rfl rfl q0 (by unfold spot; omega) (by omega) sizeU64 ?_; intro v1 q1 g1 y1
       replace zr := zr.far g1 (by intro e; injection e with e; omega)
       replace br := v_below_g br g1 br.size (by omega)
       clear g1 y1 q0)
    | ((with_reducible refine wpList_here ?_); refine wpList_loadV rfl 52 (.tmp 3) rfl _ _ (Opt.vals _) rfl q1.range _ Tryd.underlying52 rfl infoOpt ?_)
    | ((with_reducible refine wpList_here ?_); refine wpList_storeV rfl 52 (.tmp 2) (.tmp 118) rfl _ _ (Opt.vals _) rfl rfl zr rfl (vals_one _) infoOpt ?_; intro wz zz gz _))
  have bz := v_below_g br gz br.size (Nat.le_refl _)
  refine bodyPost_ret (results_O rfl _ _ w.heap.size _ _ rfl zz.range Tryd.underlying52 rfl infoOpt) rfl ?_
  rw [HP.out]
  exact ⟨rfl, bz⟩

set_option maxRecDepth 8000 in
set_option maxHeartbeats 1600000 in
theorem parse_2 (A : Option Addr) (c : Nat) (bs : List UInt8) (w : World) (h : RB w A 11 c bs) (hk : (bs.getD 0 0).toNat = 2) :
    Calls Tryd.prog 45 #[.slice A 11 c] w (ParseMade w (prs (zK 2) (tab 2) (bs.drop 1))) := by
  have HP : Hid (prs (zK 2) (tab 2) (bs.drop 1) = ((((zK 2).put 3 (num ((bs.drop 1).take 4))).put 4 (num ((bs.drop 5).take 4))).put 5 (num ((bs.drop 9).take 1))).put 7 (num ((bs.drop 10).take 1))) := Lib.hid (by
    show ((((zK 2).put 3 (num ((bs.drop 1).take 4))).put 4 (num (((bs.drop 1).drop 4).take 4))).put 5 (num ((((bs.drop 1).drop 4).drop 4).take 1))).put 7 (num (((((bs.drop 1).drop 4).drop 4).drop 1).take 1)) = _
    simp only [List.drop_drop, Nat.reduceAdd])
  obtain ⟨b, o, rfl, _⟩ := h.2.2.2 (by omega)
  have c0 := h.cell_at (j := 0) (by omega)
  rw [hk, Nat.add_zero] at c0
  have hcap := h.cap
  have hmax := h.max
  have HLEN := Lib.hid h.len
  clear hk
  obtain ⟨A1, run1, r1⟩ := h.mid_ 1 5 1 5 rfl rfl (by omega) (by omega)
  have hx1 := num_few (bs.drop 1) 4
  have HN1 := Lib.hid (fun W (hW : RB W A1 4 (c - 1) ((bs.drop 1).take 4)) => Number_any A1 _ _ _ W hW (by omega))
  simp only [Nat.reduceSub] at run1 r1
  obtain ⟨A2, run2, r2⟩ := h.mid_ 5 9 5 9 rfl rfl (by omega) (by omega)
  have hx2 := num_few (bs.drop 5) 4
  have HN2 := Lib.hid (fun W (hW : RB W A2 4 (c - 5) ((bs.drop 5).take 4)) => Number_any A2 _ _ _ W hW (by omega))
  simp only [Nat.reduceSub] at run2 r2
  have c3 := h.cell_at (j := 9) (by omega)
  rw [← num_take_one (by rw [HLEN.out]; omega)] at c3
  have hx3 := num_few (bs.drop 9) 1
  have c4 := h.cell_at (j := 10) (by omega)
  rw [← num_take_one (by rw [HLEN.out]; omega)] at c4
  have hx4 := num_few (bs.drop 10) 1
  clear h HLEN
  generalize (bs.drop 1).take 4 = l1 at *
  generalize num l1 = x1 at *
  simp only [Nat.reducePow] at hx1
  generalize (bs.drop 5).take 4 = l2 at *
  generalize num l2 = x2 at *
  simp only [Nat.reducePow] at hx2
  generalize num ((bs.drop 9).take 1) = x3 at *
  simp only [Nat.reducePow] at hx3
  generalize num ((bs.drop 10).take 1) = x4 at *
  simp only [Nat.reducePow] at hx4
  go_enter Tryd.func45, Tryd.ntmps45
  go_wp2_with (first
    | ((with_reducible refine wpList_here ?_); refine wpList_allocV (o := ⟨some 2, _, _, _, _, _⟩) rfl 52 rfl (zK 0).vals zeroOpt _ rfl ?_; intro w1 z1 d1 s1; have c0' := (d1.cell (World.block_lt_of_cell? w _ c0)).trans c0)
    | ((with_reducible refine wpList_here ?_); refine wpList_allocV (o := ⟨some 3, _, _, _, _, _⟩) rfl 52 rfl (zK 0).vals zeroOpt _ rfl ?_; intro w2 z2 d2 s2)
    | ((with_reducible refine wpList_here ?_); refine wpList_storeO rfl 52 (.tmp 3) (.tmp 8) rfl _ (zK 0) (zK 2) rfl rfl z2 infoOpt ?_; intro v0 q0 g0 y0
       have b0 := v_below_g d2 g0 d2.size (Nat.le_refl _)
       have k0 : v0.cell? ⟨w1.heap.size, 0, none⟩ = some (.int .i64 2) := (q0 0 (Nat.zero_lt_succ _)).1
       have zr := z1.below b0
       have br := below_trans d1 b0
       have yr : Bytes8 w v0 := Bytes8.of_below br
       have hlt : w.heap.size < w1.heap.size := by omega
       replace r1 := r1.bytes yr
       replace r2 := r2.bytes yr
       replace c3 := yr _ _ c3
       replace c4 := yr _ _ c4
       clear z1 d1 z2 d2 g0 y0 b0 c0 c0' s1 s2)
    | (go_at_call 61; ((with_reducible refine (HN1.out _ r1).mono ?_); rintro e w' ⟨rfl, rfl⟩))
    | ((with_reducible refine wpList_here ?_); refine wpList_putO rfl 22 (.tmp 24) (.tmp 23) rfl _ 3 x1 _ rfl rfl q0 (by unfold spot; omega) (by omega) sizeU32 ?_; intro v1 q1 g1 y1
       replace zr := zr.far g1 (by intro e; injection e with e; omega)
       replace br := v_below_g br g1 br.size (by omega)
       replace r2 := r2.bytes y1
       replace c3 := y1 _ _ c3
       replace c4 := y1 _ _ c4
       clear g1 y1 q0)
    | (go_at_call 61; ((with_reducible refine (HN2.out _ r2).mono ?_); rintro e w' ⟨rfl, rfl⟩))
    | ((with_reducible refine wpList_here ?_); refine wpList_putO rfl 22 (.tmp 29) (.tmp 28) rfl _ 4 x2 _ rfl rfl q1 (by unfold spot; omega) (by omega) sizeU32 ?_; intro v2 q2 g2 y2
       replace zr := zr.far g2 (by intro e; injection e with e; omega)
       replace br := v_below_g br g2 br.size (by omega)
       replace c3 := y2 _ _ c3
       replace c4 := y2 _ _ c4
       clear g2 y2 q1)
    | ((with_reducible refine wpList_here ?_); refine wpList_putO rfl 3 (.tmp 34) (.tmp 33) rfl _ 5 x3 _ rfl rfl q2 (by unfold spot; omega) (by omega) sizeInt ?_; intro v3 q3 g3 y3
       replace zr := zr.far g3 (by intro e; injection e with e; omega)
       replace br := v_below_g br g3 br.size (by omega)
       replace c4 := y3 _ _ c4
       clear g3 y3 q2)
    | ((with_reducible refine wpList_here ?_); refine wpList_putO rfl 4 (.tmp 39) (.tmp 38) rfl _ 7 x4 _ rfl rfl q3 (by unfold spot; omega) (by omega) sizeBool ?_; intro v4 q4 g4 y4
       replace zr := zr.far g4 (by intro e; injection e with e; omega)
       replace br := v_below_g br g4 br.size (by omega)
       clear g4 y4 q3)
    | ((with_reducible refine wpList_here ?_); refine wpList_loadV rfl 52 (.tmp 3) rfl _ _ (Opt.vals _) rfl q4.range _ Tryd.underlying52 rfl infoOpt ?_)
    | ((with_reducible refine wpList_here ?_); refine wpList_storeV rfl 52 (.tmp 2) (.tmp 118) rfl _ _ (Opt.vals _) rfl rfl zr rfl (vals_one _) infoOpt ?_; intro wz zz gz _))
  have bz := v_below_g br gz br.size (Nat.le_refl _)
  refine bodyPost_ret (results_O rfl _ _ w.heap.size _ _ rfl zz.range Tryd.underlying52 rfl infoOpt) rfl ?_
  rw [HP.out]
  exact ⟨rfl, bz⟩

set_option maxRecDepth 8000 in
set_option maxHeartbeats 1600000 in
theorem parse_3 (A : Option Addr) (c : Nat) (bs : List UInt8) (w : World) (h : RB w A 13 c bs) (hk : (bs.getD 0 0).toNat = 3) :
    Calls Tryd.prog 45 #[.slice A 13 c] w (ParseMade w (prs (zK 3) (tab 3) (bs.drop 1))) := by
  have HP : Hid (prs (zK 3) (tab 3) (bs.drop 1) = ((zK 3).put 2 (num ((bs.drop 1).take 8))).put 4 (num ((bs.drop 9).take 4))) := Lib.hid (by
    show ((zK 3).put 2 (num ((bs.drop 1).take 8))).put 4 (num (((bs.drop 1).drop 8).take 4)) = _
    simp only [List.drop_drop, Nat.reduceAdd])
  obtain ⟨b, o, rfl, _⟩ := h.2.2.2 (by omega)
  have c0 := h.cell_at (j := 0) (by omega)
  rw [hk, Nat.add_zero] at c0
  have hcap := h.cap
  have hmax := h.max
  have HLEN := Lib.hid h.len
  clear hk
  obtain ⟨A1, run1, r1⟩ := h.mid_ 1 9 1 9 rfl rfl (by omega) (by omega)
  have hx1 := num_few (bs.drop 1) 8
  have HN1 := Lib.hid (fun W (hW : RB W A1 8 (c - 1) ((bs.drop 1).take 8)) => Number_any A1 _ _ _ W hW (by omega))
  simp only [Nat.reduceSub] at run1 r1
  obtain ⟨A2, run2, r2⟩ := h.mid_ 9 13 9 13 rfl rfl (by omega) (by omega)
  have hx2 := num_few (bs.drop 9) 4
  have HN2 := Lib.hid (fun W (hW : RB W A2 4 (c - 9) ((bs.drop 9).take 4)) => Number_any A2 _ _ _ W hW (by omega))
  simp only [Nat.reduceSub] at run2 r2
  clear h HLEN
  generalize (bs.drop 1).take 8 = l1 at *
  generalize num l1 = x1 at *
  simp only [Nat.reducePow] at hx1
  generalize (bs.drop 9).take 4 = l2 at *
  generalize num l2 = x2 at *
  simp only [Nat.reducePow] at hx2
  go_enter Tryd.func45, Tryd.ntmps45
  go_wp2_with (first
    | ((with_reducible refine wpList_here ?_); refine wpList_allocV (o := ⟨some 2, _, _, _, _, _⟩) rfl 52 rfl (zK 0).vals zeroOpt _ rfl ?_; intro w1 z1 d1 s1; have c0' := (d1.cell (World.block_lt_of_cell? w _ c0)).trans c0)
    | ((with_reducible refine wpList_here ?_); refine wpList_allocV (o := ⟨some 3, _, _, _, _, _⟩) rfl 52 rfl (zK 0).vals zeroOpt _ rfl ?_; intro w2 z2 d2 s2)
    | ((with_reducible refine wpList_here ?_); refine wpList_storeO rfl 52 (.tmp 3) (.tmp 8) rfl _ (zK 0) (zK 3) rfl rfl z2 infoOpt ?_; intro v0 q0 g0 y0
       have b0 := v_below_g d2 g0 d2.size (Nat.le_refl _)
       have k0 : v0.cell? ⟨w1.heap.size, 0, none⟩ = some (.int .i64 3) := (q0 0 (Nat.zero_lt_succ _)).1
       have zr := z1.below b0
       have br := below_trans d1 b0
       have yr : Bytes8 w v0 := Bytes8.of_below br
       have hlt : w.heap.size < w1.heap.size := by omega
       replace r1 := r1.bytes yr
       replace r2 := r2.bytes yr
       clear z1 d1 z2 d2 g0 y0 b0 c0 c0' s1 s2)
    | (go_at_call 61; ((with_reducible refine (HN1.out _ r1).mono ?_); rintro e w' ⟨rfl, rfl⟩))
    | ((with_reducible refine wpList_here ?_); refine wpList_putO rfl 44 (.tmp 45) (.tmp 44) rfl _ 2 x1 _ rfl rfl q0 (by unfold spot; omega) (by omega) sizeU64 ?_; intro v1 q1 g1 y1
       replace zr := zr.far g1 (by intro e; injection e with e; omega)
       replace br := v_below_g br g1 br.size (by omega)
       replace r2 := r2.bytes y1
       clear g1 y1 q0)
    | (go_at_call 61; ((with_reducible refine (HN2.out _ r2).mono ?_); rintro e w' ⟨rfl, rfl⟩))
    | ((with_reducible refine wpList_here ?_); refine wpList_putO rfl 22 (.tmp 50) (.tmp 49) rfl _ 4 x2 _ rfl rfl q1 (by unfold spot; omega) (by omega) sizeU32 ?_; intro v2 q2 g2 y2
       replace zr := zr.far g2 (by intro e; injection e with e; omega)
       replace br := v_below_g br g2 br.size (by omega)
       clear g2 y2 q1)
    | ((with_reducible refine wpList_here ?_); refine wpList_loadV rfl 52 (.tmp 3) rfl _ _ (Opt.vals _) rfl q2.range _ Tryd.underlying52 rfl infoOpt ?_)
    | ((with_reducible refine wpList_here ?_); refine wpList_storeV rfl 52 (.tmp 2) (.tmp 118) rfl _ _ (Opt.vals _) rfl rfl zr rfl (vals_one _) infoOpt ?_; intro wz zz gz _))
  have bz := v_below_g br gz br.size (Nat.le_refl _)
  refine bodyPost_ret (results_O rfl _ _ w.heap.size _ _ rfl zz.range Tryd.underlying52 rfl infoOpt) rfl ?_
  rw [HP.out]
  exact ⟨rfl, bz⟩

set_option maxRecDepth 8000 in
set_option maxHeartbeats 1600000 in
theorem parse_4 (A : Option Addr) (c : Nat) (bs : List UInt8) (w : World) (h : RB w A 9 c bs) (hk : (bs.getD 0 0).toNat = 4) :
    Calls Tryd.prog 45 #[.slice A 9 c] w (ParseMade w (prs (zK 4) (tab 4) (bs.drop 1))) := by
  have HP : Hid (prs (zK 4) (tab 4) (bs.drop 1) = (zK 4).put 2 (num ((bs.drop 1).take 8))) := Lib.hid (by
    show (zK 4).put 2 (num ((bs.drop 1).take 8)) = _
    simp only [List.drop_drop, Nat.reduceAdd])
  obtain ⟨b, o, rfl, _⟩ := h.2.2.2 (by omega)
  have c0 := h.cell_at (j := 0) (by omega)
  rw [hk, Nat.add_zero] at c0
  have hcap := h.cap
  have hmax := h.max
  have HLEN := Lib.hid h.len
  clear hk
  obtain ⟨A1, run1, r1⟩ := h.tail_ 1 1 rfl (by omega)
  rw [show bs.drop 1 = (bs.drop 1).take 8 from (List.take_of_length_le (by rw [List.length_drop, HLEN.out]; omega)).symm] at r1
  have hx1 := num_few (bs.drop 1) 8
  have HN1 := Lib.hid (fun W (hW : RB W A1 8 (c - 1) ((bs.drop 1).take 8)) => Number_any A1 _ _ _ W hW (by omega))
  simp only [Nat.reduceSub] at run1 r1
  clear h HLEN
  generalize (bs.drop 1).take 8 = l1 at *
  generalize num l1 = x1 at *
  simp only [Nat.reducePow] at hx1
  go_enter Tryd.func45, Tryd.ntmps45
  go_wp2_with (first
    | ((with_reducible refine wpList_here ?_); refine wpList_allocV (o := ⟨some 2, _, _, _, _, _⟩) rfl 52 rfl (zK 0).vals zeroOpt _ rfl ?_; intro w1 z1 d1 s1; have c0' := (d1.cell (World.block_lt_of_cell? w _ c0)).trans c0)
    | ((with_reducible refine wpList_here ?_); refine wpList_allocV (o := ⟨some 3, _, _, _, _, _⟩) rfl 52 rfl (zK 0).vals zeroOpt _ rfl ?_; intro w2 z2 d2 s2)
    | ((with_reducible refine wpList_here ?_); refine wpList_storeO rfl 52 (.tmp 3) (.tmp 8) rfl _ (zK 0) (zK 4) rfl rfl z2 infoOpt ?_; intro v0 q0 g0 y0
       have b0 := v_below_g d2 g0 d2.size (Nat.le_refl _)
       have k0 : v0.cell? ⟨w1.heap.size, 0, none⟩ = some (.int .i64 4) := (q0 0 (Nat.zero_lt_succ _)).1
       have zr := z1.below b0
       have br := below_trans d1 b0
       have yr : Bytes8 w v0 := Bytes8.of_below br
       have hlt : w.heap.size < w1.heap.size := by omega
       replace r1 := r1.bytes yr
       clear z1 d1 z2 d2 g0 y0 b0 c0 c0' s1 s2)
    | (go_at_call 61; ((with_reducible refine (HN1.out _ r1).mono ?_); rintro e w' ⟨rfl, rfl⟩))
    | ((with_reducible refine wpList_here ?_); refine wpList_putO rfl 44 (.tmp 56) (.tmp 55) rfl _ 2 x1 _ rfl rfl q0 (by unfold spot; omega) (by omega) sizeU64 ?_; intro v1 q1 g1 y1
       replace zr := zr.far g1 (by intro e; injection e with e; omega)
       replace br := v_below_g br g1 br.size (by omega)
       clear g1 y1 q0)
    | ((with_reducible refine wpList_here ?_); refine wpList_loadV rfl 52 (.tmp 3) rfl _ _ (Opt.vals _) rfl q1.range _ Tryd.underlying52 rfl infoOpt ?_)
    | ((with_reducible refine wpList_here ?_); refine wpList_storeV rfl 52 (.tmp 2) (.tmp 118) rfl _ _ (Opt.vals _) rfl rfl zr rfl (vals_one _) infoOpt ?_; intro wz zz gz _))
  have bz := v_below_g br gz br.size (Nat.le_refl _)
  refine bodyPost_ret (results_O rfl _ _ w.heap.size _ _ rfl zz.range Tryd.underlying52 rfl infoOpt) rfl ?_
  rw [HP.out]
  exact ⟨rfl, bz⟩

set_option maxRecDepth 8000 in
set_option maxHeartbeats 1600000 in
theorem parse_5 (A : Option Addr) (c : Nat) (bs : List UInt8) (w : World) (h : RB w A 13 c bs) (hk : (bs.getD 0 0).toNat = 5) :
    Calls Tryd.prog 45 #[.slice A 13 c] w (ParseMade w (prs (zK 5) (tab 5) (bs.drop 1))) := by
  have HP : Hid (prs (zK 5) (tab 5) (bs.drop 1) = ((((((zK 5).put 8 (num ((bs.drop 1).take 1))).put 9 (num ((bs.drop 2).take 4))).put 10 (num ((bs.drop 6).take 1))).put 11 (num ((bs.drop 7).take 4))).put 12 (num ((bs.drop 11).take 1))).put 13 (num ((bs.drop 12).take 1))) := Lib.hid (by
    show ((((((zK 5).put 8 (num ((bs.drop 1).take 1))).put 9 (num (((bs.drop 1).drop 1).take 4))).put 10 (num ((((bs.drop 1).drop 1).drop 4).take 1))).put 11 (num (((((bs.drop 1).drop 1).drop 4).drop 1).take 4))).put 12 (num ((((((bs.drop 1).drop 1).drop 4).drop 1).drop 4).take 1))).put 13 (num (((((((bs.drop 1).drop 1).drop 4).drop 1).drop 4).drop 1).take 1)) = _
    simp only [List.drop_drop, Nat.reduceAdd])
  obtain ⟨b, o, rfl, _⟩ := h.2.2.2 (by omega)
  have c0 := h.cell_at (j := 0) (by omega)
  rw [hk, Nat.add_zero] at c0
  have hcap := h.cap
  have hmax := h.max
  have HLEN := Lib.hid h.len
  clear hk
  have c1 := h.cell_at (j := 1) (by omega)
  rw [← num_take_one (by rw [HLEN.out]; omega)] at c1
  have hx1 := num_few (bs.drop 1) 1
  obtain ⟨A2, run2, r2⟩ := h.mid_ 2 6 2 6 rfl rfl (by omega) (by omega)
  have hx2 := num_few (bs.drop 2) 4
  have HN2 := Lib.hid (fun W (hW : RB W A2 4 (c - 2) ((bs.drop 2).take 4)) => Number_any A2 _ _ _ W hW (by omega))
  simp only [Nat.reduceSub] at run2 r2
  have c3 := h.cell_at (j := 6) (by omega)
  rw [← num_take_one (by rw [HLEN.out]; omega)] at c3
  have hx3 := num_few (bs.drop 6) 1
  obtain ⟨A4, run4, r4⟩ := h.mid_ 7 11 7 11 rfl rfl (by omega) (by omega)
  have hx4 := num_few (bs.drop 7) 4
  have HN4 := Lib.hid (fun W (hW : RB W A4 4 (c - 7) ((bs.drop 7).take 4)) => Number_any A4 _ _ _ W hW (by omega))
  simp only [Nat.reduceSub] at run4 r4
  have c5 := h.cell_at (j := 11) (by omega)
  rw [← num_take_one (by rw [HLEN.out]; omega)] at c5
  have hx5 := num_few (bs.drop 11) 1
  have c6 := h.cell_at (j := 12) (by omega)
  rw [← num_take_one (by rw [HLEN.out]; omega)] at c6
  have hx6 := num_few (bs.drop 12) 1
  clear h HLEN
  generalize num ((bs.drop 1).take 1) = x1 at *
  simp only [Nat.reducePow] at hx1
  generalize (bs.drop 2).take 4 = l2 at *
  generalize num l2 = x2 at *
  simp only [Nat.reducePow] at hx2
  generalize num ((bs.drop 6).take 1) = x3 at *
  simp only [Nat.reducePow] at hx3
  generalize (bs.drop 7).take 4 = l4 at *
  generalize num l4 = x4 at *
  simp only [Nat.reducePow] at hx4
  generalize num ((bs.drop 11).take 1) = x5 at *
  simp only [Nat.reducePow] at hx5
  generalize num ((bs.drop 12).take 1) = x6 at *
  simp only [Nat.reducePow] at hx6
  go_enter Tryd.func45, Tryd.ntmps45
  go_wp2_with (first
    | ((with_reducible refine wpList_here ?_); refine wpList_allocV (o := ⟨some 2, _, _, _, _, _⟩) rfl 52 rfl (zK 0).vals zeroOpt _ rfl ?_; intro w1 z1 d1 s1; have c0' := (d1.cell (World.block_lt_of_cell? w _ c0)).trans c0)
    | ((with_reducible refine wpList_here ?_); refine wpList_allocV (o := ⟨some 3, _, _, _, _, _⟩) rfl 52 rfl (zK 0).vals zeroOpt _ rfl ?_; intro w2 z2 d2 s2)
    | ((with_reducible refine wpList_here ?_); refine wpList_storeO rfl 52 (.tmp 3) (.tmp 8) rfl _ (zK 0) (zK 5) rfl rfl z2 infoOpt ?_; intro v0 q0 g0 y0
       have b0 := v_below_g d2 g0 d2.size (Nat.le_refl _)
       have k0 : v0.cell? ⟨w1.heap.size, 0, none⟩ = some (.int .i64 5) := (q0 0 (Nat.zero_lt_succ _)).1
       have zr := z1.below b0
       have br := below_trans d1 b0
       have yr : Bytes8 w v0 := Bytes8.of_below br
       have hlt : w.heap.size < w1.heap.size := by omega
       replace c1 := yr _ _ c1
       replace r2 := r2.bytes yr
       replace c3 := yr _ _ c3
       replace r4 := r4.bytes yr
       replace c5 := yr _ _ c5
       replace c6 := yr _ _ c6
       clear z1 d1 z2 d2 g0 y0 b0 c0 c0' s1 s2)
    | ((with_reducible refine wpList_here ?_); refine wpList_putO rfl 4 (.tmp 63) (.tmp 62) rfl _ 8 x1 _ rfl rfl q0 (by unfold spot; omega) (by omega) sizeBool ?_; intro v1 q1 g1 y1
       replace zr := zr.far g1 (by intro e; injection e with e; omega)
       replace br := v_below_g br g1 br.size (by omega)
       replace r2 := r2.bytes y1
       replace c3 := y1 _ _ c3
       replace r4 := r4.bytes y1
       replace c5 := y1 _ _ c5
       replace c6 := y1 _ _ c6
       clear g1 y1 q0)
    | (go_at_call 61; ((with_reducible refine (HN2.out _ r2).mono ?_); rintro e w' ⟨rfl, rfl⟩))
    | ((with_reducible refine wpList_here ?_); refine wpList_putO rfl 3 (.tmp 68) (.tmp 67) rfl _ 9 x2 _ rfl rfl q1 (by unfold spot; omega) (by omega) sizeInt ?_; intro v2 q2 g2 y2
       replace zr := zr.far g2 (by intro e; injection e with e; omega)
       replace br := v_below_g br g2 br.size (by omega)
       replace c3 := y2 _ _ c3
       replace r4 := r4.bytes y2
       replace c5 := y2 _ _ c5
       replace c6 := y2 _ _ c6
       clear g2 y2 q1)
    | ((with_reducible refine wpList_here ?_); refine wpList_putO rfl 4 (.tmp 73) (.tmp 72) rfl _ 10 x3 _ rfl rfl q2 (by unfold spot; omega) (by omega) sizeBool ?_; intro v3 q3 g3 y3
       replace zr := zr.far g3 (by intro e; injection e with e; omega)
       replace br := v_below_g br g3 br.size (by omega)
       replace r4 := r4.bytes y3
       replace c5 := y3 _ _ c5
       replace c6 := y3 _ _ c6
       clear g3 y3 q2)
    | (go_at_call 61; ((with_reducible refine (HN4.out _ r4).mono ?_); rintro e w' ⟨rfl, rfl⟩))
    | ((with_reducible refine wpList_here ?_); refine wpList_putO rfl 3 (.tmp 78) (.tmp 77) rfl _ 11 x4 _ rfl rfl q3 (by unfold spot; omega) (by omega) sizeInt ?_; intro v4 q4 g4 y4
       replace zr := zr.far g4 (by intro e; injection e with e; omega)
       replace br := v_below_g br g4 br.size (by omega)
       replace c5 := y4 _ _ c5
       replace c6 := y4 _ _ c6
       clear g4 y4 q3)
    | ((with_reducible refine wpList_here ?_); refine wpList_putO rfl 3 (.tmp 83) (.tmp 82) rfl _ 12 x5 _ rfl rfl q4 (by unfold spot; omega) (by omega) sizeInt ?_; intro v5 q5 g5 y5
       replace zr := zr.far g5 (by intro e; injection e with e; omega)
       replace br := v_below_g br g5 br.size (by omega)
       replace c6 := y5 _ _ c6
       clear g5 y5 q4)
    | ((with_reducible refine wpList_here ?_); refine wpList_putO rfl 4 (.tmp 88) (.tmp 87) rfl _ 13 x6 _ rfl rfl q5 (by unfold spot; omega) (by omega) sizeBool ?_; intro v6 q6 g6 y6
       replace zr := zr.far g6 (by intro e; injection e with e; omega)
       replace br := v_below_g br g6 br.size (by omega)
       clear g6 y6 q5)
    | ((with_reducible refine wpList_here ?_); refine wpList_loadV rfl 52 (.tmp 3) rfl _ _ (Opt.vals _) rfl q6.range _ Tryd.underlying52 rfl infoOpt ?_)
    | ((with_reducible refine wpList_here ?_); refine wpList_storeV rfl 52 (.tmp 2) (.tmp 118) rfl _ _ (Opt.vals _) rfl rfl zr rfl (vals_one _) infoOpt ?_; intro wz zz gz _))
  have bz := v_below_g br gz br.size (Nat.le_refl _)
  refine bodyPost_ret (results_O rfl _ _ w.heap.size _ _ rfl zz.range Tryd.underlying52 rfl infoOpt) rfl ?_
  rw [HP.out]
  exact ⟨rfl, bz⟩

set_option maxRecDepth 8000 in
set_option maxHeartbeats 1600000 in
theorem parse_6 (A : Option Addr) (c : Nat) (bs : List UInt8) (w : World) (h : RB w A 2 c bs) (hk : (bs.getD 0 0).toNat = 6) :
    Calls Tryd.prog 45 #[.slice A 2 c] w (ParseMade w (prs (zK 6) (tab 6) (bs.drop 1))) := by
  have HP : Hid (prs (zK 6) (tab 6) (bs.drop 1) = (zK 6).put 5 (num ((bs.drop 1).take 1))) := Lib.hid (by
    show (zK 6).put 5 (num ((bs.drop 1).take 1)) = _
    simp only [List.drop_drop, Nat.reduceAdd])
  obtain ⟨b, o, rfl, _⟩ := h.2.2.2 (by omega)
  have c0 := h.cell_at (j := 0) (by omega)
  rw [hk, Nat.add_zero] at c0
  have hcap := h.cap
  have hmax := h.max
  have HLEN := Lib.hid h.len
  clear hk
  have c1 := h.cell_at (j := 1) (by omega)
  rw [← num_take_one (by rw [HLEN.out]; omega)] at c1
  have hx1 := num_few (bs.drop 1) 1
  clear h HLEN
  generalize num ((bs.drop 1).take 1) = x1 at *
  simp only [Nat.reducePow] at hx1
  go_enter Tryd.func45, Tryd.ntmps45
  go_wp2_with (first
    | ((with_reducible refine wpList_here ?_); refine wpList_allocV (o := ⟨some 2, _, _, _, _, _⟩) rfl 52 rfl (zK 0).vals zeroOpt _ rfl ?_; intro w1 z1 d1 s1; have c0' := (d1.cell (World.block_lt_of_cell? w _ c0)).trans c0)
    | ((with_reducible refine wpList_here ?_); refine wpList_allocV (o := ⟨some 3, _, _, _, _, _⟩) rfl 52 rfl (zK 0).vals zeroOpt _ rfl ?_; intro w2 z2 d2 s2)
    | ((with_reducible refine wpList_here ?_); refine wpList_storeO rfl 52 (.tmp 3) (.tmp 8) rfl _ (zK 0) (zK 6) rfl rfl z2 infoOpt ?_; intro v0 q0 g0 y0
       have b0 := v_below_g d2 g0 d2.size (Nat.le_refl _)
       have k0 : v0.cell? ⟨w1.heap.size, 0, none⟩ = some (.int .i64 6) := (q0 0 (Nat.zero_lt_succ _)).1
       have zr := z1.below b0
       have br := below_trans d1 b0
       have yr : Bytes8 w v0 := Bytes8.of_below br
       have hlt : w.heap.size < w1.heap.size := by omega
       replace c1 := yr _ _ c1
       clear z1 d1 z2 d2 g0 y0 b0 c0 c0' s1 s2)
    | ((with_reducible refine wpList_here ?_); refine wpList_putO rfl 3 (.tmp 96) (.tmp 95) rfl _ 5 x1 _ rfl rfl q0 (by unfold spot; omega) (by omega) sizeInt ?_; intro v1 q1 g1 y1
       replace zr := zr.far g1 (by intro e; injection e with e; omega)
       replace br := v_below_g br g1 br.size (by omega)
       clear g1 y1 q0)
    | ((with_reducible refine wpList_here ?_); refine wpList_loadV rfl 52 (.tmp 3) rfl _ _ (Opt.vals _) rfl q1.range _ Tryd.underlying52 rfl infoOpt ?_)
    | ((with_reducible refine wpList_here ?_); refine wpList_storeV rfl 52 (.tmp 2) (.tmp 118) rfl _ _ (Opt.vals _) rfl rfl zr rfl (vals_one _) infoOpt ?_; intro wz zz gz _))
  have bz := v_below_g br gz br.size (Nat.le_refl _)
  refine bodyPost_ret (results_O rfl _ _ w.heap.size _ _ rfl zz.range Tryd.underlying52 rfl infoOpt) rfl ?_
  rw [HP.out]
  exact ⟨rfl, bz⟩

set_option maxRecDepth 8000 in
set_option maxHeartbeats 1600000 in
theorem parse_7 (A : Option Addr) (c : Nat) (bs : List UInt8) (w : World) (h : RB w A 2 c bs) (hk : (bs.getD 0 0).toNat = 7) :
    Calls Tryd.prog 45 #[.slice A 2 c] w (ParseMade w (prs (zK 7) (tab 7) (bs.drop 1))) := by
  have HP : Hid (prs (zK 7) (tab 7) (bs.drop 1) = (zK 7).put 5 (num ((bs.drop 1).take 1))) := Lib.hid (by
    show (zK 7).put 5 (num ((bs.drop 1).take 1)) = _
    simp only [List.drop_drop, Nat.reduceAdd])
  obtain ⟨b, o, rfl, _⟩ := h.2.2.2 (by omega)
  have c0 := h.cell_at (j := 0) (by omega)
  rw [hk, Nat.add_zero] at c0
  have hcap := h.cap
  have hmax := h.max
  have HLEN := Lib.hid h.len
  clear hk
  have c1 := h.cell_at (j := 1) (by omega)
  rw [← num_take_one (by rw [HLEN.out]; omega)] at c1
  have hx1 := num_few (bs.drop 1) 1
  clear h HLEN
  generalize num ((bs.drop 1).take 1) = x1 at *
  simp only [Nat.reducePow] at hx1
  go_enter Tryd.func45, Tryd.ntmps45
  go_wp2_with (first
    | ((with_reducible refine wpList_here ?_); refine wpList_allocV (o := ⟨some 2, _, _, _, _, _⟩) rfl 52 rfl (zK 0).vals zeroOpt _ rfl ?_; intro w1 z1 d1 s1; have c0' := (d1.cell (World.block_lt_of_cell? w _ c0)).trans c0)
    | ((with_reducible refine wpList_here ?_); refine wpList_allocV (o := ⟨some 3, _, _, _, _, _⟩) rfl 52 rfl (zK 0).vals zeroOpt _ rfl ?_; intro w2 z2 d2 s2)
    | ((with_reducible refine wpList_here ?_); refine wpList_storeO rfl 52 (.tmp 3) (.tmp 8) rfl _ (zK 0) (zK 7) rfl rfl z2 infoOpt ?_; intro v0 q0 g0 y0
       have b0 := v_below_g d2 g0 d2.size (Nat.le_refl _)
       have k0 : v0.cell? ⟨w1.heap.size, 0, none⟩ = some (.int .i64 7) := (q0 0 (Nat.zero_lt_succ _)).1
       have zr := z1.below b0
       have br := below_trans d1 b0
       have yr : Bytes8 w v0 := Bytes8.of_below br
       have hlt : w.heap.size < w1.heap.size := by omega
       replace c1 := yr _ _ c1
       clear z1 d1 z2 d2 g0 y0 b0 c0 c0' s1 s2)
    | ((with_reducible refine wpList_here ?_); refine wpList_putO rfl 3 (.tmp 96) (.tmp 95) rfl _ 5 x1 _ rfl rfl q0 (by unfold spot; omega) (by omega) sizeInt ?_; intro v1 q1 g1 y1
       replace zr := zr.far g1 (by intro e; injection e with e; omega)
       replace br := v_below_g br g1 br.size (by omega)
       clear g1 y1 q0)
    | ((with_reducible refine wpList_here ?_); refine wpList_loadV rfl 52 (.tmp 3) rfl _ _ (Opt.vals _) rfl q1.range _ Tryd.underlying52 rfl infoOpt ?_)
    | ((with_reducible refine wpList_here ?_); refine wpList_storeV rfl 52 (.tmp 2) (.tmp 118) rfl _ _ (Opt.vals _) rfl rfl zr rfl (vals_one _) infoOpt ?_; intro wz zz gz _))
  have bz := v_below_g br gz br.size (Nat.le_refl _)
  refine bodyPost_ret (results_O rfl _ _ w.heap.size _ _ rfl zz.range Tryd.underlying52 rfl infoOpt) rfl ?_
  rw [HP.out]
  exact ⟨rfl, bz⟩

set_option maxRecDepth 8000 in
set_option maxHeartbeats 1600000 in
theorem parse_8 (A : Option Addr) (c : Nat) (bs : List UInt8) (w : World) (h : RB w A 2 c bs) (hk : (bs.getD 0 0).toNat = 8) :
    Calls Tryd.prog 45 #[.slice A 2 c] w (ParseMade w (prs (zK 8) (tab 8) (bs.drop 1))) := by
  have HP : Hid (prs (zK 8) (tab 8) (bs.drop 1) = (zK 8).put 7 (num ((bs.drop 1).take 1))) := Lib.hid (by
    show (zK 8).put 7 (num ((bs.drop 1).take 1)) = _
    simp only [List.drop_drop, Nat.reduceAdd])
  obtain ⟨b, o, rfl, _⟩ := h.2.2.2 (by omega)
  have c0 := h.cell_at (j := 0) (by omega)
  rw [hk, Nat.add_zero] at c0
  have hcap := h.cap
  have hmax := h.max
  have HLEN := Lib.hid h.len
  clear hk
  have c1 := h.cell_at (j := 1) (by omega)
  rw [← num_take_one (by rw [HLEN.out]; omega)] at c1
  have hx1 := num_few (bs.drop 1) 1
  clear h HLEN
  generalize num ((bs.drop 1).take 1) = x1 at *
  simp only [Nat.reducePow] at hx1
  go_enter Tryd.func45, Tryd.ntmps45
  go_wp2_with (first
    | ((with_reducible refine wpList_here ?_); refine wpList_allocV (o := ⟨some 2, _, _, _, _, _⟩) rfl 52 rfl (zK 0).vals zeroOpt _ rfl ?_; intro w1 z1 d1 s1; have c0' := (d1.cell (World.block_lt_of_cell? w _ c0)).trans c0)
    | ((with_reducible refine wpList_here ?_); refine wpList_allocV (o := ⟨some 3, _, _, _, _, _⟩) rfl 52 rfl (zK 0).vals zeroOpt _ rfl ?_; intro w2 z2 d2 s2)
    | ((with_reducible refine wpList_here ?_); refine wpList_storeO rfl 52 (.tmp 3) (.tmp 8) rfl _ (zK 0) (zK 8) rfl rfl z2 infoOpt ?_; intro v0 q0 g0 y0
       have b0 := v_below_g d2 g0 d2.size (Nat.le_refl _)
       have k0 : v0.cell? ⟨w1.heap.size, 0, none⟩ = some (.int .i64 8) := (q0 0 (Nat.zero_lt_succ _)).1
       have zr := z1.below b0
       have br := below_trans d1 b0
       have yr : Bytes8 w v0 := Bytes8.of_below br
       have hlt : w.heap.size < w1.heap.size := by omega
       replace c1 := yr _ _ c1
       clear z1 d1 z2 d2 g0 y0 b0 c0 c0' s1 s2)
    | ((with_reducible refine wpList_here ?_); refine wpList_putO rfl 4 (.tmp 103) (.tmp 102) rfl _ 7 x1 _ rfl rfl q0 (by unfold spot; omega) (by omega) sizeBool ?_; intro v1 q1 g1 y1
       replace zr := zr.far g1 (by intro e; injection e with e; omega)
       replace br := v_below_g br g1 br.size (by omega)
       clear g1 y1 q0)
    | ((with_reducible refine wpList_here ?_); refine wpList_loadV rfl 52 (.tmp 3) rfl _ _ (Opt.vals _) rfl q1.range _ Tryd.underlying52 rfl infoOpt ?_)
    | ((with_reducible refine wpList_here ?_); refine wpList_storeV rfl 52 (.tmp 2) (.tmp 118) rfl _ _ (Opt.vals _) rfl rfl zr rfl (vals_one _) infoOpt ?_; intro wz zz gz _))
  have bz := v_below_g br gz br.size (Nat.le_refl _)
  refine bodyPost_ret (results_O rfl _ _ w.heap.size _ _ rfl zz.range Tryd.underlying52 rfl infoOpt) rfl ?_
  rw [HP.out]
  exact ⟨rfl, bz⟩

set_option maxRecDepth 8000 in
set_option maxHeartbeats 1600000 in
theorem parse_9 (A : Option Addr) (c : Nat) (bs : List UInt8) (w : World) (h : RB w A 5 c bs) (hk : (bs.getD 0 0).toNat = 9) :
    Calls Tryd.prog 45 #[.slice A 5 c] w (ParseMade w (prs (zK 9) (tab 9) (bs.drop 1))) := by
  have HP : Hid (prs (zK 9) (tab 9) (bs.drop 1) = (zK 9).put 11 (num ((bs.drop 1).take 4))) := Lib.hid (by
    show (zK 9).put 11 (num ((bs.drop 1).take 4)) = _
    simp only [List.drop_drop, Nat.reduceAdd])
  obtain ⟨b, o, rfl, _⟩ := h.2.2.2 (by omega)
  have c0 := h.cell_at (j := 0) (by omega)
  rw [hk, Nat.add_zero] at c0
  have hcap := h.cap
  have hmax := h.max
  have HLEN := Lib.hid h.len
  clear hk
  obtain ⟨A1, run1, r1⟩ := h.tail_ 1 1 rfl (by omega)
  rw [show bs.drop 1 = (bs.drop 1).take 4 from (List.take_of_length_le (by rw [List.length_drop, HLEN.out]; omega)).symm] at r1
  have hx1 := num_few (bs.drop 1) 4
  have HN1 := Lib.hid (fun W (hW : RB W A1 4 (c - 1) ((bs.drop 1).take 4)) => Number_any A1 _ _ _ W hW (by omega))
  simp only [Nat.reduceSub] at run1 r1
  clear h HLEN
  generalize (bs.drop 1).take 4 = l1 at *
  generalize num l1 = x1 at *
  simp only [Nat.reducePow] at hx1
  go_enter Tryd.func45, Tryd.ntmps45
  go_wp2_with (first
    | ((with_reducible refine wpList_here ?_); refine wpList_allocV (o := ⟨some 2, _, _, _, _, _⟩) rfl 52 rfl (zK 0).vals zeroOpt _ rfl ?_; intro w1 z1 d1 s1; have c0' := (d1.cell (World.block_lt_of_cell? w _ c0)).trans c0)
    | ((with_reducible refine wpList_here ?_); refine wpList_allocV (o := ⟨some 3, _, _, _, _, _⟩) rfl 52 rfl (zK 0).vals zeroOpt _ rfl ?_; intro w2 z2 d2 s2)
    | ((with_reducible refine wpList_here ?_); refine wpList_storeO rfl 52 (.tmp 3) (.tmp 8) rfl _ (zK 0) (zK 9) rfl rfl z2 infoOpt ?_; intro v0 q0 g0 y0
       have b0 := v_below_g d2 g0 d2.size (Nat.le_refl _)
       have k0 : v0.cell? ⟨w1.heap.size, 0, none⟩ = some (.int .i64 9) := (q0 0 (Nat.zero_lt_succ _)).1
       have zr := z1.below b0
       have br := below_trans d1 b0
       have yr : Bytes8 w v0 := Bytes8.of_below br
       have hlt : w.heap.size < w1.heap.size := by omega
       replace r1 := r1.bytes yr
       clear z1 d1 z2 d2 g0 y0 b0 c0 c0' s1 s2)
    | (go_at_call 61; ((with_reducible refine (HN1.out _ r1).mono ?_); rintro e w' ⟨rfl, rfl⟩))
    | ((with_reducible refine wpList_here ?_); refine wpList_putO rfl 3 (.tmp 110) (.tmp 109) rfl _ 11 x1 _ rfl rfl q0 (by unfold spot; omega) (by omega) sizeInt ?_; intro v1 q1 g1 y1
       replace zr := zr.far g1 (by intro e; injection e with e; omega)
       replace br := v_below_g br g1 br.size (by omega)
       clear g1 y1 q0)
    | ((with_reducible refine wpList_here ?_); refine wpList_loadV rfl 52 (.tmp 3) rfl _ _ (Opt.vals _) rfl q1.range _ Tryd.underlying52 rfl infoOpt ?_)
    | ((with_reducible refine wpList_here ?_); refine wpList_storeV rfl 52 (.tmp 2) (.tmp 118) rfl _ _ (Opt.vals _) rfl rfl zr rfl (vals_one _) infoOpt ?_; intro wz zz gz _))
  have bz := v_below_g br gz br.size (Nat.le_refl _)
  refine bodyPost_ret (results_O rfl _ _ w.heap.size _ _ rfl zz.range Tryd.underlying52 rfl infoOpt) rfl ?_
  rw [HP.out]
  exact ⟨rfl, bz⟩

set_option maxRecDepth 8000 in
set_option maxHeartbeats 1600000 in
theorem parse_10 (A : Option Addr) (c : Nat) (bs : List UInt8) (w : World) (h : RB w A 9 c bs) (hk : (bs.getD 0 0).toNat = 10) :
    Calls Tryd.prog 45 #[.slice A 9 c] w (ParseMade w (prs (zK 10) (tab 10) (bs.drop 1))) := by
  have HP : Hid (prs (zK 10) (tab 10) (bs.drop 1) = (zK 10).put 1 (num ((bs.drop 1).take 8))) := Lib.hid (by
    show (zK 10).put 1 (num ((bs.drop 1).take 8)) = _
    simp only [List.drop_drop, Nat.reduceAdd])
  obtain ⟨b, o, rfl, _⟩ := h.2.2.2 (by omega)
  have c0 := h.cell_at (j := 0) (by omega)
  rw [hk, Nat.add_zero] at c0
  have hcap := h.cap
  have hmax := h.max
  have HLEN := Lib.hid h.len
  clear hk
  obtain ⟨A1, run1, r1⟩ := h.tail_ 1 1 rfl (by omega)
  rw [show bs.drop 1 = (bs.drop 1).take 8 from (List.take_of_length_le (by rw [List.length_drop, HLEN.out]; omega)).symm] at r1
  have hx1 := num_few (bs.drop 1) 8
  have HN1 := Lib.hid (fun W (hW : RB W A1 8 (c - 1) ((bs.drop 1).take 8)) => Number_any A1 _ _ _ W hW (by omega))
  simp only [Nat.reduceSub] at run1 r1
  clear h HLEN
  generalize (bs.drop 1).take 8 = l1 at *
  generalize num l1 = x1 at *
  simp only [Nat.reducePow] at hx1
  go_enter Tryd.func45, Tryd.ntmps45
  go_wp2_with (first
    | ((with_reducible refine wpList_here ?_); refine wpList_allocV (o := ⟨some 2, _, _, _, _, _⟩) rfl 52 rfl (zK 0).vals zeroOpt _ rfl ?_; intro w1 z1 d1 s1; have c0' := (d1.cell (World.block_lt_of_cell? w _ c0)).trans c0)
    | ((with_reducible refine wpList_here ?_); refine wpList_allocV (o := ⟨some 3, _, _, _, _, _⟩) rfl 52 rfl (zK 0).vals zeroOpt _ rfl ?_; intro w2 z2 d2 s2)
    | ((with_reducible refine wpList_here ?_); refine wpList_storeO rfl 52 (.tmp 3) (.tmp 8) rfl _ (zK 0) (zK 10) rfl rfl z2 infoOpt ?_; intro v0 q0 g0 y0
       have b0 := v_below_g d2 g0 d2.size (Nat.le_refl _)
       have k0 : v0.cell? ⟨w1.heap.size, 0, none⟩ = some (.int .i64 10) := (q0 0 (Nat.zero_lt_succ _)).1
       have zr := z1.below b0
       have br := below_trans d1 b0
       have yr : Bytes8 w v0 := Bytes8.of_below br
       have hlt : w.heap.size < w1.heap.size := by omega
       replace r1 := r1.bytes yr
       clear z1 d1 z2 d2 g0 y0 b0 c0 c0' s1 s2)
    | (go_at_call 61; ((with_reducible refine (HN1.out _ r1).mono ?_); rintro e w' ⟨rfl, rfl⟩))
    | ((with_reducible refine wpList_here ?_); refine wpList_putO rfl 44 (.tmp 17) (.tmp 16) rfl _ 1 x1 _ rfl rfl q0 (by unfold spot; omega) (by omega) sizeU64 ?_; intro v1 q1 g1 y1
       replace zr := zr.far g1 (by intro e; injection e with e; omega)
       replace br := v_below_g br g1 br.size (by omega)
       clear g1 y1 q0)
    | ((with_reducible refine wpList_here ?_); refine wpList_loadV rfl 52 (.tmp 3) rfl _ _ (Opt.vals _) rfl q1.range _ Tryd.underlying52 rfl infoOpt ?_)
    | ((with_reducible refine wpList_here ?_); refine wpList_storeV rfl 52 (.tmp 2) (.tmp 118) rfl _ _ (Opt.vals _) rfl rfl zr rfl (vals_one _) infoOpt ?_; intro wz zz gz _))
  have bz := v_below_g br gz br.size (Nat.le_refl _)
  refine bodyPost_ret (results_O rfl _ _ w.heap.size _ _ rfl zz.range Tryd.underlying52 rfl infoOpt) rfl ?_
  rw [HP.out]
  exact ⟨rfl, bz⟩

set_option maxRecDepth 8000 in
set_option maxHeartbeats 1600000 in
theorem parse_11 (A : Option Addr) (c : Nat) (bs : List UInt8) (w : World) (h : RB w A 2 c bs) (hk : (bs.getD 0 0).toNat = 11) :
    Calls Tryd.prog 45 #[.slice A 2 c] w (ParseMade w (prs (zK 11) (tab 11) (bs.drop 1))) := by
  have HP : Hid (prs (zK 11) (tab 11) (bs.drop 1) = (zK 11).put 6 (num ((bs.drop 1).take 1))) := Lib.hid (by
    show (zK 11).put 6 (num ((bs.drop 1).take 1)) = _
    simp only [List.drop_drop, Nat.reduceAdd])
  obtain ⟨b, o, rfl, _⟩ := h.2.2.2 (by omega)
  have c0 := h.cell_at (j := 0) (by omega)
  rw [hk, Nat.add_zero] at c0
  have hcap := h.cap
  have hmax := h.max
  have HLEN := Lib.hid h.len
  clear hk
  have c1 := h.cell_at (j := 1) (by omega)
  rw [← num_take_one (by rw [HLEN.out]; omega)] at c1
  have hx1 := num_few (bs.drop 1) 1
  clear h HLEN
  generalize num ((bs.drop 1).take 1) = x1 at *
  simp only [Nat.reducePow] at hx1
  go_enter Tryd.func45, Tryd.ntmps45
  go_wp2_with (first
    | ((with_reducible refine wpList_here ?_); refine wpList_allocV (o := ⟨some 2, _, _, _, _, _⟩) rfl 52 rfl (zK 0).vals zeroOpt _ rfl ?_; intro w1 z1 d1 s1; have c0' := (d1.cell (World.block_lt_of_cell? w _ c0)).trans c0)
    | ((with_reducible refine wpList_here ?_); refine wpList_allocV (o := ⟨some 3, _, _, _, _, _⟩) rfl 52 rfl (zK 0).vals zeroOpt _ rfl ?_; intro w2 z2 d2 s2)
    | ((with_reducible refine wpList_here ?_); refine wpList_storeO rfl 52 (.tmp 3) (.tmp 8) rfl _ (zK 0) (zK 11) rfl rfl z2 infoOpt ?_; intro v0 q0 g0 y0
       have b0 := v_below_g d2 g0 d2.size (Nat.le_refl _)
       have k0 : v0.cell? ⟨w1.heap.size, 0, none⟩ = some (.int .i64 11) := (q0 0 (Nat.zero_lt_succ _)).1
       have zr := z1.below b0
       have br := below_trans d1 b0
       have yr : Bytes8 w v0 := Bytes8.of_below br
       have hlt : w.heap.size < w1.heap.size := by omega
       replace c1 := yr _ _ c1
       clear z1 d1 z2 d2 g0 y0 b0 c0 c0' s1 s2)
    | ((with_reducible refine wpList_here ?_); refine wpList_putO rfl 3 (.tmp 117) (.tmp 116) rfl _ 6 x1 _ rfl rfl q0 (by unfold spot; omega) (by omega) sizeInt ?_; intro v1 q1 g1 y1
       replace zr := zr.far g1 (by intro e; injection e with e; omega)
       replace br := v_below_g br g1 br.size (by omega)
       clear g1 y1 q0)
    | ((with_reducible refine wpList_here ?_); refine wpList_loadV rfl 52 (.tmp 3) rfl _ _ (Opt.vals _) rfl q1.range _ Tryd.underlying52 rfl infoOpt ?_)
    | ((with_reducible refine wpList_here ?_); refine wpList_storeV rfl 52 (.tmp 2) (.tmp 118) rfl _ _ (Opt.vals _) rfl rfl zr rfl (vals_one _) infoOpt ?_; intro wz zz gz _))
  have bz := v_below_g br gz br.size (Nat.le_refl _)
  refine bodyPost_ret (results_O rfl _ _ w.heap.size _ _ rfl zz.range Tryd.underlying52 rfl infoOpt) rfl ?_
  rw [HP.out]
  exact ⟨rfl, bz⟩
end Go.Proofs.YtbbpemndkphgeaaDoor
