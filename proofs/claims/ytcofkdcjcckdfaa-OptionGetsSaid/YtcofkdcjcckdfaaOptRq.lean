/- The contract of the document's own way to read any option. Condition: the slice holds bytes, at most 2^30 of them. -/
import Derived.Test.YtcofkdcjcckdfaaOptRg
namespace Go.Proofs.Ytcofkdcjcckdfaa
set_option linter.unusedVariables false
set_option linter.unusedSimpArgs false
open Go.RowKit

set_option maxRecDepth 8000 in
set_option maxHeartbeats 600000 in
theorem rGet_none (A : Option Addr) (c : Nat) (w : World) : Calls Try.prog 15 #[.slice A 0 c] w (RGetMade w (zK 0, [], 3)) := by
  go_enter Try.func15, Try.ntmps15
  go_wp2_with (first
    | ((with_reducible refine wpList_here ?_); refine wpList_allocV (o := ⟨some 2, _, _, _, _, _⟩) rfl 39 rfl (gv (zK 0) (.slice none 0 0) 0) zeroGot _ rfl ?_; intro w1 z1 b1 s1)
    | ((with_reducible refine wpList_here ?_); refine wpList_storeV rfl 39 (.tmp 2) (.tmp 8) rfl _ _ (gv (zK 0) (.slice none 0 0) 3) rfl rfl z1 rfl (gv_one _ _ _ _ _) infoGot ?_; intro w2 zf gf sf))
  have bf := v_below_g b1 gf b1.size (Nat.le_refl _)
  refine bodyPost_ret (results_O rfl _ _ w.heap.size _ _ rfl zf.range Try.underlying39 rfl infoGot) rfl ?_
  exact rgetMade_err rfl bf

set_option maxRecDepth 8000 in
set_option maxHeartbeats 600000 in
theorem rGet_kind (A : Option Addr) (n c : Nat) (x : UInt8) (l : List UInt8) (w : World) (h : RB w A (n + 1) c (x :: l)) (hs : sz (x.toNat : Int) = 0) : Calls Try.prog 15 #[.slice A (n + 1) c] w (RGetMade w (zK 0, [], 4)) := by
  obtain ⟨b, o, rfl, _⟩ := h.2.2.2 (by omega)
  have c0 := h.cell_at (j := 0) (by omega)
  rw [show (x :: l).getD 0 0 = x from rfl, Nat.add_zero] at c0
  have hcap := h.cap
  have hmax := h.max
  have hx := x.toNat_lt
  have HS := Lib.hid (Size_any (x.toNat : Int))
  rw [hs] at HS
  clear hs
  go_enter Try.func15, Try.ntmps15
  go_wp2_with (first
    | ((with_reducible refine wpList_here ?_); refine wpList_allocV (o := ⟨some 2, _, _, _, _, _⟩) rfl 39 rfl (gv (zK 0) (.slice none 0 0) 0) zeroGot _ rfl ?_; intro w1 z1 b1 s1; have c1 : w1.cell? ⟨b, o, none⟩ = some (.int .u8 (x.toNat : Int)) := (b1.cell (World.block_lt_of_cell? w _ c0)).trans c0))
  refine (HS.out _).mono ?_
  rintro e w2 ⟨rfl, b2⟩
  have z2 := z1.below b2
  have b3 := below_trans b1 b2
  clear z1 b1 b2 s1 c0 c1
  go_wp2_with (first
    | ((with_reducible refine wpList_here ?_); refine wpList_storeV rfl 39 (.tmp 2) (.tmp 16) rfl _ _ (gv (zK 0) (.slice none 0 0) 4) rfl rfl z2 rfl (gv_one _ _ _ _ _) infoGot ?_; intro w3 zf gf sf))
  have bf := v_below_g b3 gf b3.size (Nat.le_refl _)
  refine bodyPost_ret (results_O rfl _ _ w.heap.size _ _ rfl zf.range Try.underlying39 rfl infoGot) rfl ?_
  exact rgetMade_err rfl bf

set_option maxRecDepth 8000 in
set_option maxHeartbeats 600000 in
theorem rGet_short (A : Option Addr) (n c : Nat) (x : UInt8) (l : List UInt8) (w : World) (h : RB w A (n + 1) c (x :: l)) (hs : sz (x.toNat : Int) ≠ 0) (hl : n + 1 < sz (x.toNat : Int)) : Calls Try.prog 15 #[.slice A (n + 1) c] w (RGetMade w (zK 0, [], 3)) := by
  obtain ⟨b, o, rfl, _⟩ := h.2.2.2 (by omega)
  have c0 := h.cell_at (j := 0) (by omega)
  rw [show (x :: l).getD 0 0 = x from rfl, Nat.add_zero] at c0
  have hcap := h.cap
  have hmax := h.max
  have hx := x.toNat_lt
  have HS := Lib.hid (Size_any (x.toNat : Int))
  generalize sz (x.toNat : Int) = s at *
  have hs1 : ((s : Int) == 0) = false := by rw [beq_eq_false_iff_ne]; omega
  clear hs
  go_enter Try.func15, Try.ntmps15
  go_wp2_with (first
    | ((with_reducible refine wpList_here ?_); refine wpList_allocV (o := ⟨some 2, _, _, _, _, _⟩) rfl 39 rfl (gv (zK 0) (.slice none 0 0) 0) zeroGot _ rfl ?_; intro w1 z1 b1 s1; have c1 : w1.cell? ⟨b, o, none⟩ = some (.int .u8 (x.toNat : Int)) := (b1.cell (World.block_lt_of_cell? w _ c0)).trans c0))
  refine (HS.out _).mono ?_
  rintro e w2 ⟨rfl, b2⟩
  have z2 := z1.below b2
  have b3 := below_trans b1 b2
  clear z1 b1 b2 s1 c0 c1
  go_wp2_with (first
    | ((with_reducible refine wpList_here ?_); refine wpList_storeV rfl 39 (.tmp 2) (.tmp 21) rfl _ _ (gv (zK 0) (.slice none 0 0) 3) rfl rfl z2 rfl (gv_one _ _ _ _ _) infoGot ?_; intro w3 zf gf sf))
  have bf := v_below_g b3 gf b3.size (Nat.le_refl _)
  refine bodyPost_ret (results_O rfl _ _ w.heap.size _ _ rfl zf.range Try.underlying39 rfl infoGot) rfl ?_
  exact rgetMade_err rfl bf

theorem exec_build {op : Oper} {a : Act} {W : World} (x y z : Operand) (ho : op.op = .build 39 #[(0, x), (1, y), (2, z)]) (P : Opt) (A : Option Addr) (n c : Nat) (hx : a.eval x = .agg P.vals.toArray) (hy : a.eval y = .slice A n c) (hz : a.eval z = .int .i64 0) :
    (execOp a.eval op).run Try.prog W = .ok (.value (.agg (gv P (.slice A n c) 0).toArray)) W := by
  simp [execOp, ho, hx, hy, hz, build_got]
/-- What is answered of an option that is all there. -/
def rres (P : Opt) (f q : List UInt8) : Opt × List UInt8 × Int := if rrightB P && (ob P == f) then (P, q, 0) else (zK 0, [], 4)
/-- What stands while the document's way reads an option that is all there. -/
structure Sst (w0 w : World) (A : Option Addr) (n c : Nat) (P : Opt) (bs : List UInt8) (g0 g : Nat) : Prop where
  opt : Own w g P.vals
  bytes : RB w A n c bs
  zero : Own w g0 (gv (zK 0) (.slice none 0 0) 0)
  below : Below w0.heap.size w0 w
theorem Sst.keep {w0 w w' : World} {A : Option Addr} {n c g0 g : Nat} {P : Opt} {bs : List UInt8} (h : Sst w0 w A n c P bs g0 g) (hb : Below w.heap.size w w') : Sst w0 w' A n c P bs g0 g :=
  ⟨h.opt.below hb, h.bytes.below hb, h.zero.below hb, below_trans h.below hb⟩

set_option maxRecDepth 8000 in
set_option maxHeartbeats 600000 in
theorem rGet_long (A : Option Addr) (n c : Nat) (x : UInt8) (l : List UInt8) (w : World) (h : RB w A (n + 1) c (x :: l)) (hn : n ≤ 1073741824) (hs : sz (x.toNat : Int) ≠ 0) (hl : ¬ n + 1 < sz (x.toNat : Int)) (P : Opt) (hP : P = prs (zK (x.toNat : Int)) (tab (x.toNat : Int)) (((x :: l).take (sz (x.toNat : Int))).drop 1)) :
    Calls Try.prog 15 #[.slice A (n + 1) c] w (RGetMade w (rres P ((x :: l).take (sz (x.toNat : Int))) ((x :: l).drop (sz (x.toNat : Int))))) := by
  have hr := sz_range hs
  have hx' := x.toNat_lt
  have hok : P.ok := by
    rw [hP]
    exact prs_ok _ _ _ (zK_ok (by unfold isInt; omega)) (fine_tab _).1
  have HPA : Hid (∀ A' c' W, RB W A' (sz (x.toNat : Int)) c' ((x :: l).take (sz (x.toNat : Int))) → Calls Try.prog 25 #[.slice A' (sz (x.toNat : Int)) c'] W (ParseMade W P)) := Lib.hid (fun A' c' W hW => by
    rw [hP]
    refine parse_any x.toNat (by omega) (by omega) A' c' _ W hW ?_
    rw [List.getD_eq_getElem?_getD, List.getElem?_take_of_lt (by omega)]
    rfl)
  have HRR := Lib.hid (fun W => rRight_any P W hok)
  have HBY := Lib.hid (fun W => rbytes_any P W hok)
  obtain ⟨b, o, rfl, _⟩ := h.2.2.2 (by omega)
  have c0 := h.cell_at (j := 0) (by omega)
  rw [show (x :: l).getD 0 0 = x from rfl, Nat.add_zero] at c0
  have hcap := h.cap
  have hmax := h.max
  have hx := x.toNat_lt
  have HS := Lib.hid (Size_any (x.toNat : Int))
  obtain ⟨hrun, hr6⟩ := h.head_ (sz (x.toNat : Int)) (by omega)
  obtain ⟨A9, hrun2, hr9⟩ := h.tail_ (sz (x.toNat : Int)) (sz (x.toNat : Int) : Nat) rfl (by omega)
  have hlen9 := hr9.len
  generalize hcut : (x :: l).take (sz (x.toNat : Int)) = f at *
  generalize hrest : (x :: l).drop (sz (x.toNat : Int)) = q at *
  generalize sz (x.toNat : Int) = s at *
  have hs1 : ((s : Int) == 0) = false := by rw [beq_eq_false_iff_ne]; omega
  have hl2 : ¬ ((n + 1 : Nat) : Int) < (s : Int) := by omega
  have hl3 : decide (((n + 1 : Nat) : Int) < (s : Int)) = false := decide_eq_false hl2
  have HQ := Lib.hid hlen9
  clear hs hcut hrest hP hlen9
  go_enter Try.func15, Try.ntmps15
  go_wp2_with (first
    | ((with_reducible refine wpList_here ?_); refine wpList_allocV (o := ⟨some 2, _, _, _, _, _⟩) rfl 39 rfl (gv (zK 0) (.slice none 0 0) 0) zeroGot _ rfl ?_; intro w1 z1 b1 s1; have c1 : w1.cell? ⟨b, o, none⟩ = some (.int .u8 (x.toNat : Int)) := (b1.cell (World.block_lt_of_cell? w _ c0)).trans c0))
  refine (HS.out _).mono ?_
  rintro e w2 ⟨rfl, b2⟩
  have z2 := z1.below b2
  have b3 := below_trans b1 b2
  have r2 := h.below b3
  have q2 := hr6.below b3
  have q9 := hr9.below b3
  clear z1 b1 b2 s1 c0 c1 h hr6 hr9
  go_wp2_with fail
  refine (HPA.out _ _ _ q2).mono ?_
  rintro e w3 ⟨rfl, b4⟩
  have z3 := z2.below b4
  have b5 := below_trans b3 b4
  have q3 := q2.below b4
  have q93 := q9.below b4
  clear z2 b4 b3 r2 q2 q9
  go_wp2_with (first
    | ((with_reducible refine wpList_here ?_); refine wpList_allocV (o := ⟨some 4, _, _, _, _, _⟩) rfl 31 rfl (zK 0).vals zeroOpt _ rfl ?_; intro w4 y4 d4 s4)
    | ((with_reducible refine wpList_here ?_); refine wpList_storeV rfl 31 (.tmp 4) (.tmp 25) rfl _ _ P.vals rfl rfl y4 rfl (vals_one P) infoOpt ?_; intro w5 y5 g5 s5))
  have d5 := v_below_g d4 g5 d4.size (Nat.le_refl _)
  have hltg : w.heap.size < w3.heap.size := z3.lt (Nat.zero_lt_succ _)
  have z5 := z3.below d5
  have q5 := q3.below d5
  have q95 := q93.below d5
  have b6 := below_trans b5 d5
  clear y4 d4 g5 s4 s5 d5 z3 q3 q93 b5
  have s5 : Sst w w5 A9 (n + 1 - s) (c - s) P q w.heap.size w3.heap.size := ⟨y5, q95, z5, b6⟩
  clear y5 q95 z5 b6
  go_wp2_with fail
  have s0 : Sst w w5.drew A9 (n + 1 - s) (c - s) P q w.heap.size w3.heap.size := s5.keep (Below.refl _ _).drew
  have qd : RB w5.drew (some ⟨b, o, none⟩) s c f := q5.below (Below.refl _ _).drew
  refine wp_region_noPanic ?_
  refine wp_region_held_drew (S := fun W => Sst w W A9 (n + 1 - s) (c - s) P q w.heap.size w3.heap.size ∧ RB W (some ⟨b, o, none⟩) s c f) (by kernel_rfl) ⟨s0, qd⟩ (fun _ => ?_)
  refine held_take (i := 0) (v := .agg P.vals.toArray) (some 26) rfl rfl (by kernel_rfl) (by kernel_rfl) (by kernel_rfl) (fun _ _ _ h => h) (yieldsIf_load_mid (by rfl) 31 (.tmp 4) rfl w3.heap.size 0 rfl P.vals _ (fun W hW => hW.1.opt.range) Try.underlying31 rfl infoOpt) ⟨s0, qd⟩ ?_
  simp only [Act.put, List.setIfInBounds_toArray, List.set_cons_zero, List.set_cons_succ]
  refine wpAnyH_ready (rs := [1]) (by kernel_rfl) (by simp) ?_
  refine AllReadyH.cons rfl (fun K hK => ?_) AllReadyH.nil
  go_simp
  refine (HRR.out _).mono ?_
  rintro e w6 ⟨rfl, b7⟩
  have s6 := s0.keep b7
  have q6 := qd.below b7
  dsimp only
  refine hK.out _ _ ⟨s6, q6⟩ (fun _ => ?_)
  clear hK s0 qd b7
  cases hrr : rrightB P with
  | false =>
    have HF : Hid (rres P f q = (zK 0, [], 4)) := Lib.hid (by unfold rres; rw [hrr, Bool.false_and, if_neg Bool.false_ne_true])
    refine held_take (i := 2) (v := (.bool true)) (some 28) rfl rfl (by kernel_rfl) (by kernel_rfl) (by kernel_rfl) (fun _ _ _ h => h) (Or.inl ⟨by rfl, fun W _ => by go_simp⟩) ⟨s6, q6⟩ ?_
    simp only [Act.put, List.setIfInBounds_toArray, List.set_cons_zero, List.set_cons_succ]
    refine held_take (i := 3) (v := (.bool true)) (some 29) rfl rfl (by kernel_rfl) (by kernel_rfl) (by kernel_rfl) (fun _ _ _ h => h) (Or.inl ⟨by rfl, fun W _ => by go_simp⟩) ⟨s6, q6⟩ ?_
    simp only [Act.put, List.setIfInBounds_toArray, List.set_cons_zero, List.set_cons_succ]
    refine held_take (i := 4) (v := undef) (some 30) rfl rfl (by kernel_rfl) (by kernel_rfl) (by kernel_rfl) (fun _ _ _ h => h) (Or.inr ⟨by rfl, rfl⟩) ⟨s6, q6⟩ ?_
    simp only [Act.put, List.setIfInBounds_toArray, List.set_cons_zero, List.set_cons_succ]
    refine held_take (i := 6) (v := undef) (some 32) rfl rfl (by kernel_rfl) (by kernel_rfl) (by kernel_rfl) (fun _ _ _ h => h) (Or.inr ⟨by rfl, rfl⟩) ⟨s6, q6⟩ ?_
    simp only [Act.put, List.setIfInBounds_toArray, List.set_cons_zero, List.set_cons_succ]
    refine held_take (i := 7) (v := undef) (some 33) rfl rfl (by kernel_rfl) (by kernel_rfl) (by kernel_rfl) (fun _ _ _ h => h) (Or.inr ⟨by rfl, rfl⟩) ⟨s6, q6⟩ ?_
    simp only [Act.put, List.setIfInBounds_toArray, List.set_cons_zero, List.set_cons_succ]
    refine held_take (i := 5) (v := undef) (some 31) rfl rfl (by kernel_rfl) (by kernel_rfl) (by kernel_rfl) (fun _ _ _ h => h) (Or.inr ⟨by rfl, rfl⟩) ⟨s6, q6⟩ ?_
    simp only [Act.put, List.setIfInBounds_toArray, List.set_cons_zero, List.set_cons_succ]
    refine held_take (i := 8) (v := undef) (some 34) rfl rfl (by kernel_rfl) (by kernel_rfl) (by kernel_rfl) (fun _ _ _ h => h) (Or.inr ⟨by rfl, rfl⟩) ⟨s6, q6⟩ ?_
    simp only [Act.put, List.setIfInBounds_toArray, List.set_cons_zero, List.set_cons_succ]
    refine held_take (i := 9) (v := undef) (some 35) rfl rfl (by kernel_rfl) (by kernel_rfl) (by kernel_rfl) (fun _ _ _ h => h) (Or.inr ⟨by rfl, rfl⟩) ⟨s6, q6⟩ ?_
    simp only [Act.put, List.setIfInBounds_toArray, List.set_cons_zero, List.set_cons_succ]
    refine held_take (i := 10) (v := undef) (some 36) rfl rfl (by kernel_rfl) (by kernel_rfl) (by kernel_rfl) (fun _ _ _ h => h) (Or.inr ⟨by rfl, rfl⟩) ⟨s6, q6⟩ ?_
    simp only [Act.put, List.setIfInBounds_toArray, List.set_cons_zero, List.set_cons_succ]
    refine held_take (i := 11) (v := (.bool true)) (some 37) rfl rfl (by kernel_rfl) (by kernel_rfl) (by kernel_rfl) (fun _ _ _ h => h) (Or.inl ⟨by rfl, fun W _ => by go_simp⟩) ⟨s6, q6⟩ ?_
    simp only [Act.put, List.setIfInBounds_toArray, List.set_cons_zero, List.set_cons_succ]
    refine wpAnyH_done (by kernel_rfl) ?_ _
    refine NoPanic.normal ?_
    have z9 := s6.zero
    have b9 := s6.below
    clear s6 q6
    go_wp2_with (first
      | ((with_reducible refine wpList_here ?_); refine wpList_storeV rfl 39 (.tmp 2) (.tmp 38) rfl _ _ (gv (zK 0) (.slice none 0 0) 4) rfl rfl z9 rfl (gv_one _ _ _ _ _) infoGot ?_; intro w7 zf gf sf))
    have bf := v_below_g b9 gf b9.size (Nat.le_refl _)
    refine bodyPost_ret (results_O rfl _ _ w.heap.size _ _ rfl zf.range Try.underlying39 rfl infoGot) rfl ?_
    rw [HF.out]
    exact rgetMade_err rfl bf
  | true =>
    refine held_take (i := 2) (v := (.bool false)) (some 28) rfl rfl (by kernel_rfl) (by kernel_rfl) (by kernel_rfl) (fun _ _ _ h => h) (Or.inl ⟨by rfl, fun W _ => by go_simp⟩) ⟨s6, q6⟩ ?_
    simp only [Act.put, List.setIfInBounds_toArray, List.set_cons_zero, List.set_cons_succ]
    refine held_take (i := 3) (v := (.bool false)) (some 29) rfl rfl (by kernel_rfl) (by kernel_rfl) (by kernel_rfl) (fun _ _ _ h => h) (Or.inl ⟨by rfl, fun W _ => by go_simp⟩) ⟨s6, q6⟩ ?_
    simp only [Act.put, List.setIfInBounds_toArray, List.set_cons_zero, List.set_cons_succ]
    refine held_take (i := 4) (v := .agg P.vals.toArray) (some 30) rfl rfl (by kernel_rfl) (by kernel_rfl) (by kernel_rfl) (fun _ _ _ h => h) (yieldsIf_load_mid (by rfl) 31 (.tmp 4) rfl w3.heap.size 0 rfl P.vals _ (fun W hW => hW.1.opt.range) Try.underlying31 rfl infoOpt) ⟨s6, q6⟩ ?_
    simp only [Act.put, List.setIfInBounds_toArray, List.set_cons_zero, List.set_cons_succ]
    refine held_take (i := 6) (v := (.slice (some ⟨b, o, none⟩) (n + 1) c)) (some 32) rfl rfl (by kernel_rfl) (by kernel_rfl) (by kernel_rfl) (fun _ _ _ h => h) (Or.inl ⟨by rfl, fun W _ => by go_simp⟩) ⟨s6, q6⟩ ?_
    simp only [Act.put, List.setIfInBounds_toArray, List.set_cons_zero, List.set_cons_succ]
    refine held_take (i := 7) (v := (.int .i64 (s : Int))) (some 33) rfl rfl (by kernel_rfl) (by kernel_rfl) (by kernel_rfl) (fun _ _ _ h => h) (Or.inl ⟨by rfl, fun W _ => by go_simp⟩) ⟨s6, q6⟩ ?_
    simp only [Act.put, List.setIfInBounds_toArray, List.set_cons_zero, List.set_cons_succ]
    refine held_take (i := 8) (v := (.slice (some ⟨b, o, none⟩) s c)) (some 34) rfl rfl (by kernel_rfl) (by kernel_rfl) (by kernel_rfl) (fun _ _ _ h => h) (Or.inl ⟨by rfl, fun W _ => by go_simp⟩) ⟨s6, q6⟩ ?_
    simp only [Act.put, List.setIfInBounds_toArray, List.set_cons_zero, List.set_cons_succ]
    refine wpAnyH_ready (rs := [5]) (by kernel_rfl) (by simp) ?_
    refine AllReadyH.cons rfl (fun K hK => ?_) AllReadyH.nil
    go_simp
    refine (HBY.out _).mono ?_
    rintro e w7 ⟨A7, c7, rfl, r7, _, b8⟩
    have s7 := s6.keep b8
    have q7 := q6.below b8
    dsimp only
    refine hK.out _ _ ⟨s7, q7⟩ (fun _ => ?_)
    clear hK s6 q6 b8
    refine wpAnyH_ready (rs := [9]) (by kernel_rfl) (by simp) ?_
    refine AllReadyH.cons rfl (fun K hK => ?_) AllReadyH.nil
    go_simp
    refine (Same_any A7 (some ⟨b, o, none⟩) _ c7 s c (ob P) f w7 r7 q7).mono ?_
    rintro e w8 ⟨rfl, qn, rfl⟩
    have s8 := s7.keep (below_drewN (Below.refl _ _) qn)
    have q8 := q7.below (below_drewN (Below.refl _ _) qn)
    dsimp only
    refine hK.out _ _ ⟨s8, q8⟩ (fun _ => ?_)
    clear hK s7 q7 r7
    generalize w7.drewN qn = w9 at *
    cases hsm : (ob P == f) with
    | false =>
      have HF : Hid (rres P f q = (zK 0, [], 4)) := Lib.hid (by unfold rres; rw [hsm, Bool.and_false, if_neg Bool.false_ne_true])
      refine held_take (i := 10) (v := (.bool true)) (some 36) rfl rfl (by kernel_rfl) (by kernel_rfl) (by kernel_rfl) (fun _ _ _ h => h) (Or.inl ⟨by rfl, fun W _ => by go_simp⟩) ⟨s8, q8⟩ ?_
      simp only [Act.put, List.setIfInBounds_toArray, List.set_cons_zero, List.set_cons_succ]
      refine held_take (i := 11) (v := (.bool true)) (some 37) rfl rfl (by kernel_rfl) (by kernel_rfl) (by kernel_rfl) (fun _ _ _ h => h) (Or.inl ⟨by rfl, fun W _ => by go_simp⟩) ⟨s8, q8⟩ ?_
      simp only [Act.put, List.setIfInBounds_toArray, List.set_cons_zero, List.set_cons_succ]
      refine wpAnyH_done (by kernel_rfl) ?_ _
      refine NoPanic.normal ?_
      have z9 := s8.zero
      have b9 := s8.below
      clear s8 q8
      go_wp2_with (first
        | ((with_reducible refine wpList_here ?_); refine wpList_storeV rfl 39 (.tmp 2) (.tmp 38) rfl _ _ (gv (zK 0) (.slice none 0 0) 4) rfl rfl z9 rfl (gv_one _ _ _ _ _) infoGot ?_; intro w10 zf gf sf))
      have bf := v_below_g b9 gf b9.size (Nat.le_refl _)
      refine bodyPost_ret (results_O rfl _ _ w.heap.size _ _ rfl zf.range Try.underlying39 rfl infoGot) rfl ?_
      rw [HF.out]
      exact rgetMade_err rfl bf
    | true =>
      have HF : Hid (rres P f q = (P, q, 0)) := Lib.hid (by unfold rres; rw [hrr, hsm, Bool.and_true, if_pos rfl])
      refine held_take (i := 10) (v := (.bool false)) (some 36) rfl rfl (by kernel_rfl) (by kernel_rfl) (by kernel_rfl) (fun _ _ _ h => h) (Or.inl ⟨by rfl, fun W _ => by go_simp⟩) ⟨s8, q8⟩ ?_
      simp only [Act.put, List.setIfInBounds_toArray, List.set_cons_zero, List.set_cons_succ]
      refine held_take (i := 11) (v := (.bool false)) (some 37) rfl rfl (by kernel_rfl) (by kernel_rfl) (by kernel_rfl) (fun _ _ _ h => h) (Or.inl ⟨by rfl, fun W _ => by go_simp⟩) ⟨s8, q8⟩ ?_
      simp only [Act.put, List.setIfInBounds_toArray, List.set_cons_zero, List.set_cons_succ]
      refine wpAnyH_done (by kernel_rfl) ?_ _
      refine NoPanic.normal ?_
      clear hrun q8
      go_wp2_with fail
      have s0 : Sst w w9.drew A9 (n + 1 - s) (c - s) P q w.heap.size w3.heap.size := s8.keep (Below.refl _ _).drew
      clear s8
      refine wp_region_noPanic ?_
      refine wp_region_held_drew (S := fun W => Own W w3.heap.size P.vals) (by kernel_rfl) s0.opt (fun _ => ?_)
      refine held_take (i := 0) (v := .agg P.vals.toArray) (some 39) rfl rfl (by kernel_rfl) (by kernel_rfl) (by kernel_rfl) (fun _ _ _ h => h) (yieldsIf_load_mid (by rfl) 31 (.tmp 4) rfl w3.heap.size 0 rfl P.vals _ (fun W hW => hW.range) Try.underlying31 rfl infoOpt) s0.opt ?_
      simp only [Act.put, List.setIfInBounds_toArray, List.set_cons_zero, List.set_cons_succ]
      refine held_take (i := 1) (v := (.slice (some ⟨b, o, none⟩) (n + 1) c)) (some 40) rfl rfl (by kernel_rfl) (by kernel_rfl) (by kernel_rfl) (fun _ _ _ h => h) (Or.inl ⟨by rfl, fun W _ => by go_simp⟩) s0.opt ?_
      simp only [Act.put, List.setIfInBounds_toArray, List.set_cons_zero, List.set_cons_succ]
      refine held_take (i := 2) (v := (.int .i64 (s : Int))) (some 41) rfl rfl (by kernel_rfl) (by kernel_rfl) (by kernel_rfl) (fun _ _ _ h => h) (Or.inl ⟨by rfl, fun W _ => by go_simp⟩) s0.opt ?_
      simp only [Act.put, List.setIfInBounds_toArray, List.set_cons_zero, List.set_cons_succ]
      refine held_take (i := 3) (v := (.slice A9 (n + 1 - s) (c - s))) (some 42) rfl rfl (by kernel_rfl) (by kernel_rfl) (by kernel_rfl) (fun _ _ _ h => h) (Or.inl ⟨by rfl, fun W _ => by go_simp⟩) s0.opt ?_
      simp only [Act.put, List.setIfInBounds_toArray, List.set_cons_zero, List.set_cons_succ]
      refine held_take (i := 4) (v := .agg (gv P (.slice A9 (n + 1 - s) (c - s)) 0).toArray) (some 43) rfl rfl (by kernel_rfl) (by kernel_rfl) (by kernel_rfl) (fun _ _ _ h => h) (Or.inl ⟨by rfl, fun W _ => exec_build (.tmp 39) (.tmp 42) (.const (.int .i64 0)) rfl P A9 (n + 1 - s) (c - s) rfl rfl rfl⟩) s0.opt ?_
      simp only [Act.put, List.setIfInBounds_toArray, List.set_cons_zero, List.set_cons_succ]
      refine wpAnyH_ready (rs := [5]) (by kernel_rfl) (by simp) ?_
      refine AllReadyH.cons rfl (fun K hK => ?_) AllReadyH.nil
      rw [if_pos (by rfl)]
      refine wp_store_mid 39 (.tmp 2) (.tmp 43) rfl w.heap.size 0 (gv P (.slice A9 (n + 1 - s) (c - s)) 0).toArray rfl rfl (by rw [List.size_toArray]; exact s0.zero.there) infoGot (all_oneCell_toArray (gv_one _ _ _ _ _)) ?_
      have zf := s0.zero.put (vs := gv P (.slice A9 (n + 1 - s) (c - s)) 0) rfl
      have gf := v_g_setCells w.heap.size (gv P (.slice A9 (n + 1 - s) (c - s)) 0) 0 w9.drew
      have of := s0.opt.far gf (by intro e; injection e with e; omega)
      have yf : Bytes8 w9.drew (w9.drew.setCells w.heap.size 0 (gv P (.slice A9 (n + 1 - s) (c - s)) 0)) := fun p z hp => by
        rw [World.cell?_setCells_out w.heap.size _ 0 w9.drew p ?_]
        · exact hp
        · intro h1 h2
          rw [Nat.zero_add]
          refine Or.inr (Nat.le_of_not_lt fun h3 => ?_)
          obtain ⟨pb, po, ps⟩ := p
          simp only at h1 h2 h3
          subst h1 h2
          rw [(s0.zero po h3).1] at hp
          have hm := List.mem_of_getElem? hp
          simp [gv, Opt.vals] at hm
      have rf := s0.bytes.bytes yf
      have bf := v_below_g s0.below gf s0.below.size (Nat.le_refl _)
      rw [List.toList_toArray]
      generalize w9.drew.setCells w.heap.size 0 (gv P (.slice A9 (n + 1 - s) (c - s)) 0) = wf at *
      refine hK.out _ _ of (fun _ => ?_)
      clear hK of yf gf s0
      refine wpAnyH_done (by kernel_rfl) ?_ _
      refine NoPanic.normal ?_
      go_wp2_with fail
      refine bodyPost_ret (results_O rfl _ _ w.heap.size _ _ rfl zf.range Try.underlying39 rfl infoGot) rfl ?_
      rw [HF.out]
      refine ⟨A9, c - s, ?_, ?_, bf⟩
      · show _ = Ending.returned (.agg (gv P (.slice A9 q.length (c - s)) 0).toArray)
        rw [HQ.out]
      · show RB wf A9 q.length (c - s) q
        rw [HQ.out]
        exact rf

/-- The document's own way, of any bytes. -/
theorem rGet_any (A : Option Addr) (n c : Nat) (bs : List UInt8) (w : World) (h : RB w A n c bs) (hn : n ≤ 1073741824) : Calls Try.prog 15 #[.slice A n c] w (RGetMade w (getR bs)) := by
  have hl := h.len
  cases bs with
  | nil =>
    obtain rfl : n = 0 := by simpa using hl.symm
    exact rGet_none A c w
  | cons x l =>
    obtain ⟨m, rfl⟩ : ∃ m, n = m + 1 := ⟨n - 1, by rw [List.length_cons] at hl; omega⟩
    rw [getR_ref]
    by_cases hs : sz (x.toNat : Int) = 0
    · rw [if_pos hs]
      exact rGet_kind A m c x l w h hs
    rw [if_neg hs, hl]
    by_cases hlt : m + 1 < sz (x.toNat : Int)
    · rw [if_pos hlt]
      exact rGet_short A m c x l w h hs hlt
    rw [if_neg hlt]
    exact rGet_long A m c x l w h (by omega) hs hlt _ rfl
end Go.Proofs.Ytcofkdcjcckdfaa
