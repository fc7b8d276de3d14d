/- What is not there, and what has ended, does nothing; the document's SameHeard of nothing; how a flow begins; the example. No condition. -/
import Derived.Test.YtnpkmkjenlhkiaaFlO
namespace Go.Proofs.Ytnpkmkjenlhkiaa
set_option linter.unusedVariables false
set_option linter.unusedSimpArgs false
set_option maxRecDepth 20000
open Go.RowKit Go.Lib

theorem dial_eq (i : Nat) (t : Int) : F.dial i t = ⟨Es.zero, 1, 0, 0, t, 4, t, true, i, [sK.at i], on i 1, [⟨sK.at i, 0, false, false⟩]⟩ := rfl
theorem answer_eq (i q : Nat) (t : Int) : F.answer i q t = ⟨Es.zero, 2, on q 1, 0, t, 4, t, true, i, [sK.at i], on i 1, [⟨sK.at i, on q 1, true, false⟩]⟩ := rfl

def nilp : Value := .pointer none
set_option maxHeartbeats 800000 in
theorem nState (w : World) : Calls Try.prog 13 #[nilp] w fun e w' => e = .returned (.int .i64 0) ∧ w' = w := by
  unfold nilp
  go_enter Try.func13, Try.ntmps13
  go_wp2_with fail
  go_ret
  exact ⟨rfl, rfl⟩
set_option maxHeartbeats 800000 in
theorem nAt (w : World) : Calls Try.prog 12 #[nilp] w fun e w' => e = .returned (.tuple #[.int .i64 0, .bool false]) ∧ w' = w := by
  unfold nilp
  go_enter Try.func12, Try.ntmps12
  go_wp2_with fail
  go_ret2
  exact ⟨rfl, rfl⟩
set_option maxHeartbeats 800000 in
theorem nLeft (w : World) : Calls Try.prog 14 #[nilp] w fun e w' => e = .returned (.slice none 0 0) ∧ w' = w := by
  unfold nilp
  go_enter Try.func14, Try.ntmps14
  go_wp2_with fail
  go_ret
  exact ⟨rfl, rfl⟩
set_option maxHeartbeats 800000 in
theorem nOut (w : World) : Calls Try.prog 18 #[nilp] w fun e w' => e = .returned (.slice none 0 0) ∧ w' = w := by
  unfold nilp
  go_enter Try.func18, Try.ntmps18
  go_wp2_with fail
  go_ret
  exact ⟨rfl, rfl⟩
set_option maxHeartbeats 800000 in
theorem nSend (v : Value) (d : Int) (l : Bool) (t : Int) (w : World) : Calls Try.prog 22 #[nilp, v, .int .i64 d, .bool l, .int .i64 t] w fun e w' => e = .returned (.int .i64 2) ∧ w' = w := by
  unfold nilp
  go_enter Try.func22, Try.ntmps22
  go_wp2_with fail
  go_ret
  exact ⟨rfl, rfl⟩
set_option maxHeartbeats 800000 in
theorem nClose (t : Int) (w : World) : Calls Try.prog 23 #[nilp, .int .i64 t] w fun e w' => e = .returned (.int .i64 2) ∧ w' = w := by
  unfold nilp
  go_enter Try.func23, Try.ntmps23
  go_wp2_with fail
  go_ret
  exact ⟨rfl, rfl⟩
set_option maxHeartbeats 800000 in
theorem nKill (w : World) : Calls Try.prog 17 #[nilp] w fun e w' => e = .returned (.tuple #[]) ∧ w' = w := by
  unfold nilp
  go_enter Try.func17, Try.ntmps17
  go_wp2_with fail
  refine bodyPost_ret (results_none rfl _ _ _) rfl ?_
  exact ⟨rfl, rfl⟩
set_option maxHeartbeats 800000 in
theorem nMay (w : World) : Calls Try.prog 50 #[nilp] w fun e w' => e = .returned (.int .i64 2) ∧ w' = w := by
  unfold nilp
  go_enter Try.func50, Try.ntmps50
  go_wp2_with fail
  go_ret
  exact ⟨rfl, rfl⟩
set_option maxHeartbeats 800000 in
theorem nTell (w : World) : Calls Try.prog 24 #[nilp] w fun e w' => e = .returned (.int .i64 2) ∧ w' = w := by
  have HM := Lib.hid (nMay w)
  unfold nilp at *
  go_enter Try.func24, Try.ntmps24
  go_wp2_with fail
  refine HM.out.mono ?_
  rintro e w1 ⟨rfl, rfl⟩
  go_wp2_with fail
  go_ret
  exact ⟨rfl, rfl⟩
set_option maxHeartbeats 800000 in
theorem nProbe (w : World) : Calls Try.prog 25 #[nilp] w fun e w' => e = .returned (.int .i64 2) ∧ w' = w := by
  have HM := Lib.hid (nMay w)
  unfold nilp at *
  go_enter Try.func25, Try.ntmps25
  go_wp2_with fail
  refine HM.out.mono ?_
  rintro e w1 ⟨rfl, rfl⟩
  go_wp2_with fail
  go_ret
  exact ⟨rfl, rfl⟩
set_option maxHeartbeats 800000 in
theorem nRsm (w : World) : Calls Try.prog 53 #[nilp] w fun e w' => e = .returned (.int .i64 32) ∧ w' = w := by
  unfold nilp
  go_enter Try.func53, Try.ntmps53
  go_wp2_with fail
  go_ret
  exact ⟨rfl, rfl⟩
set_option maxHeartbeats 800000 in
theorem nSmooth (w : World) : Calls Try.prog 26 #[nilp] w fun e w' => e = .returned (.int .i64 32) ∧ w' = w := by
  have HM := Lib.hid (nRsm w)
  unfold nilp at *
  go_enter Try.func26, Try.ntmps26
  go_wp2_with fail
  refine HM.out.mono ?_
  rintro e w1 ⟨rfl, rfl⟩
  go_wp2_with fail
  go_ret
  exact ⟨rfl, rfl⟩
set_option maxHeartbeats 1600000 in
theorem nExpire (t : Int) (w : World) : Calls Try.prog 21 #[nilp, .int .i64 t] w fun e w' => e = .returned (.agg hz.toArray) ∧ Below w.heap.size w w' := by
  unfold nilp
  go_enter Try.func21, Try.ntmps21
  go_wp2_with (first
    | ((with_reducible refine wpList_here ?_); refine wpList_allocV (o := ⟨some 4, _, _, _, _, _⟩) rfl 57 rfl hz zeroHd _ rfl ?_; intro w1 z1 b1 s1)
    | ((with_reducible refine wpList_here ?_); refine wpList_storeV rfl 57 (.tmp 4) (.tmp 16) rfl _ _ hz rfl rfl z1 rfl (hd_one _ _ _ _ _ rfl) infoHd ?_; intro w9 z9 g9 s9)
    | fail)
  refine bodyPost_ret (results_c0 rfl _ _ w.heap.size _ _ rfl z9.range Try.underlying57 rfl infoHd) rfl ?_
  exact ⟨rfl, v_below_g b1 g9 b1.size (Nat.le_refl _)⟩
/-- A segment's cells, whatever they hold. -/
structure Sv (vs : List Value) : Prop where
  len : vs.length = 13
  one : ∀ u ∈ vs, u.oneCell' = true
theorem sgx_sv (q ak : Nat) (syn kk fin rr : Bool) (A : Option Addr) (n c : Nat) : Sv (sgx q ak syn kk fin rr A n c) := ⟨rfl, sgx_one _ _ _ _ _ _ _ _ _⟩
theorem infoSv {vs : List Value} (h : Sv vs) : (Try.prog.info? 47).map (·.size) = some vs.length := by rw [h.len]; exact infoSg
set_option maxHeartbeats 1600000 in
theorem nHear (vs : List Value) (h : Sv vs) (t : Int) (w : World) : Calls Try.prog 20 #[nilp, .agg vs.toArray, .int .i64 t] w fun e w' => e = .returned (.agg hz.toArray) ∧ Below w.heap.size w w' := by
  unfold nilp
  go_enter Try.func20, Try.ntmps20
  go_wp2_with (first
    | ((with_reducible refine wpList_here ?_); refine wpList_boxV (o := ⟨some 4, _, _, _, _, _⟩) rfl 47 (.tmp 1) rfl vs rfl _ rfl ?_; intro w0 z0 b0 s0)
    | ((with_reducible refine wpList_here ?_); refine wpList_allocV (o := ⟨some 6, _, _, _, _, _⟩) rfl 57 rfl hz zeroHd _ s0 ?_; intro w1 z1 b1 s1)
    | ((with_reducible refine wpList_here ?_); refine wpList_storeV rfl 57 (.tmp 6) (.tmp 15) rfl _ _ hz rfl rfl z1 rfl (hd_one _ _ _ _ _ rfl) infoHd ?_; intro w9 z9 g9 s9)
    | fail)
  refine bodyPost_ret (results_c0 rfl _ _ (w.heap.size + 1) _ _ rfl z9.range Try.underlying57 rfl infoHd) rfl ?_
  exact ⟨rfl, v_below_g (below_trans b0 b1) g9 (by have := (below_trans b0 b1).size; omega) (by omega)⟩
set_option maxHeartbeats 1600000 in
theorem sameNil (w : World) : Calls Try.prog 39 #[.slice none 0 0, .slice none 0 0] w fun e w' => e = .returned (.bool true) ∧ w' = w := by
  go_enter Try.func39, Try.ntmps39
  go_wp2_with fail
  go_loopw [5] (fun i wr => i = .int .i64 0 ∧ wr = w) (fun _ _ => 0)
  case atStart => exact ⟨rfl, rfl⟩
  case round =>
    obtain ⟨rfl, rfl⟩ := hrel
    go_wp2_with fail
    go_ret
    exact ⟨rfl, rfl⟩
set_option maxHeartbeats 3200000 in
theorem sameHz (w : World) : Calls Try.prog 19 #[.agg hz.toArray, .agg hz.toArray] w fun e w' => e = .returned (.bool true) ∧ Below w.heap.size w w' := by
  have HN := Lib.hid (fun W => sameNil W)
  go_enter Try.func19, Try.ntmps19
  go_wp2_with (first
    | ((with_reducible refine wpList_here ?_); refine wpList_boxV (o := ⟨some 2, _, _, _, _, _⟩) rfl 57 (.tmp 0) rfl hz rfl _ rfl ?_; intro w0 z0 b0 s0)
    | ((with_reducible refine wpList_here ?_); refine wpList_boxV (o := ⟨some 3, _, _, _, _, _⟩) rfl 57 (.tmp 1) rfl hz rfl _ s0 ?_; intro w1 z1 b1 s1; have HB := Lib.hid (below_trans b0 b1); have z2 := z0.below b1; have a0 : w1.cell? ⟨w.heap.size, 0, none⟩ = some (.bool false) := (z2 0 (by decide)).1; have a1 : w1.cell? ⟨w.heap.size, 1, none⟩ = some (.bool false) := (z2 1 (by decide)).1; have a2 : w1.cell? ⟨w.heap.size, 2, none⟩ = some (.bool false) := (z2 2 (by decide)).1; have a3 : w1.cell? ⟨w.heap.size, 3, none⟩ = some (.bool false) := (z2 3 (by decide)).1; have a4 : w1.cell? ⟨w.heap.size, 4, none⟩ = some (.bool false) := (z2 4 (by decide)).1; have a5 : w1.cell? ⟨w.heap.size, 5, none⟩ = some (.slice none 0 0) := (z2 5 (by decide)).1; have c0 : w1.cell? ⟨w.heap.size + 1, 0, none⟩ = some (.bool false) := (z1 0 (by decide)).1; have c1 : w1.cell? ⟨w.heap.size + 1, 1, none⟩ = some (.bool false) := (z1 1 (by decide)).1; have c2 : w1.cell? ⟨w.heap.size + 1, 2, none⟩ = some (.bool false) := (z1 2 (by decide)).1; have c3 : w1.cell? ⟨w.heap.size + 1, 3, none⟩ = some (.bool false) := (z1 3 (by decide)).1; have c4 : w1.cell? ⟨w.heap.size + 1, 4, none⟩ = some (.bool false) := (z1 4 (by decide)).1; have c5 : w1.cell? ⟨w.heap.size + 1, 5, none⟩ = some (.slice none 0 0) := (z1 5 (by decide)).1; clear b0 b1 z0 z1 z2)
    | (go_at_call 39; refine (HN.out _).mono ?_; rintro e w3 ⟨rfl, rfl⟩)
    | fail)
  go_ret
  exact ⟨rfl, HB.out⟩
end Go.Proofs.Ytnpkmkjenlhkiaa
