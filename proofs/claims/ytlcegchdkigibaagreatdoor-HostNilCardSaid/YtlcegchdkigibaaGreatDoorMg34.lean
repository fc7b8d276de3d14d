/- A host that isn't there: what its calls answer. No condition.
The law HostNil. Condition: the table of digests is as the program lays it. -/
import Derived.Test.YtlcegchdkigibaaGreatDoorMg33
import Derived.Test.YtlcegchdkigibaaGreatDoorMg4
namespace Go.Proofs.YtlcegchdkigibaaGreatDoor
set_option linter.unusedVariables false
set_option linter.unusedSimpArgs false
set_option maxRecDepth 20000
open Go.RowKit Go.Lib

def hnil : Value := .pointer none
set_option maxHeartbeats 1600000 in
theorem hnPrime (A : Option Addr) (n c : Nat) (w : World) : Calls Tryz.prog 7 #[hnil, .slice A n c] w fun e w' => e = .returned (.tuple #[]) ∧ w' = w := by
  unfold hnil
  go_enter Tryz.func7, Tryz.ntmps7
  go_wp2_with fail
  go_end0
  exact ⟨rfl, rfl⟩
set_option maxHeartbeats 1600000 in
theorem hnAccept (p : Int) (w : World) : Calls Tryz.prog 14 #[hnil, .int .i64 p] w fun e w' => e = .returned (.tuple #[.int .i64 0, .int .i64 2]) ∧ w' = w := by
  unfold hnil
  go_enter Tryz.func14, Tryz.ntmps14
  go_wp2_with fail
  go_ret2
  exact ⟨rfl, rfl⟩
set_option maxHeartbeats 1600000 in
theorem hnListen (p : Int) (w : World) : Calls Tryz.prog 19 #[hnil, .int .i64 p] w fun e w' => e = .returned (.int .i64 2) ∧ w' = w := by
  unfold hnil
  go_enter Tryz.func19, Tryz.ntmps19
  go_wp2_with fail
  go_ret
  exact ⟨rfl, rfl⟩
set_option maxHeartbeats 1600000 in
theorem hnOut (w : World) : Calls Tryz.prog 26 #[hnil] w fun e w' => e = .returned (.slice none 0 0) ∧ w' = w := by
  unfold hnil
  go_enter Tryz.func26, Tryz.ntmps26
  go_wp2_with fail
  go_ret
  exact ⟨rfl, rfl⟩
set_option maxHeartbeats 1600000 in
theorem hnHandles (w : World) : Calls Tryz.prog 27 #[hnil] w fun e w' => e = .returned (.slice none 0 0) ∧ w' = w := by
  unfold hnil
  go_enter Tryz.func27, Tryz.ntmps27
  go_wp2_with fail
  go_ret
  exact ⟨rfl, rfl⟩
set_option maxHeartbeats 1600000 in
theorem hnTokens (w : World) : Calls Tryz.prog 28 #[hnil] w fun e w' => e = .returned (.slice none 0 0) ∧ w' = w := by
  unfold hnil
  go_enter Tryz.func28, Tryz.ntmps28
  go_wp2_with fail
  go_ret
  exact ⟨rfl, rfl⟩
set_option maxHeartbeats 1600000 in
theorem hnNow (w : World) : Calls Tryz.prog 29 #[hnil] w fun e w' => e = .returned (.int .i64 0) ∧ w' = w := by
  unfold hnil
  go_enter Tryz.func29, Tryz.ntmps29
  go_wp2_with fail
  go_ret
  exact ⟨rfl, rfl⟩
set_option maxHeartbeats 1600000 in
theorem hnCounts (w : World) : Calls Tryz.prog 18 #[hnil] w fun e w' => e = .returned (.tuple #[.int .i64 0, .int .i64 0, .int .i64 0]) ∧ w' = w := by
  unfold hnil
  go_enter Tryz.func18, Tryz.ntmps18
  go_wp2_with fail
  go_ret3
  exact ⟨rfl, rfl⟩
set_option maxHeartbeats 1600000 in
theorem hnCall (x : Int) (f : Value) (w : World) : Calls Tryz.prog 47 #[hnil, .int .i64 x, f] w fun e w' => e = .returned (.int .i64 2) ∧ w' = w := by
  unfold hnil
  go_enter Tryz.func47, Tryz.ntmps47
  go_wp2_with fail
  go_ret
  exact ⟨rfl, rfl⟩
set_option maxHeartbeats 1600000 in
theorem hnConnect (i j p : Int) (w : World) : Calls Tryz.prog 8 #[hnil, .int .i64 i, .int .i64 j, .int .i64 p] w fun e w' => e = .returned (.tuple #[.int .i64 0, .int .i64 2]) ∧ w' = w := by
  unfold hnil
  go_enter Tryz.func8, Tryz.ntmps8
  go_wp2_with fail
  go_ret2
  exact ⟨rfl, rfl⟩
set_option maxHeartbeats 1600000 in
theorem hnOf (x : Int) (w : World) : Calls Tryz.prog 52 #[hnil, .int .i64 x] w fun e w' => e = .returned (.pointer none) ∧ Below w.heap.size w w' := by
  unfold hnil
  go_enter Tryz.func52, Tryz.ntmps52
  go_wp2_with fail
  go_ret
  exact ⟨rfl, below_a _ _⟩
set_option maxHeartbeats 1600000 in
theorem hnState (x : Int) (w : World) : Calls Tryz.prog 17 #[hnil, .int .i64 x] w fun e w' => e = .returned (.tuple #[.int .i64 0, .bool false]) ∧ Below w.heap.size w w' := by
  have HO := Lib.hid (fun W => hnOf x W)
  unfold hnil at *
  go_enter Tryz.func17, Tryz.ntmps17
  go_wp2_with fail
  refine (HO.out _).mono ?_
  rintro e w1 ⟨rfl, b1⟩
  have HB := Lib.hid b1
  clear b1
  go_wp2_with fail
  go_ret2
  exact ⟨rfl, HB.out⟩
set_option maxHeartbeats 1600000 in
theorem hnTick (w : World) : Calls Tryz.prog 13 #[hnil] w fun e w' => e = .returned (.tuple #[]) ∧ Below w.heap.size w w' := by
  unfold hnil
  go_enter Tryz.func13, Tryz.ntmps13
  go_wp2_with fail
  refine bodyPost_ret (results_none rfl _ _ _) rfl ?_
  exact ⟨rfl, below_a _ _⟩
set_option maxHeartbeats 1600000 in
theorem hnHear (s : Sgc) (w : World) : Calls Tryz.prog 12 #[hnil, .agg s.vals.toArray] w fun e w' => e = .returned (.tuple #[]) ∧ Below w.heap.size w w' := by
  unfold hnil
  go_enter Tryz.func12, Tryz.ntmps12
  go_wp2_with (first
    | ((with_reducible refine wpList_here ?_); refine wpList_boxV (o := ⟨some 3, _, _, _, _, _⟩) rfl 40 (.tmp 1) rfl s.vals rfl _ rfl ?_; intro w0 z0 b0 s0)
    | fail)
  refine bodyPost_ret (results_none rfl _ _ _) rfl ?_
  exact ⟨rfl, b0⟩
set_option maxHeartbeats 1600000 in
theorem hnWrite (x : Int) (A : Option Addr) (n c : Nat) (w : World) : Calls Tryz.prog 15 #[hnil, .int .i64 x, .slice A n c] w fun e w' => e = .returned (.tuple #[.int .i64 0, .int .i64 2]) ∧ Below w.heap.size w w' := by
  have HC := Lib.hid (fun x f W => hnCall x f W)
  have hmf : ∀ (fn : Fn) (first cap : Array Value) (w : World), (Instr.makeFunc fn first cap).run Tryz.prog w = .ok (.func fn first cap) w := fun _ _ _ _ => rfl
  unfold hnil at *
  go_enter Tryz.func15, Tryz.ntmps15
  go_wp2_with fail
  refine (HC.out _ _ _).mono ?_
  rintro e w1 ⟨rfl, rfl⟩
  go_wp2_with fail
  go_ret2
  exact ⟨rfl, by first | exact Below.refl _ _ | exact below_a _ _ | exact below_a2 _ _ _ | exact (below_a2 _ _ _).alloc (by simp; omega) _⟩
set_option maxHeartbeats 1600000 in
theorem hnRead (x y : Int) (w : World) : Calls Tryz.prog 16 #[hnil, .int .i64 x, .int .i64 y] w fun e w' => e = .returned (.tuple #[.slice none 0 0, .int .i64 2]) ∧ Below w.heap.size w w' := by
  have HC := Lib.hid (fun x f W => hnCall x f W)
  have hmf : ∀ (fn : Fn) (first cap : Array Value) (w : World), (Instr.makeFunc fn first cap).run Tryz.prog w = .ok (.func fn first cap) w := fun _ _ _ _ => rfl
  unfold hnil at *
  go_enter Tryz.func16, Tryz.ntmps16
  go_wp2_with fail
  refine (HC.out _ _ _).mono ?_
  rintro e w1 ⟨rfl, rfl⟩
  go_wp2_with fail
  go_ret2
  exact ⟨rfl, by first | exact Below.refl _ _ | exact below_a _ _ | exact below_a2 _ _ _ | exact (below_a2 _ _ _).alloc (by simp; omega) _⟩
set_option maxHeartbeats 1600000 in
theorem hnShutdown (x : Int) (w : World) : Calls Tryz.prog 20 #[hnil, .int .i64 x] w fun e w' => e = .returned (.int .i64 2) ∧ Below w.heap.size w w' := by
  have HC := Lib.hid (fun x f W => hnCall x f W)
  have hmf : ∀ (fn : Fn) (first cap : Array Value) (w : World), (Instr.makeFunc fn first cap).run Tryz.prog w = .ok (.func fn first cap) w := fun _ _ _ _ => rfl
  unfold hnil at *
  go_enter Tryz.func20, Tryz.ntmps20
  go_wp2_with fail
  refine (HC.out _ _ _).mono ?_
  rintro e w1 ⟨rfl, rfl⟩
  go_wp2_with fail
  go_ret
  exact ⟨rfl, by first | exact Below.refl _ _ | exact below_a _ _ | exact below_a2 _ _ _ | exact (below_a2 _ _ _).alloc (by simp; omega) _⟩
set_option maxHeartbeats 1600000 in
theorem hnLeave (x : Int) (fn : Fn) (fa fb : Array Value) (w : World) : Calls Tryz.prog 57 #[hnil, .int .i64 x, .func fn fa fb] w fun e w' => e = .returned (.int .i64 2) ∧ Below w.heap.size w w' := by
  have HC := Lib.hid (fun x f W => hnCall x f W)
  have hmf : ∀ (fn : Fn) (first cap : Array Value) (w : World), (Instr.makeFunc fn first cap).run Tryz.prog w = .ok (.func fn first cap) w := fun _ _ _ _ => rfl
  unfold hnil at *
  go_enter Tryz.func57, Tryz.ntmps57
  go_wp2_with fail
  refine (HC.out _ _ _).mono ?_
  rintro e w1 ⟨rfl, rfl⟩
  go_wp2_with fail
  go_ret
  exact ⟨rfl, by first | exact Below.refl _ _ | exact below_a _ _ | exact below_a2 _ _ _ | exact (below_a2 _ _ _).alloc (by simp; omega) _⟩
set_option maxHeartbeats 1600000 in
theorem hnClose (x : Int) (w : World) : Calls Tryz.prog 21 #[hnil, .int .i64 x] w fun e w' => e = .returned (.int .i64 2) ∧ Below w.heap.size w w' := by
  have HC := Lib.hid (fun x f a b W => hnLeave x f a b W)
  have hmf : ∀ (fn : Fn) (first cap : Array Value) (w : World), (Instr.makeFunc fn first cap).run Tryz.prog w = .ok (.func fn first cap) w := fun _ _ _ _ => rfl
  unfold hnil at *
  go_enter Tryz.func21, Tryz.ntmps21
  go_wp2_with fail
  refine (HC.out _ _ _ _ _).mono ?_
  rintro e w1 ⟨rfl, b1⟩
  have HB := Lib.hid b1
  clear b1
  go_wp2_with fail
  go_ret
  exact ⟨rfl, HB.out⟩
set_option maxHeartbeats 1600000 in
theorem hnAbort (x : Int) (w : World) : Calls Tryz.prog 22 #[hnil, .int .i64 x] w fun e w' => e = .returned (.int .i64 2) ∧ Below w.heap.size w w' := by
  have HC := Lib.hid (fun x f a b W => hnLeave x f a b W)
  have hmf : ∀ (fn : Fn) (first cap : Array Value) (w : World), (Instr.makeFunc fn first cap).run Tryz.prog w = .ok (.func fn first cap) w := fun _ _ _ _ => rfl
  unfold hnil at *
  go_enter Tryz.func22, Tryz.ntmps22
  go_wp2_with fail
  refine (HC.out _ _ _ _ _).mono ?_
  rintro e w1 ⟨rfl, b1⟩
  have HB := Lib.hid b1
  clear b1
  go_wp2_with fail
  go_ret
  exact ⟨rfl, HB.out⟩
set_option maxHeartbeats 1600000 in
theorem hnJoin (x i j : Int) (b : Bool) (w : World) : Calls Tryz.prog 23 #[hnil, .int .i64 x, .int .i64 i, .int .i64 j, .bool b] w fun e w' => e = .returned (.int .i64 2) ∧ Below w.heap.size w w' := by
  have HC := Lib.hid (fun x f W => hnCall x f W)
  have hmf : ∀ (fn : Fn) (first cap : Array Value) (w : World), (Instr.makeFunc fn first cap).run Tryz.prog w = .ok (.func fn first cap) w := fun _ _ _ _ => rfl
  unfold hnil at *
  go_enter Tryz.func23, Tryz.ntmps23
  go_wp2_with fail
  refine (HC.out _ _ _).mono ?_
  rintro e w1 ⟨rfl, rfl⟩
  go_wp2_with fail
  go_ret
  exact ⟨rfl, by first | exact Below.refl _ _ | exact below_a _ _ | exact below_a2 _ _ _ | exact (below_a2 _ _ _).alloc (by simp; omega) _⟩
set_option maxHeartbeats 1600000 in
theorem hnTell (x i : Int) (w : World) : Calls Tryz.prog 24 #[hnil, .int .i64 x, .int .i64 i] w fun e w' => e = .returned (.int .i64 2) ∧ Below w.heap.size w w' := by
  have HC := Lib.hid (fun x f W => hnCall x f W)
  have hmf : ∀ (fn : Fn) (first cap : Array Value) (w : World), (Instr.makeFunc fn first cap).run Tryz.prog w = .ok (.func fn first cap) w := fun _ _ _ _ => rfl
  unfold hnil at *
  go_enter Tryz.func24, Tryz.ntmps24
  go_wp2_with fail
  refine (HC.out _ _ _).mono ?_
  rintro e w1 ⟨rfl, rfl⟩
  go_wp2_with fail
  go_ret
  exact ⟨rfl, by first | exact Below.refl _ _ | exact below_a _ _ | exact below_a2 _ _ _ | exact (below_a2 _ _ _).alloc (by simp; omega) _⟩
set_option maxHeartbeats 1600000 in
theorem hnSet (x i : Int) (w : World) : Calls Tryz.prog 25 #[hnil, .int .i64 x, .int .i64 i] w fun e w' => e = .returned (.int .i64 2) ∧ Below w.heap.size w w' := by
  have HC := Lib.hid (fun x f W => hnCall x f W)
  have hmf : ∀ (fn : Fn) (first cap : Array Value) (w : World), (Instr.makeFunc fn first cap).run Tryz.prog w = .ok (.func fn first cap) w := fun _ _ _ _ => rfl
  unfold hnil at *
  go_enter Tryz.func25, Tryz.ntmps25
  go_wp2_with fail
  refine (HC.out _ _ _).mono ?_
  rintro e w1 ⟨rfl, rfl⟩
  go_wp2_with fail
  go_ret
  exact ⟨rfl, by first | exact Below.refl _ _ | exact below_a _ _ | exact below_a2 _ _ _ | exact (below_a2 _ _ _).alloc (by simp; omega) _⟩
end Go.Proofs.YtlcegchdkigibaaGreatDoor

namespace Go.Proofs.YtlcegchdkigibaaGreatDoor
set_option linter.unusedVariables false
set_option linter.unusedSimpArgs false
set_option maxRecDepth 20000
open Go.RowKit Go.Lib

set_option maxHeartbeats 6400000 in
theorem HNil_any (n : Int) (vs : List Value) (w : World) (hn : -9223372036854775808 ≤ n ∧ n ≤ 9223372036854775807) (h : Sw vs) (hT : LK.Tab w) : Calls Tryz.prog 4 #[.int .i64 n, .agg vs.toArray] w (Held w) := by
  obtain ⟨s, rfl, ⟨oA, on, oc, ho⟩, ⟨dA, dn, dc, hd⟩⟩ := h
  have HWK := Lib.hid (fun W (b : Below w.heap.size w W) => hwakes_any W (hT.below b))
  clear hT hn
  unfold Held
  go_enter Tryz.func4, Tryz.ntmps4
  go_wp2_with (first
    | ((with_reducible refine wpList_here ?_); refine wpList_boxV (o := ⟨some 3, _, _, _, _, _⟩) rfl 40 (.tmp 1) rfl s.vals rfl _ rfl ?_; intro w0 z0 b0 s0)
    | fail)
  refine (HWK.out _ b0).mono ?_
  rintro e w1 ⟨rfl, b1⟩
  have z1 := z0.below b1
  have B1 := Lib.hid (below_trans b0 b1)
  have x11 := z1.celb.c11
  have x12 := z1.celb.c12
  rw [ho] at x11
  rw [hd] at x12
  clear z0 b0 b1 s0 HWK ho hd
  by_cases h1 : 20 < (on : Int)
  · go_wp2_with fail
    go_ret
    exact ⟨rfl, B1.out⟩
  by_cases h2 : 50 < (dn : Int)
  · go_wp2_with fail
    go_ret
    exact ⟨rfl, B1.out⟩
  have bS := below_a w1 (.cells #[.int .u64 1] 22)
  have zS := z1.below bS
  have rS := zS.range
  have BS := Lib.hid (B1.out.trans (bS.mono B1.out.size))
  clear z1 bS
  go_wp2_with (first
    | (go_at_call 7; refine (hnPrime _ _ _ _).mono ?_; rintro e wx ⟨rfl, rfl⟩)
    | ((with_reducible refine wpList_here ?_); refine wpList_loadV (o := ⟨some 35, _, _, _, _, _⟩) rfl 40 (.tmp 3) rfl w.heap.size 0 s.vals rfl rS _ Tryz.underlying40 rfl sizeSgc ?_)
    | fail)
  refine (hnHear s _).mono ?_
  rintro e w20 ⟨rfl, b20⟩
  have C0 := Lib.hid (BS.out.trans (b20.mono BS.out.size))
  clear b20
  go_wp2_with (first
    | (go_at_call 8; refine (hnConnect _ _ _ _).mono ?_; rintro e wx ⟨rfl, rfl⟩)
    | (go_at_call 14; refine (hnAccept _ _).mono ?_; rintro e wx ⟨rfl, rfl⟩)
    | (go_at_call 18; refine (hnCounts _).mono ?_; rintro e wx ⟨rfl, rfl⟩)
    | (go_at_call 19; refine (hnListen _ _).mono ?_; rintro e wx ⟨rfl, rfl⟩)
    | (go_at_call 26; refine (hnOut _).mono ?_; rintro e wx ⟨rfl, rfl⟩)
    | (go_at_call 27; refine (hnHandles _).mono ?_; rintro e wx ⟨rfl, rfl⟩)
    | (go_at_call 28; refine (hnTokens _).mono ?_; rintro e wx ⟨rfl, rfl⟩)
    | (go_at_call 29; refine (hnNow _).mono ?_; rintro e wx ⟨rfl, rfl⟩)
    | fail)
  refine (hnTick _).mono ?_
  rintro e w21 ⟨rfl, b21⟩
  have C1 := Lib.hid (C0.out.trans (b21.mono C0.out.size))
  clear b21
  go_wp2_with (first
    | (go_at_call 8; refine (hnConnect _ _ _ _).mono ?_; rintro e wx ⟨rfl, rfl⟩)
    | (go_at_call 14; refine (hnAccept _ _).mono ?_; rintro e wx ⟨rfl, rfl⟩)
    | (go_at_call 18; refine (hnCounts _).mono ?_; rintro e wx ⟨rfl, rfl⟩)
    | (go_at_call 19; refine (hnListen _ _).mono ?_; rintro e wx ⟨rfl, rfl⟩)
    | (go_at_call 26; refine (hnOut _).mono ?_; rintro e wx ⟨rfl, rfl⟩)
    | (go_at_call 27; refine (hnHandles _).mono ?_; rintro e wx ⟨rfl, rfl⟩)
    | (go_at_call 28; refine (hnTokens _).mono ?_; rintro e wx ⟨rfl, rfl⟩)
    | (go_at_call 29; refine (hnNow _).mono ?_; rintro e wx ⟨rfl, rfl⟩)
    | fail)
  refine (hnWrite n none 0 0 _).mono ?_
  rintro e w22 ⟨rfl, b22⟩
  have C2 := Lib.hid (C1.out.trans (b22.mono C1.out.size))
  clear b22
  go_wp2_with (first
    | (go_at_call 8; refine (hnConnect _ _ _ _).mono ?_; rintro e wx ⟨rfl, rfl⟩)
    | (go_at_call 14; refine (hnAccept _ _).mono ?_; rintro e wx ⟨rfl, rfl⟩)
    | (go_at_call 18; refine (hnCounts _).mono ?_; rintro e wx ⟨rfl, rfl⟩)
    | (go_at_call 19; refine (hnListen _ _).mono ?_; rintro e wx ⟨rfl, rfl⟩)
    | (go_at_call 26; refine (hnOut _).mono ?_; rintro e wx ⟨rfl, rfl⟩)
    | (go_at_call 27; refine (hnHandles _).mono ?_; rintro e wx ⟨rfl, rfl⟩)
    | (go_at_call 28; refine (hnTokens _).mono ?_; rintro e wx ⟨rfl, rfl⟩)
    | (go_at_call 29; refine (hnNow _).mono ?_; rintro e wx ⟨rfl, rfl⟩)
    | fail)
  refine (hnRead n n _).mono ?_
  rintro e w23 ⟨rfl, b23⟩
  have C3 := Lib.hid (C2.out.trans (b23.mono C2.out.size))
  clear b23
  go_wp2_with (first
    | (go_at_call 8; refine (hnConnect _ _ _ _).mono ?_; rintro e wx ⟨rfl, rfl⟩)
    | (go_at_call 14; refine (hnAccept _ _).mono ?_; rintro e wx ⟨rfl, rfl⟩)
    | (go_at_call 18; refine (hnCounts _).mono ?_; rintro e wx ⟨rfl, rfl⟩)
    | (go_at_call 19; refine (hnListen _ _).mono ?_; rintro e wx ⟨rfl, rfl⟩)
    | (go_at_call 26; refine (hnOut _).mono ?_; rintro e wx ⟨rfl, rfl⟩)
    | (go_at_call 27; refine (hnHandles _).mono ?_; rintro e wx ⟨rfl, rfl⟩)
    | (go_at_call 28; refine (hnTokens _).mono ?_; rintro e wx ⟨rfl, rfl⟩)
    | (go_at_call 29; refine (hnNow _).mono ?_; rintro e wx ⟨rfl, rfl⟩)
    | fail)
  refine (hnState n _).mono ?_
  rintro e w24 ⟨rfl, b24⟩
  have C4 := Lib.hid (C3.out.trans (b24.mono C3.out.size))
  clear b24
  go_wp2_with (first
    | (go_at_call 8; refine (hnConnect _ _ _ _).mono ?_; rintro e wx ⟨rfl, rfl⟩)
    | (go_at_call 14; refine (hnAccept _ _).mono ?_; rintro e wx ⟨rfl, rfl⟩)
    | (go_at_call 18; refine (hnCounts _).mono ?_; rintro e wx ⟨rfl, rfl⟩)
    | (go_at_call 19; refine (hnListen _ _).mono ?_; rintro e wx ⟨rfl, rfl⟩)
    | (go_at_call 26; refine (hnOut _).mono ?_; rintro e wx ⟨rfl, rfl⟩)
    | (go_at_call 27; refine (hnHandles _).mono ?_; rintro e wx ⟨rfl, rfl⟩)
    | (go_at_call 28; refine (hnTokens _).mono ?_; rintro e wx ⟨rfl, rfl⟩)
    | (go_at_call 29; refine (hnNow _).mono ?_; rintro e wx ⟨rfl, rfl⟩)
    | fail)
  refine (hnShutdown n _).mono ?_
  rintro e w25 ⟨rfl, b25⟩
  have C5 := Lib.hid (C4.out.trans (b25.mono C4.out.size))
  clear b25
  go_wp2_with (first
    | (go_at_call 8; refine (hnConnect _ _ _ _).mono ?_; rintro e wx ⟨rfl, rfl⟩)
    | (go_at_call 14; refine (hnAccept _ _).mono ?_; rintro e wx ⟨rfl, rfl⟩)
    | (go_at_call 18; refine (hnCounts _).mono ?_; rintro e wx ⟨rfl, rfl⟩)
    | (go_at_call 19; refine (hnListen _ _).mono ?_; rintro e wx ⟨rfl, rfl⟩)
    | (go_at_call 26; refine (hnOut _).mono ?_; rintro e wx ⟨rfl, rfl⟩)
    | (go_at_call 27; refine (hnHandles _).mono ?_; rintro e wx ⟨rfl, rfl⟩)
    | (go_at_call 28; refine (hnTokens _).mono ?_; rintro e wx ⟨rfl, rfl⟩)
    | (go_at_call 29; refine (hnNow _).mono ?_; rintro e wx ⟨rfl, rfl⟩)
    | fail)
  refine (hnClose n _).mono ?_
  rintro e w26 ⟨rfl, b26⟩
  have C6 := Lib.hid (C5.out.trans (b26.mono C5.out.size))
  clear b26
  go_wp2_with (first
    | (go_at_call 8; refine (hnConnect _ _ _ _).mono ?_; rintro e wx ⟨rfl, rfl⟩)
    | (go_at_call 14; refine (hnAccept _ _).mono ?_; rintro e wx ⟨rfl, rfl⟩)
    | (go_at_call 18; refine (hnCounts _).mono ?_; rintro e wx ⟨rfl, rfl⟩)
    | (go_at_call 19; refine (hnListen _ _).mono ?_; rintro e wx ⟨rfl, rfl⟩)
    | (go_at_call 26; refine (hnOut _).mono ?_; rintro e wx ⟨rfl, rfl⟩)
    | (go_at_call 27; refine (hnHandles _).mono ?_; rintro e wx ⟨rfl, rfl⟩)
    | (go_at_call 28; refine (hnTokens _).mono ?_; rintro e wx ⟨rfl, rfl⟩)
    | (go_at_call 29; refine (hnNow _).mono ?_; rintro e wx ⟨rfl, rfl⟩)
    | fail)
  refine (hnAbort n _).mono ?_
  rintro e w27 ⟨rfl, b27⟩
  have C7 := Lib.hid (C6.out.trans (b27.mono C6.out.size))
  clear b27
  go_wp2_with (first
    | (go_at_call 8; refine (hnConnect _ _ _ _).mono ?_; rintro e wx ⟨rfl, rfl⟩)
    | (go_at_call 14; refine (hnAccept _ _).mono ?_; rintro e wx ⟨rfl, rfl⟩)
    | (go_at_call 18; refine (hnCounts _).mono ?_; rintro e wx ⟨rfl, rfl⟩)
    | (go_at_call 19; refine (hnListen _ _).mono ?_; rintro e wx ⟨rfl, rfl⟩)
    | (go_at_call 26; refine (hnOut _).mono ?_; rintro e wx ⟨rfl, rfl⟩)
    | (go_at_call 27; refine (hnHandles _).mono ?_; rintro e wx ⟨rfl, rfl⟩)
    | (go_at_call 28; refine (hnTokens _).mono ?_; rintro e wx ⟨rfl, rfl⟩)
    | (go_at_call 29; refine (hnNow _).mono ?_; rintro e wx ⟨rfl, rfl⟩)
    | fail)
  refine (hnJoin n 0 1 false _).mono ?_
  rintro e w28 ⟨rfl, b28⟩
  have C8 := Lib.hid (C7.out.trans (b28.mono C7.out.size))
  clear b28
  go_wp2_with (first
    | (go_at_call 8; refine (hnConnect _ _ _ _).mono ?_; rintro e wx ⟨rfl, rfl⟩)
    | (go_at_call 14; refine (hnAccept _ _).mono ?_; rintro e wx ⟨rfl, rfl⟩)
    | (go_at_call 18; refine (hnCounts _).mono ?_; rintro e wx ⟨rfl, rfl⟩)
    | (go_at_call 19; refine (hnListen _ _).mono ?_; rintro e wx ⟨rfl, rfl⟩)
    | (go_at_call 26; refine (hnOut _).mono ?_; rintro e wx ⟨rfl, rfl⟩)
    | (go_at_call 27; refine (hnHandles _).mono ?_; rintro e wx ⟨rfl, rfl⟩)
    | (go_at_call 28; refine (hnTokens _).mono ?_; rintro e wx ⟨rfl, rfl⟩)
    | (go_at_call 29; refine (hnNow _).mono ?_; rintro e wx ⟨rfl, rfl⟩)
    | fail)
  refine (hnTell n 0 _).mono ?_
  rintro e w29 ⟨rfl, b29⟩
  have C9 := Lib.hid (C8.out.trans (b29.mono C8.out.size))
  clear b29
  go_wp2_with (first
    | (go_at_call 8; refine (hnConnect _ _ _ _).mono ?_; rintro e wx ⟨rfl, rfl⟩)
    | (go_at_call 14; refine (hnAccept _ _).mono ?_; rintro e wx ⟨rfl, rfl⟩)
    | (go_at_call 18; refine (hnCounts _).mono ?_; rintro e wx ⟨rfl, rfl⟩)
    | (go_at_call 19; refine (hnListen _ _).mono ?_; rintro e wx ⟨rfl, rfl⟩)
    | (go_at_call 26; refine (hnOut _).mono ?_; rintro e wx ⟨rfl, rfl⟩)
    | (go_at_call 27; refine (hnHandles _).mono ?_; rintro e wx ⟨rfl, rfl⟩)
    | (go_at_call 28; refine (hnTokens _).mono ?_; rintro e wx ⟨rfl, rfl⟩)
    | (go_at_call 29; refine (hnNow _).mono ?_; rintro e wx ⟨rfl, rfl⟩)
    | fail)
  refine (hnSet n 0 _).mono ?_
  rintro e w30 ⟨rfl, b30⟩
  have C10 := Lib.hid (C9.out.trans (b30.mono C9.out.size))
  clear b30
  go_wp2_with (first
    | (go_at_call 8; refine (hnConnect _ _ _ _).mono ?_; rintro e wx ⟨rfl, rfl⟩)
    | (go_at_call 14; refine (hnAccept _ _).mono ?_; rintro e wx ⟨rfl, rfl⟩)
    | (go_at_call 18; refine (hnCounts _).mono ?_; rintro e wx ⟨rfl, rfl⟩)
    | (go_at_call 19; refine (hnListen _ _).mono ?_; rintro e wx ⟨rfl, rfl⟩)
    | (go_at_call 26; refine (hnOut _).mono ?_; rintro e wx ⟨rfl, rfl⟩)
    | (go_at_call 27; refine (hnHandles _).mono ?_; rintro e wx ⟨rfl, rfl⟩)
    | (go_at_call 28; refine (hnTokens _).mono ?_; rintro e wx ⟨rfl, rfl⟩)
    | (go_at_call 29; refine (hnNow _).mono ?_; rintro e wx ⟨rfl, rfl⟩)
    | fail)
  go_ret
  exact ⟨rfl, C10.out⟩
end Go.Proofs.YtlcegchdkigibaaGreatDoor
