/- A receiver as a law keeps it; the example of the chapter; a receiver that isn't there; the law DrecvNil. Conditions: the bytes lie where the slice says. -/
import Derived.Test.YtancbdnpmabpfaaDrF
import Derived.Test.YtancbdnpmabpfaaDrC
import Derived.Laws.BytesArg
import Derived.Laws.IdiomStrings
import Derived.Lib.SlBytesConst
namespace Go.Proofs.Ytancbdnpmabpfaa
set_option linter.unusedVariables false
set_option linter.unusedSimpArgs false
open Go.RowKit Go.Lib

/-- A receiver as a law that began in W keeps it. -/
structure Sv (W w : World) (rb : Nat) (z : Sh) (d : Dr) : Prop where
  s : Rc W.heap.size w rb z d
  bel : Below W.heap.size W w
section
variable {W w w' : World} {rb : Nat} {z z' : Sh} {d d' : Dr}
theorem Sv.step (h : Sv W w rb z d) (l : Left W.heap.size w rb z d' w' z') : Sv W w' rb z' d' := ⟨l.s, l.m.bel h.s.w (Nat.le_refl _) h.bel⟩
theorem Sv.below (h : Sv W w rb z d) (b : Below w.heap.size w w') : Sv W w' rb z d := ⟨h.s.below b, h.bel.trans (b.mono h.bel.size)⟩
theorem Sv.put (h : Sv W w rb z d) {x : Int} (hx : -1099511627776 ≤ x ∧ x ≤ 2147483648) {A : Option Addr} {n c : Nat} {b : List UInt8} (R : RB w A n c b) (hn : n ≤ 1099511627776) (hcap : d.t + 1 ≤ 1000) :
    Calls Try.prog 11 #[ptr rb, .int .i64 x, .slice A n c] w fun e w' => ∃ z', e = .returned (.int .i64 (d.hits x b.length : Int)) ∧ Sv W w' rb z' (d.put x b) ∧ Mv w rb z w' z' :=
  (Put_any h.s h.bel.size hx R hn hcap).mono fun e w' ⟨he, z', hl⟩ => ⟨z', he, h.step hl, hl.m⟩
theorem Sv.read (h : Sv W w rb z d) {m : Int} (hm : isI m) :
    Calls Try.prog 17 #[ptr rb, .int .i64 m] w fun e w' => ∃ v z', e = .returned (.tuple #[v, .int .i64 d.err]) ∧ Tk w w' rb z' v (d.most m) (d.got m) ∧ Sv W w' rb z' (d.read m) ∧ Mv w rb z w' z' :=
  (Read_any h.s hm).mono fun e w' ⟨v, z', he, ht, hl⟩ => ⟨v, z', he, ht, h.step hl, hl.m⟩
end
theorem new_sv (W w : World) (hb : Below W.heap.size W w) : Calls Try.prog 9 #[] w fun e w' => ∃ (rb : Nat) (z : Sh), e = .returned (ptr rb) ∧ Sv W w' rb z Dr.new ∧ (∀ k, z.T rb k → w.heap.size ≤ k) ∧ Below w.heap.size w w' :=
  (New_rc W.heap.size w hb.size).mono fun e w' ⟨rb, z, he, hs, hbel, hlo⟩ => ⟨rb, z, he, ⟨hs, hb.trans (hbel.mono hb.size)⟩, hlo, hbel⟩

def dC : Dr := Dr.new.put 3 [99]
def dAbc : Dr := dC.put 1 [97, 98]
set_option maxRecDepth 8000 in
theorem abc_0 : ((Dr.new.hits 3 ([99] : List UInt8).length : Nat) : Int) = 1 ∧ ((dC.hits 1 ([97, 98] : List UInt8).length : Nat) : Int) = 2 ∧ dAbc.most 9 = 3 ∧ dAbc.got 9 = [97, 98, 99] ∧ dAbc.err = 0 := by decide

set_option maxRecDepth 8000 in
set_option maxHeartbeats 3200000 in
theorem wakes_any (W : World) : Calls Try.prog 8 #[] W (Yes W) := by
  have HN := Lib.hid (new_sv W W (Below.refl _ _))
  obtain ⟨k1, k2, k3, k4, k5⟩ := abc_0
  have K := Lib.hid (And.intro k1 (And.intro k2 (And.intro k3 (And.intro k4 k5))))
  clear k1 k2 k3 k4 k5
  go_enter Try.func8, Try.ntmps8
  go_wp2_with fail
  refine (HN.out).mono ?_
  rintro e w1 ⟨rb, z1, rfl, S1, -, -⟩
  have hcv : (convert 28 28 (.slice (some ⟨w1.heap.size, 0, none⟩) 1 1)).run Try.prog (w1.alloc (.cells #[.int .u8 99] 5)) = .ok (.slice (some ⟨w1.heap.size, 0, none⟩) 1 1) (w1.alloc (.cells #[.int .u8 99] 5 (1, 2))) := text_at w1 #[.int .u8 99] 1 1
  have HS1 := Lib.hid (S1.below (below_a w1 (.cells #[.int .u8 99] 5 (1, 2))))
  have HP1 := Lib.hid (HS1.out.put (x := 3) (by omega) (rb_litf w1 [99] 5 (1, 2) (by unfold maxLen; simp)) (by decide) (by decide))
  have HP1 : Hid (Calls Try.prog 11 #[ptr rb, .int .i64 3, .slice (some ⟨w1.heap.size, 0, none⟩) 1 1] (w1.alloc (.cells #[.int .u8 99] 5 (1, 2))) fun e w' => ∃ z', e = .returned (.int .i64 (Dr.new.hits 3 ([99] : List UInt8).length : Int)) ∧ Sv W w' rb z' dC ∧ Mv (w1.alloc (.cells #[.int .u8 99] 5 (1, 2))) rb z1 w' z') := HP1
  clear S1 HN
  unfold ptr at *
  go_wp2_with fail
  refine (HP1.out).mono ?_
  rintro e w2 ⟨z2, rfl, S2, -⟩
  rw [K.out.1]
  have hcv2 : (convert 28 28 (.slice (some ⟨w2.heap.size, 0, none⟩) 2 2)).run Try.prog (w2.alloc (.cells #[.int .u8 97, .int .u8 98] 5)) = .ok (.slice (some ⟨w2.heap.size, 0, none⟩) 2 2) (w2.alloc (.cells #[.int .u8 97, .int .u8 98] 5 (2, 3))) := text_at w2 #[.int .u8 97, .int .u8 98] 2 2
  have HS2 := Lib.hid (S2.below (below_a w2 (.cells #[.int .u8 97, .int .u8 98] 5 (2, 3))))
  have HP2 := Lib.hid (HS2.out.put (x := 1) (by omega) (rb_litf w2 [97, 98] 5 (2, 3) (by unfold maxLen; simp)) (by decide) (by decide))
  have HP2 : Hid (Calls Try.prog 11 #[ptr rb, .int .i64 1, .slice (some ⟨w2.heap.size, 0, none⟩) 2 2] (w2.alloc (.cells #[.int .u8 97, .int .u8 98] 5 (2, 3))) fun e w' => ∃ z', e = .returned (.int .i64 (dC.hits 1 ([97, 98] : List UInt8).length : Int)) ∧ Sv W w' rb z' dAbc ∧ Mv (w2.alloc (.cells #[.int .u8 97, .int .u8 98] 5 (2, 3))) rb z2 w' z') := HP2
  clear S2 HP1 hcv
  unfold ptr at *
  go_wp2_with fail
  refine (HP2.out).mono ?_
  rintro e w3 ⟨z3, rfl, S3, -⟩
  rw [K.out.2.1]
  have HS3 := Lib.hid S3
  have HR3 := Lib.hid (S3.read (m := 9) (by unfold isI; omega))
  clear S3 HP2 hcv2
  unfold ptr at *
  go_wp2_with fail
  refine (HR3.out).mono ?_
  rintro e w4 ⟨v4, z4, rfl, T4, S4, -⟩
  rw [K.out.2.2.2.2]
  obtain ⟨A4, c4, rfl, r4⟩ := T4.row
  rw [K.out.2.2.1, K.out.2.2.2.1] at r4
  rw [K.out.2.2.1]
  have HS4 := Lib.hid S4
  have t4 := rb_text (P := Try.prog) r4 28 5 9 Try.underlying28 Try.underlying5 Try.underlying9
  clear S4 T4 HR3 r4
  go_wp2_with fail
  go_ret
  exact ⟨rfl, HS4.out.bel⟩

/-! A receiver that isn't there. -/
theorem putN (x : Int) (A : Option Addr) (n c : Nat) (w : World) : Calls Try.prog 11 #[.pointer none, .int .i64 x, .slice A n c] w fun e w' => e = .returned (.int .i64 0) ∧ w' = w := by
  go_enter Try.func11, Try.ntmps11
  go_wp2_with fail
  go_ret
  exact ⟨rfl, rfl⟩
theorem endN (x : Int) (w : World) : Calls Try.prog 15 #[.pointer none, .int .i64 x] w fun e w' => e = .returned (.bool false) ∧ w' = w := by
  go_enter Try.func15, Try.ntmps15
  go_wp2_with fail
  go_ret
  exact ⟨rfl, rfl⟩
theorem readN (x : Int) (w : World) : Calls Try.prog 17 #[.pointer none, .int .i64 x] w fun e w' => e = .returned (.tuple #[.slice none 0 0, .int .i64 2]) ∧ w' = w := by
  go_enter Try.func17, Try.ntmps17
  go_wp2_with fail
  go_ret2
  exact ⟨rfl, rfl⟩
theorem ackN (w : World) : Calls Try.prog 22 #[.pointer none] w fun e w' => e = .returned (.int .i64 0) ∧ w' = w := by
  go_enter Try.func22, Try.ntmps22
  go_wp2_with fail
  go_ret
  exact ⟨rfl, rfl⟩
theorem winN (w : World) : Calls Try.prog 23 #[.pointer none] w fun e w' => e = .returned (.int .i64 0) ∧ w' = w := by
  go_enter Try.func23, Try.ntmps23
  go_wp2_with fail
  go_ret
  exact ⟨rfl, rfl⟩
theorem readyN (w : World) : Calls Try.prog 24 #[.pointer none] w fun e w' => e = .returned (.int .i64 0) ∧ w' = w := by
  go_enter Try.func24, Try.ntmps24
  go_wp2_with fail
  go_ret
  exact ⟨rfl, rfl⟩
theorem endedN (w : World) : Calls Try.prog 25 #[.pointer none] w (Qt (.bool false) w) := by
  go_enter Try.func25, Try.ntmps25
  go_wp2_with fail
  go_quiet (fail)
  go_wp2_with fail
  go_ret
  exact ⟨rfl, _, rfl⟩
set_option maxRecDepth 8000 in
set_option maxHeartbeats 1600000 in
theorem Nil_any (m : Int) (A : Option Addr) (n c : Nat) (l : List UInt8) (W : World) (hm : isI m) (hA : RB W A n c l) : Calls Try.prog 6 #[.int .i64 m, .slice A n c] W (Held W) := by
  have HW := Lib.hid (wakes_any W)
  have HPU := Lib.hid (fun w => putN m A n c w)
  have HEN := Lib.hid (fun w => endN m w)
  have HRE := Lib.hid (fun w => readN m w)
  have HAC := Lib.hid (fun w => ackN w)
  have HWI := Lib.hid (fun w => winN w)
  have HRY := Lib.hid (fun w => readyN w)
  have HED := Lib.hid (fun w => endedN w)
  clear hA hm
  go_enter Try.func6, Try.ntmps6
  go_wp2_with fail
  refine (HW.out).mono ?_
  rintro e w1 ⟨rfl, b1⟩
  have B1 := Lib.hid b1
  clear b1
  go_wp2_with fail
  refine (HRE.out _).mono ?_
  rintro e v0 ⟨rfl, rfl⟩
  go_wp2_with fail
  refine (HPU.out _).mono ?_
  rintro e v1 ⟨rfl, rfl⟩
  go_wp2_with fail
  refine (HEN.out _).mono ?_
  rintro e v2 ⟨rfl, rfl⟩
  go_wp2_with fail
  refine (HAC.out _).mono ?_
  rintro e v3 ⟨rfl, rfl⟩
  go_wp2_with fail
  refine (HWI.out _).mono ?_
  rintro e v4 ⟨rfl, rfl⟩
  go_wp2_with fail
  refine (HRY.out _).mono ?_
  rintro e v5 ⟨rfl, rfl⟩
  go_wp2_with fail
  refine (HED.out _).mono ?_
  rintro e v6 ⟨rfl, k, rfl⟩
  go_wp2_with fail
  go_ret
  exact ⟨rfl, below_dn B1.out k⟩
end Go.Proofs.Ytancbdnpmabpfaa
