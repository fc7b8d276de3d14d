/- The contracts of the document's own digest, second part: the words of a block. Condition: a block of 64 bytes. -/
import Derived.Test.YtdgllpcljjhhdaaDoorRefA
import Derived.Deep.RegionHeld3
namespace Go.Proofs.YtdgllpcljjhhdaaDoor
set_option linter.unusedVariables false
open Go.RowKit

theorem rotr_lit (x : UInt32) (k : Nat) (z : Int) (hz : z = (k : Int)) (h1 : 1 ≤ k) (h2 : k ≤ 31) (w : World) :
    Calls Tryd.prog 37 #[c32 x, .int .u32 z] w fun e w' => e = .returned (c32 (rr k x)) ∧ w' = w := by
  subst hz
  exact rotr_any x k h1 h2 w

set_option maxRecDepth 8000 in
set_option maxHeartbeats 1600000 in
theorem rsched_any (A : Option Addr) (c : Nat) (l : List UInt8) (w : World) (h : RB w A 64 c l) :
    Calls Tryd.prog 35 #[.slice A 64 c] w (MadeW w 64 (wl l 64)) := by
  have hn := h.max
  have hn' := h.cap
  go_enter Tryd.func35, Tryd.ntmps35
  go_wp2_with fail
  go_loopw [3, 4] (fun v i wr => ∃ t : Nat, t ≤ 64 ∧ i = .int .i64 t ∧ wr.ownsRow w.heap.size 24 1 v t (iv .u32 (us (wl l t))) ∧ Below w.heap.size w wr) (fun _ i _ => 64 - (intOf i).toNat)
  case atStart => exact ⟨0, Nat.zero_le _, rfl, World.ownsRow_nil _ _ _ _, Below.refl _ _⟩
  case round =>
    obtain ⟨t, ht, rfl, hown, hb⟩ := hrel
    by_cases hlt : t < 64
    · by_cases h16 : t < 16
      · have hr := h.below hb
        have hE : Hid (us (wl l (t + 1)) = us (wl l t) ++ us [be4 l t]) := Lib.hid (by rw [wl_step, us_append, wnext, if_pos h16])
        have hB : Hid (be4 l t = by4 (l.getD (4 * t) 0) <<< 24 ||| by4 (l.getD (4 * t + 1) 0) <<< 16 ||| by4 (l.getD (4 * t + 2) 0) <<< 8 ||| by4 (l.getD (4 * t + 3) 0)) := Lib.hid rfl
        obtain ⟨b, o, rfl, c0⟩ := hr.at_ (j := 4 * t) (by omega)
        obtain ⟨b1, o1, e1, c1⟩ := hr.at_ (j := 4 * t + 1) (by omega)
        obtain ⟨b2, o2, e2, c2⟩ := hr.at_ (j := 4 * t + 2) (by omega)
        obtain ⟨b3, o3, e3, c3⟩ := hr.at_ (j := 4 * t + 3) (by omega)
        injection e1 with e1
        injection e1 with e1 e1'
        injection e2 with e2
        injection e2 with e2 e2'
        injection e3 with e3
        injection e3 with e3 e3'
        subst e1 e1' e2 e2' e3 e3'
        have W0 : IntKind.i64.wrap (4 * (t : Int)) = ((4 * t : Nat) : Int) := by rw [IntWalk.i64_in _ (by omega)]; omega
        have W1 : IntKind.i64.wrap (((4 * t : Nat) : Int) + 1) = ((4 * t + 1 : Nat) : Int) := by rw [IntWalk.i64_in _ (by omega)]; omega
        have W2 : IntKind.i64.wrap (((4 * t : Nat) : Int) + 2) = ((4 * t + 2 : Nat) : Int) := by rw [IntWalk.i64_in _ (by omega)]; omega
        have W3 : IntKind.i64.wrap (((4 * t : Nat) : Int) + 3) = ((4 * t + 3 : Nat) : Int) := by rw [IntWalk.i64_in _ (by omega)]; omega
        have q0 : ((4 * t : Nat) : Int) < 64 := by omega
        have q1 : ((4 * t + 1 : Nat) : Int) < 64 := by omega
        have q2 : ((4 * t + 2 : Nat) : Int) < 64 := by omega
        have q3 : ((4 * t + 3 : Nat) : Int) < 64 := by omega
        have lb := World.block_lt_of_cell? wr _ c0
        have lb' : b < w.heap.size := by
          obtain ⟨b4, o4, e4, c4⟩ := h.at_ (j := 0) (by omega)
          injection e4 with e4
          injection e4 with e4 e4'
          subst e4
          exact World.block_lt_of_cell? w _ c4
        have nb : u3.ownBlock ≠ some b := fun e => by have := (hown.lt _ e).1; omega
        have d0 := (l.getD (4 * t) 0).toNat_lt
        have d1 := (l.getD (4 * t + 1) 0).toNat_lt
        have d2 := (l.getD (4 * t + 2) 0).toNat_lt
        have d3 := (l.getD (4 * t + 3) 0).toNat_lt
        clear hr h
        generalize l.getD (4 * t) 0 = y0 at *
        generalize l.getD (4 * t + 1) 0 = y1 at *
        generalize l.getD (4 * t + 2) 0 = y2 at *
        generalize l.getD (4 * t + 3) 0 = y3 at *
        generalize 4 * t + 1 = p1 at *
        generalize 4 * t + 2 = p2 at *
        generalize 4 * t + 3 = p3 at *
        generalize 4 * t = p0 at *
        go_wp2_with fail
        have hs := hb.size
        go_region_held3 (fun w' => w'.cell? ⟨b, o + p0, none⟩ = some (c8 y0) ∧ w'.cell? ⟨b, o + p1, none⟩ = some (c8 y1) ∧ w'.cell? ⟨b, o + p2, none⟩ = some (c8 y2) ∧ w'.cell? ⟨b, o + p3, none⟩ = some (c8 y3))
          (first
            | go_keep
            | (go_split_ands; refine ⟨?_, ?_, ?_, ?_⟩ <;> (rw [hgrow.cell_far _ (by simp; omega) (Ne.symm nb)]; assumption)))
          ((refine step_appi _ .u32 (by rfl) _ _ _ _ 4 (by rfl) Tryd.underlying58 infoU32 (by decide) w.heap.size _ _ _ (by rfl) ((hown.alloc _).drew) _ 1 1 _ (by rfl) (RI.four wr y0 y1 y2 y3 24).drew ?_ ?_ ?_; (first | omega | skip); (first | (simp; omega) | skip); intro v' w6 hown' hgrow hat))
        rw [← hB.out, ← hE.out] at hown'
        have hb2 := ((hb.alloc hb.size _).drew).grown hgrow (by simp; omega) (fun k hk => (hown.lt k hk).1)
        clear hown hgrow hat hb nb c0 c1 c2 c3
        go_wp2_with fail
        go_roundw
        case rel => exact ⟨t + 1, by omega, by go_num, hown', hb2⟩
        case measure => simp [intOf]; omega
      · have hE : Hid (us (wl l (t + 1)) = us (wl l t) ++ us [sg1 ((wl l t).getD (t - 2) 0) + (wl l t).getD (t - 7) 0 + sg0 ((wl l t).getD (t - 15) 0) + (wl l t).getD (t - 16) 0]) := Lib.hid (by rw [wl_step, us_append, wnext, if_neg h16])
        obtain ⟨g, cap, rfl, hg, hcap, hnc, hcell⟩ := owni_at hown (by omega)
        have c2 := (hcell (t - 2) (by omega)).1
        have c7 := (hcell (t - 7) (by omega)).1
        have c15 := (hcell (t - 15) (by omega)).1
        have c16 := (hcell (t - 16) (by omega)).1
        rw [us_at] at c2 c7 c15 c16
        have e2 : (t : Int) - 2 = ((t - 2 : Nat) : Int) := by omega
        have e15 : (t : Int) - 15 = ((t - 15 : Nat) : Int) := by omega
        have W7 : IntKind.i64.wrap ((t : Int) - 7) = ((t - 7 : Nat) : Int) := by rw [IntWalk.i64_in _ (by omega)]; omega
        have W16 : IntKind.i64.wrap ((t : Int) - 16) = ((t - 16 : Nat) : Int) := by rw [IntWalk.i64_in _ (by omega)]; omega
        have q2 : ((t - 2 : Nat) : Int) < (t : Int) := by omega
        have q7 : ((t - 7 : Nat) : Int) < (t : Int) := by omega
        have q15 : ((t - 15 : Nat) : Int) < (t : Int) := by omega
        have q16 : ((t - 16 : Nat) : Int) < (t : Int) := by omega
        have h16' : 16 ≤ t := by omega
        generalize t - 2 = p2 at *
        generalize t - 7 = p7 at *
        generalize t - 15 = p15 at *
        generalize t - 16 = p16 at *
        generalize (wl l t).getD p2 0 = x2 at *
        generalize (wl l t).getD p7 0 = x7 at *
        generalize (wl l t).getD p15 0 = x15 at *
        generalize (wl l t).getD p16 0 = x16 at *
        have R7 := Lib.hid (rotr_lit x15 7 7 rfl (by omega) (by omega))
        have R18 := Lib.hid (rotr_lit x15 18 18 rfl (by omega) (by omega))
        have R17 := Lib.hid (rotr_lit x2 17 17 rfl (by omega) (by omega))
        have R19 := Lib.hid (rotr_lit x2 19 19 rfl (by omega) (by omega))
        have W2 : IntKind.i64.wrap ((t : Int) - 2) = (p2 : Int) := by rw [IntWalk.i64_in _ (by omega)]; exact e2
        have W15 : IntKind.i64.wrap ((t : Int) - 15) = (p15 : Int) := by rw [IntWalk.i64_in _ (by omega)]; exact e15
        clear hcell e2 e15
        go_wp2_with fail
        go_quiet (first | (go_at_call_of 37 (Value.int IntKind.u32 7); exact Calls.quiet_of_same (R7.out _)) | (go_at_call_of 37 (Value.int IntKind.u32 18); exact Calls.quiet_of_same (R18.out _)))
        have HF : Hid (bits BinOp.xor IntKind.u32 (bits BinOp.xor IntKind.u32 ((rr 7 x15).toNat : Int) ((rr 18 x15).toNat : Int)) ((x15.toNat : Int) / 8) = ((sg0 x15).toNat : Int)) := Lib.hid (by
          rw [w_xor]
          exact (congrArg (fun z => bits BinOp.xor IntKind.u32 ((rr 7 x15 ^^^ rr 18 x15).toNat : Int) z) (show _ = ((x15 >>> 3).toNat : Int) from w_shr x15 3 (by omega))).trans (w_xor _ _))
        rw [HF.out]
        have hown1 : (wr.drewN nq).ownsRow w.heap.size 24 1 (.slice (some ⟨g, 0, none⟩) t cap) t (iv .u32 (us (wl l t))) := hown
        have hb1 := below_drewN hb nq
        have d2 : (wr.drewN nq).cell? ⟨g, p2, none⟩ = some (c32 x2) := c2
        have d7 : (wr.drewN nq).cell? ⟨g, p7, none⟩ = some (c32 x7) := c7
        have d16 : (wr.drewN nq).cell? ⟨g, p16, none⟩ = some (c32 x16) := c16
        clear hown hb c2 c7 c15 c16 R7 R18 HF W15 q15
        generalize sg0 x15 = s0 at *
        generalize wr.drewN nq = w1 at *
        go_wp2_with fail
        go_quiet (first | (go_at_call_of 37 (Value.int IntKind.u32 17); exact Calls.quiet_of_same (R17.out _)) | (go_at_call_of 37 (Value.int IntKind.u32 19); exact Calls.quiet_of_same (R19.out _)))
        have HN : Hid (bits BinOp.xor IntKind.u32 (bits BinOp.xor IntKind.u32 ((rr 17 x2).toNat : Int) ((rr 19 x2).toNat : Int)) ((x2.toNat : Int) / 1024) = ((sg1 x2).toNat : Int)) := Lib.hid (by
          rw [w_xor]
          exact (congrArg (fun z => bits BinOp.xor IntKind.u32 ((rr 17 x2 ^^^ rr 19 x2).toNat : Int) z) (show _ = ((x2 >>> 10).toNat : Int) from w_shr x2 10 (by omega))).trans (w_xor _ _))
        rw [HN.out]
        have hown : (w1.drewN nq).ownsRow w.heap.size 24 1 (.slice (some ⟨g, 0, none⟩) t cap) t (iv .u32 (us (wl l t))) := hown1
        have hb := below_drewN hb1 nq
        have c7 : (w1.drewN nq).cell? ⟨g, p7, none⟩ = some (c32 x7) := d7
        have c16 : (w1.drewN nq).cell? ⟨g, p16, none⟩ = some (c32 x16) := d16
        clear hown1 hb1 d2 d7 d16 R17 R19 HN W2 q2
        generalize sg1 x2 = s1 at *
        generalize w1.drewN nq = w2 at *
        have hs := hb.size
        go_wp2_with fail
        go_region_law ((refine step_appi _ .u32 (by rfl) _ _ _ _ 4 (by rfl) Tryd.underlying58 infoU32 (by decide) w.heap.size _ _ _ (by rfl) ((hown.alloc _).drew) _ 1 1 _ (by rfl) (RI.sum4 w2 s1 x7 s0 x16 24).drew ?_ ?_ ?_; (first | omega | skip); (first | (simp; omega) | skip); intro v' w6 hown' hgrow hat))
        all_goals
          rw [← hE.out] at hown'
          have hb2 := ((hb.alloc hb.size _).drew).grown hgrow (by simp; omega) (fun k hk => (hown.lt k hk).1)
          clear hown hgrow hat hb c7 c16 W7 W16 q7 q16
          go_wp2_with fail
          go_roundw
          case rel => exact ⟨t + 1, by omega, by go_num, hown', hb2⟩
          case measure => simp [intOf]; omega
    · obtain rfl : t = 64 := by omega
      obtain ⟨A2, c2, rfl, r2, _⟩ := RI.of_own hown
      go_wp2_with fail
      go_ret
      exact ⟨A2, c2, rfl, r2, hb⟩
end Go.Proofs.YtdgllpcljjhhdaaDoor
