/- The contract of the digest's schedule. Condition: a block of 64 bytes. -/
import Derived.Test.YtgkonmjchdpohaaDoorShaF
import Derived.Test.YtgkonmjchdpohaaDoorShaM
import Derived.Deep.RegionHeld3
namespace Go.Proofs.YtgkonmjchdpohaaDoor
set_option linter.unusedVariables false
set_option linter.unusedSimpArgs false
open Go.RowKit

theorem info64 : (Tryd.prog.info? 100).map (·.size) = some 64 := by kernel_rfl
/-- What schedule answers: the words, as an array. -/
def Words64 (l : List UInt8) (W : World) (e : Ending) (w' : World) : Prop := e = .returned (.agg (cells 64 (ww l)).toArray) ∧ Below W.heap.size W w'

set_option maxRecDepth 8000 in
set_option maxHeartbeats 1600000 in
theorem schedule_any (A : Option Addr) (c : Nat) (l : List UInt8) (w : World) (h : RB w A 64 c l) :
    Calls Tryd.prog 48 #[.slice A 64 c] w (Words64 l w) := by
  have hn := h.max
  have hn' := h.cap
  go_enter Tryd.func48, Tryd.ntmps48
  go_wp2_with fail
  have hl := Lib.hid h.len
  have z1 := Arr.zero w 64 100
  have z2 := Arr.zero (w.alloc (.cells (List.replicate 64 (Value.int .u32 0)).toArray 100)) 64 100
  rw [show (w.alloc (.cells (List.replicate 64 (Value.int .u32 0)).toArray 100)).heap.size = w.heap.size + 1 from by simp] at z2
  have z3 := z1.alloc (.cells (List.replicate 64 (Value.int .u32 0)).toArray 100)
  have zb := below_a2 w (.cells (List.replicate 64 (Value.int .u32 0)).toArray 100) (.cells (List.replicate 64 (Value.int .u32 0)).toArray 100)
  go_loopw [11] (fun i wr => ∃ k : Nat, k ≤ 64 ∧ i = .int .i64 k ∧ Arr wr (w.heap.size + 1) 64 (bw l k) ∧ Arr wr w.heap.size 64 (fun _ => 0) ∧ Below w.heap.size w wr) (fun i _ => 64 - (intOf i).toNat)
  case atStart => exact ⟨0, Nat.zero_le _, rfl, z2, z3, zb⟩
  case round =>
    obtain ⟨k, hk, rfl, ha, hz, hb⟩ := hrel
    clear z1 z2 z3 zb
    by_cases hlt : k < 64
    · obtain ⟨b, o, rfl, hc⟩ := (h.below hb).at_ hlt
      have hlt' : (k : Int) < 64 := by omega
      have hq : (k : Int) / 4 = ((k / 4 : Nat) : Int) := by omega
      have hq1 : k / 4 < 64 := by omega
      have hq2 : ((k / 4 : Nat) : Int) < 64 := by omega
      obtain ⟨ka, kf⟩ := ha (k / 4) hq1
      have HW : Hid (bw l (k + 1) = put (bw l k) (k / 4) (bw l k (k / 4) <<< 8 ||| by4 (l.getD k 0))) := Lib.hid rfl
      have hx := (l.getD k 0).toNat_lt
      have HB : Hid ((((l.getD k 0).toNat : Nat) : Int) = ((by4 (l.getD k 0)).toNat : Int)) := Lib.hid (by unfold by4; rw [UInt32.toNat_ofNat']; omega)
      have HQ := Lib.hid hq
      clear h
      generalize k / 4 = q at *
      generalize l.getD k 0 = y at *
      generalize bw l k q = x at *
      go_wp2_with fail
      have HE : Hid (bits BinOp.or IntKind.u32 ((x.toNat : Int) * 256 % 4294967296) (y.toNat : Int) = ((x <<< 8 ||| by4 y).toNat : Int)) := Lib.hid (by
        rw [HB.out]
        exact (congrArg (fun z => bits BinOp.or IntKind.u32 z ((by4 y).toNat : Int)) (show _ = ((x <<< 8).toNat : Int) from w_shl x 8 (by omega))).trans (w_or _ _))
      rw [HE.out]
      go_roundw
      case rel => exact ⟨k + 1, by omega, by go_num, by rw [HW.out]; exact ha.set q _, hz.far (g_set _ _ _ _) (by simp), hb.setCell (by simp) _⟩
      case measure => simp [intOf]; omega
    · obtain rfl : k = 64 := by omega
      rw [show ((64 : Nat) : Int) = 64 from rfl]
      go_wp2_with fail
      go_loopw [6] (fun i wr => ∃ k : Nat, k ≤ 48 ∧ i = .int .i64 ((k + 16 : Nat) : Int) ∧ Arr wr (w.heap.size + 1) 64 (xw l k) ∧ Arr wr w.heap.size 64 (fun _ => 0) ∧ Below w.heap.size w wr) (fun i _ => 64 - (intOf i).toNat)
      case atStart => exact ⟨0, Nat.zero_le _, rfl, ha, hz, hb⟩
      case round =>
        obtain ⟨k, hk, rfl, ha, hz, hb⟩ := hrel
        by_cases hlt : k < 48
        · have k0 := ha k (by omega)
          have k1 := ha (k + 1) (by omega)
          have k9 := ha (k + 9) (by omega)
          have k14 := ha (k + 14) (by omega)
          have k16 := ha (k + 16) (by omega)
          have HW : Hid (xw l (k + 1) = put (xw l k) (k + 16) ((rrs [17, 19] (xw l k (k + 14)) ^^^ xw l k (k + 14) >>> 10) + xw l k (k + 9) + (rrs [7, 18] (xw l k (k + 1)) ^^^ xw l k (k + 1) >>> 3) + xw l k k)) := Lib.hid rfl
          have e0 : ((k + 16 : Nat) : Int) - 16 = (k : Int) := by omega
          have e1 : ((k + 16 : Nat) : Int) - 15 = ((k + 1 : Nat) : Int) := by omega
          have e9 : ((k + 16 : Nat) : Int) - 7 = ((k + 9 : Nat) : Int) := by omega
          have e14 : ((k + 16 : Nat) : Int) - 2 = ((k + 14 : Nat) : Int) := by omega
          have d0 : k + 16 ≠ k := by omega
          have d9 : k + 16 ≠ k + 9 := by omega
          have b0 : k < 64 := by omega
          have b1 : k + 1 < 64 := by omega
          have b9 : k + 9 < 64 := by omega
          have b14 : k + 14 < 64 := by omega
          have b16 : k + 16 < 64 := by omega
          have c0 : (k : Int) < 64 := by omega
          have c1 : ((k + 1 : Nat) : Int) < 64 := by omega
          have c9 : ((k + 9 : Nat) : Int) < 64 := by omega
          have c14 : ((k + 14 : Nat) : Int) < 64 := by omega
          have c16 : ((k + 16 : Nat) : Int) < 64 := by omega
          have HK : Hid (∃ n, n = k + 16) := Lib.hid ⟨_, rfl⟩
          have HI : Hid (((k + 16 : Nat) : Int) + 1 = ((k + 1 + 16 : Nat) : Int)) := Lib.hid (by omega)
          generalize xw l k k = x0 at *
          generalize xw l k (k + 1) = x1 at *
          generalize xw l k (k + 9) = x9 at *
          generalize xw l k (k + 14) = x14 at *
          generalize xw l k (k + 16) = x16 at *
          generalize k + 16 = m16 at *
          generalize k + 14 = m14 at *
          generalize k + 9 = m9 at *
          generalize hm1 : k + 1 = m1 at *
          have HM1 := Lib.hid hm1
          clear hm1
          obtain ⟨k0, _⟩ := k0
          obtain ⟨k1, _⟩ := k1
          obtain ⟨k9, _⟩ := k9
          obtain ⟨k14, _⟩ := k14
          obtain ⟨k16, f16⟩ := k16
          go_wp2_with fail
          go_quiet (fail)
          have hA := ha.drewN nq
          have hZ := hz.drewN nq
          have hB := hb.trans (show Below w.heap.size wr (wr.drewN nq) from ⟨rfl, rfl, rfl, Nat.le_refl _, fun _ _ => rfl⟩)
          have K0 : (wr.drewN nq).cell? ⟨w.heap.size + 1, k, none⟩ = some (c32 x0) := k0
          have K9 : (wr.drewN nq).cell? ⟨w.heap.size + 1, m9, none⟩ = some (c32 x9) := k9
          have K16 : (wr.drewN nq).cell? ⟨w.heap.size + 1, m16, none⟩ = some (c32 x16) := k16
          have F16 : (wr.drewN nq).frozen? ⟨w.heap.size + 1, m16, none⟩ = false := f16
          clear k0 k1 k9 k14 k16 f16 ha hz hb
          generalize wr.drewN nq = w1 at *
          have R1 : Hid (RI .i64 (w1.alloc (.cells #[.int .i64 17, .int .i64 19] 3)) (some ⟨w1.heap.size, 0, none⟩) 2 2 (ints [17, 19])) := Lib.hid (RI.lit .i64 w1 (ints [17, 19]) 3 (by decide))
          have R2 : Hid (RI .i64 ((w1.alloc (.cells #[.int .i64 17, .int .i64 19] 3)).alloc (.cells #[.int .i64 7, .int .i64 18] 3)) (some ⟨w1.heap.size + 1, 0, none⟩) 2 2 (ints [7, 18])) := Lib.hid (by
            have := RI.lit .i64 (w1.alloc (.cells #[.int .i64 17, .int .i64 19] 3)) (ints [7, 18]) 3 (by decide)
            rw [show (w1.alloc (.cells #[.int .i64 17, .int .i64 19] 3)).heap.size = w1.heap.size + 1 from by simp] at this
            exact this)
          go_wp2_with (first
            | (go_at_call_of 64 (c32 x14); refine (rotated_any x14 (some ⟨w1.heap.size, 0, none⟩) 2 2 [17, 19] (w1.alloc (.cells #[.int .i64 17, .int .i64 19] 3)) R1.out (by decide)).mono ?_; rintro e w' ⟨rfl, rfl⟩)
            | (go_at_call_of 64 (c32 x1); refine (rotated_any x1 (some ⟨w1.heap.size + 1, 0, none⟩) 2 2 [7, 18] ((w1.alloc (.cells #[.int .i64 17, .int .i64 19] 3)).alloc (.cells #[.int .i64 7, .int .i64 18] 3)) R2.out (by decide)).mono ?_; rintro e w' ⟨rfl, rfl⟩))
          have HN : Hid (bits BinOp.xor IntKind.u32 ((rrs [17, 19] x14).toNat : Int) ((x14.toNat : Int) / 1024) = ((rrs [17, 19] x14 ^^^ x14 >>> 10).toNat : Int)) := Lib.hid
            ((congrArg (fun z => bits BinOp.xor IntKind.u32 ((rrs [17, 19] x14).toNat : Int) z) (show _ = ((x14 >>> 10).toNat : Int) from w_shr x14 10 (by omega))).trans (w_xor _ _))
          have HF : Hid (bits BinOp.xor IntKind.u32 ((rrs [7, 18] x1).toNat : Int) ((x1.toNat : Int) / 8) = ((rrs [7, 18] x1 ^^^ x1 >>> 3).toNat : Int)) := Lib.hid
            ((congrArg (fun z => bits BinOp.xor IntKind.u32 ((rrs [7, 18] x1).toNat : Int) z) (show _ = ((x1 >>> 3).toNat : Int) from w_shr x1 3 (by omega))).trans (w_xor _ _))
          rw [HN.out, HF.out]
          have hA2 := (hA.alloc (.cells #[.int .i64 17, .int .i64 19] 3)).alloc (.cells #[.int .i64 7, .int .i64 18] 3)
          have hZ2 := (hZ.alloc (.cells #[.int .i64 17, .int .i64 19] 3)).alloc (.cells #[.int .i64 7, .int .i64 18] 3)
          have hB2 := (hB.alloc hB.size (.cells #[.int .i64 17, .int .i64 19] 3)).alloc (by have := hB.size; simp; omega) (.cells #[.int .i64 7, .int .i64 18] 3)
          have hg := hA.lt (by omega)
          have L0 := (World.cell?_alloc_lt (w1.alloc (.cells #[.int .i64 17, .int .i64 19] 3)) (.cells #[.int .i64 7, .int .i64 18] 3) ⟨w.heap.size + 1, k, none⟩ (by simp; omega)).trans ((World.cell?_alloc_lt w1 _ _ hg).trans K0)
          have L9 := (World.cell?_alloc_lt (w1.alloc (.cells #[.int .i64 17, .int .i64 19] 3)) (.cells #[.int .i64 7, .int .i64 18] 3) ⟨w.heap.size + 1, m9, none⟩ (by simp; omega)).trans ((World.cell?_alloc_lt w1 _ _ hg).trans K9)
          obtain ⟨L16, F17⟩ := hA2 m16 b16
          clear K0 K9 K16 F16 hA hZ hB hg R1 R2 HN HF c1 c14 e14 e1
          generalize rrs [17, 19] x14 ^^^ x14 >>> 10 = near at *
          generalize rrs [7, 18] x1 ^^^ x1 >>> 3 = far at *
          generalize (w1.alloc (.cells #[.int .i64 17, .int .i64 19] 3)).alloc (.cells #[.int .i64 7, .int .i64 18] 3) = w2 at *
          have W0 : IntKind.i64.wrap ((m16 : Int) - 16) = (k : Int) := by rw [IntWalk.i64_in _ (by omega)]; exact e0
          have W9 : IntKind.i64.wrap ((m16 : Int) - 7) = (m9 : Int) := by rw [IntWalk.i64_in _ (by omega)]; exact e9
          clear e0 e9
          have hA3 := (hA2.set m16 (near + x9 + far + x0)).drew
          rw [← HW.out] at hA3
          have hZ3 := (hZ2.far (g_set w2 (w.heap.size + 1) m16 (c32 (near + x9 + far + x0))) (by simp)).drew
          have hB3 := (hB2.setCell (p := ⟨w.heap.size + 1, m16, none⟩) (by simp) (c32 (near + x9 + far + x0))).drew
          go_region_with (first | fail)
          all_goals
            rw [w_addw, w_addw, w_addw]
            clear HW hA2 hZ2 hB2 L0 L9 L16 F17 W0 W9
            generalize near + x9 + far + x0 = nx at *
            go_wp2_with fail
            go_roundw
            case rel => exact ⟨m1, by have := HM1.out; omega, by rw [HI.out], hA3, hZ3, hB3⟩
            case measure => have := HM1.out; have := HI.out; simp [intOf]; omega
        · obtain rfl : k = 48 := by omega
          have hA := ha.congr (xw_all l)
          have hc := ha.range
          have ht := hz.there
          go_wp2_with (first
            | (refine wpList_load_mid rfl 100 (.tmp 3) rfl _ 0 rfl (cells 64 (ww l)) (.array 64 38) hA.range Tryd.underlying100 rfl info64 ?_)
            | (refine wpList_store_mid rfl 100 (.tmp 2) (.tmp 67) rfl _ 0 (cells 64 (ww l)).toArray rfl rfl ht info64 (all_oneCell_toArray (cells_one 64 _)) ?_))
          refine bodyPost_ret (results_cell_mid rfl _ _ w.heap.size (cells 64 (ww l)) (.array 64 38) rfl (World.rangeAt_setCells_same _ _ _ _ (by rw [cells_length]; exact ht)) Tryd.underlying100 rfl info64) rfl ⟨rfl, below_setCells _ (Nat.le_refl _) _ _ _ hb⟩
end Go.Proofs.YtgkonmjchdpohaaDoor
