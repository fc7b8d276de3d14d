/- The contract of the digest's schedule. Condition: a block of 64 bytes.
The contract of a block's share. Conditions: the receiver is a block of eight words, not the table's; a block of 64 bytes; the table holds FIPS 180-4's constants.
Out of the row's condition: the package's table holds FIPS 180-4's constants. Condition: the listed variable reads as the program's text lays it.
Between two worlds: which blocks alone may have turned. No condition. -/
import Derived.Test.YthfblaiocdgkbaaDoorMg2
import Derived.Deep.RegionHeld3
import Derived.Test.YthfblaiocdgkbaaDoorRows
import Derived.Lib.LaidTab
import Derived.LaidMore
import Derived.LaidByTextLater
import Derived.Test.YthfblaiocdgkbaaDoorMg1
import Derived.Maps.AppendAt
import Derived.Maps.OwnSet
import Derived.Maps.RangeWalk
import Derived.Deep.OwnRows
namespace Go.Proofs.YthfblaiocdgkbaaDoor
set_option linter.unusedVariables false
set_option linter.unusedSimpArgs false
open Go.RowKit

theorem info64 : (Tryd.prog.info? 100).map (·.size) = some 64 := by kernel_rfl
/-- What schedule answers: the words, as an array. -/
def Words64 (l : List UInt8) (W : World) (e : Ending) (w' : World) : Prop := e = .returned (.agg (cells 64 (ww l)).toArray) ∧ Below W.heap.size W w'

set_option maxRecDepth 8000 in
set_option maxHeartbeats 1600000 in
theorem schedule_any (A : Option Addr) (c : Nat) (l : List UInt8) (w : World) (h : RB w A 64 c l) :
    Calls Tryd.prog 48 #[.slice A 64 c] w (Words64 l w) := by
  have hn := h.max
  have hn' := h.cap
  go_enter Tryd.func48, Tryd.ntmps48
  go_wp2_with fail
  have hl := Lib.hid h.len
  have z1 := Arr.zero w 64 100
  have z2 := Arr.zero (w.alloc (.cells (List.replicate 64 (Value.int .u32 0)).toArray 100)) 64 100
  rw [show (w.alloc (.cells (List.replicate 64 (Value.int .u32 0)).toArray 100)).heap.size = w.heap.size + 1 from by simp] at z2
  have z3 := z1.alloc (.cells (List.replicate 64 (Value.int .u32 0)).toArray 100)
  have zb := below_a2 w (.cells (List.replicate 64 (Value.int .u32 0)).toArray 100) (.cells (List.replicate 64 (Value.int .u32 0)).toArray 100)
  go_loopw [11] (fun i wr => ∃ k : Nat, k ≤ 64 ∧ i = .int .i64 k ∧ Arr wr (w.heap.size + 1) 64 (bw l k) ∧ Arr wr w.heap.size 64 (fun _ => 0) ∧ Below w.heap.size w wr) (fun i _ => 64 - (intOf i).toNat)
  case atStart => exact ⟨0, Nat.zero_le _, rfl, z2, z3, zb⟩
  case round =>
    obtain ⟨k, hk, rfl, ha, hz, hb⟩ := hrel
    clear z1 z2 z3 zb
    by_cases hlt : k < 64
    · obtain ⟨b, o, rfl, hc⟩ := (h.below hb).at_ hlt
      have hlt' : (k : Int) < 64 := by omega
      have hq : (k : Int) / 4 = ((k / 4 : Nat) : Int) := by omega
      have hq1 : k / 4 < 64 := by omega
      have hq2 : ((k / 4 : Nat) : Int) < 64 := by omega
      obtain ⟨ka, kf⟩ := ha (k / 4) hq1
      have HW : Hid (bw l (k + 1) = put (bw l k) (k / 4) (bw l k (k / 4) <<< 8 ||| by4 (l.getD k 0))) := Lib.hid rfl
      have hx := (l.getD k 0).toNat_lt
      have HB : Hid ((((l.getD k 0).toNat : Nat) : Int) = ((by4 (l.getD k 0)).toNat : Int)) := Lib.hid (by unfold by4; rw [UInt32.toNat_ofNat']; omega)
      have HQ := Lib.hid hq
      clear h
      generalize k / 4 = q at *
      generalize l.getD k 0 = y at *
      generalize bw l k q = x at *
      go_wp2_with fail
      have HE : Hid (bits BinOp.or IntKind.u32 ((x.toNat : Int) * 256 % 4294967296) (y.toNat : Int) = ((x <<< 8 ||| by4 y).toNat : Int)) := Lib.hid (by
        rw [HB.out]
        exact (congrArg (fun z => bits BinOp.or IntKind.u32 z ((by4 y).toNat : Int)) (show _ = ((x <<< 8).toNat : Int) from w_shl x 8 (by omega))).trans (w_or _ _))
      rw [HE.out]
      go_roundw
      case rel => exact ⟨k + 1, by omega, by go_num, by rw [HW.out]; exact ha.set q _, hz.far (g_set _ _ _ _) (by simp), hb.setCell (by simp) _⟩
      case measure => simp [intOf]; omega
    · obtain rfl : k = 64 := by omega
      rw [show ((64 : Nat) : Int) = 64 from rfl]
      go_wp2_with fail
      go_loopw [6] (fun i wr => ∃ k : Nat, k ≤ 48 ∧ i = .int .i64 ((k + 16 : Nat) : Int) ∧ Arr wr (w.heap.size + 1) 64 (xw l k) ∧ Arr wr w.heap.size 64 (fun _ => 0) ∧ Below w.heap.size w wr) (fun i _ => 64 - (intOf i).toNat)
      case atStart => exact ⟨0, Nat.zero_le _, rfl, ha, hz, hb⟩
      case round =>
        obtain ⟨k, hk, rfl, ha, hz, hb⟩ := hrel
        by_cases hlt : k < 48
        · have k0 := ha k (by omega)
          have k1 := ha (k + 1) (by omega)
          have k9 := ha (k + 9) (by omega)
          have k14 := ha (k + 14) (by omega)
          have k16 := ha (k + 16) (by omega)
          have HW : Hid (xw l (k + 1) = put (xw l k) (k + 16) ((rrs [17, 19] (xw l k (k + 14)) ^^^ xw l k (k + 14) >>> 10) + xw l k (k + 9) + (rrs [7, 18] (xw l k (k + 1)) ^^^ xw l k (k + 1) >>> 3) + xw l k k)) := Lib.hid rfl
          have e0 : ((k + 16 : Nat) : Int) - 16 = (k : Int) := by omega
          have e1 : ((k + 16 : Nat) : Int) - 15 = ((k + 1 : Nat) : Int) := by omega
          have e9 : ((k + 16 : Nat) : Int) - 7 = ((k + 9 : Nat) : Int) := by omega
          have e14 : ((k + 16 : Nat) : Int) - 2 = ((k + 14 : Nat) : Int) := by omega
          have d0 : k + 16 ≠ k := by omega
          have d9 : k + 16 ≠ k + 9 := by omega
          have b0 : k < 64 := by omega
          have b1 : k + 1 < 64 := by omega
          have b9 : k + 9 < 64 := by omega
          have b14 : k + 14 < 64 := by omega
          have b16 : k + 16 < 64 := by omega
          have c0 : (k : Int) < 64 := by omega
          have c1 : ((k + 1 : Nat) : Int) < 64 := by omega
          have c9 : ((k + 9 : Nat) : Int) < 64 := by omega
          have c14 : ((k + 14 : Nat) : Int) < 64 := by omega
          have c16 : ((k + 16 : Nat) : Int) < 64 := by omega
          have HK : Hid (∃ n, n = k + 16) := Lib.hid ⟨_, rfl⟩
          have HI : Hid (((k + 16 : Nat) : Int) + 1 = ((k + 1 + 16 : Nat) : Int)) := Lib.hid (by omega)
          generalize xw l k k = x0 at *
          generalize xw l k (k + 1) = x1 at *
          generalize xw l k (k + 9) = x9 at *
          generalize xw l k (k + 14) = x14 at *
          generalize xw l k (k + 16) = x16 at *
          generalize k + 16 = m16 at *
          generalize k + 14 = m14 at *
          generalize k + 9 = m9 at *
          generalize hm1 : k + 1 = m1 at *
          have HM1 := Lib.hid hm1
          clear hm1
          obtain ⟨k0, _⟩ := k0
          obtain ⟨k1, _⟩ := k1
          obtain ⟨k9, _⟩ := k9
          obtain ⟨k14, _⟩ := k14
          obtain ⟨k16, f16⟩ := k16
          go_wp2_with fail
          go_quiet (fail)
          have hA := ha.drewN nq
          have hZ := hz.drewN nq
          have hB := hb.trans (show Below w.heap.size wr (wr.drewN nq) from ⟨rfl, rfl, rfl, Nat.le_refl _, fun _ _ => rfl⟩)
          have K0 : (wr.drewN nq).cell? ⟨w.heap.size + 1, k, none⟩ = some (c32 x0) := k0
          have K9 : (wr.drewN nq).cell? ⟨w.heap.size + 1, m9, none⟩ = some (c32 x9) := k9
          have K16 : (wr.drewN nq).cell? ⟨w.heap.size + 1, m16, none⟩ = some (c32 x16) := k16
          have F16 : (wr.drewN nq).frozen? ⟨w.heap.size + 1, m16, none⟩ = false := f16
          clear k0 k1 k9 k14 k16 f16 ha hz hb
          generalize wr.drewN nq = w1 at *
          have R1 : Hid (RI .i64 (w1.alloc (.cells #[.int .i64 17, .int .i64 19] 3)) (some ⟨w1.heap.size, 0, none⟩) 2 2 (ints [17, 19])) := Lib.hid (RI.lit .i64 w1 (ints [17, 19]) 3 (by decide))
          have R2 : Hid (RI .i64 ((w1.alloc (.cells #[.int .i64 17, .int .i64 19] 3)).alloc (.cells #[.int .i64 7, .int .i64 18] 3)) (some ⟨w1.heap.size + 1, 0, none⟩) 2 2 (ints [7, 18])) := Lib.hid (by
            have := RI.lit .i64 (w1.alloc (.cells #[.int .i64 17, .int .i64 19] 3)) (ints [7, 18]) 3 (by decide)
            rw [show (w1.alloc (.cells #[.int .i64 17, .int .i64 19] 3)).heap.size = w1.heap.size + 1 from by simp] at this
            exact this)
          go_wp2_with (first
            | (go_at_call_of 64 (c32 x14); refine (rotated_any x14 (some ⟨w1.heap.size, 0, none⟩) 2 2 [17, 19] (w1.alloc (.cells #[.int .i64 17, .int .i64 19] 3)) R1.out (by decide)).mono ?_; rintro e w' ⟨rfl, rfl⟩)
            | (go_at_call_of 64 (c32 x1); refine (rotated_any x1 (some ⟨w1.heap.size + 1, 0, none⟩) 2 2 [7, 18] ((w1.alloc (.cells #[.int .i64 17, .int .i64 19] 3)).alloc (.cells #[.int .i64 7, .int .i64 18] 3)) R2.out (by decide)).mono ?_; rintro e w' ⟨rfl, rfl⟩))
          have HN : Hid (bits BinOp.xor IntKind.u32 ((rrs [17, 19] x14).toNat : Int) ((x14.toNat : Int) / 1024) = ((rrs [17, 19] x14 ^^^ x14 >>> 10).toNat : Int)) := Lib.hid
            ((congrArg (fun z => bits BinOp.xor IntKind.u32 ((rrs [17, 19] x14).toNat : Int) z) (show _ = ((x14 >>> 10).toNat : Int) from w_shr x14 10 (by omega))).trans (w_xor _ _))
          have HF : Hid (bits BinOp.xor IntKind.u32 ((rrs [7, 18] x1).toNat : Int) ((x1.toNat : Int) / 8) = ((rrs [7, 18] x1 ^^^ x1 >>> 3).toNat : Int)) := Lib.hid
            ((congrArg (fun z => bits BinOp.xor IntKind.u32 ((rrs [7, 18] x1).toNat : Int) z) (show _ = ((x1 >>> 3).toNat : Int) from w_shr x1 3 (by omega))).trans (w_xor _ _))
          rw [HN.out, HF.out]
          have hA2 := (hA.alloc (.cells #[.int .i64 17, .int .i64 19] 3)).alloc (.cells #[.int .i64 7, .int .i64 18] 3)
          have hZ2 := (hZ.alloc (.cells #[.int .i64 17, .int .i64 19] 3)).alloc (.cells #[.int .i64 7, .int .i64 18] 3)
          have hB2 := (hB.alloc hB.size (.cells #[.int .i64 17, .int .i64 19] 3)).alloc (by have := hB.size; simp; omega) (.cells #[.int .i64 7, .int .i64 18] 3)
          have hg := hA.lt (by omega)
          have L0 := (World.cell?_alloc_lt (w1.alloc (.cells #[.int .i64 17, .int .i64 19] 3)) (.cells #[.int .i64 7, .int .i64 18] 3) ⟨w.heap.size + 1, k, none⟩ (by simp; omega)).trans ((World.cell?_alloc_lt w1 _ _ hg).trans K0)
          have L9 := (World.cell?_alloc_lt (w1.alloc (.cells #[.int .i64 17, .int .i64 19] 3)) (.cells #[.int .i64 7, .int .i64 18] 3) ⟨w.heap.size + 1, m9, none⟩ (by simp; omega)).trans ((World.cell?_alloc_lt w1 _ _ hg).trans K9)
          obtain ⟨L16, F17⟩ := hA2 m16 b16
          clear K0 K9 K16 F16 hA hZ hB hg R1 R2 HN HF c1 c14 e14 e1
          generalize rrs [17, 19] x14 ^^^ x14 >>> 10 = near at *
          generalize rrs [7, 18] x1 ^^^ x1 >>> 3 = far at *
          generalize (w1.alloc (.cells #[.int .i64 17, .int .i64 19] 3)).alloc (.cells #[.int .i64 7, .int .i64 18] 3) = w2 at *
          have W0 : IntKind.i64.wrap ((m16 : Int) - 16) = (k : Int) := by rw [IntWalk.i64_in _ (by omega)]; exact e0
          have W9 : IntKind.i64.wrap ((m16 : Int) - 7) = (m9 : Int) := by rw [IntWalk.i64_in _ (by omega)]; exact e9
          clear e0 e9
          have hA3 := (hA2.set m16 (near + x9 + far + x0)).drew
          rw [← HW.out] at hA3
          have hZ3 := (hZ2.far (g_set w2 (w.heap.size + 1) m16 (c32 (near + x9 + far + x0))) (by simp)).drew
          have hB3 := (hB2.setCell (p := ⟨w.heap.size + 1, m16, none⟩) (by simp) (c32 (near + x9 + far + x0))).drew
          go_region_with (first | fail)
          all_goals
            rw [w_addw, w_addw, w_addw]
            clear HW hA2 hZ2 hB2 L0 L9 L16 F17 W0 W9
            generalize near + x9 + far + x0 = nx at *
            go_wp2_with fail
            go_roundw
            case rel => exact ⟨m1, by have := HM1.out; omega, by rw [HI.out], hA3, hZ3, hB3⟩
            case measure => have := HM1.out; have := HI.out; simp [intOf]; omega
        · obtain rfl : k = 48 := by omega
          have hA := ha.congr (xw_all l)
          have hc := ha.range
          have ht := hz.there
          go_wp2_with (first
            | (refine wpList_load_mid rfl 100 (.tmp 3) rfl _ 0 rfl (cells 64 (ww l)) (.array 64 38) hA.range Tryd.underlying100 rfl info64 ?_)
            | (refine wpList_store_mid rfl 100 (.tmp 2) (.tmp 67) rfl _ 0 (cells 64 (ww l)).toArray rfl rfl ht info64 (all_oneCell_toArray (cells_one 64 _)) ?_))
          refine bodyPost_ret (results_cell_mid rfl _ _ w.heap.size (cells 64 (ww l)) (.array 64 38) rfl (World.rangeAt_setCells_same _ _ _ _ (by rw [cells_length]; exact ht)) Tryd.underlying100 rfl info64) rfl ⟨rfl, below_setCells _ (Nat.le_refl _) _ _ _ hb⟩
end Go.Proofs.YthfblaiocdgkbaaDoor

namespace Go.Proofs.YthfblaiocdgkbaaDoor
set_option linter.unusedVariables false
set_option linter.unusedSimpArgs false
open Go.RowKit

/-- The table of constants, as the package's variable holds it. -/
def Tab (w : World) : Prop := ∀ i, i < 64 → w.cell? ⟨0, i, none⟩ = some (c32 (kn i))
theorem Tab.lt {w : World} (h : Tab w) : 0 < w.heap.size := World.block_lt_of_cell? w _ (h 0 (by omega))
theorem Tab.far {w w' : World} {row : Option Nat} (h : Tab w) (hg : w.grownBy w' row) (hne : some 0 ≠ row) : Tab w' := fun i hi => (hg.cell_far _ h.lt hne).trans (h i hi)
theorem Tab.below {w w' : World} (h : Tab w) (hb : Below w.heap.size w w') : Tab w' := h.far (g_below hb none) (by simp)
theorem info8 : (Tryd.prog.info? 87).map (·.size) = some 8 := by kernel_rfl

theorem sizeOfWord (W : World) : (sizeOf 38).run Tryd.prog W = .ok 1 W := by kernel_rfl
theorem isAggWord (W : World) : (isAgg 38).run Tryd.prog W = .ok false W := by kernel_rfl
/-- An element of an array that is a value. -/
theorem run_index_words (W : World) (t : TypeId) (n : Nat) (cs : Array Value) (k : Nat) (v : Value) (ht : Tryd.prog.underlying t = some (.array n 38)) (hk : k < n) (hv : cs[k]? = some v) :
    (Instr.index t (.agg cs) (.int .i64 (k : Int))).run Tryd.prog W = .ok v W := by
  have hk' : (k : Int) < (n : Int) := by omega
  simp [Instr.index, run_underlying ht, asIntOf, hk', sizeOfWord, part, isAggWord, hv, show ¬ n ≤ k by omega]

theorem wpList_here {P : Program} {ops : Array Oper} {rest : List Oper} {op : Oper} {a : Act} {w : World} {Q : Exit → Act → World → Prop} (h : wpList P ops Q (op :: rest) a w) : wpList P ops Q (op :: rest) a w := h

set_option maxRecDepth 8000 in
set_option maxHeartbeats 400000 in
theorem take_any (b : Nat) (f : Nat → UInt32) (A : Option Addr) (c : Nat) (l : List UInt8) (w : World) (ha : Arr w b 8 f) (hr : RB w A 64 c l) (ht : Tab w) (hb : b ≠ 0) :
    Calls Tryd.prog 37 #[.pointer (some ⟨b, 0, none⟩), .slice A 64 c] w fun e w' => e = .returned (.tuple #[]) ∧ Arr w' b 8 (fun i => st l f 64 i + f i) ∧ w.grownBy w' (some b) := by
  go_enter Tryd.func37, Tryd.ntmps37
  have z0 : Arr (w.alloc (.cells #[.int .u32 0, .int .u32 0, .int .u32 0, .int .u32 0, .int .u32 0, .int .u32 0, .int .u32 0, .int .u32 0] 87)) w.heap.size 8 (fun _ => 0) := Arr.zero w 8 87
  have z1 := z0.whole f
  have hst := Lib.hid z0.there
  have bel0 : Below w.heap.size w ((w.alloc (.cells #[.int .u32 0, .int .u32 0, .int .u32 0, .int .u32 0, .int .u32 0, .int .u32 0, .int .u32 0, .int .u32 0] 87)).setCells w.heap.size 0 (cells 8 f)) := below_setCells _ (Nat.le_refl _) _ _ _ ((Below.refl _ _).alloc (Nat.le_refl _) _)
  have hbl := ha.lt (by omega)
  have hr1 := hr.below bel0
  have ha1 := ha.below bel0
  have ht1 := ht.below bel0
  have g1 := g_below bel0 none
  have hS := Lib.hid (schedule_any A c l ((w.alloc (.cells #[.int .u32 0, .int .u32 0, .int .u32 0, .int .u32 0, .int .u32 0, .int .u32 0, .int .u32 0, .int .u32 0] 87)).setCells w.heap.size 0 (cells 8 f)) hr1)
  have hL := Lib.hid ha.range
  clear z0 hr bel0 hr1
  go_wp2_with (first
    | (go_at_call 48; refine hS.out.mono ?_; rintro e w1 ⟨rfl, bel1⟩)
    | ((with_reducible refine wpList_here ?_); refine wpList_load_mid rfl 87 (.tmp 10) rfl _ 0 rfl (cells 8 f) (.array 8 38) hL.out Tryd.underlying87 rfl info8 ?_)
    | ((with_reducible refine wpList_here ?_); refine wpList_store_mid rfl 87 (.tmp 4) (.tmp 11) rfl w.heap.size 0 (cells 8 f).toArray rfl rfl hst.out info8 (all_oneCell_toArray (cells_one 8 _)) ?_; rw [List.toList_toArray]; generalize (w.alloc (.cells #[.int .u32 0, .int .u32 0, .int .u32 0, .int .u32 0, .int .u32 0, .int .u32 0, .int .u32 0, .int .u32 0] 87)).setCells w.heap.size 0 (cells 8 f) = w0 at *))
  have h1 := ha1.below bel1
  have h2 := z1.below bel1
  have h3 := ht1.below bel1
  have h4 := (g1.trans (g_below bel1 none))
  clear z1 g1 bel1 ha1 ht1 hS hL hst
  go_loopw [14] (fun i wr => ∃ k : Nat, k ≤ 64 ∧ i = .int .i64 k ∧ Arr wr b 8 (st l f k) ∧ Arr wr w.heap.size 8 f ∧ Tab wr ∧ w.grownBy wr (some b)) (fun i _ => 64 - (intOf i).toNat)
  case atStart => exact ⟨0, Nat.zero_le _, rfl, h1, h2, h3, h4.but _⟩
  case round =>
    obtain ⟨k, hk, rfl, q1, q2, q3, q4⟩ := hrel
    clear h1 h2 h3 h4
    by_cases hlt : k < 64
    · have hlt' : (k : Int) < 64 := by omega
      have hcg := cells_get 64 (ww l) k hlt
      have htk := q3 k hlt
      have hin := fun W => run_index_words W 100 64 _ k _ Tryd.underlying100 hlt hcg
      clear hcg
      have HS : Hid (st l f (k + 1) = rnd (st l f k) k (ww l k + kn k)) := Lib.hid rfl
      generalize ww l k = x at *
      generalize kn k = y at *
      go_wp2_with fail
      rw [w_add]
      refine (round_any b k (x + y) (st l f k) wr q1 hlt).mono ?_
      rintro e w2 ⟨rfl, r1, r2⟩
      rw [← HS.out] at r1
      have r3 := q2.far r2 (by simp; omega)
      have r4 := q3.far r2 (by simp; omega)
      have r5 := q4.trans r2
      clear q1 q2 q3 q4 r2 htk hin HS
      go_wp2_with fail
      go_roundw
      case rel => exact ⟨k + 1, by omega, by go_num, r1, r3, r4, r5⟩
      case measure => simp [intOf]; omega
    · obtain rfl : k = 64 := by omega
      have hL := Lib.hid q2.range
      go_wp2_with (((with_reducible refine wpList_here ?_); refine wpList_load_mid rfl 87 (.tmp 4) rfl _ 0 rfl (cells 8 f) (.array 8 38) hL.out Tryd.underlying87 rfl info8 ?_))
      generalize eS : st l f 64 = S at *
      have ES := Lib.hid eS
      clear eS
      go_loopw [28] (fun i wr => ∃ k : Nat, k ≤ 8 ∧ i = .int .i64 k ∧ Arr wr b 8 (ad S f k) ∧ w.grownBy wr (some b)) (fun i _ => 8 - (intOf i).toNat)
      case atStart => exact ⟨0, Nat.zero_le _, rfl, by rw [ad_zero]; exact q1, q4⟩
      case round =>
        obtain ⟨k, hk, rfl, q1, q4⟩ := hrel
        by_cases hlt : k < 8
        · have hlt' : (k : Int) < 8 := by omega
          have hin := fun W => run_index_words W 87 8 _ k _ Tryd.underlying87 hlt (cells_get 8 f k hlt)
          obtain ⟨k1, k2⟩ := q1 k hlt
          have hk3 : ad S f k k = S k := by simp [ad]
          rw [hk3] at k1
          have HS := Lib.hid (ad_step S f k)
          clear hk3
          generalize e1 : S k = x at *
          generalize e2 : f k = y at *
          clear e1 e2
          have hA := (q1.set k (x + y)).drew
          rw [HS.out] at hA
          have hG := (q4.trans (g_set wr b k (c32 (x + y)))).trans (g_drew _ _)
          clear q1 q4 HS
          go_wp2_with fail
          go_region_with (first | fail)
          all_goals
            rw [w_addw]
            generalize x + y = z at *
            go_wp2_with fail
            go_roundw
            case rel => exact ⟨k + 1, by omega, by go_num, hA, hG⟩
            case measure => simp [intOf]; omega
        · obtain rfl : k = 8 := by omega
          have hA := q1.congr (g := fun i => S i + f i) (fun j hj => by simp [ad, hj])
          go_wp2_with fail
          go_end0
          have e := ES.out
          subst e
          exact ⟨rfl, hA, q4⟩
end Go.Proofs.YthfblaiocdgkbaaDoor

namespace Go.Proofs.YthfblaiocdgkbaaDoor
set_option linter.unusedVariables false
set_option linter.unusedSimpArgs false

def kz : List Int := [1116352408, 1899447441, 3049323471, 3921009573, 961987163, 1508970993, 2453635748, 2870763221, 3624381080, 310598401, 607225278, 1426881987, 1925078388, 2162078206, 2614888103, 3248222580, 3835390401, 4022224774, 264347078, 604807628, 770255983, 1249150122, 1555081692, 1996064986, 2554220882, 2821834349, 2952996808, 3210313671, 3336571891, 3584528711, 113926993, 338241895, 666307205, 773529912, 1294757372, 1396182291, 1695183700, 1986661051, 2177026350, 2456956037, 2730485921, 2820302411, 3259730800, 3345764771, 3516065817, 3600352804, 4094571909, 275423344, 430227734, 506948616, 659060556, 883997877, 958139571, 1322822218, 1537002063, 1747873779, 1955562222, 2024104815, 2227730452, 2361852424, 2428436474, 2756734187, 3204031479, 3329325298]
theorem kz_kn : ∀ i, i < 64 → kz.getD i 0 = ((kn i).toNat : Int) := by decide +kernel
theorem gTab : Tryd.prog.globalNamed "ferrybridge/sha.factors" = some 0 := by kernel_rfl
theorem gTabType : (Tryd.prog.globals[0]?).map (·.type) = some 100 := by kernel_rfl
theorem tab_of {W : World} (h : laidMetH Tryd.prog [("ferrybridge/sha.factors", Rows.laid_ferrybridge_sha_factors)] W) : Tab W := by
  rw [MakeChecks.laidMetH_plain _ _ _ (by kernel_rfl)] at h
  have h' : laidMet Tryd.prog (("ferrybridge/sha.factors", Lib.tabData .u32 kz) :: []) W := h
  have hT := Lib.tabIs_of_head gTab gTabType Tryd.underlying100 Tryd.underlying38 (by kernel_rfl) (by kernel_rfl) h'
  intro i hi
  rw [hT.cell gTab i hi, kz_kn i hi]
end Go.Proofs.YthfblaiocdgkbaaDoor

namespace Go.Proofs.YthfblaiocdgkbaaDoor
set_option linter.unusedVariables false
set_option linter.unusedSimpArgs false
open Go.RowKit

/-- Between w and w' nothing has turned but blocks of which that is told. -/
structure Ch (w w' : World) (may : Nat → Prop) : Prop where
  os : w'.os = w.os
  tape : w'.tape = w.tape
  output : w'.output = w.output
  size : w.heap.size ≤ w'.heap.size
  block : ∀ k, k < w.heap.size → ¬ may k → w'.heap[k]? = w.heap[k]?

theorem Ch.refl (w : World) (may : Nat → Prop) : Ch w w may := ⟨rfl, rfl, rfl, Nat.le_refl _, fun _ _ _ => rfl⟩
theorem Ch.trans {a b c : World} {m m' m'' : Nat → Prop} (h : Ch a b m) (k : Ch b c m') (hm : ∀ x, x < a.heap.size → m x → m'' x) (hm' : ∀ x, x < a.heap.size → m' x → m'' x) : Ch a c m'' :=
  ⟨k.os.trans h.os, k.tape.trans h.tape, k.output.trans h.output, Nat.le_trans h.size k.size, fun x hx hn =>
    (k.block x (Nat.lt_of_lt_of_le hx h.size) (fun hc => hn (hm' x hx hc))).trans (h.block x hx (fun hc => hn (hm x hx hc)))⟩
theorem Ch.mono {a b : World} {m m' : Nat → Prop} (h : Ch a b m) (hm : ∀ x, x < a.heap.size → m x → m' x) : Ch a b m' := ⟨h.os, h.tape, h.output, h.size, fun x hx hn => h.block x hx (fun hc => hn (hm x hx hc))⟩
theorem Ch.then_ {a b c : World} {m : Nat → Prop} (h : Ch a b m) (k : Ch b c m) : Ch a c m := h.trans k (fun _ _ x => x) (fun _ _ x => x)
theorem Ch.drew {a b : World} {m : Nat → Prop} (h : Ch a b m) : Ch a b.drew m := ⟨h.os, h.tape, h.output, h.size, h.block⟩
theorem Ch.drewN {a b : World} {m : Nat → Prop} (h : Ch a b m) (n : Nat) : Ch a (b.drewN n) m := ⟨h.os, h.tape, h.output, h.size, h.block⟩
theorem Ch.alloc {a b : World} {m : Nat → Prop} (h : Ch a b m) (o : Obj) : Ch a (b.alloc o) m :=
  h.then_ ⟨rfl, rfl, rfl, by simp, fun k hk _ => Below.heap_alloc b o k hk⟩
theorem Ch.setCell {a b : World} {m : Nat → Prop} (h : Ch a b m) {p : Addr} (hp : p.block < a.heap.size → m p.block) (u : Value) : Ch a (b.setCell p u) m :=
  ⟨h.os, h.tape, h.output, by simpa [World.setCell] using h.size, fun k hk hn => by
    rw [Below.heap_setCell b p u k (fun e => hn (by rw [e]; exact hp (by rw [← e]; exact hk)))]
    exact h.block k hk hn⟩
theorem Ch.grown {a b c : World} {m : Nat → Prop} {row : Option Nat} (h : Ch a b m) (hg : b.grownBy c row) (hr : ∀ k, row = some k → k < a.heap.size → m k) : Ch a c m :=
  h.trans (m' := fun k => row = some k) ⟨hg.os, hg.tape, hg.output, hg.size, fun k hk hn => hg.block k hk (fun e => hn e.symm)⟩ (fun _ _ x => x) (fun x hx e => hr x e hx)
theorem Ch.turned {a b c : World} {m : Nat → Prop} {mb : Nat} (h : Ch a b m) (hg : b.mapTurned c mb) (hm : mb < a.heap.size → m mb) : Ch a c m :=
  h.grown hg.grown fun k e hk => by injection e with e; subst e; exact hm hk
theorem Ch.below {a b : World} {m : Nat → Prop} (h : Ch a b m) (hm : ∀ x, x < a.heap.size → ¬ m x) : Below a.heap.size a b :=
  ⟨h.os, h.tape, h.output, h.size, fun k hk => h.block k hk (hm k hk)⟩
theorem Ch.of_below {a b : World} (m : Nat → Prop) (h : Below a.heap.size a b) : Ch a b m := ⟨h.os, h.tape, h.output, h.size, fun k hk _ => h.block k hk⟩
theorem Ch.cell {a b : World} {m : Nat → Prop} (h : Ch a b m) {p : Addr} {v : Value} (hc : a.cell? p = some v) (hn : ¬ m p.block) : b.cell? p = some v :=
  (World.cell?_of_block (h.block p.block (World.block_lt_of_cell? a p hc) hn)).trans hc

theorem own_ch2 {w w' : World} {base size : Nat} {e : TypeId} {v : Value} {n : Nat} {xs : List Value} {m : Nat → Prop} (h : w.ownsRow base e size v n xs) (c : Ch w w' m) (hm : ∀ g, v.ownBlock = some g → ¬ m g) : w'.ownsRow base e size v n xs := by
  refine ⟨h.1, ?_⟩
  rcases h.2 with hn | ⟨g, cap, cur, hv, hb, hg, rest⟩
  · exact .inl hn
  · exact .inr ⟨g, cap, cur, hv, hb, (c.block g (Array.getElem?_eq_some_iff.1 hg).1 (hm g (by rw [hv]; rfl))).trans hg, rest⟩
theorem own_in {w : World} {base size : Nat} {e : TypeId} {v : Value} {n : Nat} {xs : List Value} (h : w.ownsRow base e size v n xs) {g : Nat} (hg : v.ownBlock = some g) : base ≤ g ∧ g < w.heap.size := by
  rcases h.2 with ⟨rfl, _⟩ | ⟨g', cap, cur, rfl, hb, hg', _⟩
  · cases hg
  · injection hg with hg
    subst hg
    exact ⟨hb, (Array.getElem?_eq_some_iff.1 hg').1⟩
theorem below_dn {B : Nat} {w w' : World} (h : Below B w w') (n : Nat) : Below B w (w'.drewN n) := ⟨h.os, h.tape, h.output, h.size, h.block⟩

end Go.Proofs.YthfblaiocdgkbaaDoor
