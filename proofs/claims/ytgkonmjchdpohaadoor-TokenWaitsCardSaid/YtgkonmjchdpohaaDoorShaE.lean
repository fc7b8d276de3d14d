/- The contracts of what ends a text, and of the digest's bytes. Conditions: a text of at most 2^38 bytes; the receiver is a block of eight words. -/
import Derived.Test.YtgkonmjchdpohaaDoorPut
import Derived.Test.YtgkonmjchdpohaaDoorShaT
import Derived.Test.YtgkonmjchdpohaaDoorArb
namespace Go.Proofs.YtgkonmjchdpohaaDoor
set_option linter.unusedVariables false
set_option linter.unusedSimpArgs false
open Go.RowKit

theorem ends_eq (n : Nat) (h : n ≤ 274877906944) : ends n = (List.replicate ((119 - n % 64) % 64 + 1) (0 : UInt8)).set 0 128 ++ be (8 * n) 8 := by
  unfold ends
  rw [Nat.mod_eq_of_lt (show 8 * n < 18446744073709551616 by omega), List.replicate_succ]
  rfl
theorem made_bv (n : Nat) : (madeCells (Value.int .u8 0).cells (n * 1)).toList = bv (List.replicate n 0) := by
  rw [Nat.mul_one]
  simp [madeCells, bv, Value.cells, Nat.mod_one, List.map_const']

set_option maxHeartbeats 400000 in
theorem ending_any (n : Nat) (w : World) (hn : n ≤ 274877906944) :
    Calls Tryd.prog 36 #[.int .i64 (n : Int)] w (MadeRB w ((119 - n % 64) % 64 + 1 + 8) (ends n)) := by
  obtain ⟨i0, hi, hz0, hz1, hz2⟩ := info_parts infoByte
  have hz : (119 - (n : Int) % 64) % 64 = (((119 - n % 64) % 64 : Nat) : Int) := by omega
  have hlt := Nat.mod_lt (119 - n % 64) (show 0 < 64 by omega)
  have HE := Lib.hid (ends_eq n hn)
  generalize (119 - n % 64) % 64 = z at *
  have HI := Lib.hid hi
  have H0 := Lib.hid hz0
  have H1 := Lib.hid hz1
  have H2 := Lib.hid hz2
  clear hi hz0 hz1 hz2
  have h8 : 8 * (n : Int) = ((8 * n : Nat) : Int) := by omega
  have hm : 8 * n < 18446744073709551616 := by omega
  generalize 8 * n = m at *
  go_enter Tryd.func36, Tryd.ntmps36
  go_wp2_with (first
    | (go_at_call 39; refine (Put_any (some ⟨w.heap.size, 0, none⟩) (z + 1) (z + 1) m 8 _ _ hr hm (by omega)).mono ?_; rintro e w3 ⟨A3, c3, rfl, hr3, hb3⟩)
    | (at_make; refine wpList_make_full w rfl (.tmp 10) (.tmp 10) 71 rfl w.heap.size 5 i0 _ 1 Tryd.underlying71 HI.out H0.out H1.out .i64 .i64 _ _ (z + 1) rfl rfl (by omega) (by omega) (by rw [H2.out]; omega) (by unfold maxLen; omega) (Nat.le_refl _) ?_
       intro w1 hown hg
       rw [made_bv] at hown
       obtain ⟨g, cap, hv, _, _, _, hc, hf⟩ := own_at hown (j := 0) (by omega)
       injection hv with e1 _ e3
       injection e1 with e1
       injection e1 with e1
       subst e1 e3
       have ho := own_set (j := 0) (x := 128) hown (by omega) (by omega)
       have hb2 : Below w.heap.size w (w1.setCell ⟨w.heap.size, 0, none⟩ (.int .u8 128)) := ((Below.refl _ _).grown hg (Nat.le_refl _) (fun k hk => by cases hk)).setCell (Nat.le_refl _) _
       obtain ⟨A2, c2, hv2, hr, _⟩ := RB.of_own ho
       injection hv2 with e1 _ e3
       subst e1 e3
       clear hown hg ho))
  go_ret
  have e : (z + 1 + wn 8) = z + 1 + 8 := rfl
  rw [HE.out]
  exact ⟨A3, c3, rfl, hr3, hb2.trans (hb3.mono hb2.size)⟩

theorem info32 : (Tryd.prog.info? 69).map (·.size) = some 32 := by kernel_rfl
theorem byte_of (x : UInt32) (m : Nat) : ((x.toNat : Int) / 2 ^ m) % 256 = ((UInt8.ofNat (x.toNat / 2 ^ m % 256)).toNat : Int) := by
  rw [UInt8.toNat_ofNat']
  have e : (x.toNat : Int) / 2 ^ m = ((x.toNat / 2 ^ m : Nat) : Int) := by
    rw [Int.natCast_ediv, Int.natCast_pow]; rfl
  rw [e]
  omega
/-- The digest's first k bytes. -/
def dgs (f : Nat → UInt32) (k : Nat) : Nat → UInt8 := fun i => if i < k then UInt8.ofNat ((f (i / 4)).toNat / 2 ^ (24 - 8 * (i % 4)) % 256) else 0
theorem dgs_zero (f : Nat → UInt32) : dgs f 0 = fun _ => 0 := by funext i; simp [dgs]
theorem dgs_step (f : Nat → UInt32) (k : Nat) : putb (dgs f k) k (UInt8.ofNat ((f (k / 4)).toNat / 2 ^ (24 - 8 * (k % 4)) % 256)) = dgs f (k + 1) := by
  funext i
  unfold putb dgs
  by_cases h : i = k
  · subst h; simp
  · by_cases h2 : i < k
    · simp [h, h2, Nat.lt_succ_of_lt h2]
    · simp [h, h2, show ¬ i < k + 1 by omega]
def dgl (f : Nat → UInt32) : List UInt8 := (List.range 32).map fun i => UInt8.ofNat ((f (i / 4)).toNat / 2 ^ (24 - 8 * (i % 4)) % 256)

set_option maxRecDepth 8000 in
set_option maxHeartbeats 800000 in
theorem digest_any (b : Nat) (f : Nat → UInt32) (w : World) (h : Arr w b 8 f) :
    Calls Tryd.prog 38 #[.pointer (some ⟨b, 0, none⟩)] w fun e w' => e = .returned (.agg (bv (dgl f)).toArray) ∧ Below w.heap.size w w' := by
  have z1 := Arb.zero w 32 69
  have z2 := Arb.zero (w.alloc (.cells (List.replicate 32 (Value.int .u8 0)).toArray 69)) 32 69
  rw [show (w.alloc (.cells (List.replicate 32 (Value.int .u8 0)).toArray 69)).heap.size = w.heap.size + 1 from by simp] at z2
  have z3 := z1.below (below_a _ (.cells (List.replicate 32 (Value.int .u8 0)).toArray 69))
  have zb := below_a2 w (.cells (List.replicate 32 (Value.int .u8 0)).toArray 69) (.cells (List.replicate 32 (Value.int .u8 0)).toArray 69)
  go_enter Tryd.func38, Tryd.ntmps38
  go_wp2_with fail
  go_loopw [5] (fun i wr => ∃ k : Nat, k ≤ 32 ∧ i = .int .i64 k ∧ Arb wr (w.heap.size + 1) 32 (dgs f k) ∧ Arb wr w.heap.size 32 (fun _ => 0) ∧ Below w.heap.size w wr) (fun i _ => 32 - (intOf i).toNat)
  case atStart => exact ⟨0, Nat.zero_le _, rfl, by rw [dgs_zero]; exact z2, z3, zb⟩
  case round =>
    obtain ⟨k, hk, rfl, ha, hz, hb⟩ := hrel
    clear z1 z2 z3 zb
    by_cases hlt : k < 32
    · have hlt' : (k : Int) < 32 := by omega
      have hq : (k : Int) / 4 = ((k / 4 : Nat) : Int) := by omega
      have hq1 : k / 4 < 8 := by omega
      have hq2 : ((k / 4 : Nat) : Int) < 8 := by omega
      have hs : 24 - 8 * ((k : Int) % 4) = ((24 - 8 * (k % 4) : Nat) : Int) := by omega
      have hs2 : 24 - 8 * (k % 4) ≤ 32 := by omega
      obtain ⟨c1, _⟩ := (h.below hb) (k / 4) hq1
      obtain ⟨c2, f2⟩ := ha k hlt
      have HS := Lib.hid (dgs_step f k)
      generalize k / 4 = q at *
      generalize 24 - 8 * (k % 4) = m at *
      generalize f q = x at *
      have HB := Lib.hid (byte_of x m)
      generalize UInt8.ofNat (x.toNat / 2 ^ m % 256) = y at *
      go_wp2_with fail
      rw [HB.out]
      go_roundw
      case rel => exact ⟨k + 1, by omega, by go_num, by rw [← HS.out]; exact ha.set k y, hz.far (g_set _ _ _ _) (by simp), hb.setCell (by simp) _⟩
      case measure => simp [intOf]; omega
    · obtain rfl : k = 32 := by omega
      have hA := Lib.hid ha.range
      have hT := Lib.hid hz.there
      have hD : Hid ((List.range 32).map (dgs f 32) = dgl f) := Lib.hid (by
        unfold dgl
        apply List.map_congr_left
        intro i hi
        have : i < 32 := by simpa using hi
        simp [dgs, this])
      rw [hD.out] at hA
      have hl : (bv (dgl f)).length = 32 := by simp [bv, dgl]
      have hi : (Tryd.prog.info? 69).map (·.size) = some (bv (dgl f)).length := by rw [hl]; exact info32
      have hT2 : wr.there w.heap.size 0 (bv (dgl f)).toArray.size := by show wr.there w.heap.size 0 (bv (dgl f)).length; rw [hl]; exact hT.out
      have HI := Lib.hid hi
      have HT := Lib.hid hT2
      clear hi hT2 hT hD
      go_wp2_with (first
        | ((with_reducible refine wpList_here ?_); refine wpList_load_mid rfl 69 (.tmp 3) rfl _ 0 rfl (bv (dgl f)) (.array 32 5) hA.out Tryd.underlying69 rfl HI.out ?_)
        | ((with_reducible refine wpList_here ?_); refine wpList_store_mid rfl 69 (.tmp 2) (.tmp 23) rfl _ 0 (bv (dgl f)).toArray rfl rfl HT.out HI.out (all_oneCell_toArray (bv_one _)) ?_))
      refine bodyPost_ret (results_cell_mid rfl _ _ w.heap.size (bv (dgl f)) (.array 32 5) rfl (World.rangeAt_setCells_same _ _ _ _ (show wr.there _ 0 (bv (dgl f)).length from HT.out)) Tryd.underlying69 rfl HI.out) rfl ⟨rfl, below_setCells _ (Nat.le_refl _) _ _ _ hb⟩
end Go.Proofs.YtgkonmjchdpohaaDoor
