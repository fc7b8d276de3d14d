/- The contract of the digest: of any pieces it is the digest of all their bytes. Conditions: the pieces hold bytes, at most 2^38 of them; the table holds FIPS 180-4's constants. -/
import Derived.Test.YtgkonmjchdpohaaDoorShaE
namespace Go.Proofs.YtgkonmjchdpohaaDoor
set_option linter.unusedVariables false
set_option linter.unusedSimpArgs false
open Go.RowKit

theorem ends_length (n : Nat) : (ends n).length = (119 - n % 64) % 64 + 1 + 8 := by
  unfold ends
  simp [be_length]
theorem full_length (l : List UInt8) : (full l).length = l.length + ((119 - l.length % 64) % 64 + 1 + 8) := by
  rw [full, List.length_append, ends_length]
theorem full_blocks (l : List UInt8) : (full l).length = 64 * ((full l).length / 64) := by
  rw [full_length]
  omega

/-- A block of the text. -/
theorem cut64 {w : World} {A : Option Addr} {n c k : Nat} {l : List UInt8} (h : RB w A n c l) (hk : k + 64 ≤ n) :
    ∃ A2, (∀ W : World, (Instr.slice 71 (.slice A n c) (some (.int .i64 (k : Int))) (some (.int .i64 ((k : Int) + 64))) none).run Tryd.prog W = .ok (.slice A2 64 (c - k)) W) ∧ RB w A2 64 (c - k) ((l.drop k).take 64) := by
  have hc := h.cap
  have h2 := (h.drop (k := k) (by omega)).take (k := 64) (by omega)
  refine ⟨_, fun W => ?_, h2⟩
  rw [run_slice_lh (P := Tryd.prog) W 71 A n c elemOf .i64 .i64 (k : Int) ((k : Int) + 64) (by omega) (by omega) (by omega), sizeOfByte]
  have e : ((k : Int) + 64).toNat = k + 64 := by omega
  simp [Result.andThen, sliced, e]

/-- What the digest answers. -/
def Dig (l : List UInt8) (W : World) (e : Ending) (w' : World) : Prop := e = .returned (.agg (bv (dg l)).toArray) ∧ Below W.heap.size W w'

/-- The words at the beginning, in their new block. -/
theorem Arr.first (w : World) (t : TypeId) : Arr (w.alloc (.cells #[.int .u32 1779033703, .int .u32 3144134277, .int .u32 1013904242, .int .u32 2773480762, .int .u32 1359893119, .int .u32 2600822924, .int .u32 528734635, .int .u32 1541459225] t)) w.heap.size 8 (fun i => hh.getD i 0) :=
  Arr.new w [.int .u32 1779033703, .int .u32 3144134277, .int .u32 1013904242, .int .u32 2773480762, .int .u32 1359893119, .int .u32 2600822924, .int .u32 528734635, .int .u32 1541459225] t 8 _ fun j hj =>
    match j, hj with
    | 0, _ => rfl
    | 1, _ => rfl
    | 2, _ => rfl
    | 3, _ => rfl
    | 4, _ => rfl
    | 5, _ => rfl
    | 6, _ => rfl
    | 7, _ => rfl

set_option maxRecDepth 8000 in
set_option maxHeartbeats 1600000 in
theorem sha_any (A : Option Addr) (n c : Nat) (ps : List (List UInt8)) (w : World) (h : Parts w A n c ps) (ht : tl ps n ≤ 274877906944) (hT : Tab w) :
    Calls Tryd.prog 24 #[.slice A n c] w (Dig (fl ps n) w) := by
  have zb := below_a w (.cells #[.int .u8 0, .int .u8 0, .int .u8 0, .int .u8 0, .int .u8 0, .int .u8 0, .int .u8 0, .int .u8 0, .int .u8 0, .int .u8 0, .int .u8 0, .int .u8 0, .int .u8 0, .int .u8 0, .int .u8 0, .int .u8 0, .int .u8 0, .int .u8 0, .int .u8 0, .int .u8 0, .int .u8 0, .int .u8 0, .int .u8 0, .int .u8 0, .int .u8 0, .int .u8 0, .int .u8 0, .int .u8 0, .int .u8 0, .int .u8 0, .int .u8 0, .int .u8 0] 69)
  have z1 : Arb (w.alloc (.cells #[.int .u8 0, .int .u8 0, .int .u8 0, .int .u8 0, .int .u8 0, .int .u8 0, .int .u8 0, .int .u8 0, .int .u8 0, .int .u8 0, .int .u8 0, .int .u8 0, .int .u8 0, .int .u8 0, .int .u8 0, .int .u8 0, .int .u8 0, .int .u8 0, .int .u8 0, .int .u8 0, .int .u8 0, .int .u8 0, .int .u8 0, .int .u8 0, .int .u8 0, .int .u8 0, .int .u8 0, .int .u8 0, .int .u8 0, .int .u8 0, .int .u8 0, .int .u8 0] 69)) w.heap.size 32 (fun _ => 0) := Arb.zero w 32 69
  have h1 := h.below zb
  have t1 := hT.below zb
  have hsz : (w.alloc (.cells #[.int .u8 0, .int .u8 0, .int .u8 0, .int .u8 0, .int .u8 0, .int .u8 0, .int .u8 0, .int .u8 0, .int .u8 0, .int .u8 0, .int .u8 0, .int .u8 0, .int .u8 0, .int .u8 0, .int .u8 0, .int .u8 0, .int .u8 0, .int .u8 0, .int .u8 0, .int .u8 0, .int .u8 0, .int .u8 0, .int .u8 0, .int .u8 0, .int .u8 0, .int .u8 0, .int .u8 0, .int .u8 0, .int .u8 0, .int .u8 0, .int .u8 0, .int .u8 0] 69)).heap.size = w.heap.size + 1 := by simp
  have hg0 := hT.lt
  clear h hT
  have HLEN : Hid ((fl ps n).length = tl ps n) := Lib.hid rfl
  go_enter Tryd.func24, Tryd.ntmps24
  go_wp2_with fail
  generalize hw0 : World.alloc _ _ = w0 at *
  have HW := Lib.hid hw0
  clear hw0
  refine (Join_any A n c ps w0 h1 (by omega)).mono ?_
  rintro e w1 ⟨v1, rfl, own1, b1⟩
  obtain ⟨A1, c1, rfl, r1, _⟩ := RB.of_own own1
  have z2 := z1.below b1
  have t2 := t1.below b1
  have zb2 := below_trans zb b1
  clear own1 z1 t1 h1 zb
  generalize fl ps n = l at *
  generalize tl ps n = m at *
  have HF : Hid (l ++ ends m = full l) := Lib.hid (by unfold full; rw [HLEN.out])
  have hN : Hid (m + ((119 - m % 64) % 64 + 1 + 8) = 64 * ((full l).length / 64)) := Lib.hid (by rw [← full_blocks, full_length, HLEN.out])
  have hm9 : (119 - m % 64) % 64 + 1 + 8 ≤ 72 := by omega
  go_wp2_with (first
    | (go_at_call 36; refine (ending_any m w1 ht).mono ?_; rintro e w2 ⟨A2, c2, rfl, r2, b2⟩
       have r1' := r1.below b2
       have z3 := z2.below b2
       have t3 := t2.below b2
       have zb3 := below_trans zb2 b2
       clear r1 z2 t2 zb2)
    | (go_at_call 35; refine (Join_two rfl r1' r2 (by omega)).mono ?_; rintro e w3 ⟨A3, c3, rfl, r3, b3⟩
       have b4 := below_trans (below_a w2 _) b3
       have z4 := z3.below b4
       have t4 := t3.below b4
       have zb4 := below_trans zb3 b4
       rw [HF.out, hN.out] at r3
       rw [hN.out]
       clear r1' r2 b2 b3 b4 z3 t3 zb3))
  have a0 : Arr (w3.alloc (.cells #[.int .u32 1779033703, .int .u32 3144134277, .int .u32 1013904242, .int .u32 2773480762, .int .u32 1359893119, .int .u32 2600822924, .int .u32 528734635, .int .u32 1541459225] 87)) w3.heap.size 8 (fun i => (blocks (full l) 0).getD i 0) := Arr.first w3 _
  have b0 := below_a w3 (.cells #[.int .u32 1779033703, .int .u32 3144134277, .int .u32 1013904242, .int .u32 2773480762, .int .u32 1359893119, .int .u32 2600822924, .int .u32 528734635, .int .u32 1541459225] 87)
  have hsz3 := zb4.size
  have HDG : Hid (dg l = dgl (fun i => (blocks (full l) ((full l).length / 64)).getD i 0)) := Lib.hid rfl
  generalize (full l).length / 64 = B at *
  generalize full l = x at *
  clear hm9 HF hN HLEN b1 hsz HW
  have hc3 := r3.max
  have hcap := r3.cap
  go_loopw [5] (fun i wr => ∃ k : Nat, k ≤ B ∧ i = .int .i64 ((64 * k : Nat) : Int) ∧ Arr wr w3.heap.size 8 (fun i => (blocks x k).getD i 0) ∧ Below w3.heap.size w3 wr) (fun i _ => 64 * B - (intOf i).toNat)
  case atStart => exact ⟨0, Nat.zero_le _, rfl, a0, b0⟩
  case round =>
    obtain ⟨k, hk, rfl, ha, hb⟩ := hrel
    clear a0 b0
    by_cases hlt : k < B
    · have hlt' : 64 * k < 64 * B := by omega
      obtain ⟨A4, hcut, r4⟩ := cut64 (r3.below hb) (k := 64 * k) (by omega)
      have HS : Hid (∀ i, i < 8 → (blocks x (k + 1)).getD i 0 = st ((x.drop (64 * k)).take 64) (fun i => (blocks x k).getD i 0) 64 i + (blocks x k).getD i 0) := Lib.hid (by
        intro i hi
        rw [blocks_step]
        exact comp_at _ _ _ (fun _ _ => rfl) i hi)
      have HI : Hid (((64 * k : Nat) : Int) + 64 = ((64 * (k + 1) : Nat) : Int)) := Lib.hid (by omega)
      have t5 := t4.below hb
      have hne : w3.heap.size ≠ 0 := by have := t4.lt; omega
      have hmx : 64 * k + 64 ≤ 64 * B := by omega
      generalize (x.drop (64 * k)).take 64 = y at *
      generalize 64 * k = q at *
      clear r3
      go_wp2_with (go_at_call 37; refine (take_any w3.heap.size _ A4 _ y wr ha r4 t5 hne).mono ?_; rintro e w5 ⟨rfl, a5, g5⟩)
      have a6 := a5.congr (fun i hi => (HS.out i hi).symm)
      have b6 := below_g hb g5 hb.size (Nat.le_refl _)
      clear a5 g5 ha hb t5 hcut r4 HS
      go_wp2_with fail
      go_roundw
      case rel => exact ⟨k + 1, by omega, by rw [HI.out], a6, b6⟩
      case measure => have := HI.out; simp [intOf]; omega
    · obtain rfl : k = B := by omega
      have z5 := z4.below hb
      have hi : (Tryd.prog.info? 69).map (·.size) = some (bv (dg l)).length := by rw [bv_length, dg_length]; exact info32
      have HI := Lib.hid hi
      clear hi r3 t4 z4
      go_wp2_with (first
        | (go_at_call 38; refine (digest_any w3.heap.size _ wr ha).mono ?_; rintro e w5 ⟨rfl, b5⟩
           have z6 := Lib.hid (z5.below b5).there
           have b6 := (below_trans zb4 hb).trans (b5.mono (Nat.le_trans hsz3 hb.size))
           clear z5 b5
           rw [← HDG.out])
        | ((with_reducible refine wpList_here ?_); refine wpList_store_mid rfl 69 (.tmp 2) (.tmp 27) rfl w.heap.size 0 (bv (dg l)).toArray rfl rfl (show w5.there w.heap.size 0 (bv (dg l)).length from by rw [bv_length, dg_length]; exact z6.out) HI.out (all_oneCell_toArray (bv_one _)) ?_))
      refine bodyPost_ret (results_cell_mid rfl _ _ w.heap.size (bv (dg l)) (.array 32 5) rfl (World.rangeAt_setCells_same _ _ _ _ (show w5.there w.heap.size 0 (bv (dg l)).length from by rw [bv_length, dg_length]; exact z6.out)) Tryd.underlying69 rfl HI.out) rfl ⟨rfl, below_setCells _ (Nat.le_refl _) _ _ _ b6⟩
end Go.Proofs.YtgkonmjchdpohaaDoor
