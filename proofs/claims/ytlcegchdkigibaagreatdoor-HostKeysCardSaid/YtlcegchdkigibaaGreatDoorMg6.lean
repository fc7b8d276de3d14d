/- The contract of the digest: of any pieces it is the digest of all their bytes. Conditions: the pieces hold bytes, at most 2^38 of them; the table holds FIPS 180-4's constants.
What the laws over the digest lean on: two digests compared, the digest of one piece in a new list, a text's bytes in a block that bears a mark. Condition: the table holds FIPS 180-4's constants.
The contract of a key filled. Conditions: the key holds at most 2^38 bytes; the table holds FIPS 180-4's constants.
Contracts of what joins lists of pieces: slices.Grow at nil and slices.Concat, both of slices of pieces. Conditions: the pieces hold bytes; all lists together have at most 2^40 pieces.
The contract of the digest of a key and of all pieces behind it. Conditions: the key has 64 bytes; the pieces hold at most 2^37 bytes, and are at most 2^37; the table holds FIPS 180-4's constants.
The contract of the digest with a key. Conditions: the key and the pieces hold at most 2^37 bytes each, and the pieces are at most 2^37; the table holds FIPS 180-4's constants.
Contracts of key.Token and key.Proof. Condition: the table holds FIPS 180-4's constants; keys are numbers of 64 bits, nonces of 32. -/
import Derived.Test.YtlcegchdkigibaaGreatDoorMg5
import Derived.Stop.BytesEq
import Derived.Lib.SlBytesConst
import Derived.Deep.RegionHeld3
namespace Go.Proofs.YtlcegchdkigibaaGreatDoor.LK
set_option linter.unusedVariables false
set_option linter.unusedSimpArgs false
open Go.RowKit

theorem ends_length (n : Nat) : (ends n).length = (119 - n % 64) % 64 + 1 + 8 := by
  unfold ends
  simp [be_length]
theorem full_length (l : List UInt8) : (full l).length = l.length + ((119 - l.length % 64) % 64 + 1 + 8) := by
  rw [full, List.length_append, ends_length]
theorem full_blocks (l : List UInt8) : (full l).length = 64 * ((full l).length / 64) := by
  rw [full_length]
  omega

/-- A block of the text. -/
theorem cut64 {w : World} {A : Option Addr} {n c k : Nat} {l : List UInt8} (h : RB w A n c l) (hk : k + 64 ≤ n) :
    ∃ A2, (∀ W : World, (Instr.slice 38 (.slice A n c) (some (.int .i64 (k : Int))) (some (.int .i64 ((k : Int) + 64))) none).run Tryz.prog W = .ok (.slice A2 64 (c - k)) W) ∧ RB w A2 64 (c - k) ((l.drop k).take 64) := by
  have hc := h.cap
  have h2 := (h.drop (k := k) (by omega)).take (k := 64) (by omega)
  refine ⟨_, fun W => ?_, h2⟩
  rw [run_slice_lh (P := Tryz.prog) W 38 A n c elemOf .i64 .i64 (k : Int) ((k : Int) + 64) (by omega) (by omega) (by omega), sizeOfByte]
  have e : ((k : Int) + 64).toNat = k + 64 := by omega
  simp [Result.andThen, sliced, e]

/-- What the digest answers. -/
def Dig (l : List UInt8) (W : World) (e : Ending) (w' : World) : Prop := e = .returned (.agg (bv (dg l)).toArray) ∧ Below W.heap.size W w'

/-- The words at the beginning, in their new block. -/
theorem Arr.first (w : World) (t : TypeId) : Arr (w.alloc (.cells #[.int .u32 1779033703, .int .u32 3144134277, .int .u32 1013904242, .int .u32 2773480762, .int .u32 1359893119, .int .u32 2600822924, .int .u32 528734635, .int .u32 1541459225] t)) w.heap.size 8 (fun i => hh.getD i 0) :=
  Arr.new w [.int .u32 1779033703, .int .u32 3144134277, .int .u32 1013904242, .int .u32 2773480762, .int .u32 1359893119, .int .u32 2600822924, .int .u32 528734635, .int .u32 1541459225] t 8 _ fun j hj =>
    match j, hj with
    | 0, _ => rfl
    | 1, _ => rfl
    | 2, _ => rfl
    | 3, _ => rfl
    | 4, _ => rfl
    | 5, _ => rfl
    | 6, _ => rfl
    | 7, _ => rfl

set_option maxRecDepth 8000 in
set_option maxHeartbeats 1600000 in
theorem sha_any (A : Option Addr) (n c : Nat) (ps : List (List UInt8)) (w : World) (h : Parts w A n c ps) (ht : tl ps n ≤ 274877906944) (hT : Tab w) :
    Calls Tryz.prog 151 #[.slice A n c] w (Dig (fl ps n) w) := by
  have zb := below_a w (.cells #[.int .u8 0, .int .u8 0, .int .u8 0, .int .u8 0, .int .u8 0, .int .u8 0, .int .u8 0, .int .u8 0, .int .u8 0, .int .u8 0, .int .u8 0, .int .u8 0, .int .u8 0, .int .u8 0, .int .u8 0, .int .u8 0, .int .u8 0, .int .u8 0, .int .u8 0, .int .u8 0, .int .u8 0, .int .u8 0, .int .u8 0, .int .u8 0, .int .u8 0, .int .u8 0, .int .u8 0, .int .u8 0, .int .u8 0, .int .u8 0, .int .u8 0, .int .u8 0] 195)
  have z1 : Arb (w.alloc (.cells #[.int .u8 0, .int .u8 0, .int .u8 0, .int .u8 0, .int .u8 0, .int .u8 0, .int .u8 0, .int .u8 0, .int .u8 0, .int .u8 0, .int .u8 0, .int .u8 0, .int .u8 0, .int .u8 0, .int .u8 0, .int .u8 0, .int .u8 0, .int .u8 0, .int .u8 0, .int .u8 0, .int .u8 0, .int .u8 0, .int .u8 0, .int .u8 0, .int .u8 0, .int .u8 0, .int .u8 0, .int .u8 0, .int .u8 0, .int .u8 0, .int .u8 0, .int .u8 0] 195)) w.heap.size 32 (fun _ => 0) := Arb.zero w 32 195
  have h1 := h.below zb
  have t1 := hT.below zb
  have hsz : (w.alloc (.cells #[.int .u8 0, .int .u8 0, .int .u8 0, .int .u8 0, .int .u8 0, .int .u8 0, .int .u8 0, .int .u8 0, .int .u8 0, .int .u8 0, .int .u8 0, .int .u8 0, .int .u8 0, .int .u8 0, .int .u8 0, .int .u8 0, .int .u8 0, .int .u8 0, .int .u8 0, .int .u8 0, .int .u8 0, .int .u8 0, .int .u8 0, .int .u8 0, .int .u8 0, .int .u8 0, .int .u8 0, .int .u8 0, .int .u8 0, .int .u8 0, .int .u8 0, .int .u8 0] 195)).heap.size = w.heap.size + 1 := by simp
  have hg0 := hT.lt
  clear h hT
  have HLEN : Hid ((fl ps n).length = tl ps n) := Lib.hid rfl
  go_enter Tryz.func151, Tryz.ntmps151
  go_wp2_with fail
  generalize hw0 : World.alloc _ _ = w0 at *
  have HW := Lib.hid hw0
  clear hw0
  refine (Join_any A n c ps w0 h1 (by omega)).mono ?_
  rintro e w1 ⟨v1, rfl, own1, b1⟩
  obtain ⟨A1, c1, rfl, r1, _⟩ := RB.of_own own1
  have z2 := z1.below b1
  have t2 := t1.below b1
  have zb2 := below_trans zb b1
  clear own1 z1 t1 h1 zb
  generalize fl ps n = l at *
  generalize tl ps n = m at *
  have HF : Hid (l ++ ends m = full l) := Lib.hid (by unfold full; rw [HLEN.out])
  have hN : Hid (m + ((119 - m % 64) % 64 + 1 + 8) = 64 * ((full l).length / 64)) := Lib.hid (by rw [← full_blocks, full_length, HLEN.out])
  have hm9 : (119 - m % 64) % 64 + 1 + 8 ≤ 72 := by omega
  go_wp2_with (first
    | (go_at_call 214; refine (ending_any m w1 ht).mono ?_; rintro e w2 ⟨A2, c2, rfl, r2, b2⟩
       have r1' := r1.below b2
       have z3 := z2.below b2
       have t3 := t2.below b2
       have zb3 := below_trans zb2 b2
       clear r1 z2 t2 zb2)
    | (go_at_call 213; refine (Join_two rfl r1' r2 (by omega)).mono ?_; rintro e w3 ⟨A3, c3, rfl, r3, b3⟩
       have b4 := below_trans (below_a w2 _) b3
       have z4 := z3.below b4
       have t4 := t3.below b4
       have zb4 := below_trans zb3 b4
       rw [HF.out, hN.out] at r3
       rw [hN.out]
       clear r1' r2 b2 b3 b4 z3 t3 zb3))
  have a0 : Arr (w3.alloc (.cells #[.int .u32 1779033703, .int .u32 3144134277, .int .u32 1013904242, .int .u32 2773480762, .int .u32 1359893119, .int .u32 2600822924, .int .u32 528734635, .int .u32 1541459225] 261)) w3.heap.size 8 (fun i => (blocks (full l) 0).getD i 0) := Arr.first w3 _
  have b0 := below_a w3 (.cells #[.int .u32 1779033703, .int .u32 3144134277, .int .u32 1013904242, .int .u32 2773480762, .int .u32 1359893119, .int .u32 2600822924, .int .u32 528734635, .int .u32 1541459225] 261)
  have hsz3 := zb4.size
  have HDG : Hid (dg l = dgl (fun i => (blocks (full l) ((full l).length / 64)).getD i 0)) := Lib.hid rfl
  generalize (full l).length / 64 = B at *
  generalize full l = x at *
  clear hm9 HF hN HLEN b1 hsz HW
  have hc3 := r3.max
  have hcap := r3.cap
  go_loopw [5] (fun i wr => ∃ k : Nat, k ≤ B ∧ i = .int .i64 ((64 * k : Nat) : Int) ∧ Arr wr w3.heap.size 8 (fun i => (blocks x k).getD i 0) ∧ Below w3.heap.size w3 wr) (fun i _ => 64 * B - (intOf i).toNat)
  case atStart => exact ⟨0, Nat.zero_le _, rfl, a0, b0⟩
  case round =>
    obtain ⟨k, hk, rfl, ha, hb⟩ := hrel
    clear a0 b0
    by_cases hlt : k < B
    · have hlt' : 64 * k < 64 * B := by omega
      obtain ⟨A4, hcut, r4⟩ := cut64 (r3.below hb) (k := 64 * k) (by omega)
      have HS : Hid (∀ i, i < 8 → (blocks x (k + 1)).getD i 0 = st ((x.drop (64 * k)).take 64) (fun i => (blocks x k).getD i 0) 64 i + (blocks x k).getD i 0) := Lib.hid (by
        intro i hi
        rw [blocks_step]
        exact comp_at _ _ _ (fun _ _ => rfl) i hi)
      have HI : Hid (((64 * k : Nat) : Int) + 64 = ((64 * (k + 1) : Nat) : Int)) := Lib.hid (by omega)
      have t5 := t4.below hb
      have hne : w3.heap.size ≠ 1 := by have := t4.lt; omega
      have hmx : 64 * k + 64 ≤ 64 * B := by omega
      generalize (x.drop (64 * k)).take 64 = y at *
      generalize 64 * k = q at *
      clear r3
      go_wp2_with (go_at_call 215; refine (take_any w3.heap.size _ A4 _ y wr ha r4 t5 hne).mono ?_; rintro e w5 ⟨rfl, a5, g5⟩)
      have a6 := a5.congr (fun i hi => (HS.out i hi).symm)
      have b6 := below_g hb g5 hb.size (Nat.le_refl _)
      clear a5 g5 ha hb t5 hcut r4 HS
      go_wp2_with fail
      go_roundw
      case rel => exact ⟨k + 1, by omega, by rw [HI.out], a6, b6⟩
      case measure => have := HI.out; simp [intOf]; omega
    · obtain rfl : k = B := by omega
      have z5 := z4.below hb
      have hi : (Tryz.prog.info? 195).map (·.size) = some (bv (dg l)).length := by rw [bv_length, dg_length]; exact info32
      have HI := Lib.hid hi
      clear hi r3 t4 z4
      go_wp2_with (first
        | (go_at_call 216; refine (digest_any w3.heap.size _ wr ha).mono ?_; rintro e w5 ⟨rfl, b5⟩
           have z6 := Lib.hid (z5.below b5).there
           have b6 := (below_trans zb4 hb).trans (b5.mono (Nat.le_trans hsz3 hb.size))
           clear z5 b5
           rw [← HDG.out])
        | ((with_reducible refine wpList_here ?_); refine wpList_store_mid rfl 195 (.tmp 2) (.tmp 27) rfl w.heap.size 0 (bv (dg l)).toArray rfl rfl (show w5.there w.heap.size 0 (bv (dg l)).length from by rw [bv_length, dg_length]; exact z6.out) HI.out (all_oneCell_toArray (bv_one _)) ?_))
      refine bodyPost_ret (results_cell_mid rfl _ _ w.heap.size (bv (dg l)) (.array 32 5) rfl (World.rangeAt_setCells_same _ _ _ _ (show w5.there w.heap.size 0 (bv (dg l)).length from by rw [bv_length, dg_length]; exact z6.out)) Tryz.underlying195 rfl HI.out) rfl ⟨rfl, below_setCells _ (Nat.le_refl _) _ _ _ b6⟩
end Go.Proofs.YtlcegchdkigibaaGreatDoor.LK

namespace Go.Proofs.YtlcegchdkigibaaGreatDoor.LK
set_option linter.unusedVariables false
set_option linter.unusedSimpArgs false
open Go.RowKit

theorem sizeOfU8 (W : World) : (sizeOf 5).run Tryz.prog W = .ok 1 W := by kernel_rfl
/-- Two digests of the same bytes are the same. -/
theorem dig_same (W : World) (l : List UInt8) : (binOp .eql 195 (.agg (bv (dg l)).toArray) (.agg (bv (dg l)).toArray)).run Tryz.prog W = .ok (.bool true) W := by
  have h := run_eql_bytes (P := Tryz.prog) W 195 5 32 Tryz.underlying195 Tryz.underlying5 sizeOfU8 (dg l) (dg l) (dg_length l) (dg_length l)
  rw [show (dg l == dg l) = true from by simp] at h
  exact h
/-- The digest of one piece in a new list. -/
theorem sha_one {A : Option Addr} {n c : Nat} {l : List UInt8} {w : World} {t : TypeId} {g : Nat} (hg : g = w.heap.size) (h : RB w A n c l) (hn : n ≤ 274877906944) (hT : Tab w) :
    Calls Tryz.prog 151 #[.slice (some ⟨g, 0, none⟩) 1 1] (w.alloc (.cells #[.slice A n c] t)) (Dig l (w.alloc (.cells #[.slice A n c] t))) := by
  subst hg
  have e1 : fl [l] 1 = l := by simp [fl]
  have e2 : tl [l] 1 = n := by rw [tl, e1, h.len]
  have hp : Parts (w.alloc (.cells #[.slice A n c] t)) (some ⟨w.heap.size, 0, none⟩) 1 1 [l] := Parts.one (cell_new w _ t) (h.alloc _)
  have := sha_any (some ⟨w.heap.size, 0, none⟩) 1 1 [l] _ hp (by rw [e2]; exact hn) (hT.below (below_a w _))
  rw [e1] at this
  exact this

/-- A text's bytes, in their new block, which bears a mark. -/
theorem _root_.Go.Proofs.YtlcegchdkigibaaGreatDoor.RB.litf (w : World) (l : List UInt8) (t : TypeId) (fr : Nat × Nat) (hl : l.length ≤ maxLen) : RB (w.alloc (.cells (bv l).toArray t fr)) (some ⟨w.heap.size, 0, none⟩) l.length l.length l := by
  refine ⟨rfl, Nat.le_refl _, hl, fun _ => ⟨_, 0, rfl, fun j hj => ?_⟩⟩
  rw [Nat.zero_add]
  have h := cell_of_row (w.alloc (.cells (bv l).toArray t fr)) w.heap.size j (bv l).toArray t fr (heap_alloc_new w _)
  rw [h]
  simpa using bv_at l j hj
end Go.Proofs.YtlcegchdkigibaaGreatDoor.LK

namespace Go.Proofs.YtlcegchdkigibaaGreatDoor.LK
set_option linter.unusedVariables false
set_option linter.unusedSimpArgs false
open Go.RowKit

theorem sizeByte : (Tryz.prog.info? 5).map (·.size) = some 1 := by kernel_rfl
section
variable {P : Program} (w : World)
/-- copy onto an array of zeros that has room for all. -/
theorem copy_run (dT ty e : TypeId) (hu : P.underlying dT = some (.slice e)) (hs : (P.info? e).map (·.size) = some 1) (b : Nat) (h0 : Arb w b 64 (fun _ => 0))
    (A : Option Addr) (n c : Nat) (l : List UInt8) (h : RB w A n c l) (hn : n ≤ 64) :
    ∃ w', (Builtin.copy_ #[dT, dT] ty #[.slice (some ⟨b, 0, none⟩) 64 64, .slice A n c]).run P w = .ok (goInt n) w' ∧ Arb w' b 64 (fun j => l.getD j 0) ∧ w.grownBy w' (some b) := by
  have hl := h.len
  rcases Nat.eq_zero_or_pos n with hz | hz
  · subst hz
    obtain rfl : l = [] := List.eq_nil_of_length_eq_zero hl
    exact ⟨w, run_copy_none (P := P) w dT dT ty e _ _ _ _ _ _ hu hs (Nat.zero_min 64), h0.congr (fun j _ => by simp), g_refl w _⟩
  · obtain ⟨b', o', rfl, hc⟩ := h.2.2.2 hz
    have hrun := run_copy_cells (P := P) w dT dT ty e b 0 64 64 ⟨b', o', none⟩ n c (bv l) hu hs (by rw [bv_length, hl]; exact (Nat.min_eq_left hn).symm)
      (fun j v hv => by
        obtain ⟨hj, rfl⟩ := bv_get l j v hv
        rw [Addr.add_lit]
        exact hc j (by omega))
      (fun j hj => by rw [bv_length] at hj; rw [Nat.zero_add, (h0 j (by omega)).1]; rfl)
      (fun j hj => by rw [bv_length] at hj; rw [Nat.zero_add]; exact (h0 j (by omega)).2) (bv_one l)
    rw [bv_length, hl] at hrun
    refine ⟨_, hrun, fun j hj => ⟨?_, by rw [World.frozen?_setCells]; exact (h0 j hj).2⟩, g_setCells b (bv l) 0 w⟩
    by_cases hlt : j < l.length
    · have hb : j < (bv l).length := by rw [bv_length]; exact hlt
      have := World.cell?_setCells_in b (bv l) 0 w (fun i hi => by rw [bv_length] at hi; rw [Nat.zero_add, (h0 i (by omega)).1]; rfl) j hb
      rw [Nat.zero_add] at this
      rw [this, ← List.getElem?_eq_getElem hb]
      exact bv_at l j hlt
    · rw [World.cell?_setCells_out b (bv l) 0 w ⟨b, j, none⟩ (fun _ _ => Or.inr (by rw [bv_length]; simp; omega)), (h0 j hj).1]
      simp [List.getD_eq_getElem?_getD, List.getElem?_eq_none (show l.length ≤ j by omega)]
theorem wpList_copy_any {ops : Array Oper} {rest : List Oper} {o : Oper} {a : Act} {Q : Exit → Act → World → Prop} (hgd : o.guard = none) (d s : Operand) (dT e : TypeId)
    (ho : o.op = .call { callee := .builtin .copy, args := #[d, s], argTypes := #[dT, dT] }) (hu : P.underlying dT = some (.slice e)) (hs : (P.info? e).map (·.size) = some 1) (b : Nat) (h0 : Arb w b 64 (fun _ => 0))
    (A : Option Addr) (n c : Nat) (l : List UInt8) (h : RB w A n c l) (hn : n ≤ 64) (hd : a.eval d = .slice (some ⟨b, 0, none⟩) 64 64) (hx : a.eval s = .slice A n c)
    (hK : ∀ w', Arb w' b 64 (fun j => l.getD j 0) → w.grownBy w' (some b) → wpList P ops Q rest (a.put o.dst (goInt n)) w') : wpList P ops Q (o :: rest) a w := by
  obtain ⟨w', hrun, h1, h2⟩ := copy_run (P := P) w dT o.type e hu hs b h0 A n c l h hn
  refine wpList_plain hgd fun K hK' => ?_
  unfold Oper.wp execOp
  simp only [ho, resolve, invoke, builtin, Sem.run_bind, Sem.run_pure, Result.andThen_ok, List.map_toArray, List.map_cons, List.map_nil, hd, hx, hrun]
  exact hK' _ _ (hK w' h1 h2)
end
/-- The filled key's bytes. -/
theorem kf_at (k l : List UInt8) (h : ks k = l) (j : Nat) (hj : j < 64) : l.getD j 0 = (kf k).getD j 0 := by
  have hl := ks_length k
  rw [h] at hl
  unfold kf
  rw [h]
  simp only [List.getD_eq_getElem?_getD]
  by_cases hlt : j < l.length
  · rw [List.getElem?_append_left hlt]
  · rw [List.getElem?_append_right (by omega), List.getElem?_eq_none (show l.length ≤ j by omega), List.getElem?_replicate]
    split <;> rfl

set_option maxRecDepth 8000 in
set_option maxHeartbeats 1600000 in
theorem filled_any (A : Option Addr) (n c : Nat) (l : List UInt8) (w : World) (h : RB w A n c l) (hn : n ≤ 274877906944) (hT : Tab w) :
    Calls Tryz.prog 237 #[.slice A n c] w fun e w' => e = .returned (.agg (bv (kf l)).toArray) ∧ Below w.heap.size w w' := by
  have hmx := h.max
  have hcp := h.cap
  have HKL := Lib.hid (kf_length l)
  have HL := Lib.hid h.len
  by_cases hlong : 64 < n
  · have HK := Lib.hid (kf_at l (dg l) (by unfold ks; rw [if_pos (by rw [HL.out]; exact hlong)]))
    have HDL := Lib.hid (dg_length l)
    go_enter Tryz.func237, Tryz.ntmps237
    go_wp2_with (first
      | ((with_reducible refine wpList_here ?_); refine wpList_zerosA rfl 288 rfl 64 zeroBlock _ rfl ?_; intro w1 z1 b1 s1; have h1 := h.below b1; have t1 := hT.below b1; clear h hT)
      | (go_at_call 151; refine (sha_one s1.symm h1 hn t1).mono ?_; rintro e w2 ⟨rfl, b2⟩
         have b3 := (below_a w1 _).trans (b2.mono (by simp))
         have z3 := z1.below b3
         have b4 := below_trans b1 b3
         have q2 : w.heap.size < w2.heap.size := by have := b3.size; omega
         clear h1 t1 z1 b2)
      | ((with_reducible refine wpList_here ?_); refine wpList_zerosA rfl 195 rfl 32 zero32 _ rfl ?_; intro w5 d5 b5 s5; have z5 := z3.below b5; have b6 := below_trans b4 b5; clear z3)
      | ((with_reducible refine wpList_here ?_); refine wpList_storeA rfl 195 (.tmp 3) (.tmp 10) rfl _ 32 _ (dg l) rfl rfl d5 HDL.out info32 ?_; intro w7 d7 g7 s7
         have z7 := z5.far g7 (by simp; omega)
         have q7 : w.heap.size < w7.heap.size := by omega
         have b7 := below_g b6 g7 b6.size b4.size
         clear d5 z5 g7)
      | ((with_reducible refine wpList_here ?_); refine wpList_zerosA rfl 288 rfl 64 zeroBlock (w2.heap.size + 1) (by omega) ?_; intro w8 z8 b8 s8; have z9 := z7.below b8; have r8 := (d7.rb HDL.out (by omega)).below b8; have b9 := below_trans b7 b8; clear z7 d7)
      | ((with_reducible refine wpList_here ?_); refine wpList_copy_any _ rfl (.tmp 12) (.tmp 13) 38 5 rfl Tryz.underlying38 sizeByte (w2.heap.size + 1) z8 _ 32 32 (dg l) r8 (by omega) rfl rfl ?_; intro w3 z3 g3; have z4 := z3.congr HK.out)
      | ((with_reducible refine wpList_here ?_); refine wpList_loadA rfl 288 (.tmp 4) rfl _ 64 (kf l) rfl z4 HKL.out (.array 64 5) Tryz.underlying288 rfl infoBlock ?_)
      | ((with_reducible refine wpList_here ?_); refine wpList_storeA rfl 288 (.tmp 2) (.tmp 15) rfl _ 64 _ (kf l) rfl rfl (z9.far g3 (by simp; omega)) HKL.out infoBlock ?_; intro w5 z5 g5 s5))
    refine bodyPost_ret (results_A rfl _ _ w.heap.size 64 (kf l) (.array 64 5) rfl z5 HKL.out Tryz.underlying288 rfl infoBlock) rfl ⟨rfl, below_g (below_g b9 g3 b9.size (by omega)) g5 (Nat.le_trans b9.size g3.size) (Nat.le_refl _)⟩
  · have HK := Lib.hid (kf_at l l (by unfold ks; rw [if_neg (by rw [HL.out]; exact hlong)]))
    go_enter Tryz.func237, Tryz.ntmps237
    go_wp2_with (first
      | ((with_reducible refine wpList_here ?_); refine wpList_zerosA rfl 288 rfl 64 zeroBlock _ rfl ?_; intro w1 z1 b1 s1; have h1 := h.below b1; clear h hT)
      | ((with_reducible refine wpList_here ?_); refine wpList_zerosA rfl 288 rfl 64 zeroBlock (w.heap.size + 1) s1 ?_; intro w2 z2 b2 s2; have h2 := h1.below b2; have z1' := z1.below b2)
      | ((with_reducible refine wpList_here ?_); refine wpList_copy_any _ rfl (.tmp 12) (.tmp 13) 38 5 rfl Tryz.underlying38 sizeByte (w.heap.size + 1) z2 A n c l h2 (by omega) rfl rfl ?_; intro w3 z3 g3; have z4 := z3.congr HK.out)
      | ((with_reducible refine wpList_here ?_); refine wpList_loadA rfl 288 (.tmp 4) rfl _ 64 (kf l) rfl z4 HKL.out (.array 64 5) Tryz.underlying288 rfl infoBlock ?_)
      | ((with_reducible refine wpList_here ?_); refine wpList_storeA rfl 288 (.tmp 2) (.tmp 15) rfl _ 64 _ (kf l) rfl rfl (z1'.far g3 (by simp)) HKL.out infoBlock ?_; intro w5 z5 g5 s5))
    have b3 := below_trans b1 b2
    refine bodyPost_ret (results_A rfl _ _ w.heap.size 64 (kf l) (.array 64 5) rfl z5 HKL.out Tryz.underlying288 rfl infoBlock) rfl ⟨rfl, below_g (below_g b3 g3 b3.size (by omega)) g5 (Nat.le_trans b3.size g3.size) (Nat.le_refl _)⟩
end Go.Proofs.YtlcegchdkigibaaGreatDoor.LK

namespace Go.Proofs.YtlcegchdkigibaaGreatDoor.LK
set_option linter.unusedVariables false
set_option linter.unusedSimpArgs false
open Go.RowKit

theorem infoPiece : (Tryz.prog.info? 38).map (fun i => (i.zero, i.size, i.bytes)) = some (some (.slice none 0 0), 1, 24) := by kernel_rfl

/-- The values vs are slices that hold the pieces ps in w. -/
def Sl (w : World) (vs : List Value) (ps : List (List UInt8)) : Prop := vs.length = ps.length ∧ ∀ j, j < ps.length → ∃ B m d, vs[j]? = some (.slice B m d) ∧ RB w B m d (ps.getD j [])
theorem Sl.nil_ (w : World) : Sl w [] [] := ⟨rfl, fun j hj => absurd hj (by simp)⟩
theorem Sl.one {w : World} {vs : List Value} {ps : List (List UInt8)} (h : Sl w vs ps) : ∀ u ∈ vs, u.oneCell' = true := by
  intro u hu
  obtain ⟨j, hj, rfl⟩ := List.getElem_of_mem hu
  obtain ⟨B, m, d, e, _⟩ := h.2 j (by rw [← h.1]; exact hj)
  rw [List.getElem?_eq_getElem hj] at e
  injection e with e
  rw [e]
  rfl
theorem Sl.below {w w' : World} {vs : List Value} {ps : List (List UInt8)} (h : Sl w vs ps) (hb : Below w.heap.size w w') : Sl w' vs ps :=
  ⟨h.1, fun j hj => by
    obtain ⟨B, m, d, e, hr⟩ := h.2 j hj
    exact ⟨B, m, d, e, hr.below hb⟩⟩
theorem Sl.append {w : World} {vs us : List Value} {ps qs : List (List UInt8)} (h : Sl w vs ps) (h' : Sl w us qs) : Sl w (vs ++ us) (ps ++ qs) := by
  refine ⟨by rw [List.length_append, List.length_append, h.1, h'.1], fun j hj => ?_⟩
  rw [List.length_append] at hj
  rw [List.getD_eq_getElem?_getD]
  by_cases hlt : j < ps.length
  · obtain ⟨B, m, d, e, hr⟩ := h.2 j hlt
    rw [List.getD_eq_getElem?_getD] at hr
    rw [List.getElem?_append_left (by rw [h.1]; exact hlt), List.getElem?_append_left hlt]
    exact ⟨B, m, d, e, hr⟩
  · obtain ⟨B, m, d, e, hr⟩ := h'.2 (j - ps.length) (by omega)
    rw [List.getD_eq_getElem?_getD] at hr
    rw [List.getElem?_append_right (by rw [h.1]; omega), List.getElem?_append_right (by omega), h.1]
    exact ⟨B, m, d, e, hr⟩

/-- A slice of pieces: its cells. -/
theorem Parts.vals {w : World} {A : Option Addr} {n c : Nat} {ps : List (List UInt8)} (h : Parts w A n c ps) :
    ∃ vs, Sl w vs ps ∧ ∀ j u, vs[j]? = some u → ∃ b o, A = some ⟨b, o, none⟩ ∧ w.cell? ⟨b, o + j, none⟩ = some u := by
  have hl := h.len
  rcases Nat.eq_zero_or_pos n with h0 | h0
  · obtain rfl : ps = [] := List.eq_nil_of_length_eq_zero (by omega)
    exact ⟨[], Sl.nil_ w, by simp⟩
  · obtain ⟨b, o, rfl, hc⟩ := h.2.2.2 h0
    refine ⟨(List.range n).map fun j => (w.cell? ⟨b, o + j, none⟩).getD undef, ⟨by simp [hl], fun j hj => ?_⟩, fun j u hu => ⟨b, o, rfl, ?_⟩⟩
    · obtain ⟨B, m, d, hcell, hr⟩ := hc j (by omega)
      refine ⟨B, m, d, ?_, hr⟩
      have hj' : j < n := by omega
      simp [hj', hcell]
    · have hj : j < n := by simpa using (List.getElem?_eq_some_iff.1 hu).1
      obtain ⟨B, m, d, hcell, hr⟩ := hc j hj
      simp [hj, hcell] at hu
      rw [hcell, hu]

/-- A slice of the call's own that holds pieces. -/
theorem Parts.of_own {w : World} {base n : Nat} {e : TypeId} {v : Value} {vs : List Value} {ps : List (List UInt8)} (h : w.ownsRow base e 1 v n vs) (hs : Sl w vs ps) : ∃ A c, v = .slice A n c ∧ Parts w A n c ps := by
  have hl : ps.length = n := by have h1 := h.1; have h2 := hs.1; omega
  rcases h.2 with ⟨rfl, rfl⟩ | ⟨g, cap, cur, rfl, hb, hg, hnc, hm, hsz, ht⟩
  · exact ⟨none, 0, rfl, hl, Nat.le_refl _, Nat.zero_le _, fun h => absurd h (by omega)⟩
  · refine ⟨_, cap, rfl, hl, hnc, hm, fun hn => ⟨g, 0, rfl, fun j hj => ?_⟩⟩
    obtain ⟨B, m, d, e, hr⟩ := hs.2 j (by omega)
    refine ⟨B, m, d, ?_, hr⟩
    have := World.ownsRow.cellAt h j (by omega)
    rw [Nat.zero_add, this, e]

section
variable {P : Program} (w : World)
/-- The run of append of pieces. -/
theorem appP_run (t ty e : TypeId) (ht : P.underlying t = some (.slice e)) (hi : (P.info? e).map (fun i => (i.zero, i.size, i.bytes)) = some (some (.slice none 0 0), 1, 24))
    (base : Nat) (v : Value) (n : Nat) (vs : List Value) (hown : w.ownsRow base e 1 v n vs)
    (A : Option Addr) (m c : Nat) (us : List Value) (hl : us.length = m) (hsrc : ∀ j u, us[j]? = some u → ∃ b o, A = some ⟨b, o, none⟩ ∧ w.cell? ⟨b, o + j, none⟩ = some u) (h1 : ∀ u ∈ us, u.oneCell' = true)
    (hs : n + m ≤ 1099511627776) (hb : base ≤ w.heap.size) :
    ∃ v' w', (Builtin.append_ #[t, t] ty #[v, .slice A m c]).run P w = .ok v' w' ∧ w'.ownsRow base e 1 v' (n + m) (vs ++ us) ∧ w.grownBy w' v.ownBlock := by
  obtain ⟨i, hi, hz, h2, h3⟩ := info_parts hi
  subst hl
  rcases A with _ | ad
  · obtain rfl : us = [] := by
      rcases us with _ | ⟨u, us⟩
      · rfl
      · obtain ⟨b, o, h, _⟩ := hsrc 0 u rfl
        cases h
    exact ⟨v, w, app_none w base t ty e i ht hi v n c _ hown, by simpa using hown, World.grownBy.refl w _⟩
  · obtain ⟨v', w', hrun, g2, g3, _, _⟩ := run_append_own_at (P := P) w base t ty e i _ 1 24 ht hi hz h2 h3 rfl (by decide) v n vs hown ad us.length c us
      (by rw [Nat.mul_one]) (fun j u hu => by obtain ⟨b, o, h, hc⟩ := hsrc j u hu; injection h with h; subst h; rw [Addr.add_lit]; exact hc) h1 (by unfold maxLen; omega) (by omega) hb
    exact ⟨v', w', hrun, g2, g3⟩
theorem wpList_appP {ops : Array Oper} {rest : List Oper} {o : Oper} {a : Act} {Q : Exit → Act → World → Prop} (hgd : o.guard = none) (s x : Operand) (t e : TypeId)
    (ho : o.op = .call { callee := .builtin .append, args := #[s, x], argTypes := #[t, t] })
    (ht : P.underlying t = some (.slice e)) (hi : (P.info? e).map (fun i => (i.zero, i.size, i.bytes)) = some (some (.slice none 0 0), 1, 24))
    (base : Nat) (v : Value) (n : Nat) (vs : List Value) (hs : a.eval s = v) (hown : w.ownsRow base e 1 v n vs)
    (A : Option Addr) (m c : Nat) (us : List Value) (hx : a.eval x = .slice A m c) (hl : us.length = m) (hsrc : ∀ j u, us[j]? = some u → ∃ b o, A = some ⟨b, o, none⟩ ∧ w.cell? ⟨b, o + j, none⟩ = some u) (h1 : ∀ u ∈ us, u.oneCell' = true)
    (h40 : n + m ≤ 1099511627776) (hb : base ≤ w.heap.size)
    (h : ∀ v' w', w'.ownsRow base e 1 v' (n + m) (vs ++ us) → w.grownBy w' v.ownBlock → wpList P ops Q rest (a.put o.dst v') w') : wpList P ops Q (o :: rest) a w := by
  obtain ⟨v', w', hrun, h2, h3⟩ := appP_run (P := P) w t o.type e ht hi base v n vs hown A m c us hl hsrc h1 h40 hb
  exact Lib.wpList_append_run w hgd s x t t ho _ _ hs hx v' w' hrun (h v' w' h2 h3)
end

/-- The slice '.slice A n c' holds lists of pieces in w. -/
def Pile (w : World) (A : Option Addr) (n c : Nat) (pss : List (List (List UInt8))) : Prop :=
  pss.length = n ∧ n ≤ c ∧ c ≤ maxLen ∧ (0 < n → ∃ b o, A = some ⟨b, o, none⟩ ∧ ∀ j, j < n → ∃ B m d, w.cell? ⟨b, o + j, none⟩ = some (.slice B m d) ∧ Parts w B m d (pss.getD j []))
section
variable {w w' : World} {A : Option Addr} {n c : Nat} {pss : List (List (List UInt8))}
theorem Pile.len (h : Pile w A n c pss) : pss.length = n := h.1
theorem Pile.cap (h : Pile w A n c pss) : n ≤ c := h.2.1
theorem Pile.max (h : Pile w A n c pss) : c ≤ 9223372036854775807 := by have := h.2.2.1; unfold maxLen at this; omega
theorem Pile.at_ (h : Pile w A n c pss) {j : Nat} (hj : j < n) : ∃ b o B m d, A = some ⟨b, o, none⟩ ∧ w.cell? ⟨b, o + j, none⟩ = some (.slice B m d) ∧ Parts w B m d (pss.getD j []) := by
  obtain ⟨b, o, e, hc⟩ := h.2.2.2 (by omega)
  obtain ⟨B, m, d, h1, h2⟩ := hc j hj
  exact ⟨b, o, B, m, d, e, h1, h2⟩
end

/-- The first k lists, joined; and how many pieces these have. -/
def gl (pss : List (List (List UInt8))) (k : Nat) : List (List UInt8) := (pss.take k).flatten
def gn (pss : List (List (List UInt8))) (k : Nat) : Nat := (gl pss k).length
theorem gl_step (pss : List (List (List UInt8))) (k : Nat) (h : k < pss.length) : gl pss (k + 1) = gl pss k ++ pss.getD k [] := by
  unfold gl
  rw [List.take_succ_eq_append_getElem h, List.flatten_append]
  simp [h]
theorem gn_step (pss : List (List (List UInt8))) (k : Nat) (h : k < pss.length) : gn pss (k + 1) = gn pss k + (pss.getD k []).length := by
  unfold gn
  rw [gl_step pss k h, List.length_append]
theorem gn_le (pss : List (List (List UInt8))) (k n : Nat) (h : k ≤ n) : gn pss k ≤ gn pss n := by
  unfold gn gl
  have e : pss.take n = pss.take k ++ (pss.take n).drop k := by
    have := List.take_append_drop k (pss.take n)
    rw [List.take_take, Nat.min_eq_left h] at this
    exact this.symm
  rw [e, List.flatten_append, List.length_append]
  omega

set_option maxHeartbeats 400000 in
theorem GrowP_any (n : Nat) (w : World) (hn : n ≤ 1099511627776) :
    Calls Tryz.prog 360 #[.slice none 0 0, .int .i64 (n : Int)] w (fun e w' => ∃ v, e = .returned v ∧ w'.ownsRow w.heap.size 38 1 v 0 [] ∧ Below w.heap.size w w') := by
  rcases Nat.eq_zero_or_pos n with h0 | h0
  · subst h0
    go_enter Tryz.func360, Tryz.ntmps360
    go_wp2
    go_ret
    exact ⟨_, rfl, World.ownsRow_nil _ _ _ _, Below.refl _ _⟩
  · obtain ⟨i0, hi, hz0, hz1, hz2⟩ := info_parts infoPiece
    have hrun := fun W => Lib.run_append_nil_zeros (P := Tryz.prog) W 258 3 258 38 i0 _ .i64 .i64 Tryz.underlying258 Tryz.underlying3 hi hz0 n h0 (by omega) (by omega) (by rw [hz2]; omega)
    have HR := Lib.hid hrun
    have hg := grownCap_ge w n 0 38
    have hm := grownCap_le_maxLen w n 0 38 (by unfold maxLen; omega)
    clear hrun hi hz0 hz1 hz2
    have hm' : grownCap w n 0 38 ≤ 9223372036854775807 := by unfold maxLen at hm; omega
    have HM := Lib.hid hm
    clear hm
    go_enter Tryz.func360, Tryz.ntmps360
    go_wp2_with (at_builtin; refine Lib.wpList_append_run _ rfl (.tmp 20) (.tmp 21) 258 3 rfl _ _ rfl rfl _ _ (HR.out _) ?_)
    go_ret
    have hown := World.ownsRow_made (base := w.heap.size) (e := 38) (size := 1) w.drew (Builtin.zeroCells (Value.slice none 0 0).cells n ++ Builtin.zeroCells (Value.slice none 0 0).cells (grownCap w n 0 38 - n)) (grownCap w n 0 38) (Nat.le_refl _) HM.out
      (by simp only [Array.size_append, size_zeroCells]; rw [show (Value.slice none 0 0).cells.size = 1 from rfl]; omega)
    exact ⟨_, rfl, hown, (Below.refl _ _).drew.alloc (Nat.le_refl _) _⟩

/-- What a call leaves that answers n pieces, and writes nothing that was there. -/
def MadeP (W : World) (n : Nat) (ps : List (List UInt8)) (e : Ending) (w' : World) : Prop := ∃ A c, e = .returned (.slice A n c) ∧ Parts w' A n c ps ∧ Below W.heap.size W w'

set_option maxHeartbeats 800000 in
theorem ConcatP_any (A : Option Addr) (n c : Nat) (pss : List (List (List UInt8))) (w : World) (h : Pile w A n c pss) (ht : gn pss n ≤ 1099511627776) :
    Calls Tryz.prog 304 #[.slice A n c] w (MadeP w (gn pss n) (gl pss n)) := by
  have hl := Lib.hid h.len
  have hn := h.max
  have hn' := h.cap
  go_enter Tryz.func304, Tryz.ntmps304
  go_wp2
  go_loop [3, 11] (fun x i => ∃ k : Nat, k ≤ n ∧ i = .int .i64 k ∧ x = .int .i64 (gn pss k : Nat)) (fun _ i => n - (intOf i).toNat)
  case atStart => exact ⟨0, Nat.zero_le _, rfl, rfl⟩
  case round =>
    obtain ⟨k, hk, rfl, rfl⟩ := hrel
    have hT := Nat.le_trans (gn_le pss k n hk) ht
    by_cases hlt : k < n
    · have hT' := Nat.le_trans (gn_le pss (k + 1) n hlt) ht
      have hS := gn_step pss k (by rw [hl.out]; exact hlt)
      obtain ⟨b, o, B, m, d, rfl, hc, hr⟩ := h.at_ hlt
      rw [hr.len] at hS
      rw [hS] at hT'
      have HS := Lib.hid hS
      clear hS h hr
      generalize gn pss k = x at *
      have hx : ¬ ((x : Int) + (m : Int) < 0) := by omega
      go_wp2
      go_round
      case rel => exact ⟨k + 1, by omega, by go_num, by rw [HS.out]; go_num⟩
      case measure => simp [intOf]; omega
    · obtain rfl : k = n := by omega
      go_wp2_with (go_at_call 360; refine (GrowP_any _ _ (by omega)).mono ?_; rintro e w1 ⟨v1, rfl, hown1, hbel1⟩)
      go_loopw [6, 27] (fun v i wr => ∃ (j : Nat) (vs : List Value), j ≤ k ∧ i = .int .i64 j ∧ wr.ownsRow w.heap.size 38 1 v (gn pss j) vs ∧ Sl w vs (gl pss j) ∧ Below w.heap.size w wr) (fun _ i _ => k - (intOf i).toNat)
      case atStart => exact ⟨0, [], Nat.zero_le _, rfl, hown1, Sl.nil_ w, hbel1⟩
      case round =>
        obtain ⟨j, vs, hj, rfl, hown, hsl, hbel⟩ := hrel
        by_cases hjk : j < k
        · have hT' := Nat.le_trans (gn_le pss (j + 1) k hjk) ht
          have hS := gn_step pss j (by rw [hl.out]; exact hjk)
          have hF := gl_step pss j (by rw [hl.out]; exact hjk)
          obtain ⟨b, o, B, m, d, rfl, hc0, hr⟩ := h.at_ hjk
          have hc := (hbel.cell (World.block_lt_of_cell? w _ hc0)).trans hc0
          rw [hr.len] at hS
          rw [hS] at hT'
          obtain ⟨us, hus, hsrc⟩ := hr.vals
          have hul : us.length = m := by rw [hus.1, hr.len]
          have hsl' := hsl.append hus
          rw [← hF] at hsl'
          have HSRC : Hid (∀ j u, us[j]? = some u → ∃ b o, B = some ⟨b, o, none⟩ ∧ wr.cell? ⟨b, o + j, none⟩ = some u) := Lib.hid (fun j u hu => by
            obtain ⟨b2, o2, e, hcc⟩ := hsrc j u hu
            exact ⟨b2, o2, e, (hbel.cell (World.block_lt_of_cell? w _ hcc)).trans hcc⟩)
          have HONE := Lib.hid hus.one
          have HUL := Lib.hid hul
          have HSL := Lib.hid hsl'
          have HS := Lib.hid hS
          have HB := Lib.hid hbel
          have hz := hbel.size
          clear hS hF h hbel1 hown1 hbel hc0 hus hsrc hul hsl' hsl
          generalize gn pss j = x at *
          go_wp2_with (at_builtin; refine wpList_appP _ rfl (.tmp 31) (.tmp 32) 258 38 rfl Tryz.underlying258 infoPiece w.heap.size _ x vs rfl hown _ m _ us rfl HUL.out HSRC.out HONE.out (by omega) (by omega) ?_; intro v' w2 hown' hg')
          have hb2 := below_grown HB.out hown hg'
          rw [← HS.out] at hown'
          clear hg' hown HB hr
          go_wp2
          go_roundw
          case rel => exact ⟨j + 1, _, by omega, by go_num, hown', HSL.out, hb2⟩
          case measure => simp [intOf]; omega
        · obtain rfl : j = k := by omega
          go_wp2
          go_ret
          obtain ⟨A2, c2, rfl, hp⟩ := Parts.of_own hown (hsl.below hbel)
          exact ⟨A2, c2, rfl, hp, hbel⟩

/-- One piece ahead of others. -/
theorem fl_cons (k : List UInt8) (ps : List (List UInt8)) (n : Nat) : fl (k :: ps) (n + 1) = k ++ fl ps n := by simp [fl]
theorem tl_cons (k : List UInt8) (ps : List (List UInt8)) (n : Nat) : tl (k :: ps) (n + 1) = k.length + tl ps n := by rw [tl, fl_cons, List.length_append]; rfl
theorem ConcatP_two {A B : Option Addr} {n c m d : Nat} {k : List UInt8} {ps : List (List UInt8)} {w : World} {t t' : TypeId} {g g' : Nat} (hg : g = w.heap.size) (hg' : g' = w.heap.size + 1) (h : RB w B m d k) (h' : Parts w A n c ps) (hn : n + 1 ≤ 1099511627776) :
    Calls Tryz.prog 304 #[.slice (some ⟨g', 0, none⟩) 2 2] ((w.alloc (.cells #[.slice B m d] t)).alloc (.cells #[.slice (some ⟨g, 0, none⟩) 1 1, .slice A n c] t'))
      (MadeP ((w.alloc (.cells #[.slice B m d] t)).alloc (.cells #[.slice (some ⟨g, 0, none⟩) 1 1, .slice A n c] t')) (n + 1) (k :: ps)) := by
  subst hg hg'
  have hb := below_a2 w (.cells #[.slice B m d] t) (.cells #[.slice (some ⟨w.heap.size, 0, none⟩) 1 1, .slice A n c] t')
  have hp1 := Parts.one (cell_old2 w (.cells #[.slice (some ⟨w.heap.size, 0, none⟩) 1 1, .slice A n c] t') (.slice B m d) t) (h.below hb)
  have hp2 := h'.below hb
  have hsz : (w.alloc (.cells #[.slice B m d] t)).heap.size = w.heap.size + 1 := by simp
  have hpile : Pile ((w.alloc (.cells #[.slice B m d] t)).alloc (.cells #[.slice (some ⟨w.heap.size, 0, none⟩) 1 1, .slice A n c] t')) (some ⟨w.heap.size + 1, 0, none⟩) 2 2 [[k], ps] := by
    refine ⟨rfl, Nat.le_refl _, by unfold maxLen; omega, fun _ => ⟨_, 0, rfl, fun j hj => ?_⟩⟩
    rw [Nat.zero_add, ← hsz, cell_of_row _ _ j _ t' (0, 0) (heap_alloc_new (w.alloc (.cells #[.slice B m d] t)) _)]
    match j, hj with
    | 0, _ => exact ⟨_, 1, 1, rfl, hp1⟩
    | 1, _ => exact ⟨A, n, c, rfl, hp2⟩
  have e1 : gl [[k], ps] 2 = k :: ps := by simp [gl]
  have e2 : gn [[k], ps] 2 = n + 1 := by rw [gn, e1, List.length_cons, h'.len]
  have := ConcatP_any (some ⟨w.heap.size + 1, 0, none⟩) 2 2 [[k], ps] _ hpile (by rw [e2]; exact hn)
  rw [e1, e2] at this
  exact this
end Go.Proofs.YtlcegchdkigibaaGreatDoor.LK

namespace Go.Proofs.YtlcegchdkigibaaGreatDoor.LK
set_option linter.unusedVariables false
set_option linter.unusedSimpArgs false
open Go.RowKit

set_option maxRecDepth 8000 in
set_option maxHeartbeats 1600000 in
theorem hdig_any (k : List UInt8) (hk : k.length = 64) (A : Option Addr) (n c : Nat) (ps : List (List UInt8)) (w : World) (h : Parts w A n c ps) (ht : tl ps n ≤ 137438953472) (hn : n ≤ 137438953472) (hT : Tab w) :
    Calls Tryz.prog 238 #[.agg (bv k).toArray, .slice A n c] w (Dig (k ++ fl ps n) w) := by
  have HF := Lib.hid (fl_cons k ps n)
  have HT : Hid (tl (k :: ps) (n + 1) ≤ 274877906944) := Lib.hid (by rw [tl_cons, hk]; omega)
  have HDL := Lib.hid (dg_length (k ++ fl ps n))
  have hmx := h.max
  have hcp := h.cap
  go_enter Tryz.func238, Tryz.ntmps238
  go_wp2_with (first
    | ((with_reducible refine wpList_here ?_); refine wpList_boxA rfl 288 (.tmp 0) rfl k 64 hk rfl ?_; intro w1 z1 b1 s1)
    | ((with_reducible refine wpList_here ?_); refine wpList_zerosA rfl 195 rfl 32 zero32 (w.heap.size + 1) s1 ?_; intro w2 d2 b2 s2
       have b3 := below_trans b1 b2
       have r2 := (z1.rb hk (by omega)).below b2
       have h2 := h.below b3
       have t2 := hT.below b3
       clear z1 h hT b1 b2)
    | (go_at_call 304; refine (ConcatP_two s2.symm (by rw [s2]) r2 h2 (by omega)).mono ?_; rintro e w3 ⟨A3, c3, rfl, p3, b4⟩
       have b5 := (below_a2 w2 _ _).trans (b4.mono (by simp; omega))
       have d3 := d2.below b5
       have t3 := t2.below b5
       have b6 := below_trans b3 b5
       clear d2 t2 r2 h2 b4 b5 b3)
    | (go_at_call 151; refine (sha_any A3 (n + 1) c3 (k :: ps) w3 p3 HT.out t3).mono ?_; rw [HF.out]; rintro e w4 ⟨rfl, b7⟩
       have d4 := d3.below b7
       have b8 := below_trans b6 b7
       clear p3 t3 d3 b6 b7)
    | ((with_reducible refine wpList_here ?_); refine wpList_storeA rfl 195 (.tmp 4) (.tmp 10) rfl (w.heap.size + 1) 32 _ (dg (k ++ fl ps n)) rfl rfl d4 HDL.out info32 ?_; intro w5 d5 g5 s5))
  refine bodyPost_ret (results_A rfl _ _ (w.heap.size + 1) 32 (dg (k ++ fl ps n)) (.array 32 5) rfl d5 HDL.out Tryz.underlying195 rfl info32) rfl ⟨rfl, below_g b8 g5 b8.size (Nat.le_succ _)⟩
end Go.Proofs.YtlcegchdkigibaaGreatDoor.LK

namespace Go.Proofs.YtlcegchdkigibaaGreatDoor.LK
set_option linter.unusedVariables false
set_option linter.unusedSimpArgs false
open Go.RowKit

/-- What stands in each world of the last region: the filled key, the inner digest, the result's place, and all that was there. -/
def Mid (w W : World) (y x : Nat) (k l : List UInt8) : Prop :=
  W.rangeAt y 0 (bv k) ∧ W.there w.heap.size 0 32 ∧ RB W (some ⟨x, 0, none⟩) 32 32 l ∧ Below w.heap.size w W
theorem Mid.below {w W W' : World} {y x : Nat} {k l : List UInt8} (h : Mid w W y x k l) (hb : Below W.heap.size W W') : Mid w W' y x k l := by
  obtain ⟨h1, h2, h3, h4⟩ := h
  refine ⟨fun j v hv => ?_, fun j hj => ?_, h3.below hb, below_trans h4 hb⟩
  · have := h1 j v hv
    exact (hb.cell (World.block_lt_of_cell? W _ this)).trans this
  · obtain ⟨h5, h6⟩ := h2 j hj
    obtain ⟨u, hu⟩ := Option.isSome_iff_exists.1 h5
    have hlt := World.block_lt_of_cell? W _ hu
    exact ⟨by rw [hb.cell hlt, hu]; rfl, by rw [hb.frozen hlt]; exact h6⟩
theorem Mid.keep {w W W' : World} {y x : Nat} {k l : List UInt8} (h : W.rangeAt y 0 (bv k) ∧ Mid w W y x k l) (hb : Below W.heap.size W W') : W'.rangeAt y 0 (bv k) ∧ Mid w W' y x k l := ⟨(h.2.below hb).1, h.2.below hb⟩
theorem Mid.set {w W : World} {y x : Nat} {k l : List UInt8} (h : W.rangeAt y 0 (bv k) ∧ Mid w W y x k l) (hy : w.heap.size ≠ y) (hx : w.heap.size ≠ x) (vs : List Value) :
    (W.setCells w.heap.size 0 vs).rangeAt y 0 (bv k) ∧ Mid w (W.setCells w.heap.size 0 vs) y x k l := by
  obtain ⟨h1, -, h2, h3, h4⟩ := h
  have h5 := World.rangeAt_setCells_apart h1 w.heap.size 0 vs (Or.inl (Ne.symm hy))
  exact ⟨h5, h5, World.there_setCells h2 _ _ _, ⟨h3.1, h3.2.1, h3.2.2.1, fun hn => by
    obtain ⟨b, o, e, hc⟩ := h3.2.2.2 hn
    refine ⟨b, o, e, fun j hj => ?_⟩
    injection e with e
    injection e with e1 e2
    rw [World.cell?_setCells_out _ _ _ _ _ (fun hb _ => absurd (hb.symm.trans e1.symm) hx)]
    exact hc j hj⟩, below_setCells _ (Nat.le_refl _) _ _ _ h4⟩
theorem added_built (k : List UInt8) (hk : k.length = 64) (v : UInt8) {W : World} {X : Option Addr} {l : List UInt8} {t : TypeId} {g : Nat} (hg : g = W.heap.size) (h : RB W X 32 32 l) :
    Calls Tryz.prog 239 #[.agg (bv k).toArray, .int .u8 (v.toNat : Int)] (W.alloc (.cells #[.slice X 32 32] t)).drew fun e w' => e = .returned (.agg (bv (xo v k)).toArray) ∧ Parts w' (some ⟨g, 0, none⟩) 1 1 [l] ∧ Below W.heap.size W w' := by
  subst hg
  have b0 : Below W.heap.size W (W.alloc (.cells #[.slice X 32 32] t)).drew := (below_a W _).drew
  have p0 : Parts (W.alloc (.cells #[.slice X 32 32] t)).drew (some ⟨W.heap.size, 0, none⟩) 1 1 [l] := Parts.one (w := (W.alloc (.cells #[.slice X 32 32] t)).drew) (cell_new W (.slice X 32 32) t) (h.below b0)
  refine (added_any k hk v _).mono ?_
  rintro e w' ⟨rfl, b⟩
  exact ⟨rfl, p0.below b, below_trans b0 b⟩
/-- The world at hand has a new block, and has drawn behind it. -/
theorem calls_drew {P : Program} {f : FuncId} {args : Array Value} {W : World} {o : Obj} {Q : Ending → World → Prop} (h : Calls P f args (W.alloc o).drew Q) : Calls P f args (W.alloc o).drew Q := h
/-- The world at hand has a new block. -/
theorem calls_alloc {P : Program} {f : FuncId} {args : Array Value} {W : World} {o : Obj} {Q : Ending → World → Prop} (h : Calls P f args (W.alloc o) Q) : Calls P f args (W.alloc o) Q := h
theorem there_bv {W : World} {b : Nat} {D : List UInt8} (h : W.there b 0 32) (hl : D.length = 32) : W.there b 0 (bv D).toArray.size := by
  rw [List.size_toArray, bv_length, hl]
  exact h
theorem tl_one (l : List UInt8) (n : Nat) (h : l.length = n) : tl [l] 1 = n := by simp [tl, fl, h]
theorem fl_one (l : List UInt8) : fl [l] 1 = l := by simp [fl]
theorem hdig_one (k : List UInt8) (hk : k.length = 64) {W : World} {A : Option Addr} {l : List UInt8} (h : Parts W A 1 1 [l]) (hl : l.length = 32) (hT : Tab W) :
    Calls Tryz.prog 238 #[.agg (bv k).toArray, .slice A 1 1] W (Dig (k ++ l) W) := by
  have := hdig_any k hk A 1 1 [l] W h (by rw [tl_one l 32 hl]; omega) (by omega) hT
  rw [fl_one] at this
  exact this

set_option maxRecDepth 8000 in
set_option maxHeartbeats 1600000 in
theorem hmac_any (B : Option Addr) (m d : Nat) (k : List UInt8) (A : Option Addr) (n c : Nat) (ps : List (List UInt8)) (w : World) (hk : RB w B m d k) (h : Parts w A n c ps) (hml : m ≤ 137438953472) (ht : tl ps n ≤ 137438953472) (hn : n ≤ 137438953472) (hT : Tab w) :
    Calls Tryz.prog 168 #[.slice B m d, .slice A n c] w fun e w' => e = .returned (.agg (bv (hm k (fl ps n))).toArray) ∧ Below w.heap.size w w' := by
  have HKL := Lib.hid (kf_length k)
  have HX1 : Hid ((xo 54 (kf k)).length = 64) := Lib.hid (by rw [xo_length, kf_length])
  have HX2 : Hid ((xo 92 (kf k)).length = 64) := Lib.hid (by rw [xo_length, kf_length])
  have HD : Hid ((dg (xo 54 (kf k) ++ fl ps n)).length = 32) := Lib.hid (dg_length _)
  have HM : Hid (hm k (fl ps n) = dg (xo 92 (kf k) ++ dg (xo 54 (kf k) ++ fl ps n))) := Lib.hid rfl
  have HK := Lib.hid hk
  have HP := Lib.hid h
  have HT := Lib.hid hT
  clear hk h hT
  go_enter Tryz.func168, Tryz.ntmps168
  go_wp2_with (first
    | ((with_reducible refine wpList_here ?_); refine wpList_zerosA rfl 195 rfl 32 zero32 w6.heap.size rfl ?_; intro w7 x7 b11 s7
       have z7 := z6.below b11
       have y7 := y6.below b11
       have b12 := below_trans b10 b11
       clear z6 y6 b11)
    | ((with_reducible refine wpList_here ?_); refine wpList_zerosA rfl 195 rfl 32 zero32 _ rfl ?_; intro w1 z1 b1 s1)
    | (go_at_call 237; refine (filled_any B m d k w1 (HK.out.below b1) (by omega) (HT.out.below b1)).mono ?_; rintro e w2 ⟨rfl, b2⟩
       have z2 := z1.below b2
       have b3 := below_trans b1 b2
       have q2 : w.heap.size < w2.heap.size := by have := b2.size; omega
       clear b2 z1)
    | ((with_reducible refine wpList_here ?_); refine wpList_zerosA rfl 288 rfl 64 zeroBlock w2.heap.size rfl ?_; intro w3 y3 b4 s3
       have z3 := z2.below b4
       have b5 := below_trans b3 b4
       clear z2 b4)
    | ((with_reducible refine wpList_here ?_); refine wpList_storeA rfl 288 (.tmp 5) (.tmp 8) rfl w2.heap.size 64 _ (kf k) rfl rfl y3 HKL.out infoBlock ?_; intro w4 y4 g4 s4
       have z4 := z3.far g4 (by simp; omega)
       have b6 := below_g b5 g4 b5.size b3.size
       have q4 : w2.heap.size < w4.heap.size := by omega
       clear z3 b5 g4 y3 s3 s4)
    | ((with_reducible refine wpList_here ?_); refine wpList_loadA rfl 288 (.tmp 5) rfl w2.heap.size 64 (kf k) rfl y4 HKL.out (.array 64 5) Tryz.underlying288 rfl infoBlock ?_)
    | (go_at_call 239; refine (added_any (kf k) HKL.out 54 w4).mono ?_; rintro e w5 ⟨rfl, b7⟩
       have z5 := z4.below b7
       have y5 := y4.below b7
       have b8 := below_trans b6 b7
       have q5 : w2.heap.size < w5.heap.size := Nat.lt_of_lt_of_le q4 b7.size
       clear z4 y4 b7)
    | (go_at_call 238; refine (hdig_any (xo 54 (kf k)) HX1.out A n c ps w5 (HP.out.below b8) ht hn (HT.out.below b8)).mono ?_; rintro e w6 ⟨rfl, b9⟩
       have z6 := z5.below b9
       have y6 := y5.below b9
       have b10 := below_trans b8 b9
       have q6 : w2.heap.size < w6.heap.size := Nat.lt_of_lt_of_le q5 b9.size
       clear z5 y5 b9)
    | ((with_reducible refine wpList_here ?_); refine wpList_storeA rfl 195 (.tmp 6) (.tmp 12) rfl w6.heap.size 32 _ (dg (xo 54 (kf k) ++ fl ps n)) rfl rfl x7 HD.out info32 ?_; intro w8 x8 g8 s8
       have HMID : Mid w w8 w2.heap.size w6.heap.size (kf k) (dg (xo 54 (kf k) ++ fl ps n)) := ⟨(y7.far g8 (by simp; omega)).list HKL.out, (z7.far g8 (by simp; omega)).there, x8.rb HD.out (by omega), below_g b12 g8 b12.size (by have := b10.size; omega)⟩
       clear z7 y7 x7 g8 x8))
  have hq6 : w2.heap.size < w6.heap.size := q6
  clear q4 q5 b3 b6 b8 b10 b12 s7 s8
  generalize hI : dg (xo 54 (kf k) ++ fl ps n) = I at *
  have HI := Lib.hid hI
  clear hI
  have HR : w8.rangeAt w2.heap.size 0 (bv (kf k)) := HMID.1
  have HIB : (Tryz.prog.info? 288).map (·.size) = some (bv (kf k)).length := by rw [bv_length, HKL.out]; exact infoBlock
  have HUB : Tryz.prog.underlying 288 = some (.array 64 5) := Tryz.underlying288
  simp only [Act.put, List.setIfInBounds_toArray, List.set_cons_zero, List.set_cons_succ]
  have m0 : Mid w w8.drew w2.heap.size w6.heap.size (kf k) I := HMID.below (Below.refl _ _).drew
  have hD : ∃ D, D = dg (xo 92 (kf k) ++ I) := ⟨_, rfl⟩
  obtain ⟨D, hDE⟩ := hD
  have HDD : Hid (D.length = 32) := Lib.hid (by rw [hDE]; exact dg_length _)
  have HDE := Lib.hid hDE
  have HINF : (Tryz.prog.info? 195).map (·.size) = some (bv D).toArray.size := by rw [List.size_toArray, bv_length, HDD.out]; exact info32
  have HONE := bv_one D
  clear hDE HR
  go_region_held3 (fun W => W.rangeAt w2.heap.size 0 (bv (kf k)) ∧ Mid w W w2.heap.size w6.heap.size (kf k) I)
    (first
      | exact ⟨HMID.1, m0⟩
      | exact ⟨m9.1, m9⟩
      | exact Mid.keep (by assumption) (below_a _ _)
      | exact Mid.keep (by assumption) (by assumption)
      | exact Mid.set (by assumption) (by omega) (by omega) _)
    (first
      | (go_at_call 239; (with_reducible refine calls_drew ?_); refine (added_built (kf k) HKL.out 92 rfl HMID.2.2.1).mono ?_; rintro e w9 ⟨rfl, p9, b9⟩; have m9 := HMID.below b9)
      | (go_at_call 239; refine (added_any (kf k) HKL.out 92 _).mono ?_; rintro e w9 ⟨rfl, b9⟩; have m9 := m0.below b9)
      | (go_at_call 238; (with_reducible refine calls_alloc ?_)
         have mA := m9.below (below_a w9 (.cells #[.slice (some ⟨w6.heap.size, 0, none⟩) 32 32] 38))
         refine (hdig_one (xo 92 (kf k)) HX2.out (Parts.one (cell_new w9 _ _) mA.2.2.1) HD.out (HT.out.below mA.2.2.2)).mono ?_; rintro e wA ⟨rfl, bA⟩
         have mB := mA.below bA
         have hth := there_bv mB.2.1 HDD.out
         rw [← HDE.out])
      | (go_at_call 238; refine (hdig_one (xo 92 (kf k)) HX2.out p9 HD.out (HT.out.below m9.2.2.2)).mono ?_; rintro e wA ⟨rfl, bA⟩
         have mB := m9.below bA
         have hth := there_bv mB.2.1 HDD.out
         rw [← HDE.out]))
  all_goals
    have hr := World.rangeAt_setCells_same wA w.heap.size 0 (bv D) (show wA.there w.heap.size 0 (bv D).length from hth)
    have hb := below_setCells w.heap.size (Nat.le_refl _) (bv D) 0 _ mB.2.2.2
    have HINF2 : Hid ((Tryz.prog.info? 195).map (·.size) = some (bv D).length) := Lib.hid HINF
    have HE : Hid (D = hm k (fl ps n)) := Lib.hid (by rw [HM.out, ← HDE.out])
    generalize wA.setCells w.heap.size 0 (bv D) = wB at *
    clear hth HINF HIB HUB
    go_wp2_with fail
    refine bodyPost_ret (results_cell_mid rfl _ _ w.heap.size (bv D) (.array 32 5) rfl hr Tryz.underlying195 rfl HINF2.out) rfl ⟨by rw [HE.out], hb⟩
end Go.Proofs.YtlcegchdkigibaaGreatDoor.LK

namespace Go.Proofs.YtlcegchdkigibaaGreatDoor.LK
set_option linter.unusedVariables false
set_option linter.unusedSimpArgs false
open Go.RowKit

/-- The digest with a key of one piece in a new list. -/
theorem hmac_at1 {B : Option Addr} {m d : Nat} {k : List UInt8} {A : Option Addr} {n c : Nat} {l : List UInt8} {w : World} {t : TypeId} {g : Nat} (hg : g = w.heap.size) (hk : RB w B m d k) (h : RB w A n c l) (hml : m ≤ 137438953472) (hn : n ≤ 137438953472) (hT : Tab w) :
    Calls Tryz.prog 168 #[.slice B m d, .slice (some ⟨g, 0, none⟩) 1 1] (w.alloc (.cells #[.slice A n c] t)) fun e w' => e = .returned (.agg (bv (hm k l)).toArray) ∧ Below w.heap.size w w' := by
  subst hg
  have hb := below_a w (.cells #[.slice A n c] t)
  have hp : Parts (w.alloc (.cells #[.slice A n c] t)) (some ⟨w.heap.size, 0, none⟩) 1 1 [l] := Parts.one (cell_new w _ t) (h.below hb)
  have e1 : fl [l] 1 = l := by simp [fl]
  have e2 : tl [l] 1 = n := by rw [tl, e1, h.len]
  have := hmac_any B m d k (some ⟨w.heap.size, 0, none⟩) 1 1 [l] _ (hk.below hb) hp hml (by rw [e2]; exact hn) (by omega) (hT.below hb)
  rw [e1] at this
  refine this.mono ?_
  rintro e w' ⟨rfl, b⟩
  exact ⟨rfl, below_trans hb b⟩

theorem wn8 : wn 8 = 8 := rfl
theorem wn4 : wn 4 = 4 := rfl

set_option maxHeartbeats 800000 in
theorem token_any (k : Nat) (w : World) (hk : k < 18446744073709551616) (hT : Tab w) :
    Calls Tryz.prog 104 #[.int .u64 (k : Int)] w fun e w' => e = .returned (.int .u32 (kt k : Nat)) ∧ Below w.heap.size w w' := by
  have hlt := kt_lt k
  have HD := Lib.hid (dg_length (be k 8))
  have HK : Hid (kt k = num ((dg (be k 8)).take 4)) := Lib.hid rfl
  go_enter Tryz.func104, Tryz.ntmps104
  go_wp2_with (first
    | (go_at_call 152; refine (put_one rfl hk wn8).mono ?_; rintro e w1 ⟨A1, c1, rfl, r1, b1⟩; have t1 := hT.below b1; clear hT)
    | (go_at_call 151; refine (sha_one rfl r1 (by omega) t1).mono ?_; rintro e w2 ⟨rfl, b2⟩; have b3 := below_trans (below_trans b1 (below_a w1 _)) b2; clear b1 b2 t1 r1)
    | (go_at_call 150; refine (front_any (dg (be k 8)) HD.out 4 4 (.inl ⟨rfl, rfl⟩) _).mono ?_; rw [← HK.out]; generalize hx : kt k = x at *; have HX := Lib.hid hx; clear hx; rintro e w4 ⟨rfl, b4⟩; have b5 := below_trans b3 b4; clear b3 b4))
  go_ret
  exact ⟨by rw [HX.out]; rfl, b5⟩

set_option maxHeartbeats 800000 in
theorem proof_any (own other nonce back : Nat) (w : World) (h1 : own < 18446744073709551616) (h2 : other < 18446744073709551616) (h3 : nonce < 4294967296) (h4 : back < 4294967296) (hT : Tab w) :
    Calls Tryz.prog 114 #[.int .u64 (own : Int), .int .u64 (other : Int), .int .u32 (nonce : Int), .int .u32 (back : Int)] w fun e w' => e = .returned (.int .u64 (kp own other nonce back : Nat)) ∧ Below w.heap.size w w' := by
  have HD := Lib.hid (hm_length (be own 8 ++ be other 8) (be nonce 4 ++ be back 4))
  have HK : Hid (kp own other nonce back = num ((hm (be own 8 ++ be other 8) (be nonce 4 ++ be back 4)).take 8)) := Lib.hid rfl
  go_enter Tryz.func114, Tryz.ntmps114
  go_wp2_with fail
  refine (put_two rfl h1 h2 wn8).mono ?_
  rintro e w1 ⟨A1, c1, rfl, r1, b1⟩
  go_wp2_with fail
  refine (put_two rfl (by omega) (by omega) wn4).mono ?_
  rintro e w2 ⟨A2, c2, rfl, r2, b2⟩
  have r1' := r1.below b2
  have b3 := below_trans b1 b2
  have t3 := hT.below b3
  clear r1 b1 b2 hT
  go_wp2_with fail
  refine (hmac_at1 rfl r1' r2 (by omega) (by omega) t3).mono ?_
  rintro e w4 ⟨rfl, b4⟩
  have b5 := below_trans b3 b4
  clear b3 b4 t3 r1' r2
  go_wp2_with fail
  refine (front_any _ HD.out 8 8 (.inr ⟨rfl, rfl⟩) _).mono ?_
  rw [← HK.out]
  generalize hx : kp own other nonce back = x at *
  have HX := Lib.hid hx
  clear hx
  rintro e w6 ⟨rfl, b6⟩
  have b7 := below_trans b5 b6
  go_wp2_with fail
  go_ret
  exact ⟨by rw [HX.out]; rfl, b7⟩

end Go.Proofs.YtlcegchdkigibaaGreatDoor.LK
