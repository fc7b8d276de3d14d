/- The walk of the law SegmentSize. Conditions: the segment and the table of widths stand.
What a right segment's bytes tell of its numbers; the contracts of a head's segment, of filling and of optionsIn. Conditions: the segment stands, and is right.
What options' bytes tell, and a new slice of one option: what the laws of layer 7 and the layers above lean on. No condition.
octet.Cut once more: what is behind lies in memory of the call's own. Condition: the slice holds bytes, at most 2^39 of them.
option.Get once more: what is behind lies in memory of the call's own. Condition: the slice holds bytes, at most 2^30 of them. -/
import Derived.Test.YtbbpemndkphgeaaDoorMg16
import Derived.Test.YtbbpemndkphgeaaDoorMg15
import Derived.Test.YtbbpemndkphgeaaDoorMg13
import Derived.Test.YtbbpemndkphgeaaDoorMg8
import Derived.Test.YtbbpemndkphgeaaDoorMg7
namespace Go.Proofs.YtbbpemndkphgeaaDoor
set_option linter.unusedVariables false
set_option linter.unusedSimpArgs false
open Go.RowKit

theorem Tab.far {w w' : World} {row : Option Nat} (h : Tab w) (hg : w.grownBy w' row) (hne : some 0 ≠ row) : Tab w' := fun i hi => (hg.cell_far _ (World.block_lt_of_cell? w _ (h i hi)) hne).trans (h i hi)
/-- A segment without options and data. -/
def bareS (s : Seg) : Seg := { s with oA := none, on := 0, oc := 0, dA := none, dn := 0, dc := 0, os := [], ds := [] }
theorem bare_ok {w : World} {s : Seg} (h : SG w s) (w' : World) : SG w' (bareS s) := ⟨h.src, h.dst, h.sport, h.dport, h.seq, h.ack, h.win, OS.nil_ w', RB.nil_ w'⟩
theorem bare_right {s : Seg} (h : rightS s = true) : rightS (bareS s) = true := by
  obtain ⟨h1, h2, h3, h4, h5, _⟩ := right_all h
  exact right_of (s := bareS s) h1 h2 h3 h4 h5 (Nat.zero_le _) (Nat.zero_le _)
theorem bare_len {w : World} {s : Seg} (h : SG w s) : (sbs (bareS s)).length = 22 := by
  rw [sbs_length (bare_ok h w)]
  simp [bareS, obs]
theorem long_le12 (k : Int) : long (tab k) ≤ 12 := by
  unfold tab
  split
  · decide
  · unfold tabN
    split <;> decide
theorem obs_le13 (os : List Opt) : (obs os).length ≤ 13 * os.length := by
  induction os with
  | nil => simp [obs]
  | cons o r ih =>
    have : obs (o :: r) = ob o ++ obs r := rfl
    rw [this, List.length_append, List.length_cons, ob_length]
    have := long_le12 o.kind
    omega
theorem size_all {w : World} {s : Seg} (h : SG w s) (hr : rightS s = true) : (sbs s).length % 2 = 0 ∧ 22 ≤ (sbs s).length ∧ 21 + s.dn ≤ (sbs s).length ∧ (sbs s).length ≤ 82 := by
  have h1 := sbs_length h
  have h2 := obs_le13 s.os
  rw [h.opts.len] at h2
  obtain ⟨_, _, _, _, _, h6, h7, _⟩ := right_all hr
  omega

set_option maxRecDepth 8000 in
set_option maxHeartbeats 3200000 in
theorem Size_law (s : Seg) (w : World) (h : SG w s) (hT : Tab w) :
    Calls Tryd.prog 6 #[.agg s.vals.toArray] w (Held w) := by
  have HL1 := Lib.hid (fun W => long_law s W)
  by_cases hlong : (decide (50 < s.on) || decide (200 < s.dn)) = true
  · rw [hlong] at HL1
    go_enter Tryd.func6, Tryd.ntmps6
    go_wp2_with (first
      | ((with_reducible refine wpList_here ?_); refine wpList_boxV (o := ⟨some 1, _, _, _, _, _⟩) rfl 26 (.tmp 0) rfl s.vals rfl _ rfl ?_; intro w1 z1 b1 s1))
    refine (swakes_any _ (hT.below b1)).mono ?_
    rintro e w2 ⟨rfl, b2⟩
    have z2 := z1.below b2
    have b3 := below_trans b1 b2
    clear z1 b1 s1 b2 h hT
    go_wp2_with (first
      | ((with_reducible refine wpList_here ?_); refine wpList_loadV (o := ⟨some 10, _, _, _, _, _⟩) rfl 26 (.tmp 1) rfl _ _ s.vals rfl z2.range _ Tryd.underlying26 rfl infoSeg ?_))
    refine (HL1.out _).mono ?_
    rintro e w4 ⟨rfl, b4⟩
    have b5 := below_trans b3 b4
    go_wp2_with fail
    go_ret
    exact ⟨rfl, b5⟩
  have hlong' : (decide (50 < s.on) || decide (200 < s.dn)) = false := by simpa using hlong
  rw [hlong'] at HL1
  clear hlong hlong'
  have HP := Lib.hid (fun W a b => SegPut_any s W a b)
  cases hr : rightS s with
  | false =>
    have HRS := Lib.hid hr
    have HRR := Lib.hid (fun W hW => RSegRight_any s W hW)
    rw [hr] at HRR
    clear hr
    go_enter Tryd.func6, Tryd.ntmps6
    go_wp2_with (first
      | ((with_reducible refine wpList_here ?_); refine wpList_boxV (o := ⟨some 1, _, _, _, _, _⟩) rfl 26 (.tmp 0) rfl s.vals rfl _ rfl ?_; intro w1 z1 b1 s1))
    refine (swakes_any _ (hT.below b1)).mono ?_
    rintro e w2 ⟨rfl, b2⟩
    have z2 := z1.below b2
    have b3 := below_trans b1 b2
    have h3 := h.below b3
    have t3 := hT.below b3
    clear z1 b1 s1 b2 h hT
    go_wp2_with (first
      | ((with_reducible refine wpList_here ?_); refine wpList_loadV (o := ⟨some 10, _, _, _, _, _⟩) rfl 26 (.tmp 1) rfl _ _ s.vals rfl z2.range _ Tryd.underlying26 rfl infoSeg ?_))
    refine (HL1.out _).mono ?_
    rintro e w4 ⟨rfl, b4⟩
    have z4 := z2.below b4
    have b5 := below_trans b3 b4
    have h5 := h3.below b4
    have t5 := t3.below b4
    clear z2 b3 h3 t3 b4
    go_wp2_with (first
      | ((with_reducible refine wpList_here ?_); refine wpList_loadV (o := ⟨some 13, _, _, _, _, _⟩) rfl 26 (.tmp 1) rfl _ _ s.vals rfl z4.range _ Tryd.underlying26 rfl infoSeg ?_))
    refine (HP.out _ h5 t5).mono ?_
    rintro e w6 ⟨_, p6, b6⟩
    obtain rfl := p6 HRS.out
    have z6 := z4.below b6
    have b7 := below_trans b5 b6
    have h7 := h5.below b6
    clear z4 b5 h5 t5 b6 p6
    go_wp2_with (first
      | ((with_reducible refine wpList_here ?_); refine wpList_loadV (o := ⟨some 19, _, _, _, _, _⟩) rfl 26 (.tmp 1) rfl _ _ s.vals rfl z6.range _ Tryd.underlying26 rfl infoSeg ?_))
    refine (HRR.out _ h7).mono ?_
    rintro e w8 ⟨rfl, b8⟩
    have b9 := below_trans b7 b8
    go_wp2_with fail
    go_ret
    exact ⟨rfl, b9⟩
  | true =>
    have HRS := Lib.hid hr
    obtain ⟨l1, l2, l3, l4⟩ := size_all h hr
    have HPB := Lib.hid (fun W b => SegPut_any (bareS s) W (bare_ok h W) b)
    have HBR := Lib.hid (bare_right hr)
    have HBL := Lib.hid (bare_len h)
    have hcap := h.data.cap
    have hmax := h.data.max
    obtain ⟨_, _, _, _, _, h6, h7, _⟩ := right_all hr
    clear hr
    go_enter Tryd.func6, Tryd.ntmps6
    go_wp2_with (first
      | ((with_reducible refine wpList_here ?_); refine wpList_boxV (o := ⟨some 1, _, _, _, _, _⟩) rfl 26 (.tmp 0) rfl s.vals rfl _ rfl ?_; intro w1 z1 b1 s1))
    refine (swakes_any _ (hT.below b1)).mono ?_
    rintro e w2 ⟨rfl, b2⟩
    have z2 := z1.below b2
    have b3 := below_trans b1 b2
    have h3 := h.below b3
    have t3 := hT.below b3
    clear z1 b1 s1 b2 h hT
    go_wp2_with (first
      | ((with_reducible refine wpList_here ?_); refine wpList_loadV (o := ⟨some 10, _, _, _, _, _⟩) rfl 26 (.tmp 1) rfl _ _ s.vals rfl z2.range _ Tryd.underlying26 rfl infoSeg ?_))
    refine (HL1.out _).mono ?_
    rintro e w4 ⟨rfl, b4⟩
    have z4 := z2.below b4
    have b5 := below_trans b3 b4
    have h5 := h3.below b4
    have t5 := t3.below b4
    clear z2 b3 h3 t3 b4
    go_wp2_with (first
      | ((with_reducible refine wpList_here ?_); refine wpList_loadV (o := ⟨some 13, _, _, _, _, _⟩) rfl 26 (.tmp 1) rfl _ _ s.vals rfl z4.range _ Tryd.underlying26 rfl infoSeg ?_))
    refine (HP.out _ h5 t5).mono ?_
    rintro e w6 ⟨p6, _, b6⟩
    obtain ⟨A6, c6, rfl, r6, _⟩ := p6 HRS.out
    have z6 := z4.below b6
    have b7 := below_trans b5 b6
    have t7 := t5.below b6
    have t7lt := World.block_lt_of_cell? w6 _ (t7 0 (by omega))
    have hlt6 := z6.lt (Nat.zero_lt_succ _)
    have hr6 := r6.cap
    have hr7 := r6.max
    clear z4 b5 h5 t5 b6 p6 HP HL1 r6
    generalize (sbs s).length = L at *
    go_upto_region 9 with (first
      | ((with_reducible refine wpList_here ?_); refine wpList_loadV (o := ⟨some 22, _, _, _, _, _⟩) rfl 26 (.tmp 1) rfl _ _ s.vals rfl z6.range _ Tryd.underlying26 rfl infoSeg ?_)
      | ((with_reducible refine wpList_here ?_); refine wpList_allocV (o := ⟨some 5, _, _, _, _, _⟩) rfl 26 rfl _ zeroSeg _ rfl ?_; intro w8 z8 d8 s8)
      | ((with_reducible refine wpList_here ?_); refine wpList_storeV rfl 26 (.tmp 5) (.tmp 22) rfl _ _ s.vals rfl rfl z8 rfl (sv_one _) infoSeg ?_; intro w9 z9 g9 s9))
    have d9 := v_below_g d8 g9 d8.size (Nat.le_refl _)
    have z6' := z6.below d9
    have b9 := below_trans b7 d9
    have t9 := t7.below d9
    have hlt9 := b7.size
    generalize w6.heap.size = g at *
    clear z6 b7 t7 z8 d8 s8 g9 s9 d9
    have c11 := z9.cels.c11
    have f11 := (z9 11 (by rw [s.vals_length]; omega)).2
    have y9 := z9.set 11 (by rw [s.vals_length]; omega) (.slice none 0 0)
    have c12 : (w9.setCell ⟨g, 11, none⟩ (.slice none 0 0)).cell? ⟨g, 12, none⟩ = some (.slice s.dA s.dn s.dc) := (y9 12 (by rw [List.length_set, s.vals_length]; omega)).1
    have f12 := (y9 12 (by rw [List.length_set, s.vals_length]; omega)).2
    have z10 : Own ((w9.setCell ⟨g, 11, none⟩ (.slice none 0 0)).setCell ⟨g, 12, none⟩ (.slice none 0 0)) g (bareS s).vals := y9.set 12 (by rw [List.length_set, s.vals_length]; omega) (.slice none 0 0)
    have g10 : w9.grownBy ((w9.setCell ⟨g, 11, none⟩ (.slice none 0 0)).setCell ⟨g, 12, none⟩ (.slice none 0 0)) (some g) := (v_g_set w9 g 11 _).trans (v_g_set _ g 12 _)
    have Z10 := Lib.hid z10
    have G10 := Lib.hid g10
    clear z10 g10 y9
    go_upto_region 10 with fail
    have z10 := Z10.out
    have g10 := G10.out
    generalize (w9.setCell ⟨g, 11, none⟩ (.slice none 0 0)).setCell ⟨g, 12, none⟩ (.slice none 0 0) = w10 at *
    have z10' := z6'.far g10 (by intro e; injection e with e; omega)
    have b10 := v_below_g b9 g10 b9.size hlt9
    have t10 : Tab w10 := t9.far g10 (by intro e; injection e with e; have : 0 < g := t7lt; omega)
    clear Z10 G10 c11 f11 c12 f12 z9 z6' b9 t9 g10
    go_wp2_with (first
      | ((with_reducible refine wpList_here ?_); refine wpList_loadV (o := ⟨some 26, _, _, _, _, _⟩) rfl 26 (.tmp 5) rfl _ _ (bareS s).vals rfl z10.range _ Tryd.underlying26 rfl infoSeg ?_))
    refine (HPB.out _ t10).mono ?_
    rintro e w12 ⟨p12, _, b12⟩
    rw [HBL.out] at p12
    obtain ⟨A12, c12, rfl, _, _⟩ := p12 HBR.out
    have z12 := z10'.below b12
    have b13 := below_trans b10 b12
    have k12 := z12.cels.c12
    have m1 : (L : Int) % 2 = 0 := by omega
    have m2 : (22 : Int) ≤ (L : Int) := by omega
    have m3 : (21 : Int) + (s.dn : Int) ≤ (L : Int) := by omega
    have m4 : (L : Int) ≤ 82 := by omega
    clear z10 z10' b10 t10 b12 p12 HPB z12
    go_wp2_with fail
    go_ret
    exact ⟨rfl, b13⟩
end Go.Proofs.YtbbpemndkphgeaaDoor

namespace Go.Proofs.YtbbpemndkphgeaaDoor
set_option linter.unusedVariables false
set_option linter.unusedSimpArgs false
open Go.RowKit

theorem hby_front (h : List Nat) (i : Nat) : ∀ d, ∃ R, hby h (i + d) = hby h i ++ R
  | 0 => ⟨[], by simp⟩
  | d + 1 => by
    obtain ⟨R, e⟩ := hby_front h i d
    exact ⟨R ++ be (h.getD (i + d) 0) (wd (i + d)), by rw [← Nat.add_assoc, hby_step, e, List.append_assoc]⟩
theorem hby_at (h : List Nat) (rest : List UInt8) {i : Nat} (hi : i < 10) : ((hby h 10 ++ rest).drop (off i)).take (wd i) = be (h.getD i 0) (wd i) := by
  obtain ⟨R, e⟩ := hby_front h (i + 1) (10 - (i + 1))
  rw [show i + 1 + (10 - (i + 1)) = 10 from by omega, hby_step h i] at e
  rw [e, List.append_assoc, List.append_assoc, List.drop_left' (hby_length h i (by omega)), List.take_left' (be_length _ _)]
theorem u64_pos' {x : Int} (h : 0 ≤ x) (h' : x ≤ 65535) : (u64 x : Int) = x := by
  rw [u64_int]
  omega
theorem head_fits {w : World} {s : Seg} (h : SG w s) (hr : rightS s = true) {i : Nat} (hi : i < 10) : s.head.getD i 0 < 256 ^ wd i := by
  obtain ⟨h1, h2, h3, h4, h5, h6, h7, _⟩ := right_all hr
  have e1 := u64_pos' h1.1 (by omega)
  have e2 := u64_pos' h2.1 (by omega)
  have e3 := u64_pos' h3.1 h3.2
  have e4 := u64_pos' h4.1 h4.2
  have e5 := u64_pos' h5.1 h5.2
  have e6 := flN_lt s.syn s.acks s.fin s.rst
  have e7 := h.seq
  have e8 := h.ack
  rcases (by omega : i = 0 ∨ i = 1 ∨ i = 2 ∨ i = 3 ∨ i = 4 ∨ i = 5 ∨ i = 6 ∨ i = 7 ∨ i = 8 ∨ i = 9) with rfl | rfl | rfl | rfl | rfl | rfl | rfl | rfl | rfl | rfl
  · show u64 s.src < 256; omega
  · show u64 s.dst < 256; omega
  · show u64 s.sport < 65536; omega
  · show u64 s.dport < 65536; omega
  · show s.seq < 4294967296; omega
  · show s.ack < 4294967296; omega
  · show flN s.syn s.acks s.fin s.rst < 256; omega
  · show u64 s.win < 65536; omega
  · show s.on < 256; omega
  · show s.dn < 256; omega
theorem hin_head {w : World} {s : Seg} (h : SG w s) (hr : rightS s = true) (rest : List UInt8) : hin (hby s.head 10 ++ rest) 10 = s.head := by
  have e : hin (hby s.head 10 ++ rest) 10 = (List.range 10).map fun i => s.head.getD i 0 := by
    unfold hin
    apply List.map_congr_left
    intro i hi
    have hi' := List.mem_range.1 hi
    rw [if_pos hi', hby_at _ _ hi', num_be, Nat.mod_eq_of_lt (head_fits h hr hi')]
  rw [e]
  rfl

theorem and_flag (a b c d : Bool) : bits .and .u64 ((flN a b c d : Nat) : Int) 1 = ((b2n a : Nat) : Int) ∧ bits .and .u64 ((flN a b c d : Nat) : Int) 2 = 2 * ((b2n b : Nat) : Int) ∧ bits .and .u64 ((flN a b c d : Nat) : Int) 4 = 4 * ((b2n c : Nat) : Int) ∧ bits .and .u64 ((flN a b c d : Nat) : Int) 8 = 8 * ((b2n d : Nat) : Int) := by
  cases a <;> cases b <;> cases c <;> cases d <;> exact ⟨by kernel_rfl, by kernel_rfl, by kernel_rfl, by kernel_rfl⟩
theorem ne_flag (a : Bool) : (((b2n a : Nat) : Int) != 0) = a ∧ ((2 * ((b2n a : Nat) : Int)) != 0) = a ∧ ((4 * ((b2n a : Nat) : Int)) != 0) = a ∧ ((8 * ((b2n a : Nat) : Int)) != 0) = a := by
  cases a <;> exact ⟨rfl, rfl, rfl, rfl⟩

set_option maxRecDepth 8000 in
set_option maxHeartbeats 3200000 in
theorem segment_any (s : Seg) (w : World) (h : SG w s) (hr : rightS s = true) :
    Calls Tryd.prog 29 #[.agg (hv s.head).toArray] w fun e w' => e = .returned (.agg (bareS s).vals.toArray) ∧ Below w.heap.size w w' := by
  obtain ⟨h1, h2, h3, h4, h5, _⟩ := right_all hr
  have e1 := u64_pos' h1.1 (by omega)
  have e2 := u64_pos' h2.1 (by omega)
  have e3 := u64_pos' h3.1 h3.2
  have e4 := u64_pos' h4.1 h4.2
  have e5 := u64_pos' h5.1 h5.2
  have hq := h.seq
  have ha := h.ack
  have hi : (Tryd.prog.info? 46).map (·.size) = some (hv s.head).length := by rw [hv_length]; exact infoHead
  have HI := Lib.hid hi
  obtain ⟨a1, a2, a3, a4⟩ := and_flag s.syn s.acks s.fin s.rst
  have n1 := (ne_flag s.syn).1
  have n2 := (ne_flag s.acks).2.1
  have n3 := (ne_flag s.fin).2.2.1
  have n4 := (ne_flag s.rst).2.2.2
  have ROW : Hid (∀ W : World, Own W w.heap.size (hv s.head) → W.cell? ⟨w.heap.size, 0, none⟩ = some (.int .u64 s.src) ∧ W.cell? ⟨w.heap.size, 1, none⟩ = some (.int .u64 s.dst) ∧ W.cell? ⟨w.heap.size, 2, none⟩ = some (.int .u64 s.sport) ∧ W.cell? ⟨w.heap.size, 3, none⟩ = some (.int .u64 s.dport) ∧ W.cell? ⟨w.heap.size, 4, none⟩ = some (.int .u64 (s.seq : Int)) ∧ W.cell? ⟨w.heap.size, 5, none⟩ = some (.int .u64 (s.ack : Int)) ∧ W.cell? ⟨w.heap.size, 6, none⟩ = some (.int .u64 ((flN s.syn s.acks s.fin s.rst : Nat) : Int)) ∧ W.cell? ⟨w.heap.size, 7, none⟩ = some (.int .u64 s.win)) := Lib.hid (by
    intro W hW
    have hl : (hv s.head).length = 10 := by rw [hv_length]; rfl
    have c0 : W.cell? ⟨w.heap.size, 0, none⟩ = some (.int .u64 ((u64 s.src : Nat) : Int)) := (hW 0 (by omega)).1
    have c1 : W.cell? ⟨w.heap.size, 1, none⟩ = some (.int .u64 ((u64 s.dst : Nat) : Int)) := (hW 1 (by omega)).1
    have c2 : W.cell? ⟨w.heap.size, 2, none⟩ = some (.int .u64 ((u64 s.sport : Nat) : Int)) := (hW 2 (by omega)).1
    have c3 : W.cell? ⟨w.heap.size, 3, none⟩ = some (.int .u64 ((u64 s.dport : Nat) : Int)) := (hW 3 (by omega)).1
    have c7 : W.cell? ⟨w.heap.size, 7, none⟩ = some (.int .u64 ((u64 s.win : Nat) : Int)) := (hW 7 (by omega)).1
    rw [e1] at c0
    rw [e2] at c1
    rw [e3] at c2
    rw [e4] at c3
    rw [e5] at c7
    exact ⟨c0, c1, c2, c3, (hW 4 (by omega)).1, (hW 5 (by omega)).1, (hW 6 (by omega)).1, c7⟩)
  clear h hr hi e1 e2 e3 e4 e5
  have hf := flN_lt s.syn s.acks s.fin s.rst
  generalize flN s.syn s.acks s.fin s.rst = f at *
  go_enter Tryd.func29, Tryd.ntmps29
  go_wp2_with (first
    | ((with_reducible refine wpList_here ?_); refine wpList_boxV (o := ⟨some 1, _, _, _, _, _⟩) rfl 46 (.tmp 0) rfl (hv s.head) rfl _ rfl ?_; intro w1 z1 b1 s1)
    | ((with_reducible refine wpList_here ?_); refine wpList_allocV (o := ⟨some 2, _, _, _, _, _⟩) rfl 26 rfl _ zeroSeg _ s1 ?_; intro w2 z2 b2 s2; obtain ⟨c0, c1, c2, c3, c4, c5, c6, c7⟩ := ROW.out w2 (z1.below b2))
    | ((with_reducible refine wpList_here ?_); refine wpList_storeV rfl 26 (.tmp 2) (.tmp 39) rfl _ _ (bareS s).vals rfl rfl z2 rfl (sv_one _) infoSeg ?_; intro w4 z4 g4 s4))
  have b4 := v_below_g (below_trans b1 b2) g4 (below_trans b1 b2).size (by omega)
  exact bodyPost_ret (results_c0 rfl _ _ (w.heap.size + 1) (bareS s).vals _ rfl z4.range Tryd.underlying26 rfl infoSeg) rfl ⟨rfl, b4⟩

theorem filling_pad (A : Option Addr) (n c : Nat) (l : List UInt8) (w : World) (h : RB w A n c (pad l)) :
    Calls Tryd.prog 32 #[.slice A n c] w fun e w' => e = .returned (.bool true) ∧ w = w' := by
  have hl := h.len
  rcases Nat.mod_two_eq_zero_or_one l.length with h2 | h2
  · have hp : pad l = [] := by unfold pad; rw [h2]; rfl
    rw [hp] at hl
    obtain rfl : n = 0 := hl.symm
    clear h hl hp
    go_enter Tryd.func32, Tryd.ntmps32
    go_wp2
    go_ret
    exact ⟨rfl, rfl⟩
  · have hp : pad l = [0] := by unfold pad; rw [h2]; rfl
    rw [hp] at hl h
    obtain rfl : n = 1 := hl.symm
    obtain ⟨b, o, rfl, hc⟩ := h.at_ (j := 0) (by omega)
    have hc' : w.cell? ⟨b, o, none⟩ = some (.int .u8 0) := hc
    clear h hl hp hc
    go_enter Tryd.func32, Tryd.ntmps32
    go_wp2
    go_ret
    exact ⟨rfl, rfl⟩
end Go.Proofs.YtbbpemndkphgeaaDoor

namespace Go.Proofs.YtbbpemndkphgeaaDoor
set_option linter.unusedVariables false
set_option linter.unusedSimpArgs false
open Go.RowKit

theorem OS.lit {w : World} (o : Opt) (ho : o.ok) (t : TypeId) {g : Nat} (hg : w.heap.size = g) : OS (w.alloc (.cells o.vals.toArray t)) (some ⟨g, 0, none⟩) 1 1 [o] := by
  subst hg
  refine ⟨rfl, Nat.le_refl _, by unfold maxLen; omega, fun x hx => by rw [List.mem_singleton.1 hx]; exact ho, fun _ => ⟨_, 0, rfl, fun j hj => ?_⟩⟩
  obtain rfl : j = 0 := by omega
  exact (Own.new w o.vals t).range

/-- A new slice of one option. -/
theorem wpList_litO {ops : Array Oper} {rest : List Oper} {op : Oper} {a : Act} {w : World} {Q : Exit → Act → World → Prop} (hgd : Region.wanted op (yielded ops a.tmps) = true) (x : Operand) (ho : op.op = .buildSlice 23 1 #[(0, x)]) (o : Opt) (hx : a.eval x = .agg o.vals.toArray) (hok : o.ok) (g : Nat) (hg : w.heap.size = g)
    (h : ∀ w', OS w' (some ⟨g, 0, none⟩) 1 1 [o] → Below w.heap.size w w' → wpList Tryd.prog ops Q rest (a.put op.dst (.slice (some ⟨g, 0, none⟩) 1 1)) w') : wpList Tryd.prog ops Q (op :: rest) a w := by
  subst hg
  refine wpList_want hgd fun _ hK => ?_
  have hrun : (Instr.buildSlice 23 1 #[(0, .agg o.vals.toArray)]).run Tryd.prog w = .ok (.slice (some ⟨w.heap.size, 0, none⟩) 1 1) (w.alloc (.cells o.vals.toArray 52)) := by kernel_rfl
  have hr : (execOp a.eval op).run Tryd.prog w = .ok (.value (.slice (some ⟨w.heap.size, 0, none⟩) 1 1)) (w.alloc (.cells o.vals.toArray 52)) := by
    simp [execOp, ho, hx, hrun]
  unfold Oper.wp
  rw [hr, Oper.upon_value]
  exact hK _ _ (h _ (OS.lit o hok _ rfl) (below_a w _))

theorem Get_any (A : Option Addr) (n c : Nat) (bs : List UInt8) (w : World) (h : RB w A n c bs) (hn : n ≤ 1073741824) : Calls Tryd.prog 48 #[.slice A n c] w (GetMade w (getR bs)) := by
  have hl := h.len
  cases n with
  | zero =>
    have e : getR bs = (zK 0, [], 3) := by unfold getR; rw [if_pos hl]
    rw [e]
    exact Get_none A c w
  | succ n =>
    have e : getR bs = getK (num (bs.take 1)) (bs.drop 1) := by unfold getR; rw [if_neg (by omega)]
    rw [e]
    exact Get_some A n c bs w h (by omega)

theorem right_sz {o : Opt} (h : rightB o = true) : sz o.kind ≠ 0 := by
  intro e
  have h1 : tab o.kind = [] := by
    unfold sz at e
    split at e
    · rename_i h2; exact List.eq_nil_of_length_eq_zero h2
    · omega
  rw [rightB_none h1] at h
  cases h

theorem getR_cons (x : UInt8) (l : List UInt8) : getR ([x] ++ l) = getK x.toNat l := by
  unfold getR
  rw [if_neg (by simp)]
  have e : num (([x] ++ l).take 1) = x.toNat := by simp [num]
  rw [e]
  rfl

theorem wide_tabN (n : Nat) : ∀ f ∈ tabN n, Wide f := by
  unfold tabN Wide spot
  split <;> decide

theorem wide_tab (k : Int) : ∀ f ∈ tab k, Wide f := by
  unfold tab
  split
  · simp
  · exact wide_tabN _

/-- What is put is got. -/
theorem getR_told {x : Opt} (hok : x.ok) (h : rightB x = true) (rest : List UInt8) : getR (ob x ++ rest) = (x, rest, 0) := by
  have hs := right_sz h
  have hr := sz_range hs
  obtain ⟨k, hk⟩ := Int.eq_ofNat_of_zero_le (show 0 ≤ x.kind by omega)
  have hob : ob x = [UInt8.ofNat (u64 x.kind)] ++ toldB x (tab x.kind) := by unfold ob; rw [byte_one]
  have hkk : (UInt8.ofNat (u64 x.kind)).toNat = k := by
    rw [UInt8.toNat_ofNat']
    have := u64_int x.kind
    omega
  have hp : prs (zK x.kind) (tab x.kind) (toldB x (tab x.kind)) = x := by
    have h1 := h
    rw [right_eq x hok] at h1
    unfold rrightB at h1
    split at h1
    · cases h1
    · split at h1
      · cases h1
      · rw [ob_drop] at h1
        exact (eqO_iff _ _).1 h1
  have hlen : (toldB x (tab x.kind)).length = long (tab x.kind) := toldB_length _ _
  have hokL : okL (tab x.kind) (toldB x (tab x.kind)) = true := by
    rw [okL_iff (tab x.kind) (zK x.kind) _ (wide_tab _) (fine_tab _).2.2 hlen, hp]
  rw [hob, List.append_assoc, List.singleton_append, ← List.singleton_append, getR_cons, hkk]
  rw [hk] at hp hlen hokL ⊢
  unfold getK
  rw [if_neg (by rw [List.length_append]; omega), List.take_left' hlen, List.drop_left' hlen, hp, hokL, h]
  rfl

theorem all_take {os : List Opt} (h : os.all rightB = true) (j : Nat) : (os.take j).all rightB = true := List.all_eq_true.2 fun y hy => List.all_eq_true.1 h y (List.mem_of_mem_take hy)

theorem all_at {os : List Opt} (h : os.all rightB = true) {j : Nat} (hj : j < os.length) : rightB (os.getD j (zK 0)) = true := by
  refine List.all_eq_true.1 h _ ?_
  simp [List.getD_eq_getElem?_getD, List.getElem?_eq_getElem hj]

theorem drop_getD {os : List Opt} {j : Nat} (h : j < os.length) : os.drop j = os.getD j (zK 0) :: os.drop (j + 1) := by
  rw [List.drop_eq_getElem_cons h]
  simp [List.getD_eq_getElem?_getD, List.getElem?_eq_getElem h]
end Go.Proofs.YtbbpemndkphgeaaDoor

namespace Go.Proofs.YtbbpemndkphgeaaDoor
set_option linter.unusedVariables false
set_option linter.unusedSimpArgs false
open Go.RowKit

/-- Where a slice has anything, it lies in a block that is new since w. -/
def Fr (w : World) (A : Option Addr) (n : Nat) : Prop := 0 < n → ∃ b o, A = some ⟨b, o, none⟩ ∧ w.heap.size ≤ b
theorem Fr.mono {w w' : World} {A : Option Addr} {n : Nat} (h : Fr w' A n) (hs : w.heap.size ≤ w'.heap.size) : Fr w A n := fun hn => by
  obtain ⟨b, o, e, hb⟩ := h hn
  exact ⟨b, o, e, Nat.le_trans hs hb⟩
theorem Join_one_fr {g : Nat} {B : Option Addr} {m d : Nat} {l : List UInt8} {w : World} (hc : w.cell? ⟨g, 0, none⟩ = some (.slice B m d)) (hr : RB w B m d l) (hm : m ≤ 1099511627776) :
    Calls Tryd.prog 21 #[.slice (some ⟨g, 0, none⟩) 1 1] w fun e w' => ∃ A c, e = .returned (.slice A m c) ∧ RB w' A m c l ∧ Fr w A m ∧ Below w.heap.size w w' := by
  have e1 : fl [l] 1 = l := by simp [fl]
  have e2 : tl [l] 1 = m := by rw [tl, e1, hr.len]
  refine (Join_any _ 1 1 [l] w (Parts.one hc hr) (by rw [e2]; exact hm)).mono ?_
  rintro e w' ⟨v, rfl, hown, hb⟩
  rw [e1, e2] at hown
  obtain ⟨A, c, rfl, h, _⟩ := RB.of_own hown
  refine ⟨A, c, rfl, h, fun hn => ?_, hb⟩
  rcases hown.2 with ⟨_, h0⟩ | ⟨k, cap, cur, e3, h1, _⟩
  · omega
  · injection e3 with e4
    exact ⟨k, 0, e4, h1⟩
/-- What octet.Cut leaves where it cuts. -/
def CutFr (W : World) (n1 : Nat) (l1 : List UInt8) (n2 : Nat) (l2 : List UInt8) (e : Ending) (w' : World) : Prop :=
  ∃ A1 c1 A2 c2, e = .returned (.tuple #[.slice A1 n1 c1, .slice A2 n2 c2, .int .i64 0]) ∧ RB w' A1 n1 c1 l1 ∧ RB w' A2 n2 c2 l2 ∧ Fr W A2 n2 ∧ Below W.heap.size W w'

set_option maxHeartbeats 800000 in
theorem Cut_fr (A : Option Addr) (n c k : Nat) (l : List UInt8) (w : World) (h : RB w A n c l) (hk : k ≤ n) (ht : n ≤ 549755813888) :
    Calls Tryd.prog 31 #[.slice A n c, .int .i64 (k : Int)] w (CutFr w k (l.take k) (n - k) (l.drop k)) := by
  have hn := h.max
  have hn' := h.cap
  have hk1 : k ≤ 1099511627776 := by omega
  have hk2 : n - k ≤ 1099511627776 := by omega
  obtain ⟨A2, hrun, h2⟩ := h.from_ hk
  have h1 := h.take hk
  go_enter Tryd.func31, Tryd.ntmps31
  go_wp2
  clear h
  go_region_with (first
    | (go_at_call 21; refine (Join_one_fr (B := A) (m := k) (d := c) (l := l.take k) ?_ (h1.below ?_) hk1).mono ?_; (first | exact cell_new _ _ _ | exact cell_new2 _ _ _ _ | exact cell_old2 _ _ _ _); (first | exact below_d (below_a _ _) | exact below_d (below_a2 _ _ _)); rintro e w1 ⟨B1, c1, rfl, hr1, _, hb1⟩; (first | have hbw1 := below_trans (below_d (below_a w _)) hb1 | have hbw1 := below_trans (below_d (below_a2 w _ _)) hb1); first | have hc2 := cell_later hb1 (cell_new2 _ _ (.slice A2 (n - k) (c - k)) _) | have hc2 := cell_later hb1 (cell_old2 _ _ (.slice A2 (n - k) (c - k)) _) | have hc2 := True.intro)
    | (go_at_call 21; refine (Join_one_fr (B := A2) (m := n - k) (d := c - k) (l := l.drop k) ?_ (h2.below ?_) hk2).mono ?_; (first | exact cell_new _ _ _ | exact hc2); (first | exact hbw1 | exact below_trans hbw1 (below_a _ _)); rintro e w2 ⟨B2, c2, rfl, hr2, f2, hb2⟩; first | (have hr3 := hr1.below hb2; have hbw2 := below_trans hbw1 hb2) | (have hr3 := (hr1.alloc _).below hb2; have hbw2 := below_trans (below_trans hbw1 (below_a _ _)) hb2)))
  all_goals
    go_wp2
    go_ret3
    exact ⟨_, _, _, _, rfl, hr3, hr2, (by first | exact f2.mono hbw1.size | exact f2.mono (Nat.le_trans hbw1.size (by simp))), hbw2⟩
end Go.Proofs.YtbbpemndkphgeaaDoor

namespace Go.Proofs.YtbbpemndkphgeaaDoor
set_option linter.unusedVariables false
set_option linter.unusedSimpArgs false
open Go.RowKit

/-- What Get leaves. -/
def GetFr (W : World) (r : Opt × List UInt8 × Int) (e : Ending) (w' : World) : Prop :=
  ∃ A c, e = .returned (.tuple #[.agg r.1.vals.toArray, .slice A r.2.1.length c, .int .i64 r.2.2]) ∧ RB w' A r.2.1.length c r.2.1 ∧ Fr W A r.2.1.length ∧ Below W.heap.size W w'
theorem getFr_err {W w' : World} {e : Ending} {x : Int} (h : e = .returned (.tuple #[.agg (zK 0).vals.toArray, .slice none 0 0, .int .i64 x])) (hb : Below W.heap.size W w') : GetFr W (zK 0, [], x) e w' :=
  ⟨none, 0, h, RB.nil_ _, fun hn => absurd hn (by simp), hb⟩

set_option maxRecDepth 8000 in
set_option maxHeartbeats 1600000 in
theorem Get_some_fr (A : Option Addr) (n c : Nat) (bs : List UInt8) (w : World) (h : RB w A (n + 1) c bs) (hn : n ≤ 1073741824) :
    Calls Tryd.prog 48 #[.slice A (n + 1) c] w (GetFr w (getK (num (bs.take 1)) (bs.drop 1))) := by
  have hx : num (bs.take 1) < 256 := by
    have h1 := num_lt (bs.take 1)
    have h2 : 256 ^ (bs.take 1).length ≤ 256 ^ 1 := Nat.pow_le_pow_right (by decide) (List.length_take_le _ _)
    omega
  have HT : Hid (∀ W, RB W A (n + 1) c bs → Calls Tryd.prog 47 #[.slice A (n + 1) c, .int .i64 1] W (TakeMade W (num (bs.take 1)) n (bs.drop 1))) := Lib.hid (fun W hW => Take_ok A (n + 1) c 1 bs W hW (by have : wn 1 = 1 := rfl; omega) (by omega))
  generalize num (bs.take 1) = k at *
  generalize bs.drop 1 = r at *
  have hz := zK_ok (k := (k : Int)) (by unfold isInt; omega)
  have hl := fine_tab (k : Int)
  go_enter Tryd.func48, Tryd.ntmps48
  go_wp2_with (first
    | ((with_reducible refine wpList_here ?_); refine wpList_allocV rfl 52 rfl (zK 0).vals zeroOpt _ rfl ?_; intro w1 z1 b1 s1))
  refine (HT.out _ (h.below b1)).mono ?_
  rintro e w2 ⟨A2, c2, rfl, r2, b2⟩
  have z2 := z1.below b2
  have b3 := below_trans b1 b2
  clear z1 b1 b2 s1 h
  go_wp2_with (first
    | ((with_reducible refine wpList_here ?_); refine wpList_allocV rfl 52 rfl (zK 0).vals zeroOpt _ rfl ?_; intro w4 z4 b4 s4)
    | ((with_reducible refine wpList_here ?_); refine wpList_storeV rfl 52 (.tmp 8) (.tmp 24) rfl _ _ (zK k).vals rfl rfl z4 rfl (vals_one _) infoOpt ?_; intro w5 z5 g5 s5))
  have d5 := v_below_g b4 g5 b4.size (Nat.le_refl _)
  have r5 := r2.below d5
  have y5 := z2.below d5
  have b6 := below_trans b3 d5
  have hg : w.heap.size < w2.heap.size := z2.lt (Nat.zero_lt_succ _)
  clear z4 b4 g5 d5 r2 z2 s4 s5
  have hrl := r5.len
  have HG : Hid (getK k r = if n < long (tab k) then (zK 0, [], 3) else if okL (tab k) (r.take (long (tab k))) && rightB (prs (zK k) (tab k) (r.take (long (tab k)))) then (prs (zK k) (tab k) (r.take (long (tab k))), r.drop (long (tab k)), 0) else (zK 0, [], 4)) := Lib.hid (by unfold getK; rw [hrl])
  have h48 := hl.long (tab (k : Int)).length
  rw [List.take_of_length_le (Nat.le_refl _)] at h48
  clear hrl
  refine (fields_any w2.heap.size (zK k) w5 z5).mono ?_
  rw [tabs_zK]
  rintro e w6 ⟨A6, c6, rfl, f6, b7⟩
  have z6 := z5.below b7
  have r6 := r5.below b7
  have y6 := y5.below b7
  have b8 := below_trans b6 b7
  clear z5 r5 y5 b7 b6
  have HPO := Lib.hid (fun b => prs_ok (tab (k : Int)) (zK k) b hz hl.1)
  have HLO := Lib.hid (fun W h => long_any A6 (tab (k : Int)).length c6 w2.heap.size (tab (k : Int)) W h hl)
  have HFI := Lib.hid (fun B d b W h1 h2 h3 => fill_any A6 (tab (k : Int)).length c6 w2.heap.size (tab (k : Int)) (zK k) B d b W h1 hl h2 h3)
  generalize (tab (k : Int)) = l at *
  generalize hm : long l = m at *
  have HM := Lib.hid hm
  clear hm
  go_wp2_with fail
  refine (HLO.out _ f6).mono ?_
  rintro e w7 ⟨rfl, b9⟩
  have z7 := z6.below b9
  have r7 := r6.below b9
  have y7 := y6.below b9
  have f7 := f6.below b9
  have b10 := below_trans b8 b9
  clear z6 r6 y6 f6 b9 b8
  by_cases hlt : n < m
  · go_wp2_with fail
    refine (Cut_above A2 n c2 m _ (by omega)).mono ?_
    rintro e w8 ⟨rfl, rfl⟩
    go_wp2_with (first
      | ((with_reducible refine wpList_here ?_); refine wpList_storeV rfl 52 (.tmp 2) (.tmp 36) rfl _ _ (zK 0).vals rfl rfl y7 rfl (vals_one _) infoOpt ?_; intro w9 z9 g9 s9))
    have b11 := v_below_g b10 g9 b10.size (Nat.le_refl _)
    rw [if_pos hlt] at HG
    refine bodyPost_ret (results_c2 rfl _ _ w.heap.size (zK 0).vals (.slice none 0 0) (.int .i64 3) _ rfl rfl rfl z9.range Tryd.underlying52 rfl infoOpt) rfl ?_
    rw [HG.out]
    exact getFr_err rfl b11
  · rw [if_neg hlt] at HG
    have HCU := Lib.hid (fun W h => Cut_fr A2 n c2 m r W h (by omega) (by omega))
    go_wp2_with fail
    refine (HCU.out _ r7).mono ?_
    rintro e w8 ⟨A8, c8, A9, c9, rfl, r8, r9, f9, b11⟩
    have F9 := Lib.hid (f9.mono b10.size)
    clear f9
    have z8 := z7.below b11
    have y8 := y7.below b11
    have f8 := f7.below b11
    have b12 := below_trans b10 b11
    clear z7 r7 y7 f7 b11 b10
    generalize r.take m = t at *
    generalize r.drop m = q at *
    have HQ := Lib.hid r9.len
    have HF2 : Hid (Calls Tryd.prog 65 #[.slice A6 l.length c6, .slice A8 m c8] w8 (FillMade w8 w2.heap.size (zK k) l t)) := Lib.hid (by
      exact HFI.out A8 c8 t w8 f8 z8 r8)
    clear HFI HLO
    go_wp2_with fail
    refine HF2.out.mono ?_
    rintro e w10 ⟨rfl, g10, y10, p10⟩
    have r10 := r9.bytes y10
    have y11 := y8.far g10 (by intro e; injection e with e; omega)
    have b13 := v_below_g b12 g10 b12.size (by omega)
    have HP10 := Lib.hid p10
    clear r9 r8 y8 z8 f8 b12 g10 y10 p10
    cases hk : okL l t with
    | false =>
      rw [hk] at HG
      go_wp2_with (first
        | ((with_reducible refine wpList_here ?_); refine wpList_storeV rfl 52 (.tmp 2) (.tmp 47) rfl _ _ (zK 0).vals rfl rfl y11 rfl (vals_one _) infoOpt ?_; intro w12 z12 g12 s12))
      have b14 := v_below_g b13 g12 b13.size (Nat.le_refl _)
      refine bodyPost_ret (results_c2 rfl _ _ w.heap.size (zK 0).vals (.slice none 0 0) (.int .i64 4) _ rfl rfl rfl z12.range Tryd.underlying52 rfl infoOpt) rfl ?_
      rw [HG.out, if_neg (by simp)]
      exact getFr_err rfl b14
    | true =>
      have p11 := HP10.out hk
      rw [hk, Bool.true_and] at HG
      have hpo := HPO.out t
      clear HP10 HPO hk
      generalize prs (zK k) l t = P at *
      have HR := Lib.hid (fun W => Right_any P W hpo)
      go_wp2_with (first
        | ((with_reducible refine wpList_here ?_); refine wpList_loadV rfl 52 (.tmp 8) rfl _ _ P.vals rfl p11.range _ Tryd.underlying52 rfl infoOpt ?_))
      refine (HR.out _).mono ?_
      rintro e w12 ⟨rfl, b14⟩
      have p12 := p11.below b14
      have y12 := y11.below b14
      have r12 := r10.below b14
      have b15 := below_trans b13 b14
      clear p11 y11 r10 b13 b14
      cases hr : rightB P with
      | false =>
        rw [hr] at HG
        go_wp2_with (first
          | ((with_reducible refine wpList_here ?_); refine wpList_storeV rfl 52 (.tmp 2) (.tmp 47) rfl _ _ (zK 0).vals rfl rfl y12 rfl (vals_one _) infoOpt ?_; intro w13 z13 g13 s13))
        have b16 := v_below_g b15 g13 b15.size (Nat.le_refl _)
        refine bodyPost_ret (results_c2 rfl _ _ w.heap.size (zK 0).vals (.slice none 0 0) (.int .i64 4) _ rfl rfl rfl z13.range Tryd.underlying52 rfl infoOpt) rfl ?_
        rw [HG.out, if_neg (by simp)]
        exact getFr_err rfl b16
      | true =>
        rw [hr] at HG
        go_wp2_with (first
          | ((with_reducible refine wpList_here ?_); refine wpList_loadV rfl 52 (.tmp 8) rfl _ _ P.vals rfl p12.range _ Tryd.underlying52 rfl infoOpt ?_)
          | ((with_reducible refine wpList_here ?_); refine wpList_storeO rfl 52 (.tmp 2) (.tmp 48) rfl _ (zK 0) P rfl rfl y12 infoOpt ?_; intro w13 z13 g13 q13))
        have b16 := v_below_g b15 g13 b15.size (Nat.le_refl _)
        have r13 := r12.bytes q13
        refine bodyPost_ret (results_c2 rfl _ _ w.heap.size P.vals (.slice A9 (n - m) c9) (.int .i64 0) _ rfl rfl rfl z13.range Tryd.underlying52 rfl infoOpt) rfl ?_
        rw [HG.out, if_pos trivial]
        refine ⟨A9, c9, ?_, ?_, ?_, b16⟩
        · show _ = Ending.returned (.tuple #[.agg P.vals.toArray, .slice A9 q.length c9, .int .i64 0])
          rw [HQ.out]
        · show RB w13 A9 q.length c9 q
          rw [HQ.out]
          exact r13
        · show Fr w A9 q.length
          rw [HQ.out]
          exact F9.out
theorem Get_fr (A : Option Addr) (n c : Nat) (bs : List UInt8) (w : World) (h : RB w A n c bs) (hn : n ≤ 1073741824) (h0 : 0 < n) : Calls Tryd.prog 48 #[.slice A n c] w (GetFr w (getR bs)) := by
  have hl := h.len
  cases n with
  | zero => omega
  | succ n =>
    have e : getR bs = getK (num (bs.take 1)) (bs.drop 1) := by unfold getR; rw [if_neg (by omega)]
    rw [e]
    exact Get_some_fr A n c bs w h (by omega)
end Go.Proofs.YtbbpemndkphgeaaDoor
