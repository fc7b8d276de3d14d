/- The walk of the law SegmentReplies. Conditions: both segments and the table of widths stand. -/
import Derived.Test.YtbbpemndkphgeaaDoorSegS
import Derived.Test.YtbbpemndkphgeaaDoorSegWk
namespace Go.Proofs.YtbbpemndkphgeaaDoor
set_option linter.unusedVariables false
set_option linter.unusedSimpArgs false
open Go.RowKit

theorem sameB_same {w : World} {a : Seg} (h : SG w a) : sameB a a = true := (sameB_iff h h).2 (SameS.refl a)
/-- What stands while replies are compared. -/
def RpSt (w W : World) (g5 g6 : Nat) (s o : Seg) : Prop := Own W w.heap.size s.vals ∧ Own W (w.heap.size + 1) o.vals ∧ Own W g5 (aS s.dst s.src s.dport s.sport).vals ∧ Own W g6 (aS s.src s.dst s.sport s.dport).vals ∧ SG W s ∧ SG W o ∧ Below w.heap.size w W
theorem RpSt.keep {w W W' : World} {g5 g6 : Nat} {s o : Seg} (h : RpSt w W g5 g6 s o) (hb : Below W.heap.size W W') : RpSt w W' g5 g6 s o :=
  ⟨h.1.below hb, h.2.1.below hb, h.2.2.1.below hb, h.2.2.2.1.below hb, h.2.2.2.2.1.below hb, h.2.2.2.2.2.1.below hb, below_trans h.2.2.2.2.2.2 hb⟩
theorem reply2 (s : Seg) : aS (aS s.dst s.src s.dport s.sport).dst (aS s.dst s.src s.dport s.sport).src (aS s.dst s.src s.dport s.sport).dport (aS s.dst s.src s.dport s.sport).sport = (aS s.src s.dst s.sport s.dport) := rfl

set_option maxRecDepth 8000 in
set_option maxHeartbeats 3200000 in
theorem Replies_any (s o : Seg) (w : World) (h : SG w s) (h' : SG w o) (hT : Tab w) :
    Calls Tryd.prog 5 #[.agg s.vals.toArray, .agg o.vals.toArray] w (Held w) := by
  have HL1 := Lib.hid (fun W => long_law s W)
  have HL2 := Lib.hid (fun W => long_law o W)
  have HE1 := Lib.hid (sameB_same (aS_ok w h.dst h.src h.dport h.sport))
  have HE2 := Lib.hid (sameB_same (aS_ok w h.src h.dst h.sport h.dport))
  have HR1 := Lib.hid (fun W => aS_ok W h.dst h.src h.dport h.sport)
  have HR2 := Lib.hid (fun W => aS_ok W h.src h.dst h.sport h.dport)
  have HE3 := Lib.hid (sameB_same h)
  have HRE := Lib.hid (fun W => Reply_any s W)
  have HRF := Lib.hid (fun W => Reply_any (aS s.dst s.src s.dport s.sport) W)
  generalize (decide (50 < s.on) || decide (200 < s.dn)) = x1 at *
  generalize (decide (50 < o.on) || decide (200 < o.dn)) = x2 at *
  cases x1 with
  | true =>
    go_enter Tryd.func5, Tryd.ntmps5
    go_wp2_with (first
      | ((with_reducible refine wpList_here ?_); refine wpList_boxV (o := ⟨some 2, _, _, _, _, _⟩) rfl 26 (.tmp 0) rfl s.vals rfl _ rfl ?_; intro w1 z1 b1 s1)
      | ((with_reducible refine wpList_here ?_); refine wpList_boxV (o := ⟨some 3, _, _, _, _, _⟩) rfl 26 (.tmp 1) rfl o.vals rfl _ s1 ?_; intro w2 z2 b2 s2))
    have b3 := below_trans b1 b2
    refine (swakes_any _ (hT.below b3)).mono ?_
    rintro e w4 ⟨rfl, b4⟩
    have y4 := (z1.below b2).below b4
    have z4 := z2.below b4
    have b5 := below_trans b3 b4
    have h5 := h.below b5
    have h5' := h'.below b5
    have hlt5 := b5.size
    have hz4 := z4.lt (Nat.zero_lt_succ _)
    clear z1 b1 s1 z2 b2 s2 b3 b4 h h' hT
    go_wp2_with (first
      | ((with_reducible refine wpList_here ?_); refine wpList_loadV (o := ⟨some 9, _, _, _, _, _⟩) rfl 26 (.tmp 2) rfl _ _ s.vals rfl y4.range _ Tryd.underlying26 rfl infoSeg ?_))
    refine (HL1.out _).mono ?_
    rintro e w5 ⟨rfl, d5⟩
    have b6 := below_trans b5 d5
    go_wp2_with fail
    go_ret
    exact ⟨rfl, b6⟩
  | false =>
    cases x2 with
    | true =>
      go_enter Tryd.func5, Tryd.ntmps5
      go_wp2_with (first
        | ((with_reducible refine wpList_here ?_); refine wpList_boxV (o := ⟨some 2, _, _, _, _, _⟩) rfl 26 (.tmp 0) rfl s.vals rfl _ rfl ?_; intro w1 z1 b1 s1)
        | ((with_reducible refine wpList_here ?_); refine wpList_boxV (o := ⟨some 3, _, _, _, _, _⟩) rfl 26 (.tmp 1) rfl o.vals rfl _ s1 ?_; intro w2 z2 b2 s2))
      have b3 := below_trans b1 b2
      refine (swakes_any _ (hT.below b3)).mono ?_
      rintro e w4 ⟨rfl, b4⟩
      have y4 := (z1.below b2).below b4
      have z4 := z2.below b4
      have b5 := below_trans b3 b4
      have h5 := h.below b5
      have h5' := h'.below b5
      have hlt5 := b5.size
      have hz4 := z4.lt (Nat.zero_lt_succ _)
      clear z1 b1 s1 z2 b2 s2 b3 b4 h h' hT
      go_wp2_with (first
        | ((with_reducible refine wpList_here ?_); refine wpList_loadV (o := ⟨some 9, _, _, _, _, _⟩) rfl 26 (.tmp 2) rfl _ _ s.vals rfl y4.range _ Tryd.underlying26 rfl infoSeg ?_))
      refine (HL1.out _).mono ?_
      rintro e w5 ⟨rfl, d5⟩
      have z5 := z4.below d5
      have b6 := below_trans b5 d5
      go_wp2_with (first
        | ((with_reducible refine wpList_here ?_); refine wpList_loadV (o := ⟨some 12, _, _, _, _, _⟩) rfl 26 (.tmp 3) rfl _ _ o.vals rfl z5.range _ Tryd.underlying26 rfl infoSeg ?_))
      refine (HL2.out _).mono ?_
      rintro e w6 ⟨rfl, d6⟩
      have b7 := below_trans b6 d6
      go_wp2_with fail
      go_ret
      exact ⟨rfl, b7⟩
    | false =>
      go_enter Tryd.func5, Tryd.ntmps5
      go_wp2_with (first
        | ((with_reducible refine wpList_here ?_); refine wpList_boxV (o := ⟨some 2, _, _, _, _, _⟩) rfl 26 (.tmp 0) rfl s.vals rfl _ rfl ?_; intro w1 z1 b1 s1)
        | ((with_reducible refine wpList_here ?_); refine wpList_boxV (o := ⟨some 3, _, _, _, _, _⟩) rfl 26 (.tmp 1) rfl o.vals rfl _ s1 ?_; intro w2 z2 b2 s2))
      have b3 := below_trans b1 b2
      refine (swakes_any _ (hT.below b3)).mono ?_
      rintro e w4 ⟨rfl, b4⟩
      have y4 := (z1.below b2).below b4
      have z4 := z2.below b4
      have b5 := below_trans b3 b4
      have h5 := h.below b5
      have h5' := h'.below b5
      have hlt5 := b5.size
      have hz4 := z4.lt (Nat.zero_lt_succ _)
      clear z1 b1 s1 z2 b2 s2 b3 b4 h h' hT
      go_wp2_with (first
        | ((with_reducible refine wpList_here ?_); refine wpList_loadV (o := ⟨some 9, _, _, _, _, _⟩) rfl 26 (.tmp 2) rfl _ _ s.vals rfl y4.range _ Tryd.underlying26 rfl infoSeg ?_))
      refine (HL1.out _).mono ?_
      rintro e w5 ⟨rfl, d5⟩
      have z5 := z4.below d5
      have b6 := below_trans b5 d5
      go_wp2_with (first
        | ((with_reducible refine wpList_here ?_); refine wpList_loadV (o := ⟨some 12, _, _, _, _, _⟩) rfl 26 (.tmp 3) rfl _ _ o.vals rfl z5.range _ Tryd.underlying26 rfl infoSeg ?_))
      refine (HL2.out _).mono ?_
      rintro e w6 ⟨rfl, d6⟩
      have b7 := below_trans b6 d6
      have y6 := (y4.below d5).below d6
      have z6 := z5.below d6
      have h6 := (h5.below d5).below d6
      have h6' := (h5'.below d5).below d6
      have hz6 := z6.lt (Nat.zero_lt_succ _)
      clear y4 z4 z5 b5 b6 d5 d6 h5 h5' hlt5 hz4
      go_wp2_with (first
        | ((with_reducible refine wpList_here ?_); refine wpList_loadV (o := ⟨some 15, _, _, _, _, _⟩) rfl 26 (.tmp 2) rfl _ _ s.vals rfl y6.range _ Tryd.underlying26 rfl infoSeg ?_))
      refine (HRE.out _).mono ?_
      rintro e w7 ⟨rfl, d7⟩
      have y7 := y6.below d7
      have z7 := z6.below d7
      have h7 := h6.below d7
      have h7' := h6'.below d7
      have b8 := below_trans b7 d7
      have hz7 := z7.lt (Nat.zero_lt_succ _)
      clear y6 z6 h6 h6' b7 d7 hz6
      go_wp2_with (first
        | ((with_reducible refine wpList_here ?_); refine wpList_allocV (o := ⟨some 5, _, _, _, _, _⟩) rfl 26 rfl _ zeroSeg _ rfl ?_; intro w8 z8 d8 s8)
        | ((with_reducible refine wpList_here ?_); refine wpList_storeV rfl 26 (.tmp 5) (.tmp 16) rfl _ _ (aS s.dst s.src s.dport s.sport).vals rfl rfl z8 rfl (sv_one _) infoSeg ?_; intro w9 z9 g9 s9)
        | ((with_reducible refine wpList_here ?_); refine wpList_loadV (o := ⟨some 17, _, _, _, _, _⟩) rfl 26 (.tmp 5) rfl _ _ (aS s.dst s.src s.dport s.sport).vals rfl z9.range _ Tryd.underlying26 rfl infoSeg ?_))
      have d9 := v_below_g d8 g9 d8.size (Nat.le_refl _)
      have y9 := y7.below d9
      have q9 := z7.below d9
      have h9 := h7.below d9
      have h9' := h7'.below d9
      have b10 := below_trans b8 d9
      have hz9 : w7.heap.size < w9.heap.size := by omega
      generalize w7.heap.size = g5 at *
      clear y7 z7 h7 h7' b8 z8 d8 s8 g9 s9 d9
      refine (HRF.out _).mono ?_
      rintro e w10 ⟨rfl, d10⟩
      have y10 := y9.below d10
      have q10 := q9.below d10
      have z10 := z9.below d10
      have h10 := h9.below d10
      have h10' := h9'.below d10
      have b11 := below_trans b10 d10
      have hz10 := d10.size
      clear y9 q9 z9 h9 h9' b10 d10
      go_wp2_with (first
        | ((with_reducible refine wpList_here ?_); refine wpList_allocV (o := ⟨some 6, _, _, _, _, _⟩) rfl 26 rfl _ zeroSeg _ rfl ?_; intro w12 z12 d12 s12)
        | ((with_reducible refine wpList_here ?_); refine wpList_storeV rfl 26 (.tmp 6) (.tmp 18) rfl _ _ (aS s.src s.dst s.sport s.dport).vals rfl rfl z12 rfl (sv_one _) infoSeg ?_; intro w13 z13 g13 s13))
      have d13 := v_below_g d12 g13 d12.size (Nat.le_refl _)
      have s9 : RpSt w w13 g5 w10.heap.size s o := ⟨y10.below d13, q10.below d13, z10.below d13, z13, h10.below d13, h10'.below d13, below_trans b11 d13⟩
      generalize w10.heap.size = g6 at *
      have s10 := RpSt.keep s9 (Below.refl _ _).drew
      clear y10 q10 z10 h10 h10' b11 z12 d12 s12 g13 z13 s13 d13 hz7 hz9 hz10
      refine wp_region_noPanic ?_
      refine wp_region_held_drew (S := fun W => RpSt w W g5 g6 s o) (by kernel_rfl) s10 (fun _ => ?_)
      refine held_take (i := 0) (v := .agg (aS s.dst s.src s.dport s.sport).vals.toArray) (some 19) rfl rfl (by kernel_rfl) (by kernel_rfl) (by kernel_rfl) (fun _ _ _ h => h) (yieldsIf_load_mid (by rfl) 26 (.tmp 5) rfl (g5) 0 rfl (aS s.dst s.src s.dport s.sport).vals _ (fun W hW => hW.2.2.1.range) Tryd.underlying26 rfl infoSeg) s10 ?_
      simp only [Act.put, List.setIfInBounds_toArray, List.set_cons_zero, List.set_cons_succ]
      refine held_take (i := 1) (v := .pointer (some ⟨w.heap.size, 1, none⟩)) (some 20) rfl rfl (by kernel_rfl) (by kernel_rfl) (by kernel_rfl) (fun _ _ _ h => h) (Or.inl ⟨by rfl, fun W hW => by go_simp⟩) s10 ?_
      simp only [Act.put, List.setIfInBounds_toArray, List.set_cons_zero, List.set_cons_succ]
      refine held_take (i := 2) (v := .int .i64 s.dst) (some 21) rfl rfl (by kernel_rfl) (by kernel_rfl) (by kernel_rfl) (fun _ _ _ h => h) (Or.inl ⟨by rfl, fun W hW => by have hc := hW.1.cels.c1; go_simp⟩) s10 ?_
      simp only [Act.put, List.setIfInBounds_toArray, List.set_cons_zero, List.set_cons_succ]
      refine held_take (i := 3) (v := .pointer (some ⟨w.heap.size, 0, none⟩)) (some 22) rfl rfl (by kernel_rfl) (by kernel_rfl) (by kernel_rfl) (fun _ _ _ h => h) (Or.inl ⟨by rfl, fun W hW => by go_simp⟩) s10 ?_
      simp only [Act.put, List.setIfInBounds_toArray, List.set_cons_zero, List.set_cons_succ]
      refine held_take (i := 4) (v := .int .i64 s.src) (some 23) rfl rfl (by kernel_rfl) (by kernel_rfl) (by kernel_rfl) (fun _ _ _ h => h) (Or.inl ⟨by rfl, fun W hW => by have hc := hW.1.cels.c0; go_simp⟩) s10 ?_
      simp only [Act.put, List.setIfInBounds_toArray, List.set_cons_zero, List.set_cons_succ]
      refine held_take (i := 5) (v := .pointer (some ⟨w.heap.size, 3, none⟩)) (some 24) rfl rfl (by kernel_rfl) (by kernel_rfl) (by kernel_rfl) (fun _ _ _ h => h) (Or.inl ⟨by rfl, fun W hW => by go_simp⟩) s10 ?_
      simp only [Act.put, List.setIfInBounds_toArray, List.set_cons_zero, List.set_cons_succ]
      refine held_take (i := 6) (v := .int .i64 s.dport) (some 25) rfl rfl (by kernel_rfl) (by kernel_rfl) (by kernel_rfl) (fun _ _ _ h => h) (Or.inl ⟨by rfl, fun W hW => by have hc := hW.1.cels.c3; go_simp⟩) s10 ?_
      simp only [Act.put, List.setIfInBounds_toArray, List.set_cons_zero, List.set_cons_succ]
      refine held_take (i := 7) (v := .pointer (some ⟨w.heap.size, 2, none⟩)) (some 26) rfl rfl (by kernel_rfl) (by kernel_rfl) (by kernel_rfl) (fun _ _ _ h => h) (Or.inl ⟨by rfl, fun W hW => by go_simp⟩) s10 ?_
      simp only [Act.put, List.setIfInBounds_toArray, List.set_cons_zero, List.set_cons_succ]
      refine held_take (i := 8) (v := .int .i64 s.sport) (some 27) rfl rfl (by kernel_rfl) (by kernel_rfl) (by kernel_rfl) (fun _ _ _ h => h) (Or.inl ⟨by rfl, fun W hW => by have hc := hW.1.cels.c2; go_simp⟩) s10 ?_
      simp only [Act.put, List.setIfInBounds_toArray, List.set_cons_zero, List.set_cons_succ]
      refine held_take (i := 9) (v := .agg #[.int .i64 s.dst, .int .i64 s.src, .int .i64 s.dport, .int .i64 s.sport, .int .u32 0, .int .u32 0, .bool false, .bool false, .bool false, .bool false, .int .i64 0, .slice none 0 0, .slice none 0 0]) (some 28) rfl rfl (by kernel_rfl) (by kernel_rfl) (by kernel_rfl) (fun _ _ _ h => h) (Or.inl ⟨by rfl, fun W hW => by go_simp⟩) s10 ?_
      simp only [Act.put, List.setIfInBounds_toArray, List.set_cons_zero, List.set_cons_succ]
      refine wpAnyH_ready (rs := [10]) (by kernel_rfl) (by simp) ?_
      refine AllReadyH.cons rfl (fun K hK => ?_) AllReadyH.nil
      go_simp
      refine (RSegSame_any (aS s.dst s.src s.dport s.sport) (aS s.dst s.src s.dport s.sport) _ (HR1.out _) (HR1.out _)).mono ?_
      rw [HE1.out]
      rintro e w20 ⟨rfl, b20⟩
      have s20 := RpSt.keep s10 b20
      dsimp only
      refine hK.out _ _ s20 (fun _ => ?_)
      clear hK
      try simp only [Act.put, List.setIfInBounds_toArray, List.set_cons_zero, List.set_cons_succ]
      refine held_take (i := 11) (v := .bool true) (some 30) rfl rfl (by kernel_rfl) (by kernel_rfl) (by kernel_rfl) (fun _ _ _ h => h) (Or.inl ⟨by rfl, fun W hW => by go_simp⟩) s20 ?_
      simp only [Act.put, List.setIfInBounds_toArray, List.set_cons_zero, List.set_cons_succ]
      refine held_take (i := 12) (v := .agg (aS s.src s.dst s.sport s.dport).vals.toArray) (some 31) rfl rfl (by kernel_rfl) (by kernel_rfl) (by kernel_rfl) (fun _ _ _ h => h) (yieldsIf_load_mid (by rfl) 26 (.tmp 6) rfl (g6) 0 rfl (aS s.src s.dst s.sport s.dport).vals _ (fun W hW => hW.2.2.2.1.range) Tryd.underlying26 rfl infoSeg) s20 ?_
      simp only [Act.put, List.setIfInBounds_toArray, List.set_cons_zero, List.set_cons_succ]
      refine held_take (i := 13) (v := .pointer (some ⟨w.heap.size, 0, none⟩)) (some 32) rfl rfl (by kernel_rfl) (by kernel_rfl) (by kernel_rfl) (fun _ _ _ h => h) (Or.inl ⟨by rfl, fun W hW => by go_simp⟩) s20 ?_
      simp only [Act.put, List.setIfInBounds_toArray, List.set_cons_zero, List.set_cons_succ]
      refine held_take (i := 14) (v := .int .i64 s.src) (some 33) rfl rfl (by kernel_rfl) (by kernel_rfl) (by kernel_rfl) (fun _ _ _ h => h) (Or.inl ⟨by rfl, fun W hW => by have hc := hW.1.cels.c0; go_simp⟩) s20 ?_
      simp only [Act.put, List.setIfInBounds_toArray, List.set_cons_zero, List.set_cons_succ]
      refine held_take (i := 15) (v := .pointer (some ⟨w.heap.size, 1, none⟩)) (some 34) rfl rfl (by kernel_rfl) (by kernel_rfl) (by kernel_rfl) (fun _ _ _ h => h) (Or.inl ⟨by rfl, fun W hW => by go_simp⟩) s20 ?_
      simp only [Act.put, List.setIfInBounds_toArray, List.set_cons_zero, List.set_cons_succ]
      refine held_take (i := 16) (v := .int .i64 s.dst) (some 35) rfl rfl (by kernel_rfl) (by kernel_rfl) (by kernel_rfl) (fun _ _ _ h => h) (Or.inl ⟨by rfl, fun W hW => by have hc := hW.1.cels.c1; go_simp⟩) s20 ?_
      simp only [Act.put, List.setIfInBounds_toArray, List.set_cons_zero, List.set_cons_succ]
      refine held_take (i := 17) (v := .pointer (some ⟨w.heap.size, 2, none⟩)) (some 36) rfl rfl (by kernel_rfl) (by kernel_rfl) (by kernel_rfl) (fun _ _ _ h => h) (Or.inl ⟨by rfl, fun W hW => by go_simp⟩) s20 ?_
      simp only [Act.put, List.setIfInBounds_toArray, List.set_cons_zero, List.set_cons_succ]
      refine held_take (i := 18) (v := .int .i64 s.sport) (some 37) rfl rfl (by kernel_rfl) (by kernel_rfl) (by kernel_rfl) (fun _ _ _ h => h) (Or.inl ⟨by rfl, fun W hW => by have hc := hW.1.cels.c2; go_simp⟩) s20 ?_
      simp only [Act.put, List.setIfInBounds_toArray, List.set_cons_zero, List.set_cons_succ]
      refine held_take (i := 19) (v := .pointer (some ⟨w.heap.size, 3, none⟩)) (some 38) rfl rfl (by kernel_rfl) (by kernel_rfl) (by kernel_rfl) (fun _ _ _ h => h) (Or.inl ⟨by rfl, fun W hW => by go_simp⟩) s20 ?_
      simp only [Act.put, List.setIfInBounds_toArray, List.set_cons_zero, List.set_cons_succ]
      refine held_take (i := 20) (v := .int .i64 s.dport) (some 39) rfl rfl (by kernel_rfl) (by kernel_rfl) (by kernel_rfl) (fun _ _ _ h => h) (Or.inl ⟨by rfl, fun W hW => by have hc := hW.1.cels.c3; go_simp⟩) s20 ?_
      simp only [Act.put, List.setIfInBounds_toArray, List.set_cons_zero, List.set_cons_succ]
      refine held_take (i := 21) (v := .agg #[.int .i64 s.src, .int .i64 s.dst, .int .i64 s.sport, .int .i64 s.dport, .int .u32 0, .int .u32 0, .bool false, .bool false, .bool false, .bool false, .int .i64 0, .slice none 0 0, .slice none 0 0]) (some 40) rfl rfl (by kernel_rfl) (by kernel_rfl) (by kernel_rfl) (fun _ _ _ h => h) (Or.inl ⟨by rfl, fun W hW => by go_simp⟩) s20 ?_
      simp only [Act.put, List.setIfInBounds_toArray, List.set_cons_zero, List.set_cons_succ]
      refine wpAnyH_ready (rs := [22]) (by kernel_rfl) (by simp) ?_
      refine AllReadyH.cons rfl (fun K hK => ?_) AllReadyH.nil
      go_simp
      refine (RSegSame_any (aS s.src s.dst s.sport s.dport) (aS s.src s.dst s.sport s.dport) _ (HR2.out _) (HR2.out _)).mono ?_
      rw [HE2.out]
      rintro e w21 ⟨rfl, b21⟩
      have s21 := RpSt.keep s20 b21
      dsimp only
      refine hK.out _ _ s21 (fun _ => ?_)
      clear hK
      try simp only [Act.put, List.setIfInBounds_toArray, List.set_cons_zero, List.set_cons_succ]
      refine held_take (i := 23) (v := .bool true) (some 42) rfl rfl (by kernel_rfl) (by kernel_rfl) (by kernel_rfl) (fun _ _ _ h => h) (Or.inl ⟨by rfl, fun W hW => by go_simp⟩) s21 ?_
      simp only [Act.put, List.setIfInBounds_toArray, List.set_cons_zero, List.set_cons_succ]
      refine held_take (i := 24) (v := .bool true) (some 43) rfl rfl (by kernel_rfl) (by kernel_rfl) (by kernel_rfl) (fun _ _ _ h => h) (Or.inl ⟨by rfl, fun W hW => by go_simp⟩) s21 ?_
      simp only [Act.put, List.setIfInBounds_toArray, List.set_cons_zero, List.set_cons_succ]
      refine held_take (i := 25) (v := .agg s.vals.toArray) (some 44) rfl rfl (by kernel_rfl) (by kernel_rfl) (by kernel_rfl) (fun _ _ _ h => h) (yieldsIf_load_mid (by rfl) 26 (.tmp 2) rfl (w.heap.size) 0 rfl s.vals _ (fun W hW => hW.1.range) Tryd.underlying26 rfl infoSeg) s21 ?_
      simp only [Act.put, List.setIfInBounds_toArray, List.set_cons_zero, List.set_cons_succ]
      refine held_take (i := 26) (v := .agg o.vals.toArray) (some 45) rfl rfl (by kernel_rfl) (by kernel_rfl) (by kernel_rfl) (fun _ _ _ h => h) (yieldsIf_load_mid (by rfl) 26 (.tmp 3) rfl (w.heap.size + 1) 0 rfl o.vals _ (fun W hW => hW.2.1.range) Tryd.underlying26 rfl infoSeg) s21 ?_
      simp only [Act.put, List.setIfInBounds_toArray, List.set_cons_zero, List.set_cons_succ]
      refine held_take (i := 28) (v := .agg s.vals.toArray) (some 47) rfl rfl (by kernel_rfl) (by kernel_rfl) (by kernel_rfl) (fun _ _ _ h => h) (yieldsIf_load_mid (by rfl) 26 (.tmp 2) rfl (w.heap.size) 0 rfl s.vals _ (fun W hW => hW.1.range) Tryd.underlying26 rfl infoSeg) s21 ?_
      simp only [Act.put, List.setIfInBounds_toArray, List.set_cons_zero, List.set_cons_succ]
      refine held_take (i := 29) (v := .agg o.vals.toArray) (some 48) rfl rfl (by kernel_rfl) (by kernel_rfl) (by kernel_rfl) (fun _ _ _ h => h) (yieldsIf_load_mid (by rfl) 26 (.tmp 3) rfl (w.heap.size + 1) 0 rfl o.vals _ (fun W hW => hW.2.1.range) Tryd.underlying26 rfl infoSeg) s21 ?_
      simp only [Act.put, List.setIfInBounds_toArray, List.set_cons_zero, List.set_cons_succ]
      refine wpAnyH_ready (rs := [27]) (by kernel_rfl) (by simp) ?_
      refine AllReadyH.cons rfl (fun K hK => ?_) AllReadyH.nil
      go_simp
      refine (SegSame_any s o _ s21.2.2.2.2.1 s21.2.2.2.2.2.1).mono ?_
      rintro e w22 ⟨rfl, b22⟩
      have s22 := RpSt.keep s21 b22
      dsimp only
      refine hK.out _ _ s22 (fun _ => ?_)
      clear hK
      try simp only [Act.put, List.setIfInBounds_toArray, List.set_cons_zero, List.set_cons_succ]
      refine wpAnyH_ready (rs := [30]) (by kernel_rfl) (by simp) ?_
      refine AllReadyH.cons rfl (fun K hK => ?_) AllReadyH.nil
      go_simp
      refine (RSegSame_any s o _ s22.2.2.2.2.1 s22.2.2.2.2.2.1).mono ?_
      rintro e w23 ⟨rfl, b23⟩
      have s23 := RpSt.keep s22 b23
      dsimp only
      refine hK.out _ _ s23 (fun _ => ?_)
      clear hK
      try simp only [Act.put, List.setIfInBounds_toArray, List.set_cons_zero, List.set_cons_succ]
      refine held_take (i := 31) (v := .bool true) (some 50) rfl rfl (by kernel_rfl) (by kernel_rfl) (by kernel_rfl) (fun _ _ _ h => h) (Or.inl ⟨by rfl, fun W hW => by have hb : (sameB s o == sameB s o) = true := beq_self_eq_true _; go_simp⟩) s23 ?_
      simp only [Act.put, List.setIfInBounds_toArray, List.set_cons_zero, List.set_cons_succ]
      refine held_take (i := 32) (v := .bool true) (some 51) rfl rfl (by kernel_rfl) (by kernel_rfl) (by kernel_rfl) (fun _ _ _ h => h) (Or.inl ⟨by rfl, fun W hW => by go_simp⟩) s23 ?_
      simp only [Act.put, List.setIfInBounds_toArray, List.set_cons_zero, List.set_cons_succ]
      refine held_take (i := 33) (v := .bool true) (some 52) rfl rfl (by kernel_rfl) (by kernel_rfl) (by kernel_rfl) (fun _ _ _ h => h) (Or.inl ⟨by rfl, fun W hW => by go_simp⟩) s23 ?_
      simp only [Act.put, List.setIfInBounds_toArray, List.set_cons_zero, List.set_cons_succ]
      refine held_take (i := 34) (v := .agg s.vals.toArray) (some 53) rfl rfl (by kernel_rfl) (by kernel_rfl) (by kernel_rfl) (fun _ _ _ h => h) (yieldsIf_load_mid (by rfl) 26 (.tmp 2) rfl (w.heap.size) 0 rfl s.vals _ (fun W hW => hW.1.range) Tryd.underlying26 rfl infoSeg) s23 ?_
      simp only [Act.put, List.setIfInBounds_toArray, List.set_cons_zero, List.set_cons_succ]
      refine held_take (i := 35) (v := .agg s.vals.toArray) (some 54) rfl rfl (by kernel_rfl) (by kernel_rfl) (by kernel_rfl) (fun _ _ _ h => h) (yieldsIf_load_mid (by rfl) 26 (.tmp 2) rfl (w.heap.size) 0 rfl s.vals _ (fun W hW => hW.1.range) Tryd.underlying26 rfl infoSeg) s23 ?_
      simp only [Act.put, List.setIfInBounds_toArray, List.set_cons_zero, List.set_cons_succ]
      refine wpAnyH_ready (rs := [36]) (by kernel_rfl) (by simp) ?_
      refine AllReadyH.cons rfl (fun K hK => ?_) AllReadyH.nil
      go_simp
      refine (SegSame_any s s _ s23.2.2.2.2.1 s23.2.2.2.2.1).mono ?_
      rw [HE3.out]
      rintro e w24 ⟨rfl, b24⟩
      have s24 := RpSt.keep s23 b24
      dsimp only
      refine hK.out _ _ s24 (fun _ => ?_)
      clear hK
      try simp only [Act.put, List.setIfInBounds_toArray, List.set_cons_zero, List.set_cons_succ]
      refine held_take (i := 37) (v := .bool true) (some 56) rfl rfl (by kernel_rfl) (by kernel_rfl) (by kernel_rfl) (fun _ _ _ h => h) (Or.inl ⟨by rfl, fun W hW => by go_simp⟩) s24 ?_
      simp only [Act.put, List.setIfInBounds_toArray, List.set_cons_zero, List.set_cons_succ]
      refine held_take (i := 38) (v := .bool true) (some 4) rfl rfl (by kernel_rfl) (by kernel_rfl) (by kernel_rfl) (fun _ _ _ h => h) (Or.inl ⟨by rfl, fun W hW => by go_simp⟩) s24 ?_
      simp only [Act.put, List.setIfInBounds_toArray, List.set_cons_zero, List.set_cons_succ]
      refine wpAnyH_done (by kernel_rfl) ?_ _
      refine NoPanic.normal ?_
      go_wp2_with fail
      go_ret
      exact ⟨rfl, s24.2.2.2.2.2.2⟩
end Go.Proofs.YtbbpemndkphgeaaDoor
