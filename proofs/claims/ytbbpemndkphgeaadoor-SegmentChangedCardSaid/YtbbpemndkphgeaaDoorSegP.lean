/- The contract of segment.Put: a right segment's bytes, or an error. Conditions: the segment and the table of widths stand. -/
import Derived.Test.YtbbpemndkphgeaaDoorSegB
import Derived.Test.YtbbpemndkphgeaaDoorSegR
import Derived.Test.YtbbpemndkphgeaaDoorSegD
import Derived.Test.YtbbpemndkphgeaaDoorSumP
namespace Go.Proofs.YtbbpemndkphgeaaDoor
set_option linter.unusedVariables false
set_option linter.unusedSimpArgs false
open Go.RowKit

/-- A segment's bytes, ahead of what makes them even; and all of them. -/
def sby (s : Seg) : List UInt8 := hby s.head 10 ++ obs s.os ++ s.ds
def sbs (s : Seg) : List UInt8 := sput (sby s)
theorem head_lt {w : World} {s : Seg} (h : SG w s) : ∀ x ∈ s.head, x < 18446744073709551616 := by
  have h1 := h.seq
  have h2 := h.ack
  have h3 := h.opts.cap
  have h4 := h.opts.max
  have h5 := h.data.cap
  have h6 := h.data.max
  have h7 := flN_lt s.syn s.acks s.fin s.rst
  have g1 := u64_lt s.src
  have g2 := u64_lt s.dst
  have g3 := u64_lt s.sport
  have g4 := u64_lt s.dport
  have g5 := u64_lt s.win
  intro x hx
  simp only [Seg.head, List.mem_cons, List.not_mem_nil, or_false] at hx
  rcases hx with rfl | rfl | rfl | rfl | rfl | rfl | rfl | rfl | rfl | rfl <;> omega
theorem sby_length {w : World} {s : Seg} (h : SG w s) : (sby s).length = 19 + (obs s.os).length + s.dn := by
  unfold sby
  rw [List.length_append, List.length_append, hby_length _ 10 (Nat.le_refl _), h.data.len]
  rfl
theorem sbs_length {w : World} {s : Seg} (h : SG w s) : (sbs s).length = 19 + (obs s.os).length + s.dn + (19 + (obs s.os).length + s.dn) % 2 + 2 := by
  unfold sbs
  rw [sput_length, sby_length h]
theorem right_few {s : Seg} (h : rightS s = true) : s.on ≤ 4 ∧ s.dn ≤ 8 ∧ s.os.all rightB = true := by
  unfold rightS at h
  simp only [Bool.and_eq_true, decide_eq_true_eq] at h
  exact ⟨h.1.1.2, h.1.2, h.2⟩
/-- What Put leaves. -/
def SPutMade (W : World) (s : Seg) (e : Ending) (w' : World) : Prop :=
  (rightS s = true → ∃ A c, e = .returned (.tuple #[.slice A (sbs s).length c, .int .i64 0]) ∧ RB w' A (sbs s).length c (sbs s) ∧ w'.ownsRow W.heap.size 5 1 (.slice A (sbs s).length c) (sbs s).length (bv (sbs s))) ∧
  (rightS s = false → e = .returned (.tuple #[.slice none 0 0, .int .i64 1])) ∧ Below W.heap.size W w'
/-- What stands while a segment is put. -/
def Pst (w W : World) (s : Seg) (A : Option Addr) (n c : Nat) : Prop := Own W w.heap.size s.vals ∧ SG W s ∧ Tab W ∧ RB W A n c (obs s.os) ∧ Below w.heap.size w W
theorem Pst.keep {w W W' : World} {s : Seg} {A : Option Addr} {n c : Nat} (h : Pst w W s A n c) (hb : Below W.heap.size W W') : Pst w W' s A n c :=
  ⟨h.1.below hb, h.2.1.below hb, h.2.2.1.below hb, h.2.2.2.1.below hb, below_trans h.2.2.2.2 hb⟩

set_option maxRecDepth 8000 in
set_option maxHeartbeats 1600000 in
theorem SegPut_bad (s : Seg) (w : World) (h : SG w s) (hr : rightS s = false) :
    Calls Tryd.prog 9 #[.agg s.vals.toArray] w (SPutMade w s) := by
  have HR := Lib.hid (fun W hW => SRight_any s W hW)
  rw [hr] at HR
  have HRS := Lib.hid hr
  clear hr
  go_enter Tryd.func9, Tryd.ntmps9
  go_wp2_with (first
    | ((with_reducible refine wpList_here ?_); refine wpList_boxV (o := ⟨some 1, _, _, _, _, _⟩) rfl 26 (.tmp 0) rfl s.vals rfl _ rfl ?_; intro w1 z1 b1 s1)
    | ((with_reducible refine wpList_here ?_); refine wpList_loadV (o := ⟨some 6, _, _, _, _, _⟩) rfl 26 (.tmp 1) rfl _ _ s.vals rfl z1.range _ Tryd.underlying26 rfl infoSeg ?_))
  refine (HR.out _ (h.below b1)).mono ?_
  rintro e w2 ⟨rfl, b2⟩
  go_wp2_with fail
  go_ret2
  exact ⟨fun hc => (by rw [HRS.out] at hc; cases hc), fun _ => rfl, below_trans b1 b2⟩

set_option maxRecDepth 8000 in
set_option maxHeartbeats 3200000 in
theorem SegPut_ok (s : Seg) (w : World) (h : SG w s) (hT : Tab w) (hr : rightS s = true) :
    Calls Tryd.prog 9 #[.agg s.vals.toArray] w (SPutMade w s) := by
  obtain ⟨h4, h8, hall⟩ := right_few hr
  have HR := Lib.hid (fun W hW => SRight_any s W hW)
  rw [hr] at HR
  have HRS := Lib.hid hr
  have HALL := Lib.hid hall
  have HB := Lib.hid (head_lt h)
  have HPU := Lib.hid (fun W hW => Puts_any s.oA s.on s.oc s.os W hW (by omega))
  have HM := Lib.hid (sbs_length h)
  have hle := obs_le s.os
  rw [h.opts.len] at hle
  clear hr hall
  go_enter Tryd.func9, Tryd.ntmps9
  go_wp2_with (first
    | ((with_reducible refine wpList_here ?_); refine wpList_boxV (o := ⟨some 1, _, _, _, _, _⟩) rfl 26 (.tmp 0) rfl s.vals rfl _ rfl ?_; intro w1 z1 b1 s1)
    | ((with_reducible refine wpList_here ?_); refine wpList_loadV (o := ⟨some 6, _, _, _, _, _⟩) rfl 26 (.tmp 1) rfl _ _ s.vals rfl z1.range _ Tryd.underlying26 rfl infoSeg ?_))
  refine (HR.out _ (h.below b1)).mono ?_
  rintro e w2 ⟨rfl, b2⟩
  have z2 := z1.below b2
  have b3 := below_trans b1 b2
  have h3 := h.below b3
  have t3 := hT.below b3
  have k11 := z2.cels.c11
  clear z1 b1 b2 s1 h hT
  go_wp2_with fail
  refine (HPU.out _ h3.opts).mono ?_
  rintro e w4 ⟨p4, _, b4⟩
  obtain ⟨A4, c4, rfl, r4⟩ := p4 HALL.out
  have s4 : Pst w w4 s A4 (obs s.os).length c4 := ⟨z2.below b4, h3.below b4, t3.below b4, r4, below_trans b3 b4⟩
  clear p4 z2 b3 h3 t3 k11 b4 r4
  generalize (obs s.os).length = n4 at *
  go_wp2_with fail
  have s5 := Pst.keep s4 (Below.refl _ _).drew
  refine wp_region_noPanic ?_
  refine wp_region_held_drew (S := fun W => Pst w W s A4 n4 c4) (by kernel_rfl) s5 (fun _ => ?_)
  refine held_take (i := 0) (v := .agg s.vals.toArray) (some 18) rfl rfl (by kernel_rfl) (by kernel_rfl) (by kernel_rfl) (fun _ _ _ h => h) (yieldsIf_load_mid (by rfl) 26 (.tmp 1) rfl w.heap.size 0 rfl s.vals _ (fun W hW => hW.1.range) Tryd.underlying26 rfl infoSeg) s5 ?_
  simp only [Act.put, List.setIfInBounds_toArray, List.set_cons_zero, List.set_cons_succ]
  refine held_take (i := 3) (v := .slice A4 n4 c4) (some 21) rfl rfl (by kernel_rfl) (by kernel_rfl) (by kernel_rfl) (fun _ _ _ h => h) (Or.inl ⟨by rfl, fun W hW => by go_simp⟩) s5 ?_
  simp only [Act.put, List.setIfInBounds_toArray, List.set_cons_zero, List.set_cons_succ]
  refine held_take (i := 4) (v := .pointer (some ⟨w.heap.size, 12, none⟩)) (some 22) rfl rfl (by kernel_rfl) (by kernel_rfl) (by kernel_rfl) (fun _ _ _ h => h) (Or.inl ⟨by rfl, fun W hW => by go_simp⟩) s5 ?_
  simp only [Act.put, List.setIfInBounds_toArray, List.set_cons_zero, List.set_cons_succ]
  refine held_take (i := 5) (v := .slice s.dA s.dn s.dc) (some 23) rfl rfl (by kernel_rfl) (by kernel_rfl) (by kernel_rfl) (fun _ _ _ h => h) (Or.inl ⟨by rfl, fun W hW => by have hc := hW.1.cels.c12; go_simp⟩) s5 ?_
  simp only [Act.put, List.setIfInBounds_toArray, List.set_cons_zero, List.set_cons_succ]
  refine wpAnyH_ready (rs := [1]) (by kernel_rfl) (by simp) ?_
  refine AllReadyH.cons rfl (fun K hK => ?_) AllReadyH.nil
  go_simp
  refine (headOf_any s _ s5.2.1).mono ?_
  rintro e w6 ⟨rfl, b6⟩
  have s6 := Pst.keep s5 b6
  dsimp only
  refine hK.out _ _ s6 (fun _ => ?_)
  clear hK
  try simp only [Act.put, List.setIfInBounds_toArray, List.set_cons_zero, List.set_cons_succ]
  refine wpAnyH_ready (rs := [2]) (by kernel_rfl) (by simp) ?_
  refine AllReadyH.cons rfl (fun K hK => ?_) AllReadyH.nil
  go_simp
  refine (bytes_any s.head _ rfl HB.out s6.2.2.1).mono ?_
  rintro e w7 ⟨A7, c7, rfl, r7, _, b7⟩
  have s7 := Pst.keep s6 b7
  dsimp only
  refine hK.out _ _ s7 (fun _ => ?_)
  clear hK
  try simp only [Act.put, List.setIfInBounds_toArray, List.set_cons_zero, List.set_cons_succ]
  refine wpAnyH_ready (rs := [6]) (by kernel_rfl) (by simp) ?_
  refine AllReadyH.cons rfl (fun K hK => ?_) AllReadyH.nil
  go_simp
  have s8 : Pst w (w7.alloc (.cells #[.slice A7 19 c7, .slice A4 n4 c4, .slice s.dA s.dn s.dc] 24)) s A4 n4 c4 := Pst.keep s7 (below_a w7 _)
  refine hK.out _ _ s8 (fun _ => ?_)
  clear hK
  try simp only [Act.put, List.setIfInBounds_toArray, List.set_cons_zero, List.set_cons_succ]
  refine wpAnyH_ready (rs := [7]) (by kernel_rfl) (by simp) ?_
  refine AllReadyH.cons rfl (fun K hK => ?_) AllReadyH.nil
  go_simp
  refine (Join_three rfl r7 s7.2.2.2.1 s7.2.1.data (by omega)).mono ?_
  rintro e w9 ⟨A9, c9, rfl, r9, _, b9⟩
  have s9 := Pst.keep s8 b9
  dsimp only
  refine hK.out _ _ s9 (fun _ => ?_)
  clear hK
  try simp only [Act.put, List.setIfInBounds_toArray, List.set_cons_zero, List.set_cons_succ]
  refine wpAnyH_ready (rs := [8]) (by kernel_rfl) (by simp) ?_
  refine AllReadyH.cons rfl (fun K hK => ?_) AllReadyH.nil
  go_simp
  refine (SPut_any A9 (19 + n4 + s.dn) c9 (sbs s).length _ _ r9 (by omega) HM.out).mono ?_
  rintro e w10 ⟨A10, c10, rfl, r10, o10, b10⟩
  have s10 := Pst.keep s9 b10
  dsimp only
  refine hK.out _ _ s10 (fun _ => ?_)
  clear hK
  try simp only [Act.put, List.setIfInBounds_toArray, List.set_cons_zero, List.set_cons_succ]
  refine held_take (i := 9) (v := .slice A10 (sbs s).length c10) (some 2) rfl rfl (by kernel_rfl) (by kernel_rfl) (by kernel_rfl) (fun _ _ _ h => h) (Or.inl ⟨by rfl, fun W hW => by go_simp⟩) s10 ?_
  simp only [Act.put, List.setIfInBounds_toArray, List.set_cons_zero, List.set_cons_succ]
  refine held_take (i := 10) (v := .int .i64 0) (some 3) rfl rfl (by kernel_rfl) (by kernel_rfl) (by kernel_rfl) (fun _ _ _ h => h) (Or.inl ⟨by rfl, fun W hW => by go_simp⟩) s10 ?_
  simp only [Act.put, List.setIfInBounds_toArray, List.set_cons_zero, List.set_cons_succ]
  refine wpAnyH_done (by kernel_rfl) ?_ _
  refine NoPanic.normal ?_
  have hlt := s9.2.2.2.2.size
  go_wp2_with fail
  go_ret2
  exact ⟨fun _ => ⟨A10, c10, rfl, r10, own_mono o10 hlt⟩, fun hc => (by rw [HRS.out] at hc; cases hc), s10.2.2.2.2⟩
theorem SegPut_any (s : Seg) (w : World) (h : SG w s) (hT : Tab w) : Calls Tryd.prog 9 #[.agg s.vals.toArray] w (SPutMade w s) := by
  cases hr : rightS s with
  | false => exact SegPut_bad s w h hr
  | true => exact SegPut_ok s w h hT hr
end Go.Proofs.YtbbpemndkphgeaaDoor
