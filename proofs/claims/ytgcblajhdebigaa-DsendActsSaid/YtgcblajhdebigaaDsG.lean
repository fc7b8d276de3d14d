/- A sender's Take. Conditions: the sender stands. -/
import Derived.Test.YtgcblajhdebigaaDsF
namespace Go.Proofs.Ytgcblajhdebigaa
set_option linter.unusedVariables false
set_option linter.unusedSimpArgs false
open Go.RowKit Go.Lib

theorem RB.sub {w : World} {A : Option Addr} {n c : Nat} {l : List UInt8} (h : RB w A n c l) {i j : Nat} (hij : i ≤ j) (hj : j ≤ n) :
    ∃ A2, (∀ W : World, (Instr.slice 28 (.slice A n c) (some (.int .i64 (i : Int))) (some (.int .i64 (j : Int))) none).run Try.prog W = .ok (.slice A2 (j - i) (c - i)) W) ∧ RB w A2 (j - i) (c - i) ((l.drop i).take (j - i)) := by
  have hc := h.cap
  refine ⟨_, fun W => ?_, (h.drop (k := i) (by omega)).take (k := j - i) (by omega)⟩
  rw [run_slice_lh (P := Try.prog) W 28 A n c elemOf .i64 .i64 (i : Int) (j : Int) (by omega) (by omega) (by omega), sizeOfByte]
  simp [Result.andThen, sliced]

/-- What Take leaves. -/
structure TookB (w : World) (sb : Nat) (d : Dq) (m : Nat) (v : Value) (w' : World) (z' : Sh) : Prop where
  rb : ∃ A c, v = .slice A (d.most m) c ∧ RB w' A (d.most m) c (d.got m)
  far : ∀ g, v.ownBlock = some g → w.heap.size ≤ g ∧ ¬ z'.T sb g
def TakeP (base : Nat) (w : World) (sb : Nat) (z : Sh) (d : Dq) (m : Nat) (e : Ending) (w' : World) : Prop :=
  ∃ v z', e = .returned (.tuple #[.int .i64 (d.dsn m : Int), v]) ∧ TookB w sb d m v w' z' ∧ Left base w sb z (d.take m) w' z'
/-- At most so many, held within 1 to 8. -/
def mostOf (m : Int) : Nat := (min (max m 1) 8).toNat

section
variable {base : Nat} {w : World} {sb : Nat} {z : Sh} {d : Dq}
theorem take_nothing (H : Sd base w sb z d) {m : Nat} (h0 : d.most m = 0) {w' : World} (b : Below w.heap.size w w') : TakeP base w sb z d m (.returned (.tuple #[.int .i64 0, .slice none 0 0])) w' := by
  refine ⟨.slice none 0 0, z, ?_, ⟨⟨none, 0, ?_, ?_⟩, fun g hg => by cases hg⟩, ?_⟩
  · unfold Dq.dsn
    rw [if_pos h0]
    rfl
  · rw [h0]
  · have : d.got m = [] := List.eq_nil_of_length_eq_zero (by rw [H.ok.got, h0])
    rw [this, h0]
    exact RB.nil_ _
  · rw [Dq.take_none h0 H.ok]
    exact Left.of_below H b
set_option maxRecDepth 8000 in
set_option maxHeartbeats 3200000 in
theorem Take_any (H : Sd base w sb z d) {m : Int} (hm : isI m) : Calls Try.prog 13 #[ptr sb, .int .i64 m] w (TakeP base w sb z d (mostOf m)) := by
  have HH := Lib.hid H
  obtain ⟨M, hM⟩ : ∃ M, M = mostOf m := ⟨_, rfl⟩
  have hM1 : (M : Int) = min (max m 1) 8 := by rw [hM]; unfold mostOf; omega
  rw [← hM]
  obtain ⟨r1, r2, r3, r4, r5⟩ := H.ok.run H.st.tid H.ls
  have hmo := r3 M (by omega)
  obtain ⟨q1, q2, q3, q4⟩ := H.ok.most (m := M)
  have hf1 := H.ok.from_
  have hnum := H.nums
  have HF := Lib.hid (first_any H)
  have HRG : Hid (d.run z.l = ((d.run z.l).1, (d.run z.l).2)) := Lib.hid rfl
  rw [HRG.out, r1] at HF
  obtain ⟨lg, hlg⟩ : ∃ lg, lg = (d.run z.l).2 := ⟨_, rfl⟩
  rw [← hlg] at HF hmo r2
  clear r3 r5 r4 HRG r1 hM hlg H
  by_cases h0 : lg = 0
  · have HT := Lib.hid (fun (w' : World) (b : Below w.heap.size w w') => take_nothing HH.out (m := M) (by omega) b)
    subst h0
    generalize d.from_ = f at *
    clear hmo q1 q2 q3 q4 hf1 hnum HH hm r2
    unfold rg ptr at *
    go_enter Try.func13, Try.ntmps13
    go_wp2_with fail
    refine (HF.out).mono ?_
    rintro e w1 ⟨rfl, b1⟩
    have HB := Lib.hid (b1.alloc b1.size (.cells #[.int .i64 (f : Int), .int .i64 0] 66))
    clear b1 HF
    go_wp2_with fail
    go_ret2
    exact HT.out _ HB.out
  · have hn1 : 1 ≤ d.most M := by omega
    have hmin3 : ∀ ts t W, (Builtin.min_ ts t #[.int .i64 lg, .int .i64 (max m 1), .int .i64 8]).run Try.prog W = .ok (.int .i64 (d.most M : Int)) W := fun ts t W => by
      have e : (if 8 < (if max m 1 < lg then max m 1 else lg) then 8 else (if max m 1 < lg then max m 1 else lg)) = (d.most M : Int) := by
        by_cases c1 : max m 1 < lg
        · rw [if_pos c1]
          split <;> omega
        · rw [if_neg c1]
          split <;> omega
      simp [Builtin.min_, Builtin.min2, e]
    have hw1 : IntKind.i64.wrap ((d.from_ : Int) + (d.most M : Int)) = ((d.from_ + d.most M : Nat) : Int) := by rw [IntKind.wrap_i64]; omega
    have hmx : max (d.next : Int) ((d.from_ + d.most M : Nat) : Int) = ((d.take M).next : Int) := by show _ = ((max d.next (d.from_ + d.most M) : Nat) : Int); omega
    have hs1 : IntKind.i64.wrap ((d.from_ : Int) - (d.una : Int)) = ((d.from_ - d.una : Nat) : Int) := by rw [IntKind.wrap_i64]; omega
    have hs2 : IntKind.i64.wrap (((d.from_ + d.most M : Nat) : Int) - (d.una : Int)) = ((d.from_ - d.una + d.most M : Nat) : Int) := by rw [IntKind.wrap_i64]; omega
    have HDS : Hid (d.dsn M = d.from_) := Lib.hid (by unfold Dq.dsn; rw [if_neg (by omega)])
    have HIS : Hid (isI ((d.from_ + d.most M : Nat) : Int)) := Lib.hid (by unfold isI; omega)
    have HGO : Hid (((d.all.drop (d.una - 1)).drop (d.from_ - d.una)).take (d.from_ - d.una + d.most M - (d.from_ - d.una)) = d.got M) := Lib.hid (by
      rw [List.drop_drop, show d.una - 1 + (d.from_ - d.una) = d.from_ - 1 from by omega, show d.from_ - d.una + d.most M - (d.from_ - d.una) = d.most M from by omega]
      rfl)
    have HN1 : Hid (0 < d.most M ∧ d.most M ≤ 1099511627776 ∧ d.from_ - d.una + d.most M ≤ d.held ∧ d.from_ - d.una + d.most M - (d.from_ - d.una) = d.most M) := Lib.hid (by omega)
    have hlg0 : ¬ lg = 0 := h0
    have HNX : Hid (∀ z3, cellsOf z3 (d.take M) = (cellsOf z3 { d with L := (d.take M).L }).setIfInBounds 3 (.int .i64 ((d.take M).next : Int))) := Lib.hid (fun z3 => rfl)
    have HOK := Lib.hid (HH.out.ok.take M)
    unfold rg at HF
    clear hmo q1 q2 q3 q4 hf1 hnum hM1 hm h0 hn1
    obtain ⟨nn, hnn⟩ : ∃ nn, nn = (d.take M).next := ⟨_, rfl⟩
    rw [← hnn] at hmx HNX
    have HNN := Lib.hid hnn
    clear hnn
    obtain ⟨bh, hbh⟩ : ∃ bh, bh = d.from_ + d.most M := ⟨_, rfl⟩
    rw [← hbh] at hw1 hmx hs2 HIS
    have HBH := Lib.hid hbh
    clear hbh
    obtain ⟨f, hf⟩ : ∃ f, f = d.from_ := ⟨_, rfl⟩
    rw [← hf] at HF hw1 hs1 hs2 HDS HGO HN1
    have HFF := Lib.hid hf
    clear hf
    obtain ⟨i, hi⟩ : ∃ i, i = f - d.una := ⟨_, rfl⟩
    rw [← hi] at hs1 hs2 HGO HN1
    clear hi
    obtain ⟨n, hn⟩ : ∃ n, n = d.most M := ⟨_, rfl⟩
    rw [← hn] at HGO HN1 hw1 hmin3
    have hs2' : IntKind.i64.wrap ((bh : Int) - (d.una : Int)) = ((i + n : Nat) : Int) := by rw [hs2, hn]
    have HNE := Lib.hid hn
    clear hn hs2
    obtain ⟨un, hun⟩ : ∃ un, un = d.una := ⟨_, rfl⟩
    rw [← hun] at hs1 hs2'
    have HUN := Lib.hid hun
    clear hun
    unfold ptr at *
    go_enter Try.func13, Try.ntmps13
    go_upto_region 3 with (fail)
    go_wp2_with fail
    refine (HF.out).mono ?_
    rintro e w1 ⟨rfl, b1⟩
    have HB1 := Lib.hid b1
    have HB2 := Lib.hid (b1.alloc b1.size (.cells #[.int .i64 (f : Int), .int .i64 lg] 66))
    obtain ⟨y0, y1⟩ := cell2 w1 (.int .i64 (f : Int)) (.int .i64 lg) 66
    clear b1 HF
    obtain ⟨g, hg⟩ : ∃ g, g = w1.heap.size := ⟨_, rfl⟩
    go_upto_region 4 with (fail)
    rw [← hg] at y0 y1 ⊢
    have HGL : Hid (w.heap.size ≤ g ∧ ∀ k, z.T sb k → k ≠ g) := Lib.hid (by
      have h1 := HB1.out.size
      refine ⟨by omega, fun k hk e => ?_⟩
      have := (HH.out.in_ hk).2
      omega)
    clear hg HB1
    generalize w1.alloc (.cells #[.int .i64 (f : Int), .int .i64 lg] 66) = w2 at *
    have HS2 := Lib.hid (HH.out.below HB2.out)
    have c20 : w2.cell? ⟨sb, 0, none⟩ = some (.pointer (some ⟨z.ob, 0, none⟩)) := HS2.out.cell 0
    have HDP : Hid (Calls Try.prog 32 #[.pointer (some ⟨z.ob, 0, none⟩), .int .i64 (bh : Int)] w2 (DropP w2 z.ob z.lv z.l (bh : Int))) := Lib.hid (Drop_any HS2.out.st HIS.out)
    go_wp2_with fail
    refine (HDP.out).mono ?_
    rintro e w3 ⟨v3, l3, rfl, s3, d3, -, k3, o3⟩
    generalize many z.l - many l3 = dm at *
    have HL3 : Hid (Left base w2 sb z { d with L := (d.take M).L } w3 { z with lv := v3, l := l3 }) := Lib.hid (HS2.out.setl s3 k3 o3 (ls_take HS2.out.ok HS2.out.ls (by rw [HBH.out]) d3) (fun k hk => by
      have hk' : (d.L k && !decide (d.from_ ≤ k ∧ k < d.from_ + d.most M)) = true := hk
      rw [Bool.and_eq_true] at hk'
      exact HS2.out.ok.lost k hk'.1))
    have y30 : w3.cell? ⟨g, 0, none⟩ = some (.int .i64 (f : Int)) := HL3.out.ch.cell y0 (fun e => HGL.out.2 g e rfl)
    have y31 : w3.cell? ⟨g, 1, none⟩ = some (.int .i64 lg) := HL3.out.ch.cell y1 (fun e => HGL.out.2 g e rfl)
    obtain ⟨z3, hz3⟩ : ∃ z3, z3 = ({ z with lv := v3, l := l3 } : Sh) := ⟨_, rfl⟩
    rw [← hz3] at HL3
    have HL4 := Lib.hid (HL3.out.s.setc (d' := d.take M) 3 (.int .i64 (nn : Int)) (HNX.out z3) rfl ⟨rfl, rfl⟩ HOK.out HL3.out.s.cap HL3.out.s.ecap)
    have c33 : w3.cell? ⟨sb, 3, none⟩ = some (.int .i64 (d.next : Int)) := HL3.out.s.cell 3
    have f33 := HL3.out.s.fz 3
    have y40 : (w3.setCell ⟨sb, 3, none⟩ (.int .i64 (nn : Int))).cell? ⟨g, 0, none⟩ = some (.int .i64 (f : Int)) := Ch.cell (m := fun k => k = sb) (Ch.setCell (m := fun k => k = sb) (Ch.refl w3 _) (fun _ => rfl) _) y30 (fun e => HGL.out.2 sb (.inl rfl) e.symm)
    have HLL := Lib.hid (HL3.out.then_ HL4.out)
    clear s3 d3 k3 o3 y0 y1 c20 HDP hz3 HL3 HNX
    generalize d.next = nx at *
    go_upto_region 9 with (fail)
    generalize w3.setCell ⟨sb, 3, none⟩ (.int .i64 (nn : Int)) = w4 at *
    have HS4 := Lib.hid HL4.out.s
    obtain ⟨dA, dc, hdv, hdr⟩ := HS4.out.dv
    have hdc := hdr.cap
    have e1 : w4.drew.cell? ⟨sb, 1, none⟩ = some (.slice dA (d.take M).held dc) := by
      rw [← hdv]
      exact HS4.out.cell 1
    have e2 : w4.drew.cell? ⟨sb, 2, none⟩ = some (.int .i64 (un : Int)) := by
      rw [HUN.out]
      exact HS4.out.cell 2
    have e0 : w4.drew.cell? ⟨g, 0, none⟩ = some (.int .i64 (f : Int)) := y40
    have hheld : (d.take M).held = d.held := rfl
    rw [hheld] at e1 hdr
    obtain ⟨A5, hsl, hsr⟩ := hdr.sub (i := i) (j := i + n) (by omega) HN1.out.2.2.1
    have hsr' : RB w4.drew A5 n (dc - i) (d.got M) := by
      have h2 : RB w4 A5 (i + n - i) (dc - i) (((d.all.drop (d.una - 1)).drop i).take (i + n - i)) := hsr
      rw [HGO.out] at h2
      rw [HN1.out.2.2.2] at h2
      exact h2
    have hsl' : ∀ W : World, (Instr.slice 28 (.slice dA d.held dc) (some (.int .i64 (i : Int))) (some (.int .i64 ((i + n : Nat) : Int))) none).run Try.prog W = .ok (.slice A5 n (dc - i)) W := fun W => by
      have := hsl W
      rw [HN1.out.2.2.2] at this
      exact this
    have HC := Lib.hid (cloneB_any hsr' HN1.out.1 HN1.out.2.1)
    clear hsl hsr hsr' hdr hdv hheld hdc y40 y30 y31 c33 f33
    generalize hjn : i + n = j at *
    generalize d.held = hd at *
    generalize dc - i = dci at *
    refine wp_region_noPanic ?_
    refine wp_region_held_drew (S := fun W => W.cell? ⟨g, 0, none⟩ = some (.int .i64 (f : Int)) ∧ W.cell? ⟨sb, 1, none⟩ = some (.slice dA hd dc) ∧ W.cell? ⟨sb, 2, none⟩ = some (.int .i64 (un : Int))) (by kernel_rfl) ⟨e0, e1, e2⟩ (fun _ => ?_)
    refine held_take (i := 0) (v := .pointer (some ⟨g, 0, none⟩)) (some 38) rfl rfl (by kernel_rfl) (by kernel_rfl) (by kernel_rfl) (fun _ _ _ h => h) (Or.inl ⟨by rfl, fun W hW => by go_simp⟩) ⟨e0, e1, e2⟩ ?_
    simp only [Act.put, List.setIfInBounds_toArray, List.set_cons_zero, List.set_cons_succ]
    refine held_take (i := 2) (v := .pointer (some ⟨sb, 0, none⟩)) (some 40) rfl rfl (by kernel_rfl) (by kernel_rfl) (by kernel_rfl) (fun _ _ _ h => h) (Or.inl ⟨by rfl, fun W hW => by go_simp⟩) ⟨e0, e1, e2⟩ ?_
    simp only [Act.put, List.setIfInBounds_toArray, List.set_cons_zero, List.set_cons_succ]
    refine held_take (i := 6) (v := .pointer (some ⟨g, 0, none⟩)) (some 44) rfl rfl (by kernel_rfl) (by kernel_rfl) (by kernel_rfl) (fun _ _ _ h => h) (Or.inl ⟨by rfl, fun W hW => by go_simp⟩) ⟨e0, e1, e2⟩ ?_
    simp only [Act.put, List.setIfInBounds_toArray, List.set_cons_zero, List.set_cons_succ]
    refine held_take (i := 8) (v := .pointer (some ⟨sb, 0, none⟩)) (some 46) rfl rfl (by kernel_rfl) (by kernel_rfl) (by kernel_rfl) (fun _ _ _ h => h) (Or.inl ⟨by rfl, fun W hW => by go_simp⟩) ⟨e0, e1, e2⟩ ?_
    simp only [Act.put, List.setIfInBounds_toArray, List.set_cons_zero, List.set_cons_succ]
    refine held_take (i := 13) (v := .int .i64 (bh : Int)) (some 51) rfl rfl (by kernel_rfl) (by kernel_rfl) (by kernel_rfl) (fun _ _ _ h => h) (Or.inl ⟨by rfl, fun W hW => by go_simp⟩) ⟨e0, e1, e2⟩ ?_
    simp only [Act.put, List.setIfInBounds_toArray, List.set_cons_zero, List.set_cons_succ]
    refine held_take (i := 14) (v := .pointer (some ⟨sb, 0, none⟩)) (some 52) rfl rfl (by kernel_rfl) (by kernel_rfl) (by kernel_rfl) (fun _ _ _ h => h) (Or.inl ⟨by rfl, fun W hW => by go_simp⟩) ⟨e0, e1, e2⟩ ?_
    simp only [Act.put, List.setIfInBounds_toArray, List.set_cons_zero, List.set_cons_succ]
    refine held_take (i := 1) (v := .int .i64 (f : Int)) (some 39) rfl rfl (by kernel_rfl) (by kernel_rfl) (by kernel_rfl) (fun _ _ _ h => h) (Or.inl ⟨by rfl, fun W hW => by have hc := hW.1; go_simp⟩) ⟨e0, e1, e2⟩ ?_
    simp only [Act.put, List.setIfInBounds_toArray, List.set_cons_zero, List.set_cons_succ]
    refine held_take (i := 3) (v := .pointer (some ⟨sb, 0, none⟩)) (some 41) rfl rfl (by kernel_rfl) (by kernel_rfl) (by kernel_rfl) (fun _ _ _ h => h) (Or.inl ⟨by rfl, fun W hW => by go_simp⟩) ⟨e0, e1, e2⟩ ?_
    simp only [Act.put, List.setIfInBounds_toArray, List.set_cons_zero, List.set_cons_succ]
    refine held_take (i := 7) (v := .int .i64 (f : Int)) (some 45) rfl rfl (by kernel_rfl) (by kernel_rfl) (by kernel_rfl) (fun _ _ _ h => h) (Or.inl ⟨by rfl, fun W hW => by have hc := hW.1; go_simp⟩) ⟨e0, e1, e2⟩ ?_
    simp only [Act.put, List.setIfInBounds_toArray, List.set_cons_zero, List.set_cons_succ]
    refine held_take (i := 9) (v := .pointer (some ⟨sb, 0, none⟩)) (some 47) rfl rfl (by kernel_rfl) (by kernel_rfl) (by kernel_rfl) (fun _ _ _ h => h) (Or.inl ⟨by rfl, fun W hW => by go_simp⟩) ⟨e0, e1, e2⟩ ?_
    simp only [Act.put, List.setIfInBounds_toArray, List.set_cons_zero, List.set_cons_succ]
    refine held_take (i := 15) (v := .pointer (some ⟨sb, 0, none⟩)) (some 53) rfl rfl (by kernel_rfl) (by kernel_rfl) (by kernel_rfl) (fun _ _ _ h => h) (Or.inl ⟨by rfl, fun W hW => by go_simp⟩) ⟨e0, e1, e2⟩ ?_
    simp only [Act.put, List.setIfInBounds_toArray, List.set_cons_zero, List.set_cons_succ]
    refine held_take (i := 4) (v := .pointer (some ⟨sb, 1, none⟩)) (some 42) rfl rfl (by kernel_rfl) (by kernel_rfl) (by kernel_rfl) (fun _ _ _ h => h) (Or.inl ⟨by rfl, fun W hW => by go_simp⟩) ⟨e0, e1, e2⟩ ?_
    simp only [Act.put, List.setIfInBounds_toArray, List.set_cons_zero, List.set_cons_succ]
    refine held_take (i := 10) (v := .pointer (some ⟨sb, 2, none⟩)) (some 48) rfl rfl (by kernel_rfl) (by kernel_rfl) (by kernel_rfl) (fun _ _ _ h => h) (Or.inl ⟨by rfl, fun W hW => by go_simp⟩) ⟨e0, e1, e2⟩ ?_
    simp only [Act.put, List.setIfInBounds_toArray, List.set_cons_zero, List.set_cons_succ]
    refine held_take (i := 16) (v := .pointer (some ⟨sb, 2, none⟩)) (some 54) rfl rfl (by kernel_rfl) (by kernel_rfl) (by kernel_rfl) (fun _ _ _ h => h) (Or.inl ⟨by rfl, fun W hW => by go_simp⟩) ⟨e0, e1, e2⟩ ?_
    simp only [Act.put, List.setIfInBounds_toArray, List.set_cons_zero, List.set_cons_succ]
    refine held_take (i := 5) (v := .slice dA hd dc) (some 43) rfl rfl (by kernel_rfl) (by kernel_rfl) (by kernel_rfl) (fun _ _ _ h => h) (Or.inl ⟨by rfl, fun W hW => by have hc := hW.2.1; go_simp⟩) ⟨e0, e1, e2⟩ ?_
    simp only [Act.put, List.setIfInBounds_toArray, List.set_cons_zero, List.set_cons_succ]
    refine held_take (i := 11) (v := .int .i64 (un : Int)) (some 49) rfl rfl (by kernel_rfl) (by kernel_rfl) (by kernel_rfl) (fun _ _ _ h => h) (Or.inl ⟨by rfl, fun W hW => by have hc := hW.2.2; go_simp⟩) ⟨e0, e1, e2⟩ ?_
    simp only [Act.put, List.setIfInBounds_toArray, List.set_cons_zero, List.set_cons_succ]
    refine held_take (i := 17) (v := .int .i64 (un : Int)) (some 55) rfl rfl (by kernel_rfl) (by kernel_rfl) (by kernel_rfl) (fun _ _ _ h => h) (Or.inl ⟨by rfl, fun W hW => by have hc := hW.2.2; go_simp⟩) ⟨e0, e1, e2⟩ ?_
    simp only [Act.put, List.setIfInBounds_toArray, List.set_cons_zero, List.set_cons_succ]
    refine held_take (i := 12) (v := .int .i64 (i : Int)) (some 50) rfl rfl (by kernel_rfl) (by kernel_rfl) (by kernel_rfl) (fun _ _ _ h => h) (Or.inl ⟨by rfl, fun W hW => by have hc := hs1; go_simp⟩) ⟨e0, e1, e2⟩ ?_
    simp only [Act.put, List.setIfInBounds_toArray, List.set_cons_zero, List.set_cons_succ]
    refine held_take (i := 18) (v := .int .i64 (j : Int)) (some 56) rfl rfl (by kernel_rfl) (by kernel_rfl) (by kernel_rfl) (fun _ _ _ h => h) (Or.inl ⟨by rfl, fun W hW => by have hc := hs2'; go_simp⟩) ⟨e0, e1, e2⟩ ?_
    simp only [Act.put, List.setIfInBounds_toArray, List.set_cons_zero, List.set_cons_succ]
    refine held_take (i := 19) (v := .slice A5 n dci) (some 57) rfl rfl (by kernel_rfl) (by kernel_rfl) (by kernel_rfl) (fun _ _ _ h => h) (Or.inl ⟨by rfl, fun W hW => by have hc := hsl' W; go_simp⟩) ⟨e0, e1, e2⟩ ?_
    simp only [Act.put, List.setIfInBounds_toArray, List.set_cons_zero, List.set_cons_succ]
    refine wpAnyH_ready (rs := [20]) (by kernel_rfl) (by simp) ?_
    refine AllReadyH.cons rfl (fun K hK => ?_) AllReadyH.nil
    go_simp
    refine (HC.out).mono ?_
    rintro e w5 ⟨A9, k9, rfl, r9, u9, b9⟩
    have e9 : w5.cell? ⟨g, 0, none⟩ = some (.int .i64 (f : Int)) ∧ w5.cell? ⟨sb, 1, none⟩ = some (.slice dA hd dc) ∧ w5.cell? ⟨sb, 2, none⟩ = some (.int .i64 (un : Int)) := ⟨keepc b9 e0, keepc b9 e1, keepc b9 e2⟩
    have b9w : Below w4.heap.size w4 w5 := ⟨b9.os, b9.tape, b9.output, b9.size, b9.block⟩
    have HX : Hid (TakeP base w sb z d M (.returned (.tuple #[.int .i64 (f : Int), .slice A9 n k9])) w5) := Lib.hid (by
      have hl5 := (HLL.out.after b9w).ahead HB2.out (fun k hk => (HH.out.in_ hk).2)
      refine ⟨_, _, by rw [HDS.out], ⟨⟨A9, k9, by rw [HNE.out], by rw [← HNE.out]; exact r9⟩, fun q hq => ?_⟩, hl5⟩
      have hq4 := (own_in u9 hq).1
      have hq4' : w4.heap.size ≤ q := hq4
      refine ⟨?_, fun ht => ?_⟩
      · have h1 := HB2.out.size
        have h2 := HLL.out.ch.size
        omega
      · have := (HS4.out.in_ ht).2
        omega)
    clear r9 u9 b9 b9w HC HLL HS4
    dsimp only
    refine hK.out _ _ e9 (fun _ => ?_)
    clear hK
    try simp only [Act.put, List.setIfInBounds_toArray, List.set_cons_zero, List.set_cons_succ]
    refine held_take (i := 21) (v := .int .i64 (f : Int)) (some 4) rfl rfl (by kernel_rfl) (by kernel_rfl) (by kernel_rfl) (fun _ _ _ h => h) (Or.inl ⟨by rfl, fun W hW => by go_simp⟩) e9 ?_
    simp only [Act.put, List.setIfInBounds_toArray, List.set_cons_zero, List.set_cons_succ]
    refine held_take (i := 22) (v := .slice A9 n k9) (some 5) rfl rfl (by kernel_rfl) (by kernel_rfl) (by kernel_rfl) (fun _ _ _ h => h) (Or.inl ⟨by rfl, fun W hW => by go_simp⟩) e9 ?_
    simp only [Act.put, List.setIfInBounds_toArray, List.set_cons_zero, List.set_cons_succ]
    refine wpAnyH_done (by kernel_rfl) ?_ _
    refine NoPanic.normal ?_
    go_wp2_with fail
    go_ret2
    exact HX.out
end
end Go.Proofs.Ytgcblajhdebigaa
