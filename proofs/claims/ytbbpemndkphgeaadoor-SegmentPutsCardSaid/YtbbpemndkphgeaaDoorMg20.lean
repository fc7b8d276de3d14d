/- The contracts of slices.Equal of options and of segment.Same. Conditions: the slices hold options; the segments stand. -/
import Derived.Test.YtbbpemndkphgeaaDoorMg4
import Derived.Test.YtbbpemndkphgeaaDoorMg9
import Derived.Test.YtbbpemndkphgeaaDoorMg19
namespace Go.Proofs.YtbbpemndkphgeaaDoor
set_option linter.unusedVariables false
set_option linter.unusedSimpArgs false
open Go.RowKit

/-- Are the options the same? -/
def eqOs (os ps : List Opt) : Bool := os.length == ps.length && (List.range os.length).all fun i => eqO (os.getD i (zK 0)) (ps.getD i (zK 0))
theorem eqOs_iff (os ps : List Opt) : eqOs os ps = true ↔ os = ps := by
  unfold eqOs
  rw [Bool.and_eq_true, beq_iff_eq, List.all_eq_true]
  constructor
  · rintro ⟨hl, h⟩
    apply List.ext_getElem hl
    intro i h1 h2
    have := (eqO_iff _ _).1 (h i (List.mem_range.2 h1))
    simpa [List.getD_eq_getElem?_getD, List.getElem?_eq_getElem h1, List.getElem?_eq_getElem h2] using this
  · rintro rfl
    exact ⟨rfl, fun i _ => eqO_same _⟩
theorem eqOs_bad {os ps : List Opt} {j : Nat} (h : eqO (os.getD j (zK 0)) (ps.getD j (zK 0)) = false) : eqOs os ps = false := by
  cases hc : eqOs os ps with
  | false => rfl
  | true =>
    rw [(eqOs_iff _ _).1 hc, eqO_same] at h
    cases h
theorem eqOs_len {os ps : List Opt} (h : os.length ≠ ps.length) : eqOs os ps = false := by
  cases hc : eqOs os ps with
  | false => rfl
  | true =>
    rw [(eqOs_iff _ _).1 hc] at h
    exact absurd rfl h
theorem eqOs_all {os ps : List Opt} {n : Nat} (h1 : os.length = n) (h2 : ps.length = n) (h : ∀ j, j < n → eqO (os.getD j (zK 0)) (ps.getD j (zK 0)) = true) : eqOs os ps = true := by
  unfold eqOs
  rw [h1, h2, Bool.and_eq_true, List.all_eq_true]
  exact ⟨by simp, fun i hi => h i (List.mem_range.1 hi)⟩

set_option maxRecDepth 8000 in
set_option maxHeartbeats 1600000 in
theorem EqualO_any (A B : Option Addr) (n c m d : Nat) (os ps : List Opt) (w : World) (h : OS w A n c os) (h' : OS w B m d ps) :
    Calls Tryd.prog 35 #[.slice A n c, .slice B m d] w fun e w' => e = .returned (.bool (eqOs os ps)) ∧ Below w.heap.size w w' := by
  have hn := h.max
  have hn' := h.cap
  have hm := h'.max
  have hm' := h'.cap
  have HL := Lib.hid h.len
  have HR := Lib.hid h'.len
  by_cases hnm : n = m
  · subst hnm
    go_enter Tryd.func35, Tryd.ntmps35
    go_wp2_with fail
    go_loopw [13] (fun i wr => ∃ j : Nat, j ≤ n ∧ i = .int .i64 j ∧ (∀ k, k < j → eqO (os.getD k (zK 0)) (ps.getD k (zK 0)) = true) ∧ Below w.heap.size w wr) (fun i _ => n - (intOf i).toNat)
    case atStart => exact ⟨0, Nat.zero_le _, rfl, fun k hk => absurd hk (by omega), Below.refl _ _⟩
    case round =>
      obtain ⟨j, hj, rfl, heq, hb⟩ := hrel
      have HE := Lib.hid heq
      clear heq
      by_cases hlt : j < n
      · obtain ⟨b, a, rfl, hc0⟩ := h.at_ hlt
        obtain ⟨b2, a2, rfl, hd0⟩ := h'.at_ hlt
        have hc := range_below hc0 hb
        have hd := range_below hd0 hb
        have HBAD := Lib.hid (fun hx => eqOs_bad (os := os) (ps := ps) (j := j) hx)
        have HOK : Hid (eqO (os.getD j (zK 0)) (ps.getD j (zK 0)) = true → ∀ k, k < j + 1 → eqO (os.getD k (zK 0)) (ps.getD k (zK 0)) = true) := Lib.hid (fun hx k hk => by
          rcases Nat.lt_or_ge k j with h1 | h1
          · exact HE.out k h1
          · obtain rfl : k = j := by omega
            exact hx)
        clear h h' hc0 hd0
        generalize os.getD j (zK 0) = x at *
        generalize ps.getD j (zK 0) = y at *
        have HC := Lib.hid hc
        have HD := Lib.hid hd
        clear hc hd
        go_wp2_with fail
        have s0 : wr.drew.rangeAt b (a + j * 14) x.vals ∧ wr.drew.rangeAt b2 (a2 + j * 14) y.vals := ⟨HC.out, HD.out⟩
        refine wp_region_noPanic ?_
        refine wp_region_held_drew (S := fun W => W.rangeAt b (a + j * 14) x.vals ∧ W.rangeAt b2 (a2 + j * 14) y.vals) (by kernel_rfl) s0 (fun _ => ?_)
        refine held_take (i := 0) (v := .slice (some ⟨b, a, none⟩) n c) (some 16) rfl rfl (by kernel_rfl) (by kernel_rfl) (by kernel_rfl) (fun _ _ _ h => h) (Or.inl ⟨by rfl, fun W hW => by go_simp⟩) s0 ?_
        simp only [Act.put, List.setIfInBounds_toArray, List.set_cons_zero, List.set_cons_succ]
        refine held_take (i := 1) (v := .int .i64 (j : Int)) (some 17) rfl rfl (by kernel_rfl) (by kernel_rfl) (by kernel_rfl) (fun _ _ _ h => h) (Or.inl ⟨by rfl, fun W hW => by go_simp⟩) s0 ?_
        simp only [Act.put, List.setIfInBounds_toArray, List.set_cons_zero, List.set_cons_succ]
        refine held_take (i := 2) (v := .pointer (some ⟨b, a + j * 14, none⟩)) (some 18) rfl rfl (by kernel_rfl) (by kernel_rfl) (by kernel_rfl) (fun _ _ _ h => h) (Or.inl ⟨by rfl, fun W hW => by go_simp⟩) s0 ?_
        simp only [Act.put, List.setIfInBounds_toArray, List.set_cons_zero, List.set_cons_succ]
        refine held_take (i := 3) (v := .agg x.vals.toArray) (some 19) rfl rfl (by kernel_rfl) (by kernel_rfl) (by kernel_rfl) (fun _ _ _ h => h) (yieldsIf_load_mid (by rfl) 52 (.tmp 18) rfl (b) (a + j * 14) rfl x.vals _ (fun W hW => hW.1) Tryd.underlying52 rfl infoOpt) s0 ?_
        simp only [Act.put, List.setIfInBounds_toArray, List.set_cons_zero, List.set_cons_succ]
        refine held_take (i := 4) (v := .slice (some ⟨b2, a2, none⟩) n d) (some 20) rfl rfl (by kernel_rfl) (by kernel_rfl) (by kernel_rfl) (fun _ _ _ h => h) (Or.inl ⟨by rfl, fun W hW => by go_simp⟩) s0 ?_
        simp only [Act.put, List.setIfInBounds_toArray, List.set_cons_zero, List.set_cons_succ]
        refine held_take (i := 5) (v := .int .i64 (j : Int)) (some 21) rfl rfl (by kernel_rfl) (by kernel_rfl) (by kernel_rfl) (fun _ _ _ h => h) (Or.inl ⟨by rfl, fun W hW => by go_simp⟩) s0 ?_
        simp only [Act.put, List.setIfInBounds_toArray, List.set_cons_zero, List.set_cons_succ]
        refine held_take (i := 6) (v := .pointer (some ⟨b2, a2 + j * 14, none⟩)) (some 22) rfl rfl (by kernel_rfl) (by kernel_rfl) (by kernel_rfl) (fun _ _ _ h => h) (Or.inl ⟨by rfl, fun W hW => by go_simp⟩) s0 ?_
        simp only [Act.put, List.setIfInBounds_toArray, List.set_cons_zero, List.set_cons_succ]
        refine held_take (i := 7) (v := .agg y.vals.toArray) (some 23) rfl rfl (by kernel_rfl) (by kernel_rfl) (by kernel_rfl) (fun _ _ _ h => h) (yieldsIf_load_mid (by rfl) 52 (.tmp 22) rfl (b2) (a2 + j * 14) rfl y.vals _ (fun W hW => hW.2) Tryd.underlying52 rfl infoOpt) s0 ?_
        simp only [Act.put, List.setIfInBounds_toArray, List.set_cons_zero, List.set_cons_succ]
        refine held_take (i := 8) (v := .bool (!eqO x y)) (some 24) rfl rfl (by kernel_rfl) (by kernel_rfl) (by kernel_rfl) (fun _ _ _ h => h) (Or.inl ⟨by rfl, fun W hW => exec_neqO (.tmp 19) (.tmp 23) _ rfl x y rfl rfl⟩) s0 ?_
        simp only [Act.put, List.setIfInBounds_toArray, List.set_cons_zero, List.set_cons_succ]
        refine wpAnyH_done (by kernel_rfl) ?_ _
        refine NoPanic.normal ?_
        clear s0
        cases hq : eqO x y with
        | false =>
          have HX := Lib.hid (HBAD.out hq)
          clear hq
          go_wp2_with fail
          go_ret
          exact ⟨by rw [HX.out]; rfl, hb.drew⟩
        | true =>
          have HX := Lib.hid (HOK.out hq)
          clear hq
          go_wp2_with fail
          go_roundw
          case rel => exact ⟨j + 1, by omega, by go_num, HX.out, hb.drew⟩
          case measure => simp [intOf]; omega
      · obtain rfl : j = n := by omega
        have HX := Lib.hid (eqOs_all HL.out HR.out HE.out)
        go_wp2_with fail
        go_ret
        exact ⟨by rw [HX.out]; rfl, hb⟩
  · have HX := Lib.hid (eqOs_len (os := os) (ps := ps) (by rw [HL.out, HR.out]; exact hnm))
    have hne : ((n : Int) != (m : Int)) = true := by rw [bne_iff_ne]; omega
    go_enter Tryd.func35, Tryd.ntmps35
    go_wp2_with fail
    go_ret
    exact ⟨by rw [HX.out]; rfl, Below.refl _ _⟩

/-- Are two segments the same? -/
def sameB (a b : Seg) : Bool := (a.head == b.head) && eqOs a.os b.os && (a.ds == b.ds)
theorem u64_inj {x y : Int} (hx : isInt x) (hy : isInt y) (h : u64 x = u64 y) : x = y := by
  rw [← s64_u64 hx, h, s64_u64 hy]
theorem sameB_iff {w w' : World} {a b : Seg} (ha : SG w a) (hb : SG w' b) : sameB a b = true ↔ SameS a b := by
  unfold sameB SameS
  rw [Bool.and_eq_true, Bool.and_eq_true, beq_iff_eq, beq_iff_eq, eqOs_iff]
  have e1 := ha.opts.len
  have e2 := hb.opts.len
  have e3 := ha.data.len
  have e4 := hb.data.len
  constructor
  · rintro ⟨⟨h, ho⟩, hd⟩
    simp only [Seg.head, List.cons.injEq, and_true] at h
    obtain ⟨h1, h2, h3, h4, h5, h6, h7, h8, h9, h10⟩ := h
    obtain ⟨f1, f2, f3, f4⟩ := flN_inj h7
    exact ⟨u64_inj ha.src hb.src h1, u64_inj ha.dst hb.dst h2, u64_inj ha.sport hb.sport h3, u64_inj ha.dport hb.dport h4, h5, h6, f1, f2, f3, f4, u64_inj ha.win hb.win h8, ho, hd⟩
  · rintro ⟨h1, h2, h3, h4, h5, h6, f1, f2, f3, f4, h8, ho, hd⟩
    refine ⟨⟨?_, ho⟩, hd⟩
    have h9 : a.on = b.on := by rw [← e1, ← e2, ho]
    have h10 : a.dn = b.dn := by rw [← e3, ← e4, hd]
    unfold Seg.head
    rw [h1, h2, h3, h4, h5, h6, f1, f2, f3, f4, h8, h9, h10]
/-- What stands while two segments are compared. -/
def SmSt (w W : World) (a b : Seg) : Prop := Own W w.heap.size a.vals ∧ Own W (w.heap.size + 1) b.vals ∧ SG W a ∧ SG W b ∧ Below w.heap.size w W
theorem SmSt.keep {w W W' : World} {a b : Seg} (h : SmSt w W a b) (hb : Below W.heap.size W W') : SmSt w W' a b :=
  ⟨h.1.below hb, h.2.1.below hb, h.2.2.1.below hb, h.2.2.2.1.below hb, below_trans h.2.2.2.2 hb⟩
theorem infoHeadH (s : Seg) : (Tryd.prog.info? 46).map (·.size) = some (hv s.head).length := by rw [hv_length]; kernel_rfl

set_option maxRecDepth 8000 in
set_option maxHeartbeats 3200000 in
theorem SegSame_any (a b : Seg) (w : World) (ha : SG w a) (hb : SG w b) :
    Calls Tryd.prog 17 #[.agg a.vals.toArray, .agg b.vals.toArray] w fun e w' => e = .returned (.bool (sameB a b)) ∧ Below w.heap.size w w' := by
  cases hh : (a.head == b.head) with
  | false =>
    have HS : Hid (sameB a b = false) := Lib.hid (by unfold sameB; rw [hh]; rfl)
    have HH := Lib.hid hh
    clear hh
    go_enter Tryd.func17, Tryd.ntmps17
    go_wp2_with (first
      | ((with_reducible refine wpList_here ?_); refine wpList_boxV (o := ⟨some 2, _, _, _, _, _⟩) rfl 26 (.tmp 0) rfl a.vals rfl _ rfl ?_; intro w1 z1 b1 s1)
      | ((with_reducible refine wpList_here ?_); refine wpList_boxV (o := ⟨some 3, _, _, _, _, _⟩) rfl 26 (.tmp 1) rfl b.vals rfl _ s1 ?_; intro w2 z2 b2 s2))
    have b3 := below_trans b1 b2
    have s0 : SmSt w w2.drew a b := SmSt.keep (W := w2) ⟨z1.below b2, z2, ha.below b3, hb.below b3, b3⟩ (Below.refl _ _).drew
    clear z1 b1 s1 z2 b2 s2 b3 ha hb
    refine wp_region_noPanic ?_
    refine wp_region_held_drew (S := fun W => SmSt w W a b) (by kernel_rfl) s0 (fun _ => ?_)
    refine held_take (i := 0) (v := .agg a.vals.toArray) (some 5) rfl rfl (by kernel_rfl) (by kernel_rfl) (by kernel_rfl) (fun _ _ _ h => h) (yieldsIf_load_mid (by rfl) 26 (.tmp 2) rfl (w.heap.size) (0) rfl a.vals _ (fun W hW => hW.1.range) Tryd.underlying26 rfl infoSeg) s0 ?_
    simp only [Act.put, List.setIfInBounds_toArray, List.set_cons_zero, List.set_cons_succ]
    refine held_take (i := 2) (v := .agg b.vals.toArray) (some 7) rfl rfl (by kernel_rfl) (by kernel_rfl) (by kernel_rfl) (fun _ _ _ h => h) (yieldsIf_load_mid (by rfl) 26 (.tmp 3) rfl (w.heap.size + 1) (0) rfl b.vals _ (fun W hW => hW.2.1.range) Tryd.underlying26 rfl infoSeg) s0 ?_
    simp only [Act.put, List.setIfInBounds_toArray, List.set_cons_zero, List.set_cons_succ]
    refine wpAnyH_ready (rs := [1]) (by kernel_rfl) (by simp) ?_
    refine AllReadyH.cons rfl (fun K hK => ?_) AllReadyH.nil
    go_simp
    refine (headOf_any a _ s0.2.2.1).mono ?_
    rintro e w4 ⟨rfl, b4⟩
    have s4 := SmSt.keep s0 b4
    dsimp only
    refine hK.out _ _ s4 (fun _ => ?_)
    clear hK
    try simp only [Act.put, List.setIfInBounds_toArray, List.set_cons_zero, List.set_cons_succ]
    refine wpAnyH_ready (rs := [3]) (by kernel_rfl) (by simp) ?_
    refine AllReadyH.cons rfl (fun K hK => ?_) AllReadyH.nil
    go_simp
    refine (headOf_any b _ s4.2.2.2.1).mono ?_
    rintro e w5 ⟨rfl, b5⟩
    have s5 := SmSt.keep s4 b5
    dsimp only
    refine hK.out _ _ s5 (fun _ => ?_)
    clear hK
    try simp only [Act.put, List.setIfInBounds_toArray, List.set_cons_zero, List.set_cons_succ]
    refine held_take (i := 4) (v := .bool false) (some 9) rfl rfl (by kernel_rfl) (by kernel_rfl) (by kernel_rfl) (fun _ _ _ h => h) (Or.inl ⟨by rfl, fun W hW => (exec_eqH (.tmp 6) (.tmp 8) _ rfl a.head b.head rfl rfl rfl rfl).trans (by rw [HH.out])⟩) s5 ?_
    simp only [Act.put, List.setIfInBounds_toArray, List.set_cons_zero, List.set_cons_succ]
    refine held_take (i := 5) (v := .bool false) (some 10) rfl rfl (by kernel_rfl) (by kernel_rfl) (by kernel_rfl) (fun _ _ _ h => h) (Or.inl ⟨by rfl, fun W hW => by go_simp⟩) s5 ?_
    simp only [Act.put, List.setIfInBounds_toArray, List.set_cons_zero, List.set_cons_succ]
    refine held_take (i := 6) (v := undef) (some 11) rfl rfl (by kernel_rfl) (by kernel_rfl) (by kernel_rfl) (fun _ _ _ h => h) (Or.inr ⟨by rfl, rfl⟩) s5 ?_
    simp only [Act.put, List.setIfInBounds_toArray, List.set_cons_zero, List.set_cons_succ]
    refine held_take (i := 7) (v := undef) (some 12) rfl rfl (by kernel_rfl) (by kernel_rfl) (by kernel_rfl) (fun _ _ _ h => h) (Or.inr ⟨by rfl, rfl⟩) s5 ?_
    simp only [Act.put, List.setIfInBounds_toArray, List.set_cons_zero, List.set_cons_succ]
    refine held_take (i := 8) (v := undef) (some 13) rfl rfl (by kernel_rfl) (by kernel_rfl) (by kernel_rfl) (fun _ _ _ h => h) (Or.inr ⟨by rfl, rfl⟩) s5 ?_
    simp only [Act.put, List.setIfInBounds_toArray, List.set_cons_zero, List.set_cons_succ]
    refine held_take (i := 9) (v := undef) (some 14) rfl rfl (by kernel_rfl) (by kernel_rfl) (by kernel_rfl) (fun _ _ _ h => h) (Or.inr ⟨by rfl, rfl⟩) s5 ?_
    simp only [Act.put, List.setIfInBounds_toArray, List.set_cons_zero, List.set_cons_succ]
    refine held_take (i := 10) (v := undef) (some 15) rfl rfl (by kernel_rfl) (by kernel_rfl) (by kernel_rfl) (fun _ _ _ h => h) (Or.inr ⟨by rfl, rfl⟩) s5 ?_
    simp only [Act.put, List.setIfInBounds_toArray, List.set_cons_zero, List.set_cons_succ]
    refine held_take (i := 11) (v := .bool false) (some 16) rfl rfl (by kernel_rfl) (by kernel_rfl) (by kernel_rfl) (fun _ _ _ h => h) (Or.inl ⟨by rfl, fun W hW => by go_simp⟩) s5 ?_
    simp only [Act.put, List.setIfInBounds_toArray, List.set_cons_zero, List.set_cons_succ]
    refine held_take (i := 12) (v := .bool false) (some 17) rfl rfl (by kernel_rfl) (by kernel_rfl) (by kernel_rfl) (fun _ _ _ h => h) (Or.inl ⟨by rfl, fun W hW => by go_simp⟩) s5 ?_
    simp only [Act.put, List.setIfInBounds_toArray, List.set_cons_zero, List.set_cons_succ]
    refine held_take (i := 13) (v := undef) (some 18) rfl rfl (by kernel_rfl) (by kernel_rfl) (by kernel_rfl) (fun _ _ _ h => h) (Or.inr ⟨by rfl, rfl⟩) s5 ?_
    simp only [Act.put, List.setIfInBounds_toArray, List.set_cons_zero, List.set_cons_succ]
    refine held_take (i := 14) (v := undef) (some 19) rfl rfl (by kernel_rfl) (by kernel_rfl) (by kernel_rfl) (fun _ _ _ h => h) (Or.inr ⟨by rfl, rfl⟩) s5 ?_
    simp only [Act.put, List.setIfInBounds_toArray, List.set_cons_zero, List.set_cons_succ]
    refine held_take (i := 15) (v := undef) (some 20) rfl rfl (by kernel_rfl) (by kernel_rfl) (by kernel_rfl) (fun _ _ _ h => h) (Or.inr ⟨by rfl, rfl⟩) s5 ?_
    simp only [Act.put, List.setIfInBounds_toArray, List.set_cons_zero, List.set_cons_succ]
    refine held_take (i := 16) (v := undef) (some 21) rfl rfl (by kernel_rfl) (by kernel_rfl) (by kernel_rfl) (fun _ _ _ h => h) (Or.inr ⟨by rfl, rfl⟩) s5 ?_
    simp only [Act.put, List.setIfInBounds_toArray, List.set_cons_zero, List.set_cons_succ]
    refine held_take (i := 17) (v := undef) (some 22) rfl rfl (by kernel_rfl) (by kernel_rfl) (by kernel_rfl) (fun _ _ _ h => h) (Or.inr ⟨by rfl, rfl⟩) s5 ?_
    simp only [Act.put, List.setIfInBounds_toArray, List.set_cons_zero, List.set_cons_succ]
    refine held_take (i := 18) (v := .bool false) (some 23) rfl rfl (by kernel_rfl) (by kernel_rfl) (by kernel_rfl) (fun _ _ _ h => h) (Or.inl ⟨by rfl, fun W hW => by go_simp⟩) s5 ?_
    simp only [Act.put, List.setIfInBounds_toArray, List.set_cons_zero, List.set_cons_succ]
    refine held_take (i := 19) (v := .bool false) (some 4) rfl rfl (by kernel_rfl) (by kernel_rfl) (by kernel_rfl) (fun _ _ _ h => h) (Or.inl ⟨by rfl, fun W hW => by go_simp⟩) s5 ?_
    simp only [Act.put, List.setIfInBounds_toArray, List.set_cons_zero, List.set_cons_succ]
    refine wpAnyH_done (by kernel_rfl) ?_ _
    refine NoPanic.normal ?_
    go_wp2_with fail
    go_ret
    exact ⟨by rw [HS.out]; rfl, s5.2.2.2.2⟩
  | true =>
    have HH := Lib.hid hh
    cases ho : eqOs a.os b.os with
    | false =>
      have HS : Hid (sameB a b = false) := Lib.hid (by unfold sameB; rw [hh, ho]; rfl)
      have HO := Lib.hid ho
      clear hh ho
      go_enter Tryd.func17, Tryd.ntmps17
      go_wp2_with (first
        | ((with_reducible refine wpList_here ?_); refine wpList_boxV (o := ⟨some 2, _, _, _, _, _⟩) rfl 26 (.tmp 0) rfl a.vals rfl _ rfl ?_; intro w1 z1 b1 s1)
        | ((with_reducible refine wpList_here ?_); refine wpList_boxV (o := ⟨some 3, _, _, _, _, _⟩) rfl 26 (.tmp 1) rfl b.vals rfl _ s1 ?_; intro w2 z2 b2 s2))
      have b3 := below_trans b1 b2
      have s0 : SmSt w w2.drew a b := SmSt.keep (W := w2) ⟨z1.below b2, z2, ha.below b3, hb.below b3, b3⟩ (Below.refl _ _).drew
      clear z1 b1 s1 z2 b2 s2 b3 ha hb
      refine wp_region_noPanic ?_
      refine wp_region_held_drew (S := fun W => SmSt w W a b) (by kernel_rfl) s0 (fun _ => ?_)
      refine held_take (i := 0) (v := .agg a.vals.toArray) (some 5) rfl rfl (by kernel_rfl) (by kernel_rfl) (by kernel_rfl) (fun _ _ _ h => h) (yieldsIf_load_mid (by rfl) 26 (.tmp 2) rfl (w.heap.size) (0) rfl a.vals _ (fun W hW => hW.1.range) Tryd.underlying26 rfl infoSeg) s0 ?_
      simp only [Act.put, List.setIfInBounds_toArray, List.set_cons_zero, List.set_cons_succ]
      refine held_take (i := 2) (v := .agg b.vals.toArray) (some 7) rfl rfl (by kernel_rfl) (by kernel_rfl) (by kernel_rfl) (fun _ _ _ h => h) (yieldsIf_load_mid (by rfl) 26 (.tmp 3) rfl (w.heap.size + 1) (0) rfl b.vals _ (fun W hW => hW.2.1.range) Tryd.underlying26 rfl infoSeg) s0 ?_
      simp only [Act.put, List.setIfInBounds_toArray, List.set_cons_zero, List.set_cons_succ]
      refine wpAnyH_ready (rs := [1]) (by kernel_rfl) (by simp) ?_
      refine AllReadyH.cons rfl (fun K hK => ?_) AllReadyH.nil
      go_simp
      refine (headOf_any a _ s0.2.2.1).mono ?_
      rintro e w4 ⟨rfl, b4⟩
      have s4 := SmSt.keep s0 b4
      dsimp only
      refine hK.out _ _ s4 (fun _ => ?_)
      clear hK
      try simp only [Act.put, List.setIfInBounds_toArray, List.set_cons_zero, List.set_cons_succ]
      refine wpAnyH_ready (rs := [3]) (by kernel_rfl) (by simp) ?_
      refine AllReadyH.cons rfl (fun K hK => ?_) AllReadyH.nil
      go_simp
      refine (headOf_any b _ s4.2.2.2.1).mono ?_
      rintro e w5 ⟨rfl, b5⟩
      have s5 := SmSt.keep s4 b5
      dsimp only
      refine hK.out _ _ s5 (fun _ => ?_)
      clear hK
      try simp only [Act.put, List.setIfInBounds_toArray, List.set_cons_zero, List.set_cons_succ]
      refine held_take (i := 4) (v := .bool true) (some 9) rfl rfl (by kernel_rfl) (by kernel_rfl) (by kernel_rfl) (fun _ _ _ h => h) (Or.inl ⟨by rfl, fun W hW => (exec_eqH (.tmp 6) (.tmp 8) _ rfl a.head b.head rfl rfl rfl rfl).trans (by rw [HH.out])⟩) s5 ?_
      simp only [Act.put, List.setIfInBounds_toArray, List.set_cons_zero, List.set_cons_succ]
      refine held_take (i := 5) (v := .bool true) (some 10) rfl rfl (by kernel_rfl) (by kernel_rfl) (by kernel_rfl) (fun _ _ _ h => h) (Or.inl ⟨by rfl, fun W hW => by go_simp⟩) s5 ?_
      simp only [Act.put, List.setIfInBounds_toArray, List.set_cons_zero, List.set_cons_succ]
      refine held_take (i := 6) (v := .pointer (some ⟨w.heap.size, 11, none⟩)) (some 11) rfl rfl (by kernel_rfl) (by kernel_rfl) (by kernel_rfl) (fun _ _ _ h => h) (Or.inl ⟨by rfl, fun W hW => by go_simp⟩) s5 ?_
      simp only [Act.put, List.setIfInBounds_toArray, List.set_cons_zero, List.set_cons_succ]
      refine held_take (i := 7) (v := .slice a.oA a.on a.oc) (some 12) rfl rfl (by kernel_rfl) (by kernel_rfl) (by kernel_rfl) (fun _ _ _ h => h) (Or.inl ⟨by rfl, fun W hW => by have hc := hW.1.cels.c11; go_simp⟩) s5 ?_
      simp only [Act.put, List.setIfInBounds_toArray, List.set_cons_zero, List.set_cons_succ]
      refine held_take (i := 8) (v := .pointer (some ⟨w.heap.size + 1, 11, none⟩)) (some 13) rfl rfl (by kernel_rfl) (by kernel_rfl) (by kernel_rfl) (fun _ _ _ h => h) (Or.inl ⟨by rfl, fun W hW => by go_simp⟩) s5 ?_
      simp only [Act.put, List.setIfInBounds_toArray, List.set_cons_zero, List.set_cons_succ]
      refine held_take (i := 9) (v := .slice b.oA b.on b.oc) (some 14) rfl rfl (by kernel_rfl) (by kernel_rfl) (by kernel_rfl) (fun _ _ _ h => h) (Or.inl ⟨by rfl, fun W hW => by have hc := hW.2.1.cels.c11; go_simp⟩) s5 ?_
      simp only [Act.put, List.setIfInBounds_toArray, List.set_cons_zero, List.set_cons_succ]
      refine wpAnyH_ready (rs := [10]) (by kernel_rfl) (by simp) ?_
      refine AllReadyH.cons rfl (fun K hK => ?_) AllReadyH.nil
      go_simp
      refine (EqualO_any _ _ _ _ _ _ _ _ _ s5.2.2.1.opts s5.2.2.2.1.opts).mono ?_
      rw [HO.out]
      rintro e w6 ⟨rfl, b6⟩
      have s6 := SmSt.keep s5 b6
      dsimp only
      refine hK.out _ _ s6 (fun _ => ?_)
      clear hK
      try simp only [Act.put, List.setIfInBounds_toArray, List.set_cons_zero, List.set_cons_succ]
      refine held_take (i := 11) (v := .bool false) (some 16) rfl rfl (by kernel_rfl) (by kernel_rfl) (by kernel_rfl) (fun _ _ _ h => h) (Or.inl ⟨by rfl, fun W hW => by go_simp⟩) s6 ?_
      simp only [Act.put, List.setIfInBounds_toArray, List.set_cons_zero, List.set_cons_succ]
      refine held_take (i := 12) (v := .bool false) (some 17) rfl rfl (by kernel_rfl) (by kernel_rfl) (by kernel_rfl) (fun _ _ _ h => h) (Or.inl ⟨by rfl, fun W hW => by go_simp⟩) s6 ?_
      simp only [Act.put, List.setIfInBounds_toArray, List.set_cons_zero, List.set_cons_succ]
      refine held_take (i := 13) (v := undef) (some 18) rfl rfl (by kernel_rfl) (by kernel_rfl) (by kernel_rfl) (fun _ _ _ h => h) (Or.inr ⟨by rfl, rfl⟩) s6 ?_
      simp only [Act.put, List.setIfInBounds_toArray, List.set_cons_zero, List.set_cons_succ]
      refine held_take (i := 14) (v := undef) (some 19) rfl rfl (by kernel_rfl) (by kernel_rfl) (by kernel_rfl) (fun _ _ _ h => h) (Or.inr ⟨by rfl, rfl⟩) s6 ?_
      simp only [Act.put, List.setIfInBounds_toArray, List.set_cons_zero, List.set_cons_succ]
      refine held_take (i := 15) (v := undef) (some 20) rfl rfl (by kernel_rfl) (by kernel_rfl) (by kernel_rfl) (fun _ _ _ h => h) (Or.inr ⟨by rfl, rfl⟩) s6 ?_
      simp only [Act.put, List.setIfInBounds_toArray, List.set_cons_zero, List.set_cons_succ]
      refine held_take (i := 16) (v := undef) (some 21) rfl rfl (by kernel_rfl) (by kernel_rfl) (by kernel_rfl) (fun _ _ _ h => h) (Or.inr ⟨by rfl, rfl⟩) s6 ?_
      simp only [Act.put, List.setIfInBounds_toArray, List.set_cons_zero, List.set_cons_succ]
      refine held_take (i := 17) (v := undef) (some 22) rfl rfl (by kernel_rfl) (by kernel_rfl) (by kernel_rfl) (fun _ _ _ h => h) (Or.inr ⟨by rfl, rfl⟩) s6 ?_
      simp only [Act.put, List.setIfInBounds_toArray, List.set_cons_zero, List.set_cons_succ]
      refine held_take (i := 18) (v := .bool false) (some 23) rfl rfl (by kernel_rfl) (by kernel_rfl) (by kernel_rfl) (fun _ _ _ h => h) (Or.inl ⟨by rfl, fun W hW => by go_simp⟩) s6 ?_
      simp only [Act.put, List.setIfInBounds_toArray, List.set_cons_zero, List.set_cons_succ]
      refine held_take (i := 19) (v := .bool false) (some 4) rfl rfl (by kernel_rfl) (by kernel_rfl) (by kernel_rfl) (fun _ _ _ h => h) (Or.inl ⟨by rfl, fun W hW => by go_simp⟩) s6 ?_
      simp only [Act.put, List.setIfInBounds_toArray, List.set_cons_zero, List.set_cons_succ]
      refine wpAnyH_done (by kernel_rfl) ?_ _
      refine NoPanic.normal ?_
      go_wp2_with fail
      go_ret
      exact ⟨by rw [HS.out]; rfl, s6.2.2.2.2⟩
    | true =>
      have HS : Hid (sameB a b = (a.ds == b.ds)) := Lib.hid (by unfold sameB; rw [hh, ho]; rfl)
      have HO := Lib.hid ho
      clear hh ho
      go_enter Tryd.func17, Tryd.ntmps17
      go_wp2_with (first
        | ((with_reducible refine wpList_here ?_); refine wpList_boxV (o := ⟨some 2, _, _, _, _, _⟩) rfl 26 (.tmp 0) rfl a.vals rfl _ rfl ?_; intro w1 z1 b1 s1)
        | ((with_reducible refine wpList_here ?_); refine wpList_boxV (o := ⟨some 3, _, _, _, _, _⟩) rfl 26 (.tmp 1) rfl b.vals rfl _ s1 ?_; intro w2 z2 b2 s2))
      have b3 := below_trans b1 b2
      have s0 : SmSt w w2.drew a b := SmSt.keep (W := w2) ⟨z1.below b2, z2, ha.below b3, hb.below b3, b3⟩ (Below.refl _ _).drew
      clear z1 b1 s1 z2 b2 s2 b3 ha hb
      refine wp_region_noPanic ?_
      refine wp_region_held_drew (S := fun W => SmSt w W a b) (by kernel_rfl) s0 (fun _ => ?_)
      refine held_take (i := 0) (v := .agg a.vals.toArray) (some 5) rfl rfl (by kernel_rfl) (by kernel_rfl) (by kernel_rfl) (fun _ _ _ h => h) (yieldsIf_load_mid (by rfl) 26 (.tmp 2) rfl (w.heap.size) (0) rfl a.vals _ (fun W hW => hW.1.range) Tryd.underlying26 rfl infoSeg) s0 ?_
      simp only [Act.put, List.setIfInBounds_toArray, List.set_cons_zero, List.set_cons_succ]
      refine held_take (i := 2) (v := .agg b.vals.toArray) (some 7) rfl rfl (by kernel_rfl) (by kernel_rfl) (by kernel_rfl) (fun _ _ _ h => h) (yieldsIf_load_mid (by rfl) 26 (.tmp 3) rfl (w.heap.size + 1) (0) rfl b.vals _ (fun W hW => hW.2.1.range) Tryd.underlying26 rfl infoSeg) s0 ?_
      simp only [Act.put, List.setIfInBounds_toArray, List.set_cons_zero, List.set_cons_succ]
      refine wpAnyH_ready (rs := [1]) (by kernel_rfl) (by simp) ?_
      refine AllReadyH.cons rfl (fun K hK => ?_) AllReadyH.nil
      go_simp
      refine (headOf_any a _ s0.2.2.1).mono ?_
      rintro e w4 ⟨rfl, b4⟩
      have s4 := SmSt.keep s0 b4
      dsimp only
      refine hK.out _ _ s4 (fun _ => ?_)
      clear hK
      try simp only [Act.put, List.setIfInBounds_toArray, List.set_cons_zero, List.set_cons_succ]
      refine wpAnyH_ready (rs := [3]) (by kernel_rfl) (by simp) ?_
      refine AllReadyH.cons rfl (fun K hK => ?_) AllReadyH.nil
      go_simp
      refine (headOf_any b _ s4.2.2.2.1).mono ?_
      rintro e w5 ⟨rfl, b5⟩
      have s5 := SmSt.keep s4 b5
      dsimp only
      refine hK.out _ _ s5 (fun _ => ?_)
      clear hK
      try simp only [Act.put, List.setIfInBounds_toArray, List.set_cons_zero, List.set_cons_succ]
      refine held_take (i := 4) (v := .bool true) (some 9) rfl rfl (by kernel_rfl) (by kernel_rfl) (by kernel_rfl) (fun _ _ _ h => h) (Or.inl ⟨by rfl, fun W hW => (exec_eqH (.tmp 6) (.tmp 8) _ rfl a.head b.head rfl rfl rfl rfl).trans (by rw [HH.out])⟩) s5 ?_
      simp only [Act.put, List.setIfInBounds_toArray, List.set_cons_zero, List.set_cons_succ]
      refine held_take (i := 5) (v := .bool true) (some 10) rfl rfl (by kernel_rfl) (by kernel_rfl) (by kernel_rfl) (fun _ _ _ h => h) (Or.inl ⟨by rfl, fun W hW => by go_simp⟩) s5 ?_
      simp only [Act.put, List.setIfInBounds_toArray, List.set_cons_zero, List.set_cons_succ]
      refine held_take (i := 6) (v := .pointer (some ⟨w.heap.size, 11, none⟩)) (some 11) rfl rfl (by kernel_rfl) (by kernel_rfl) (by kernel_rfl) (fun _ _ _ h => h) (Or.inl ⟨by rfl, fun W hW => by go_simp⟩) s5 ?_
      simp only [Act.put, List.setIfInBounds_toArray, List.set_cons_zero, List.set_cons_succ]
      refine held_take (i := 7) (v := .slice a.oA a.on a.oc) (some 12) rfl rfl (by kernel_rfl) (by kernel_rfl) (by kernel_rfl) (fun _ _ _ h => h) (Or.inl ⟨by rfl, fun W hW => by have hc := hW.1.cels.c11; go_simp⟩) s5 ?_
      simp only [Act.put, List.setIfInBounds_toArray, List.set_cons_zero, List.set_cons_succ]
      refine held_take (i := 8) (v := .pointer (some ⟨w.heap.size + 1, 11, none⟩)) (some 13) rfl rfl (by kernel_rfl) (by kernel_rfl) (by kernel_rfl) (fun _ _ _ h => h) (Or.inl ⟨by rfl, fun W hW => by go_simp⟩) s5 ?_
      simp only [Act.put, List.setIfInBounds_toArray, List.set_cons_zero, List.set_cons_succ]
      refine held_take (i := 9) (v := .slice b.oA b.on b.oc) (some 14) rfl rfl (by kernel_rfl) (by kernel_rfl) (by kernel_rfl) (fun _ _ _ h => h) (Or.inl ⟨by rfl, fun W hW => by have hc := hW.2.1.cels.c11; go_simp⟩) s5 ?_
      simp only [Act.put, List.setIfInBounds_toArray, List.set_cons_zero, List.set_cons_succ]
      refine wpAnyH_ready (rs := [10]) (by kernel_rfl) (by simp) ?_
      refine AllReadyH.cons rfl (fun K hK => ?_) AllReadyH.nil
      go_simp
      refine (EqualO_any _ _ _ _ _ _ _ _ _ s5.2.2.1.opts s5.2.2.2.1.opts).mono ?_
      rw [HO.out]
      rintro e w6 ⟨rfl, b6⟩
      have s6 := SmSt.keep s5 b6
      dsimp only
      refine hK.out _ _ s6 (fun _ => ?_)
      clear hK
      try simp only [Act.put, List.setIfInBounds_toArray, List.set_cons_zero, List.set_cons_succ]
      refine held_take (i := 11) (v := .bool true) (some 16) rfl rfl (by kernel_rfl) (by kernel_rfl) (by kernel_rfl) (fun _ _ _ h => h) (Or.inl ⟨by rfl, fun W hW => by go_simp⟩) s6 ?_
      simp only [Act.put, List.setIfInBounds_toArray, List.set_cons_zero, List.set_cons_succ]
      refine held_take (i := 12) (v := .bool true) (some 17) rfl rfl (by kernel_rfl) (by kernel_rfl) (by kernel_rfl) (fun _ _ _ h => h) (Or.inl ⟨by rfl, fun W hW => by go_simp⟩) s6 ?_
      simp only [Act.put, List.setIfInBounds_toArray, List.set_cons_zero, List.set_cons_succ]
      refine held_take (i := 13) (v := .pointer (some ⟨w.heap.size, 12, none⟩)) (some 18) rfl rfl (by kernel_rfl) (by kernel_rfl) (by kernel_rfl) (fun _ _ _ h => h) (Or.inl ⟨by rfl, fun W hW => by go_simp⟩) s6 ?_
      simp only [Act.put, List.setIfInBounds_toArray, List.set_cons_zero, List.set_cons_succ]
      refine held_take (i := 14) (v := .slice a.dA a.dn a.dc) (some 19) rfl rfl (by kernel_rfl) (by kernel_rfl) (by kernel_rfl) (fun _ _ _ h => h) (Or.inl ⟨by rfl, fun W hW => by have hc := hW.1.cels.c12; go_simp⟩) s6 ?_
      simp only [Act.put, List.setIfInBounds_toArray, List.set_cons_zero, List.set_cons_succ]
      refine held_take (i := 15) (v := .pointer (some ⟨w.heap.size + 1, 12, none⟩)) (some 20) rfl rfl (by kernel_rfl) (by kernel_rfl) (by kernel_rfl) (fun _ _ _ h => h) (Or.inl ⟨by rfl, fun W hW => by go_simp⟩) s6 ?_
      simp only [Act.put, List.setIfInBounds_toArray, List.set_cons_zero, List.set_cons_succ]
      refine held_take (i := 16) (v := .slice b.dA b.dn b.dc) (some 21) rfl rfl (by kernel_rfl) (by kernel_rfl) (by kernel_rfl) (fun _ _ _ h => h) (Or.inl ⟨by rfl, fun W hW => by have hc := hW.2.1.cels.c12; go_simp⟩) s6 ?_
      simp only [Act.put, List.setIfInBounds_toArray, List.set_cons_zero, List.set_cons_succ]
      refine wpAnyH_ready (rs := [17]) (by kernel_rfl) (by simp) ?_
      refine AllReadyH.cons rfl (fun K hK => ?_) AllReadyH.nil
      go_simp
      refine (same_any _ _ _ _ _ _ _ _ _ s6.2.2.1.data s6.2.2.2.1.data).mono ?_
      rintro e w7 ⟨rfl, rfl⟩
      dsimp only
      refine hK.out _ _ s6 (fun _ => ?_)
      clear hK
      try simp only [Act.put, List.setIfInBounds_toArray, List.set_cons_zero, List.set_cons_succ]
      refine held_take (i := 18) (v := .bool (a.ds == b.ds)) (some 23) rfl rfl (by kernel_rfl) (by kernel_rfl) (by kernel_rfl) (fun _ _ _ h => h) (Or.inl ⟨by rfl, fun W hW => by go_simp⟩) s6 ?_
      simp only [Act.put, List.setIfInBounds_toArray, List.set_cons_zero, List.set_cons_succ]
      refine held_take (i := 19) (v := .bool (a.ds == b.ds)) (some 4) rfl rfl (by kernel_rfl) (by kernel_rfl) (by kernel_rfl) (fun _ _ _ h => h) (Or.inl ⟨by rfl, fun W hW => by go_simp⟩) s6 ?_
      simp only [Act.put, List.setIfInBounds_toArray, List.set_cons_zero, List.set_cons_succ]
      refine wpAnyH_done (by kernel_rfl) ?_ _
      refine NoPanic.normal ?_
      go_wp2_with fail
      go_ret
      exact ⟨by rw [HS.out]; rfl, s6.2.2.2.2⟩
end Go.Proofs.YtbbpemndkphgeaaDoor
