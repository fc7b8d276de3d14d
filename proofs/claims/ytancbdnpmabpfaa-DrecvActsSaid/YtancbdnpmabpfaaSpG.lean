/- A set's Add. Conditions: the set stands; whole numbers of 64 bits. -/
import Derived.Test.YtancbdnpmabpfaaSpF
import Derived.Deep.CutRange
import Derived.Test.YtancbdnpmabpfaaUnt
namespace Go.Proofs.Ytancbdnpmabpfaa
set_option linter.unusedVariables false
set_option linter.unusedSimpArgs false
open Go.RowKit Go.Lib

theorem inR_ok (f g : Int) (h : 0 < (inR f g).2) : 0 ≤ (inR f g).1 ∧ 1 ≤ (inR f g).2 ∧ (inR f g).1 + (inR f g).2 ≤ 4294967296 := by
  unfold inR at *
  split
  · rename_i hf
    rw [if_pos hf] at h
    dsimp only at *
    omega
  · rename_i hf
    rw [if_neg hf] at h
    dsimp only at *
    omega
theorem inR_nonneg (f g : Int) : 0 ≤ (inR f g).2 := by
  unfold inR
  split <;> (dsimp only; omega)

/-- What Add leaves. -/
def AddP (w : World) (sb : Nat) (v : Value) (l : List Rn) (f g : Int) (e : Ending) (w' : World) : Prop :=
  ∃ (v' : Value) (l' : List Rn), e = .returned (.int .i64 (many l' - many l)) ∧ St w' sb v' l' ∧ AddR l (inR f g) l' ∧ 0 ≤ many l' - many l ∧ Ch w w' (fun k => k = sb ∨ v.ownBlock = some k) ∧ ∀ k, v'.ownBlock = some k → v.ownBlock = some k ∨ w.heap.size ≤ k

theorem tid_rise : ∀ {l : List Rn} {lo : Int}, Tid lo l → ∀ a b, a < b → b < l.length → (l.getD a (0, 0)).1 + (l.getD a (0, 0)).2 < (l.getD b (0, 0)).1 ∧ 1 ≤ (l.getD a (0, 0)).2 ∧ 1 ≤ (l.getD b (0, 0)).2
  | [], _, _, a, b, _, hb => by simp at hb
  | r :: l, lo, h, 0, b + 1, _, hb => by
    have h2 := h.2.1
    have hb' : b < l.length := by simpa using hb
    have := tid_ge h.2.2.2 _ (getD_mem hb')
    show r.1 + r.2 < (l.getD b (0, 0)).1 ∧ 1 ≤ r.2 ∧ 1 ≤ (l.getD b (0, 0)).2
    omega
  | r :: l, lo, h, a + 1, b + 1, hab, hb => by
    have hb' : b < l.length := by simpa using hb
    exact tid_rise h.2.2.2 a b (by omega) hb'
theorem mono_end {l : List Rn} (h : Tid 0 l) (x : Int) : ∀ a b, a ≤ b → b < l.length → decide (x ≤ (l.getD a (0, 0)).1 + (l.getD a (0, 0)).2) = true → decide (x ≤ (l.getD b (0, 0)).1 + (l.getD b (0, 0)).2) = true := fun a b hab hb e => by
  simp only [decide_eq_true_eq] at *
  rcases Nat.lt_or_ge a b with hlt | hge
  · have := tid_rise h a b hlt hb
    omega
  · obtain rfl : a = b := by omega
    exact e
theorem mono_endlt {l : List Rn} (h : Tid 0 l) (x : Int) : ∀ a b, a ≤ b → b < l.length → decide (x < (l.getD a (0, 0)).1 + (l.getD a (0, 0)).2) = true → decide (x < (l.getD b (0, 0)).1 + (l.getD b (0, 0)).2) = true := fun a b hab hb e => by
  simp only [decide_eq_true_eq] at *
  rcases Nat.lt_or_ge a b with hlt | hge
  · have := tid_rise h a b hlt hb
    omega
  · obtain rfl : a = b := by omega
    exact e
theorem mono_from {l : List Rn} (h : Tid 0 l) (x : Int) : ∀ a b, a ≤ b → b < l.length → decide (x < (l.getD a (0, 0)).1) = true → decide (x < (l.getD b (0, 0)).1) = true := fun a b hab hb e => by
  simp only [decide_eq_true_eq] at *
  rcases Nat.lt_or_ge a b with hlt | hge
  · have := tid_rise h a b hlt hb
    omega
  · obtain rfl : a = b := by omega
    exact e

theorem mem_take {l : List Rn} {k : Nat} {r : Rn} (h : r ∈ l.take k) : ∃ i, i < k ∧ i < l.length ∧ l.getD i (0, 0) = r := by
  obtain ⟨i, hi, e⟩ := List.getElem_of_mem h
  have hl : i < l.length := by simp at hi; omega
  rw [List.getElem_take] at e
  exact ⟨i, by simp at hi; omega, hl, by rw [List.getD_eq_getElem?_getD, List.getElem?_eq_getElem hl]; exact e⟩
theorem mem_drop {l : List Rn} {k : Nat} {r : Rn} (h : r ∈ l.drop k) : ∃ i, k ≤ i ∧ i < l.length ∧ l.getD i (0, 0) = r := by
  obtain ⟨i, hi, e⟩ := List.getElem_of_mem h
  have hl : k + i < l.length := by simp at hi; omega
  rw [List.getElem_drop] at e
  exact ⟨k + i, by omega, hl, by rw [List.getD_eq_getElem?_getD, List.getElem?_eq_getElem hl]; exact e⟩
theorem mem_mid {l : List Rn} {i j : Nat} {r : Rn} (h : r ∈ (l.take j).drop i) : ∃ k, i ≤ k ∧ k < j ∧ k < l.length ∧ l.getD k (0, 0) = r := by
  obtain ⟨k, h1, h2, e⟩ := mem_drop h
  have h3 : k < j ∧ k < l.length := by simp at h2; omega
  refine ⟨k, h1, h3.1, h3.2, ?_⟩
  rw [← e, List.getD_eq_getElem?_getD, List.getD_eq_getElem?_getD, List.getElem?_take, if_pos h3.1]
theorem split3 {l : List Rn} {i j : Nat} (h : i ≤ j) : l = l.take i ++ ((l.take j).drop i ++ l.drop j) := by
  rw [← List.append_assoc]
  have h1 : l.take i ++ (l.take j).drop i = l.take j := by
    have := List.take_append_drop i (l.take j)
    rwa [List.take_take, Nat.min_eq_left h] at this
  rw [h1, List.take_append_drop]

/-- All that Add does to the runs. -/
theorem add_math {l : List Rn} (ht : Tid 0 l) {R : Rn} (hR : 0 ≤ R.1 ∧ 1 ≤ R.2 ∧ R.1 + R.2 ≤ 4294967296) {i j : Nat} (hi : i ≤ l.length) (hj : j ≤ l.length)
    (i1 : ∀ t, t < i → decide (R.1 ≤ (l.getD t (0, 0)).1 + (l.getD t (0, 0)).2) = false) (i2 : ∀ t, i ≤ t → t < l.length → decide (R.1 ≤ (l.getD t (0, 0)).1 + (l.getD t (0, 0)).2) = true)
    (j1 : ∀ t, t < j → decide (R.1 + R.2 < (l.getD t (0, 0)).1) = false) (j2 : ∀ t, j ≤ t → t < l.length → decide (R.1 + R.2 < (l.getD t (0, 0)).1) = true) :
    i ≤ j ∧ AddR l R (l.take i ++ join R ((l.take j).drop i) :: l.drop j) ∧ 0 ≤ (join R ((l.take j).drop i)).2 - many ((l.take j).drop i) ∧ (join R ((l.take j).drop i)).2 ≤ 4294967296 ∧ 0 ≤ many ((l.take j).drop i) ∧
    many (l.take i ++ join R ((l.take j).drop i) :: l.drop j) - many l = (join R ((l.take j).drop i)).2 - many ((l.take j).drop i) ∧ (∃ a, 0 ≤ a ∧ a ≤ 4294967297 ∧ Tid a ((l.take j).drop i)) := by
  simp only [decide_eq_false_iff_not, decide_eq_true_eq] at *
  have hij : i ≤ j := by
    rcases Nat.lt_or_ge j i with hlt | hge
    · have h1 := i1 j hlt
      have h2 := j2 j (Nat.le_refl _) (by omega)
      have h3 := tid_ge ht _ (getD_mem (show j < l.length by omega))
      omega
    · exact hge
  have hs := split3 (l := l) hij
  have ht2 := ht
  rw [hs] at ht2
  have hA : ∀ r ∈ l.take i, r.1 + r.2 < R.1 := fun r hr => by
    obtain ⟨k, h1, h2, rfl⟩ := mem_take hr
    have := i1 k h1
    omega
  have hM : ∀ r ∈ (l.take j).drop i, R.1 ≤ r.1 + r.2 ∧ r.1 ≤ R.1 + R.2 := fun r hr => by
    obtain ⟨k, h1, h2, h3, rfl⟩ := mem_mid hr
    have := i2 k h1 h3
    have := j1 k h2
    omega
  have hB : ∀ r ∈ l.drop j, R.1 + R.2 < r.1 := fun r hr => by
    obtain ⟨k, h1, h2, rfl⟩ := mem_drop hr
    exact j2 k h1 h2
  obtain ⟨q1, q2, q3, q4, q5⟩ := join_ok ht2 hR hA hM hB
  rw [← hs] at q1
  rw [tid_append, tid_append] at ht2
  have hfa := fin_top ht2.1 (by omega)
  have hfa0 := fin_ge ht2.1
  refine ⟨hij, q1, by omega, q5, many_nonneg ht2.2.1, ?_, fin 0 (l.take i), by omega, hfa, ht2.2.1⟩
  have hm : many l = many (l.take i) + (many ((l.take j).drop i) + many (l.drop j)) := by
    have := congrArg many hs
    rw [many_append, many_append] at this
    exact this
  rw [hm, many_append, many_cons]
  omega

set_option maxRecDepth 8000 in
set_option maxHeartbeats 4000000 in
theorem Add_any {w : World} {sb : Nat} {v : Value} {l : List Rn} (H : St w sb v l) {f g : Int} (hf : isI f) (hg : isI g) :
    Calls Try.prog 29 #[ptr sb, .int .i64 f, .int .i64 g] w (AddP w sb v l f g) := by
  have HW := Lib.hid (within_any f g hf hg)
  have hk := inR_ok f g
  have hn := inR_nonneg f g
  have HADD : Hid (∀ e w', (∃ (v' : Value) (l' : List Rn), e = .returned (.int .i64 (many l' - many l)) ∧ St w' sb v' l' ∧ AddR l (inR f g) l' ∧ 0 ≤ many l' - many l ∧ Ch w w' (fun k => k = sb ∨ v.ownBlock = some k) ∧ ∀ k, v'.ownBlock = some k → v.ownBlock = some k ∨ w.heap.size ≤ k) → AddP w sb v l f g e w') := Lib.hid (fun e w' h => h)
  generalize inR f g = R at *
  obtain ⟨R1, R2⟩ := R
  dsimp only at hk hn
  have HH := Lib.hid H
  clear H hf hg
  unfold ptr rg at *
  dsimp only at HW
  go_enter Try.func29, Try.ntmps29
  go_wp2_with fail
  refine (HW.out w).mono ?_
  rintro e w1 ⟨rfl, b1⟩
  have HS1 := Lib.hid (HH.out.below b1)
  by_cases h0 : R2 = 0
  · subst h0
    have hd : decide ((0 : Int) = 0) = true := rfl
    have HB := Lib.hid (b1.alloc b1.size (.cells #[.int .i64 R1, .int .i64 0] 61))
    clear b1
    go_wp2_with fail
    go_ret
    refine HADD.out _ _ ⟨v, l, by rw [Int.sub_self]; rfl, HH.out.below HB.out, ⟨HH.out.tid, fun n => ⟨.inl, fun h => h.elim id fun h => by dsimp only at h; omega⟩⟩, by omega, Ch.of_below _ HB.out, fun k hk => .inl hk⟩
  · have hR := hk (by omega)
    have hd : decide (R2 = 0) = false := decide_eq_false h0
    have hB2 := b1.alloc b1.size (.cells #[.int .i64 R1, .int .i64 R2] 61)
    obtain ⟨x0, x1⟩ := cell2 w1 (.int .i64 R1) (.int .i64 R2) 61
    have HS2 := Lib.hid (HS1.out.below (below_a w1 (.cells #[.int .i64 R1, .int .i64 R2] 61)))
    have hrb : w.heap.size ≤ w1.heap.size := b1.size
    clear b1 HW HS1
    go_upto_region 4 with (fail)
    generalize w1.alloc (.cells #[.int .i64 R1, .int .i64 R2] 61) = w2 at *
    generalize w1.heap.size = rb at *
    have HB2 := Lib.hid hB2
    have HX : Hid (∀ V, Below w2.heap.size w2 V → V.cell? ⟨rb, 0, none⟩ = some (.int .i64 R1) ∧ V.cell? ⟨rb, 1, none⟩ = some (.int .i64 R2)) := Lib.hid (fun V hb => ⟨keepc hb x0, keepc hb x1⟩)
    have hOk : Ok (R1, R2) := ⟨hR.1, by show 0 ≤ R2; omega, hR.2.2⟩
    have e1 : ∀ args w, (callFunc 43 args).run Try.prog w = .ok (.enter 43 args) w := enters_of Try.func43 (by kernel_rfl) rfl
    have e2 : ∀ args w, (callFunc 45 args).run Try.prog w = .ok (.enter 45 args) w := enters_of Try.func45 (by kernel_rfl) rfl
    have F1 := Lib.hid (search_any HS2.out 43 #[ptr rb] e1 (fun r => decide (R1 ≤ r.1 + r.2)) (fun W hb r hr => clA1 W rb (R1, R2) r hr (HX.out W hb).1 (HX.out W hb).2) (mono_end HS2.out.tid R1))
    have F2 : Hid (∀ V, Below w2.heap.size w2 V → _) := Lib.hid (fun V hv => search_any (HS2.out.below hv) 45 #[ptr rb] e2 (fun r => decide (R1 + R2 < r.1)) (fun W hb r hr => clA2 W rb (R1, R2) r hOk (HX.out W (hv.trans (hb.mono hv.size))).1 (HX.out W (hv.trans (hb.mono hv.size))).2) (mono_from HS2.out.tid (R1 + R2)))
    clear e1 e2 hB2 x0 x1 hk hd
    unfold ptr at F1 F2
    go_wp2_with fail
    refine (F1.out).mono ?_
    rintro e w3 ⟨i, rfl, p1, p2, p3, b3⟩
    have P1 := Lib.hid (And.intro p1 (And.intro p2 p3))
    have B3 := Lib.hid b3
    clear p1 p2 p3 F1 b3
    go_wp2_with fail
    refine (F2.out w3 B3.out).mono ?_
    rintro e w4 ⟨j, rfl, p1, p2, p3, b4⟩
    have B4 := Lib.hid (B3.out.trans (b4.mono B3.out.size))
    obtain ⟨hij, m1, m2, m3, m4, m5, ha⟩ := add_math (R := (R1, R2)) HS2.out.tid hR P1.out.1 p1 P1.out.2.1 P1.out.2.2 p2 p3
    clear p2 p3 F2 b4 B3 P1
    have HS4 := Lib.hid (HS2.out.below B4.out)
    obtain ⟨A, c, hv, hc1, hc2⟩ := HS4.out.row.slice
    have hrow := HS4.out.row
    rw [hv] at hrow
    obtain ⟨A', hsl, hrow2⟩ := hrow.sub hij p1
    obtain ⟨aa, ha1, ha2, ha3⟩ := ha
    have hll := HS4.out.len
    have hMl : ((l.take j).drop i).length ≤ 1099511627776 := by simp; omega
    have c4 := HS4.out.c0
    rw [hv] at c4
    have HM : Hid (∀ V, Below w4.heap.size w4 V → _) := Lib.hid (fun V hb => many_any (hrow2.below hb) ha1 ha2 ha3 hMl)
    have HJ : Hid (∀ V, Below w4.heap.size w4 V → _) := Lib.hid (fun V hb => joined_any (R := (R1, R2)) (hrow2.below hb) hOk (fun r hr => by have := tid_ge ha3 r hr; exact ⟨by omega, by omega, this.2.2⟩))
    have HMA := Lib.hid (And.intro m1 (And.intro m2 (And.intro m3 (And.intro m4 m5))))
    have hX4 := HX.out w4 B4.out
    clear m1 hrow hrow2 ha3 hMl HX
    have hj : j ≤ l.length := p1
    generalize many ((l.take j).drop i) = mm at *
    generalize join (R1, R2) ((l.take j).drop i) = J at *
    obtain ⟨J1, J2⟩ := J
    dsimp only at m2 m3 m5
    unfold rg at HJ
    dsimp only at HJ
    subst hv
    have HV := Lib.hid hc2
    generalize hln : l.length = n at *
    have HL := Lib.hid hln
    clear hln m5
    obtain ⟨x0, x1⟩ := hX4
    go_upto_region 7 with (fail)
    go_cut [11, 12] from 36 to 41 (fun s11 s12 wx => s11 = .int .i64 mm ∧ ∃ jb : Nat, s12 = .pointer (some ⟨jb, 0, none⟩) ∧ w4.heap.size ≤ jb ∧ wx.heap[jb]? = some (.cells #[.int .i64 J1, .int .i64 J2] 61 (0, 0)) ∧ Below w4.heap.size w4 wx)
    case first =>
      have h0 : Below w4.heap.size w4 w4.drew := (Below.refl _ _).drew
      have HK : Hid (∀ V, Below w4.heap.size w4 V → V.cell? ⟨rb, 0, none⟩ = some (.int .i64 R1) ∧ V.cell? ⟨rb, 1, none⟩ = some (.int .i64 R2)) := Lib.hid (fun V hb => ⟨keepc hb x0, keepc hb x1⟩)
      clear HADD HH HS2 HS4 HMA x0 x1
      refine wp_region_held_drew (S := fun W => Below w4.heap.size w4 W) (by kernel_rfl) h0 (fun _ => ?_)
      refine held_take (i := 0) (v := .slice A' (j - i) (c - i)) (some 36) rfl rfl (by kernel_rfl) (by kernel_rfl) (by kernel_rfl) (fun _ _ _ h => h) (Or.inl ⟨by rfl, fun W hW => by go_simp⟩) h0 ?_
      simp only [Act.put, List.setIfInBounds_toArray, List.set_cons_zero, List.set_cons_succ]
      refine held_take (i := 2) (v := .agg #[.int .i64 R1, .int .i64 R2]) (some 38) rfl rfl (by kernel_rfl) (by kernel_rfl) (by kernel_rfl) (fun _ _ _ h => h) (Or.inl ⟨by rfl, fun W hW => by obtain ⟨q0, q1⟩ := HK.out W hW; go_simp⟩) h0 ?_
      simp only [Act.put, List.setIfInBounds_toArray, List.set_cons_zero, List.set_cons_succ]
      refine held_take (i := 3) (v := .slice A' (j - i) (c - i)) (some 39) rfl rfl (by kernel_rfl) (by kernel_rfl) (by kernel_rfl) (fun _ _ _ h => h) (Or.inl ⟨by rfl, fun W hW => by go_simp⟩) h0 ?_
      simp only [Act.put, List.setIfInBounds_toArray, List.set_cons_zero, List.set_cons_succ]
      refine wpAnyH_ready (rs := [1, 5]) (by kernel_rfl) (by simp) ?_
      refine AllReadyH.cons rfl (fun K hK => ?_) (AllReadyH.cons rfl (fun K hK => ?_) AllReadyH.nil)
      · go_simp
        refine (HM.out _ h0).mono ?_
        rintro e v5 ⟨rfl, b5⟩
        have g5 := h0.trans (b5.mono h0.size)
        dsimp only
        refine hK.out _ _ g5 (fun _ => ?_)
        clear hK
        try simp only [Act.put, List.setIfInBounds_toArray, List.set_cons_zero, List.set_cons_succ]
        refine wpAnyH_ready (rs := [4, 5]) (by kernel_rfl) (by simp) ?_
        refine AllReadyH.cons rfl (fun K hK => ?_) (AllReadyH.cons rfl (fun K hK => ?_) AllReadyH.nil)
        · go_simp
          refine (HJ.out _ g5).mono ?_
          rintro e v6 ⟨rfl, b6⟩
          have g6 := g5.trans (b6.mono g5.size)
          dsimp only
          refine hK.out _ _ g6 (fun _ => ?_)
          clear hK
          try simp only [Act.put, List.setIfInBounds_toArray, List.set_cons_zero, List.set_cons_succ]
          refine wpAnyH_ready (rs := [5]) (by kernel_rfl) (by simp) ?_
          refine AllReadyH.cons rfl (fun K hK => ?_) AllReadyH.nil
          go_simp
          have g7 := g6.alloc g6.size (.cells #[.int .i64 0, .int .i64 0] 61)
          refine hK.out _ _ g7 (fun _ => ?_)
          clear hK
          try simp only [Act.put, List.setIfInBounds_toArray, List.set_cons_zero, List.set_cons_succ]
          refine held_take (i := 6) (v := .int .i64 mm) (some 11) rfl rfl (by kernel_rfl) (by kernel_rfl) (by kernel_rfl) (fun _ _ _ h => h) (Or.inl ⟨by rfl, fun W hW => by go_simp⟩) g7 ?_
          simp only [Act.put, List.setIfInBounds_toArray, List.set_cons_zero, List.set_cons_succ]
          refine wpAnyH_ready (rs := [7]) (by kernel_rfl) (by simp) ?_
          refine AllReadyH.cons rfl (fun K hK => ?_) AllReadyH.nil
          go_simp
          have gf := g6.alloc g6.size (.cells #[.int .i64 J1, .int .i64 J2] 61)
          have HFX := Lib.hid (And.intro (heap_alloc_new v6 (.cells #[.int .i64 J1, .int .i64 J2] 61)) gf)
          refine hK.out _ _ gf (fun _ => ?_)
          clear hK gf
          try simp only [Act.put, List.setIfInBounds_toArray, List.set_cons_zero, List.set_cons_succ]
          refine wpAnyH_done (by kernel_rfl) ?_ _
          go_wp2_with fail
          go_meet
          case rel => exact ⟨rfl, _, rfl, by have := g6.size; omega, HFX.out.1, HFX.out.2⟩
        · go_simp
          have g7 := g5.alloc g5.size (.cells #[.int .i64 0, .int .i64 0] 61)
          refine hK.out _ _ g7 (fun _ => ?_)
          clear hK
          try simp only [Act.put, List.setIfInBounds_toArray, List.set_cons_zero, List.set_cons_succ]
          refine wpAnyH_ready (rs := [4]) (by kernel_rfl) (by simp) ?_
          refine AllReadyH.cons rfl (fun K hK => ?_) AllReadyH.nil
          go_simp
          refine (HJ.out _ g7).mono ?_
          rintro e v6 ⟨rfl, b6⟩
          have g6 := g7.trans (b6.mono g7.size)
          have z6 := (b6.block _ (by simp)).trans (heap_alloc_new v5 (.cells #[.int .i64 0, .int .i64 0] 61))
          dsimp only
          refine hK.out _ _ g6 (fun _ => ?_)
          clear hK
          try simp only [Act.put, List.setIfInBounds_toArray, List.set_cons_zero, List.set_cons_succ]
          refine held_take (i := 6) (v := .int .i64 mm) (some 11) rfl rfl (by kernel_rfl) (by kernel_rfl) (by kernel_rfl) (fun _ _ _ h => h) (Or.inl ⟨by rfl, fun W hW => by go_simp⟩) g6 ?_
          simp only [Act.put, List.setIfInBounds_toArray, List.set_cons_zero, List.set_cons_succ]
          refine wpAnyH_ready (rs := [7]) (by kernel_rfl) (by simp) ?_
          refine AllReadyH.cons rfl (fun K hK => ?_) AllReadyH.nil
          have p0 : v6.cell? ⟨v5.heap.size, 0, none⟩ = some (.int .i64 0) := cell_of_row _ _ 0 _ _ (0, 0) z6
          have p1 : v6.cell? ⟨v5.heap.size, 1, none⟩ = some (.int .i64 0) := cell_of_row _ _ 1 _ _ (0, 0) z6
          have pf := frozen_of z6
          have st := store2 z6 (.int .i64 J1) (.int .i64 J2)
          have hf := store2_heap z6 (.int .i64 J1) (.int .i64 J2)
          have gf := ((Ch.of_below (fun k => k = v5.heap.size) g6).then_ st.2).below (fun x hx e => by have := g5.size; omega)
          have HFX := Lib.hid (And.intro hf gf)
          clear z6 st hf
          go_simp
          refine hK.out _ _ gf (fun _ => ?_)
          clear hK gf
          try simp only [Act.put, List.setIfInBounds_toArray, List.set_cons_zero, List.set_cons_succ]
          refine wpAnyH_done (by kernel_rfl) ?_ _
          go_wp2_with fail
          go_meet
          case rel => exact ⟨rfl, _, rfl, by have := g5.size; omega, HFX.out.1, HFX.out.2⟩
      · go_simp
        have g7 := h0.alloc h0.size (.cells #[.int .i64 0, .int .i64 0] 61)
        refine hK.out _ _ g7 (fun _ => ?_)
        clear hK
        try simp only [Act.put, List.setIfInBounds_toArray, List.set_cons_zero, List.set_cons_succ]
        refine wpAnyH_ready (rs := [1]) (by kernel_rfl) (by simp) ?_
        refine AllReadyH.cons rfl (fun K hK => ?_) AllReadyH.nil
        go_simp
        refine (HM.out _ g7).mono ?_
        rintro e v5 ⟨rfl, b5⟩
        have g5 := g7.trans (b5.mono g7.size)
        have z5 : v5.heap[w4.heap.size]? = some (.cells #[.int .i64 0, .int .i64 0] 61 (0, 0)) := (b5.block _ (by simp)).trans (heap_alloc_new w4.drew (.cells #[.int .i64 0, .int .i64 0] 61))
        dsimp only
        refine hK.out _ _ g5 (fun _ => ?_)
        clear hK
        try simp only [Act.put, List.setIfInBounds_toArray, List.set_cons_zero, List.set_cons_succ]
        refine wpAnyH_ready (rs := [4]) (by kernel_rfl) (by simp) ?_
        refine AllReadyH.cons rfl (fun K hK => ?_) AllReadyH.nil
        go_simp
        refine (HJ.out _ g5).mono ?_
        rintro e v6 ⟨rfl, b6⟩
        have g6 := g5.trans (b6.mono g5.size)
        have z6 := (b6.block _ (Array.getElem?_eq_some_iff.1 z5).1).trans z5
        dsimp only
        refine hK.out _ _ g6 (fun _ => ?_)
        clear hK
        try simp only [Act.put, List.setIfInBounds_toArray, List.set_cons_zero, List.set_cons_succ]
        refine held_take (i := 6) (v := .int .i64 mm) (some 11) rfl rfl (by kernel_rfl) (by kernel_rfl) (by kernel_rfl) (fun _ _ _ h => h) (Or.inl ⟨by rfl, fun W hW => by go_simp⟩) g6 ?_
        simp only [Act.put, List.setIfInBounds_toArray, List.set_cons_zero, List.set_cons_succ]
        refine wpAnyH_ready (rs := [7]) (by kernel_rfl) (by simp) ?_
        refine AllReadyH.cons rfl (fun K hK => ?_) AllReadyH.nil
        have p0 : v6.cell? ⟨w4.heap.size, 0, none⟩ = some (.int .i64 0) := cell_of_row _ _ 0 _ _ (0, 0) z6
        have p1 : v6.cell? ⟨w4.heap.size, 1, none⟩ = some (.int .i64 0) := cell_of_row _ _ 1 _ _ (0, 0) z6
        have pf := frozen_of z6
        have st := store2 z6 (.int .i64 J1) (.int .i64 J2)
        have hf := store2_heap z6 (.int .i64 J1) (.int .i64 J2)
        have gf := ((Ch.of_below (fun k => k = w4.heap.size) g6).then_ st.2).below (fun x hx e => by have := h0.size; omega)
        have HFX := Lib.hid (And.intro hf gf)
        clear z6 st hf
        go_simp
        refine hK.out _ _ gf (fun _ => ?_)
        clear hK gf
        try simp only [Act.put, List.setIfInBounds_toArray, List.set_cons_zero, List.set_cons_succ]
        refine wpAnyH_done (by kernel_rfl) ?_ _
        go_wp2_with fail
        go_meet
        case rel => exact ⟨rfl, _, rfl, by have := h0.size; omega, HFX.out.1, HFX.out.2⟩
    case rest =>
      obtain ⟨rfl, jb, rfl, hjb, hj1, hb5⟩ := hcut
      have s5 : wc.drew.cell? ⟨sb, 0, none⟩ = some (.slice A n c) ∧ wc.drew.cell? ⟨jb, 0, none⟩ = some (.int .i64 J1) ∧ wc.drew.cell? ⟨jb, 1, none⟩ = some (.int .i64 J2) :=
        ⟨keepc hb5 c4, cell_of_row wc jb 0 _ _ (0, 0) hj1, cell_of_row wc jb 1 _ _ (0, 0) hj1⟩
      have h8 : Below wc.heap.size wc (wc.drew.alloc (.cells #[.int .i64 J1, .int .i64 J2] 61)) := (Below.refl _ _).drew.alloc (Nat.le_refl _) _
      have s8 : (wc.drew.alloc (.cells #[.int .i64 J1, .int .i64 J2] 61)).cell? ⟨sb, 0, none⟩ = some (.slice A n c) ∧ (wc.drew.alloc (.cells #[.int .i64 J1, .int .i64 J2] 61)).cell? ⟨jb, 0, none⟩ = some (.int .i64 J1) ∧ (wc.drew.alloc (.cells #[.int .i64 J1, .int .i64 J2] 61)).cell? ⟨jb, 1, none⟩ = some (.int .i64 J2) :=
        ⟨keepc h8 s5.1, keepc h8 s5.2.1, keepc h8 s5.2.2⟩
      have hlt4 : ∀ k, (Value.slice A n c).ownBlock = some k → k < w4.heap.size := fun k hk => HS4.out.row.lt hk
      have h45 := hb5.size
      have H8 : St (wc.drew.alloc (.cells #[.int .i64 J1, .int .i64 J2] 61)) sb (.slice A n c) l := (HS4.out.below hb5).below h8
      have hn : l.length = n := HL.out
      have HREP : Hid (Calls Try.prog 48 #[.slice A n c, .int .i64 (i : Int), .int .i64 (j : Int), .slice (some ⟨wc.heap.size, 0, none⟩) 1 1] (wc.drew.alloc (.cells #[.int .i64 J1, .int .i64 J2] 61)) (RepR (wc.drew.alloc (.cells #[.int .i64 J1, .int .i64 J2] 61)) (.slice A n c) (l.take i ++ (J1, J2) :: l.drop j))) :=
        Lib.hid (replace_any H8.row hij (by omega) (fun e => by have := hlt4 _ e; omega) (heap_alloc_new wc.drew _) (by omega))
      have HS9 : Hid (∀ W, Ch (wc.drew.alloc (.cells #[.int .i64 J1, .int .i64 J2] 61)) W (fun k => (Value.slice A n c).ownBlock = some k) → W.cell? ⟨sb, 0, none⟩ = some (.slice A n c) ∧ W.cell? ⟨jb, 0, none⟩ = some (.int .i64 J1) ∧ W.cell? ⟨jb, 1, none⟩ = some (.int .i64 J2)) :=
        Lib.hid (fun W hW => ⟨hW.cell s8.1 HS4.out.far, hW.cell s8.2.1 (fun e => by have := hlt4 jb e; omega), hW.cell s8.2.2 (fun e => by have := hlt4 jb e; omega)⟩)
      have HF9 : Hid (∀ W, Ch (wc.drew.alloc (.cells #[.int .i64 J1, .int .i64 J2] 61)) W (fun k => (Value.slice A n c).ownBlock = some k) → W.heap[sb]? = some (.cells #[.slice A n c] 58 (0, 0))) :=
        Lib.hid (fun W hW => (hW.block sb H8.lt HS4.out.far).trans H8.blk)
      have hw1 : IntKind.i64.wrap (J2 - mm) = J2 - mm := by rw [IntKind.wrap_i64]; omega
      have HBW := Lib.hid ((HB2.out.trans (B4.out.mono HB2.out.size)).trans (hb5.mono (Nat.le_trans HB2.out.size B4.out.size)))
      have HLT := Lib.hid hlt4
      have H88 := Lib.hid H8
      have H8B := Lib.hid h8
      have hsj : jb ≠ sb := fun e => by have := HS4.out.lt; omega
      clear hn HM HJ hlt4 H8 h8 hsl c4 x0 x1 hj1 hb5 hOk
      go_upto_region 8 with (fail)
      refine wp_region_noPanic ?_
      refine until_start (fun W => W.cell? ⟨sb, 0, none⟩ = some (.slice A n c) ∧ W.cell? ⟨jb, 0, none⟩ = some (.int .i64 J1) ∧ W.cell? ⟨jb, 1, none⟩ = some (.int .i64 J2)) 12 (by kernel_rfl) s5 (fun _ => ?_)
      refine until_take (i := 0) (v := .pointer (some ⟨sb, 0, none⟩)) (some 41) [10, 11, 12] rfl rfl (by kernel_rfl) (by kernel_rfl) (by kernel_rfl) (by kernel_rfl) rfl rfl (fun _ _ _ h => h) (Or.inl ⟨by rfl, fun W hW => by go_simp⟩) s5 ?_
      simp only [Act.put, List.setIfInBounds_toArray, List.set_cons_zero, List.set_cons_succ]
      refine until_take (i := 1) (v := .pointer (some ⟨sb, 0, none⟩)) (some 42) [2, 3, 4, 9, 12] rfl rfl (by kernel_rfl) (by kernel_rfl) (by kernel_rfl) (by kernel_rfl) rfl rfl (fun _ _ _ h => h) (Or.inl ⟨by rfl, fun W hW => by go_simp⟩) s5 ?_
      simp only [Act.put, List.setIfInBounds_toArray, List.set_cons_zero, List.set_cons_succ]
      refine until_take (i := 2) (v := .pointer (some ⟨sb, 0, none⟩)) (some 43) [3, 4, 9, 12] rfl rfl (by kernel_rfl) (by kernel_rfl) (by kernel_rfl) (by kernel_rfl) rfl rfl (fun _ _ _ h => h) (Or.inl ⟨by rfl, fun W hW => by go_simp⟩) s5 ?_
      simp only [Act.put, List.setIfInBounds_toArray, List.set_cons_zero, List.set_cons_succ]
      refine until_take (i := 3) (v := .pointer (some ⟨sb, 0, none⟩)) (some 44) [4, 9, 12] rfl rfl (by kernel_rfl) (by kernel_rfl) (by kernel_rfl) (by kernel_rfl) rfl rfl (fun _ _ _ h => h) (Or.inl ⟨by rfl, fun W hW => by go_simp⟩) s5 ?_
      simp only [Act.put, List.setIfInBounds_toArray, List.set_cons_zero, List.set_cons_succ]
      refine until_take (i := 4) (v := .slice A n c) (some 45) [9, 12] rfl rfl (by kernel_rfl) (by kernel_rfl) (by kernel_rfl) (by kernel_rfl) rfl rfl (fun _ _ _ h => h) (Or.inl ⟨by rfl, fun W hW => by have hc := hW.1; go_simp⟩) s5 ?_
      simp only [Act.put, List.setIfInBounds_toArray, List.set_cons_zero, List.set_cons_succ]
      refine until_take (i := 5) (v := .int .i64 (i : Int)) (some 46) [9, 12] rfl rfl (by kernel_rfl) (by kernel_rfl) (by kernel_rfl) (by kernel_rfl) rfl rfl (fun _ _ _ h => h) (Or.inl ⟨by rfl, fun W hW => by go_simp⟩) s5 ?_
      simp only [Act.put, List.setIfInBounds_toArray, List.set_cons_zero, List.set_cons_succ]
      refine until_take (i := 6) (v := .int .i64 (j : Int)) (some 47) [9, 12] rfl rfl (by kernel_rfl) (by kernel_rfl) (by kernel_rfl) (by kernel_rfl) rfl rfl (fun _ _ _ h => h) (Or.inl ⟨by rfl, fun W hW => by go_simp⟩) s5 ?_
      simp only [Act.put, List.setIfInBounds_toArray, List.set_cons_zero, List.set_cons_succ]
      refine until_take (i := 7) (v := .agg #[.int .i64 J1, .int .i64 J2]) (some 48) [8, 9, 12] rfl rfl (by kernel_rfl) (by kernel_rfl) (by kernel_rfl) (by kernel_rfl) rfl rfl (fun _ _ _ h => h) (Or.inl ⟨by rfl, fun W hW => by obtain ⟨_, q0, q1⟩ := hW; go_simp⟩) s5 ?_
      simp only [Act.put, List.setIfInBounds_toArray, List.set_cons_zero, List.set_cons_succ]
      refine until_step (i := 8) (by kernel_rfl) rfl rfl (fun K hK => ?_)
      go_simp
      try dsimp only
      refine hK.out _ _ s8 (fun _ => ?_)
      clear hK
      try simp only [Act.put, List.setIfInBounds_toArray, List.set_cons_zero, List.set_cons_succ]
      refine until_step (i := 9) (by kernel_rfl) rfl rfl (fun K hK => ?_)
      go_simp
      refine (HREP.out).mono ?_
      rintro e w7 ⟨v', rfl, r1, r2, r3⟩
      obtain ⟨A7, cc7, hv7, _, _⟩ := r1.slice
      generalize hn7 : (l.take i ++ (J1, J2) :: l.drop j).length = n7 at hv7
      clear hn7
      subst hv7
      have s9 := HS9.out _ r2
      have hf7 := HF9.out _ r2
      have HRR := Lib.hid (And.intro r1 (And.intro r2 r3))
      clear r1 r2 r3
      try dsimp only
      refine hK.out _ _ s9 (fun _ => ?_)
      clear hK
      try simp only [Act.put, List.setIfInBounds_toArray, List.set_cons_zero, List.set_cons_succ]
      refine until_take (i := 10) (v := .pointer (some ⟨sb, 0, none⟩)) (some 51) [11, 12] rfl rfl (by kernel_rfl) (by kernel_rfl) (by kernel_rfl) (by kernel_rfl) rfl rfl (fun _ _ _ h => h) (Or.inl ⟨by rfl, fun W hW => by go_simp⟩) s9 ?_
      simp only [Act.put, List.setIfInBounds_toArray, List.set_cons_zero, List.set_cons_succ]
      refine until_take (i := 11) (v := .pointer (some ⟨sb, 0, none⟩)) (some 52) [12] rfl rfl (by kernel_rfl) (by kernel_rfl) (by kernel_rfl) (by kernel_rfl) rfl rfl (fun _ _ _ h => h) (Or.inl ⟨by rfl, fun W hW => by go_simp⟩) s9 ?_
      simp only [Act.put, List.setIfInBounds_toArray, List.set_cons_zero, List.set_cons_succ]
      refine until_last (by kernel_rfl) rfl (fun K hK => ?_)
      go_simp
      have fz := frozen_of hf7
      have c7 := s9.1
      go_simp
      try dsimp only
      refine hK.out _ _ ?_
      clear hK
      try simp only [Act.put, List.setIfInBounds_toArray, List.set_cons_zero, List.set_cons_succ]
      refine wpAnyH_done (by kernel_rfl) ?_ _
      refine NoPanic.normal ?_
      have q1 : (w7.setCell ⟨sb, 0, none⟩ (Value.slice A7 n7 cc7)).cell? ⟨jb, 1, none⟩ = some (.int .i64 J2) := (World.cell?_setCell_other _ _ _ _ (fun e => hsj (congrArg Addr.block e).symm)).trans s9.2.2
      clear s5 s8 s9 fz c7
      go_wp2_with fail
      go_ret
      obtain ⟨r1, r2, r3⟩ := HRR.out
      have hlt := H88.out.lt
      have hfar : (Value.slice A7 n7 cc7).ownBlock ≠ some sb := fun e => by
        rcases r3 sb e with h | h
        · exact HH.out.far h
        · omega
      have C7 : Ch w w7 (fun k => k = sb ∨ (Value.slice A n c).ownBlock = some k) :=
        (Ch.of_below (fun k => k = sb ∨ (Value.slice A n c).ownBlock = some k) (HBW.out.trans (H8B.out.mono HBW.out.size))).then_ (r2.mono fun k _ h => .inr h)
      have hsz8 := HBW.out.size
      refine HADD.out _ _ ⟨(Value.slice A7 n7 cc7), _, by rw [HMA.out.2.2.2.2]; rfl, ⟨?_, r1.ch ((Ch.refl w7 (fun k => k = sb)).setCell (p := ⟨sb, 0, none⟩) (fun _ => rfl) (Value.slice A7 n7 cc7)) (fun g hg e => hfar (by rw [hg, e])), hfar, HMA.out.1.tid⟩, HMA.out.1, by rw [HMA.out.2.2.2.2]; exact HMA.out.2.1, C7.setCell (p := ⟨sb, 0, none⟩) (fun _ => .inl rfl) (Value.slice A7 n7 cc7), fun k hk => ?_⟩
      · simp [World.setCell, Array.getElem?_modify, hf7]
      · rcases r3 k hk with h | h
        · exact .inl h
        · rw [World.size_alloc] at h
          have : wc.drew.heap.size = wc.heap.size := rfl
          exact .inr (by omega)
end Go.Proofs.Ytancbdnpmabpfaa
