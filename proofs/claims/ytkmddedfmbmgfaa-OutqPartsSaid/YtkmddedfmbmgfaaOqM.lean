/- The contract of the document's Ack, where it takes. Conditions: the queue stands, its numbers go on from its beginning to its end, at most 2^31 in all; at most 2^30 pieces, with data of at most 2^40 bytes each. -/
import Derived.Test.YtkmddedfmbmgfaaOqL
namespace Go.Proofs.Ytkmddedfmbmgfaa
set_option linter.unusedVariables false
set_option linter.unusedSimpArgs false
open Go.RowKit

section
variable {base : Nat} {w : World} {qb : Nat} {v : Value} {l : List Pc} {en : Nat}
set_option maxRecDepth 20000 in
set_option maxHeartbeats 6400000 in
theorem AckR_yes (h : Qu 30 base w qb v l en) (b a : Nat) (hb : b < 4294967296) (ha : a < 4294967296) (hc : Chn b (l.map Pc.key) en) (ht : tot (l.map Pc.key) ≤ 2147483648) (hl : l.length ≤ 1073741824) (hd : ∀ p ∈ l, p.dn ≤ 1099511627776) (hyes : st b a ≤ tot (l.map Pc.key)) :
    Calls Try.prog 15 #[ptr qb, .int .u32 (a : Int)] w (AckR 30 base w qb v l en (cnt (l.map Pc.key) (st b a))) := by
  obtain ⟨q1, q2, q3⟩ := rows_ahead h b a hb ha hc ht
  have HB := Lib.hid q1
  have HS1 := Lib.hid q2
  have HS2 := Lib.hid q3
  have H := Lib.hid h
  have HD := Lib.hid hd
  have HCH := Lib.hid hc
  have HT := Lib.hid ht
  have hbb := hb
  have HB0 := Lib.hid hbb
  have hkl := cnt_le (l.map Pc.key) (st b a)
  rw [List.length_map] at hkl
  have HCN := Lib.hid (lt_cnt (l.map Pc.key) (st b a))
  generalize cnt (l.map Pc.key) (st b a) = k at *
  have hlt := h.lt
  have HR := Lib.hid h.row
  obtain ⟨A, c, rfl, hcp, hmx⟩ := h.row.slice
  have hst := st_lt b a
  generalize st b a = d at *
  generalize hn0 : tot (l.map Pc.key) = n0 at *
  have HN0 := Lib.hid hn0
  generalize hn : l.length = n at *
  have HN := Lib.hid hn
  have hdl : decide ((n0 : Int) < (d : Int)) = false := decide_eq_false (by omega)
  clear h q1 q2 q3 hc hd hn hn0 ht hb hbb
  unfold ptr at *
  go_enter Try.func15, Try.ntmps15
  go_wp2_with (first
    | ((with_reducible refine wpList_here ?_); refine wpList_allocV (o := ⟨some 4, _, _, _, _, _⟩) rfl 43 rfl (akv (.slice none 0 0) false) zeroAk _ rfl ?_; intro w2 z2 b2 s2))
  have b3 := b2.drew
  have z3 : Own w2.drew w.heap.size (akv (.slice none 0 0) false) := z2
  have s3' : w2.drew.heap.size = w.heap.size + 1 := s2
  clear b2 z2 s2
  generalize hwd : w2.drew = wd at *
  have HB3 := Lib.hid b3
  have c3 := (H.out.below b3).c1
  have s3 := b3.size
  have HSZ3 := Lib.hid s3'
  clear b3 s3'
  refine wp_region_noPanic ?_
  refine wp_region_held_drew (S := fun W => W.cell? ⟨qb, 1, none⟩ = some (.int .u32 (en : Int))) (by kernel_rfl) (by rw [hwd]; exact c3) (fun _ => ?_)
  rw [hwd]
  clear hwd
  refine held_take (i := 0) (v := .pointer (some ⟨qb, 0, none⟩)) (some 10) rfl rfl (by kernel_rfl) (by kernel_rfl) (by kernel_rfl) (fun _ _ _ h => h) (Or.inl ⟨by rfl, fun W hW => by go_simp⟩) c3 ?_
  simp only [Act.put, List.setIfInBounds_toArray, List.set_cons_zero, List.set_cons_succ]
  refine held_take (i := 2) (v := .int .u32 (a : Int)) (some 12) rfl rfl (by kernel_rfl) (by kernel_rfl) (by kernel_rfl) (fun _ _ _ h => h) (Or.inl ⟨by rfl, fun W hW => by go_simp⟩) c3 ?_
  simp only [Act.put, List.setIfInBounds_toArray, List.set_cons_zero, List.set_cons_succ]
  refine held_take (i := 4) (v := .pointer (some ⟨qb, 0, none⟩)) (some 14) rfl rfl (by kernel_rfl) (by kernel_rfl) (by kernel_rfl) (fun _ _ _ h => h) (Or.inl ⟨by rfl, fun W hW => by go_simp⟩) c3 ?_
  simp only [Act.put, List.setIfInBounds_toArray, List.set_cons_zero, List.set_cons_succ]
  refine held_take (i := 6) (v := .pointer (some ⟨qb, 0, none⟩)) (some 16) rfl rfl (by kernel_rfl) (by kernel_rfl) (by kernel_rfl) (fun _ _ _ h => h) (Or.inl ⟨by rfl, fun W hW => by go_simp⟩) c3 ?_
  simp only [Act.put, List.setIfInBounds_toArray, List.set_cons_zero, List.set_cons_succ]
  refine held_take (i := 7) (v := .pointer (some ⟨qb, 0, none⟩)) (some 17) rfl rfl (by kernel_rfl) (by kernel_rfl) (by kernel_rfl) (fun _ _ _ h => h) (Or.inl ⟨by rfl, fun W hW => by go_simp⟩) c3 ?_
  simp only [Act.put, List.setIfInBounds_toArray, List.set_cons_zero, List.set_cons_succ]
  refine held_take (i := 8) (v := .pointer (some ⟨qb, 1, none⟩)) (some 18) rfl rfl (by kernel_rfl) (by kernel_rfl) (by kernel_rfl) (fun _ _ _ h => h) (Or.inl ⟨by rfl, fun W hW => by go_simp⟩) c3 ?_
  simp only [Act.put, List.setIfInBounds_toArray, List.set_cons_zero, List.set_cons_succ]
  refine held_take (i := 9) (v := .int .u32 (en : Int)) (some 19) rfl rfl (by kernel_rfl) (by kernel_rfl) (by kernel_rfl) (fun _ _ _ h => h) (Or.inl ⟨by rfl, fun W hW => by have hc := hW; go_simp⟩) c3 ?_
  simp only [Act.put, List.setIfInBounds_toArray, List.set_cons_zero, List.set_cons_succ]
  refine wpAnyH_ready (rs := [1]) (by kernel_rfl) (by simp) ?_
  refine AllReadyH.cons rfl (fun K hK => ?_) AllReadyH.nil
  go_simp
  refine (HB.out _ HB3.out).mono ?_
  rintro e w4 ⟨rfl, rfl⟩
  dsimp only
  refine hK.out _ _ c3 (fun _ => ?_)
  clear hK
  try simp only [Act.put, List.setIfInBounds_toArray, List.set_cons_zero, List.set_cons_succ]
  refine wpAnyH_ready (rs := [3]) (by kernel_rfl) (by simp) ?_
  refine AllReadyH.cons rfl (fun K hK => ?_) AllReadyH.nil
  go_simp
  refine (HS1.out _).mono ?_
  rintro e w5 ⟨rfl, b5⟩
  have HB5 := Lib.hid (HB3.out.trans (b5.mono HB3.out.size))
  have c5 := (H.out.below HB5.out).c1
  have z5 := z3.below b5
  clear b5 z3 c3
  dsimp only
  refine hK.out _ _ c5 (fun _ => ?_)
  clear hK
  try simp only [Act.put, List.setIfInBounds_toArray, List.set_cons_zero, List.set_cons_succ]
  refine wpAnyH_ready (rs := [5]) (by kernel_rfl) (by simp) ?_
  refine AllReadyH.cons rfl (fun K hK => ?_) AllReadyH.nil
  go_simp
  refine (HB.out _ HB5.out).mono ?_
  rintro e w6 ⟨rfl, rfl⟩
  dsimp only
  refine hK.out _ _ c5 (fun _ => ?_)
  clear hK
  try simp only [Act.put, List.setIfInBounds_toArray, List.set_cons_zero, List.set_cons_succ]
  refine wpAnyH_ready (rs := [10]) (by kernel_rfl) (by simp) ?_
  refine AllReadyH.cons rfl (fun K hK => ?_) AllReadyH.nil
  go_simp
  refine (HS2.out _).mono ?_
  rintro e w7 ⟨rfl, b7⟩
  have HB7 := Lib.hid (HB5.out.trans (b7.mono HB5.out.size))
  have c7 := (H.out.below HB7.out).c1
  have z7 := z5.below b7
  clear b7 z5 c5
  dsimp only
  refine hK.out _ _ c7 (fun _ => ?_)
  clear hK
  try simp only [Act.put, List.setIfInBounds_toArray, List.set_cons_zero, List.set_cons_succ]
  refine held_take (i := 11) (v := .bool false) (some 21) rfl rfl (by kernel_rfl) (by kernel_rfl) (by kernel_rfl) (fun _ _ _ h => h) (Or.inl ⟨by rfl, fun W hW => by go_simp⟩) c7 ?_
  simp only [Act.put, List.setIfInBounds_toArray, List.set_cons_zero, List.set_cons_succ]
  refine wpAnyH_done (by kernel_rfl) ?_ _
  refine NoPanic.normal ?_
  go_wp2_with (first
    | ((with_reducible refine wpList_here ?_); refine wpList_allocV (o := ⟨some 5, _, _, _, _, _⟩) rfl 43 rfl (akv (.slice none 0 0) false) zeroAk _ rfl ?_; intro w8 z8 b8 s8)
    | ((with_reducible refine wpList_here ?_); refine wpList_storeV rfl 43 (.tmp 5) (.tmp 23) rfl _ _ (akv (.slice none 0 0) true) rfl rfl z8 rfl (akv_one rfl) infoAk ?_; intro w9 z9 g9 s9))
  have b9 := v_below_g (below_trans (below_trans (Below.refl w7.heap.size w7) (Below.refl w7.heap.size w7)) b8) g9 b8.size (Nat.le_refl _)
  have hs7 : w.heap.size + 1 ≤ w7.heap.size := by have := z7.lt (by rw [akv_length]; omega); omega
  have HW9 : Hid (Wk w w9 w7.heap.size l k 0 (.slice none 0 0) (.slice none 0 0)) := Lib.hid ⟨HB7.out.trans (b9.mono HB7.out.size), z7.below b9, by omega, z9, .inl ⟨rfl, by simp⟩, .inl ⟨rfl, by simp⟩, fun g hg => by cases hg⟩
  clear z8 b8 g9 b9 z7 z9 c7 s8 s9
  generalize w7.heap.size = ab at *
  refine (HB.out w9 HW9.out.bel).mono ?_
  rintro e w10 ⟨rfl, rfl⟩
  go_wp2_with fail
  go_loopw [7, 8] (fun x i wr => ∃ (j : Nat) (va : Value), j ≤ n ∧ i = .int .i64 j ∧ Wk w wr ab l k j va x) (fun _ i _ => n - (intOf i).toNat)
  case atStart => exact ⟨0, _, Nat.zero_le _, rfl, HW9.out⟩
  case round =>
    obtain ⟨j, va, hj, rfl, hW⟩ := hrel
    obtain ⟨vr, rfl⟩ : ∃ x, x = u7 := ⟨_, rfl⟩
    have HW := Lib.hid hW
    have HQ := Lib.hid (H.out.below hW.bel)
    have c0 := HQ.out.c0
    clear hW
    by_cases hlt2 : j < n
    · have hjl : j < l.length := by rw [HN.out]; exact hlt2
      have hps := (HQ.out.below (Below.refl _ _).drew).row.ps (fun p hp => ((HQ.out.ok p hp).below (Below.refl _ _).drew).pg)
      obtain ⟨g, o, rfl, hr⟩ := hps.at_ hlt2
      have HPG := Lib.hid (hps.ok hlt2)
      have HDN := Lib.hid (HD.out _ (getD_memP hjl))
      have hkj : (l.map Pc.key)[j]? = some (l.getD j zP).key := by simp [List.getD_eq_getElem?_getD, hjl]
      obtain ⟨e1, e2⟩ := wk_nums HB0.out HCH.out (by rw [HN0.out]; exact HT.out) hkj
      have hcnt := HCN.out j (by simpa using hjl)
      have HJL := Lib.hid hjl
      obtain ⟨p, hp⟩ : ∃ p, l.getD j zP = p := ⟨_, rfl⟩
      rw [hp] at hr HPG HDN e1
      have HP := Lib.hid hp
      generalize tot ((l.map Pc.key).take (j + 1)) = t at *
      have HLG := Lib.hid (fun W (hW : PG W p) => rLong_any p W hW HDN.out)
      have hlb : p.key.len ≤ 1099511627778 := by
        rw [len_pc HPG.out]
        have := HDN.out
        unfold bn
        split <;> split <;> omega
      have HON := Lib.hid (fun W => rOn_any p.seq (p.key.len : Int) W HPG.out.seq (by omega))
      have e1 : on p.seq (p.key.len : Int) = on b (t : Int) := e1
      rw [e1] at HON
      have hlte := on_lt b (t : Int)
      generalize on b (t : Int) = en1 at *
      have HS3 := Lib.hid (fun W => rSteps_any b en1 W HB0.out hlte)
      rw [e2] at HS3
      clear e1 e2 hps hjl hkj hp hlb hlte
      generalize p.key.len = m at *
      go_wp2_with fail
      have HW1 := Lib.hid (HW.out.below (Below.refl _ _).drew)
      have HQ1 := Lib.hid (HQ.out.below (Below.refl _ _).drew)
      have c1 := HQ1.out.c0
      clear HW HQ c0
      generalize hwd : wr.drew = wd at *
      refine wp_region_noPanic ?_
      refine wp_region_held_drew (S := fun W => W.cell? ⟨qb, 0, none⟩ = some (.slice (some ⟨g, o, none⟩) n c) ∧ W.rangeAt g (o + j * 6) p.vals) (by kernel_rfl) (by rw [hwd]; exact ⟨c1, hr⟩) (fun _ => ?_)
      rw [hwd]
      clear hwd
      refine held_take (i := 0) (v := .pointer (some ⟨qb, 0, none⟩)) (some 35) rfl rfl (by kernel_rfl) (by kernel_rfl) (by kernel_rfl) (fun _ _ _ h => h) (Or.inl ⟨by rfl, fun W hW => by go_simp⟩) ⟨c1, hr⟩ ?_
      simp only [Act.put, List.setIfInBounds_toArray, List.set_cons_zero, List.set_cons_succ]
      refine held_take (i := 4) (v := .int .i64 (j : Int)) (some 39) rfl rfl (by kernel_rfl) (by kernel_rfl) (by kernel_rfl) (fun _ _ _ h => h) (Or.inl ⟨by rfl, fun W hW => by go_simp⟩) ⟨c1, hr⟩ ?_
      simp only [Act.put, List.setIfInBounds_toArray, List.set_cons_zero, List.set_cons_succ]
      refine held_take (i := 8) (v := .pointer (some ⟨qb, 0, none⟩)) (some 43) rfl rfl (by kernel_rfl) (by kernel_rfl) (by kernel_rfl) (fun _ _ _ h => h) (Or.inl ⟨by rfl, fun W hW => by go_simp⟩) ⟨c1, hr⟩ ?_
      simp only [Act.put, List.setIfInBounds_toArray, List.set_cons_zero, List.set_cons_succ]
      refine held_take (i := 12) (v := .int .i64 (j : Int)) (some 47) rfl rfl (by kernel_rfl) (by kernel_rfl) (by kernel_rfl) (fun _ _ _ h => h) (Or.inl ⟨by rfl, fun W hW => by go_simp⟩) ⟨c1, hr⟩ ?_
      simp only [Act.put, List.setIfInBounds_toArray, List.set_cons_zero, List.set_cons_succ]
      refine held_take (i := 1) (v := .pointer (some ⟨qb, 0, none⟩)) (some 36) rfl rfl (by kernel_rfl) (by kernel_rfl) (by kernel_rfl) (fun _ _ _ h => h) (Or.inl ⟨by rfl, fun W hW => by go_simp⟩) ⟨c1, hr⟩ ?_
      simp only [Act.put, List.setIfInBounds_toArray, List.set_cons_zero, List.set_cons_succ]
      refine held_take (i := 9) (v := .pointer (some ⟨qb, 0, none⟩)) (some 44) rfl rfl (by kernel_rfl) (by kernel_rfl) (by kernel_rfl) (fun _ _ _ h => h) (Or.inl ⟨by rfl, fun W hW => by go_simp⟩) ⟨c1, hr⟩ ?_
      simp only [Act.put, List.setIfInBounds_toArray, List.set_cons_zero, List.set_cons_succ]
      refine held_take (i := 2) (v := .pointer (some ⟨qb, 0, none⟩)) (some 37) rfl rfl (by kernel_rfl) (by kernel_rfl) (by kernel_rfl) (fun _ _ _ h => h) (Or.inl ⟨by rfl, fun W hW => by go_simp⟩) ⟨c1, hr⟩ ?_
      simp only [Act.put, List.setIfInBounds_toArray, List.set_cons_zero, List.set_cons_succ]
      refine held_take (i := 10) (v := .pointer (some ⟨qb, 0, none⟩)) (some 45) rfl rfl (by kernel_rfl) (by kernel_rfl) (by kernel_rfl) (fun _ _ _ h => h) (Or.inl ⟨by rfl, fun W hW => by go_simp⟩) ⟨c1, hr⟩ ?_
      simp only [Act.put, List.setIfInBounds_toArray, List.set_cons_zero, List.set_cons_succ]
      refine held_take (i := 3) (v := .slice (some ⟨g, o, none⟩) n c) (some 38) rfl rfl (by kernel_rfl) (by kernel_rfl) (by kernel_rfl) (fun _ _ _ h => h) (Or.inl ⟨by rfl, fun W hW => by have hc := hW.1; go_simp⟩) ⟨c1, hr⟩ ?_
      simp only [Act.put, List.setIfInBounds_toArray, List.set_cons_zero, List.set_cons_succ]
      refine held_take (i := 11) (v := .slice (some ⟨g, o, none⟩) n c) (some 46) rfl rfl (by kernel_rfl) (by kernel_rfl) (by kernel_rfl) (fun _ _ _ h => h) (Or.inl ⟨by rfl, fun W hW => by have hc := hW.1; go_simp⟩) ⟨c1, hr⟩ ?_
      simp only [Act.put, List.setIfInBounds_toArray, List.set_cons_zero, List.set_cons_succ]
      refine held_take (i := 5) (v := .pointer (some ⟨g, o + j * 6, none⟩)) (some 40) rfl rfl (by kernel_rfl) (by kernel_rfl) (by kernel_rfl) (fun _ _ _ h => h) (Or.inl ⟨by rfl, fun W hW => by go_simp⟩) ⟨c1, hr⟩ ?_
      simp only [Act.put, List.setIfInBounds_toArray, List.set_cons_zero, List.set_cons_succ]
      refine held_take (i := 13) (v := .pointer (some ⟨g, o + j * 6, none⟩)) (some 48) rfl rfl (by kernel_rfl) (by kernel_rfl) (by kernel_rfl) (fun _ _ _ h => h) (Or.inl ⟨by rfl, fun W hW => by go_simp⟩) ⟨c1, hr⟩ ?_
      simp only [Act.put, List.setIfInBounds_toArray, List.set_cons_zero, List.set_cons_succ]
      refine held_take (i := 6) (v := .pointer (some ⟨g, o + j * 6, none⟩)) (some 41) rfl rfl (by kernel_rfl) (by kernel_rfl) (by kernel_rfl) (fun _ _ _ h => h) (Or.inl ⟨by rfl, fun W hW => by go_simp⟩) ⟨c1, hr⟩ ?_
      simp only [Act.put, List.setIfInBounds_toArray, List.set_cons_zero, List.set_cons_succ]
      refine held_take (i := 14) (v := .agg p.vals.toArray) (some 49) rfl rfl (by kernel_rfl) (by kernel_rfl) (by kernel_rfl) (fun _ _ _ h => h) (yieldsIf_load_mid (by rfl) 33 (.tmp 48) rfl g (o + j * 6) rfl _ _ (fun W hW => hW.2) Try.underlying33 rfl infoPc) ⟨c1, hr⟩ ?_
      simp only [Act.put, List.setIfInBounds_toArray, List.set_cons_zero, List.set_cons_succ]
      refine held_take (i := 7) (v := .int .u32 (p.seq : Int)) (some 42) rfl rfl (by kernel_rfl) (by kernel_rfl) (by kernel_rfl) (fun _ _ _ h => h) (Or.inl ⟨by rfl, fun W hW => by have hc := hW.2 0 (.int .u32 (p.seq : Int)) rfl; rw [Nat.add_zero] at hc; go_simp⟩) ⟨c1, hr⟩ ?_
      simp only [Act.put, List.setIfInBounds_toArray, List.set_cons_zero, List.set_cons_succ]
      refine wpAnyH_ready (rs := [15]) (by kernel_rfl) (by simp) ?_
      refine AllReadyH.cons rfl (fun K hK => ?_) AllReadyH.nil
      go_simp
      refine (HLG.out _ HPG.out).mono ?_
      rintro e w11 ⟨rfl, b11⟩
      have HW2 := Lib.hid (HW1.out.below b11)
      have HQ2 := Lib.hid (HQ1.out.below b11)
      have e11 : w11.cell? ⟨qb, 0, none⟩ = some (.slice (some ⟨g, o, none⟩) n c) ∧ w11.rangeAt g (o + j * 6) p.vals := ⟨HQ2.out.c0, range_below hr b11⟩
      clear b11 HW1 HQ1 HLG HPG c1 hr
      dsimp only
      refine hK.out _ _ e11 (fun _ => ?_)
      clear hK
      try simp only [Act.put, List.setIfInBounds_toArray, List.set_cons_zero, List.set_cons_succ]
      refine wpAnyH_ready (rs := [16]) (by kernel_rfl) (by simp) ?_
      refine AllReadyH.cons rfl (fun K hK => ?_) AllReadyH.nil
      go_simp
      refine (HON.out _).mono ?_
      rintro e w12 ⟨rfl, b12⟩
      have HW3 := Lib.hid (HW2.out.below b12)
      have HQ3 := Lib.hid (HQ2.out.below b12)
      have e12 : w12.cell? ⟨qb, 0, none⟩ = some (.slice (some ⟨g, o, none⟩) n c) ∧ w12.rangeAt g (o + j * 6) p.vals := ⟨HQ3.out.c0, range_below e11.2 b12⟩
      clear b12 HW2 HQ2 HON e11
      dsimp only
      refine hK.out _ _ e12 (fun _ => ?_)
      clear hK
      try simp only [Act.put, List.setIfInBounds_toArray, List.set_cons_zero, List.set_cons_succ]
      refine held_take (i := 17) (v := .int .u32 (en1 : Int)) (some 9) rfl rfl (by kernel_rfl) (by kernel_rfl) (by kernel_rfl) (fun _ _ _ h => h) (Or.inl ⟨by rfl, fun W hW => by go_simp⟩) e12 ?_
      simp only [Act.put, List.setIfInBounds_toArray, List.set_cons_zero, List.set_cons_succ]
      refine wpAnyH_done (by kernel_rfl) ?_ _
      refine NoPanic.normal ?_
      have hr12 := e12.2
      clear e12
      go_wp2_with fail
      refine (HS3.out _).mono ?_
      rintro e w13 ⟨rfl, b13⟩
      have HW4 := Lib.hid (HW3.out.below b13)
      have HQ4 := Lib.hid (HQ3.out.below b13)
      have hr13 := range_below hr12 b13
      clear b13 HW3 HQ3 HS3 hr12
      go_wp2_with fail
      refine (HS1.out _).mono ?_
      rintro e w14 ⟨rfl, b14⟩
      have HW5 := Lib.hid (HW4.out.below b14)
      have HQ5 := Lib.hid (HQ4.out.below b14)
      have hr14 := range_below hr13 b14
      clear b14 HW4 HQ4 hr13
      by_cases hjk : j < k
      · have hle : (t : Int) ≤ (d : Int) := by omega
        have HJK := Lib.hid hjk
        go_wp2_with fail
        have HW6 := Lib.hid (HW5.out.below (Below.refl _ _).drew)
        have HQ6 := Lib.hid (HQ5.out.below (Below.refl _ _).drew)
        have hr15 := range_below hr14 (Below.refl _ _).drew
        have ca := (HW6.out.acc 0 (by rw [akv_length]; omega)).1
        have ca : w14.drew.cell? ⟨ab, 0, none⟩ = some va := ca
        have c15 := HQ6.out.c0
        clear HW5 HQ5 hr14
        generalize hwe : w14.drew = we at *
        refine wp_region_noPanic ?_
        refine until_start (fun W => W.cell? ⟨ab, 0, none⟩ = some va ∧ W.cell? ⟨qb, 0, none⟩ = some (.slice (some ⟨g, o, none⟩) n c) ∧ W.rangeAt g (o + j * 6) p.vals) 12 (by kernel_rfl) (by rw [hwe]; exact ⟨ca, c15, hr15⟩) (fun _ => ?_)
        rw [hwe]
        clear hwe
        refine until_take (i := 0) (v := .pointer (some ⟨ab, 0, none⟩)) (some 59) [12] rfl rfl (by kernel_rfl) (by kernel_rfl) (by kernel_rfl) (by kernel_rfl) rfl rfl (fun _ _ _ h => h) (Or.inl ⟨by rfl, fun W hW => by go_simp⟩) ⟨ca, c15, hr15⟩ ?_
        simp only [Act.put, List.setIfInBounds_toArray, List.set_cons_zero, List.set_cons_succ]
        refine until_take (i := 2) (v := .pointer (some ⟨qb, 0, none⟩)) (some 61) [12] rfl rfl (by kernel_rfl) (by kernel_rfl) (by kernel_rfl) (by kernel_rfl) rfl rfl (fun _ _ _ h => h) (Or.inl ⟨by rfl, fun W hW => by go_simp⟩) ⟨ca, c15, hr15⟩ ?_
        simp only [Act.put, List.setIfInBounds_toArray, List.set_cons_zero, List.set_cons_succ]
        refine until_take (i := 6) (v := .int .i64 (j : Int)) (some 65) [12] rfl rfl (by kernel_rfl) (by kernel_rfl) (by kernel_rfl) (by kernel_rfl) rfl rfl (fun _ _ _ h => h) (Or.inl ⟨by rfl, fun W hW => by go_simp⟩) ⟨ca, c15, hr15⟩ ?_
        simp only [Act.put, List.setIfInBounds_toArray, List.set_cons_zero, List.set_cons_succ]
        refine until_take (i := 1) (v := va) (some 60) [12] rfl rfl (by kernel_rfl) (by kernel_rfl) (by kernel_rfl) (by kernel_rfl) rfl rfl (fun _ _ _ h => h) (Or.inl ⟨by rfl, fun W hW => by have hc := hW.1; go_simp⟩) ⟨ca, c15, hr15⟩ ?_
        simp only [Act.put, List.setIfInBounds_toArray, List.set_cons_zero, List.set_cons_succ]
        refine until_take (i := 3) (v := .pointer (some ⟨qb, 0, none⟩)) (some 62) [12] rfl rfl (by kernel_rfl) (by kernel_rfl) (by kernel_rfl) (by kernel_rfl) rfl rfl (fun _ _ _ h => h) (Or.inl ⟨by rfl, fun W hW => by go_simp⟩) ⟨ca, c15, hr15⟩ ?_
        simp only [Act.put, List.setIfInBounds_toArray, List.set_cons_zero, List.set_cons_succ]
        refine until_take (i := 4) (v := .pointer (some ⟨qb, 0, none⟩)) (some 63) [12] rfl rfl (by kernel_rfl) (by kernel_rfl) (by kernel_rfl) (by kernel_rfl) rfl rfl (fun _ _ _ h => h) (Or.inl ⟨by rfl, fun W hW => by go_simp⟩) ⟨ca, c15, hr15⟩ ?_
        simp only [Act.put, List.setIfInBounds_toArray, List.set_cons_zero, List.set_cons_succ]
        refine until_take (i := 5) (v := .slice (some ⟨g, o, none⟩) n c) (some 64) [12] rfl rfl (by kernel_rfl) (by kernel_rfl) (by kernel_rfl) (by kernel_rfl) rfl rfl (fun _ _ _ h => h) (Or.inl ⟨by rfl, fun W hW => by have hc := hW.2.1; go_simp⟩) ⟨ca, c15, hr15⟩ ?_
        simp only [Act.put, List.setIfInBounds_toArray, List.set_cons_zero, List.set_cons_succ]
        refine until_take (i := 7) (v := .pointer (some ⟨g, o + j * 6, none⟩)) (some 66) [12] rfl rfl (by kernel_rfl) (by kernel_rfl) (by kernel_rfl) (by kernel_rfl) rfl rfl (fun _ _ _ h => h) (Or.inl ⟨by rfl, fun W hW => by go_simp⟩) ⟨ca, c15, hr15⟩ ?_
        simp only [Act.put, List.setIfInBounds_toArray, List.set_cons_zero, List.set_cons_succ]
        refine until_take (i := 8) (v := .agg p.vals.toArray) (some 67) [12] rfl rfl (by kernel_rfl) (by kernel_rfl) (by kernel_rfl) (by kernel_rfl) rfl rfl (fun _ _ _ h => h) (yieldsIf_load_mid (by rfl) 33 (.tmp 66) rfl g (o + j * 6) rfl _ _ (fun W hW => hW.2.2) Try.underlying33 rfl infoPc) ⟨ca, c15, hr15⟩ ?_
        simp only [Act.put, List.setIfInBounds_toArray, List.set_cons_zero, List.set_cons_succ]
        refine until_step (i := 9) (by kernel_rfl) rfl rfl (fun K hK => ?_)
        refine step_litP (by rfl) (.tmp 67) rfl p rfl _ rfl ?_
        intro w8 x8 b8 t8
        have HW7 := Lib.hid (HW6.out.below b8)
        have e8 : w8.cell? ⟨ab, 0, none⟩ = some va ∧ w8.cell? ⟨qb, 0, none⟩ = some (.slice (some ⟨g, o, none⟩) n c) ∧ w8.rangeAt g (o + j * 6) p.vals := ⟨(HW7.out.acc 0 (by rw [akv_length]; omega)).1, (HQ6.out.below b8).c0, range_below hr15 b8⟩
        have HQ7 := Lib.hid (HQ6.out.below b8)
        clear hr15 HW6 HQ6 ca c15
        show K (Act.put _ (some 68) _) _
        refine hK.out _ _ e8 (fun _ => ?_)
        clear hK
        try simp only [Act.put, List.setIfInBounds_toArray, List.set_cons_zero, List.set_cons_succ]
        refine until_step (i := 10) (by kernel_rfl) rfl rfl (fun K hK => ?_)
        refine step_appR rfl (.tmp 60) (.tmp 68) rfl (ab + 1) va _ rfl HW7.out.ra we.heap.size 1 p rfl x8.range (by rw [List.length_take]; omega) (by have := HW7.out.size; omega) ?_
        intro v9 w9 r9 g9 o9
        obtain ⟨z9, hwf⟩ := HW7.out.push_acc HJL.out HJK.out HP.out r9 g9 o9
        obtain ⟨A9, k9, rfl, _, _⟩ := r9.slice
        generalize (l.take (min j k) ++ [p]).length = n9 at *
        have HWF := Lib.hid hwf
        have c9 : w9.cell? ⟨ab, 0, none⟩ = some va := (z9 0 (by rw [akv_length]; omega)).1
        have f9 : w9.frozen? ⟨ab, 0, none⟩ = false := (z9 0 (by rw [akv_length]; omega)).2
        have cq9 : w9.cell? ⟨qb, 0, none⟩ = some (.slice (some ⟨g, o, none⟩) n c) := (g9.cell_far _ HQ7.out.lt (fun e => by have h1 := (HW7.out.ra.in_ e.symm).1; have := HW7.out.lo; dsimp only at h1; omega)).trans e8.2.1
        have hr9 : w9.rangeAt g (o + j * 6) p.vals := fun i u hu => (g9.cell_far _ (World.block_lt_of_cell? _ _ (e8.2.2 i u hu)) (fun e => by have h1 := (HW7.out.ra.in_ e.symm).1; have h2 := HW7.out.lo; have h3 := (HR.out.in_ (g := g) rfl).2; dsimp only at h1; omega)).trans (e8.2.2 i u hu)
        have e9 : w9.cell? ⟨ab, 0, none⟩ = some va ∧ w9.cell? ⟨qb, 0, none⟩ = some (.slice (some ⟨g, o, none⟩) n c) ∧ w9.rangeAt g (o + j * 6) p.vals := ⟨c9, cq9, hr9⟩
        clear hwf r9 g9 o9 x8 e8 z9 cq9 hr9
        show K (Act.put _ (some 69) _) _
        refine hK.out _ _ e9 (fun _ => ?_)
        clear hK
        try simp only [Act.put, List.setIfInBounds_toArray, List.set_cons_zero, List.set_cons_succ]
        refine until_take (i := 11) (v := .pointer (some ⟨ab, 0, none⟩)) (some 70) [12] rfl rfl (by kernel_rfl) (by kernel_rfl) (by kernel_rfl) (by kernel_rfl) rfl rfl (fun _ _ _ h => h) (Or.inl ⟨by rfl, fun W hW => by go_simp⟩) e9 ?_
        simp only [Act.put, List.setIfInBounds_toArray, List.set_cons_zero, List.set_cons_succ]
        refine until_last (by kernel_rfl) rfl (fun K hK => ?_)
        go_simp
        generalize w9.setCell ⟨ab, 0, none⟩ (.slice A9 n9 k9) = w10' at *
        refine hK.out _ _ ?_
        clear hK
        try simp only [Act.put, List.setIfInBounds_toArray, List.set_cons_zero, List.set_cons_succ]
        refine wpAnyH_done (by kernel_rfl) ?_ _
        refine NoPanic.normal ?_
        go_wp2_with fail
        go_roundw
        case rel => exact ⟨j + 1, _, by omega, by go_num, HWF.out⟩
        case measure => simp [intOf]; omega
      · have hle : decide ((t : Int) ≤ (d : Int)) = false := decide_eq_false (by omega)
        have HJK := Lib.hid hjk
        have c15 := HQ5.out.c0
        go_wp2_with (first
          | ((with_reducible refine wpList_here ?_); refine wpList_loadV (o := ⟨some 78, _, _, _, _, _⟩) rfl 33 (.tmp 77) rfl _ _ p.vals rfl hr14 _ Try.underlying33 rfl infoPc ?_)
          | ((with_reducible refine wpList_here ?_); refine wpList_litP (op := ⟨some 79, _, _, _, _, _⟩) rfl (.tmp 78) rfl p rfl _ rfl ?_; intro w16 x16 b16 t16; have HW7 := Lib.hid (HW5.out.below b16); have HX7 := Lib.hid x16; have HSZ := Lib.hid (HW5.out.size); clear x16 b16 t16 hr14 HW5)
          | (at_builtin; refine wpList_appR rfl (.tmp 71) (.tmp 79) rfl (ab + 1) vr _ rfl HW7.out.rr _ 1 p rfl HX7.out.range (by rw [List.length_drop, List.length_take]; omega) (by have := HW7.out.size; omega) ?_; intro v17 w17 r17 g17 o17; have HWF := Lib.hid (HW7.out.push_rest HJL.out HJK.out HP.out r17 g17 o17); clear r17 g17 o17))
        go_roundw
        case rel => exact ⟨j + 1, _, by omega, by go_num, HWF.out⟩
        case measure => simp [intOf]; omega
    · obtain rfl : j = n := by omega
      obtain ⟨A8, k8, rfl, _, _⟩ := HW.out.rr.slice
      have hva : va.oneCell' = true := by
        obtain ⟨_, _, rfl, _, _⟩ := HW.out.ra.slice
        rfl
      generalize ((l.take j).drop k).length = n8 at *
      have f0 := HQ.out.f 0
      have HG : Hid (wr.grownBy (wr.setCell ⟨qb, 0, none⟩ (.slice A8 n8 k8)) (some qb)) := Lib.hid (v_g_set _ _ _ _)
      have HLO := Lib.hid HW.out.lo
      have HDN := Lib.hid (fun w12 g12 => ackr_done (w12 := w12) H.out HW.out HN.out hkl (by decide) (by decide) g12)
      go_wp2_with (first
        | ((with_reducible refine wpList_here ?_); refine wpList_setC rfl 28 (.tmp 84) (.tmp 82) rfl qb 0 _ (.slice A8 n8 k8) rfl rfl c0 f0 rfl sizePs1 ?_; have za := HW.out.acc.far HG.out (fun e => by injection e with e; have := HLO.out; omega); have zr := HW.out.res.far HG.out (fun e => by injection e with e; omega); clear HW HQ c0 f0 HG; generalize wr.setCell ⟨qb, 0, none⟩ (.slice A8 n8 k8) = w11 at *)
        | ((with_reducible refine wpList_here ?_); refine wpList_loadV (o := ⟨some 85, _, _, _, _, _⟩) rfl 43 (.tmp 5) rfl _ _ (akv va true) rfl za.range _ Try.underlying43 rfl infoAk ?_)
        | ((with_reducible refine wpList_here ?_); refine wpList_storeV rfl 43 (.tmp 4) (.tmp 85) rfl _ _ (akv va true) rfl rfl zr rfl (akv_one hva) infoAk ?_; intro w12 z12 g12 s12))
      exact bodyPost_ret (results_c0 rfl _ _ w.heap.size _ _ rfl z12.range Try.underlying43 rfl infoAk) rfl (HDN.out w12 g12)
end
end Go.Proofs.Ytkmddedfmbmgfaa
