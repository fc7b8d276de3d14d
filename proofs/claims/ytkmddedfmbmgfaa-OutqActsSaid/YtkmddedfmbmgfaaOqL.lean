/- The contract of the document's Ack. Conditions: the queue stands, its numbers go on from its beginning to its end, at most 2^31 in all; at most 2^30 pieces, with data of at most 2^40 bytes each. -/
import Derived.Test.YtkmddedfmbmgfaaOqH
import Derived.Test.YtkmddedfmbmgfaaOqI
import Derived.Test.YtkmddedfmbmgfaaHel
namespace Go.Proofs.Ytkmddedfmbmgfaa
set_option linter.unusedVariables false
set_option linter.unusedSimpArgs false
open Go.RowKit

/-- What was acknowledged, as cells. -/
def akv (v : Value) (b : Bool) : List Value := [v, .bool b]
theorem akv_length (v : Value) (b : Bool) : (akv v b).length = 2 := rfl
theorem infoAk : (Try.prog.info? 43).map (·.size) = some 2 := by kernel_rfl
theorem zeroAk : (Try.prog.info? 43).map (·.zero) = some (some (.agg (akv (.slice none 0 0) false).toArray)) := by kernel_rfl
theorem sizePs1 : (Try.prog.info? 28).map (·.size) = some 1 := by kernel_rfl
theorem akv_one {v : Value} {b : Bool} (h : v.oneCell' = true) : ∀ u ∈ akv v b, u.oneCell' = true := by
  intro u hu
  simp only [akv, List.mem_cons, List.not_mem_nil, or_false] at hu
  rcases hu with rfl | rfl
  · exact h
  · rfl
/-- What the document's Ack leaves. -/
def AckR (t : TypeId) (base : Nat) (w : World) (qb : Nat) (v : Value) (l : List Pc) (en k : Nat) (e : Ending) (w' : World) : Prop :=
  ∃ vo v', e = .returned (.agg (akv vo true).toArray) ∧ Row w' w.heap.size vo (l.take k) ∧ (∀ p ∈ l.take k, PO base w' p) ∧ Qu t base w' qb v' (l.drop k) en ∧ (∀ g, v'.ownBlock = some g → w.heap.size ≤ g) ∧ Ch w w' (fun k => k = qb)
theorem take_stepL {l : List Pc} {j k : Nat} (hj : j < l.length) (hk : j < k) : l.take (min (j + 1) k) = l.take (min j k) ++ [l.getD j zP] := by
  rw [show min (j + 1) k = j + 1 by omega, show min j k = j by omega, List.take_succ_eq_append_getElem hj]
  simp [List.getD_eq_getElem?_getD, hj]
theorem take_stayL {l : List Pc} {j k : Nat} (hk : ¬ j < k) : l.take (min (j + 1) k) = l.take (min j k) := by
  rw [show min (j + 1) k = k by omega, show min j k = k by omega]
theorem drop_stayL {l : List Pc} {j k : Nat} (hk : j < k) : (l.take (j + 1)).drop k = (l.take j).drop k := by
  rw [List.drop_eq_nil_of_le (by rw [List.length_take]; omega), List.drop_eq_nil_of_le (by rw [List.length_take]; omega)]
theorem drop_stepL {l : List Pc} {j k : Nat} (hj : j < l.length) (hk : ¬ j < k) : (l.take (j + 1)).drop k = (l.take j).drop k ++ [l.getD j zP] := by
  rw [List.take_succ_eq_append_getElem hj, List.drop_append_of_le_length (by rw [List.length_take]; omega)]
  simp [List.getD_eq_getElem?_getD, hj]

section
variable {base : Nat} {w : World} {qb : Nat} {v : Value} {l : List Pc} {en : Nat}
/-- The four calls ahead: is the number one that may be? -/
theorem rows_ahead (h : Qu 30 base w qb v l en) (b a : Nat) (hb : b < 4294967296) (ha : a < 4294967296) (hc : Chn b (l.map Pc.key) en) (ht : tot (l.map Pc.key) ≤ 2147483648) :
    (∀ W, Below w.heap.size w W → Calls Try.prog 13 #[ptr qb] W fun e w' => e = .returned (.int .u32 (b : Int)) ∧ w' = W) ∧
    (∀ W, Calls Try.prog 29 #[.int .u32 (b : Int), .int .u32 (a : Int)] W fun e w' => e = .returned (.int .i64 (st b a : Nat)) ∧ Below W.heap.size W w') ∧
    (∀ W, Calls Try.prog 29 #[.int .u32 (b : Int), .int .u32 (en : Int)] W fun e w' => e = .returned (.int .i64 (tot (l.map Pc.key) : Nat)) ∧ Below W.heap.size W w') := by
  refine ⟨fun W bW => ?_, fun W => rSteps_any b a W hb ha, fun W => ?_⟩
  · have := Begin_ref (h.below bW)
    rw [hc.beg] at this
    exact this
  · have := rSteps_any b en W hb h.num
    rw [st_tot hb hc (by omega)] at this
    exact this

set_option maxRecDepth 20000 in
set_option maxHeartbeats 3200000 in
theorem AckR_no (h : Qu 30 base w qb v l en) (b a : Nat) (hb : b < 4294967296) (ha : a < 4294967296) (hc : Chn b (l.map Pc.key) en) (ht : tot (l.map Pc.key) ≤ 2147483648) (hno : tot (l.map Pc.key) < st b a) :
    Calls Try.prog 15 #[ptr qb, .int .u32 (a : Int)] w fun e w' => e = .returned (.agg (akv (.slice none 0 0) false).toArray) ∧ Below w.heap.size w w' := by
  obtain ⟨q1, q2, q3⟩ := rows_ahead h b a hb ha hc ht
  have HB := Lib.hid q1
  have HS1 := Lib.hid q2
  have HS2 := Lib.hid q3
  have H := Lib.hid h
  generalize st b a = d at *
  generalize tot (l.map Pc.key) = n at *
  have hgt : (n : Int) < (d : Int) := by omega
  have hdl : decide ((n : Int) < (d : Int)) = true := decide_eq_true hgt
  clear h q1 q2 q3 hc
  unfold ptr at *
  go_enter Try.func15, Try.ntmps15
  go_wp2_with (first
    | ((with_reducible refine wpList_here ?_); refine wpList_allocV (o := ⟨some 4, _, _, _, _, _⟩) rfl 43 rfl (akv (.slice none 0 0) false) zeroAk _ rfl ?_; intro w2 z2 b2 s2; clear s2))
  have b3 := b2.drew
  have z3 : Own w2.drew w.heap.size (akv (.slice none 0 0) false) := z2
  clear b2 z2
  generalize hwd : w2.drew = wd at *
  have HB3 := Lib.hid b3
  have c3 := (H.out.below b3).c1
  have s3 := b3.size
  clear b3
  refine wp_region_noPanic ?_
  refine wp_region_held_drew (S := fun W => W.cell? ⟨qb, 1, none⟩ = some (.int .u32 (en : Int))) (by kernel_rfl) (by rw [hwd]; exact c3) (fun _ => ?_)
  rw [hwd]
  clear hwd
  refine held_take (i := 0) (v := .pointer (some ⟨qb, 0, none⟩)) (some 10) rfl rfl (by kernel_rfl) (by kernel_rfl) (by kernel_rfl) (fun _ _ _ h => h) (Or.inl ⟨by rfl, fun W hW => by go_simp⟩) c3 ?_
  simp only [Act.put, List.setIfInBounds_toArray, List.set_cons_zero, List.set_cons_succ]
  refine held_take (i := 2) (v := .int .u32 (a : Int)) (some 12) rfl rfl (by kernel_rfl) (by kernel_rfl) (by kernel_rfl) (fun _ _ _ h => h) (Or.inl ⟨by rfl, fun W hW => by go_simp⟩) c3 ?_
  simp only [Act.put, List.setIfInBounds_toArray, List.set_cons_zero, List.set_cons_succ]
  refine held_take (i := 4) (v := .pointer (some ⟨qb, 0, none⟩)) (some 14) rfl rfl (by kernel_rfl) (by kernel_rfl) (by kernel_rfl) (fun _ _ _ h => h) (Or.inl ⟨by rfl, fun W hW => by go_simp⟩) c3 ?_
  simp only [Act.put, List.setIfInBounds_toArray, List.set_cons_zero, List.set_cons_succ]
  refine held_take (i := 6) (v := .pointer (some ⟨qb, 0, none⟩)) (some 16) rfl rfl (by kernel_rfl) (by kernel_rfl) (by kernel_rfl) (fun _ _ _ h => h) (Or.inl ⟨by rfl, fun W hW => by go_simp⟩) c3 ?_
  simp only [Act.put, List.setIfInBounds_toArray, List.set_cons_zero, List.set_cons_succ]
  refine held_take (i := 7) (v := .pointer (some ⟨qb, 0, none⟩)) (some 17) rfl rfl (by kernel_rfl) (by kernel_rfl) (by kernel_rfl) (fun _ _ _ h => h) (Or.inl ⟨by rfl, fun W hW => by go_simp⟩) c3 ?_
  simp only [Act.put, List.setIfInBounds_toArray, List.set_cons_zero, List.set_cons_succ]
  refine held_take (i := 8) (v := .pointer (some ⟨qb, 1, none⟩)) (some 18) rfl rfl (by kernel_rfl) (by kernel_rfl) (by kernel_rfl) (fun _ _ _ h => h) (Or.inl ⟨by rfl, fun W hW => by go_simp⟩) c3 ?_
  simp only [Act.put, List.setIfInBounds_toArray, List.set_cons_zero, List.set_cons_succ]
  refine held_take (i := 9) (v := .int .u32 (en : Int)) (some 19) rfl rfl (by kernel_rfl) (by kernel_rfl) (by kernel_rfl) (fun _ _ _ h => h) (Or.inl ⟨by rfl, fun W hW => by have hc := hW; go_simp⟩) c3 ?_
  simp only [Act.put, List.setIfInBounds_toArray, List.set_cons_zero, List.set_cons_succ]
  refine wpAnyH_ready (rs := [1]) (by kernel_rfl) (by simp) ?_
  refine AllReadyH.cons rfl (fun K hK => ?_) AllReadyH.nil
  go_simp
  refine (HB.out _ HB3.out).mono ?_
  rintro e w4 ⟨rfl, rfl⟩
  dsimp only
  refine hK.out _ _ c3 (fun _ => ?_)
  clear hK
  try simp only [Act.put, List.setIfInBounds_toArray, List.set_cons_zero, List.set_cons_succ]
  refine wpAnyH_ready (rs := [3]) (by kernel_rfl) (by simp) ?_
  refine AllReadyH.cons rfl (fun K hK => ?_) AllReadyH.nil
  go_simp
  refine (HS1.out _).mono ?_
  rintro e w5 ⟨rfl, b5⟩
  have HB5 := Lib.hid (HB3.out.trans (b5.mono HB3.out.size))
  have c5 := (H.out.below HB5.out).c1
  have z5 := z3.below b5
  clear b5 z3 c3
  dsimp only
  refine hK.out _ _ c5 (fun _ => ?_)
  clear hK
  try simp only [Act.put, List.setIfInBounds_toArray, List.set_cons_zero, List.set_cons_succ]
  refine wpAnyH_ready (rs := [5]) (by kernel_rfl) (by simp) ?_
  refine AllReadyH.cons rfl (fun K hK => ?_) AllReadyH.nil
  go_simp
  refine (HB.out _ HB5.out).mono ?_
  rintro e w6 ⟨rfl, rfl⟩
  dsimp only
  refine hK.out _ _ c5 (fun _ => ?_)
  clear hK
  try simp only [Act.put, List.setIfInBounds_toArray, List.set_cons_zero, List.set_cons_succ]
  refine wpAnyH_ready (rs := [10]) (by kernel_rfl) (by simp) ?_
  refine AllReadyH.cons rfl (fun K hK => ?_) AllReadyH.nil
  go_simp
  refine (HS2.out _).mono ?_
  rintro e w7 ⟨rfl, b7⟩
  have HB7 := Lib.hid (HB5.out.trans (b7.mono HB5.out.size))
  have c7 := (H.out.below HB7.out).c1
  have z7 := z5.below b7
  clear b7 z5 c5
  dsimp only
  refine hK.out _ _ c7 (fun _ => ?_)
  clear hK
  try simp only [Act.put, List.setIfInBounds_toArray, List.set_cons_zero, List.set_cons_succ]
  refine held_take (i := 11) (v := .bool true) (some 21) rfl rfl (by kernel_rfl) (by kernel_rfl) (by kernel_rfl) (fun _ _ _ h => h) (Or.inl ⟨by rfl, fun W hW => by go_simp⟩) c7 ?_
  simp only [Act.put, List.setIfInBounds_toArray, List.set_cons_zero, List.set_cons_succ]
  refine wpAnyH_done (by kernel_rfl) ?_ _
  refine NoPanic.normal ?_
  go_wp2_with (first
    | ((with_reducible refine wpList_here ?_); refine wpList_storeV rfl 43 (.tmp 4) (.tmp 22) rfl _ _ (akv (.slice none 0 0) false) rfl rfl z7 rfl (akv_one rfl) infoAk ?_; intro w9 z9 g9 s9))
  exact bodyPost_ret (results_c0 rfl _ _ w.heap.size _ _ rfl z9.range Try.underlying43 rfl infoAk) rfl ⟨rfl, v_below_g HB7.out g9 HB7.out.size (Nat.le_refl _)⟩

/-- What the walk through the pieces has come to. -/
structure Wk (w wr : World) (ab : Nat) (l : List Pc) (k j : Nat) (va vr : Value) : Prop where
  bel : Below w.heap.size w wr
  res : Own wr w.heap.size (akv (.slice none 0 0) false)
  lo : w.heap.size < ab
  acc : Own wr ab (akv va true)
  ra : Row wr (ab + 1) va (l.take (min j k))
  rr : Row wr (ab + 1) vr ((l.take j).drop k)
  ne : ∀ g, va.ownBlock = some g → vr.ownBlock ≠ some g
theorem Wk.below {w wr w' : World} {ab : Nat} {l : List Pc} {k j : Nat} {va vr : Value} (h : Wk w wr ab l k j va vr) (b : Below wr.heap.size wr w') : Wk w w' ab l k j va vr :=
  ⟨h.bel.trans (b.mono h.bel.size), h.res.below b, h.lo, h.acc.below b, h.ra.below b, h.rr.below b, h.ne⟩
theorem Wk.size {w wr : World} {ab : Nat} {l : List Pc} {k j : Nat} {va vr : Value} (h : Wk w wr ab l k j va vr) : ab < wr.heap.size := h.acc.lt (by rw [akv_length]; omega)

/-- One more that was acknowledged. -/
theorem Wk.push_acc {w we w9 : World} {ab : Nat} {l : List Pc} {k j : Nat} {va vr va' : Value} {p : Pc} (h : Wk w we ab l k j va vr) (hj : j < l.length) (hk : j < k) (hp : l.getD j zP = p) (r9 : Row w9 (ab + 1) va' (l.take (min j k) ++ [p])) (g9 : we.grownBy w9 va.ownBlock) (o9 : va'.ownBlock = va.ownBlock ∨ va'.ownBlock = some we.heap.size) :
    Own w9 ab (akv va true) ∧ Wk w (w9.setCell ⟨ab, 0, none⟩ va') ab l k (j + 1) va' vr := by
  have hin : ∀ g, va.ownBlock = some g → ab + 1 ≤ g := fun g hg => (h.ra.in_ hg).1
  have z9 := h.acc.far g9 (fun e => by have := hin ab e.symm; omega)
  have hlo := h.lo
  have hsz := h.size
  have g10 : w9.grownBy (w9.setCell ⟨ab, 0, none⟩ va') (some ab) := v_g_set _ _ _ _
  have c9 : Ch we w9 (fun k => va.ownBlock = some k) := Ch.grown (m := fun k => va.ownBlock = some k) (Ch.refl we _) g9 (fun k e _ => e)
  have c10 : Ch w9 (w9.setCell ⟨ab, 0, none⟩ va') (fun k => k = ab) := Ch.setCell (m := fun k => k = ab) (Ch.refl w9 _) (p := ⟨ab, 0, none⟩) (fun _ => rfl) _
  refine ⟨z9, ⟨?_, ?_, hlo, z9.set 0 (by rw [akv_length]; omega) va', ?_, ?_, fun g hg => ?_⟩⟩
  · exact (h.bel.grown g9 h.bel.size (fun k e => by have := hin k e; omega)).grown g10 (Nat.le_trans h.bel.size g9.size) (fun k e => by injection e with e; omega)
  · exact (h.res.far g9 (fun e => by have := hin _ e.symm; omega)).far g10 (fun e => by injection e with e; omega)
  · rw [take_stepL hj hk, hp]
    exact r9.ch c10 (fun g hg e => by have := (r9.in_ hg).1; omega)
  · rw [drop_stayL hk]
    exact (h.rr.ch c9 (fun g hg e => h.ne g e hg)).ch c10 (fun g hg e => by have := (h.rr.in_ hg).1; omega)
  · rcases o9 with e | e
    · exact h.ne g (e ▸ hg)
    · intro e2
      rw [e] at hg
      injection hg with hg
      have := (h.rr.in_ e2).2
      omega
/-- One more that stays. -/
theorem Wk.push_rest {w we w9 : World} {ab : Nat} {l : List Pc} {k j : Nat} {va vr vr' : Value} {p : Pc} (h : Wk w we ab l k j va vr) (hj : j < l.length) (hk : ¬ j < k) (hp : l.getD j zP = p) (r9 : Row w9 (ab + 1) vr' ((l.take j).drop k ++ [p])) (g9 : we.grownBy w9 vr.ownBlock) (o9 : vr'.ownBlock = vr.ownBlock ∨ vr'.ownBlock = some we.heap.size) :
    Wk w w9 ab l k (j + 1) va vr' := by
  have hin : ∀ g, vr.ownBlock = some g → ab + 1 ≤ g := fun g hg => (h.rr.in_ hg).1
  have hlo := h.lo
  have c9 : Ch we w9 (fun k => vr.ownBlock = some k) := Ch.grown (m := fun k => vr.ownBlock = some k) (Ch.refl we _) g9 (fun k e _ => e)
  refine ⟨h.bel.grown g9 h.bel.size (fun k e => by have := hin k e; omega), h.res.far g9 (fun e => by have := hin _ e.symm; omega), hlo, h.acc.far g9 (fun e => by have := hin _ e.symm; omega), ?_, ?_, fun g hg => ?_⟩
  · rw [take_stayL hk]
    exact h.ra.ch c9 (fun g hg e => h.ne g hg e)
  · rw [drop_stepL hj hk, hp]
    exact r9
  · rcases o9 with e | e
    · rw [e]
      exact h.ne g hg
    · rw [e]
      intro e2
      injection e2 with e2
      have := (h.ra.in_ hg).2
      omega
/-- The numbers of the walk. -/
theorem wk_nums {ks : List Ky} {b en j : Nat} {k : Ky} (hb : b < 4294967296) (hc : Chn b ks en) (ht : tot ks ≤ 2147483648) (hk : ks[j]? = some k) : on k.seq (k.len : Int) = on b (tot (ks.take (j + 1)) : Int) ∧ st b (on b (tot (ks.take (j + 1)) : Int)) = tot (ks.take (j + 1)) := by
  have hj := (List.getElem?_eq_some_iff.1 hk).1
  have e1 : ks.take (j + 1) = ks.take j ++ [k] := by
    rw [List.take_succ_eq_append_getElem hj]
    rw [List.getElem?_eq_getElem hj] at hk
    injection hk with hk
    rw [hk]
  have e2 : tot (ks.take (j + 1)) = tot (ks.take j) + k.len := by rw [e1, tot_append]; simp [tot]
  have hle : tot (ks.take (j + 1)) ≤ tot ks := by
    have := tot_append (ks.take (j + 1)) (ks.drop (j + 1))
    rw [List.take_append_drop] at this
    omega
  refine ⟨?_, ?_⟩
  · rw [hc.at_ j k hb hk, on_on, ← e2]
  · have := st_on_self hb (tot (ks.take (j + 1)) : Int)
    omega
/-- The end of the document's Ack. -/
theorem ackr_done {t : TypeId} {w wr w12 : World} {ab n k : Nat} {va vr : Value} (H : Qu t base w qb v l en) (HW : Wk w wr ab l k n va vr) (hn : l.length = n) (hk : k ≤ n) (ht : t ≠ 5) (htp : t ≠ 33)
    (g12 : (wr.setCell ⟨qb, 0, none⟩ vr).grownBy w12 (some w.heap.size)) : AckR t base w qb v l en k (.returned (.agg (akv va true).toArray)) w12 := by
  have hlo := H.lo
  have hlt := H.lt
  have hab := HW.lo
  have e1 : l.take (min n k) = l.take k := by rw [show min n k = k by omega]
  have e2 : (l.take n).drop k = l.drop k := by rw [List.take_of_length_le (by omega)]
  have hra := HW.ra
  have hrr := HW.rr
  rw [e1] at hra
  rw [e2] at hrr
  have HQ := H.below HW.bel
  have HX : Qx t base wr qb v vr (l.drop k) en := ⟨HQ.obj, HQ.lo, hrr.mono (by omega), fun p hp => HQ.ok p (List.mem_of_mem_drop hp), HQ.num⟩
  have HQ11 := HX.store ht htp
  have c11 : Ch wr (wr.setCell ⟨qb, 0, none⟩ vr) (fun k => k = qb) := Ch.setCell (m := fun k => k = qb) (Ch.refl wr _) (p := ⟨qb, 0, none⟩) (fun _ => rfl) _
  have c12 : Ch (wr.setCell ⟨qb, 0, none⟩ vr) w12 (fun k => k = w.heap.size) := Ch.grown (m := fun k => k = w.heap.size) (Ch.refl _ _) g12 (fun k e _ => by injection e with e; exact e.symm)
  refine ⟨va, vr, rfl, ((hra.ch c11 (fun g hg e => by have := (hra.in_ hg).1; omega)).ch c12 (fun g hg e => by have := (hra.in_ hg).1; omega)).mono (by omega), fun p hp => ?_, HQ11.frame c12 (fun g hg e => ?_), fun g hg => by have := (hrr.in_ hg).1; omega, ?_⟩
  · have hp2 := List.mem_of_mem_take hp
    refine ((HQ.ok p hp2).ch c11 (fun g hg e => (HQ.apart ht hp2 hg).1 e)).ch c12 (fun g hg e => ?_)
    have := ((H.ok p hp2).lt hg).2
    omega
  · rcases hg with e3 | hg | ⟨p, hp, hg⟩
    · omega
    · have := (hrr.in_ hg).1
      omega
    · have := ((H.ok p (List.mem_of_mem_drop hp)).lt hg).2
      omega
  · exact (Ch.setCell (m := fun k => k = qb) (Ch.of_below _ HW.bel) (p := ⟨qb, 0, none⟩) (fun _ => rfl) vr).trans (m' := fun k => k = w.heap.size) c12 (fun _ _ h => h) (fun x hx e => by omega)
end
end Go.Proofs.Ytkmddedfmbmgfaa
