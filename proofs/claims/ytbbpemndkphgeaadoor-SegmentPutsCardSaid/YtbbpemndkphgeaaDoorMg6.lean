/- The region of option.fields in which all lists of fields are laid, in whatever order: what it leaves. No condition.
The contract of option.fields: the fields that an option's kind has. Condition: the address leads to an option. -/
import Derived.Test.YtbbpemndkphgeaaDoorMg5
import Derived.Deep.Cut
namespace Go.Proofs.YtbbpemndkphgeaaDoor
set_option linter.unusedVariables false
set_option linter.unusedSimpArgs false
open Go.RowKit

theorem cover : (List.range 114).all (fun i => pureT.any (fun t => t.1 == i) || sliceT.any (fun t => t.1 == i) || i == 111 || i == 112 || i == 113) = true := by decide +kernel
theorem apartPS : pureT.all (fun t => sliceT.all (fun s => t.1 != s.1 && t.2.1 != s.2.1) && t.2.1 != 3 && t.2.1 != 115 && t.1 != 111 && t.1 != 112 && t.1 != 113) = true := by decide +kernel
theorem apartSS : sliceT.all (fun t => sliceT.all (fun s => (t.1 == s.1) == (t.2.1 == s.2.1)) && t.2.1 != 3 && t.2.1 != 115 && t.1 != 111 && t.1 != 112 && t.1 != 113) = true := by decide +kernel

theorem ps {t s : Nat × Nat × List (Nat × Nat)} (ht : t ∈ pureT) (hs : s ∈ sliceT) : t.1 ≠ s.1 ∧ t.2.1 ≠ s.2.1 := by
  have h := List.all_eq_true.1 apartPS t ht
  simp only [Bool.and_eq_true, List.all_eq_true, bne_iff_ne] at h
  exact h.1.1.1.1.1 s hs
theorem pn {t : Nat × Nat × List (Nat × Nat)} (ht : t ∈ pureT) : t.2.1 ≠ 3 ∧ t.2.1 ≠ 115 ∧ t.1 ≠ 111 ∧ t.1 ≠ 112 ∧ t.1 ≠ 113 := by
  have h := List.all_eq_true.1 apartPS t ht
  simp only [Bool.and_eq_true, List.all_eq_true, bne_iff_ne] at h
  exact ⟨h.1.1.1.1.2, h.1.1.1.2, h.1.1.2, h.1.2, h.2⟩
theorem ss {t s : Nat × Nat × List (Nat × Nat)} (ht : t ∈ sliceT) (hs : s ∈ sliceT) : t.1 = s.1 ↔ t.2.1 = s.2.1 := by
  have h := List.all_eq_true.1 apartSS t ht
  simp only [Bool.and_eq_true, List.all_eq_true, bne_iff_ne] at h
  have h1 : (t.1 == s.1) = (t.2.1 == s.2.1) := by simpa using h.1.1.1.1.1 s hs
  rw [← beq_iff_eq, h1, beq_iff_eq]
theorem sn {t : Nat × Nat × List (Nat × Nat)} (ht : t ∈ sliceT) : t.2.1 ≠ 3 ∧ t.2.1 ≠ 115 ∧ t.1 ≠ 111 ∧ t.1 ≠ 112 ∧ t.1 ≠ 113 := by
  have h := List.all_eq_true.1 apartSS t ht
  simp only [Bool.and_eq_true, List.all_eq_true, bne_iff_ne] at h
  exact ⟨h.1.1.1.1.2, h.1.1.1.2, h.1.1.2, h.1.2, h.2⟩

/-- The row of lists, as the places hold them. -/
def rowOf (u : Nat → Value) : List Value := .slice none 0 0 :: sliceT.map fun t => u t.2.1
theorem rowOf_congr {u u' : Nat → Value} (h : ∀ t ∈ sliceT, u' t.2.1 = u t.2.1) : rowOf u' = rowOf u := by
  unfold rowOf
  rw [List.map_congr_left h]
/-- A slice of a kind's fields, new since w0. -/
def SL (w0 w : World) (g : Nat) (v : Value) (l : List (Nat × Nat)) : Prop := ∃ b, v = .slice (some ⟨b, 0, none⟩) l.length l.length ∧ w0.heap.size ≤ b ∧ w.rangeAt b 0 (l.flatMap (fv g))
theorem SL.below {w0 w w' : World} {g : Nat} {v : Value} {l : List (Nat × Nat)} (h : SL w0 w g v l) (hb : Below w.heap.size w w') : SL w0 w' g v l := by
  obtain ⟨b, h1, h2, h3⟩ := h
  exact ⟨b, h1, h2, range_below h3 hb⟩
/-- Twelve lists of none. -/
def nils : List Value := List.replicate 12 (.slice none 0 0)

/-- What holds in that region, whichever operations have come up. -/
structure InvU (g : Nat) (w0 : World) (listed : Array Bool) (u : Nat → Value) (w : World) : Prop where
  size : listed.size = 114
  below : Below w0.heap.size w0 w
  pure : ∀ t ∈ pureT, listed.getD t.1 false = true → u t.2.1 = val g t.2.1
  slice : ∀ t ∈ sliceT, listed.getD t.1 false = true → SL w0 w g (u t.2.1) (tabN (kindOf t.2.1))
  row : listed.getD 111 false = true → (∀ t ∈ sliceT, listed.getD t.1 false = true) ∧ u 115 = .agg (rowOf u).toArray
  box : listed.getD 112 false = true → ∃ b, u 3 = .pointer (some ⟨b, 0, none⟩) ∧ w0.heap.size ≤ b ∧ (listed.getD 113 false = false → Own w b nils) ∧ (listed.getD 113 false = true → w.rangeAt b 0 (rowOf u))
  last : listed.getD 113 false = true → listed.getD 111 false = true ∧ listed.getD 112 false = true
theorem depP : pureT.all (fun t => t.2.2.all fun p => pureT.any fun s => s.1 == p.1 && s.2.1 == p.2) = true := by decide +kernel
theorem depS : sliceT.all (fun t => t.2.2.all fun p => pureT.any fun s => s.1 == p.1 && s.2.1 == p.2) = true := by decide +kernel
theorem deps_of {l : List (Nat × Nat × List (Nat × Nat))} (hl : l.all (fun t => t.2.2.all fun p => pureT.any fun s => s.1 == p.1 && s.2.1 == p.2) = true) {t : Nat × Nat × List (Nat × Nat)} (ht : t ∈ l) {p : Nat × Nat} (hp : p ∈ t.2.2) :
    ∃ s ∈ pureT, s.1 = p.1 ∧ s.2.1 = p.2 := by
  have h1 := List.all_eq_true.1 (List.all_eq_true.1 hl t ht) p hp
  obtain ⟨s, hs, h2⟩ := List.any_eq_true.1 h1
  simp only [Bool.and_eq_true, beq_iff_eq] at h2
  exact ⟨s, hs, h2.1, h2.2⟩

theorem getD_false {listed : Array Bool} {i : Nat} (h : listed.getD i true = false) : listed.getD i false = false ∧ i < listed.size := by
  have hi : i < listed.size := by
    rcases Nat.lt_or_ge i listed.size with h' | h'
    · exact h'
    · simp [Array.getElem?_eq_none h'] at h
  rw [getD_of hi] at h ⊢
  exact ⟨h, hi⟩
theorem set_or {listed : Array Bool} {i j : Nat} (h : (listed.setIfInBounds i true).getD j false = true) : j = i ∨ listed.getD j false = true := by
  by_cases e : i = j
  · exact .inl e.symm
  · rw [getD_set_ne false e] at h
    exact .inr h
theorem set_ne {listed : Array Bool} {i j : Nat} (e : j ≠ i) : (listed.setIfInBounds i true).getD j false = listed.getD j false := getD_set_ne false (Ne.symm e)
theorem set_eq {listed : Array Bool} {i : Nat} (h : i < listed.size) : (listed.setIfInBounds i true).getD i false = true := by simp [h]
theorem not_tt {b : Bool} (h : b = false) (h' : b = true) : False := by rw [h] at h'; cases h'

section
variable {g : Nat} {w0 : World} {listed : Array Bool} {w : World} {Q : Exit → Act → World → Prop} {i : Nat} {o : Oper} {u : Nat → Value}
/-- What an operation that stands in the table waits for has come up. -/
theorem waited {t : Nat × Nat × List (Nat × Nat)} (hw : waits t = true) (hall : ∀ e ∈ (oper t.1).after, Region.binds .any e = true → listed.getD e.on false = true) : ∀ p ∈ t.2.2, listed.getD p.1 false = true := by
  intro p hp
  unfold waits at hw
  have h1 := List.all_eq_true.1 hw p hp
  obtain ⟨e, he, h2⟩ := Array.any_eq_true'.1 h1
  simp only [Bool.and_eq_true, beq_iff_eq] at h2
  rw [← h2.1]
  exact hall e he h2.2

theorem known {l : List (Nat × Nat × List (Nat × Nat))} (hl : l.all (fun t => t.2.2.all fun p => pureT.any fun s => s.1 == p.1 && s.2.1 == p.2) = true) {t : Nat × Nat × List (Nat × Nat)} (ht : t ∈ l)
    (h : InvU g w0 listed u w) (hw : waits t = true) (hall : ∀ e ∈ (oper t.1).after, Region.binds .any e = true → listed.getD e.on false = true) : fillv g (t.2.2.map (·.2)) u = u := by
  refine fillv_of fun d hd => ?_
  obtain ⟨p, hp, rfl⟩ := List.mem_map.1 hd
  obtain ⟨s, hs, h1, h2⟩ := deps_of hl ht hp
  have h3 := h.pure s hs (by rw [h1]; exact waited hw hall p hp)
  rw [h2] at h3
  exact h3

theorem step_pure {t : Nat × Nat × List (Nat × Nat)} (ht : t ∈ pureT) (h : InvU g w0 listed u w)
    (hu : listed.getD t.1 true = false) (hall : ∀ e ∈ (oper t.1).after, Region.binds .any e = true → listed.getD e.on false = true) :
    (execOp (mid g u).eval (oper t.1)).run Tryd.prog w = .ok (.value (val g t.2.1)) w ∧ InvU g w0 (listed.setIfInBounds t.1 true) (upd u t.2.1 (val g t.2.1)) w := by
  obtain ⟨⟨g1, g2, g3, g4, g5⟩, g6⟩ := all_of (goodP g) t ht
  obtain ⟨p1, p2, p3, p4, p5⟩ := pn ht
  have hrow : rowOf (upd u t.2.1 (val g t.2.1)) = rowOf u := rowOf_congr fun s hs => upd_other _ _ (Ne.symm (ps ht hs).2)
  have hr := g6 u w
  rw [known depP ht h g5 hall] at hr
  refine ⟨hr, ?_, h.below, fun s hs hc => ?_, fun s hs hc => ?_, fun hc => ?_, fun hc => ?_, fun hc => ?_⟩
  · rw [Array.size_setIfInBounds]; exact h.size
  · by_cases e : s.2.1 = t.2.1
    · rw [e, upd_same]
    · rw [upd_other _ _ e]
      rcases set_or hc with e1 | h1
      · exfalso
        have h2 := (all_of (goodP g) s hs).1.2.2.1
        rw [e1, g3] at h2
        injection h2 with h2
        exact e h2.symm
      · exact h.pure s hs h1
  · have hn := ps ht hs
    rw [upd_other _ _ (Ne.symm hn.2)]
    rw [set_ne (Ne.symm hn.1)] at hc
    exact h.slice s hs hc
  · rw [set_ne (Ne.symm p3)] at hc
    obtain ⟨h1, h2⟩ := h.row hc
    refine ⟨fun s hs => ?_, ?_⟩
    · rw [set_ne (Ne.symm (ps ht hs).1)]; exact h1 s hs
    · rw [upd_other _ _ (Ne.symm p2), hrow, h2]
  · rw [set_ne (Ne.symm p4)] at hc
    rw [upd_other _ _ (Ne.symm p1), set_ne (Ne.symm p5), hrow]
    exact h.box hc
  · rw [set_ne (Ne.symm p5)] at hc
    rw [set_ne (Ne.symm p3), set_ne (Ne.symm p4)]
    exact h.last hc

theorem step_slice {t : Nat × Nat × List (Nat × Nat)} (ht : t ∈ sliceT) (h : InvU g w0 listed u w)
    (hu : listed.getD t.1 true = false) (hall : ∀ e ∈ (oper t.1).after, Region.binds .any e = true → listed.getD e.on false = true) :
    ∃ v w', (execOp (mid g u).eval (oper t.1)).run Tryd.prog w = .ok (.value v) w' ∧ InvU g w0 (listed.setIfInBounds t.1 true) (upd u t.2.1 v) w' := by
  obtain ⟨⟨g1, g2, g3, g4, g5⟩, g6⟩ := all_of (goodS g) t ht
  obtain ⟨p1, p2, p3, p4, p5⟩ := sn ht
  have hr := g6 u w
  rw [known depS ht h g5 hall] at hr
  have hun := (getD_false hu).1
  have h111 : listed.getD 111 false = false := by
    cases hc : listed.getD 111 false with
    | false => rfl
    | true => exact (not_tt hun ((h.row hc).1 t ht)).elim
  have h113 : listed.getD 113 false = false := by
    cases hc : listed.getD 113 false with
    | false => rfl
    | true => exact (not_tt h111 (h.last hc).1).elim
  have hba := below_a w (.cells ((tabN (kindOf t.2.1)).flatMap (fv g)).toArray 85)
  refine ⟨_, _, hr, ?_, below_trans h.below hba, fun s hs hc => ?_, fun s hs hc => ?_, fun hc => ?_, fun hc => ?_, fun hc => ?_⟩
  · rw [Array.size_setIfInBounds]; exact h.size
  · have hn := ps hs ht
    rw [upd_other _ _ hn.2]
    rw [set_ne hn.1] at hc
    exact h.pure s hs hc
  · by_cases e : s.2.1 = t.2.1
    · rw [e, upd_same]
      exact ⟨w.heap.size, rfl, h.below.size, (Own.new w _ _).range⟩
    · rw [upd_other _ _ e]
      rw [set_ne (fun e1 => e ((ss hs ht).1 e1))] at hc
      exact (h.slice s hs hc).below hba
  · rw [set_ne (Ne.symm p3)] at hc
    exact (not_tt h111 hc).elim
  · rw [set_ne (Ne.symm p4)] at hc
    rw [upd_other _ _ (Ne.symm p1), set_ne (Ne.symm p5)]
    obtain ⟨b, h1, h2, h3, h4⟩ := h.box hc
    exact ⟨b, h1, h2, fun hc => (h3 hc).below hba, fun hc => (not_tt h113 hc).elim⟩
  · rw [set_ne (Ne.symm p5)] at hc
    exact (not_tt h113 hc).elim
end

/-- The last three: all lists in a row, a new variable for it, and the store. -/
def places : List Nat := sliceT.map (·.2.1)
def fills (bs ns : Nat → Nat) (u : Nat → Value) : Nat → Value := fun n => if places.contains n then .slice (some ⟨bs n, 0, none⟩) (ns n) (ns n) else u n
theorem op111' (g : Nat) (u : Nat → Value) (bs ns : Nat → Nat) (W : World) : (execOp (mid g (fills bs ns u)).eval (oper 111)).run Tryd.prog W = .ok (.value (.agg (rowOf (fills bs ns u)).toArray)) W := by kernel_rfl
theorem op111 (g : Nat) (u : Nat → Value) (hu : ∀ d ∈ places, ∃ b n, u d = .slice (some ⟨b, 0, none⟩) n n) (W : World) : (execOp (mid g u).eval (oper 111)).run Tryd.prog W = .ok (.value (.agg (rowOf u).toArray)) W := by
  have hx : ∀ d, ∃ b n, d ∈ places → u d = .slice (some ⟨b, 0, none⟩) n n := fun d => by
    by_cases hd : d ∈ places
    · obtain ⟨b, n, h⟩ := hu d hd
      exact ⟨b, n, fun _ => h⟩
    · exact ⟨0, 0, fun h => absurd h hd⟩
  have e : fills (fun d => Classical.choose (hx d)) (fun d => Classical.choose (Classical.choose_spec (hx d))) u = u := by
    funext d
    unfold fills
    split
    · rename_i hc
      exact (Classical.choose_spec (Classical.choose_spec (hx d)) (by simpa using hc)).symm
    · rfl
  have := op111' g u (fun d => Classical.choose (hx d)) (fun d => Classical.choose (Classical.choose_spec (hx d))) W
  rw [e] at this
  exact this
theorem op112 (g : Nat) (u : Nat → Value) (W : World) : (execOp (mid g u).eval (oper 112)).run Tryd.prog W = .ok (.value (.pointer (some ⟨W.heap.size, 0, none⟩))) (W.alloc (.cells nils.toArray 101)) := by kernel_rfl
theorem want111 (g : Nat) (u : Nat → Value) : Region.wanted (oper 111) (yielded fops (mid g u).tmps) = true ∧ (oper 111).dst = some 115 := ⟨by kernel_rfl, by kernel_rfl⟩
theorem want112 (g : Nat) (u : Nat → Value) : Region.wanted (oper 112) (yielded fops (mid g u).tmps) = true ∧ (oper 112).dst = some 3 := ⟨by kernel_rfl, by kernel_rfl⟩
theorem want113 (g : Nat) (u : Nat → Value) : Region.wanted (oper 113) (yielded fops (mid g u).tmps) = true ∧ (oper 113).dst = none ∧ (oper 113).op = .store 101 (.tmp 3) (.tmp 115) := ⟨by kernel_rfl, by kernel_rfl, by kernel_rfl⟩
theorem dep111 : sliceT.all (fun t => (oper 111).after.any fun e => e.on == t.1 && Region.binds .any e) = true := by kernel_rfl
theorem dep113 : ((oper 113).after.any (fun e => e.on == 111 && Region.binds .any e) && (oper 113).after.any (fun e => e.on == 112 && Region.binds .any e)) = true := by kernel_rfl
theorem infoRow : (Tryd.prog.info? 101).map (·.size) = some 12 := by kernel_rfl

theorem any_dep {os : Array Edge} {i : Nat} {listed : Array Bool} (h : os.any (fun e => e.on == i && Region.binds .any e) = true) (hall : ∀ e ∈ os, Region.binds .any e = true → listed.getD e.on false = true) : listed.getD i false = true := by
  obtain ⟨e, he, h2⟩ := Array.any_eq_true'.1 h
  simp only [Bool.and_eq_true, beq_iff_eq] at h2
  rw [← h2.1]
  exact hall e he h2.2
theorem nils_one : ∀ u ∈ nils, u.oneCell' = true := by
  intro u hu
  rw [List.eq_of_mem_replicate hu]
  rfl
theorem rowOf_one {u : Nat → Value} (hu : ∀ d ∈ places, ∃ b n, u d = .slice (some ⟨b, 0, none⟩) n n) : ∀ v ∈ rowOf u, v.oneCell' = true := by
  intro v hv
  unfold rowOf at hv
  rcases List.mem_cons.1 hv with rfl | hv
  · rfl
  · obtain ⟨t, ht, rfl⟩ := List.mem_map.1 hv
    obtain ⟨b, n, h⟩ := hu t.2.1 (List.mem_map.2 ⟨t, ht, rfl⟩)
    rw [h]
    rfl
theorem kind_ne : sliceT.all (fun t => (tabN (kindOf t.2.1)).length != 0) = true := by decide +kernel

section
variable {g : Nat} {w0 : World} {listed : Array Bool} {w : World} {Q : Exit → Act → World → Prop} {u : Nat → Value}
theorem InvU.slices (h : InvU g w0 listed u w) (hall : ∀ t ∈ sliceT, listed.getD t.1 false = true) : ∀ d ∈ places, ∃ b n, u d = .slice (some ⟨b, 0, none⟩) n n := by
  intro d hd
  obtain ⟨t, ht, rfl⟩ := List.mem_map.1 hd
  obtain ⟨b, h1, _⟩ := h.slice t ht (hall t ht)
  exact ⟨b, _, h1⟩

theorem step_row (h : InvU g w0 listed u w) (hu : listed.getD 111 true = false) (hall : ∀ e ∈ (oper 111).after, Region.binds .any e = true → listed.getD e.on false = true) :
    (execOp (mid g u).eval (oper 111)).run Tryd.prog w = .ok (.value (.agg (rowOf u).toArray)) w ∧ InvU g w0 (listed.setIfInBounds 111 true) (upd u 115 (.agg (rowOf u).toArray)) w := by
  have hs : ∀ t ∈ sliceT, listed.getD t.1 false = true := fun t ht => any_dep (List.all_eq_true.1 dep111 t ht) hall
  have hrow : rowOf (upd u 115 (.agg (rowOf u).toArray)) = rowOf u := rowOf_congr fun s hs => upd_other _ _ (sn hs).2.1
  have hun := (getD_false hu).1
  have h113 : listed.getD 113 false = false := by
    cases hc : listed.getD 113 false with
    | false => rfl
    | true => exact (not_tt hun (h.last hc).1).elim
  refine ⟨op111 g u (h.slices hs) w, ?_, h.below, fun s hs hc => ?_, fun s hs hc => ?_, fun hc => ?_, fun hc => ?_, fun hc => ?_⟩
  · rw [Array.size_setIfInBounds]; exact h.size
  · rw [set_ne (pn hs).2.2.1] at hc
    rw [upd_other _ _ (pn hs).2.1]
    exact h.pure s hs hc
  · rw [set_ne (sn hs).2.2.1] at hc
    rw [upd_other _ _ (sn hs).2.1]
    exact h.slice s hs hc
  · refine ⟨fun s hs' => ?_, ?_⟩
    · rw [set_ne (sn hs').2.2.1]; exact hs s hs'
    · rw [upd_same, hrow]
  · rw [set_ne (by omega)] at hc
    rw [upd_other _ _ (by omega), set_ne (by omega), hrow]
    exact h.box hc
  · rw [set_ne (by omega)] at hc
    exact (not_tt h113 hc).elim

theorem step_box (h : InvU g w0 listed u w) (hu : listed.getD 112 true = false) :
    ∃ v w', (execOp (mid g u).eval (oper 112)).run Tryd.prog w = .ok (.value v) w' ∧ InvU g w0 (listed.setIfInBounds 112 true) (upd u 3 v) w' := by
  have hun := (getD_false hu).1
  have h113 : listed.getD 113 false = false := by
    cases hc : listed.getD 113 false with
    | false => rfl
    | true => exact (not_tt hun (h.last hc).2).elim
  have hba := below_a w (.cells nils.toArray 101)
  have hrow : ∀ v, rowOf (upd u 3 v) = rowOf u := fun v => rowOf_congr fun s hs => upd_other _ _ (sn hs).1
  refine ⟨_, _, op112 g u w, ?_, below_trans h.below hba, fun s hs hc => ?_, fun s hs hc => ?_, fun hc => ?_, fun hc => ?_, fun hc => ?_⟩
  · rw [Array.size_setIfInBounds]; exact h.size
  · rw [set_ne (pn hs).2.2.2.1] at hc
    rw [upd_other _ _ (pn hs).1]
    exact h.pure s hs hc
  · rw [set_ne (sn hs).2.2.2.1] at hc
    rw [upd_other _ _ (sn hs).1]
    exact (h.slice s hs hc).below hba
  · rw [set_ne (by omega)] at hc
    obtain ⟨h1, h2⟩ := h.row hc
    refine ⟨fun s hs' => ?_, ?_⟩
    · rw [set_ne (sn hs').2.2.2.1]; exact h1 s hs'
    · rw [upd_other _ _ (by omega), hrow, h2]
  · refine ⟨w.heap.size, upd_same _ _ _, h.below.size, fun _ => Own.new w nils _, fun hc => ?_⟩
    rw [set_ne (by omega)] at hc
    exact (not_tt h113 hc).elim
  · rw [set_ne (by omega)] at hc
    exact (not_tt h113 hc).elim

theorem step_store (h : InvU g w0 listed u w) (hu : listed.getD 113 true = false) (hall : ∀ e ∈ (oper 113).after, Region.binds .any e = true → listed.getD e.on false = true) (K : Act → World → Prop)
    (hK : ∀ w', InvU g w0 (listed.setIfInBounds 113 true) u w' → K (mid g u) w') : (oper 113).wp Tryd.prog (mid g u) w K Q := by
  have hd := dep113
  simp only [Bool.and_eq_true] at hd
  have h111 := any_dep hd.1 hall
  have h112 := any_dep hd.2 hall
  have hun := (getD_false hu).1
  obtain ⟨hs, hr⟩ := h.row h111
  obtain ⟨b, h1, h2, h3, h4⟩ := h.box h112
  have hown := h3 hun
  obtain ⟨_, hw2, hw3⟩ := want113 g u
  have hone := rowOf_one (h.slices hs)
  have hlen : (rowOf u).length = 12 := rfl
  refine wp_store_mid 101 (.tmp 3) (.tmp 115) hw3 b 0 (rowOf u).toArray h1 hr (by rw [List.size_toArray]; exact hown.there) (by rw [List.size_toArray]; exact infoRow) (all_oneCell_toArray hone) ?_
  rw [hw2]
  show K (mid g u) _
  refine hK _ ⟨?_, ?_, fun s hs hc => ?_, fun s hs' hc => ?_, fun hc => ?_, fun hc => ?_, fun hc => ?_⟩
  · rw [Array.size_setIfInBounds]; exact h.size
  · exact v_below_g h.below (v_g_setCells b _ 0 w) h.below.size h2
  · rw [set_ne (pn hs).2.2.2.2] at hc
    exact h.pure s hs hc
  · obtain ⟨c, c1, c2, c3⟩ := h.slice s hs' (hs s hs')
    refine ⟨c, c1, c2, fun j v hv => ?_⟩
    have hc3 := c3 j v hv
    have hne : c ≠ b := by
      rintro rfl
      have hl := List.all_eq_true.1 kind_ne s hs'
      cases hk : tabN (kindOf s.2.1) with
      | nil => rw [hk] at hl; simp at hl
      | cons f r =>
        have h0 := c3 0 _ (show (List.flatMap (fv g) (tabN (kindOf s.2.1)))[0]? = some (.iface (pt f.1) (.pointer (some ⟨g, f.1, none⟩))) from by rw [hk]; rfl)
        have h5 := (hown 0 (by decide)).1
        rw [Nat.zero_add] at h0
        rw [h0] at h5
        cases h5
    refine ((v_g_setCells b _ 0 w).cell_far _ (World.block_lt_of_cell? w _ hc3) ?_).trans hc3
    simpa using hne
  · refine ⟨fun s hs' => ?_, hr⟩
    rw [set_ne (sn hs').2.2.2.2]
    exact hs s hs'
  · refine ⟨b, h1, h2, fun hc => ?_, fun _ => ?_⟩
    · rw [set_eq (by rw [h.size]; omega)] at hc; cases hc
    · exact (hown.put (vs := rowOf u) rfl).range
  · rw [set_ne (by omega), set_ne (by omega)]
    exact ⟨h111, h112⟩

/-- What holds where that region begins. -/
theorem inv_start (w0 : World) (hg : True) : InvU g w0 (Array.replicate 114 false) (fun _ => undef) w0 := by
  have hf : ∀ i, (Array.replicate 114 false).getD i false = false := fun i => by
    simp only [Array.getD_eq_getD_getElem?, Array.getElem?_replicate]
    split <;> rfl
  exact ⟨by simp, Below.refl _ _, fun t _ hc => (not_tt (hf _) hc).elim, fun t _ hc => (not_tt (hf _) hc).elim, fun hc => (not_tt (hf _) hc).elim, fun hc => (not_tt (hf _) hc).elim, fun hc => (not_tt (hf _) hc).elim⟩

/-- What stands behind it. -/
theorem fields_region {id : Nat} (w : World) (hm : Tryd.prog.follows .mixedOrders = true)
    (h : ∀ (u : Nat → Value) (b : Nat) (w' : World), Below w.heap.size w w' → (∀ t ∈ sliceT, SL w w' g (u t.2.1) (tabN (kindOf t.2.1))) → u 3 = .pointer (some ⟨b, 0, none⟩) → w'.rangeAt b 0 (rowOf u) → Q .normal (mid g u) w') :
    (Code.region id fops true).wp Tryd.prog Q (mid g fun _ => undef) w := by
  refine wp_region_held_drew (S := fun _ => True) hm trivial fun _ => ?_
  refine wpAnyH_inv (fun listed a w' => ∃ u, a = mid g u ∧ InvU g w.drew listed u w') fops_ahead ?_ ?_ ?_ _ _ _ _ ⟨_, rfl, by rw [fops_size]; exact inv_start _ trivial⟩ ?_
  · rintro listed a w' ⟨u, rfl, hi⟩
    exact ⟨by rw [hi.size, fops_size], trivial⟩
  · rintro listed a w' ⟨u, rfl, hi⟩ hall
    have hall' : ∀ i, i < 114 → listed.getD i false = true := fun i hlt => by
      have := hall i (by rw [fops_size]; exact hlt)
      rw [getD_of (by rw [hi.size]; exact hlt)] at this ⊢
      exact this
    obtain ⟨b, h1, h2, h3, h4⟩ := hi.box (hall' 112 (by omega))
    have h111 := hi.row (hall' 111 (by omega))
    exact h u b w' ((Below.refl _ _).drew.trans hi.below) (fun t ht => hi.slice t ht (h111.1 t ht)) h1 (h4 (hall' 113 (by omega)))
  · rintro listed a w' i o ⟨u, rfl, hi⟩ hun ho hdep
    have hlt : i < 114 := by rw [← fops_size]; exact (Array.getElem?_eq_some_iff.1 ho).1
    obtain rfl : oper i = o := by unfold oper; rw [ho]; rfl
    have hc := List.all_eq_true.1 cover i (List.mem_range.2 hlt)
    simp only [Bool.or_eq_true, List.any_eq_true, beq_iff_eq] at hc
    rcases hc with (((⟨t, ht, rfl⟩ | ⟨t, ht, rfl⟩) | rfl) | rfl) | rfl
    · obtain ⟨⟨g1, g2, g3, g4, g5⟩, _⟩ := all_of (goodP g) t ht
      obtain ⟨hr, hv⟩ := step_pure ht hi hun hdep
      refine wpOp_of ho (g4 u) ?_
      unfold Oper.wp
      rw [hr, Oper.upon_value, g3]
      exact ⟨_, mid_put g u _ g1 g2, hv⟩
    · obtain ⟨⟨g1, g2, g3, g4, g5⟩, _⟩ := all_of (goodS g) t ht
      obtain ⟨v, w2, hr, hv⟩ := step_slice ht hi hun hdep
      refine wpOp_of ho (g4 u) ?_
      unfold Oper.wp
      rw [hr, Oper.upon_value, g3]
      exact ⟨_, mid_put g u _ g1 g2, hv⟩
    · obtain ⟨hr, hv⟩ := step_row hi hun hdep
      obtain ⟨g4, g3⟩ := want111 g u
      refine wpOp_of ho g4 ?_
      unfold Oper.wp
      rw [hr, Oper.upon_value, g3]
      exact ⟨_, mid_put g u _ (by omega) (by omega), hv⟩
    · obtain ⟨v, w2, hr, hv⟩ := step_box hi hun
      obtain ⟨g4, g3⟩ := want112 g u
      refine wpOp_of ho g4 ?_
      unfold Oper.wp
      rw [hr, Oper.upon_value, g3]
      exact ⟨_, mid_put g u _ (by omega) (by omega), hv⟩
    · refine wpOp_of ho (want113 g u).1 ?_
      exact step_store hi hun hdep _ fun w2 hv => ⟨_, rfl, hv⟩
  · rw [fops_size]
    decide +kernel
end
end Go.Proofs.YtbbpemndkphgeaaDoor

namespace Go.Proofs.YtbbpemndkphgeaaDoor
set_option linter.unusedVariables false
set_option linter.unusedSimpArgs false
open Go.RowKit

/-- The slice '.slice A n c' holds the fields l of the option in block g. -/
def FL (w : World) (A : Option Addr) (n c g : Nat) (l : List (Nat × Nat)) : Prop :=
  l.length = n ∧ n ≤ c ∧ c ≤ maxLen ∧ (0 < n → ∃ b o, A = some ⟨b, o, none⟩ ∧ b ≠ g ∧ ∀ j, j < n → w.rangeAt b (o + j * 2) (fv g (l.getD j (0, 0))))
section
variable {w w' : World} {A : Option Addr} {n c g : Nat} {l : List (Nat × Nat)}
theorem FL.len (h : FL w A n c g l) : l.length = n := h.1
theorem FL.cap (h : FL w A n c g l) : n ≤ c := h.2.1
theorem FL.max (h : FL w A n c g l) : c ≤ 9223372036854775807 := by have := h.2.2.1; unfold maxLen at this; omega
theorem FL.at_ (h : FL w A n c g l) {j : Nat} (hj : j < n) : ∃ b o, A = some ⟨b, o, none⟩ ∧ w.rangeAt b (o + j * 2) (fv g (l.getD j (0, 0))) := by
  obtain ⟨b, o, e, _, hc⟩ := h.2.2.2 (by omega)
  exact ⟨b, o, e, hc j hj⟩
theorem FL.far {row : Option Nat} (h : FL w A n c g l) (hg : w.grownBy w' row) (hne : row = none ∨ row = some g) : FL w' A n c g l :=
  ⟨h.1, h.2.1, h.2.2.1, fun hn => by
    obtain ⟨b, o, e, hb, hc⟩ := h.2.2.2 hn
    refine ⟨b, o, e, hb, fun j hj i v hv => ?_⟩
    have := hc j hj i v hv
    refine (hg.cell_far _ (World.block_lt_of_cell? w _ this) ?_).trans this
    rcases hne with rfl | rfl
    · simp
    · simpa using hb⟩
theorem FL.below (h : FL w A n c g l) (hb : Below w.heap.size w w') : FL w' A n c g l := h.far (v_g_below hb none) (.inl rfl)
theorem FL.put (h : FL w A n c g l) (hb : w.grownBy w' (some g)) : FL w' A n c g l := h.far hb (.inr rfl)
theorem FL.nil_ (w : World) (g : Nat) : FL w none 0 0 g [] := ⟨rfl, Nat.le_refl _, Nat.zero_le _, fun h => absurd h (by omega)⟩
end

/-- What fields leaves. -/
def FieldsMade (W : World) (g : Nat) (l : List (Nat × Nat)) (e : Ending) (w' : World) : Prop :=
  ∃ A c, e = .returned (.slice A l.length c) ∧ FL w' A l.length c g l ∧ Below W.heap.size W w'

theorem mid_lit (g : Nat) (u : Nat → Value) : mid g u = { tmps := #[.pointer (some ⟨g, 0, none⟩), undef, .slice none 0 0, u 3, u 4, u 5, u 6, u 7, u 8, u 9, u 10, u 11, u 12, u 13, u 14, u 15, u 16, u 17, u 18, u 19, u 20, u 21, u 22, u 23, u 24, u 25, u 26, u 27, u 28, u 29, u 30, u 31, u 32, u 33, u 34, u 35, u 36, u 37, u 38, u 39, u 40, u 41, u 42, u 43, u 44, u 45, u 46, u 47, u 48, u 49, u 50, u 51, u 52, u 53, u 54, u 55, u 56, u 57, u 58, u 59, u 60, u 61, u 62, u 63, u 64, u 65, u 66, u 67, u 68, u 69, u 70, u 71, u 72, u 73, u 74, u 75, u 76, u 77, u 78, u 79, u 80, u 81, u 82, u 83, u 84, u 85, u 86, u 87, u 88, u 89, u 90, u 91, u 92, u 93, u 94, u 95, u 96, u 97, u 98, u 99, u 100, u 101, u 102, u 103, u 104, u 105, u 106, u 107, u 108, u 109, u 110, u 111, u 112, u 113, u 114, u 115, undef, undef, undef, undef, undef, undef, undef, undef, undef, undef, undef, undef, undef, undef, undef, undef, undef, undef], defers := [] } := by kernel_rfl
theorem fields_region' {id : Nat} {ops : Array Oper} {a : Act} {Q : Exit → Act → World → Prop} (g : Nat) (w : World) (ho : ops = fops) (ha : a = mid g fun _ => undef) (hm : Tryd.prog.follows .mixedOrders = true)
    (h : ∀ (u : Nat → Value) (b : Nat) (w' : World), Below w.heap.size w w' → (∀ t ∈ sliceT, SL w w' g (u t.2.1) (tabN (kindOf t.2.1))) → u 3 = .pointer (some ⟨b, 0, none⟩) → w'.rangeAt b 0 (rowOf u) → Q .normal (mid g u) w') :
    (Code.region id ops true).wp Tryd.prog Q a w := by
  subst ho ha
  exact fields_region w hm h
/-- A slice of a kind's fields is the slice of fields. -/
theorem flat_at (g : Nat) : ∀ (l : List (Nat × Nat)) (j : Nat) (i : Nat), j < l.length → i < 2 → (l.flatMap (fv g))[j * 2 + i]? = (fv g (l.getD j (0, 0)))[i]?
  | [], j, i, hj, _ => absurd hj (by simp)
  | f :: r, 0, i, _, hi => by
    rw [List.flatMap_cons, List.getElem?_append_left (by simp [fv]; omega)]
    simp
  | f :: r, j + 1, i, hj, hi => by
    have := flat_at g r j i (by simpa using hj) hi
    rw [List.flatMap_cons, List.getElem?_append_right (by simp [fv]; omega), show (j + 1) * 2 + i - (fv g f).length = j * 2 + i from by simp [fv]; omega, this]
    simp
theorem SL.fl {w0 w : World} {g : Nat} {v : Value} {l : List (Nat × Nat)} (h : SL w0 w g v l) (hg : g < w0.heap.size) (hl : l.length ≤ 6) : ∃ b, v = .slice (some ⟨b, 0, none⟩) l.length l.length ∧ FL w (some ⟨b, 0, none⟩) l.length l.length g l := by
  obtain ⟨b, h1, h2, h3⟩ := h
  refine ⟨b, h1, rfl, Nat.le_refl _, by unfold maxLen; omega, fun _ => ⟨b, 0, rfl, by omega, fun j hj i v hv => ?_⟩⟩
  have hi : i < 2 := (List.getElem?_eq_some_iff.1 hv).1
  have h4 := h3 (j * 2 + i) v (by rw [flat_at g l j i hj hi]; exact hv)
  rw [show 0 + j * 2 + i = 0 + (j * 2 + i) from by omega]
  exact h4

theorem slice_of {w0 w : World} {g : Nat} {u : Nat → Value} (h : ∀ t ∈ sliceT, SL w0 w g (u t.2.1) (tabN (kindOf t.2.1))) {d : Nat} (hd : d ∈ places) : SL w0 w g (u d) (tabN (kindOf d)) := by
  obtain ⟨t, ht, rfl⟩ := List.mem_map.1 hd
  exact h t ht

set_option maxRecDepth 100000 in
set_option maxHeartbeats 3200000 in
theorem fields_any (g : Nat) (o : Opt) (w : World) (h : Own w g o.vals) :
    Calls Tryd.prog 53 #[.pointer (some ⟨g, 0, none⟩)] w (FieldsMade w g (tab o.kind)) := by
  have hl := h.lt (Nat.zero_lt_succ _)
  go_enter Tryd.func53, Tryd.ntmps53
  go_wp2_with fail
  refine fields_region' g w (by kernel_rfl) (by kernel_rfl) (by kernel_rfl) fun u b w1 hb hs h3 hr => ?_
  rw [mid_lit, h3]
  clear h3
  have hk := ((h.below hb) 0 (Nat.zero_lt_succ _)).1
  rw [show o.vals[0]? = some (.int .i64 o.kind) from rfl] at hk
  generalize o.kind = k at *
  have hg := Lib.hid hl
  have HS := Lib.hid hs
  have HR := Lib.hid hr
  have HB := Lib.hid hb
  clear h hs hr hl hb
  rcases kind_or k with hc | hc | hc | hc | hc | hc | hc | hc | hc | hc | hc | hc | hc | hc
  · go_wp2
    go_ret
    rw [tab_neg hc]
    exact ⟨none, 0, rfl, FL.nil_ _ _, HB.out⟩
  · have hc' : ¬ k < 0 := by omega
    go_wp2
    go_ret
    rw [tab_far hc]
    exact ⟨none, 0, rfl, FL.nil_ _ _, HB.out⟩
  · subst hc
    have hcell := HR.out 0 _ rfl
    rw [Nat.zero_add] at hcell
    go_wp2
    go_ret
    exact ⟨none, 0, rfl, FL.nil_ _ _, HB.out⟩
  · subst hc
    have hcell : w1.cell? ⟨b, 1, none⟩ = some (u 9) := by have := HR.out 1 _ rfl; rw [Nat.zero_add] at this; exact this
    obtain ⟨c, hv, hfl⟩ := (slice_of HS.out (d := 9) (by decide)).fl hg.out (fine_tabN _).2.1
    have hv' : u 9 = .slice (some ⟨c, 0, none⟩) (tabN 1).length (tabN 1).length := hv
    have HF := Lib.hid hfl
    have e : (tabN 1).length = 1 := rfl
    rw [hv', e] at hcell
    clear hfl hv hv' e
    go_wp2
    go_ret
    exact ⟨_, _, rfl, HF.out, HB.out⟩
  · subst hc
    have hcell : w1.cell? ⟨b, 2, none⟩ = some (u 30) := by have := HR.out 2 _ rfl; rw [Nat.zero_add] at this; exact this
    obtain ⟨c, hv, hfl⟩ := (slice_of HS.out (d := 30) (by decide)).fl hg.out (fine_tabN _).2.1
    have hv' : u 30 = .slice (some ⟨c, 0, none⟩) (tabN 2).length (tabN 2).length := hv
    have HF := Lib.hid hfl
    have e : (tabN 2).length = 4 := rfl
    rw [hv', e] at hcell
    clear hfl hv hv' e
    go_wp2
    go_ret
    exact ⟨_, _, rfl, HF.out, HB.out⟩
  · subst hc
    have hcell : w1.cell? ⟨b, 3, none⟩ = some (u 41) := by have := HR.out 3 _ rfl; rw [Nat.zero_add] at this; exact this
    obtain ⟨c, hv, hfl⟩ := (slice_of HS.out (d := 41) (by decide)).fl hg.out (fine_tabN _).2.1
    have hv' : u 41 = .slice (some ⟨c, 0, none⟩) (tabN 3).length (tabN 3).length := hv
    have HF := Lib.hid hfl
    have e : (tabN 3).length = 2 := rfl
    rw [hv', e] at hcell
    clear hfl hv hv' e
    go_wp2
    go_ret
    exact ⟨_, _, rfl, HF.out, HB.out⟩
  · subst hc
    have hcell : w1.cell? ⟨b, 4, none⟩ = some (u 47) := by have := HR.out 4 _ rfl; rw [Nat.zero_add] at this; exact this
    obtain ⟨c, hv, hfl⟩ := (slice_of HS.out (d := 47) (by decide)).fl hg.out (fine_tabN _).2.1
    have hv' : u 47 = .slice (some ⟨c, 0, none⟩) (tabN 4).length (tabN 4).length := hv
    have HF := Lib.hid hfl
    have e : (tabN 4).length = 1 := rfl
    rw [hv', e] at hcell
    clear hfl hv hv' e
    go_wp2
    go_ret
    exact ⟨_, _, rfl, HF.out, HB.out⟩
  · subst hc
    have hcell : w1.cell? ⟨b, 5, none⟩ = some (u 78) := by have := HR.out 5 _ rfl; rw [Nat.zero_add] at this; exact this
    obtain ⟨c, hv, hfl⟩ := (slice_of HS.out (d := 78) (by decide)).fl hg.out (fine_tabN _).2.1
    have hv' : u 78 = .slice (some ⟨c, 0, none⟩) (tabN 5).length (tabN 5).length := hv
    have HF := Lib.hid hfl
    have e : (tabN 5).length = 6 := rfl
    rw [hv', e] at hcell
    clear hfl hv hv' e
    go_wp2
    go_ret
    exact ⟨_, _, rfl, HF.out, HB.out⟩
  · subst hc
    have hcell : w1.cell? ⟨b, 6, none⟩ = some (u 84) := by have := HR.out 6 _ rfl; rw [Nat.zero_add] at this; exact this
    obtain ⟨c, hv, hfl⟩ := (slice_of HS.out (d := 84) (by decide)).fl hg.out (fine_tabN _).2.1
    have hv' : u 84 = .slice (some ⟨c, 0, none⟩) (tabN 6).length (tabN 6).length := hv
    have HF := Lib.hid hfl
    have e : (tabN 6).length = 1 := rfl
    rw [hv', e] at hcell
    clear hfl hv hv' e
    go_wp2
    go_ret
    exact ⟨_, _, rfl, HF.out, HB.out⟩
  · subst hc
    have hcell : w1.cell? ⟨b, 7, none⟩ = some (u 90) := by have := HR.out 7 _ rfl; rw [Nat.zero_add] at this; exact this
    obtain ⟨c, hv, hfl⟩ := (slice_of HS.out (d := 90) (by decide)).fl hg.out (fine_tabN _).2.1
    have hv' : u 90 = .slice (some ⟨c, 0, none⟩) (tabN 7).length (tabN 7).length := hv
    have HF := Lib.hid hfl
    have e : (tabN 7).length = 1 := rfl
    rw [hv', e] at hcell
    clear hfl hv hv' e
    go_wp2
    go_ret
    exact ⟨_, _, rfl, HF.out, HB.out⟩
  · subst hc
    have hcell : w1.cell? ⟨b, 8, none⟩ = some (u 96) := by have := HR.out 8 _ rfl; rw [Nat.zero_add] at this; exact this
    obtain ⟨c, hv, hfl⟩ := (slice_of HS.out (d := 96) (by decide)).fl hg.out (fine_tabN _).2.1
    have hv' : u 96 = .slice (some ⟨c, 0, none⟩) (tabN 8).length (tabN 8).length := hv
    have HF := Lib.hid hfl
    have e : (tabN 8).length = 1 := rfl
    rw [hv', e] at hcell
    clear hfl hv hv' e
    go_wp2
    go_ret
    exact ⟨_, _, rfl, HF.out, HB.out⟩
  · subst hc
    have hcell : w1.cell? ⟨b, 9, none⟩ = some (u 102) := by have := HR.out 9 _ rfl; rw [Nat.zero_add] at this; exact this
    obtain ⟨c, hv, hfl⟩ := (slice_of HS.out (d := 102) (by decide)).fl hg.out (fine_tabN _).2.1
    have hv' : u 102 = .slice (some ⟨c, 0, none⟩) (tabN 9).length (tabN 9).length := hv
    have HF := Lib.hid hfl
    have e : (tabN 9).length = 1 := rfl
    rw [hv', e] at hcell
    clear hfl hv hv' e
    go_wp2
    go_ret
    exact ⟨_, _, rfl, HF.out, HB.out⟩
  · subst hc
    have hcell : w1.cell? ⟨b, 10, none⟩ = some (u 108) := by have := HR.out 10 _ rfl; rw [Nat.zero_add] at this; exact this
    obtain ⟨c, hv, hfl⟩ := (slice_of HS.out (d := 108) (by decide)).fl hg.out (fine_tabN _).2.1
    have hv' : u 108 = .slice (some ⟨c, 0, none⟩) (tabN 10).length (tabN 10).length := hv
    have HF := Lib.hid hfl
    have e : (tabN 10).length = 1 := rfl
    rw [hv', e] at hcell
    clear hfl hv hv' e
    go_wp2
    go_ret
    exact ⟨_, _, rfl, HF.out, HB.out⟩
  · subst hc
    have hcell : w1.cell? ⟨b, 11, none⟩ = some (u 114) := by have := HR.out 11 _ rfl; rw [Nat.zero_add] at this; exact this
    obtain ⟨c, hv, hfl⟩ := (slice_of HS.out (d := 114) (by decide)).fl hg.out (fine_tabN _).2.1
    have hv' : u 114 = .slice (some ⟨c, 0, none⟩) (tabN 11).length (tabN 11).length := hv
    have HF := Lib.hid hfl
    have e : (tabN 11).length = 1 := rfl
    rw [hv', e] at hcell
    clear hfl hv hv' e
    go_wp2
    go_ret
    exact ⟨_, _, rfl, HF.out, HB.out⟩
end Go.Proofs.YtbbpemndkphgeaaDoor
