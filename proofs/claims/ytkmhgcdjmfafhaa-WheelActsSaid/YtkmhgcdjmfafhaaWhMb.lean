/- Sets of handles, as maps to truths. No condition. -/
import Derived.Test.YtkmhgcdjmfafhaaWhSt
namespace Go.Proofs.Ytkmhgcdjmfafhaa
set_option linter.unusedVariables false
set_option linter.unusedSimpArgs false
open Go.RowKit

/-- Block mb is a map that has the handles R, each once, each true. -/
def MapB (w : World) (mb : Nat) (R : List Int) : Prop :=
  ∃ D : DataW Unit, w.ownsMap Try.prog 3 (plainElem Try.prog 4) mb R.length D ∧ Maps.size D = R.length ∧ (∀ h, isI h → Maps.has D (.int .i64 h) = decide (h ∈ R))

theorem pl_false {P : Program} {e : TypeId} (he : P.underlying e = some .bool) {v : Value} {ps : List MemPlace} (h : plainElem (H := Unit) P e v = some (.lit (.bool false), ps)) : v = .bool false := by
  unfold plainElem at h
  rw [he] at h
  cases v with
  | bool x =>
    simp at h
    rw [h.1]
  | _ => simp at h
theorem peB_false {v : Value} {ps : List MemPlace} (h : plainElem (H := Unit) Try.prog 4 v = some (.lit (.bool false), ps)) : v = .bool false := pl_false Try.underlying4 h

section
variable {w w' : World} {mb : Nat} {R : List Int}
theorem MapB.lt (h : MapB w mb R) : mb < w.heap.size := h.elim fun _ h => h.1.lt
theorem MapB.keep (h : MapB w mb R) (e : w'.heap[mb]? = w.heap[mb]?) : MapB w' mb R := by
  obtain ⟨D, ⟨es, cl, hb, rest⟩, r2⟩ := h
  exact ⟨D, ⟨es, cl, e.trans hb, rest⟩, r2⟩
theorem MapB.made (w : World) : MapB (w.alloc (.map #[] 0)) w.heap.size [] :=
  ⟨.map [], World.ownsMap_made w _ _ _, rfl, fun _ _ => rfl⟩
theorem MapB.look (hM : MapB w mb R) {h : Int} (i : isI h) (hR : h ∉ R) (W : World) (hW : W.heap = w.heap) : (Instr.lookup 55 (.map (some mb)) (.int .i64 h) false).run Try.prog W = .ok (.bool false) W := by
  obtain ⟨D, hown, _, h1⟩ := hM.keep (w' := W) (by rw [hW])
  obtain ⟨v, ps, hrun, hv⟩ := hown.lookup keyInt Try.underlying55 (Try.zeroValue4 W) (plainElem_bool Try.underlying4 false) (keyOfInt i)
  have h2 := h1 h i
  rw [decide_eq_false hR] at h2
  rw [Maps.atKey_of_not_has h2] at hv
  rw [peB_false hv] at hrun
  exact hrun
end

section
variable {w : World} {ops : Array Oper} {rest : List Oper} {o : Oper} {a : Act} {Q : Exit → Act → World → Prop} {mb : Nat} {R : List Int}
theorem wpList_putB (hg : o.guard = none) (m x v : Operand) (hop : o.op = Op.mapUpdate 55 m x v) (hm : a.eval m = .map (some mb)) (hM : MapB w mb R) {h : Int} (i : isI h) (hx : a.eval x = .int .i64 h) (hR : h ∉ R) (hv : a.eval v = .bool true) (hn : R.length ≤ 1099511627776)
    (hK : ∀ w', MapB w' mb (R ++ [h]) → w.mapTurned w' mb → wpList Try.prog ops Q rest (a.put o.dst undef) w') :
    wpList Try.prog ops Q (o :: rest) a w := by
  obtain ⟨D, hown, hsz, h1⟩ := hM
  refine wpList_mapUpdate_in w hg m x v 55 hop 3 4 keyInt Try.underlying55 (plainElem Try.prog 4) mb R.length D hm hown (by unfold maxLen; omega) (.int .i64 h) (.bool true) (.int .i64 h) hx hv (keyOfInt i) _ [] (plainElem_bool Try.underlying4 true) fun w' hown' ht => hK w' ?_ ht
  have hs := Maps.size_put (k := .int .i64 h) (hown.tidy keyInt) (.lit (.bool true))
  rw [h1 h i, decide_eq_false hR, hsz] at hs
  simp at hs
  refine ⟨_, by rw [List.length_append]; exact hown', by rw [List.length_append]; exact hs, fun k ik => ?_⟩
  by_cases e : k = h
  · subst e
    rw [Maps.has_put_same hown.isMap (isKeyI k i)]
    simp
  · rw [Maps.has_put_other (fun e' => e (by injection e')), h1 k ik]
    simp [e]
theorem wpList_lenB (hg : o.guard = none) (m : Operand) (hop : o.op = Op.call { callee := Callee.builtin Builtin.len, args := #[m], argTypes := #[55] }) (hm : a.eval m = .map (some mb)) (hM : MapB w mb R)
    (hK : wpList Try.prog ops Q rest (a.put o.dst (.int .i64 (R.length : Int))) w) :
    wpList Try.prog ops Q (o :: rest) a w := by
  obtain ⟨D, hown, hsz, _⟩ := hM
  refine wpList_len_own w hg m 55 hop 3 4 Try.underlying55 (plainElem Try.prog 4) mb R.length D hm hown ?_
  rw [hsz]
  exact hK
end

/-- l without the handles R. -/
def lw (l : List (Int × Int)) (R : List Int) : List (Int × Int) := l.filter (fun p => decide (p.1 ∉ R))
theorem mem_lw {l : List (Int × Int)} {R : List Int} {p : Int × Int} : p ∈ lw l R ↔ p ∈ l ∧ p.1 ∉ R := by
  unfold lw
  rw [List.mem_filter, decide_eq_true_iff]
theorem lw_nil (l : List (Int × Int)) : lw l [] = l := by
  unfold lw
  rw [List.filter_eq_self]
  intro p _
  simp
theorem lw_wo (l : List (Int × Int)) (R : List Int) (x : Int) : woL (lw l R) x = lw l (R ++ [x]) := by
  unfold woL lw
  rw [List.filter_filter]
  refine List.filter_congr fun p _ => ?_
  by_cases h1 : p.1 = x <;> by_cases h2 : p.1 ∈ R <;> simp [h1, h2]
theorem lw_wo_none {l : List (Int × Int)} {R : List Int} {x : Int} (h : ∀ p ∈ lw l R, p.1 ≠ x) : woL (lw l R) x = lw l R := by
  unfold woL
  rw [List.filter_eq_self]
  intro p hp
  simpa using h p hp
theorem lw_len {l : List (Int × Int)} {R : List Int} (hd : ∀ p q, p ∈ l → q ∈ l → p.1 = q.1 → p = q) (hl : l.Nodup) (hR : R.Nodup) (hs : ∀ x ∈ R, ∃ p ∈ l, p.1 = x) : (lw l R).length + R.length = l.length := by
  have h1 : ∀ l : List (Int × Int), (l.filter fun p => decide (p.1 ∈ R)).length + (lw l R).length = l.length := fun l => by
    induction l with
    | nil => rfl
    | cons p l ih =>
      unfold lw at *
      by_cases h : p.1 ∈ R <;> simp [h] at * <;> omega
  have h2 := h1 l
  have hm : ((l.filter fun p => decide (p.1 ∈ R)).map Prod.fst).Nodup := by
    rw [List.Nodup, List.pairwise_map]
    refine List.Pairwise.imp_of_mem (fun {a b} ha hb hne e => hne (hd a b (List.mem_filter.1 ha).1 (List.mem_filter.1 hb).1 e)) (hl.filter _)
  have h3 := nodup_lenA _ R hm fun x hx => by
    obtain ⟨p, hp, rfl⟩ := List.mem_map.1 hx
    simpa using (List.mem_filter.1 hp).2
  have h4 := nodup_lenA R _ hR fun x hx => by
    obtain ⟨p, hp, rfl⟩ := hs x hx
    exact List.mem_map_of_mem (f := Prod.fst) ((List.mem_filter (p := fun p : Int × Int => decide (p.1 ∈ R))).2 ⟨hp, by simpa using hx⟩)
  rw [List.length_map] at h3 h4
  omega

end Go.Proofs.Ytkmhgcdjmfafhaa
