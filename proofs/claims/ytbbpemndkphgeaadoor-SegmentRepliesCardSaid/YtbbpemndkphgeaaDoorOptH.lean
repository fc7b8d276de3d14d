/- Regions that draw their order, by an invariant: what holds behind whichever operations have come up. No condition. -/
import Derived.Test.YtbbpemndkphgeaaDoorBase
import Derived.Deep.RegionHeld3
namespace Go.Proofs.YtbbpemndkphgeaaDoor
set_option linter.unusedVariables false
set_option linter.unusedSimpArgs false

/-- Each operation waits only for such as stand ahead of it. -/
def ahead (ops : Array Oper) : Bool := (List.range ops.size).all fun i => (((ops[i]?).map fun o => o.after.all fun e => decide (e.on < i)).getD true)
theorem ahead_of {ops : Array Oper} (h : ahead ops = true) {i : Nat} {o : Oper} (ho : ops[i]? = some o) : ∀ e ∈ o.after, e.on < i := by
  intro e he
  have hi : i < ops.size := (Array.getElem?_eq_some_iff.1 ho).1
  have h1 := (List.all_eq_true.1 h) i (List.mem_range.2 hi)
  rw [ho] at h1
  simp only [Option.map_some, Option.getD_some] at h1
  have h2 := (Array.all_eq_true_iff_forall_mem.1 h1) e he
  simpa using h2
section
variable {P : Program} {ops : Array Oper} {Q : Exit → Act → World → Prop} {md : Region.Mode} {S : World → Prop}
theorem getD_of {listed : Array Bool} {i : Nat} (h : i < listed.size) (d : Bool) : listed.getD i d = listed[i] := by
  simp [h]
theorem ready_nil_all {listed : Array Bool} (hac : ahead ops = true) (hsz : listed.size = ops.size) (h : Region.ready md ops listed = []) : ∀ i, i < ops.size → listed.getD i true = true := by
  intro i
  induction i using Nat.strongRecOn with
  | _ i ih =>
    intro hi
    cases hc : listed.getD i true with
    | true => rfl
    | false =>
      have hm : i ∈ Region.ready md ops listed := mem_ready.2 ⟨hc, ops[i], Array.getElem?_eq_getElem hi, fun e he _ => by
        have hlt := ahead_of hac (Array.getElem?_eq_getElem hi) e he
        have h1 := ih e.on hlt (by omega)
        rw [getD_of (by omega)] at h1 ⊢
        exact h1⟩
      rw [h] at hm
      cases hm
/-- How many have not come up. -/
def rest (listed : Array Bool) : Nat := listed.toList.count false
theorem rest_set {listed : Array Bool} {i : Nat} (h : listed.getD i true = false) : rest (listed.setIfInBounds i true) + 1 = rest listed := by
  have hi : i < listed.size := by
    rcases Nat.lt_or_ge i listed.size with h' | h'
    · exact h'
    · simp [Array.getElem?_eq_none h'] at h
  rw [getD_of hi] at h
  unfold rest
  rw [Array.toList_setIfInBounds]
  have hi' : i < listed.toList.length := by simpa using hi
  rw [List.count_set hi']
  have : listed.toList[i] = false := by simpa using h
  rw [this]
  have hp : 0 < listed.toList.count false := by
    rw [List.count_pos_iff]
    rw [← this]
    exact List.getElem_mem hi'
  have e1 : (true == false) = false := rfl
  have e2 : (false == false) = true := rfl
  simp only [e1, e2, if_true, Bool.false_eq_true, if_false]
  omega
theorem rest_zero {listed : Array Bool} (h : rest listed = 0) (i : Nat) : listed.getD i true = true := by
  rcases Nat.lt_or_ge i listed.size with h' | h'
  · rw [getD_of h']
    cases hc : listed[i] with
    | true => rfl
    | false =>
      exfalso
      have : listed.toList.count false ≠ 0 := by
        have hp : 0 < listed.toList.count false := by
          rw [List.count_pos_iff, ← hc]
          simp
        omega
      exact this h
  · simp [Array.getElem?_eq_none h']

/-- Whatever order: what holds of those that have come up, and is carried on by each one that may come up, holds of all. -/
theorem wpAnyH_inv (I : Array Bool → Act → World → Prop) (hac : ahead ops = true) (hsz : ∀ listed a w, I listed a w → listed.size = ops.size ∧ S w)
    (hend : ∀ listed a w, I listed a w → (∀ i, i < ops.size → listed.getD i true = true) → Q .normal a w)
    (hstep : ∀ listed a w i o, I listed a w → listed.getD i true = false → ops[i]? = some o → (∀ e ∈ o.after, Region.binds md e = true → listed.getD e.on false = true) → wpOp P ops Q i (fun a' w' => I (listed.setIfInBounds i true) a' w') a w) :
    ∀ fuel listed a w, I listed a w → rest listed ≤ fuel → wpAnyH P md ops Q S fuel listed a w
  | 0, listed, a, w, h, hf => by
    have hall := rest_zero (show rest listed = 0 by omega)
    refine ⟨?_, hend _ _ _ h fun i _ => hall i⟩
    rw [List.eq_nil_iff_forall_not_mem]
    intro i hi
    have := (mem_ready.1 hi).1
    rw [hall i] at this
    cases this
  | fuel + 1, listed, a, w, h, hf => by
    refine ⟨fun hr => hend _ _ _ h (ready_nil_all hac (hsz _ _ _ h).1 hr), fun i hi => ?_⟩
    obtain ⟨hun, o, ho, hall⟩ := mem_ready.1 hi
    have hr := rest_set hun
    exact wpOp_mono (fun a' w' h' => ⟨(hsz _ _ _ h').2, wpAnyH_inv I hac hsz hend hstep fuel _ a' w' h' (by omega)⟩) (hstep _ _ _ _ _ h hun ho hall)
theorem wpOp_of {i : Nat} {o : Oper} {K : Act → World → Prop} {a : Act} {w : World} (hi : ops[i]? = some o) (hw : Region.wanted o (yielded ops a.tmps) = true) (h : o.wp P a w K Q) : wpOp P ops Q i K a w := by
  unfold wpOp
  simp only [hi, hw, if_true]
  exact .inl h
end
theorem held_take {P : Program} {ops : Array Oper} {Q : Exit → Act → World → Prop} {md : Region.Mode} {S : World → Prop} {i : Nat} {oi : Oper} {v : Value} {fuel : Nat} {listed : Array Bool} {a : Act} {w : World} (d : Option Tmp) (hi : ops[i]? = some oi) (hd : oi.dst = d)
    (hs : Region.noSelect ops = true) (hf : Region.free md ops listed i = true) (hr : (Region.ready md ops listed).contains i = true)
    (hQ : ∀ c a w, Q (.panic c) (a.put d v) w → Q (.panic c) a w) (hy : YieldsIf P ops S oi v a) (hS : S w)
    (h : wpAnyH P md ops Q S fuel (listed.setIfInBounds i true) (a.put d v) w) : wpAnyH P md ops Q S (fuel + 1) listed a w := by
  subst hd
  exact wpAnyH_take hi hs hf hr hQ hy hS h
end Go.Proofs.YtbbpemndkphgeaaDoor
