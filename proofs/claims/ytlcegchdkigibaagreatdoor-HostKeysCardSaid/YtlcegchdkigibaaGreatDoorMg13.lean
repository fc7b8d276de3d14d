/- A region that draws its order, of which one call writes what is loaded ahead of it: a condition on the world that holds until that call has come up. No condition. -/
import Derived.Test.YtlcegchdkigibaaGreatDoorChecked
import Derived.Deep.RegionHeld3
namespace Go.Proofs.YtlcegchdkigibaaGreatDoor
set_option linter.unusedVariables false
set_option linter.unusedSimpArgs false

theorem held_take {P : Program} {ops : Array Oper} {Q : Exit → Act → World → Prop} {md : Region.Mode} {S : World → Prop} {i : Nat} {oi : Oper} {v : Value} {fuel : Nat} {listed : Array Bool} {a : Act} {w : World} (d : Option Tmp) (hi : ops[i]? = some oi) (hd : oi.dst = d)
    (hs : Region.noSelect ops = true) (hf : Region.free md ops listed i = true) (hr : (Region.ready md ops listed).contains i = true)
    (hQ : ∀ c a w, Q (.panic c) (a.put d v) w → Q (.panic c) a w) (hy : YieldsIf P ops S oi v a) (hS : S w)
    (h : wpAnyH P md ops Q S fuel (listed.setIfInBounds i true) (a.put d v) w) : wpAnyH P md ops Q S (fuel + 1) listed a w := by
  subst hd
  exact wpAnyH_take hi hs hf hr hQ hy hS h

/-- What has come up waits for nothing that hasn't. -/
def Closed (md : Region.Mode) (ops : Array Oper) (L : Array Bool) : Prop :=
  ∀ j o, ops[j]? = some o → L.getD j false = true → ∀ e ∈ o.after, Region.binds md e = true → L.getD e.on false = true
/-- Each of the listed waits for the one ahead of it. -/
def chainB (md : Region.Mode) (ops : Array Oper) : List Nat → Bool
  | i :: p :: r => (((ops[p]?).map fun o => o.after.any fun e => Region.binds md e && e.on == i).getD false) && chainB md ops (p :: r)
  | _ => true

section
variable {P : Program} {ops : Array Oper} {Q : Exit → Act → World → Prop} {md : Region.Mode} {S : World → Prop} {k : Nat} {L : Array Bool}

theorem Closed.start (md : Region.Mode) (ops : Array Oper) (n : Nat) : Closed md ops (Array.replicate n false) := fun j o _ h => by
  rcases Nat.lt_or_ge j n with hj | hj
  · simp [hj] at h
  · have : ¬ j < n := by omega
    simp [this] at h
theorem Closed.set (h : Closed md ops L) {j : Nat} (hj : j ∈ Region.ready md ops L) : Closed md ops (L.setIfInBounds j true) := fun i o ho hi e he hb => by
  obtain ⟨_, oj, hoj, hall⟩ := mem_ready.1 hj
  by_cases hij : j = i
  · subst hij
    rw [ho] at hoj
    injection hoj with hoj
    subst hoj
    exact getD_set_true (hall e he hb)
  · rw [getD_set_ne false hij] at hi
    exact getD_set_true (h i o ho hi e he hb)
theorem chain_listed (hc : Closed md ops L) {k : Nat} (hk : k ∈ Region.ready md ops L) : ∀ (l : List Nat) (i : Nat), chainB md ops (i :: l) = true → (i :: l).getLast? = some k → i = k ∨ L.getD i false = true
  | [], i, _, hl => by
    simp at hl
    exact .inl hl
  | p :: r, i, h, hl => by
    simp only [chainB, Bool.and_eq_true] at h
    obtain ⟨h1, h2⟩ := h
    have hl2 : (p :: r).getLast? = some k := by rw [List.getLast?_cons_cons] at hl; exact hl
    cases ho : ops[p]? with
    | none => simp [ho] at h1
    | some o =>
      simp only [ho, Option.map_some, Option.getD_some] at h1
      obtain ⟨e, he, hb⟩ := Array.any_eq_true'.1 h1
      simp only [Bool.and_eq_true, beq_iff_eq] at hb
      rcases chain_listed hc hk r p h2 hl2 with e1 | e1
      · subst e1
        obtain ⟨_, o2, ho2, hall⟩ := mem_ready.1 hk
        rw [ho] at ho2
        injection ho2 with ho2
        subst ho2
        exact .inr (hb.2 ▸ hall e he hb.1)
      · exact .inr (hb.2 ▸ hc p o ho e1 e he hb.1)

/-- Whatever order: S holds behind each operation until k has come up; from there on whatever holds. -/
def wpUntil (P : Program) (md : Region.Mode) (ops : Array Oper) (Q : Exit → Act → World → Prop) (S : World → Prop) (k : Nat) : Nat → Array Bool → Act → World → Prop
  | 0, L, a, w => Region.ready md ops L = [] ∧ Q .normal a w
  | f + 1, L, a, w => (Region.ready md ops L = [] → Q .normal a w) ∧
    ∀ i ∈ Region.ready md ops L, wpOp P ops Q i (fun a' w' => (i = k → wpAny P md ops Q f (L.setIfInBounds i true) a' w') ∧ (i ≠ k → S w' ∧ wpUntil P md ops Q S k f (L.setIfInBounds i true) a' w')) a w

theorem any_of_until : ∀ (f : Nat) (L : Array Bool) (a : Act) (w : World), wpUntil P md ops Q S k f L a w → wpAny P md ops Q f L a w
  | 0, _, _, _, h => h
  | f + 1, L, a, w, h => ⟨h.1, fun i hi => wpOp_mono (fun a' w' h' => by
      by_cases e : i = k
      · exact h'.1 e
      · exact any_of_until f _ a' w' (h'.2 e).2) (h.2 i hi)⟩

theorem until_first {i : Nat} {oi : Oper} {v : Value} (hi : ops[i]? = some oi) (hsel : ∀ (j : Nat) (o : Oper) cs b, ops[j]? = some o → o.op ≠ .select cs b)
    (hQ : ∀ c a w, Q (.panic c) (a.put oi.dst v) w → Q (.panic c) a w) (l : List Nat) (hch : chainB md ops (i :: l) = true) (hlast : (i :: l).getLast? = some k) (hik : i ≠ k) :
    ∀ (f : Nat) (L : Array Bool) (a : Act) (w : World), Closed md ops L →
      (∀ j oj, ops[j]? = some oj → j ≠ i → L.getD j true = false → (∀ e ∈ oj.after, Region.binds md e = true → e.on ≠ i) → oi.apart ops oj = true) →
      i ∈ Region.ready md ops L → YieldsIf P ops S oi v a → S w →
      wpUntil P md ops Q S k f (L.setIfInBounds i true) (a.put oi.dst v) w → wpUntil P md ops Q S k (f + 1) L a w := by
  intro f
  induction f with
  | zero =>
    intro L a w hC hfree hr hy hS H
    refine ⟨fun h => (by rw [h] at hr; cases hr), fun j hj => ?_⟩
    by_cases hji : j = i
    · subst hji
      exact hy.wpOp hi hS ⟨fun e => absurd e hik, fun _ => ⟨hS, H⟩⟩
    · have := ready_mono hj hji
      rw [H.1] at this
      cases this
  | succ f ih =>
    intro L a w hC hfree hr hy hS H
    refine ⟨fun h => (by rw [h] at hr; cases hr), fun j hj => ?_⟩
    by_cases hji : j = i
    · subst hji
      exact hy.wpOp hi hS ⟨fun e => absurd e hik, fun _ => ⟨hS, H⟩⟩
    · have hjk : j ≠ k := fun e => by
        subst e
        have h0 := (mem_ready.1 hr).1
        rcases chain_listed hC hj l i hch hlast with e1 | e1
        · exact hji e1.symm
        · rcases Nat.lt_or_ge i L.size with h' | h'
          · simp [h'] at h0 e1
            rw [h0] at e1
            cases e1
          · simp [Array.getElem?_eq_none h'] at e1
      have h1 := H.2 j (ready_mono hj hji)
      obtain ⟨hjun, oj, hoj, hall⟩ := mem_ready.1 hj
      have hnot : ∀ e ∈ oj.after, Region.binds md e = true → e.on ≠ i := fun e he hb heq => by
        have h2 := hall e he hb
        have h0 := (mem_ready.1 hr).1
        rw [heq] at h2
        rcases Nat.lt_or_ge i L.size with h' | h'
        · simp [h'] at h0 h2
          rw [h0] at h2
          cases h2
        · simp [Array.getElem?_eq_none h'] at h2
      have h2 := wpOp_putIf hoj (hfree j oj hoj hji hjun hnot) (fun cs b => hsel i oi cs b hi) (fun cs b => hsel j oj cs b hoj) hQ hy h1
      have hfree' : ∀ m om, ops[m]? = some om → m ≠ i → (L.setIfInBounds j true).getD m true = false → (∀ e ∈ om.after, Region.binds md e = true → e.on ≠ i) → oi.apart ops om = true := fun m om hm hmi hun hno => by
        refine hfree m om hm hmi ?_ hno
        by_cases hjm : j = m
        · subst hjm
          exact hjun
        · rw [getD_set_ne true hjm] at hun
          exact hun
      refine wpOp_mono (fun a' w' h3 => ⟨fun e => absurd e hjk, fun _ => ?_⟩) h2
      obtain ⟨s3, u3⟩ := h3.2.2 hjk
      refine ⟨s3, ih (L.setIfInBounds j true) a' w' (hC.set hj) hfree' (ready_mono hr (Ne.symm hji)) h3.1 s3 ?_⟩
      rw [Array.setIfInBounds_comm _ _ hji]
      exact u3

/-- The same, of what has come up by itself. -/
def Until (P : Program) (md : Region.Mode) (ops : Array Oper) (Q : Exit → Act → World → Prop) (S : World → Prop) (k f : Nat) (L : Array Bool) (a : Act) (w : World) : Prop := Closed md ops L → wpUntil P md ops Q S k f L a w

theorem until_start {id : Nat} {a : Act} {w : World} (S : World → Prop) (k : Nat) (hm : P.follows .mixedOrders = true) (hS : S w.drew) (h : S w.drew → Until P .any ops Q S k ops.size (Array.replicate ops.size false) a w.drew) : (Code.region id ops true).wp P Q a w :=
  wp_region_any hm (any_of_until _ _ _ _ (h hS (Closed.start _ _ _)))
theorem until_take {i : Nat} {oi : Oper} {v : Value} {f : Nat} {a : Act} {w : World} (d : Option Tmp) (l : List Nat) (hi : ops[i]? = some oi) (hd : oi.dst = d) (hs : Region.noSelect ops = true) (hf : Region.free md ops L i = true) (hr : (Region.ready md ops L).contains i = true)
    (hch : chainB md ops (i :: l) = true) (hlast : (i :: l).getLast? = some k) (hik : (i == k) = false) (hQ : ∀ c a w, Q (.panic c) (a.put d v) w → Q (.panic c) a w) (hy : YieldsIf P ops S oi v a) (hS : S w)
    (h : Until P md ops Q S k f (L.setIfInBounds i true) (a.put d v) w) : Until P md ops Q S k (f + 1) L a w := fun hC => by
  subst hd
  have hr' : i ∈ Region.ready md ops L := by simpa using hr
  exact until_first hi (Region.noSelect_spec hs) hQ l hch hlast (by simpa using hik) f L a w hC (Region.free_spec hi hf) hr' hy hS (h (hC.set hr'))
/-- One alone may come up, and it isn't k. -/
theorem until_step {i : Nat} {o : Oper} {f : Nat} {a : Act} {w : World} (hr : Region.ready md ops L = [i]) (ho : ops[i]? = some o) (hik : (i == k) = false)
    (h : ∀ K' : Act → World → Prop, Shut (∀ a w, S w → (S w → Until P md ops Q S k f (L.setIfInBounds i true) a w) → K' a w) → if Region.wanted o (yielded ops a.tmps) = true then Oper.wp P o a w K' Q else K' (a.put o.dst undef) w) : Until P md ops Q S k (f + 1) L a w := fun hC => by
  have hk : i ≠ k := by simpa using hik
  have hm : i ∈ Region.ready md ops L := by rw [hr]; simp
  refine ⟨fun h0 => (by rw [hr] at h0; cases h0), fun j hj => ?_⟩
  rw [hr, List.mem_singleton] at hj
  subst hj
  exact wpOp_step ho (fun K' hK => h K' (fun a w hS hW => hK a w ⟨fun e => absurd e hk, fun _ => ⟨hS, hW hS (hC.set hm)⟩⟩))
/-- k comes up: from here on nothing more is asked of the world. -/
theorem until_last {o : Oper} {f : Nat} {a : Act} {w : World} (hr : Region.ready md ops L = [k]) (ho : ops[k]? = some o)
    (h : ∀ K' : Act → World → Prop, Shut (∀ a w, wpAnyH P md ops Q (fun _ => True) f (L.setIfInBounds k true) a w → K' a w) → if Region.wanted o (yielded ops a.tmps) = true then Oper.wp P o a w K' Q else K' (a.put o.dst undef) w) : Until P md ops Q S k (f + 1) L a w := fun hC => by
  refine ⟨fun h0 => (by rw [hr] at h0; cases h0), fun j hj => ?_⟩
  rw [hr, List.mem_singleton] at hj
  subst hj
  exact wpOp_step ho (fun K' hK => h K' (fun a w hW => hK a w ⟨fun _ => wpAny_of_held _ _ _ _ hW, fun e => absurd rfl e⟩))
end
end Go.Proofs.YtlcegchdkigibaaGreatDoor
