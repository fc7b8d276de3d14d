/- A wheel: its struct, its map of handles, its rings, and what all of it says: which handle is armed for which tick. No condition. -/
import Derived.Test.YtkmhgcdjmfafhaaWhT
import Derived.Test.YtkmhgcdjmfafhaaWhG
import Derived.Test.YtkmhgcdjmfafhaaWhN
namespace Go.Proofs.Ytkmhgcdjmfafhaa
set_option linter.unusedVariables false
set_option linter.unusedSimpArgs false
open Go.RowKit

/-- How a pointer in the map reads: as the number of its block. -/
def pe : Value → Option (DataW Unit × List MemPlace)
  | .pointer none => some (.nil, [])
  | .pointer (some ⟨b, 0, none⟩) => some (.lit (.int .i64 (b : Int)), [])
  | _ => none
theorem pe_ptr (b : Nat) : pe (ptr b) = some (.lit (.int .i64 (b : Int)), []) := rfl
theorem pe_inv {v : Value} {b : Nat} {ps : List MemPlace} (h : pe v = some (.lit (.int .i64 (b : Int)), ps)) : v = ptr b := by
  unfold pe at h
  split at h
  · cases h
  · injection h with h
    injection h with h _
    injection h with h
    injection h with _ h
    have : (_ : Nat) = b := Int.ofNat.inj h
    rw [this]
    rfl
  · cases h
theorem pe_nil {v : Value} {ps : List MemPlace} (h : pe v = some (.nil, ps)) : v = .pointer none := by
  unfold pe at h
  split at h
  · rfl
  · injection h with h
    injection h with h _
    cases h
  · cases h

def isI (h : Int) : Prop := -9223372036854775808 ≤ h ∧ h ≤ 9223372036854775807
theorem isI.wf {h : Int} (i : isI h) : (Lit.int .i64 h).wf = true := by
  unfold isI at i
  simp [Lit.wf, IntKind.min, IntKind.max, IntKind.bits, IntKind.signed]
  omega

theorem keyInt : Maps.Keyed Try.prog 3 := Maps.int_keyed Try.underlying3
theorem keyOfInt {h : Int} (i : isI h) : keyOf Try.prog 3 (.int .i64 h) = some (.int .i64 h) := Maps.keyOf_int_mk Try.underlying3 i.wf

/-- Block mb is a map of n handles: F says which timer's block a handle has. -/
def MapIs (w : World) (mb : Nat) (F : Int → Option Nat) (n : Nat) : Prop :=
  ∃ D : DataW Unit, w.ownsMap Try.prog 3 pe mb n D ∧ Maps.size D = n ∧ (∀ h, isI h → Maps.has D (.int .i64 h) = (F h).isSome) ∧ ∀ h b, isI h → F h = some b → ∀ z, D.atKey (.int .i64 h) z = .lit (.int .i64 (b : Int))

section
variable {w w' : World} {mb n : Nat} {F : Int → Option Nat}
theorem MapIs.lt (h : MapIs w mb F n) : mb < w.heap.size := h.elim fun _ h => h.1.lt
theorem MapIs.keep (h : MapIs w mb F n) (e : w'.heap[mb]? = w.heap[mb]?) : MapIs w' mb F n := by
  obtain ⟨D, ⟨es, cl, hb, rest⟩, r2⟩ := h
  exact ⟨D, ⟨es, cl, e.trans hb, rest⟩, r2⟩
theorem MapIs.made (w : World) : MapIs (w.alloc (.map #[] 0)) w.heap.size (fun _ => none) 0 :=
  ⟨.map [], World.ownsMap_made w _ _ _, rfl, fun _ _ => rfl, fun _ _ _ h => by cases h⟩

theorem isKeyI (h : Int) (i : isI h) : WideAt.IsKeyLit (.int .i64 h) := by
  first
    | exact trivial
    | simp [WideAt.IsKeyLit]

end

section
variable {w : World} {ops : Array Oper} {rest : List Oper} {o : Oper} {a : Act} {Q : Exit → Act → World → Prop} {mb n : Nat} {F : Int → Option Nat}

theorem zeroT (w : World) : (zeroValue 64).run Try.prog w = .ok (.pointer none) w := Try.zeroValue64 w

theorem wpList_lookM (hg : o.guard = none) (m x : Operand) (hop : o.op = Op.lookup 61 m x true) (hm : a.eval m = .map (some mb)) (hM : MapIs w mb F n) {h : Int} (i : isI h) (hx : a.eval x = .int .i64 h) {r : Option Nat} (hF : F h = r)
    (hK : wpList Try.prog ops Q rest (a.put o.dst (.tuple #[(match r with | some b => ptr b | none => .pointer none), .bool r.isSome])) w) :
    wpList Try.prog ops Q (o :: rest) a w := by
  obtain ⟨D, hown, _, h1, h2⟩ := hM
  refine wpList_lookup_own_ok w hg m x 61 hop 3 64 keyInt Try.underlying61 pe (zeroT w) .nil [] rfl mb n D hm hown (.int .i64 h) (.int .i64 h) hx (keyOfInt i) fun v ps hv => ?_
  rw [h1 h i, hF]
  cases r with
  | none =>
    have h3 := h1 h i
    rw [hF] at h3
    rw [Maps.atKey_of_not_has h3] at hv
    rw [pe_nil hv]
    exact hK
  | some b =>
    rw [h2 h b i hF] at hv
    rw [pe_inv hv]
    exact hK

theorem wpList_delM (hg : o.guard = none) (m x : Operand) (hop : o.op = Op.call { callee := Callee.builtin Builtin.delete, args := #[m, x], argTypes := #[61, 3] }) (hm : a.eval m = .map (some mb)) (hM : MapIs w mb F n) {h : Int} (i : isI h) (hx : a.eval x = .int .i64 h) {b : Nat} (hF : F h = some b)
    (hK : ∀ w', MapIs w' mb (fun k => if k = h then none else F k) (n - 1) → w.mapTurned w' mb → wpList Try.prog ops Q rest (a.put o.dst (.tuple #[])) w') :
    wpList Try.prog ops Q (o :: rest) a w := by
  obtain ⟨D, hown, hsz, h1, h2⟩ := hM
  refine wpList_delete_own w hg m x 61 3 hop 64 keyInt Try.underlying61 pe mb n D hm hown (.int .i64 h) (.int .i64 h) hx (keyOfInt i) fun w' hown' ht => hK w' ?_ ht
  have hs := Maps.size_del (k := .int .i64 h) (hown.tidy keyInt)
  rw [h1 h i, hF, hsz] at hs
  simp at hs
  have hs1 : Maps.size (D.del (.int .i64 h)) = n - 1 := by omega
  refine ⟨D.del (.int .i64 h), ?_, hs1, fun k ik => ?_, fun k b' ik hk z => ?_⟩
  · obtain ⟨es, cl, hb, hf, hle, he⟩ := hown'
    refine ⟨es, cl, hb, hf, ?_, he⟩
    rw [he] at hs1
    simp only [Maps.size, length_sorted, List.length_map, Array.length_toList] at hs1
    omega
  · show Maps.has _ _ = (if k = h then none else F k).isSome
    by_cases e : k = h
    · subst e
      rw [if_pos rfl, Maps.has_del_same]
      rfl
    · rw [if_neg e, Maps.has_del_other (fun e' => e (by injection e')), h1 k ik]
  · replace hk : (if k = h then none else F k) = some b' := hk
    by_cases e : k = h
    · subst e
      rw [if_pos rfl] at hk
      cases hk
    · rw [if_neg e] at hk
      rw [Maps.atKey_del_other (fun e' => e (by injection e'))]
      exact h2 k b' ik hk z

theorem wpList_putM (hg : o.guard = none) (m x v : Operand) (hop : o.op = Op.mapUpdate 61 m x v) (hm : a.eval m = .map (some mb)) (hM : MapIs w mb F n) {h : Int} (i : isI h) (hx : a.eval x = .int .i64 h) (hF : F h = none) {b : Nat} (hv : a.eval v = ptr b) (hn : n ≤ 1099511627776)
    (hK : ∀ w', MapIs w' mb (fun k => if k = h then some b else F k) (n + 1) → w.mapTurned w' mb → wpList Try.prog ops Q rest (a.put o.dst undef) w') :
    wpList Try.prog ops Q (o :: rest) a w := by
  obtain ⟨D, hown, hsz, h1, h2⟩ := hM
  refine wpList_mapUpdate_in w hg m x v 61 hop 3 64 keyInt Try.underlying61 pe mb n D hm hown (by unfold maxLen; omega) (.int .i64 h) (ptr b) (.int .i64 h) hx hv (keyOfInt i) _ [] (pe_ptr b) fun w' hown' ht => hK w' ?_ ht
  have hs := Maps.size_put (k := .int .i64 h) (hown.tidy keyInt) (.lit (.int .i64 (b : Int)))
  rw [h1 h i, hF, hsz] at hs
  simp at hs
  refine ⟨_, hown', hs, fun k ik => ?_, fun k b' ik hk z => ?_⟩
  · show Maps.has _ _ = (if k = h then some b else F k).isSome
    by_cases e : k = h
    · subst e
      rw [if_pos rfl, Maps.has_put_same hown.isMap (isKeyI k i)]
      rfl
    · rw [if_neg e, Maps.has_put_other (fun e' => e (by injection e')), h1 k ik]
  · replace hk : (if k = h then some b else F k) = some b' := hk
    by_cases e : k = h
    · subst e
      rw [if_pos rfl] at hk
      injection hk with hk
      subst hk
      exact Maps.atKey_put_same hown.isMap (isKeyI k i) _ _
    · rw [if_neg e] at hk
      rw [Maps.atKey_put_other (fun e' => e (by injection e'))]
      exact h2 k b' ik hk z

theorem wpList_lenM (hg : o.guard = none) (m : Operand) (hop : o.op = Op.call { callee := Callee.builtin Builtin.len, args := #[m], argTypes := #[61] }) (hm : a.eval m = .map (some mb)) (hM : MapIs w mb F n)
    (hK : wpList Try.prog ops Q rest (a.put o.dst (.int .i64 (n : Int))) w) :
    wpList Try.prog ops Q (o :: rest) a w := by
  obtain ⟨D, hown, hsz, _⟩ := hM
  refine wpList_len_own w hg m 61 hop 3 64 Try.underlying61 pe mb n D hm hown ?_
  rw [hsz]
  exact hK
end

end Go.Proofs.Ytkmhgcdjmfafhaa
