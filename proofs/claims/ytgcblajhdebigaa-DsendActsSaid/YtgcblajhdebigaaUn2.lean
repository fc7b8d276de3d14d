/- A region that draws its order, of which one call writes what is loaded ahead of it: two that may come up. No condition. -/
import Derived.Test.YtgcblajhdebigaaUnt
namespace Go.Proofs.Ytgcblajhdebigaa
set_option linter.unusedVariables false
set_option linter.unusedSimpArgs false

section
variable {P : Program} {ops : Array Oper} {Q : Exit → Act → World → Prop} {md : Region.Mode} {S : World → Prop} {k : Nat} {L : Array Bool}
theorem until_two {i j : Nat} {oi oj : Oper} {f : Nat} {a : Act} {w : World} (hr : Region.ready md ops L = [i, j]) (hoi : ops[i]? = some oi) (hoj : ops[j]? = some oj) (hik : (i == k) = false) (hjk : (j == k) = false)
    (h1 : ∀ K' : Act → World → Prop, Shut (∀ a w, S w → (S w → Until P md ops Q S k f (L.setIfInBounds i true) a w) → K' a w) → if Region.wanted oi (yielded ops a.tmps) = true then Oper.wp P oi a w K' Q else K' (a.put oi.dst undef) w)
    (h2 : ∀ K' : Act → World → Prop, Shut (∀ a w, S w → (S w → Until P md ops Q S k f (L.setIfInBounds j true) a w) → K' a w) → if Region.wanted oj (yielded ops a.tmps) = true then Oper.wp P oj a w K' Q else K' (a.put oj.dst undef) w) : Until P md ops Q S k (f + 1) L a w := fun hC => by
  have hk1 : i ≠ k := by simpa using hik
  have hk2 : j ≠ k := by simpa using hjk
  have m1 : i ∈ Region.ready md ops L := by rw [hr]; simp
  have m2 : j ∈ Region.ready md ops L := by rw [hr]; simp
  refine ⟨fun h0 => (by rw [hr] at h0; cases h0), fun m hm => ?_⟩
  rw [hr] at hm
  simp only [List.mem_cons, List.not_mem_nil, or_false] at hm
  rcases hm with rfl | rfl
  · exact wpOp_step hoi (fun K' hK => h1 K' (fun a w hS hW => hK a w ⟨fun e => absurd e hk1, fun _ => ⟨hS, hW hS (hC.set m1)⟩⟩))
  · exact wpOp_step hoj (fun K' hK => h2 K' (fun a w hS hW => hK a w ⟨fun e => absurd e hk2, fun _ => ⟨hS, hW hS (hC.set m2)⟩⟩))
/-- .. one of which is k. -/
theorem until_twoK {j : Nat} {ok oj : Oper} {f : Nat} {a : Act} {w : World} (hr : Region.ready md ops L = [k, j]) (hok : ops[k]? = some ok) (hoj : ops[j]? = some oj) (hjk : (j == k) = false)
    (h1 : ∀ K' : Act → World → Prop, Shut (∀ a w, wpAnyH P md ops Q (fun _ => True) f (L.setIfInBounds k true) a w → K' a w) → if Region.wanted ok (yielded ops a.tmps) = true then Oper.wp P ok a w K' Q else K' (a.put ok.dst undef) w)
    (h2 : ∀ K' : Act → World → Prop, Shut (∀ a w, S w → (S w → Until P md ops Q S k f (L.setIfInBounds j true) a w) → K' a w) → if Region.wanted oj (yielded ops a.tmps) = true then Oper.wp P oj a w K' Q else K' (a.put oj.dst undef) w) : Until P md ops Q S k (f + 1) L a w := fun hC => by
  have hk2 : j ≠ k := by simpa using hjk
  have m2 : j ∈ Region.ready md ops L := by rw [hr]; simp
  refine ⟨fun h0 => (by rw [hr] at h0; cases h0), fun m hm => ?_⟩
  rw [hr] at hm
  simp only [List.mem_cons, List.not_mem_nil, or_false] at hm
  rcases hm with hm | hm
  · rw [hm]
    exact wpOp_step hok (fun K' hK => h1 K' (fun a w hW => hK a w ⟨fun _ => wpAny_of_held _ _ _ _ hW, fun e => absurd rfl e⟩))
  · rw [hm]
    exact wpOp_step hoj (fun K' hK => h2 K' (fun a w hS hW => hK a w ⟨fun e => absurd e hk2, fun _ => ⟨hS, hW hS (hC.set m2)⟩⟩))
end
end Go.Proofs.Ytgcblajhdebigaa
