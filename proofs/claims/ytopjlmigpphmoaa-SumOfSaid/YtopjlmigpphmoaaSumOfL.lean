/- Proved: whatever it is called with, the law SumOf returns true and changes none of its arguments; no condition is added to the given statement. -/
import Derived.Test.YtopjlmigpphmoaaRows
import Derived.WalkKit
import Derived.ProofKit
import Derived.OpenShut
import Derived.ShutString
import Derived.ChangeOld
import Derived.Below
import Derived.Deep.Slices
import Derived.Test.YtopjlmigpphmoaaSumW
namespace Go.Proofs.Ytopjlmigpphmoaa.sumOf
open Go.ChangeShapes Go.WideShapes Go.ChangeAt Go.RowKit
open Go.ChangeMaps (open_string shut_string)
set_option linter.unusedVariables false

theorem own : ownKnob Try.prog.godebug = none := by kernel_rfl
theorem laidOut : laidOutB Try.prog = true := by kernel_rfl

/-- An argument that is a slice of slices of bytes holds some pieces. -/
theorem Parts.of_trod {H : Type} {enc : TypeId × Value → H} {W : World} {a0 : Option Addr} {len0 cap0 fuel : Nat} {x : DataW H × List MemPlace}
    (hf : DataW.trod enc Try.prog W 0 (fun _ => true) true fuel 22 [.slice a0 len0 cap0] = some x) : ∃ ps, Parts W a0 len0 cap0 ps := by
  rcases Go.Deep.open_slice1 Try.underlying22 (by kernel_rfl) hf with ⟨hcs, _⟩ | ⟨a, len, cap, m, n, V, D, Pl, hcs, _, hl, hm, hmm, _, hi⟩
  · simp at hcs
    obtain ⟨rfl, rfl, rfl⟩ := hcs
    exact ⟨[], rfl, Nat.le_refl _, Nat.zero_le _, fun h => absurd h (by omega)⟩
  · simp at hcs
    obtain ⟨rfl, rfl, rfl⟩ := hcs
    have hmm' : m = cap0 := by simpa using hmm
    subst hmm'
    have hex : ∀ i, ∃ l, i < m → ∃ B k d, V i = .slice B k d ∧ RB W B k d l := by
      intro i
      by_cases him : i < m
      · obtain ⟨_, ht⟩ := hi i him
        rcases open_ints Try.underlying24 Try.underlying5 (by kernel_rfl) ht with ⟨hv, _⟩ | ⟨y, l, c, zs, hv, _, hl', hm', hz, _, hcell, hwz⟩
        · simp at hv
          exact ⟨[], fun _ => ⟨none, 0, 0, hv, RB.nil_ W⟩⟩
        · simp at hv
          obtain ⟨r, hr⟩ := RB.of_row (w := W) (a := some y) (len := l) (cap := c) (zs := zs) (.inr ⟨_, rfl, hl', hm', by simpa using hz, hcell, hwz⟩)
          exact ⟨r, fun _ => ⟨some y, l, c, hv, hr⟩⟩
      · exact ⟨[], fun h => absurd h him⟩
    obtain ⟨f, hfp⟩ := Classical.axiomOfChoice hex
    refine ⟨(List.range len0).map f, by simp, hl, hm, fun hn => ?_⟩
    obtain ⟨b, o, s⟩ := a
    have hc0 := (hi 0 (by omega)).1
    have hs : s = none := by simpa [Addr.add] using World.cell?_spot hc0
    subst hs
    refine ⟨b, o, rfl, fun j hj => ?_⟩
    have hc := (hi j (by omega)).1
    rw [Addr.add_lit] at hc
    obtain ⟨B, k, d, hv, hr⟩ := hfp j (by omega)
    refine ⟨B, k, d, by rw [hc, hv], ?_⟩
    have e : ((List.range len0).map f).getD j [] = f j := by simp [hj]
    rw [e]
    exact hr

set_option maxRecDepth 100000 in
theorem lifted (os : Os) (started : os.Started) (H : Type) (enc : TypeId × Value → H) :
    ReturnsInHanded {} Try.checked os 3 .any (Rows.sumOfSpec.pre6 enc Try.prog Try.f3 Rows.sumOfRow.domain false) (Rows.sumOfSpec.post enc Try.prog Try.f3 false true false false) := by
  refine returnsInHanded_of_change (C := Try.checked) own started (by kernel_rfl) Try.func3
    (ChangeSpec.witness6 (enc := enc) (C := Try.checked) false ⟨#[], #[.slice none 0 0], []⟩ 8 (by kernel_rfl) (by kernel_rfl) (by kernel_rfl) (by kernel_rfl)) ?_
  intro W base args ds gs before hval0 hW hcnd _
  have hval : ∀ (j : Nat) t v, Try.f3.params[j]? = some t → args[j]? = some v → Value.okWide Try.prog W .any base t v := hval0
  have hW' := hW
  obtain ⟨p, q, hA0, hV, rfl, hfz, hnd⟩ := hW
  have hA : DataW.TrodAll enc Try.prog W 0 (fun _ => true) true Try.f3.params.toList args.toList ds p := hA0
  rw [Try.params3] at hA hval
  obtain ⟨v0, vs0, d0, ds0, p0, q0, hargs, rfl, rfl, h0, r0⟩ := trodAll_cons hA
  obtain ⟨rfl, rfl, rfl⟩ := trodAll_nil r0
  obtain rfl : args = #[v0] := by cases args; simp_all
  obtain ⟨rfl, rfl⟩ := trodVars_none hV
  obtain ⟨a0, len0, cap0, rfl⟩ := okWide_slice Try.underlying22 (hval 0 22 v0 rfl rfl)
  have k0 := h0
  have lt0 : ∀ x ∈ p0, x.block < W.heap.size := by obtain ⟨m, hm⟩ := k0; exact DataW.trod_lt m _ _ _ hm
  obtain ⟨ps, w0⟩ : ∃ ps, Parts W a0 len0 cap0 ps := by
    obtain ⟨fuel, hf⟩ := h0
    exact Parts.of_trod (by simpa [Value.cells] using hf)
  clear hA0 hval0
  refine (OfLaw_any a0 len0 cap0 ps W w0).mono fun e W' ⟨he, bel⟩ => ?_
  subst he
  exact ⟨_, rfl, _, _, _, [], _, [], hW', trodAll_mk1 (shut_bool Try.underlying4 _), (trodAll_cons_mk (Below.trod laidOut (by kernel_rfl) (of_decide_eq_true (by kernel_rfl)) k0 bel lt0) trodAll_mk0), rfl, bel.frame _, fun h => by cases h⟩

theorem over : Rows.sumOfRow.holds Try.pinned (OpenSpec.ofChange Rows.sumOfSpec) :=
  OpenClaim.holds_of_wide 3 Try.f3 rfl rfl rfl rfl rfl rfl rfl ⟨rfl, rfl, rfl, rfl, rfl⟩ rfl rfl rfl rfl rfl (by kernel_rfl) Try.func3 (by kernel_rfl)
    (of_decide_eq_true (by kernel_rfl)) (by unfold Func.isWrapper; first | (rw [if_pos (by decide +kernel)]; kernel_rfl) | (rw [if_neg (by decide +kernel)]; exact ⟨rfl, rfl⟩))
    (fun os started H enc _ => lifted os started H enc)

theorem proved : Rows.SumOfSaid := over
#print axioms proved
end Go.Proofs.Ytopjlmigpphmoaa.sumOf
