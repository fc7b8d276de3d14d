/- Proved: whatever it is called with, the law KeyProof returns true and changes none of its arguments; no condition is added to the given statement. -/
import Derived.Test.YtdgllpcljjhhdaaDoorRows
import Derived.WalkKit
import Derived.ProofKit
import Derived.OpenShut
import Derived.ShutString
import Derived.ChangeOld
import Derived.Below
import Derived.LaidMore
import Derived.Stop.Joined
import Derived.SevenTiedAt
import Derived.Test.YtdgllpcljjhhdaaDoorTie
import Derived.Test.YtdgllpcljjhhdaaDoorCards
import Derived.Test.YtdgllpcljjhhdaaDoorShaL
import Derived.Deep.Slices
import Derived.Test.YtdgllpcljjhhdaaDoorKeyP
namespace Go.Proofs.YtdgllpcljjhhdaaDoor.keyProof
open Go.ChangeShapes Go.WideShapes Go.ChangeAt Go.RowKit
open Go.ChangeMaps (open_string shut_string)
set_option linter.unusedVariables false

theorem own : ownKnob Tryd.prog.godebug = none := by kernel_rfl
theorem laidOut : laidOutB Tryd.prog = true := by kernel_rfl

/-- Two cells of a whole number each, as an array of them is read: the numbers, and that each is of its kind. -/
theorem pair_of_trod {H : Type} {enc : TypeId × Value → H} {P : Program} {w : World} {base : Nat} {spare : Nat → Bool} {held : Bool} {t e : TypeId} {k : IntKind} {fuel : Nat} {cs : List Value} {x : DataW H × List MemPlace}
    (hl : cs.length = 2) (ht : P.underlying t = some (.array 2 e)) (he : P.underlying e = some (.int k)) (hce : P.cellsOf e = 1) (h : DataW.trod enc P w base spare held fuel t cs = some x) :
    ∃ a b : Int, cs = [.int k a, .int k b] ∧ (Lit.int k a).wf = true ∧ (Lit.int k b).wf = true := by
  obtain ⟨c, d, rfl⟩ : ∃ c d, cs = [c, d] := by
    match cs, hl with
    | [c, d], _ => exact ⟨c, d, rfl⟩
  cases fuel with
  | zero => simp [DataW.trod] at h
  | succ n =>
    unfold DataW.trod at h
    rw [ht] at h
    have r2 : List.range 2 = [0, 1] := rfl
    simp [r2, hce] at h
    obtain ⟨_, h⟩ := h
    cases h0 : DataW.trod enc P w base spare held n e [c] with
    | none => simp [h0] at h
    | some y0 =>
      cases h1 : DataW.trod enc P w base spare held n e [d] with
      | none => simp [h0, h1] at h
      | some y1 =>
        obtain ⟨a, e0, _, f0⟩ := DataW.trod_int he h0
        obtain ⟨b, e1, _, f1⟩ := DataW.trod_int he h1
        simp at e0 e1
        subst e0 e1
        exact ⟨a, b, rfl, f0, f1⟩

/- The memory that the program's own text lays meets the condition. -/
theorem door_met (os : Os) (args : Array Value) : laidMetH Tryd.prog Rows.keyProofRow.laid ((World.doorLaid Tryd.prog 400 os).forCall (fun _ _ => 0) ⟨#[], args, []⟩).memory :=
  laidMetH_of_parts3 (fuel := 8) (laidMet_of_run' 8 (by kernel_rfl) (by kernel_rfl)) (by kernel_rfl) (by kernel_rfl)

set_option maxRecDepth 100000 in
theorem lifted (os : Os) (started : os.Started) (H : Type) (enc : TypeId × Value → H) :
    ReturnsInHanded {} Tryd.checked os 4 .any (fun w args => (Rows.keyProofSpec.pre enc Tryd.prog Tryd.f4 [] false w args ∧ laidMetH Tryd.prog Rows.keyProofRow.laid w) ∧ sizedMet enc Tryd.prog Tryd.f4 (OpenSpec.ofChange Rows.keyProofSpec) false w args) (Rows.keyProofSpec.post enc Tryd.prog Tryd.f4 false true false false) := by
  refine returnsInHanded_of_change_and (C := Tryd.checked) (X := fun w _ => laidMetH Tryd.prog Rows.keyProofRow.laid w) (fun _ _ _ hh h => h.of_heap hh) own started (by kernel_rfl) Tryd.func4
    (ChangeSpec.witness_shaped (enc := enc) (C := Tryd.checked) (os := os) (X := fun w _ => laidMetH Tryd.prog Rows.keyProofRow.laid w) false (World.doorLaid Tryd.prog 400 os) #[.agg #[.int .u64 0, .int .u64 0], .agg #[.int .u32 0, .int .u32 0]] 8 rfl (World.shaped_of_RefB (by kernel_rfl) (by kernel_rfl)) (by kernel_rfl) (by kernel_rfl) (by kernel_rfl) (door_met os _)) ?_
  intro W base args ds gs before hval0 hW _ _ hL _
  have hval : ∀ (j : Nat) t v, Tryd.f4.params[j]? = some t → args[j]? = some v → Value.okWide Tryd.prog W .any base t v := hval0
  have hW' := hW
  obtain ⟨p, q, hA0, hV, rfl, hfz, hnd⟩ := hW
  have hA : DataW.TrodAll enc Tryd.prog W 0 (fun _ => true) true Tryd.f4.params.toList args.toList ds p := hA0
  rw [Tryd.params4] at hA hval
  obtain ⟨v0, vs0, d0, ds0, p0, q0, hargs, rfl, rfl, h0, r0⟩ := trodAll_cons hA
  obtain ⟨v1, vs1, d1, ds1, p1, q1, rfl, rfl, rfl, h1, r1⟩ := trodAll_cons r0
  obtain ⟨rfl, rfl, rfl⟩ := trodAll_nil r1
  obtain rfl : args = #[v0, v1] := by cases args; simp_all
  obtain ⟨rfl, rfl⟩ := trodVars_none hV
  have k0 := h0
  have lt0 : ∀ x ∈ p0, x.block < W.heap.size := by obtain ⟨m, hm⟩ := k0; exact DataW.trod_lt m _ _ _ hm
  obtain ⟨cs0, rfl, hsz0, _⟩ : ∃ cs, v0 = .agg cs ∧ cs.size = Tryd.prog.cellsOf 27 ∧ Row.okWide Tryd.prog W .any base 27 cs := by
    have := hval 0 27 v0 rfl rfl
    simpa [Value.okWide, Tryd.underlying27] using this
  rw [show Tryd.prog.cellsOf 27 = 2 from by kernel_rfl] at hsz0
  obtain ⟨l0⟩ := cs0
  obtain ⟨a0, b0, rfl, wa0, wb0⟩ : ∃ a b : Int, l0 = [.int .u64 a, .int .u64 b] ∧ (Lit.int .u64 a).wf = true ∧ (Lit.int .u64 b).wf = true := by
    obtain ⟨fuel, hf⟩ := h0
    exact pair_of_trod (cs := l0) hsz0 Tryd.underlying27 Tryd.underlying22 (by kernel_rfl) hf
  have ca0 := Go.bounds_u64 wa0
  have cb0 := Go.bounds_u64 wb0
  obtain ⟨x0, rfl⟩ := Int.eq_ofNat_of_zero_le ca0.1
  obtain ⟨y0, rfl⟩ := Int.eq_ofNat_of_zero_le cb0.1
  have w0 : x0 < 18446744073709551616 := by omega
  have w1 : y0 < 18446744073709551616 := by omega
  have k1 := h1
  have lt1 : ∀ x ∈ p1, x.block < W.heap.size := by obtain ⟨m, hm⟩ := k1; exact DataW.trod_lt m _ _ _ hm
  obtain ⟨cs1, rfl, hsz1, _⟩ : ∃ cs, v1 = .agg cs ∧ cs.size = Tryd.prog.cellsOf 28 ∧ Row.okWide Tryd.prog W .any base 28 cs := by
    have := hval 1 28 v1 rfl rfl
    simpa [Value.okWide, Tryd.underlying28] using this
  rw [show Tryd.prog.cellsOf 28 = 2 from by kernel_rfl] at hsz1
  obtain ⟨l1⟩ := cs1
  obtain ⟨a1, b1, rfl, wa1, wb1⟩ : ∃ a b : Int, l1 = [.int .u32 a, .int .u32 b] ∧ (Lit.int .u32 a).wf = true ∧ (Lit.int .u32 b).wf = true := by
    obtain ⟨fuel, hf⟩ := h1
    exact pair_of_trod (cs := l1) hsz1 Tryd.underlying28 Tryd.underlying24 (by kernel_rfl) hf
  have ca1 := Go.bounds_u32 wa1
  have cb1 := Go.bounds_u32 wb1
  obtain ⟨x1, rfl⟩ := Int.eq_ofNat_of_zero_le ca1.1
  obtain ⟨y1, rfl⟩ := Int.eq_ofNat_of_zero_le cb1.1
  have w2 : x1 < 4294967296 := by omega
  have w3 : y1 < 4294967296 := by omega
  clear hA0 hval0
  refine (KProof_any x0 y0 x1 y1 W w0 w1 w2 w3 (tab_of hL)).mono fun e W' ⟨he, bel⟩ => ?_
  subst he
  exact ⟨_, rfl, _, _, _, [], _, [], hW', trodAll_mk1 (shut_bool Tryd.underlying4 _), (trodAll_cons_mk (Below.trod laidOut (by kernel_rfl) (of_decide_eq_true (by kernel_rfl)) k0 bel lt0) (trodAll_cons_mk (Below.trod laidOut (by kernel_rfl) (of_decide_eq_true (by kernel_rfl)) k1 bel lt1) trodAll_mk0)), rfl, bel.frame _, fun h => by cases h⟩

theorem over : Rows.keyProofRow.holds Tryd.pinned (OpenSpec.ofChange Rows.keyProofSpec) :=
  OpenClaim.holds_of_wide 4 Tryd.f4 rfl rfl rfl rfl rfl rfl rfl ⟨rfl, rfl, rfl, rfl, rfl⟩ rfl rfl rfl rfl rfl (by kernel_rfl) Tryd.func4 (by kernel_rfl)
    (of_decide_eq_true (by kernel_rfl)) (by unfold Func.isWrapper; first | (rw [if_pos (by decide +kernel)]; kernel_rfl) | (rw [if_neg (by decide +kernel)]; exact ⟨rfl, rfl⟩))
    (fun os started H enc _ => lifted os started H enc)

theorem tied : Claim7.holds Tryd.pinned (.plain (OpenSpec.ofChange Rows.keyProofSpec)) Rows.keyProofCard :=
  Claim7.holds_tied_plain_at .later [] [.data] true (true, "513883a4a7dfce83dac8e459564bc91e68984abdf8a429c072e292ec357ced19") false
    over (fun _ h => by cases h) (by kernel_rfl) (fun _ h => by cases h) keyProof_row_tie rfl ⟨rfl, rfl⟩ (by kernel_rfl) rfl
    (fun f fn hf hfn => by
      obtain rfl : f = 4 := Option.some.inj ((show Tryd.prog.funcNamed "ferrybridge/ferrybridgelaw05.KeyProof" = some 4 by kernel_rfl).symm.trans hf) |>.symm
      obtain rfl : fn = Tryd.f4 := (Option.some.inj (Tryd.func4.symm.trans hfn)).symm
      exact ⟨by kernel_rfl, fun j t ht => by
        have hm : t ∈ Tryd.f4.params.toList := by simpa using Array.mem_of_getElem? ht
        have hall : (Tryd.f4.params.toList.all fun u => !Tryd.prog.wantsStandIn u) = true := by kernel_rfl
        exact (show Tryd.prog.wantsStandIn t = false by simpa using List.all_eq_true.1 hall t hm)⟩)
    (by kernel_rfl)
theorem proved : Rows.KeyProofCardSaid := tied
#print axioms proved
end Go.Proofs.YtdgllpcljjhhdaaDoor.keyProof
