/- The closed facts of the row of HostKeys, each by itself. No condition. -/
import Derived.Test.YtlcegchdkigibaaGreatDoorRows
import Derived.WalkKit
import Derived.ProofKit
import Derived.OpenShut
import Derived.ShutString
import Derived.ChangeOld
import Derived.Below
import Derived.SevenTiedAt
import Derived.Deep.Slices
namespace Go.Proofs.YtlcegchdkigibaaGreatDoor.hostKeys
open Go.ChangeShapes Go.WideShapes Go.ChangeAt Go.RowKit
set_option maxRecDepth 100000
theorem and2 {a b : Bool} (h : a = true) (k : b = true) : (a && b) = true := by rw [h, k]; rfl
set_option maxHeartbeats 100000000 in
theorem closed : joinedFacts Tryz.pinned.checked.prog 3 Tryz.f3 Rows.hostKeysSpec Rows.hostKeysRow = true := by
  unfold joinedFacts
  repeat' (with_reducible refine and2 ?_ ?_)
  all_goals as_aux_lemma => kernel_rfl
set_option maxHeartbeats 100000000 in
theorem fnm : Tryz.prog.funcNamed "ferrybridge/ferrybridgelaw21.HostKeys" = some 3 := by kernel_rfl
set_option maxHeartbeats 100000000 in
theorem goesN : Tryz.prog.funcs.any Func.goes = false := by kernel_rfl
theorem goes_of_all {P : Program} (h : P.funcs.any Func.goes = false) (f : FuncId) : P.goes f = false := by
  unfold Program.goes
  rw [h, Bool.and_false, Bool.or_false, List.any_eq_false]
  intro g _
  cases hg : P.funcs[g]? with
  | none => simp
  | some fn =>
    rw [Array.any_eq_false'] at h
    simpa using h fn (Array.mem_of_getElem? hg)
theorem goesBy_none {P : Program} {c : OpenClaim} (h : P.funcs.any Func.goes = false) (hs : c.start = .entering) : false = c.goesBy P := by
  unfold OpenClaim.goesBy Program.goesAt Program.goesFrom
  rw [hs]
  cases P.funcNamed c.func with
  | none => rfl
  | some f => simp [goes_of_all h f]
end Go.Proofs.YtlcegchdkigibaaGreatDoor.hostKeys
