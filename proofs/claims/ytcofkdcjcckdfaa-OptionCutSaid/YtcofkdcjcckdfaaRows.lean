/-
  No cell of these rows narrows 'for every input' (looked for: loops, veiled, ifaces, maps, wideKeys, modest, calm, conditions, laid).
  DERIVED. THE GIVEN ROWS OF THIS SEAT. 5 by the template 'for every input the law returns true; each argument reads behind the call as it read before'; 0 by the template 'total and deterministic' (their statements: YtcofkdcjcckdfaaTotals.lean).
  GIVEN WITH THE SEED: the statements are not yours to turn. If you find one false, say at which input.
  Laid BY PROGRAM, IN A SANDBOX (cutbox-rows.mjs): the forced cells as the released guide's own fill.sh prints them over the translation b72164cd32020bf6… (all of the seat's roots in one cut). By AI agents, Wed Nov 11 2026. No macro, syntax, notation, axiom, sorry.
-/
import Derived.Test.YtcofkdcjcckdfaaChecked
import GoSem.Claim
import GoSem.ClaimJoined
import GoSem.ClaimMapViews
import Derived.JoinedTies
import Derived.KernelRfl
namespace Go.Proofs.Ytcofkdcjcckdfaa
/- THE CELL 'sum', in the pinned program and in every row, IS THE sha256 OF THE DUMP (.gsa) THAT YtcofkdcjcckdfaaProg.lean LOADS. Nothing in Lean hashes anything: it is a label: what it is worth is what the hold of that sum in a sandbox is worth. -/
noncomputable def Try.pinned : Pinned := { name := "ytcofkdcjcckdfaa", sum := "b72164cd32020bf60a27db5f14a8dd70ea8e33aff6adb8d5355e5a344f5bb7d8", checked := Try.checked }
namespace Rows
def none {H : Type} : Left H := { results := [], args := [] }

/-- 'ferrybridgelaw07.OptionPuts': WHATEVER THE INPUT: true; the input reads as it did. -/
def optionPutsSpec : ChangeSpec := { name := "optionPuts", fn := fun _ => fun
  | [d] => { results := [.lit (.bool true)], args := [d] }
  | _ => none }
def optionPutsRow : OpenClaim := { program := "ytcofkdcjcckdfaa", sum := "b72164cd32020bf60a27db5f14a8dd70ea8e33aff6adb8d5355e5a344f5bb7d8", func := "ferrybridge/ferrybridgelaw07.OptionPuts", spec := "optionPuts", apart := false }
def OptionPutsSaid : Prop := optionPutsRow.holds Try.pinned (OpenSpec.ofChange optionPutsSpec)

/-- ITS FALSE NEIGHBOUR: 'it returns false'. Refute it at one input. -/
def optionPutsWrong : ChangeSpec := { name := "optionPuts", fn := fun _ => fun
  | [d] => { results := [.lit (.bool false)], args := [d] }
  | _ => none }
def OptionPutsWrongFalsely : Prop := optionPutsRow.holds Try.pinned (OpenSpec.ofChange optionPutsWrong)

/-- 'ferrybridgelaw07.OptionGets': WHATEVER THE INPUT: true; the input reads as it did. -/
def optionGetsSpec : ChangeSpec := { name := "optionGets", fn := fun _ => fun
  | [d] => { results := [.lit (.bool true)], args := [d] }
  | _ => none }
def optionGetsRow : OpenClaim := { program := "ytcofkdcjcckdfaa", sum := "b72164cd32020bf60a27db5f14a8dd70ea8e33aff6adb8d5355e5a344f5bb7d8", func := "ferrybridge/ferrybridgelaw07.OptionGets", spec := "optionGets", apart := false }
def OptionGetsSaid : Prop := optionGetsRow.holds Try.pinned (OpenSpec.ofChange optionGetsSpec)

/-- ITS FALSE NEIGHBOUR: 'it returns false'. Refute it at one input. -/
def optionGetsWrong : ChangeSpec := { name := "optionGets", fn := fun _ => fun
  | [d] => { results := [.lit (.bool false)], args := [d] }
  | _ => none }
def OptionGetsWrongFalsely : Prop := optionGetsRow.holds Try.pinned (OpenSpec.ofChange optionGetsWrong)

/-- 'ferrybridgelaw07.OptionFinds': WHATEVER THE INPUT: true; the input reads as it did. -/
def optionFindsSpec : ChangeSpec := { name := "optionFinds", fn := fun _ => fun
  | [d1, d2] => { results := [.lit (.bool true)], args := [d1, d2] }
  | _ => none }
def optionFindsRow : OpenClaim := { program := "ytcofkdcjcckdfaa", sum := "b72164cd32020bf60a27db5f14a8dd70ea8e33aff6adb8d5355e5a344f5bb7d8", func := "ferrybridge/ferrybridgelaw07.OptionFinds", spec := "optionFinds", apart := false }
def OptionFindsSaid : Prop := optionFindsRow.holds Try.pinned (OpenSpec.ofChange optionFindsSpec)

/-- ITS FALSE NEIGHBOUR: 'it returns false'. Refute it at one input. -/
def optionFindsWrong : ChangeSpec := { name := "optionFinds", fn := fun _ => fun
  | [d1, d2] => { results := [.lit (.bool false)], args := [d1, d2] }
  | _ => none }
def OptionFindsWrongFalsely : Prop := optionFindsRow.holds Try.pinned (OpenSpec.ofChange optionFindsWrong)

/-- 'ferrybridgelaw07.OptionCut': WHATEVER THE INPUT: true; the input reads as it did. -/
def optionCutSpec : ChangeSpec := { name := "optionCut", fn := fun _ => fun
  | [d1, d2] => { results := [.lit (.bool true)], args := [d1, d2] }
  | _ => none }
def optionCutRow : OpenClaim := { program := "ytcofkdcjcckdfaa", sum := "b72164cd32020bf60a27db5f14a8dd70ea8e33aff6adb8d5355e5a344f5bb7d8", func := "ferrybridge/ferrybridgelaw07.OptionCut", spec := "optionCut", apart := false }
def OptionCutSaid : Prop := optionCutRow.holds Try.pinned (OpenSpec.ofChange optionCutSpec)

/-- ITS FALSE NEIGHBOUR: 'it returns false'. Refute it at one input. -/
def optionCutWrong : ChangeSpec := { name := "optionCut", fn := fun _ => fun
  | [d1, d2] => { results := [.lit (.bool false)], args := [d1, d2] }
  | _ => none }
def OptionCutWrongFalsely : Prop := optionCutRow.holds Try.pinned (OpenSpec.ofChange optionCutWrong)

/-- 'ferrybridgelaw07.OptionKinds': WHATEVER THE INPUT: true; the input reads as it did. -/
def optionKindsSpec : ChangeSpec := { name := "optionKinds", fn := fun _ => fun
  | [d1, d2] => { results := [.lit (.bool true)], args := [d1, d2] }
  | _ => none }
def optionKindsRow : OpenClaim := { program := "ytcofkdcjcckdfaa", sum := "b72164cd32020bf60a27db5f14a8dd70ea8e33aff6adb8d5355e5a344f5bb7d8", func := "ferrybridge/ferrybridgelaw07.OptionKinds", spec := "optionKinds", apart := false }
def OptionKindsSaid : Prop := optionKindsRow.holds Try.pinned (OpenSpec.ofChange optionKindsSpec)

/-- ITS FALSE NEIGHBOUR: 'it returns false'. Refute it at one input. -/
def optionKindsWrong : ChangeSpec := { name := "optionKinds", fn := fun _ => fun
  | [d1, d2] => { results := [.lit (.bool false)], args := [d1, d2] }
  | _ => none }
def OptionKindsWrongFalsely : Prop := optionKindsRow.holds Try.pinned (OpenSpec.ofChange optionKindsWrong)

/- THE SECOND FORM. 'bulk': how many values and letters a reading holds, each counted each time it is reached (what is shared counts as often as it is met; a slice's spare places count too). A statement '..UptoSaid' is the law's where the arguments, and the package variables that the reading takes, are together of bulk at most 1048576: NARROWER than '..Said'. Prove '..Said' where nothing that the law and all that it calls make is longer than what came in: it says more and counts as full. Else prove '..UptoSaid'. A law counts once. -/
mutual
def uptoBulk {H : Type} : DataW H → Nat
  | .lit (.string bytes) => bytes.length + 1
  | .lit _ => 1
  | .nil => 1
  | .ptr d => uptoBulk d + 1
  | .slice elems spare => uptoBulkAll elems + uptoBulkAll spare + 1
  | .agg parts => uptoBulkAll parts + 1
  | .iface _ d => uptoBulk d + 1
  | .map entries => uptoBulkEntries entries + 1
  | .held _ => 1
def uptoBulkAll {H : Type} : List (DataW H) → Nat
  | [] => 0
  | d :: r => uptoBulk d + uptoBulkAll r
def uptoBulkEntries {H : Type} : List (Lit × DataW H) → Nat
  | [] => 0
  | x :: r => uptoBulkEntry x + uptoBulkEntries r
def uptoBulkEntry {H : Type} : Lit × DataW H → Nat
  | (.string bytes, d) => bytes.length + uptoBulk d + 1
  | (_, d) => uptoBulk d + 1
 end
def uptoSmall : (H : Type) → List (DataW H) → Bool := fun _ ds => decide (uptoBulkAll ds ≤ 1048576)
def OpenSpec.upto (s : _root_.Go.ChangeSpec) : _root_.Go.OpenSpec := { _root_.Go.OpenSpec.ofChange s with cond := some uptoSmall }

/-- 'ferrybridgelaw07.OptionPuts', WHERE WHAT IT READS IS OF BULK AT MOST 1048576: true; the input reads as it did. -/
def optionPutsUptoRow : OpenClaim := { program := "ytcofkdcjcckdfaa", sum := "b72164cd32020bf60a27db5f14a8dd70ea8e33aff6adb8d5355e5a344f5bb7d8", func := "ferrybridge/ferrybridgelaw07.OptionPuts", spec := "optionPuts", apart := false, narrowed := true }
def OptionPutsUptoSaid : Prop := optionPutsUptoRow.holds Try.pinned (OpenSpec.upto optionPutsSpec)

/-- 'ferrybridgelaw07.OptionGets', WHERE WHAT IT READS IS OF BULK AT MOST 1048576: true; the input reads as it did. -/
def optionGetsUptoRow : OpenClaim := { program := "ytcofkdcjcckdfaa", sum := "b72164cd32020bf60a27db5f14a8dd70ea8e33aff6adb8d5355e5a344f5bb7d8", func := "ferrybridge/ferrybridgelaw07.OptionGets", spec := "optionGets", apart := false, narrowed := true }
def OptionGetsUptoSaid : Prop := optionGetsUptoRow.holds Try.pinned (OpenSpec.upto optionGetsSpec)

/-- 'ferrybridgelaw07.OptionFinds', WHERE WHAT IT READS IS OF BULK AT MOST 1048576: true; the input reads as it did. -/
def optionFindsUptoRow : OpenClaim := { program := "ytcofkdcjcckdfaa", sum := "b72164cd32020bf60a27db5f14a8dd70ea8e33aff6adb8d5355e5a344f5bb7d8", func := "ferrybridge/ferrybridgelaw07.OptionFinds", spec := "optionFinds", apart := false, narrowed := true }
def OptionFindsUptoSaid : Prop := optionFindsUptoRow.holds Try.pinned (OpenSpec.upto optionFindsSpec)

/-- 'ferrybridgelaw07.OptionCut', WHERE WHAT IT READS IS OF BULK AT MOST 1048576: true; the input reads as it did. -/
def optionCutUptoRow : OpenClaim := { program := "ytcofkdcjcckdfaa", sum := "b72164cd32020bf60a27db5f14a8dd70ea8e33aff6adb8d5355e5a344f5bb7d8", func := "ferrybridge/ferrybridgelaw07.OptionCut", spec := "optionCut", apart := false, narrowed := true }
def OptionCutUptoSaid : Prop := optionCutUptoRow.holds Try.pinned (OpenSpec.upto optionCutSpec)

/-- 'ferrybridgelaw07.OptionKinds', WHERE WHAT IT READS IS OF BULK AT MOST 1048576: true; the input reads as it did. -/
def optionKindsUptoRow : OpenClaim := { program := "ytcofkdcjcckdfaa", sum := "b72164cd32020bf60a27db5f14a8dd70ea8e33aff6adb8d5355e5a344f5bb7d8", func := "ferrybridge/ferrybridgelaw07.OptionKinds", spec := "optionKinds", apart := false, narrowed := true }
def OptionKindsUptoSaid : Prop := optionKindsUptoRow.holds Try.pinned (OpenSpec.upto optionKindsSpec)

end Rows
end Go.Proofs.Ytcofkdcjcckdfaa
