/-
  No cell of these rows narrows 'for every input' (looked for: loops, veiled, ifaces, maps, wideKeys, modest, calm, conditions, laid).
  DERIVED. THE GIVEN ROWS OF THIS SEAT. 5 by the template 'for every input the law returns true; each argument reads behind the call as it read before'; 0 by the template 'total and deterministic' (their statements: YtnpkmkjenlhkiaaTotals.lean).
  GIVEN WITH THE SEED: the statements are not yours to turn. If you find one false, say at which input.
  Laid BY PROGRAM, IN A SANDBOX (cutbox-rows.mjs): the forced cells as the released guide's own fill.sh prints them over the translation 87300e7252597e15… (all of the seat's roots in one cut). By AI agents, Wed Nov 11 2026. No macro, syntax, notation, axiom, sorry.
-/
import Derived.Test.YtnpkmkjenlhkiaaChecked
import GoSem.Claim
import GoSem.ClaimJoined
import GoSem.ClaimMapViews
import Derived.JoinedTies
import Derived.KernelRfl
namespace Go.Proofs.Ytnpkmkjenlhkiaa
/- THE CELL 'sum', in the pinned program and in every row, IS THE sha256 OF THE DUMP (.gsa) THAT YtnpkmkjenlhkiaaProg.lean LOADS. Nothing in Lean hashes anything: it is a label: what it is worth is what the hold of that sum in a sandbox is worth. -/
noncomputable def Try.pinned : Pinned := { name := "ytnpkmkjenlhkiaa", sum := "87300e7252597e15edd9004ffc0187004c8db4b24e71f50b8dd30ed8508a3957", checked := Try.checked }
namespace Rows
def none {H : Type} : Left H := { results := [], args := [] }

/-- 'ferrybridgelaw14.FlowPair': WHATEVER THE INPUT: true; the input reads as it did. -/
def flowPairSpec : ChangeSpec := { name := "flowPair", fn := fun _ => fun
  | [d1, d2] => { results := [.lit (.bool true)], args := [d1, d2] }
  | _ => none }
def flowPairRow : OpenClaim := { program := "ytnpkmkjenlhkiaa", sum := "87300e7252597e15edd9004ffc0187004c8db4b24e71f50b8dd30ed8508a3957", func := "ferrybridge/ferrybridgelaw14.FlowPair", spec := "flowPair", unfollowed := true, recurses := true, apart := false }
def FlowPairSaid : Prop := flowPairRow.holds Try.pinned (OpenSpec.ofChange flowPairSpec)

/-- ITS FALSE NEIGHBOUR: 'it returns false'. Refute it at one input. -/
def flowPairWrong : ChangeSpec := { name := "flowPair", fn := fun _ => fun
  | [d1, d2] => { results := [.lit (.bool false)], args := [d1, d2] }
  | _ => none }
def FlowPairWrongFalsely : Prop := flowPairRow.holds Try.pinned (OpenSpec.ofChange flowPairWrong)

/-- 'ferrybridgelaw14.FlowEnds': WHATEVER THE INPUT: true; the input reads as it did. -/
def flowEndsSpec : ChangeSpec := { name := "flowEnds", fn := fun _ => fun
  | [d1, d2, d3] => { results := [.lit (.bool true)], args := [d1, d2, d3] }
  | _ => none }
def flowEndsRow : OpenClaim := { program := "ytnpkmkjenlhkiaa", sum := "87300e7252597e15edd9004ffc0187004c8db4b24e71f50b8dd30ed8508a3957", func := "ferrybridge/ferrybridgelaw14.FlowEnds", spec := "flowEnds", unfollowed := true, recurses := true, apart := false }
def FlowEndsSaid : Prop := flowEndsRow.holds Try.pinned (OpenSpec.ofChange flowEndsSpec)

/-- ITS FALSE NEIGHBOUR: 'it returns false'. Refute it at one input. -/
def flowEndsWrong : ChangeSpec := { name := "flowEnds", fn := fun _ => fun
  | [d1, d2, d3] => { results := [.lit (.bool false)], args := [d1, d2, d3] }
  | _ => none }
def FlowEndsWrongFalsely : Prop := flowEndsRow.holds Try.pinned (OpenSpec.ofChange flowEndsWrong)

/-- 'ferrybridgelaw14.FlowOver': WHATEVER THE INPUT: true; the input reads as it did. -/
def flowOverSpec : ChangeSpec := { name := "flowOver", fn := fun _ => fun
  | [d1, d2, d3] => { results := [.lit (.bool true)], args := [d1, d2, d3] }
  | _ => none }
def flowOverRow : OpenClaim := { program := "ytnpkmkjenlhkiaa", sum := "87300e7252597e15edd9004ffc0187004c8db4b24e71f50b8dd30ed8508a3957", func := "ferrybridge/ferrybridgelaw14.FlowOver", spec := "flowOver", unfollowed := true, recurses := true, apart := false }
def FlowOverSaid : Prop := flowOverRow.holds Try.pinned (OpenSpec.ofChange flowOverSpec)

/-- ITS FALSE NEIGHBOUR: 'it returns false'. Refute it at one input. -/
def flowOverWrong : ChangeSpec := { name := "flowOver", fn := fun _ => fun
  | [d1, d2, d3] => { results := [.lit (.bool false)], args := [d1, d2, d3] }
  | _ => none }
def FlowOverWrongFalsely : Prop := flowOverRow.holds Try.pinned (OpenSpec.ofChange flowOverWrong)

/-- 'ferrybridgelaw14.FlowNil': WHATEVER THE INPUT: true; the input reads as it did. -/
def flowNilSpec : ChangeSpec := { name := "flowNil", fn := fun _ => fun
  | [d1, d2] => { results := [.lit (.bool true)], args := [d1, d2] }
  | _ => none }
def flowNilRow : OpenClaim := { program := "ytnpkmkjenlhkiaa", sum := "87300e7252597e15edd9004ffc0187004c8db4b24e71f50b8dd30ed8508a3957", func := "ferrybridge/ferrybridgelaw14.FlowNil", spec := "flowNil", unfollowed := true, recurses := true, apart := false }
def FlowNilSaid : Prop := flowNilRow.holds Try.pinned (OpenSpec.ofChange flowNilSpec)

/-- ITS FALSE NEIGHBOUR: 'it returns false'. Refute it at one input. -/
def flowNilWrong : ChangeSpec := { name := "flowNil", fn := fun _ => fun
  | [d1, d2] => { results := [.lit (.bool false)], args := [d1, d2] }
  | _ => none }
def FlowNilWrongFalsely : Prop := flowNilRow.holds Try.pinned (OpenSpec.ofChange flowNilWrong)

/-- 'ferrybridgelaw14.FlowCloses': WHATEVER THE INPUT: true; the input reads as it did. -/
def flowClosesSpec : ChangeSpec := { name := "flowCloses", fn := fun _ => fun
  | [d1, d2, d3] => { results := [.lit (.bool true)], args := [d1, d2, d3] }
  | _ => none }
def flowClosesRow : OpenClaim := { program := "ytnpkmkjenlhkiaa", sum := "87300e7252597e15edd9004ffc0187004c8db4b24e71f50b8dd30ed8508a3957", func := "ferrybridge/ferrybridgelaw14.FlowCloses", spec := "flowCloses", unfollowed := true, recurses := true, apart := false }
def FlowClosesSaid : Prop := flowClosesRow.holds Try.pinned (OpenSpec.ofChange flowClosesSpec)

/-- ITS FALSE NEIGHBOUR: 'it returns false'. Refute it at one input. -/
def flowClosesWrong : ChangeSpec := { name := "flowCloses", fn := fun _ => fun
  | [d1, d2, d3] => { results := [.lit (.bool false)], args := [d1, d2, d3] }
  | _ => none }
def FlowClosesWrongFalsely : Prop := flowClosesRow.holds Try.pinned (OpenSpec.ofChange flowClosesWrong)

/- THE SECOND FORM. 'bulk': how many values and letters a reading holds, each counted each time it is reached (what is shared counts as often as it is met; a slice's spare places count too). A statement '..UptoSaid' is the law's where the arguments, and the package variables that the reading takes, are together of bulk at most 1048576: NARROWER than '..Said'. Prove '..Said' where nothing that the law and all that it calls make is longer than what came in: it says more and counts as full. Else prove '..UptoSaid'. A law counts once. -/
mutual
def uptoBulk {H : Type} : DataW H → Nat
  | .lit (.string bytes) => bytes.length + 1
  | .lit _ => 1
  | .nil => 1
  | .ptr d => uptoBulk d + 1
  | .slice elems spare => uptoBulkAll elems + uptoBulkAll spare + 1
  | .agg parts => uptoBulkAll parts + 1
  | .iface _ d => uptoBulk d + 1
  | .map entries => uptoBulkEntries entries + 1
  | .held _ => 1
def uptoBulkAll {H : Type} : List (DataW H) → Nat
  | [] => 0
  | d :: r => uptoBulk d + uptoBulkAll r
def uptoBulkEntries {H : Type} : List (Lit × DataW H) → Nat
  | [] => 0
  | x :: r => uptoBulkEntry x + uptoBulkEntries r
def uptoBulkEntry {H : Type} : Lit × DataW H → Nat
  | (.string bytes, d) => bytes.length + uptoBulk d + 1
  | (_, d) => uptoBulk d + 1
 end
def uptoSmall : (H : Type) → List (DataW H) → Bool := fun _ ds => decide (uptoBulkAll ds ≤ 1048576)
def OpenSpec.upto (s : _root_.Go.ChangeSpec) : _root_.Go.OpenSpec := { _root_.Go.OpenSpec.ofChange s with cond := some uptoSmall }

/-- 'ferrybridgelaw14.FlowPair', WHERE WHAT IT READS IS OF BULK AT MOST 1048576: true; the input reads as it did. -/
def flowPairUptoRow : OpenClaim := { program := "ytnpkmkjenlhkiaa", sum := "87300e7252597e15edd9004ffc0187004c8db4b24e71f50b8dd30ed8508a3957", func := "ferrybridge/ferrybridgelaw14.FlowPair", spec := "flowPair", unfollowed := true, recurses := true, apart := false, narrowed := true }
def FlowPairUptoSaid : Prop := flowPairUptoRow.holds Try.pinned (OpenSpec.upto flowPairSpec)

/-- 'ferrybridgelaw14.FlowEnds', WHERE WHAT IT READS IS OF BULK AT MOST 1048576: true; the input reads as it did. -/
def flowEndsUptoRow : OpenClaim := { program := "ytnpkmkjenlhkiaa", sum := "87300e7252597e15edd9004ffc0187004c8db4b24e71f50b8dd30ed8508a3957", func := "ferrybridge/ferrybridgelaw14.FlowEnds", spec := "flowEnds", unfollowed := true, recurses := true, apart := false, narrowed := true }
def FlowEndsUptoSaid : Prop := flowEndsUptoRow.holds Try.pinned (OpenSpec.upto flowEndsSpec)

/-- 'ferrybridgelaw14.FlowOver', WHERE WHAT IT READS IS OF BULK AT MOST 1048576: true; the input reads as it did. -/
def flowOverUptoRow : OpenClaim := { program := "ytnpkmkjenlhkiaa", sum := "87300e7252597e15edd9004ffc0187004c8db4b24e71f50b8dd30ed8508a3957", func := "ferrybridge/ferrybridgelaw14.FlowOver", spec := "flowOver", unfollowed := true, recurses := true, apart := false, narrowed := true }
def FlowOverUptoSaid : Prop := flowOverUptoRow.holds Try.pinned (OpenSpec.upto flowOverSpec)

/-- 'ferrybridgelaw14.FlowNil', WHERE WHAT IT READS IS OF BULK AT MOST 1048576: true; the input reads as it did. -/
def flowNilUptoRow : OpenClaim := { program := "ytnpkmkjenlhkiaa", sum := "87300e7252597e15edd9004ffc0187004c8db4b24e71f50b8dd30ed8508a3957", func := "ferrybridge/ferrybridgelaw14.FlowNil", spec := "flowNil", unfollowed := true, recurses := true, apart := false, narrowed := true }
def FlowNilUptoSaid : Prop := flowNilUptoRow.holds Try.pinned (OpenSpec.upto flowNilSpec)

/-- 'ferrybridgelaw14.FlowCloses', WHERE WHAT IT READS IS OF BULK AT MOST 1048576: true; the input reads as it did. -/
def flowClosesUptoRow : OpenClaim := { program := "ytnpkmkjenlhkiaa", sum := "87300e7252597e15edd9004ffc0187004c8db4b24e71f50b8dd30ed8508a3957", func := "ferrybridge/ferrybridgelaw14.FlowCloses", spec := "flowCloses", unfollowed := true, recurses := true, apart := false, narrowed := true }
def FlowClosesUptoSaid : Prop := flowClosesUptoRow.holds Try.pinned (OpenSpec.upto flowClosesSpec)

end Rows
end Go.Proofs.Ytnpkmkjenlhkiaa
