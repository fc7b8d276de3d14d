/-
  No cell of these rows narrows 'for every input' (looked for: loops, veiled, ifaces, maps, wideKeys, modest, calm, conditions, laid).
  DERIVED. THE GIVEN ROWS OF THIS SEAT. 5 by the template 'for every input the law returns true; each argument reads behind the call as it read before'; 0 by the template 'total and deterministic' (their statements: YtgcblajhdebigaaTotals.lean).
  GIVEN WITH THE SEED: the statements are not yours to turn. If you find one false, say at which input.
  Laid BY PROGRAM, IN A SANDBOX (cutbox-rows.mjs): the forced cells as the released guide's own fill.sh prints them over the translation 7b279e5769683b18… (all of the seat's roots in one cut). By AI agents, Wed Nov 11 2026. No macro, syntax, notation, axiom, sorry.
-/
import Derived.Test.YtgcblajhdebigaaChecked
import GoSem.Claim
import GoSem.ClaimJoined
import GoSem.ClaimMapViews
import Derived.JoinedTies
import Derived.KernelRfl
namespace Go.Proofs.Ytgcblajhdebigaa
/- THE CELL 'sum', in the pinned program and in every row, IS THE sha256 OF THE DUMP (.gsa) THAT YtgcblajhdebigaaProg.lean LOADS. Nothing in Lean hashes anything: it is a label: what it is worth is what the hold of that sum in a sandbox is worth. -/
noncomputable def Try.pinned : Pinned := { name := "ytgcblajhdebigaa", sum := "7b279e5769683b18e74a78ebbc6c28be813c2239505e372e4f2ad652a3aac4de", checked := Try.checked }
namespace Rows
def none {H : Type} : Left H := { results := [], args := [] }

/-- 'ferrybridgelaw15.DsendActs': WHATEVER THE INPUT: true; the input reads as it did. -/
def dsendActsSpec : ChangeSpec := { name := "dsendActs", fn := fun _ => fun
  | [d] => { results := [.lit (.bool true)], args := [d] }
  | _ => none }
def dsendActsRow : OpenClaim := { program := "ytgcblajhdebigaa", sum := "7b279e5769683b18e74a78ebbc6c28be813c2239505e372e4f2ad652a3aac4de", func := "ferrybridge/ferrybridgelaw15.DsendActs", spec := "dsendActs", inPlace := ["slices.overlaps[ferrybridge/span.Run]"], unfollowed := true, recurses := true, apart := false }
def DsendActsSaid : Prop := dsendActsRow.holds Try.pinned (OpenSpec.ofChange dsendActsSpec)

/-- ITS FALSE NEIGHBOUR: 'it returns false'. Refute it at one input. -/
def dsendActsWrong : ChangeSpec := { name := "dsendActs", fn := fun _ => fun
  | [d] => { results := [.lit (.bool false)], args := [d] }
  | _ => none }
def DsendActsWrongFalsely : Prop := dsendActsRow.holds Try.pinned (OpenSpec.ofChange dsendActsWrong)

/-- 'ferrybridgelaw15.DsendAll': WHATEVER THE INPUT: true; the input reads as it did. -/
def dsendAllSpec : ChangeSpec := { name := "dsendAll", fn := fun _ => fun
  | [d1, d2, d3] => { results := [.lit (.bool true)], args := [d1, d2, d3] }
  | _ => none }
def dsendAllRow : OpenClaim := { program := "ytgcblajhdebigaa", sum := "7b279e5769683b18e74a78ebbc6c28be813c2239505e372e4f2ad652a3aac4de", func := "ferrybridge/ferrybridgelaw15.DsendAll", spec := "dsendAll", inPlace := ["slices.overlaps[ferrybridge/span.Run]"], unfollowed := true, recurses := true, apart := false }
def DsendAllSaid : Prop := dsendAllRow.holds Try.pinned (OpenSpec.ofChange dsendAllSpec)

/-- ITS FALSE NEIGHBOUR: 'it returns false'. Refute it at one input. -/
def dsendAllWrong : ChangeSpec := { name := "dsendAll", fn := fun _ => fun
  | [d1, d2, d3] => { results := [.lit (.bool false)], args := [d1, d2, d3] }
  | _ => none }
def DsendAllWrongFalsely : Prop := dsendAllRow.holds Try.pinned (OpenSpec.ofChange dsendAllWrong)

/-- 'ferrybridgelaw15.DsendWindow': WHATEVER THE INPUT: true; the input reads as it did. -/
def dsendWindowSpec : ChangeSpec := { name := "dsendWindow", fn := fun _ => fun
  | [d] => { results := [.lit (.bool true)], args := [d] }
  | _ => none }
def dsendWindowRow : OpenClaim := { program := "ytgcblajhdebigaa", sum := "7b279e5769683b18e74a78ebbc6c28be813c2239505e372e4f2ad652a3aac4de", func := "ferrybridge/ferrybridgelaw15.DsendWindow", spec := "dsendWindow", inPlace := ["slices.overlaps[ferrybridge/span.Run]"], unfollowed := true, recurses := true, apart := false }
def DsendWindowSaid : Prop := dsendWindowRow.holds Try.pinned (OpenSpec.ofChange dsendWindowSpec)

/-- ITS FALSE NEIGHBOUR: 'it returns false'. Refute it at one input. -/
def dsendWindowWrong : ChangeSpec := { name := "dsendWindow", fn := fun _ => fun
  | [d] => { results := [.lit (.bool false)], args := [d] }
  | _ => none }
def DsendWindowWrongFalsely : Prop := dsendWindowRow.holds Try.pinned (OpenSpec.ofChange dsendWindowWrong)

/-- 'ferrybridgelaw15.DsendNil': WHATEVER THE INPUT: true; the input reads as it did. -/
def dsendNilSpec : ChangeSpec := { name := "dsendNil", fn := fun _ => fun
  | [d1, d2] => { results := [.lit (.bool true)], args := [d1, d2] }
  | _ => none }
def dsendNilRow : OpenClaim := { program := "ytgcblajhdebigaa", sum := "7b279e5769683b18e74a78ebbc6c28be813c2239505e372e4f2ad652a3aac4de", func := "ferrybridge/ferrybridgelaw15.DsendNil", spec := "dsendNil", inPlace := ["slices.overlaps[ferrybridge/span.Run]"], unfollowed := true, recurses := true, apart := false }
def DsendNilSaid : Prop := dsendNilRow.holds Try.pinned (OpenSpec.ofChange dsendNilSpec)

/-- ITS FALSE NEIGHBOUR: 'it returns false'. Refute it at one input. -/
def dsendNilWrong : ChangeSpec := { name := "dsendNil", fn := fun _ => fun
  | [d1, d2] => { results := [.lit (.bool false)], args := [d1, d2] }
  | _ => none }
def DsendNilWrongFalsely : Prop := dsendNilRow.holds Try.pinned (OpenSpec.ofChange dsendNilWrong)

/-- 'ferrybridgelaw15.DsendEnd': WHATEVER THE INPUT: true; the input reads as it did. -/
def dsendEndSpec : ChangeSpec := { name := "dsendEnd", fn := fun _ => fun
  | [d1, d2] => { results := [.lit (.bool true)], args := [d1, d2] }
  | _ => none }
def dsendEndRow : OpenClaim := { program := "ytgcblajhdebigaa", sum := "7b279e5769683b18e74a78ebbc6c28be813c2239505e372e4f2ad652a3aac4de", func := "ferrybridge/ferrybridgelaw15.DsendEnd", spec := "dsendEnd", inPlace := ["slices.overlaps[ferrybridge/span.Run]"], unfollowed := true, recurses := true, apart := false }
def DsendEndSaid : Prop := dsendEndRow.holds Try.pinned (OpenSpec.ofChange dsendEndSpec)

/-- ITS FALSE NEIGHBOUR: 'it returns false'. Refute it at one input. -/
def dsendEndWrong : ChangeSpec := { name := "dsendEnd", fn := fun _ => fun
  | [d1, d2] => { results := [.lit (.bool false)], args := [d1, d2] }
  | _ => none }
def DsendEndWrongFalsely : Prop := dsendEndRow.holds Try.pinned (OpenSpec.ofChange dsendEndWrong)

/- THE SECOND FORM. 'bulk': how many values and letters a reading holds, each counted each time it is reached (what is shared counts as often as it is met; a slice's spare places count too). A statement '..UptoSaid' is the law's where the arguments, and the package variables that the reading takes, are together of bulk at most 1048576: NARROWER than '..Said'. Prove '..Said' where nothing that the law and all that it calls make is longer than what came in: it says more and counts as full. Else prove '..UptoSaid'. A law counts once. -/
mutual
def uptoBulk {H : Type} : DataW H → Nat
  | .lit (.string bytes) => bytes.length + 1
  | .lit _ => 1
  | .nil => 1
  | .ptr d => uptoBulk d + 1
  | .slice elems spare => uptoBulkAll elems + uptoBulkAll spare + 1
  | .agg parts => uptoBulkAll parts + 1
  | .iface _ d => uptoBulk d + 1
  | .map entries => uptoBulkEntries entries + 1
  | .held _ => 1
def uptoBulkAll {H : Type} : List (DataW H) → Nat
  | [] => 0
  | d :: r => uptoBulk d + uptoBulkAll r
def uptoBulkEntries {H : Type} : List (Lit × DataW H) → Nat
  | [] => 0
  | x :: r => uptoBulkEntry x + uptoBulkEntries r
def uptoBulkEntry {H : Type} : Lit × DataW H → Nat
  | (.string bytes, d) => bytes.length + uptoBulk d + 1
  | (_, d) => uptoBulk d + 1
 end
def uptoSmall : (H : Type) → List (DataW H) → Bool := fun _ ds => decide (uptoBulkAll ds ≤ 1048576)
def OpenSpec.upto (s : _root_.Go.ChangeSpec) : _root_.Go.OpenSpec := { _root_.Go.OpenSpec.ofChange s with cond := some uptoSmall }

/-- 'ferrybridgelaw15.DsendActs', WHERE WHAT IT READS IS OF BULK AT MOST 1048576: true; the input reads as it did. -/
def dsendActsUptoRow : OpenClaim := { program := "ytgcblajhdebigaa", sum := "7b279e5769683b18e74a78ebbc6c28be813c2239505e372e4f2ad652a3aac4de", func := "ferrybridge/ferrybridgelaw15.DsendActs", spec := "dsendActs", inPlace := ["slices.overlaps[ferrybridge/span.Run]"], unfollowed := true, recurses := true, apart := false, narrowed := true }
def DsendActsUptoSaid : Prop := dsendActsUptoRow.holds Try.pinned (OpenSpec.upto dsendActsSpec)

/-- 'ferrybridgelaw15.DsendAll', WHERE WHAT IT READS IS OF BULK AT MOST 1048576: true; the input reads as it did. -/
def dsendAllUptoRow : OpenClaim := { program := "ytgcblajhdebigaa", sum := "7b279e5769683b18e74a78ebbc6c28be813c2239505e372e4f2ad652a3aac4de", func := "ferrybridge/ferrybridgelaw15.DsendAll", spec := "dsendAll", inPlace := ["slices.overlaps[ferrybridge/span.Run]"], unfollowed := true, recurses := true, apart := false, narrowed := true }
def DsendAllUptoSaid : Prop := dsendAllUptoRow.holds Try.pinned (OpenSpec.upto dsendAllSpec)

/-- 'ferrybridgelaw15.DsendWindow', WHERE WHAT IT READS IS OF BULK AT MOST 1048576: true; the input reads as it did. -/
def dsendWindowUptoRow : OpenClaim := { program := "ytgcblajhdebigaa", sum := "7b279e5769683b18e74a78ebbc6c28be813c2239505e372e4f2ad652a3aac4de", func := "ferrybridge/ferrybridgelaw15.DsendWindow", spec := "dsendWindow", inPlace := ["slices.overlaps[ferrybridge/span.Run]"], unfollowed := true, recurses := true, apart := false, narrowed := true }
def DsendWindowUptoSaid : Prop := dsendWindowUptoRow.holds Try.pinned (OpenSpec.upto dsendWindowSpec)

/-- 'ferrybridgelaw15.DsendNil', WHERE WHAT IT READS IS OF BULK AT MOST 1048576: true; the input reads as it did. -/
def dsendNilUptoRow : OpenClaim := { program := "ytgcblajhdebigaa", sum := "7b279e5769683b18e74a78ebbc6c28be813c2239505e372e4f2ad652a3aac4de", func := "ferrybridge/ferrybridgelaw15.DsendNil", spec := "dsendNil", inPlace := ["slices.overlaps[ferrybridge/span.Run]"], unfollowed := true, recurses := true, apart := false, narrowed := true }
def DsendNilUptoSaid : Prop := dsendNilUptoRow.holds Try.pinned (OpenSpec.upto dsendNilSpec)

/-- 'ferrybridgelaw15.DsendEnd', WHERE WHAT IT READS IS OF BULK AT MOST 1048576: true; the input reads as it did. -/
def dsendEndUptoRow : OpenClaim := { program := "ytgcblajhdebigaa", sum := "7b279e5769683b18e74a78ebbc6c28be813c2239505e372e4f2ad652a3aac4de", func := "ferrybridge/ferrybridgelaw15.DsendEnd", spec := "dsendEnd", inPlace := ["slices.overlaps[ferrybridge/span.Run]"], unfollowed := true, recurses := true, apart := false, narrowed := true }
def DsendEndUptoSaid : Prop := dsendEndUptoRow.holds Try.pinned (OpenSpec.upto dsendEndSpec)

end Rows
end Go.Proofs.Ytgcblajhdebigaa
