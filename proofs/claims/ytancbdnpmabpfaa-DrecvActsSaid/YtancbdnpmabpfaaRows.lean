/-
  No cell of these rows narrows 'for every input' (looked for: loops, veiled, ifaces, maps, wideKeys, modest, calm, conditions, laid).
  DERIVED. THE GIVEN ROWS OF THIS SEAT. 5 by the template 'for every input the law returns true; each argument reads behind the call as it read before'; 0 by the template 'total and deterministic' (their statements: YtancbdnpmabpfaaTotals.lean).
  GIVEN WITH THE SEED: the statements are not yours to turn. If you find one false, say at which input.
  Laid BY PROGRAM, IN A SANDBOX (cutbox-rows.mjs): the forced cells as the released guide's own fill.sh prints them over the translation e670c8fd1e74c691… (all of the seat's roots in one cut). By AI agents, Wed Nov 11 2026. No macro, syntax, notation, axiom, sorry.
-/
import Derived.Test.YtancbdnpmabpfaaChecked
import GoSem.Claim
import GoSem.ClaimJoined
import GoSem.ClaimMapViews
import Derived.JoinedTies
import Derived.KernelRfl
namespace Go.Proofs.Ytancbdnpmabpfaa
/- THE CELL 'sum', in the pinned program and in every row, IS THE sha256 OF THE DUMP (.gsa) THAT YtancbdnpmabpfaaProg.lean LOADS. Nothing in Lean hashes anything: it is a label: what it is worth is what the hold of that sum in a sandbox is worth. -/
noncomputable def Try.pinned : Pinned := { name := "ytancbdnpmabpfaa", sum := "e670c8fd1e74c691585100b7b4172ba16bc2d5f017c02dac1cb5e71e6d5ed2ff", checked := Try.checked }
namespace Rows
def none {H : Type} : Left H := { results := [], args := [] }

/-- 'ferrybridgelaw16.DrecvActs': WHATEVER THE INPUT: true; the input reads as it did. -/
def drecvActsSpec : ChangeSpec := { name := "drecvActs", fn := fun _ => fun
  | [d] => { results := [.lit (.bool true)], args := [d] }
  | _ => none }
def drecvActsRow : OpenClaim := { program := "ytancbdnpmabpfaa", sum := "e670c8fd1e74c691585100b7b4172ba16bc2d5f017c02dac1cb5e71e6d5ed2ff", func := "ferrybridge/ferrybridgelaw16.DrecvActs", spec := "drecvActs", inPlace := ["slices.overlaps[ferrybridge/span.Run]"], unfollowed := true, recurses := true, apart := false }
def DrecvActsSaid : Prop := drecvActsRow.holds Try.pinned (OpenSpec.ofChange drecvActsSpec)

/-- ITS FALSE NEIGHBOUR: 'it returns false'. Refute it at one input. -/
def drecvActsWrong : ChangeSpec := { name := "drecvActs", fn := fun _ => fun
  | [d] => { results := [.lit (.bool false)], args := [d] }
  | _ => none }
def DrecvActsWrongFalsely : Prop := drecvActsRow.holds Try.pinned (OpenSpec.ofChange drecvActsWrong)

/-- 'ferrybridgelaw16.DrecvOrder': WHATEVER THE INPUT: true; the input reads as it did. -/
def drecvOrderSpec : ChangeSpec := { name := "drecvOrder", fn := fun _ => fun
  | [d1, d2, d3] => { results := [.lit (.bool true)], args := [d1, d2, d3] }
  | _ => none }
def drecvOrderRow : OpenClaim := { program := "ytancbdnpmabpfaa", sum := "e670c8fd1e74c691585100b7b4172ba16bc2d5f017c02dac1cb5e71e6d5ed2ff", func := "ferrybridge/ferrybridgelaw16.DrecvOrder", spec := "drecvOrder", inPlace := ["slices.overlaps[ferrybridge/span.Run]"], unfollowed := true, recurses := true, apart := false }
def DrecvOrderSaid : Prop := drecvOrderRow.holds Try.pinned (OpenSpec.ofChange drecvOrderSpec)

/-- ITS FALSE NEIGHBOUR: 'it returns false'. Refute it at one input. -/
def drecvOrderWrong : ChangeSpec := { name := "drecvOrder", fn := fun _ => fun
  | [d1, d2, d3] => { results := [.lit (.bool false)], args := [d1, d2, d3] }
  | _ => none }
def DrecvOrderWrongFalsely : Prop := drecvOrderRow.holds Try.pinned (OpenSpec.ofChange drecvOrderWrong)

/-- 'ferrybridgelaw16.DrecvFirst': WHATEVER THE INPUT: true; the input reads as it did. -/
def drecvFirstSpec : ChangeSpec := { name := "drecvFirst", fn := fun _ => fun
  | [d1, d2, d3] => { results := [.lit (.bool true)], args := [d1, d2, d3] }
  | _ => none }
def drecvFirstRow : OpenClaim := { program := "ytancbdnpmabpfaa", sum := "e670c8fd1e74c691585100b7b4172ba16bc2d5f017c02dac1cb5e71e6d5ed2ff", func := "ferrybridge/ferrybridgelaw16.DrecvFirst", spec := "drecvFirst", inPlace := ["slices.overlaps[ferrybridge/span.Run]"], unfollowed := true, recurses := true, apart := false }
def DrecvFirstSaid : Prop := drecvFirstRow.holds Try.pinned (OpenSpec.ofChange drecvFirstSpec)

/-- ITS FALSE NEIGHBOUR: 'it returns false'. Refute it at one input. -/
def drecvFirstWrong : ChangeSpec := { name := "drecvFirst", fn := fun _ => fun
  | [d1, d2, d3] => { results := [.lit (.bool false)], args := [d1, d2, d3] }
  | _ => none }
def DrecvFirstWrongFalsely : Prop := drecvFirstRow.holds Try.pinned (OpenSpec.ofChange drecvFirstWrong)

/-- 'ferrybridgelaw16.DrecvNil': WHATEVER THE INPUT: true; the input reads as it did. -/
def drecvNilSpec : ChangeSpec := { name := "drecvNil", fn := fun _ => fun
  | [d1, d2] => { results := [.lit (.bool true)], args := [d1, d2] }
  | _ => none }
def drecvNilRow : OpenClaim := { program := "ytancbdnpmabpfaa", sum := "e670c8fd1e74c691585100b7b4172ba16bc2d5f017c02dac1cb5e71e6d5ed2ff", func := "ferrybridge/ferrybridgelaw16.DrecvNil", spec := "drecvNil", inPlace := ["slices.overlaps[ferrybridge/span.Run]"], unfollowed := true, recurses := true, apart := false }
def DrecvNilSaid : Prop := drecvNilRow.holds Try.pinned (OpenSpec.ofChange drecvNilSpec)

/-- ITS FALSE NEIGHBOUR: 'it returns false'. Refute it at one input. -/
def drecvNilWrong : ChangeSpec := { name := "drecvNil", fn := fun _ => fun
  | [d1, d2] => { results := [.lit (.bool false)], args := [d1, d2] }
  | _ => none }
def DrecvNilWrongFalsely : Prop := drecvNilRow.holds Try.pinned (OpenSpec.ofChange drecvNilWrong)

/-- 'ferrybridgelaw16.DrecvWindow': WHATEVER THE INPUT: true; the input reads as it did. -/
def drecvWindowSpec : ChangeSpec := { name := "drecvWindow", fn := fun _ => fun
  | [d] => { results := [.lit (.bool true)], args := [d] }
  | _ => none }
def drecvWindowRow : OpenClaim := { program := "ytancbdnpmabpfaa", sum := "e670c8fd1e74c691585100b7b4172ba16bc2d5f017c02dac1cb5e71e6d5ed2ff", func := "ferrybridge/ferrybridgelaw16.DrecvWindow", spec := "drecvWindow", inPlace := ["slices.overlaps[ferrybridge/span.Run]"], unfollowed := true, recurses := true, apart := false }
def DrecvWindowSaid : Prop := drecvWindowRow.holds Try.pinned (OpenSpec.ofChange drecvWindowSpec)

/-- ITS FALSE NEIGHBOUR: 'it returns false'. Refute it at one input. -/
def drecvWindowWrong : ChangeSpec := { name := "drecvWindow", fn := fun _ => fun
  | [d] => { results := [.lit (.bool false)], args := [d] }
  | _ => none }
def DrecvWindowWrongFalsely : Prop := drecvWindowRow.holds Try.pinned (OpenSpec.ofChange drecvWindowWrong)

/- THE SECOND FORM. 'bulk': how many values and letters a reading holds, each counted each time it is reached (what is shared counts as often as it is met; a slice's spare places count too). A statement '..UptoSaid' is the law's where the arguments, and the package variables that the reading takes, are together of bulk at most 1048576: NARROWER than '..Said'. Prove '..Said' where nothing that the law and all that it calls make is longer than what came in: it says more and counts as full. Else prove '..UptoSaid'. A law counts once. -/
mutual
def uptoBulk {H : Type} : DataW H → Nat
  | .lit (.string bytes) => bytes.length + 1
  | .lit _ => 1
  | .nil => 1
  | .ptr d => uptoBulk d + 1
  | .slice elems spare => uptoBulkAll elems + uptoBulkAll spare + 1
  | .agg parts => uptoBulkAll parts + 1
  | .iface _ d => uptoBulk d + 1
  | .map entries => uptoBulkEntries entries + 1
  | .held _ => 1
def uptoBulkAll {H : Type} : List (DataW H) → Nat
  | [] => 0
  | d :: r => uptoBulk d + uptoBulkAll r
def uptoBulkEntries {H : Type} : List (Lit × DataW H) → Nat
  | [] => 0
  | x :: r => uptoBulkEntry x + uptoBulkEntries r
def uptoBulkEntry {H : Type} : Lit × DataW H → Nat
  | (.string bytes, d) => bytes.length + uptoBulk d + 1
  | (_, d) => uptoBulk d + 1
 end
def uptoSmall : (H : Type) → List (DataW H) → Bool := fun _ ds => decide (uptoBulkAll ds ≤ 1048576)
def OpenSpec.upto (s : _root_.Go.ChangeSpec) : _root_.Go.OpenSpec := { _root_.Go.OpenSpec.ofChange s with cond := some uptoSmall }

/-- 'ferrybridgelaw16.DrecvActs', WHERE WHAT IT READS IS OF BULK AT MOST 1048576: true; the input reads as it did. -/
def drecvActsUptoRow : OpenClaim := { program := "ytancbdnpmabpfaa", sum := "e670c8fd1e74c691585100b7b4172ba16bc2d5f017c02dac1cb5e71e6d5ed2ff", func := "ferrybridge/ferrybridgelaw16.DrecvActs", spec := "drecvActs", inPlace := ["slices.overlaps[ferrybridge/span.Run]"], unfollowed := true, recurses := true, apart := false, narrowed := true }
def DrecvActsUptoSaid : Prop := drecvActsUptoRow.holds Try.pinned (OpenSpec.upto drecvActsSpec)

/-- 'ferrybridgelaw16.DrecvOrder', WHERE WHAT IT READS IS OF BULK AT MOST 1048576: true; the input reads as it did. -/
def drecvOrderUptoRow : OpenClaim := { program := "ytancbdnpmabpfaa", sum := "e670c8fd1e74c691585100b7b4172ba16bc2d5f017c02dac1cb5e71e6d5ed2ff", func := "ferrybridge/ferrybridgelaw16.DrecvOrder", spec := "drecvOrder", inPlace := ["slices.overlaps[ferrybridge/span.Run]"], unfollowed := true, recurses := true, apart := false, narrowed := true }
def DrecvOrderUptoSaid : Prop := drecvOrderUptoRow.holds Try.pinned (OpenSpec.upto drecvOrderSpec)

/-- 'ferrybridgelaw16.DrecvFirst', WHERE WHAT IT READS IS OF BULK AT MOST 1048576: true; the input reads as it did. -/
def drecvFirstUptoRow : OpenClaim := { program := "ytancbdnpmabpfaa", sum := "e670c8fd1e74c691585100b7b4172ba16bc2d5f017c02dac1cb5e71e6d5ed2ff", func := "ferrybridge/ferrybridgelaw16.DrecvFirst", spec := "drecvFirst", inPlace := ["slices.overlaps[ferrybridge/span.Run]"], unfollowed := true, recurses := true, apart := false, narrowed := true }
def DrecvFirstUptoSaid : Prop := drecvFirstUptoRow.holds Try.pinned (OpenSpec.upto drecvFirstSpec)

/-- 'ferrybridgelaw16.DrecvNil', WHERE WHAT IT READS IS OF BULK AT MOST 1048576: true; the input reads as it did. -/
def drecvNilUptoRow : OpenClaim := { program := "ytancbdnpmabpfaa", sum := "e670c8fd1e74c691585100b7b4172ba16bc2d5f017c02dac1cb5e71e6d5ed2ff", func := "ferrybridge/ferrybridgelaw16.DrecvNil", spec := "drecvNil", inPlace := ["slices.overlaps[ferrybridge/span.Run]"], unfollowed := true, recurses := true, apart := false, narrowed := true }
def DrecvNilUptoSaid : Prop := drecvNilUptoRow.holds Try.pinned (OpenSpec.upto drecvNilSpec)

/-- 'ferrybridgelaw16.DrecvWindow', WHERE WHAT IT READS IS OF BULK AT MOST 1048576: true; the input reads as it did. -/
def drecvWindowUptoRow : OpenClaim := { program := "ytancbdnpmabpfaa", sum := "e670c8fd1e74c691585100b7b4172ba16bc2d5f017c02dac1cb5e71e6d5ed2ff", func := "ferrybridge/ferrybridgelaw16.DrecvWindow", spec := "drecvWindow", inPlace := ["slices.overlaps[ferrybridge/span.Run]"], unfollowed := true, recurses := true, apart := false, narrowed := true }
def DrecvWindowUptoSaid : Prop := drecvWindowUptoRow.holds Try.pinned (OpenSpec.upto drecvWindowSpec)

end Rows
end Go.Proofs.Ytancbdnpmabpfaa
