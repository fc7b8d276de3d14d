/-
  No cell of these rows narrows 'for every input' (looked for: loops, veiled, ifaces, maps, wideKeys, modest, calm, conditions, laid).
  DERIVED. THE GIVEN ROWS OF THIS SEAT. 4 by the template 'for every input the law returns true; each argument reads behind the call as it read before'; 0 by the template 'total and deterministic' (their statements: YtkmddedfmbmgfaaTotals.lean).
  GIVEN WITH THE SEED: the statements are not yours to turn. If you find one false, say at which input.
  Laid BY PROGRAM, IN A SANDBOX (cutbox-rows.mjs): the forced cells as the released guide's own fill.sh prints them over the translation be6b88939a438b14… (all of the seat's roots in one cut). By AI agents, Wed Nov 11 2026. No macro, syntax, notation, axiom, sorry.
-/
import Derived.Test.YtkmddedfmbmgfaaChecked
import GoSem.Claim
import GoSem.ClaimJoined
import GoSem.ClaimMapViews
import Derived.JoinedTies
import Derived.KernelRfl
namespace Go.Proofs.Ytkmddedfmbmgfaa
/- THE CELL 'sum', in the pinned program and in every row, IS THE sha256 OF THE DUMP (.gsa) THAT YtkmddedfmbmgfaaProg.lean LOADS. Nothing in Lean hashes anything: it is a label: what it is worth is what the hold of that sum in a sandbox is worth. -/
noncomputable def Try.pinned : Pinned := { name := "ytkmddedfmbmgfaa", sum := "be6b88939a438b1401c0844290ac17d28a7fa96d1c1109448596c73b5a9a260d", checked := Try.checked }
namespace Rows
def none {H : Type} : Left H := { results := [], args := [] }

/-- 'ferrybridgelaw13.OutqActs': WHATEVER THE INPUT: true; the input reads as it did. -/
def outqActsSpec : ChangeSpec := { name := "outqActs", fn := fun _ => fun
  | [d1, d2] => { results := [.lit (.bool true)], args := [d1, d2] }
  | _ => none }
def outqActsRow : OpenClaim := { program := "ytkmddedfmbmgfaa", sum := "be6b88939a438b1401c0844290ac17d28a7fa96d1c1109448596c73b5a9a260d", func := "ferrybridge/ferrybridgelaw13.OutqActs", spec := "outqActs", apart := false }
def OutqActsSaid : Prop := outqActsRow.holds Try.pinned (OpenSpec.ofChange outqActsSpec)

/-- ITS FALSE NEIGHBOUR: 'it returns false'. Refute it at one input. -/
def outqActsWrong : ChangeSpec := { name := "outqActs", fn := fun _ => fun
  | [d1, d2] => { results := [.lit (.bool false)], args := [d1, d2] }
  | _ => none }
def OutqActsWrongFalsely : Prop := outqActsRow.holds Try.pinned (OpenSpec.ofChange outqActsWrong)

/-- 'ferrybridgelaw13.OutqAll': WHATEVER THE INPUT: true; the input reads as it did. -/
def outqAllSpec : ChangeSpec := { name := "outqAll", fn := fun _ => fun
  | [d1, d2, d3] => { results := [.lit (.bool true)], args := [d1, d2, d3] }
  | _ => none }
def outqAllRow : OpenClaim := { program := "ytkmddedfmbmgfaa", sum := "be6b88939a438b1401c0844290ac17d28a7fa96d1c1109448596c73b5a9a260d", func := "ferrybridge/ferrybridgelaw13.OutqAll", spec := "outqAll", apart := false }
def OutqAllSaid : Prop := outqAllRow.holds Try.pinned (OpenSpec.ofChange outqAllSpec)

/-- ITS FALSE NEIGHBOUR: 'it returns false'. Refute it at one input. -/
def outqAllWrong : ChangeSpec := { name := "outqAll", fn := fun _ => fun
  | [d1, d2, d3] => { results := [.lit (.bool false)], args := [d1, d2, d3] }
  | _ => none }
def OutqAllWrongFalsely : Prop := outqAllRow.holds Try.pinned (OpenSpec.ofChange outqAllWrong)

/-- 'ferrybridgelaw13.OutqNil': WHATEVER THE INPUT: true; the input reads as it did. -/
def outqNilSpec : ChangeSpec := { name := "outqNil", fn := fun _ => fun
  | [d1, d2] => { results := [.lit (.bool true)], args := [d1, d2] }
  | _ => none }
def outqNilRow : OpenClaim := { program := "ytkmddedfmbmgfaa", sum := "be6b88939a438b1401c0844290ac17d28a7fa96d1c1109448596c73b5a9a260d", func := "ferrybridge/ferrybridgelaw13.OutqNil", spec := "outqNil", apart := false }
def OutqNilSaid : Prop := outqNilRow.holds Try.pinned (OpenSpec.ofChange outqNilSpec)

/-- ITS FALSE NEIGHBOUR: 'it returns false'. Refute it at one input. -/
def outqNilWrong : ChangeSpec := { name := "outqNil", fn := fun _ => fun
  | [d1, d2] => { results := [.lit (.bool false)], args := [d1, d2] }
  | _ => none }
def OutqNilWrongFalsely : Prop := outqNilRow.holds Try.pinned (OpenSpec.ofChange outqNilWrong)

/-- 'ferrybridgelaw13.OutqParts': WHATEVER THE INPUT: true; the input reads as it did. -/
def outqPartsSpec : ChangeSpec := { name := "outqParts", fn := fun _ => fun
  | [d1, d2, d3] => { results := [.lit (.bool true)], args := [d1, d2, d3] }
  | _ => none }
def outqPartsRow : OpenClaim := { program := "ytkmddedfmbmgfaa", sum := "be6b88939a438b1401c0844290ac17d28a7fa96d1c1109448596c73b5a9a260d", func := "ferrybridge/ferrybridgelaw13.OutqParts", spec := "outqParts", apart := false }
def OutqPartsSaid : Prop := outqPartsRow.holds Try.pinned (OpenSpec.ofChange outqPartsSpec)

/-- ITS FALSE NEIGHBOUR: 'it returns false'. Refute it at one input. -/
def outqPartsWrong : ChangeSpec := { name := "outqParts", fn := fun _ => fun
  | [d1, d2, d3] => { results := [.lit (.bool false)], args := [d1, d2, d3] }
  | _ => none }
def OutqPartsWrongFalsely : Prop := outqPartsRow.holds Try.pinned (OpenSpec.ofChange outqPartsWrong)

/- THE SECOND FORM. 'bulk': how many values and letters a reading holds, each counted each time it is reached (what is shared counts as often as it is met; a slice's spare places count too). A statement '..UptoSaid' is the law's where the arguments, and the package variables that the reading takes, are together of bulk at most 1048576: NARROWER than '..Said'. Prove '..Said' where nothing that the law and all that it calls make is longer than what came in: it says more and counts as full. Else prove '..UptoSaid'. A law counts once. -/
mutual
def uptoBulk {H : Type} : DataW H → Nat
  | .lit (.string bytes) => bytes.length + 1
  | .lit _ => 1
  | .nil => 1
  | .ptr d => uptoBulk d + 1
  | .slice elems spare => uptoBulkAll elems + uptoBulkAll spare + 1
  | .agg parts => uptoBulkAll parts + 1
  | .iface _ d => uptoBulk d + 1
  | .map entries => uptoBulkEntries entries + 1
  | .held _ => 1
def uptoBulkAll {H : Type} : List (DataW H) → Nat
  | [] => 0
  | d :: r => uptoBulk d + uptoBulkAll r
def uptoBulkEntries {H : Type} : List (Lit × DataW H) → Nat
  | [] => 0
  | x :: r => uptoBulkEntry x + uptoBulkEntries r
def uptoBulkEntry {H : Type} : Lit × DataW H → Nat
  | (.string bytes, d) => bytes.length + uptoBulk d + 1
  | (_, d) => uptoBulk d + 1
 end
def uptoSmall : (H : Type) → List (DataW H) → Bool := fun _ ds => decide (uptoBulkAll ds ≤ 1048576)
def OpenSpec.upto (s : _root_.Go.ChangeSpec) : _root_.Go.OpenSpec := { _root_.Go.OpenSpec.ofChange s with cond := some uptoSmall }

/-- 'ferrybridgelaw13.OutqActs', WHERE WHAT IT READS IS OF BULK AT MOST 1048576: true; the input reads as it did. -/
def outqActsUptoRow : OpenClaim := { program := "ytkmddedfmbmgfaa", sum := "be6b88939a438b1401c0844290ac17d28a7fa96d1c1109448596c73b5a9a260d", func := "ferrybridge/ferrybridgelaw13.OutqActs", spec := "outqActs", apart := false, narrowed := true }
def OutqActsUptoSaid : Prop := outqActsUptoRow.holds Try.pinned (OpenSpec.upto outqActsSpec)

/-- 'ferrybridgelaw13.OutqAll', WHERE WHAT IT READS IS OF BULK AT MOST 1048576: true; the input reads as it did. -/
def outqAllUptoRow : OpenClaim := { program := "ytkmddedfmbmgfaa", sum := "be6b88939a438b1401c0844290ac17d28a7fa96d1c1109448596c73b5a9a260d", func := "ferrybridge/ferrybridgelaw13.OutqAll", spec := "outqAll", apart := false, narrowed := true }
def OutqAllUptoSaid : Prop := outqAllUptoRow.holds Try.pinned (OpenSpec.upto outqAllSpec)

/-- 'ferrybridgelaw13.OutqNil', WHERE WHAT IT READS IS OF BULK AT MOST 1048576: true; the input reads as it did. -/
def outqNilUptoRow : OpenClaim := { program := "ytkmddedfmbmgfaa", sum := "be6b88939a438b1401c0844290ac17d28a7fa96d1c1109448596c73b5a9a260d", func := "ferrybridge/ferrybridgelaw13.OutqNil", spec := "outqNil", apart := false, narrowed := true }
def OutqNilUptoSaid : Prop := outqNilUptoRow.holds Try.pinned (OpenSpec.upto outqNilSpec)

/-- 'ferrybridgelaw13.OutqParts', WHERE WHAT IT READS IS OF BULK AT MOST 1048576: true; the input reads as it did. -/
def outqPartsUptoRow : OpenClaim := { program := "ytkmddedfmbmgfaa", sum := "be6b88939a438b1401c0844290ac17d28a7fa96d1c1109448596c73b5a9a260d", func := "ferrybridge/ferrybridgelaw13.OutqParts", spec := "outqParts", apart := false, narrowed := true }
def OutqPartsUptoSaid : Prop := outqPartsUptoRow.holds Try.pinned (OpenSpec.upto outqPartsSpec)

end Rows
end Go.Proofs.Ytkmddedfmbmgfaa
