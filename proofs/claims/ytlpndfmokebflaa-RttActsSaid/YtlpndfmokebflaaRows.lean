/-
  No cell of these rows narrows 'for every input' (looked for: loops, veiled, ifaces, maps, wideKeys, modest, calm, conditions, laid).
  DERIVED. THE GIVEN ROWS OF THIS SEAT. 5 by the template 'for every input the law returns true; each argument reads behind the call as it read before'; 0 by the template 'total and deterministic' (their statements: YtlpndfmokebflaaTotals.lean).
  GIVEN WITH THE SEED: the statements are not yours to turn. If you find one false, say at which input.
  Laid BY PROGRAM, IN A SANDBOX (cutbox-rows.mjs): the forced cells as the released guide's own fill.sh prints them over the translation e9239c651272bf0b… (all of the seat's roots in one cut). By AI agents, Wed Nov 11 2026. No macro, syntax, notation, axiom, sorry.
-/
import Derived.Test.YtlpndfmokebflaaChecked
import GoSem.Claim
import GoSem.ClaimJoined
import GoSem.ClaimMapViews
import Derived.JoinedTies
import Derived.KernelRfl
namespace Go.Proofs.Ytlpndfmokebflaa
/- THE CELL 'sum', in the pinned program and in every row, IS THE sha256 OF THE DUMP (.gsa) THAT YtlpndfmokebflaaProg.lean LOADS. Nothing in Lean hashes anything: it is a label: what it is worth is what the hold of that sum in a sandbox is worth. -/
noncomputable def Try.pinned : Pinned := { name := "ytlpndfmokebflaa", sum := "e9239c651272bf0b685a4856efdedae9764d3978663a23d0a5361ffb0fa37ee4", checked := Try.checked }
namespace Rows
def none {H : Type} : Left H := { results := [], args := [] }

/-- 'ferrybridgelaw12.RttActs': WHATEVER THE INPUT: true; the input reads as it did. -/
def rttActsSpec : ChangeSpec := { name := "rttActs", fn := fun _ => fun
  | [d] => { results := [.lit (.bool true)], args := [d] }
  | _ => none }
def rttActsRow : OpenClaim := { program := "ytlpndfmokebflaa", sum := "e9239c651272bf0b685a4856efdedae9764d3978663a23d0a5361ffb0fa37ee4", func := "ferrybridge/ferrybridgelaw12.RttActs", spec := "rttActs", unfollowed := true, recurses := true, apart := false }
def RttActsSaid : Prop := rttActsRow.holds Try.pinned (OpenSpec.ofChange rttActsSpec)

/-- ITS FALSE NEIGHBOUR: 'it returns false'. Refute it at one input. -/
def rttActsWrong : ChangeSpec := { name := "rttActs", fn := fun _ => fun
  | [d] => { results := [.lit (.bool false)], args := [d] }
  | _ => none }
def RttActsWrongFalsely : Prop := rttActsRow.holds Try.pinned (OpenSpec.ofChange rttActsWrong)

/-- 'ferrybridgelaw12.RttBounds': WHATEVER THE INPUT: true; the input reads as it did. -/
def rttBoundsSpec : ChangeSpec := { name := "rttBounds", fn := fun _ => fun
  | [d1, d2] => { results := [.lit (.bool true)], args := [d1, d2] }
  | _ => none }
def rttBoundsRow : OpenClaim := { program := "ytlpndfmokebflaa", sum := "e9239c651272bf0b685a4856efdedae9764d3978663a23d0a5361ffb0fa37ee4", func := "ferrybridge/ferrybridgelaw12.RttBounds", spec := "rttBounds", unfollowed := true, recurses := true, apart := false }
def RttBoundsSaid : Prop := rttBoundsRow.holds Try.pinned (OpenSpec.ofChange rttBoundsSpec)

/-- ITS FALSE NEIGHBOUR: 'it returns false'. Refute it at one input. -/
def rttBoundsWrong : ChangeSpec := { name := "rttBounds", fn := fun _ => fun
  | [d1, d2] => { results := [.lit (.bool false)], args := [d1, d2] }
  | _ => none }
def RttBoundsWrongFalsely : Prop := rttBoundsRow.holds Try.pinned (OpenSpec.ofChange rttBoundsWrong)

/-- 'ferrybridgelaw12.RttSame': WHATEVER THE INPUT: true; the input reads as it did. -/
def rttSameSpec : ChangeSpec := { name := "rttSame", fn := fun _ => fun
  | [d1, d2] => { results := [.lit (.bool true)], args := [d1, d2] }
  | _ => none }
def rttSameRow : OpenClaim := { program := "ytlpndfmokebflaa", sum := "e9239c651272bf0b685a4856efdedae9764d3978663a23d0a5361ffb0fa37ee4", func := "ferrybridge/ferrybridgelaw12.RttSame", spec := "rttSame", unfollowed := true, recurses := true, apart := false }
def RttSameSaid : Prop := rttSameRow.holds Try.pinned (OpenSpec.ofChange rttSameSpec)

/-- ITS FALSE NEIGHBOUR: 'it returns false'. Refute it at one input. -/
def rttSameWrong : ChangeSpec := { name := "rttSame", fn := fun _ => fun
  | [d1, d2] => { results := [.lit (.bool false)], args := [d1, d2] }
  | _ => none }
def RttSameWrongFalsely : Prop := rttSameRow.holds Try.pinned (OpenSpec.ofChange rttSameWrong)

/-- 'ferrybridgelaw12.RttNil': WHATEVER THE INPUT: true; the input reads as it did. -/
def rttNilSpec : ChangeSpec := { name := "rttNil", fn := fun _ => fun
  | [d] => { results := [.lit (.bool true)], args := [d] }
  | _ => none }
def rttNilRow : OpenClaim := { program := "ytlpndfmokebflaa", sum := "e9239c651272bf0b685a4856efdedae9764d3978663a23d0a5361ffb0fa37ee4", func := "ferrybridge/ferrybridgelaw12.RttNil", spec := "rttNil", unfollowed := true, recurses := true, apart := false }
def RttNilSaid : Prop := rttNilRow.holds Try.pinned (OpenSpec.ofChange rttNilSpec)

/-- ITS FALSE NEIGHBOUR: 'it returns false'. Refute it at one input. -/
def rttNilWrong : ChangeSpec := { name := "rttNil", fn := fun _ => fun
  | [d] => { results := [.lit (.bool false)], args := [d] }
  | _ => none }
def RttNilWrongFalsely : Prop := rttNilRow.holds Try.pinned (OpenSpec.ofChange rttNilWrong)

/-- 'ferrybridgelaw12.RttOrder': WHATEVER THE INPUT: true; the input reads as it did. -/
def rttOrderSpec : ChangeSpec := { name := "rttOrder", fn := fun _ => fun
  | [d1, d2] => { results := [.lit (.bool true)], args := [d1, d2] }
  | _ => none }
def rttOrderRow : OpenClaim := { program := "ytlpndfmokebflaa", sum := "e9239c651272bf0b685a4856efdedae9764d3978663a23d0a5361ffb0fa37ee4", func := "ferrybridge/ferrybridgelaw12.RttOrder", spec := "rttOrder", unfollowed := true, recurses := true, apart := false }
def RttOrderSaid : Prop := rttOrderRow.holds Try.pinned (OpenSpec.ofChange rttOrderSpec)

/-- ITS FALSE NEIGHBOUR: 'it returns false'. Refute it at one input. -/
def rttOrderWrong : ChangeSpec := { name := "rttOrder", fn := fun _ => fun
  | [d1, d2] => { results := [.lit (.bool false)], args := [d1, d2] }
  | _ => none }
def RttOrderWrongFalsely : Prop := rttOrderRow.holds Try.pinned (OpenSpec.ofChange rttOrderWrong)

/- THE SECOND FORM. 'bulk': how many values and letters a reading holds, each counted each time it is reached (what is shared counts as often as it is met; a slice's spare places count too). A statement '..UptoSaid' is the law's where the arguments, and the package variables that the reading takes, are together of bulk at most 1048576: NARROWER than '..Said'. Prove '..Said' where nothing that the law and all that it calls make is longer than what came in: it says more and counts as full. Else prove '..UptoSaid'. A law counts once. -/
mutual
def uptoBulk {H : Type} : DataW H → Nat
  | .lit (.string bytes) => bytes.length + 1
  | .lit _ => 1
  | .nil => 1
  | .ptr d => uptoBulk d + 1
  | .slice elems spare => uptoBulkAll elems + uptoBulkAll spare + 1
  | .agg parts => uptoBulkAll parts + 1
  | .iface _ d => uptoBulk d + 1
  | .map entries => uptoBulkEntries entries + 1
  | .held _ => 1
def uptoBulkAll {H : Type} : List (DataW H) → Nat
  | [] => 0
  | d :: r => uptoBulk d + uptoBulkAll r
def uptoBulkEntries {H : Type} : List (Lit × DataW H) → Nat
  | [] => 0
  | x :: r => uptoBulkEntry x + uptoBulkEntries r
def uptoBulkEntry {H : Type} : Lit × DataW H → Nat
  | (.string bytes, d) => bytes.length + uptoBulk d + 1
  | (_, d) => uptoBulk d + 1
 end
def uptoSmall : (H : Type) → List (DataW H) → Bool := fun _ ds => decide (uptoBulkAll ds ≤ 1048576)
def OpenSpec.upto (s : _root_.Go.ChangeSpec) : _root_.Go.OpenSpec := { _root_.Go.OpenSpec.ofChange s with cond := some uptoSmall }

/-- 'ferrybridgelaw12.RttActs', WHERE WHAT IT READS IS OF BULK AT MOST 1048576: true; the input reads as it did. -/
def rttActsUptoRow : OpenClaim := { program := "ytlpndfmokebflaa", sum := "e9239c651272bf0b685a4856efdedae9764d3978663a23d0a5361ffb0fa37ee4", func := "ferrybridge/ferrybridgelaw12.RttActs", spec := "rttActs", unfollowed := true, recurses := true, apart := false, narrowed := true }
def RttActsUptoSaid : Prop := rttActsUptoRow.holds Try.pinned (OpenSpec.upto rttActsSpec)

/-- 'ferrybridgelaw12.RttBounds', WHERE WHAT IT READS IS OF BULK AT MOST 1048576: true; the input reads as it did. -/
def rttBoundsUptoRow : OpenClaim := { program := "ytlpndfmokebflaa", sum := "e9239c651272bf0b685a4856efdedae9764d3978663a23d0a5361ffb0fa37ee4", func := "ferrybridge/ferrybridgelaw12.RttBounds", spec := "rttBounds", unfollowed := true, recurses := true, apart := false, narrowed := true }
def RttBoundsUptoSaid : Prop := rttBoundsUptoRow.holds Try.pinned (OpenSpec.upto rttBoundsSpec)

/-- 'ferrybridgelaw12.RttSame', WHERE WHAT IT READS IS OF BULK AT MOST 1048576: true; the input reads as it did. -/
def rttSameUptoRow : OpenClaim := { program := "ytlpndfmokebflaa", sum := "e9239c651272bf0b685a4856efdedae9764d3978663a23d0a5361ffb0fa37ee4", func := "ferrybridge/ferrybridgelaw12.RttSame", spec := "rttSame", unfollowed := true, recurses := true, apart := false, narrowed := true }
def RttSameUptoSaid : Prop := rttSameUptoRow.holds Try.pinned (OpenSpec.upto rttSameSpec)

/-- 'ferrybridgelaw12.RttNil', WHERE WHAT IT READS IS OF BULK AT MOST 1048576: true; the input reads as it did. -/
def rttNilUptoRow : OpenClaim := { program := "ytlpndfmokebflaa", sum := "e9239c651272bf0b685a4856efdedae9764d3978663a23d0a5361ffb0fa37ee4", func := "ferrybridge/ferrybridgelaw12.RttNil", spec := "rttNil", unfollowed := true, recurses := true, apart := false, narrowed := true }
def RttNilUptoSaid : Prop := rttNilUptoRow.holds Try.pinned (OpenSpec.upto rttNilSpec)

/-- 'ferrybridgelaw12.RttOrder', WHERE WHAT IT READS IS OF BULK AT MOST 1048576: true; the input reads as it did. -/
def rttOrderUptoRow : OpenClaim := { program := "ytlpndfmokebflaa", sum := "e9239c651272bf0b685a4856efdedae9764d3978663a23d0a5361ffb0fa37ee4", func := "ferrybridge/ferrybridgelaw12.RttOrder", spec := "rttOrder", unfollowed := true, recurses := true, apart := false, narrowed := true }
def RttOrderUptoSaid : Prop := rttOrderUptoRow.holds Try.pinned (OpenSpec.upto rttOrderSpec)

end Rows
end Go.Proofs.Ytlpndfmokebflaa
