/-
  No cell of these rows narrows 'for every input' (looked for: loops, veiled, ifaces, maps, wideKeys, modest, calm, conditions, laid).
  DERIVED. THE GIVEN ROWS OF THIS SEAT. 5 by the template 'for every input the law returns true; each argument reads behind the call as it read before'; 0 by the template 'total and deterministic' (their statements: YteiojdmnfjcagaaTotals.lean).
  GIVEN WITH THE SEED: the statements are not yours to turn. If you find one false, say at which input.
  Laid BY PROGRAM, IN A SANDBOX (cutbox-rows.mjs): the forced cells as the released guide's own fill.sh prints them over the translation 8a6d1768e6ad1635… (all of the seat's roots in one cut). By AI agents, Wed Nov 11 2026. No macro, syntax, notation, axiom, sorry.
-/
import Derived.Test.YteiojdmnfjcagaaChecked
import GoSem.Claim
import GoSem.ClaimJoined
import GoSem.ClaimMapViews
import Derived.JoinedTies
import Derived.KernelRfl
namespace Go.Proofs.Yteiojdmnfjcagaa
/- THE CELL 'sum', in the pinned program and in every row, IS THE sha256 OF THE DUMP (.gsa) THAT YteiojdmnfjcagaaProg.lean LOADS. Nothing in Lean hashes anything: it is a label: what it is worth is what the hold of that sum in a sandbox is worth. -/
noncomputable def Try.pinned : Pinned := { name := "yteiojdmnfjcagaa", sum := "8a6d1768e6ad16354d13631f6ef4245bf268fdbebc1e775de34f4327a32ce0a2", checked := Try.checked }
namespace Rows
def none {H : Type} : Left H := { results := [], args := [] }

/-- 'ferrybridgelaw11.SpanActs': WHATEVER THE INPUT: true; the input reads as it did. -/
def spanActsSpec : ChangeSpec := { name := "spanActs", fn := fun _ => fun
  | [d] => { results := [.lit (.bool true)], args := [d] }
  | _ => none }
def spanActsRow : OpenClaim := { program := "yteiojdmnfjcagaa", sum := "8a6d1768e6ad16354d13631f6ef4245bf268fdbebc1e775de34f4327a32ce0a2", func := "ferrybridge/ferrybridgelaw11.SpanActs", spec := "spanActs", inPlace := ["slices.overlaps[ferrybridge/span.Run]"], unfollowed := true, recurses := true, apart := false }
def SpanActsSaid : Prop := spanActsRow.holds Try.pinned (OpenSpec.ofChange spanActsSpec)

/-- ITS FALSE NEIGHBOUR: 'it returns false'. Refute it at one input. -/
def spanActsWrong : ChangeSpec := { name := "spanActs", fn := fun _ => fun
  | [d] => { results := [.lit (.bool false)], args := [d] }
  | _ => none }
def SpanActsWrongFalsely : Prop := spanActsRow.holds Try.pinned (OpenSpec.ofChange spanActsWrong)

/-- 'ferrybridgelaw11.SpanAny': WHATEVER THE INPUT: true; the input reads as it did. -/
def spanAnySpec : ChangeSpec := { name := "spanAny", fn := fun _ => fun
  | [d1, d2] => { results := [.lit (.bool true)], args := [d1, d2] }
  | _ => none }
def spanAnyRow : OpenClaim := { program := "yteiojdmnfjcagaa", sum := "8a6d1768e6ad16354d13631f6ef4245bf268fdbebc1e775de34f4327a32ce0a2", func := "ferrybridge/ferrybridgelaw11.SpanAny", spec := "spanAny", inPlace := ["slices.overlaps[ferrybridge/span.Run]"], unfollowed := true, recurses := true, apart := false }
def SpanAnySaid : Prop := spanAnyRow.holds Try.pinned (OpenSpec.ofChange spanAnySpec)

/-- ITS FALSE NEIGHBOUR: 'it returns false'. Refute it at one input. -/
def spanAnyWrong : ChangeSpec := { name := "spanAny", fn := fun _ => fun
  | [d1, d2] => { results := [.lit (.bool false)], args := [d1, d2] }
  | _ => none }
def SpanAnyWrongFalsely : Prop := spanAnyRow.holds Try.pinned (OpenSpec.ofChange spanAnyWrong)

/-- 'ferrybridgelaw11.SpanOrder': WHATEVER THE INPUT: true; the input reads as it did. -/
def spanOrderSpec : ChangeSpec := { name := "spanOrder", fn := fun _ => fun
  | [d1, d2] => { results := [.lit (.bool true)], args := [d1, d2] }
  | _ => none }
def spanOrderRow : OpenClaim := { program := "yteiojdmnfjcagaa", sum := "8a6d1768e6ad16354d13631f6ef4245bf268fdbebc1e775de34f4327a32ce0a2", func := "ferrybridge/ferrybridgelaw11.SpanOrder", spec := "spanOrder", inPlace := ["slices.overlaps[ferrybridge/span.Run]"], unfollowed := true, recurses := true, apart := false }
def SpanOrderSaid : Prop := spanOrderRow.holds Try.pinned (OpenSpec.ofChange spanOrderSpec)

/-- ITS FALSE NEIGHBOUR: 'it returns false'. Refute it at one input. -/
def spanOrderWrong : ChangeSpec := { name := "spanOrder", fn := fun _ => fun
  | [d1, d2] => { results := [.lit (.bool false)], args := [d1, d2] }
  | _ => none }
def SpanOrderWrongFalsely : Prop := spanOrderRow.holds Try.pinned (OpenSpec.ofChange spanOrderWrong)

/-- 'ferrybridgelaw11.SpanNil': WHATEVER THE INPUT: true; the input reads as it did. -/
def spanNilSpec : ChangeSpec := { name := "spanNil", fn := fun _ => fun
  | [d1, d2] => { results := [.lit (.bool true)], args := [d1, d2] }
  | _ => none }
def spanNilRow : OpenClaim := { program := "yteiojdmnfjcagaa", sum := "8a6d1768e6ad16354d13631f6ef4245bf268fdbebc1e775de34f4327a32ce0a2", func := "ferrybridge/ferrybridgelaw11.SpanNil", spec := "spanNil", inPlace := ["slices.overlaps[ferrybridge/span.Run]"], unfollowed := true, recurses := true, apart := false }
def SpanNilSaid : Prop := spanNilRow.holds Try.pinned (OpenSpec.ofChange spanNilSpec)

/-- ITS FALSE NEIGHBOUR: 'it returns false'. Refute it at one input. -/
def spanNilWrong : ChangeSpec := { name := "spanNil", fn := fun _ => fun
  | [d1, d2] => { results := [.lit (.bool false)], args := [d1, d2] }
  | _ => none }
def SpanNilWrongFalsely : Prop := spanNilRow.holds Try.pinned (OpenSpec.ofChange spanNilWrong)

/-- 'ferrybridgelaw11.SpanDrops': WHATEVER THE INPUT: true; the input reads as it did. -/
def spanDropsSpec : ChangeSpec := { name := "spanDrops", fn := fun _ => fun
  | [d1, d2] => { results := [.lit (.bool true)], args := [d1, d2] }
  | _ => none }
def spanDropsRow : OpenClaim := { program := "yteiojdmnfjcagaa", sum := "8a6d1768e6ad16354d13631f6ef4245bf268fdbebc1e775de34f4327a32ce0a2", func := "ferrybridge/ferrybridgelaw11.SpanDrops", spec := "spanDrops", inPlace := ["slices.overlaps[ferrybridge/span.Run]"], unfollowed := true, recurses := true, apart := false }
def SpanDropsSaid : Prop := spanDropsRow.holds Try.pinned (OpenSpec.ofChange spanDropsSpec)

/-- ITS FALSE NEIGHBOUR: 'it returns false'. Refute it at one input. -/
def spanDropsWrong : ChangeSpec := { name := "spanDrops", fn := fun _ => fun
  | [d1, d2] => { results := [.lit (.bool false)], args := [d1, d2] }
  | _ => none }
def SpanDropsWrongFalsely : Prop := spanDropsRow.holds Try.pinned (OpenSpec.ofChange spanDropsWrong)

/- THE SECOND FORM. 'bulk': how many values and letters a reading holds, each counted each time it is reached (what is shared counts as often as it is met; a slice's spare places count too). A statement '..UptoSaid' is the law's where the arguments, and the package variables that the reading takes, are together of bulk at most 1048576: NARROWER than '..Said'. Prove '..Said' where nothing that the law and all that it calls make is longer than what came in: it says more and counts as full. Else prove '..UptoSaid'. A law counts once. -/
mutual
def uptoBulk {H : Type} : DataW H → Nat
  | .lit (.string bytes) => bytes.length + 1
  | .lit _ => 1
  | .nil => 1
  | .ptr d => uptoBulk d + 1
  | .slice elems spare => uptoBulkAll elems + uptoBulkAll spare + 1
  | .agg parts => uptoBulkAll parts + 1
  | .iface _ d => uptoBulk d + 1
  | .map entries => uptoBulkEntries entries + 1
  | .held _ => 1
def uptoBulkAll {H : Type} : List (DataW H) → Nat
  | [] => 0
  | d :: r => uptoBulk d + uptoBulkAll r
def uptoBulkEntries {H : Type} : List (Lit × DataW H) → Nat
  | [] => 0
  | x :: r => uptoBulkEntry x + uptoBulkEntries r
def uptoBulkEntry {H : Type} : Lit × DataW H → Nat
  | (.string bytes, d) => bytes.length + uptoBulk d + 1
  | (_, d) => uptoBulk d + 1
 end
def uptoSmall : (H : Type) → List (DataW H) → Bool := fun _ ds => decide (uptoBulkAll ds ≤ 1048576)
def OpenSpec.upto (s : _root_.Go.ChangeSpec) : _root_.Go.OpenSpec := { _root_.Go.OpenSpec.ofChange s with cond := some uptoSmall }

/-- 'ferrybridgelaw11.SpanActs', WHERE WHAT IT READS IS OF BULK AT MOST 1048576: true; the input reads as it did. -/
def spanActsUptoRow : OpenClaim := { program := "yteiojdmnfjcagaa", sum := "8a6d1768e6ad16354d13631f6ef4245bf268fdbebc1e775de34f4327a32ce0a2", func := "ferrybridge/ferrybridgelaw11.SpanActs", spec := "spanActs", inPlace := ["slices.overlaps[ferrybridge/span.Run]"], unfollowed := true, recurses := true, apart := false, narrowed := true }
def SpanActsUptoSaid : Prop := spanActsUptoRow.holds Try.pinned (OpenSpec.upto spanActsSpec)

/-- 'ferrybridgelaw11.SpanAny', WHERE WHAT IT READS IS OF BULK AT MOST 1048576: true; the input reads as it did. -/
def spanAnyUptoRow : OpenClaim := { program := "yteiojdmnfjcagaa", sum := "8a6d1768e6ad16354d13631f6ef4245bf268fdbebc1e775de34f4327a32ce0a2", func := "ferrybridge/ferrybridgelaw11.SpanAny", spec := "spanAny", inPlace := ["slices.overlaps[ferrybridge/span.Run]"], unfollowed := true, recurses := true, apart := false, narrowed := true }
def SpanAnyUptoSaid : Prop := spanAnyUptoRow.holds Try.pinned (OpenSpec.upto spanAnySpec)

/-- 'ferrybridgelaw11.SpanOrder', WHERE WHAT IT READS IS OF BULK AT MOST 1048576: true; the input reads as it did. -/
def spanOrderUptoRow : OpenClaim := { program := "yteiojdmnfjcagaa", sum := "8a6d1768e6ad16354d13631f6ef4245bf268fdbebc1e775de34f4327a32ce0a2", func := "ferrybridge/ferrybridgelaw11.SpanOrder", spec := "spanOrder", inPlace := ["slices.overlaps[ferrybridge/span.Run]"], unfollowed := true, recurses := true, apart := false, narrowed := true }
def SpanOrderUptoSaid : Prop := spanOrderUptoRow.holds Try.pinned (OpenSpec.upto spanOrderSpec)

/-- 'ferrybridgelaw11.SpanNil', WHERE WHAT IT READS IS OF BULK AT MOST 1048576: true; the input reads as it did. -/
def spanNilUptoRow : OpenClaim := { program := "yteiojdmnfjcagaa", sum := "8a6d1768e6ad16354d13631f6ef4245bf268fdbebc1e775de34f4327a32ce0a2", func := "ferrybridge/ferrybridgelaw11.SpanNil", spec := "spanNil", inPlace := ["slices.overlaps[ferrybridge/span.Run]"], unfollowed := true, recurses := true, apart := false, narrowed := true }
def SpanNilUptoSaid : Prop := spanNilUptoRow.holds Try.pinned (OpenSpec.upto spanNilSpec)

/-- 'ferrybridgelaw11.SpanDrops', WHERE WHAT IT READS IS OF BULK AT MOST 1048576: true; the input reads as it did. -/
def spanDropsUptoRow : OpenClaim := { program := "yteiojdmnfjcagaa", sum := "8a6d1768e6ad16354d13631f6ef4245bf268fdbebc1e775de34f4327a32ce0a2", func := "ferrybridge/ferrybridgelaw11.SpanDrops", spec := "spanDrops", inPlace := ["slices.overlaps[ferrybridge/span.Run]"], unfollowed := true, recurses := true, apart := false, narrowed := true }
def SpanDropsUptoSaid : Prop := spanDropsUptoRow.holds Try.pinned (OpenSpec.upto spanDropsSpec)

end Rows
end Go.Proofs.Yteiojdmnfjcagaa
