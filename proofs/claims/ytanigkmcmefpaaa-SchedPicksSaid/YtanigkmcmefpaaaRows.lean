/-
  No cell of these rows narrows 'for every input' (looked for: loops, veiled, ifaces, maps, wideKeys, modest, calm, conditions, laid).
  DERIVED. THE GIVEN ROWS OF THIS SEAT. 4 by the template 'for every input the law returns true; each argument reads behind the call as it read before'; 0 by the template 'total and deterministic' (their statements: YtanigkmcmefpaaaTotals.lean).
  GIVEN WITH THE SEED: the statements are not yours to turn. If you find one false, say at which input.
  Laid BY PROGRAM, IN A SANDBOX (cutbox-rows.mjs): the forced cells as the released guide's own fill.sh prints them over the translation 628435a9b785f943… (all of the seat's roots in one cut). By AI agents, Wed Nov 11 2026. No macro, syntax, notation, axiom, sorry.
-/
import Derived.Test.YtanigkmcmefpaaaChecked
import GoSem.Claim
import GoSem.ClaimJoined
import GoSem.ClaimMapViews
import Derived.JoinedTies
import Derived.KernelRfl
namespace Go.Proofs.Ytanigkmcmefpaaa
/- THE CELL 'sum', in the pinned program and in every row, IS THE sha256 OF THE DUMP (.gsa) THAT YtanigkmcmefpaaaProg.lean LOADS. Nothing in Lean hashes anything: it is a label: what it is worth is what the hold of that sum in a sandbox is worth. -/
noncomputable def Try.pinned : Pinned := { name := "ytanigkmcmefpaaa", sum := "628435a9b785f94399e5482938a0b4f39517a1e478c1a1d56cd6242077e762f3", checked := Try.checked }
namespace Rows
def none {H : Type} : Left H := { results := [], args := [] }

/-- 'ferrybridgelaw17.SchedPicks': WHATEVER THE INPUT: true; the input reads as it did. -/
def schedPicksSpec : ChangeSpec := { name := "schedPicks", fn := fun _ => fun
  | [d1, d2, d3] => { results := [.lit (.bool true)], args := [d1, d2, d3] }
  | _ => none }
def schedPicksRow : OpenClaim := { program := "ytanigkmcmefpaaa", sum := "628435a9b785f94399e5482938a0b4f39517a1e478c1a1d56cd6242077e762f3", func := "ferrybridge/ferrybridgelaw17.SchedPicks", spec := "schedPicks", unfollowed := true, recurses := true, apart := false }
def SchedPicksSaid : Prop := schedPicksRow.holds Try.pinned (OpenSpec.ofChange schedPicksSpec)

/-- ITS FALSE NEIGHBOUR: 'it returns false'. Refute it at one input. -/
def schedPicksWrong : ChangeSpec := { name := "schedPicks", fn := fun _ => fun
  | [d1, d2, d3] => { results := [.lit (.bool false)], args := [d1, d2, d3] }
  | _ => none }
def SchedPicksWrongFalsely : Prop := schedPicksRow.holds Try.pinned (OpenSpec.ofChange schedPicksWrong)

/-- 'ferrybridgelaw17.SchedTurns': WHATEVER THE INPUT: true; the input reads as it did. -/
def schedTurnsSpec : ChangeSpec := { name := "schedTurns", fn := fun _ => fun
  | [d1, d2] => { results := [.lit (.bool true)], args := [d1, d2] }
  | _ => none }
def schedTurnsRow : OpenClaim := { program := "ytanigkmcmefpaaa", sum := "628435a9b785f94399e5482938a0b4f39517a1e478c1a1d56cd6242077e762f3", func := "ferrybridge/ferrybridgelaw17.SchedTurns", spec := "schedTurns", unfollowed := true, recurses := true, apart := false }
def SchedTurnsSaid : Prop := schedTurnsRow.holds Try.pinned (OpenSpec.ofChange schedTurnsSpec)

/-- ITS FALSE NEIGHBOUR: 'it returns false'. Refute it at one input. -/
def schedTurnsWrong : ChangeSpec := { name := "schedTurns", fn := fun _ => fun
  | [d1, d2] => { results := [.lit (.bool false)], args := [d1, d2] }
  | _ => none }
def SchedTurnsWrongFalsely : Prop := schedTurnsRow.holds Try.pinned (OpenSpec.ofChange schedTurnsWrong)

/-- 'ferrybridgelaw17.SchedBackups': WHATEVER THE INPUT: true; the input reads as it did. -/
def schedBackupsSpec : ChangeSpec := { name := "schedBackups", fn := fun _ => fun
  | [d1, d2, d3] => { results := [.lit (.bool true)], args := [d1, d2, d3] }
  | _ => none }
def schedBackupsRow : OpenClaim := { program := "ytanigkmcmefpaaa", sum := "628435a9b785f94399e5482938a0b4f39517a1e478c1a1d56cd6242077e762f3", func := "ferrybridge/ferrybridgelaw17.SchedBackups", spec := "schedBackups", unfollowed := true, recurses := true, apart := false }
def SchedBackupsSaid : Prop := schedBackupsRow.holds Try.pinned (OpenSpec.ofChange schedBackupsSpec)

/-- ITS FALSE NEIGHBOUR: 'it returns false'. Refute it at one input. -/
def schedBackupsWrong : ChangeSpec := { name := "schedBackups", fn := fun _ => fun
  | [d1, d2, d3] => { results := [.lit (.bool false)], args := [d1, d2, d3] }
  | _ => none }
def SchedBackupsWrongFalsely : Prop := schedBackupsRow.holds Try.pinned (OpenSpec.ofChange schedBackupsWrong)

/-- 'ferrybridgelaw17.SchedQuick': WHATEVER THE INPUT: true; the input reads as it did. -/
def schedQuickSpec : ChangeSpec := { name := "schedQuick", fn := fun _ => fun
  | [d] => { results := [.lit (.bool true)], args := [d] }
  | _ => none }
def schedQuickRow : OpenClaim := { program := "ytanigkmcmefpaaa", sum := "628435a9b785f94399e5482938a0b4f39517a1e478c1a1d56cd6242077e762f3", func := "ferrybridge/ferrybridgelaw17.SchedQuick", spec := "schedQuick", unfollowed := true, recurses := true, apart := false }
def SchedQuickSaid : Prop := schedQuickRow.holds Try.pinned (OpenSpec.ofChange schedQuickSpec)

/-- ITS FALSE NEIGHBOUR: 'it returns false'. Refute it at one input. -/
def schedQuickWrong : ChangeSpec := { name := "schedQuick", fn := fun _ => fun
  | [d] => { results := [.lit (.bool false)], args := [d] }
  | _ => none }
def SchedQuickWrongFalsely : Prop := schedQuickRow.holds Try.pinned (OpenSpec.ofChange schedQuickWrong)

/- THE SECOND FORM. 'bulk': how many values and letters a reading holds, each counted each time it is reached (what is shared counts as often as it is met; a slice's spare places count too). A statement '..UptoSaid' is the law's where the arguments, and the package variables that the reading takes, are together of bulk at most 1048576: NARROWER than '..Said'. Prove '..Said' where nothing that the law and all that it calls make is longer than what came in: it says more and counts as full. Else prove '..UptoSaid'. A law counts once. -/
mutual
def uptoBulk {H : Type} : DataW H → Nat
  | .lit (.string bytes) => bytes.length + 1
  | .lit _ => 1
  | .nil => 1
  | .ptr d => uptoBulk d + 1
  | .slice elems spare => uptoBulkAll elems + uptoBulkAll spare + 1
  | .agg parts => uptoBulkAll parts + 1
  | .iface _ d => uptoBulk d + 1
  | .map entries => uptoBulkEntries entries + 1
  | .held _ => 1
def uptoBulkAll {H : Type} : List (DataW H) → Nat
  | [] => 0
  | d :: r => uptoBulk d + uptoBulkAll r
def uptoBulkEntries {H : Type} : List (Lit × DataW H) → Nat
  | [] => 0
  | x :: r => uptoBulkEntry x + uptoBulkEntries r
def uptoBulkEntry {H : Type} : Lit × DataW H → Nat
  | (.string bytes, d) => bytes.length + uptoBulk d + 1
  | (_, d) => uptoBulk d + 1
 end
def uptoSmall : (H : Type) → List (DataW H) → Bool := fun _ ds => decide (uptoBulkAll ds ≤ 1048576)
def OpenSpec.upto (s : _root_.Go.ChangeSpec) : _root_.Go.OpenSpec := { _root_.Go.OpenSpec.ofChange s with cond := some uptoSmall }

/-- 'ferrybridgelaw17.SchedPicks', WHERE WHAT IT READS IS OF BULK AT MOST 1048576: true; the input reads as it did. -/
def schedPicksUptoRow : OpenClaim := { program := "ytanigkmcmefpaaa", sum := "628435a9b785f94399e5482938a0b4f39517a1e478c1a1d56cd6242077e762f3", func := "ferrybridge/ferrybridgelaw17.SchedPicks", spec := "schedPicks", unfollowed := true, recurses := true, apart := false, narrowed := true }
def SchedPicksUptoSaid : Prop := schedPicksUptoRow.holds Try.pinned (OpenSpec.upto schedPicksSpec)

/-- 'ferrybridgelaw17.SchedTurns', WHERE WHAT IT READS IS OF BULK AT MOST 1048576: true; the input reads as it did. -/
def schedTurnsUptoRow : OpenClaim := { program := "ytanigkmcmefpaaa", sum := "628435a9b785f94399e5482938a0b4f39517a1e478c1a1d56cd6242077e762f3", func := "ferrybridge/ferrybridgelaw17.SchedTurns", spec := "schedTurns", unfollowed := true, recurses := true, apart := false, narrowed := true }
def SchedTurnsUptoSaid : Prop := schedTurnsUptoRow.holds Try.pinned (OpenSpec.upto schedTurnsSpec)

/-- 'ferrybridgelaw17.SchedBackups', WHERE WHAT IT READS IS OF BULK AT MOST 1048576: true; the input reads as it did. -/
def schedBackupsUptoRow : OpenClaim := { program := "ytanigkmcmefpaaa", sum := "628435a9b785f94399e5482938a0b4f39517a1e478c1a1d56cd6242077e762f3", func := "ferrybridge/ferrybridgelaw17.SchedBackups", spec := "schedBackups", unfollowed := true, recurses := true, apart := false, narrowed := true }
def SchedBackupsUptoSaid : Prop := schedBackupsUptoRow.holds Try.pinned (OpenSpec.upto schedBackupsSpec)

/-- 'ferrybridgelaw17.SchedQuick', WHERE WHAT IT READS IS OF BULK AT MOST 1048576: true; the input reads as it did. -/
def schedQuickUptoRow : OpenClaim := { program := "ytanigkmcmefpaaa", sum := "628435a9b785f94399e5482938a0b4f39517a1e478c1a1d56cd6242077e762f3", func := "ferrybridge/ferrybridgelaw17.SchedQuick", spec := "schedQuick", unfollowed := true, recurses := true, apart := false, narrowed := true }
def SchedQuickUptoSaid : Prop := schedQuickUptoRow.holds Try.pinned (OpenSpec.upto schedQuickSpec)

end Rows
end Go.Proofs.Ytanigkmcmefpaaa
