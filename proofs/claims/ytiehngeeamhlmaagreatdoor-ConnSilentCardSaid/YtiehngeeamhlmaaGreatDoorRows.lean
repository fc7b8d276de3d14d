/-
  NARROWER THAN 'FOR EVERY INPUT', by the rows' own cells (each row's printed sentence says how): ConnReads: laid · ConnStates: laid · ConnEnds: laid · ConnGood: laid · ConnForged: laid · ConnRight: laid · ConnNil: laid · ConnHalf: laid · ConnFast: laid · ConnSilent: laid.
  DERIVED. THE GIVEN ROWS OF THIS SEAT. 10 by the template 'for every input the law returns true; each argument reads behind the call as it read before'; 0 by the template 'total and deterministic' (their statements: YtiehngeeamhlmaaGreatDoorTotals.lean).
  GIVEN WITH THE SEED: the statements are not yours to turn. If you find one false, say at which input.
  Laid BY PROGRAM, IN A SANDBOX (cutbox-rows.mjs): the forced cells as the released guide's own fill.sh prints them over the translation 4ef58b7b6e214429… (all of the seat's roots in one cut). By AI agents, Wed Nov 11 2026. No macro, syntax, notation, axiom, sorry.
-/
import Derived.Test.YtiehngeeamhlmaaGreatDoorChecked
import GoSem.Claim
import GoSem.ClaimJoined
import GoSem.ClaimMapViews
import Derived.JoinedTies
import Derived.KernelRfl
namespace Go.Proofs.YtiehngeeamhlmaaGreatDoor
/- THE CELL 'sum', in the pinned program and in every row, IS THE sha256 OF THE DUMP (.gsa) THAT YtiehngeeamhlmaaGreatDoorProg.lean LOADS. Nothing in Lean hashes anything: it is a label: what it is worth is what the hold of that sum in a sandbox is worth. -/
noncomputable def Tryz.pinned : Pinned := { name := "ytiehngeeamhlmaagreatdoor", sum := "4ef58b7b6e21442981d98d6034aa90821a5fb79f7739b0dbb3bf1718c3f9cb83", checked := Tryz.checked }
namespace Rows
def none {H : Type} : Left H := { results := [], args := [] }

/- WHAT THE LISTED PACKAGE-LEVEL VARIABLES READ AS WHEN THE CALL BEGINS. Each datum BY PROGRAM (the guide's laid-datum.mjs) off the statement by which the dump's own 'gosem.cut.vars' lays the variable. In a bare row this is a premise. The card (YtiehngeeamhlmaaGreatDoorCards.lean) ties it to the program's text. -/
def laid_ferrybridge_close_moves {H : Type} : DataW H := .agg [.agg [.agg [.lit (.int .i64 0), .lit (.int .i64 0)], .lit (.int .i64 1)], .agg [.agg [.lit (.int .i64 1), .lit (.int .i64 1)], .lit (.int .i64 2)], .agg [.agg [.lit (.int .i64 1), .lit (.int .i64 3)], .lit (.int .i64 4)], .agg [.agg [.lit (.int .i64 2), .lit (.int .i64 2)], .lit (.int .i64 3)], .agg [.agg [.lit (.int .i64 2), .lit (.int .i64 3)], .lit (.int .i64 5)], .agg [.agg [.lit (.int .i64 3), .lit (.int .i64 3)], .lit (.int .i64 7)], .agg [.agg [.lit (.int .i64 4), .lit (.int .i64 1)], .lit (.int .i64 6)], .agg [.agg [.lit (.int .i64 5), .lit (.int .i64 2)], .lit (.int .i64 7)], .agg [.agg [.lit (.int .i64 6), .lit (.int .i64 2)], .lit (.int .i64 7)], .agg [.agg [.lit (.int .i64 7), .lit (.int .i64 4)], .lit (.int .i64 8)], .agg [.agg [.lit (.int .i64 0), .lit (.int .i64 5)], .lit (.int .i64 8)], .agg [.agg [.lit (.int .i64 1), .lit (.int .i64 5)], .lit (.int .i64 8)], .agg [.agg [.lit (.int .i64 2), .lit (.int .i64 5)], .lit (.int .i64 8)], .agg [.agg [.lit (.int .i64 3), .lit (.int .i64 5)], .lit (.int .i64 8)], .agg [.agg [.lit (.int .i64 4), .lit (.int .i64 5)], .lit (.int .i64 8)], .agg [.agg [.lit (.int .i64 5), .lit (.int .i64 5)], .lit (.int .i64 8)], .agg [.agg [.lit (.int .i64 6), .lit (.int .i64 5)], .lit (.int .i64 8)], .agg [.agg [.lit (.int .i64 7), .lit (.int .i64 5)], .lit (.int .i64 8)]]
def laid_ferrybridge_sha_factors {H : Type} : DataW H := .agg [.lit (.int .u32 1116352408), .lit (.int .u32 1899447441), .lit (.int .u32 3049323471), .lit (.int .u32 3921009573), .lit (.int .u32 961987163), .lit (.int .u32 1508970993), .lit (.int .u32 2453635748), .lit (.int .u32 2870763221), .lit (.int .u32 3624381080), .lit (.int .u32 310598401), .lit (.int .u32 607225278), .lit (.int .u32 1426881987), .lit (.int .u32 1925078388), .lit (.int .u32 2162078206), .lit (.int .u32 2614888103), .lit (.int .u32 3248222580), .lit (.int .u32 3835390401), .lit (.int .u32 4022224774), .lit (.int .u32 264347078), .lit (.int .u32 604807628), .lit (.int .u32 770255983), .lit (.int .u32 1249150122), .lit (.int .u32 1555081692), .lit (.int .u32 1996064986), .lit (.int .u32 2554220882), .lit (.int .u32 2821834349), .lit (.int .u32 2952996808), .lit (.int .u32 3210313671), .lit (.int .u32 3336571891), .lit (.int .u32 3584528711), .lit (.int .u32 113926993), .lit (.int .u32 338241895), .lit (.int .u32 666307205), .lit (.int .u32 773529912), .lit (.int .u32 1294757372), .lit (.int .u32 1396182291), .lit (.int .u32 1695183700), .lit (.int .u32 1986661051), .lit (.int .u32 2177026350), .lit (.int .u32 2456956037), .lit (.int .u32 2730485921), .lit (.int .u32 2820302411), .lit (.int .u32 3259730800), .lit (.int .u32 3345764771), .lit (.int .u32 3516065817), .lit (.int .u32 3600352804), .lit (.int .u32 4094571909), .lit (.int .u32 275423344), .lit (.int .u32 430227734), .lit (.int .u32 506948616), .lit (.int .u32 659060556), .lit (.int .u32 883997877), .lit (.int .u32 958139571), .lit (.int .u32 1322822218), .lit (.int .u32 1537002063), .lit (.int .u32 1747873779), .lit (.int .u32 1955562222), .lit (.int .u32 2024104815), .lit (.int .u32 2227730452), .lit (.int .u32 2361852424), .lit (.int .u32 2428436474), .lit (.int .u32 2756734187), .lit (.int .u32 3204031479), .lit (.int .u32 3329325298)]

/-- 'ferrybridgelaw20.ConnReads': WHATEVER THE INPUT: true; the input reads as it did. -/
def connReadsSpec : ChangeSpec := { name := "connReads", fn := fun _ => fun
  | [d1, d2] => { results := [.lit (.bool true)], args := [d1, d2] }
  | _ => none }
def connReadsRow : OpenClaim := { program := "ytiehngeeamhlmaagreatdoor", sum := "4ef58b7b6e21442981d98d6034aa90821a5fb79f7739b0dbb3bf1718c3f9cb83", func := "ferrybridge/ferrybridgelaw20.ConnReads", spec := "connReads", inPlace := ["slices.overlaps[ferrybridge/span.Run]"], unfollowed := true, recurses := true, named := ["ferrybridge/sha.factors", "ferrybridge/close.moves"], apart := false, laid := [("ferrybridge/close.moves", laid_ferrybridge_close_moves), ("ferrybridge/sha.factors", laid_ferrybridge_sha_factors)] }
def ConnReadsSaid : Prop := connReadsRow.holds Tryz.pinned (OpenSpec.ofChange connReadsSpec)

/-- ITS FALSE NEIGHBOUR: 'it returns false'. Refute it at one input. -/
def connReadsWrong : ChangeSpec := { name := "connReads", fn := fun _ => fun
  | [d1, d2] => { results := [.lit (.bool false)], args := [d1, d2] }
  | _ => none }
def ConnReadsWrongFalsely : Prop := connReadsRow.holds Tryz.pinned (OpenSpec.ofChange connReadsWrong)

/-- 'ferrybridgelaw20.ConnStates': WHATEVER THE INPUT: true; the input reads as it did. -/
def connStatesSpec : ChangeSpec := { name := "connStates", fn := fun _ => fun
  | [d1, d2] => { results := [.lit (.bool true)], args := [d1, d2] }
  | _ => none }
def connStatesRow : OpenClaim := { program := "ytiehngeeamhlmaagreatdoor", sum := "4ef58b7b6e21442981d98d6034aa90821a5fb79f7739b0dbb3bf1718c3f9cb83", func := "ferrybridge/ferrybridgelaw20.ConnStates", spec := "connStates", inPlace := ["slices.overlaps[ferrybridge/span.Run]"], unfollowed := true, recurses := true, named := ["ferrybridge/sha.factors", "ferrybridge/close.moves"], apart := false, laid := [("ferrybridge/close.moves", laid_ferrybridge_close_moves), ("ferrybridge/sha.factors", laid_ferrybridge_sha_factors)] }
def ConnStatesSaid : Prop := connStatesRow.holds Tryz.pinned (OpenSpec.ofChange connStatesSpec)

/-- ITS FALSE NEIGHBOUR: 'it returns false'. Refute it at one input. -/
def connStatesWrong : ChangeSpec := { name := "connStates", fn := fun _ => fun
  | [d1, d2] => { results := [.lit (.bool false)], args := [d1, d2] }
  | _ => none }
def ConnStatesWrongFalsely : Prop := connStatesRow.holds Tryz.pinned (OpenSpec.ofChange connStatesWrong)

/-- 'ferrybridgelaw20.ConnEnds': WHATEVER THE INPUT: true; the input reads as it did. -/
def connEndsSpec : ChangeSpec := { name := "connEnds", fn := fun _ => fun
  | [d1, d2, d3] => { results := [.lit (.bool true)], args := [d1, d2, d3] }
  | _ => none }
def connEndsRow : OpenClaim := { program := "ytiehngeeamhlmaagreatdoor", sum := "4ef58b7b6e21442981d98d6034aa90821a5fb79f7739b0dbb3bf1718c3f9cb83", func := "ferrybridge/ferrybridgelaw20.ConnEnds", spec := "connEnds", inPlace := ["slices.overlaps[ferrybridge/span.Run]"], unfollowed := true, recurses := true, named := ["ferrybridge/sha.factors", "ferrybridge/close.moves"], apart := false, laid := [("ferrybridge/close.moves", laid_ferrybridge_close_moves), ("ferrybridge/sha.factors", laid_ferrybridge_sha_factors)] }
def ConnEndsSaid : Prop := connEndsRow.holds Tryz.pinned (OpenSpec.ofChange connEndsSpec)

/-- ITS FALSE NEIGHBOUR: 'it returns false'. Refute it at one input. -/
def connEndsWrong : ChangeSpec := { name := "connEnds", fn := fun _ => fun
  | [d1, d2, d3] => { results := [.lit (.bool false)], args := [d1, d2, d3] }
  | _ => none }
def ConnEndsWrongFalsely : Prop := connEndsRow.holds Tryz.pinned (OpenSpec.ofChange connEndsWrong)

/-- 'ferrybridgelaw20.ConnGood': WHATEVER THE INPUT: true; the input reads as it did. -/
def connGoodSpec : ChangeSpec := { name := "connGood", fn := fun _ => fun
  | [d1, d2, d3] => { results := [.lit (.bool true)], args := [d1, d2, d3] }
  | _ => none }
def connGoodRow : OpenClaim := { program := "ytiehngeeamhlmaagreatdoor", sum := "4ef58b7b6e21442981d98d6034aa90821a5fb79f7739b0dbb3bf1718c3f9cb83", func := "ferrybridge/ferrybridgelaw20.ConnGood", spec := "connGood", inPlace := ["slices.overlaps[ferrybridge/span.Run]"], unfollowed := true, recurses := true, named := ["ferrybridge/sha.factors", "ferrybridge/close.moves"], apart := false, laid := [("ferrybridge/close.moves", laid_ferrybridge_close_moves), ("ferrybridge/sha.factors", laid_ferrybridge_sha_factors)] }
def ConnGoodSaid : Prop := connGoodRow.holds Tryz.pinned (OpenSpec.ofChange connGoodSpec)

/-- ITS FALSE NEIGHBOUR: 'it returns false'. Refute it at one input. -/
def connGoodWrong : ChangeSpec := { name := "connGood", fn := fun _ => fun
  | [d1, d2, d3] => { results := [.lit (.bool false)], args := [d1, d2, d3] }
  | _ => none }
def ConnGoodWrongFalsely : Prop := connGoodRow.holds Tryz.pinned (OpenSpec.ofChange connGoodWrong)

/-- 'ferrybridgelaw20.ConnForged': WHATEVER THE INPUT: true; the input reads as it did. -/
def connForgedSpec : ChangeSpec := { name := "connForged", fn := fun _ => fun
  | [d1, d2, d3] => { results := [.lit (.bool true)], args := [d1, d2, d3] }
  | _ => none }
def connForgedRow : OpenClaim := { program := "ytiehngeeamhlmaagreatdoor", sum := "4ef58b7b6e21442981d98d6034aa90821a5fb79f7739b0dbb3bf1718c3f9cb83", func := "ferrybridge/ferrybridgelaw20.ConnForged", spec := "connForged", inPlace := ["slices.overlaps[ferrybridge/span.Run]"], unfollowed := true, recurses := true, named := ["ferrybridge/sha.factors", "ferrybridge/close.moves"], apart := false, laid := [("ferrybridge/close.moves", laid_ferrybridge_close_moves), ("ferrybridge/sha.factors", laid_ferrybridge_sha_factors)] }
def ConnForgedSaid : Prop := connForgedRow.holds Tryz.pinned (OpenSpec.ofChange connForgedSpec)

/-- ITS FALSE NEIGHBOUR: 'it returns false'. Refute it at one input. -/
def connForgedWrong : ChangeSpec := { name := "connForged", fn := fun _ => fun
  | [d1, d2, d3] => { results := [.lit (.bool false)], args := [d1, d2, d3] }
  | _ => none }
def ConnForgedWrongFalsely : Prop := connForgedRow.holds Tryz.pinned (OpenSpec.ofChange connForgedWrong)

/-- 'ferrybridgelaw20.ConnRight': WHATEVER THE INPUT: true; the input reads as it did. -/
def connRightSpec : ChangeSpec := { name := "connRight", fn := fun _ => fun
  | [d1, d2] => { results := [.lit (.bool true)], args := [d1, d2] }
  | _ => none }
def connRightRow : OpenClaim := { program := "ytiehngeeamhlmaagreatdoor", sum := "4ef58b7b6e21442981d98d6034aa90821a5fb79f7739b0dbb3bf1718c3f9cb83", func := "ferrybridge/ferrybridgelaw20.ConnRight", spec := "connRight", inPlace := ["slices.overlaps[ferrybridge/span.Run]"], unfollowed := true, recurses := true, named := ["ferrybridge/sha.factors", "ferrybridge/close.moves"], apart := false, laid := [("ferrybridge/close.moves", laid_ferrybridge_close_moves), ("ferrybridge/sha.factors", laid_ferrybridge_sha_factors)] }
def ConnRightSaid : Prop := connRightRow.holds Tryz.pinned (OpenSpec.ofChange connRightSpec)

/-- ITS FALSE NEIGHBOUR: 'it returns false'. Refute it at one input. -/
def connRightWrong : ChangeSpec := { name := "connRight", fn := fun _ => fun
  | [d1, d2] => { results := [.lit (.bool false)], args := [d1, d2] }
  | _ => none }
def ConnRightWrongFalsely : Prop := connRightRow.holds Tryz.pinned (OpenSpec.ofChange connRightWrong)

/-- 'ferrybridgelaw20.ConnNil': WHATEVER THE INPUT: true; the input reads as it did. -/
def connNilSpec : ChangeSpec := { name := "connNil", fn := fun _ => fun
  | [d1, d2] => { results := [.lit (.bool true)], args := [d1, d2] }
  | _ => none }
def connNilRow : OpenClaim := { program := "ytiehngeeamhlmaagreatdoor", sum := "4ef58b7b6e21442981d98d6034aa90821a5fb79f7739b0dbb3bf1718c3f9cb83", func := "ferrybridge/ferrybridgelaw20.ConnNil", spec := "connNil", inPlace := ["slices.overlaps[ferrybridge/span.Run]"], unfollowed := true, recurses := true, named := ["ferrybridge/sha.factors", "ferrybridge/close.moves"], apart := false, laid := [("ferrybridge/close.moves", laid_ferrybridge_close_moves), ("ferrybridge/sha.factors", laid_ferrybridge_sha_factors)] }
def ConnNilSaid : Prop := connNilRow.holds Tryz.pinned (OpenSpec.ofChange connNilSpec)

/-- ITS FALSE NEIGHBOUR: 'it returns false'. Refute it at one input. -/
def connNilWrong : ChangeSpec := { name := "connNil", fn := fun _ => fun
  | [d1, d2] => { results := [.lit (.bool false)], args := [d1, d2] }
  | _ => none }
def ConnNilWrongFalsely : Prop := connNilRow.holds Tryz.pinned (OpenSpec.ofChange connNilWrong)

/-- 'ferrybridgelaw20.ConnHalf': WHATEVER THE INPUT: true; the input reads as it did. -/
def connHalfSpec : ChangeSpec := { name := "connHalf", fn := fun _ => fun
  | [d1, d2, d3] => { results := [.lit (.bool true)], args := [d1, d2, d3] }
  | _ => none }
def connHalfRow : OpenClaim := { program := "ytiehngeeamhlmaagreatdoor", sum := "4ef58b7b6e21442981d98d6034aa90821a5fb79f7739b0dbb3bf1718c3f9cb83", func := "ferrybridge/ferrybridgelaw20.ConnHalf", spec := "connHalf", inPlace := ["slices.overlaps[ferrybridge/span.Run]"], unfollowed := true, recurses := true, named := ["ferrybridge/sha.factors", "ferrybridge/close.moves"], apart := false, laid := [("ferrybridge/close.moves", laid_ferrybridge_close_moves), ("ferrybridge/sha.factors", laid_ferrybridge_sha_factors)] }
def ConnHalfSaid : Prop := connHalfRow.holds Tryz.pinned (OpenSpec.ofChange connHalfSpec)

/-- ITS FALSE NEIGHBOUR: 'it returns false'. Refute it at one input. -/
def connHalfWrong : ChangeSpec := { name := "connHalf", fn := fun _ => fun
  | [d1, d2, d3] => { results := [.lit (.bool false)], args := [d1, d2, d3] }
  | _ => none }
def ConnHalfWrongFalsely : Prop := connHalfRow.holds Tryz.pinned (OpenSpec.ofChange connHalfWrong)

/-- 'ferrybridgelaw20.ConnFast': WHATEVER THE INPUT: true; the input reads as it did. -/
def connFastSpec : ChangeSpec := { name := "connFast", fn := fun _ => fun
  | [d1, d2, d3] => { results := [.lit (.bool true)], args := [d1, d2, d3] }
  | _ => none }
def connFastRow : OpenClaim := { program := "ytiehngeeamhlmaagreatdoor", sum := "4ef58b7b6e21442981d98d6034aa90821a5fb79f7739b0dbb3bf1718c3f9cb83", func := "ferrybridge/ferrybridgelaw20.ConnFast", spec := "connFast", inPlace := ["slices.overlaps[ferrybridge/span.Run]"], unfollowed := true, recurses := true, named := ["ferrybridge/sha.factors", "ferrybridge/close.moves"], apart := false, laid := [("ferrybridge/close.moves", laid_ferrybridge_close_moves), ("ferrybridge/sha.factors", laid_ferrybridge_sha_factors)] }
def ConnFastSaid : Prop := connFastRow.holds Tryz.pinned (OpenSpec.ofChange connFastSpec)

/-- ITS FALSE NEIGHBOUR: 'it returns false'. Refute it at one input. -/
def connFastWrong : ChangeSpec := { name := "connFast", fn := fun _ => fun
  | [d1, d2, d3] => { results := [.lit (.bool false)], args := [d1, d2, d3] }
  | _ => none }
def ConnFastWrongFalsely : Prop := connFastRow.holds Tryz.pinned (OpenSpec.ofChange connFastWrong)

/-- 'ferrybridgelaw20.ConnSilent': WHATEVER THE INPUT: true; the input reads as it did. -/
def connSilentSpec : ChangeSpec := { name := "connSilent", fn := fun _ => fun
  | [d1, d2] => { results := [.lit (.bool true)], args := [d1, d2] }
  | _ => none }
def connSilentRow : OpenClaim := { program := "ytiehngeeamhlmaagreatdoor", sum := "4ef58b7b6e21442981d98d6034aa90821a5fb79f7739b0dbb3bf1718c3f9cb83", func := "ferrybridge/ferrybridgelaw20.ConnSilent", spec := "connSilent", inPlace := ["slices.overlaps[ferrybridge/span.Run]"], unfollowed := true, recurses := true, named := ["ferrybridge/sha.factors", "ferrybridge/close.moves"], apart := false, laid := [("ferrybridge/close.moves", laid_ferrybridge_close_moves), ("ferrybridge/sha.factors", laid_ferrybridge_sha_factors)] }
def ConnSilentSaid : Prop := connSilentRow.holds Tryz.pinned (OpenSpec.ofChange connSilentSpec)

/-- ITS FALSE NEIGHBOUR: 'it returns false'. Refute it at one input. -/
def connSilentWrong : ChangeSpec := { name := "connSilent", fn := fun _ => fun
  | [d1, d2] => { results := [.lit (.bool false)], args := [d1, d2] }
  | _ => none }
def ConnSilentWrongFalsely : Prop := connSilentRow.holds Tryz.pinned (OpenSpec.ofChange connSilentWrong)

/- THE SECOND FORM. 'bulk': how many values and letters a reading holds, each counted each time it is reached (what is shared counts as often as it is met; a slice's spare places count too). A statement '..UptoSaid' is the law's where the arguments, and the package variables that the reading takes, are together of bulk at most 1048576: NARROWER than '..Said'. Prove '..Said' where nothing that the law and all that it calls make is longer than what came in: it says more and counts as full. Else prove '..UptoSaid'. A law counts once. -/
mutual
def uptoBulk {H : Type} : DataW H → Nat
  | .lit (.string bytes) => bytes.length + 1
  | .lit _ => 1
  | .nil => 1
  | .ptr d => uptoBulk d + 1
  | .slice elems spare => uptoBulkAll elems + uptoBulkAll spare + 1
  | .agg parts => uptoBulkAll parts + 1
  | .iface _ d => uptoBulk d + 1
  | .map entries => uptoBulkEntries entries + 1
  | .held _ => 1
def uptoBulkAll {H : Type} : List (DataW H) → Nat
  | [] => 0
  | d :: r => uptoBulk d + uptoBulkAll r
def uptoBulkEntries {H : Type} : List (Lit × DataW H) → Nat
  | [] => 0
  | x :: r => uptoBulkEntry x + uptoBulkEntries r
def uptoBulkEntry {H : Type} : Lit × DataW H → Nat
  | (.string bytes, d) => bytes.length + uptoBulk d + 1
  | (_, d) => uptoBulk d + 1
 end
def uptoSmall : (H : Type) → List (DataW H) → Bool := fun _ ds => decide (uptoBulkAll ds ≤ 1048576)
def OpenSpec.upto (s : _root_.Go.ChangeSpec) : _root_.Go.OpenSpec := { _root_.Go.OpenSpec.ofChange s with cond := some uptoSmall }

/-- 'ferrybridgelaw20.ConnReads', WHERE WHAT IT READS IS OF BULK AT MOST 1048576: true; the input reads as it did. -/
def connReadsUptoRow : OpenClaim := { program := "ytiehngeeamhlmaagreatdoor", sum := "4ef58b7b6e21442981d98d6034aa90821a5fb79f7739b0dbb3bf1718c3f9cb83", func := "ferrybridge/ferrybridgelaw20.ConnReads", spec := "connReads", inPlace := ["slices.overlaps[ferrybridge/span.Run]"], unfollowed := true, recurses := true, named := ["ferrybridge/sha.factors", "ferrybridge/close.moves"], apart := false, laid := [("ferrybridge/close.moves", laid_ferrybridge_close_moves), ("ferrybridge/sha.factors", laid_ferrybridge_sha_factors)], narrowed := true }
def ConnReadsUptoSaid : Prop := connReadsUptoRow.holds Tryz.pinned (OpenSpec.upto connReadsSpec)

/-- 'ferrybridgelaw20.ConnStates', WHERE WHAT IT READS IS OF BULK AT MOST 1048576: true; the input reads as it did. -/
def connStatesUptoRow : OpenClaim := { program := "ytiehngeeamhlmaagreatdoor", sum := "4ef58b7b6e21442981d98d6034aa90821a5fb79f7739b0dbb3bf1718c3f9cb83", func := "ferrybridge/ferrybridgelaw20.ConnStates", spec := "connStates", inPlace := ["slices.overlaps[ferrybridge/span.Run]"], unfollowed := true, recurses := true, named := ["ferrybridge/sha.factors", "ferrybridge/close.moves"], apart := false, laid := [("ferrybridge/close.moves", laid_ferrybridge_close_moves), ("ferrybridge/sha.factors", laid_ferrybridge_sha_factors)], narrowed := true }
def ConnStatesUptoSaid : Prop := connStatesUptoRow.holds Tryz.pinned (OpenSpec.upto connStatesSpec)

/-- 'ferrybridgelaw20.ConnEnds', WHERE WHAT IT READS IS OF BULK AT MOST 1048576: true; the input reads as it did. -/
def connEndsUptoRow : OpenClaim := { program := "ytiehngeeamhlmaagreatdoor", sum := "4ef58b7b6e21442981d98d6034aa90821a5fb79f7739b0dbb3bf1718c3f9cb83", func := "ferrybridge/ferrybridgelaw20.ConnEnds", spec := "connEnds", inPlace := ["slices.overlaps[ferrybridge/span.Run]"], unfollowed := true, recurses := true, named := ["ferrybridge/sha.factors", "ferrybridge/close.moves"], apart := false, laid := [("ferrybridge/close.moves", laid_ferrybridge_close_moves), ("ferrybridge/sha.factors", laid_ferrybridge_sha_factors)], narrowed := true }
def ConnEndsUptoSaid : Prop := connEndsUptoRow.holds Tryz.pinned (OpenSpec.upto connEndsSpec)

/-- 'ferrybridgelaw20.ConnGood', WHERE WHAT IT READS IS OF BULK AT MOST 1048576: true; the input reads as it did. -/
def connGoodUptoRow : OpenClaim := { program := "ytiehngeeamhlmaagreatdoor", sum := "4ef58b7b6e21442981d98d6034aa90821a5fb79f7739b0dbb3bf1718c3f9cb83", func := "ferrybridge/ferrybridgelaw20.ConnGood", spec := "connGood", inPlace := ["slices.overlaps[ferrybridge/span.Run]"], unfollowed := true, recurses := true, named := ["ferrybridge/sha.factors", "ferrybridge/close.moves"], apart := false, laid := [("ferrybridge/close.moves", laid_ferrybridge_close_moves), ("ferrybridge/sha.factors", laid_ferrybridge_sha_factors)], narrowed := true }
def ConnGoodUptoSaid : Prop := connGoodUptoRow.holds Tryz.pinned (OpenSpec.upto connGoodSpec)

/-- 'ferrybridgelaw20.ConnForged', WHERE WHAT IT READS IS OF BULK AT MOST 1048576: true; the input reads as it did. -/
def connForgedUptoRow : OpenClaim := { program := "ytiehngeeamhlmaagreatdoor", sum := "4ef58b7b6e21442981d98d6034aa90821a5fb79f7739b0dbb3bf1718c3f9cb83", func := "ferrybridge/ferrybridgelaw20.ConnForged", spec := "connForged", inPlace := ["slices.overlaps[ferrybridge/span.Run]"], unfollowed := true, recurses := true, named := ["ferrybridge/sha.factors", "ferrybridge/close.moves"], apart := false, laid := [("ferrybridge/close.moves", laid_ferrybridge_close_moves), ("ferrybridge/sha.factors", laid_ferrybridge_sha_factors)], narrowed := true }
def ConnForgedUptoSaid : Prop := connForgedUptoRow.holds Tryz.pinned (OpenSpec.upto connForgedSpec)

/-- 'ferrybridgelaw20.ConnRight', WHERE WHAT IT READS IS OF BULK AT MOST 1048576: true; the input reads as it did. -/
def connRightUptoRow : OpenClaim := { program := "ytiehngeeamhlmaagreatdoor", sum := "4ef58b7b6e21442981d98d6034aa90821a5fb79f7739b0dbb3bf1718c3f9cb83", func := "ferrybridge/ferrybridgelaw20.ConnRight", spec := "connRight", inPlace := ["slices.overlaps[ferrybridge/span.Run]"], unfollowed := true, recurses := true, named := ["ferrybridge/sha.factors", "ferrybridge/close.moves"], apart := false, laid := [("ferrybridge/close.moves", laid_ferrybridge_close_moves), ("ferrybridge/sha.factors", laid_ferrybridge_sha_factors)], narrowed := true }
def ConnRightUptoSaid : Prop := connRightUptoRow.holds Tryz.pinned (OpenSpec.upto connRightSpec)

/-- 'ferrybridgelaw20.ConnNil', WHERE WHAT IT READS IS OF BULK AT MOST 1048576: true; the input reads as it did. -/
def connNilUptoRow : OpenClaim := { program := "ytiehngeeamhlmaagreatdoor", sum := "4ef58b7b6e21442981d98d6034aa90821a5fb79f7739b0dbb3bf1718c3f9cb83", func := "ferrybridge/ferrybridgelaw20.ConnNil", spec := "connNil", inPlace := ["slices.overlaps[ferrybridge/span.Run]"], unfollowed := true, recurses := true, named := ["ferrybridge/sha.factors", "ferrybridge/close.moves"], apart := false, laid := [("ferrybridge/close.moves", laid_ferrybridge_close_moves), ("ferrybridge/sha.factors", laid_ferrybridge_sha_factors)], narrowed := true }
def ConnNilUptoSaid : Prop := connNilUptoRow.holds Tryz.pinned (OpenSpec.upto connNilSpec)

/-- 'ferrybridgelaw20.ConnHalf', WHERE WHAT IT READS IS OF BULK AT MOST 1048576: true; the input reads as it did. -/
def connHalfUptoRow : OpenClaim := { program := "ytiehngeeamhlmaagreatdoor", sum := "4ef58b7b6e21442981d98d6034aa90821a5fb79f7739b0dbb3bf1718c3f9cb83", func := "ferrybridge/ferrybridgelaw20.ConnHalf", spec := "connHalf", inPlace := ["slices.overlaps[ferrybridge/span.Run]"], unfollowed := true, recurses := true, named := ["ferrybridge/sha.factors", "ferrybridge/close.moves"], apart := false, laid := [("ferrybridge/close.moves", laid_ferrybridge_close_moves), ("ferrybridge/sha.factors", laid_ferrybridge_sha_factors)], narrowed := true }
def ConnHalfUptoSaid : Prop := connHalfUptoRow.holds Tryz.pinned (OpenSpec.upto connHalfSpec)

/-- 'ferrybridgelaw20.ConnFast', WHERE WHAT IT READS IS OF BULK AT MOST 1048576: true; the input reads as it did. -/
def connFastUptoRow : OpenClaim := { program := "ytiehngeeamhlmaagreatdoor", sum := "4ef58b7b6e21442981d98d6034aa90821a5fb79f7739b0dbb3bf1718c3f9cb83", func := "ferrybridge/ferrybridgelaw20.ConnFast", spec := "connFast", inPlace := ["slices.overlaps[ferrybridge/span.Run]"], unfollowed := true, recurses := true, named := ["ferrybridge/sha.factors", "ferrybridge/close.moves"], apart := false, laid := [("ferrybridge/close.moves", laid_ferrybridge_close_moves), ("ferrybridge/sha.factors", laid_ferrybridge_sha_factors)], narrowed := true }
def ConnFastUptoSaid : Prop := connFastUptoRow.holds Tryz.pinned (OpenSpec.upto connFastSpec)

/-- 'ferrybridgelaw20.ConnSilent', WHERE WHAT IT READS IS OF BULK AT MOST 1048576: true; the input reads as it did. -/
def connSilentUptoRow : OpenClaim := { program := "ytiehngeeamhlmaagreatdoor", sum := "4ef58b7b6e21442981d98d6034aa90821a5fb79f7739b0dbb3bf1718c3f9cb83", func := "ferrybridge/ferrybridgelaw20.ConnSilent", spec := "connSilent", inPlace := ["slices.overlaps[ferrybridge/span.Run]"], unfollowed := true, recurses := true, named := ["ferrybridge/sha.factors", "ferrybridge/close.moves"], apart := false, laid := [("ferrybridge/close.moves", laid_ferrybridge_close_moves), ("ferrybridge/sha.factors", laid_ferrybridge_sha_factors)], narrowed := true }
def ConnSilentUptoSaid : Prop := connSilentUptoRow.holds Tryz.pinned (OpenSpec.upto connSilentSpec)

end Rows
end Go.Proofs.YtiehngeeamhlmaaGreatDoor
