/-
  NARROWER THAN 'FOR EVERY INPUT', by the rows' own cells (each row's printed sentence says how): TokenActs: laid · TokenWaits: laid · TokenFull: laid · TokenNil: laid · TokenOwners: laid.
  DERIVED. THE GIVEN ROWS OF THIS SEAT. 5 by the template 'for every input the law returns true; each argument reads behind the call as it read before'; 0 by the template 'total and deterministic' (their statements: YthfblaiocdgkbaaDoorTotals.lean).
  GIVEN WITH THE SEED: the statements are not yours to turn. If you find one false, say at which input.
  Laid BY PROGRAM, IN A SANDBOX (cutbox-rows.mjs): the forced cells as the released guide's own fill.sh prints them over the translation a2c1516e802a4da1… (all of the seat's roots in one cut). By AI agents, Wed Nov 11 2026. No macro, syntax, notation, axiom, sorry.
-/
import Derived.Test.YthfblaiocdgkbaaDoorChecked
import GoSem.Claim
import GoSem.ClaimJoined
import GoSem.ClaimMapViews
import Derived.JoinedTies
import Derived.KernelRfl
namespace Go.Proofs.YthfblaiocdgkbaaDoor
/- THE CELL 'sum', in the pinned program and in every row, IS THE sha256 OF THE DUMP (.gsa) THAT YthfblaiocdgkbaaDoorProg.lean LOADS. Nothing in Lean hashes anything: it is a label: what it is worth is what the hold of that sum in a sandbox is worth. -/
noncomputable def Tryd.pinned : Pinned := { name := "ythfblaiocdgkbaadoor", sum := "a2c1516e802a4da123a320c21ad2e89e2c2de659ac6ab7abfc93c3973398c42a", checked := Tryd.checked }
namespace Rows
def none {H : Type} : Left H := { results := [], args := [] }

/- WHAT THE LISTED PACKAGE-LEVEL VARIABLES READ AS WHEN THE CALL BEGINS. Each datum BY PROGRAM (the guide's laid-datum.mjs) off the statement by which the dump's own 'gosem.cut.vars' lays the variable. In a bare row this is a premise. The card (YthfblaiocdgkbaaDoorCards.lean) ties it to the program's text. -/
def laid_ferrybridge_sha_factors {H : Type} : DataW H := .agg [.lit (.int .u32 1116352408), .lit (.int .u32 1899447441), .lit (.int .u32 3049323471), .lit (.int .u32 3921009573), .lit (.int .u32 961987163), .lit (.int .u32 1508970993), .lit (.int .u32 2453635748), .lit (.int .u32 2870763221), .lit (.int .u32 3624381080), .lit (.int .u32 310598401), .lit (.int .u32 607225278), .lit (.int .u32 1426881987), .lit (.int .u32 1925078388), .lit (.int .u32 2162078206), .lit (.int .u32 2614888103), .lit (.int .u32 3248222580), .lit (.int .u32 3835390401), .lit (.int .u32 4022224774), .lit (.int .u32 264347078), .lit (.int .u32 604807628), .lit (.int .u32 770255983), .lit (.int .u32 1249150122), .lit (.int .u32 1555081692), .lit (.int .u32 1996064986), .lit (.int .u32 2554220882), .lit (.int .u32 2821834349), .lit (.int .u32 2952996808), .lit (.int .u32 3210313671), .lit (.int .u32 3336571891), .lit (.int .u32 3584528711), .lit (.int .u32 113926993), .lit (.int .u32 338241895), .lit (.int .u32 666307205), .lit (.int .u32 773529912), .lit (.int .u32 1294757372), .lit (.int .u32 1396182291), .lit (.int .u32 1695183700), .lit (.int .u32 1986661051), .lit (.int .u32 2177026350), .lit (.int .u32 2456956037), .lit (.int .u32 2730485921), .lit (.int .u32 2820302411), .lit (.int .u32 3259730800), .lit (.int .u32 3345764771), .lit (.int .u32 3516065817), .lit (.int .u32 3600352804), .lit (.int .u32 4094571909), .lit (.int .u32 275423344), .lit (.int .u32 430227734), .lit (.int .u32 506948616), .lit (.int .u32 659060556), .lit (.int .u32 883997877), .lit (.int .u32 958139571), .lit (.int .u32 1322822218), .lit (.int .u32 1537002063), .lit (.int .u32 1747873779), .lit (.int .u32 1955562222), .lit (.int .u32 2024104815), .lit (.int .u32 2227730452), .lit (.int .u32 2361852424), .lit (.int .u32 2428436474), .lit (.int .u32 2756734187), .lit (.int .u32 3204031479), .lit (.int .u32 3329325298)]

/-- 'ferrybridgelaw10.TokenActs': WHATEVER THE INPUT: true; the input reads as it did. -/
def tokenActsSpec : ChangeSpec := { name := "tokenActs", fn := fun _ => fun
  | [d1, d2] => { results := [.lit (.bool true)], args := [d1, d2] }
  | _ => none }
def tokenActsRow : OpenClaim := { program := "ythfblaiocdgkbaadoor", sum := "a2c1516e802a4da123a320c21ad2e89e2c2de659ac6ab7abfc93c3973398c42a", func := "ferrybridge/ferrybridgelaw10.TokenActs", spec := "tokenActs", unfollowed := true, recurses := true, named := ["ferrybridge/sha.factors"], apart := false, laid := [("ferrybridge/sha.factors", laid_ferrybridge_sha_factors)] }
def TokenActsSaid : Prop := tokenActsRow.holds Tryd.pinned (OpenSpec.ofChange tokenActsSpec)

/-- ITS FALSE NEIGHBOUR: 'it returns false'. Refute it at one input. -/
def tokenActsWrong : ChangeSpec := { name := "tokenActs", fn := fun _ => fun
  | [d1, d2] => { results := [.lit (.bool false)], args := [d1, d2] }
  | _ => none }
def TokenActsWrongFalsely : Prop := tokenActsRow.holds Tryd.pinned (OpenSpec.ofChange tokenActsWrong)

/-- 'ferrybridgelaw10.TokenWaits': WHATEVER THE INPUT: true; the input reads as it did. -/
def tokenWaitsSpec : ChangeSpec := { name := "tokenWaits", fn := fun _ => fun
  | [d1, d2, d3] => { results := [.lit (.bool true)], args := [d1, d2, d3] }
  | _ => none }
def tokenWaitsRow : OpenClaim := { program := "ythfblaiocdgkbaadoor", sum := "a2c1516e802a4da123a320c21ad2e89e2c2de659ac6ab7abfc93c3973398c42a", func := "ferrybridge/ferrybridgelaw10.TokenWaits", spec := "tokenWaits", named := ["ferrybridge/sha.factors"], apart := false, laid := [("ferrybridge/sha.factors", laid_ferrybridge_sha_factors)] }
def TokenWaitsSaid : Prop := tokenWaitsRow.holds Tryd.pinned (OpenSpec.ofChange tokenWaitsSpec)

/-- ITS FALSE NEIGHBOUR: 'it returns false'. Refute it at one input. -/
def tokenWaitsWrong : ChangeSpec := { name := "tokenWaits", fn := fun _ => fun
  | [d1, d2, d3] => { results := [.lit (.bool false)], args := [d1, d2, d3] }
  | _ => none }
def TokenWaitsWrongFalsely : Prop := tokenWaitsRow.holds Tryd.pinned (OpenSpec.ofChange tokenWaitsWrong)

/-- 'ferrybridgelaw10.TokenFull': WHATEVER THE INPUT: true; the input reads as it did. -/
def tokenFullSpec : ChangeSpec := { name := "tokenFull", fn := fun _ => fun
  | [d] => { results := [.lit (.bool true)], args := [d] }
  | _ => none }
def tokenFullRow : OpenClaim := { program := "ythfblaiocdgkbaadoor", sum := "a2c1516e802a4da123a320c21ad2e89e2c2de659ac6ab7abfc93c3973398c42a", func := "ferrybridge/ferrybridgelaw10.TokenFull", spec := "tokenFull", unfollowed := true, recurses := true, named := ["ferrybridge/sha.factors"], apart := false, laid := [("ferrybridge/sha.factors", laid_ferrybridge_sha_factors)] }
def TokenFullSaid : Prop := tokenFullRow.holds Tryd.pinned (OpenSpec.ofChange tokenFullSpec)

/-- ITS FALSE NEIGHBOUR: 'it returns false'. Refute it at one input. -/
def tokenFullWrong : ChangeSpec := { name := "tokenFull", fn := fun _ => fun
  | [d] => { results := [.lit (.bool false)], args := [d] }
  | _ => none }
def TokenFullWrongFalsely : Prop := tokenFullRow.holds Tryd.pinned (OpenSpec.ofChange tokenFullWrong)

/-- 'ferrybridgelaw10.TokenNil': WHATEVER THE INPUT: true; the input reads as it did. -/
def tokenNilSpec : ChangeSpec := { name := "tokenNil", fn := fun _ => fun
  | [d1, d2] => { results := [.lit (.bool true)], args := [d1, d2] }
  | _ => none }
def tokenNilRow : OpenClaim := { program := "ythfblaiocdgkbaadoor", sum := "a2c1516e802a4da123a320c21ad2e89e2c2de659ac6ab7abfc93c3973398c42a", func := "ferrybridge/ferrybridgelaw10.TokenNil", spec := "tokenNil", unfollowed := true, recurses := true, named := ["ferrybridge/sha.factors"], apart := false, laid := [("ferrybridge/sha.factors", laid_ferrybridge_sha_factors)] }
def TokenNilSaid : Prop := tokenNilRow.holds Tryd.pinned (OpenSpec.ofChange tokenNilSpec)

/-- ITS FALSE NEIGHBOUR: 'it returns false'. Refute it at one input. -/
def tokenNilWrong : ChangeSpec := { name := "tokenNil", fn := fun _ => fun
  | [d1, d2] => { results := [.lit (.bool false)], args := [d1, d2] }
  | _ => none }
def TokenNilWrongFalsely : Prop := tokenNilRow.holds Tryd.pinned (OpenSpec.ofChange tokenNilWrong)

/-- 'ferrybridgelaw10.TokenOwners': WHATEVER THE INPUT: true; the input reads as it did. -/
def tokenOwnersSpec : ChangeSpec := { name := "tokenOwners", fn := fun _ => fun
  | [d1, d2] => { results := [.lit (.bool true)], args := [d1, d2] }
  | _ => none }
def tokenOwnersRow : OpenClaim := { program := "ythfblaiocdgkbaadoor", sum := "a2c1516e802a4da123a320c21ad2e89e2c2de659ac6ab7abfc93c3973398c42a", func := "ferrybridge/ferrybridgelaw10.TokenOwners", spec := "tokenOwners", unfollowed := true, recurses := true, named := ["ferrybridge/sha.factors"], apart := false, laid := [("ferrybridge/sha.factors", laid_ferrybridge_sha_factors)] }
def TokenOwnersSaid : Prop := tokenOwnersRow.holds Tryd.pinned (OpenSpec.ofChange tokenOwnersSpec)

/-- ITS FALSE NEIGHBOUR: 'it returns false'. Refute it at one input. -/
def tokenOwnersWrong : ChangeSpec := { name := "tokenOwners", fn := fun _ => fun
  | [d1, d2] => { results := [.lit (.bool false)], args := [d1, d2] }
  | _ => none }
def TokenOwnersWrongFalsely : Prop := tokenOwnersRow.holds Tryd.pinned (OpenSpec.ofChange tokenOwnersWrong)

/- THE SECOND FORM. 'bulk': how many values and letters a reading holds, each counted each time it is reached (what is shared counts as often as it is met; a slice's spare places count too). A statement '..UptoSaid' is the law's where the arguments, and the package variables that the reading takes, are together of bulk at most 1048576: NARROWER than '..Said'. Prove '..Said' where nothing that the law and all that it calls make is longer than what came in: it says more and counts as full. Else prove '..UptoSaid'. A law counts once. -/
mutual
def uptoBulk {H : Type} : DataW H → Nat
  | .lit (.string bytes) => bytes.length + 1
  | .lit _ => 1
  | .nil => 1
  | .ptr d => uptoBulk d + 1
  | .slice elems spare => uptoBulkAll elems + uptoBulkAll spare + 1
  | .agg parts => uptoBulkAll parts + 1
  | .iface _ d => uptoBulk d + 1
  | .map entries => uptoBulkEntries entries + 1
  | .held _ => 1
def uptoBulkAll {H : Type} : List (DataW H) → Nat
  | [] => 0
  | d :: r => uptoBulk d + uptoBulkAll r
def uptoBulkEntries {H : Type} : List (Lit × DataW H) → Nat
  | [] => 0
  | x :: r => uptoBulkEntry x + uptoBulkEntries r
def uptoBulkEntry {H : Type} : Lit × DataW H → Nat
  | (.string bytes, d) => bytes.length + uptoBulk d + 1
  | (_, d) => uptoBulk d + 1
 end
def uptoSmall : (H : Type) → List (DataW H) → Bool := fun _ ds => decide (uptoBulkAll ds ≤ 1048576)
def OpenSpec.upto (s : _root_.Go.ChangeSpec) : _root_.Go.OpenSpec := { _root_.Go.OpenSpec.ofChange s with cond := some uptoSmall }

/-- 'ferrybridgelaw10.TokenActs', WHERE WHAT IT READS IS OF BULK AT MOST 1048576: true; the input reads as it did. -/
def tokenActsUptoRow : OpenClaim := { program := "ythfblaiocdgkbaadoor", sum := "a2c1516e802a4da123a320c21ad2e89e2c2de659ac6ab7abfc93c3973398c42a", func := "ferrybridge/ferrybridgelaw10.TokenActs", spec := "tokenActs", unfollowed := true, recurses := true, named := ["ferrybridge/sha.factors"], apart := false, laid := [("ferrybridge/sha.factors", laid_ferrybridge_sha_factors)], narrowed := true }
def TokenActsUptoSaid : Prop := tokenActsUptoRow.holds Tryd.pinned (OpenSpec.upto tokenActsSpec)

/-- 'ferrybridgelaw10.TokenWaits', WHERE WHAT IT READS IS OF BULK AT MOST 1048576: true; the input reads as it did. -/
def tokenWaitsUptoRow : OpenClaim := { program := "ythfblaiocdgkbaadoor", sum := "a2c1516e802a4da123a320c21ad2e89e2c2de659ac6ab7abfc93c3973398c42a", func := "ferrybridge/ferrybridgelaw10.TokenWaits", spec := "tokenWaits", named := ["ferrybridge/sha.factors"], apart := false, laid := [("ferrybridge/sha.factors", laid_ferrybridge_sha_factors)], narrowed := true }
def TokenWaitsUptoSaid : Prop := tokenWaitsUptoRow.holds Tryd.pinned (OpenSpec.upto tokenWaitsSpec)

/-- 'ferrybridgelaw10.TokenFull', WHERE WHAT IT READS IS OF BULK AT MOST 1048576: true; the input reads as it did. -/
def tokenFullUptoRow : OpenClaim := { program := "ythfblaiocdgkbaadoor", sum := "a2c1516e802a4da123a320c21ad2e89e2c2de659ac6ab7abfc93c3973398c42a", func := "ferrybridge/ferrybridgelaw10.TokenFull", spec := "tokenFull", unfollowed := true, recurses := true, named := ["ferrybridge/sha.factors"], apart := false, laid := [("ferrybridge/sha.factors", laid_ferrybridge_sha_factors)], narrowed := true }
def TokenFullUptoSaid : Prop := tokenFullUptoRow.holds Tryd.pinned (OpenSpec.upto tokenFullSpec)

/-- 'ferrybridgelaw10.TokenNil', WHERE WHAT IT READS IS OF BULK AT MOST 1048576: true; the input reads as it did. -/
def tokenNilUptoRow : OpenClaim := { program := "ythfblaiocdgkbaadoor", sum := "a2c1516e802a4da123a320c21ad2e89e2c2de659ac6ab7abfc93c3973398c42a", func := "ferrybridge/ferrybridgelaw10.TokenNil", spec := "tokenNil", unfollowed := true, recurses := true, named := ["ferrybridge/sha.factors"], apart := false, laid := [("ferrybridge/sha.factors", laid_ferrybridge_sha_factors)], narrowed := true }
def TokenNilUptoSaid : Prop := tokenNilUptoRow.holds Tryd.pinned (OpenSpec.upto tokenNilSpec)

/-- 'ferrybridgelaw10.TokenOwners', WHERE WHAT IT READS IS OF BULK AT MOST 1048576: true; the input reads as it did. -/
def tokenOwnersUptoRow : OpenClaim := { program := "ythfblaiocdgkbaadoor", sum := "a2c1516e802a4da123a320c21ad2e89e2c2de659ac6ab7abfc93c3973398c42a", func := "ferrybridge/ferrybridgelaw10.TokenOwners", spec := "tokenOwners", unfollowed := true, recurses := true, named := ["ferrybridge/sha.factors"], apart := false, laid := [("ferrybridge/sha.factors", laid_ferrybridge_sha_factors)], narrowed := true }
def TokenOwnersUptoSaid : Prop := tokenOwnersUptoRow.holds Tryd.pinned (OpenSpec.upto tokenOwnersSpec)

end Rows
end Go.Proofs.YthfblaiocdgkbaaDoor
