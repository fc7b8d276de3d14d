/-
  DERIVED. GIVEN WITH THE SEED: THE CARDS: each row of YtiehngeeamhlmaaGreatDoorRows.lean that lists a variable, with what it lists TIED to the program's text (the seventh form; the later family's looks); each row that meets fmt, with fmt's text TOLD by the authors' own Lean function (tested against real Go, not proved from fmt's source: count such statements apart). THE CARD IS WHAT COUNTS. Prove the row's statement (the work); the ties are given (YtiehngeeamhlmaaGreatDoorTie.lean); close each card by the builder's one call (the guide's Derived/Test/ToyasCard.lean, 'card_holds'). Laid BY PROGRAM, IN A SANDBOX (cutbox-door.mjs). By AI agents, Wed Nov 11 2026. No macro, syntax, notation, axiom, sorry.
-/
import Derived.Test.YtiehngeeamhlmaaGreatDoorRows
import GoSem.ClaimSeven
namespace Go.Proofs.YtiehngeeamhlmaaGreatDoor
namespace Rows

/-- THE TIED CARD OF 'ferrybridgelaw20.ConnReads'. -/
def connReadsCard : Claim7 := { stood := { row := connReadsRow, standIns := [], harness := (true, "ebe9aa2c20932b7c3fb706ca0415aa930195e12fdb8ad4019aedfc847bba438b"), looks := true }, kinds := [], alts := [], laidByText := true, laidKinds := [.data, .data], laidTests := true, laidLooks := .later }
def ConnReadsCardSaid : Prop := Claim7.holds Tryz.pinned (.plain (OpenSpec.ofChange connReadsSpec)) connReadsCard

/-- THE TIED CARD OF 'ferrybridgelaw20.ConnStates'. -/
def connStatesCard : Claim7 := { stood := { row := connStatesRow, standIns := [], harness := (true, "ebe9aa2c20932b7c3fb706ca0415aa930195e12fdb8ad4019aedfc847bba438b"), looks := true }, kinds := [], alts := [], laidByText := true, laidKinds := [.data, .data], laidTests := true, laidLooks := .later }
def ConnStatesCardSaid : Prop := Claim7.holds Tryz.pinned (.plain (OpenSpec.ofChange connStatesSpec)) connStatesCard

/-- THE TIED CARD OF 'ferrybridgelaw20.ConnEnds'. -/
def connEndsCard : Claim7 := { stood := { row := connEndsRow, standIns := [], harness := (true, "ebe9aa2c20932b7c3fb706ca0415aa930195e12fdb8ad4019aedfc847bba438b"), looks := true }, kinds := [], alts := [], laidByText := true, laidKinds := [.data, .data], laidTests := true, laidLooks := .later }
def ConnEndsCardSaid : Prop := Claim7.holds Tryz.pinned (.plain (OpenSpec.ofChange connEndsSpec)) connEndsCard

/-- THE TIED CARD OF 'ferrybridgelaw20.ConnGood'. -/
def connGoodCard : Claim7 := { stood := { row := connGoodRow, standIns := [], harness := (true, "ebe9aa2c20932b7c3fb706ca0415aa930195e12fdb8ad4019aedfc847bba438b"), looks := true }, kinds := [], alts := [], laidByText := true, laidKinds := [.data, .data], laidTests := true, laidLooks := .later }
def ConnGoodCardSaid : Prop := Claim7.holds Tryz.pinned (.plain (OpenSpec.ofChange connGoodSpec)) connGoodCard

/-- THE TIED CARD OF 'ferrybridgelaw20.ConnForged'. -/
def connForgedCard : Claim7 := { stood := { row := connForgedRow, standIns := [], harness := (true, "ebe9aa2c20932b7c3fb706ca0415aa930195e12fdb8ad4019aedfc847bba438b"), looks := true }, kinds := [], alts := [], laidByText := true, laidKinds := [.data, .data], laidTests := true, laidLooks := .later }
def ConnForgedCardSaid : Prop := Claim7.holds Tryz.pinned (.plain (OpenSpec.ofChange connForgedSpec)) connForgedCard

/-- THE TIED CARD OF 'ferrybridgelaw20.ConnRight'. -/
def connRightCard : Claim7 := { stood := { row := connRightRow, standIns := [], harness := (true, "ebe9aa2c20932b7c3fb706ca0415aa930195e12fdb8ad4019aedfc847bba438b"), looks := true }, kinds := [], alts := [], laidByText := true, laidKinds := [.data, .data], laidTests := true, laidLooks := .later }
def ConnRightCardSaid : Prop := Claim7.holds Tryz.pinned (.plain (OpenSpec.ofChange connRightSpec)) connRightCard

/-- THE TIED CARD OF 'ferrybridgelaw20.ConnNil'. -/
def connNilCard : Claim7 := { stood := { row := connNilRow, standIns := [], harness := (true, "ebe9aa2c20932b7c3fb706ca0415aa930195e12fdb8ad4019aedfc847bba438b"), looks := true }, kinds := [], alts := [], laidByText := true, laidKinds := [.data, .data], laidTests := true, laidLooks := .later }
def ConnNilCardSaid : Prop := Claim7.holds Tryz.pinned (.plain (OpenSpec.ofChange connNilSpec)) connNilCard

/-- THE TIED CARD OF 'ferrybridgelaw20.ConnHalf'. -/
def connHalfCard : Claim7 := { stood := { row := connHalfRow, standIns := [], harness := (true, "ebe9aa2c20932b7c3fb706ca0415aa930195e12fdb8ad4019aedfc847bba438b"), looks := true }, kinds := [], alts := [], laidByText := true, laidKinds := [.data, .data], laidTests := true, laidLooks := .later }
def ConnHalfCardSaid : Prop := Claim7.holds Tryz.pinned (.plain (OpenSpec.ofChange connHalfSpec)) connHalfCard

/-- THE TIED CARD OF 'ferrybridgelaw20.ConnFast'. -/
def connFastCard : Claim7 := { stood := { row := connFastRow, standIns := [], harness := (true, "ebe9aa2c20932b7c3fb706ca0415aa930195e12fdb8ad4019aedfc847bba438b"), looks := true }, kinds := [], alts := [], laidByText := true, laidKinds := [.data, .data], laidTests := true, laidLooks := .later }
def ConnFastCardSaid : Prop := Claim7.holds Tryz.pinned (.plain (OpenSpec.ofChange connFastSpec)) connFastCard

/-- THE TIED CARD OF 'ferrybridgelaw20.ConnSilent'. -/
def connSilentCard : Claim7 := { stood := { row := connSilentRow, standIns := [], harness := (true, "ebe9aa2c20932b7c3fb706ca0415aa930195e12fdb8ad4019aedfc847bba438b"), looks := true }, kinds := [], alts := [], laidByText := true, laidKinds := [.data, .data], laidTests := true, laidLooks := .later }
def ConnSilentCardSaid : Prop := Claim7.holds Tryz.pinned (.plain (OpenSpec.ofChange connSilentSpec)) connSilentCard

/-- THE SECOND FORM's CARD OF 'ferrybridgelaw20.ConnReads'. -/
def connReadsUptoCard : Claim7 := { stood := { row := connReadsUptoRow, standIns := [], harness := (true, "ebe9aa2c20932b7c3fb706ca0415aa930195e12fdb8ad4019aedfc847bba438b"), looks := true }, kinds := [], alts := [], laidByText := true, laidKinds := [.data, .data], laidTests := true, laidLooks := .later }
def ConnReadsUptoCardSaid : Prop := Claim7.holds Tryz.pinned (.plain (OpenSpec.upto connReadsSpec)) connReadsUptoCard

/-- THE SECOND FORM's CARD OF 'ferrybridgelaw20.ConnStates'. -/
def connStatesUptoCard : Claim7 := { stood := { row := connStatesUptoRow, standIns := [], harness := (true, "ebe9aa2c20932b7c3fb706ca0415aa930195e12fdb8ad4019aedfc847bba438b"), looks := true }, kinds := [], alts := [], laidByText := true, laidKinds := [.data, .data], laidTests := true, laidLooks := .later }
def ConnStatesUptoCardSaid : Prop := Claim7.holds Tryz.pinned (.plain (OpenSpec.upto connStatesSpec)) connStatesUptoCard

/-- THE SECOND FORM's CARD OF 'ferrybridgelaw20.ConnEnds'. -/
def connEndsUptoCard : Claim7 := { stood := { row := connEndsUptoRow, standIns := [], harness := (true, "ebe9aa2c20932b7c3fb706ca0415aa930195e12fdb8ad4019aedfc847bba438b"), looks := true }, kinds := [], alts := [], laidByText := true, laidKinds := [.data, .data], laidTests := true, laidLooks := .later }
def ConnEndsUptoCardSaid : Prop := Claim7.holds Tryz.pinned (.plain (OpenSpec.upto connEndsSpec)) connEndsUptoCard

/-- THE SECOND FORM's CARD OF 'ferrybridgelaw20.ConnGood'. -/
def connGoodUptoCard : Claim7 := { stood := { row := connGoodUptoRow, standIns := [], harness := (true, "ebe9aa2c20932b7c3fb706ca0415aa930195e12fdb8ad4019aedfc847bba438b"), looks := true }, kinds := [], alts := [], laidByText := true, laidKinds := [.data, .data], laidTests := true, laidLooks := .later }
def ConnGoodUptoCardSaid : Prop := Claim7.holds Tryz.pinned (.plain (OpenSpec.upto connGoodSpec)) connGoodUptoCard

/-- THE SECOND FORM's CARD OF 'ferrybridgelaw20.ConnForged'. -/
def connForgedUptoCard : Claim7 := { stood := { row := connForgedUptoRow, standIns := [], harness := (true, "ebe9aa2c20932b7c3fb706ca0415aa930195e12fdb8ad4019aedfc847bba438b"), looks := true }, kinds := [], alts := [], laidByText := true, laidKinds := [.data, .data], laidTests := true, laidLooks := .later }
def ConnForgedUptoCardSaid : Prop := Claim7.holds Tryz.pinned (.plain (OpenSpec.upto connForgedSpec)) connForgedUptoCard

/-- THE SECOND FORM's CARD OF 'ferrybridgelaw20.ConnRight'. -/
def connRightUptoCard : Claim7 := { stood := { row := connRightUptoRow, standIns := [], harness := (true, "ebe9aa2c20932b7c3fb706ca0415aa930195e12fdb8ad4019aedfc847bba438b"), looks := true }, kinds := [], alts := [], laidByText := true, laidKinds := [.data, .data], laidTests := true, laidLooks := .later }
def ConnRightUptoCardSaid : Prop := Claim7.holds Tryz.pinned (.plain (OpenSpec.upto connRightSpec)) connRightUptoCard

/-- THE SECOND FORM's CARD OF 'ferrybridgelaw20.ConnNil'. -/
def connNilUptoCard : Claim7 := { stood := { row := connNilUptoRow, standIns := [], harness := (true, "ebe9aa2c20932b7c3fb706ca0415aa930195e12fdb8ad4019aedfc847bba438b"), looks := true }, kinds := [], alts := [], laidByText := true, laidKinds := [.data, .data], laidTests := true, laidLooks := .later }
def ConnNilUptoCardSaid : Prop := Claim7.holds Tryz.pinned (.plain (OpenSpec.upto connNilSpec)) connNilUptoCard

/-- THE SECOND FORM's CARD OF 'ferrybridgelaw20.ConnHalf'. -/
def connHalfUptoCard : Claim7 := { stood := { row := connHalfUptoRow, standIns := [], harness := (true, "ebe9aa2c20932b7c3fb706ca0415aa930195e12fdb8ad4019aedfc847bba438b"), looks := true }, kinds := [], alts := [], laidByText := true, laidKinds := [.data, .data], laidTests := true, laidLooks := .later }
def ConnHalfUptoCardSaid : Prop := Claim7.holds Tryz.pinned (.plain (OpenSpec.upto connHalfSpec)) connHalfUptoCard

/-- THE SECOND FORM's CARD OF 'ferrybridgelaw20.ConnFast'. -/
def connFastUptoCard : Claim7 := { stood := { row := connFastUptoRow, standIns := [], harness := (true, "ebe9aa2c20932b7c3fb706ca0415aa930195e12fdb8ad4019aedfc847bba438b"), looks := true }, kinds := [], alts := [], laidByText := true, laidKinds := [.data, .data], laidTests := true, laidLooks := .later }
def ConnFastUptoCardSaid : Prop := Claim7.holds Tryz.pinned (.plain (OpenSpec.upto connFastSpec)) connFastUptoCard

/-- THE SECOND FORM's CARD OF 'ferrybridgelaw20.ConnSilent'. -/
def connSilentUptoCard : Claim7 := { stood := { row := connSilentUptoRow, standIns := [], harness := (true, "ebe9aa2c20932b7c3fb706ca0415aa930195e12fdb8ad4019aedfc847bba438b"), looks := true }, kinds := [], alts := [], laidByText := true, laidKinds := [.data, .data], laidTests := true, laidLooks := .later }
def ConnSilentUptoCardSaid : Prop := Claim7.holds Tryz.pinned (.plain (OpenSpec.upto connSilentSpec)) connSilentUptoCard
end Rows
end Go.Proofs.YtiehngeeamhlmaaGreatDoor
