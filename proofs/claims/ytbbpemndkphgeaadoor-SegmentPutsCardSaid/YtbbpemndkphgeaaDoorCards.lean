/-
  DERIVED. GIVEN WITH THE SEED: THE CARDS: each row of YtbbpemndkphgeaaDoorRows.lean that lists a variable, with what it lists TIED to the program's text (the seventh form; the later family's looks); each row that meets fmt, with fmt's text TOLD by the authors' own Lean function (tested against real Go, not proved from fmt's source: count such statements apart). THE CARD IS WHAT COUNTS. Prove the row's statement (the work); the ties are given (YtbbpemndkphgeaaDoorTie.lean); close each card by the builder's one call (the guide's Derived/Test/ToyasCard.lean, 'card_holds'). Laid BY PROGRAM, IN A SANDBOX (cutbox-door.mjs). By AI agents, Wed Nov 11 2026. No macro, syntax, notation, axiom, sorry.
-/
import Derived.Test.YtbbpemndkphgeaaDoorRows
import GoSem.ClaimSeven
namespace Go.Proofs.YtbbpemndkphgeaaDoor
namespace Rows

/-- THE TIED CARD OF 'ferrybridgelaw08.SegmentPuts'. -/
def segmentPutsCard : Claim7 := { stood := { row := segmentPutsRow, standIns := [], harness := (true, "e41881668265d330a66f5f8b03b08202fa8fcbe1d125d3da0e93d610febc562e"), looks := true }, kinds := [], alts := [], laidByText := true, laidKinds := [.data], laidTests := true, laidLooks := .later }
def SegmentPutsCardSaid : Prop := Claim7.holds Tryd.pinned (.plain (OpenSpec.ofChange segmentPutsSpec)) segmentPutsCard

/-- THE TIED CARD OF 'ferrybridgelaw08.SegmentChanged'. -/
def segmentChangedCard : Claim7 := { stood := { row := segmentChangedRow, standIns := [], harness := (true, "e41881668265d330a66f5f8b03b08202fa8fcbe1d125d3da0e93d610febc562e"), looks := true }, kinds := [], alts := [], laidByText := true, laidKinds := [.data], laidTests := true, laidLooks := .later }
def SegmentChangedCardSaid : Prop := Claim7.holds Tryd.pinned (.plain (OpenSpec.ofChange segmentChangedSpec)) segmentChangedCard

/-- THE TIED CARD OF 'ferrybridgelaw08.SegmentReplies'. -/
def segmentRepliesCard : Claim7 := { stood := { row := segmentRepliesRow, standIns := [], harness := (true, "e41881668265d330a66f5f8b03b08202fa8fcbe1d125d3da0e93d610febc562e"), looks := true }, kinds := [], alts := [], laidByText := true, laidKinds := [.data], laidTests := true, laidLooks := .later }
def SegmentRepliesCardSaid : Prop := Claim7.holds Tryd.pinned (.plain (OpenSpec.ofChange segmentRepliesSpec)) segmentRepliesCard

/-- THE TIED CARD OF 'ferrybridgelaw08.SegmentSize'. -/
def segmentSizeCard : Claim7 := { stood := { row := segmentSizeRow, standIns := [], harness := (true, "e41881668265d330a66f5f8b03b08202fa8fcbe1d125d3da0e93d610febc562e"), looks := true }, kinds := [], alts := [], laidByText := true, laidKinds := [.data], laidTests := true, laidLooks := .later }
def SegmentSizeCardSaid : Prop := Claim7.holds Tryd.pinned (.plain (OpenSpec.ofChange segmentSizeSpec)) segmentSizeCard

/-- THE SECOND FORM's CARD OF 'ferrybridgelaw08.SegmentPuts'. -/
def segmentPutsUptoCard : Claim7 := { stood := { row := segmentPutsUptoRow, standIns := [], harness := (true, "e41881668265d330a66f5f8b03b08202fa8fcbe1d125d3da0e93d610febc562e"), looks := true }, kinds := [], alts := [], laidByText := true, laidKinds := [.data], laidTests := true, laidLooks := .later }
def SegmentPutsUptoCardSaid : Prop := Claim7.holds Tryd.pinned (.plain (OpenSpec.upto segmentPutsSpec)) segmentPutsUptoCard

/-- THE SECOND FORM's CARD OF 'ferrybridgelaw08.SegmentChanged'. -/
def segmentChangedUptoCard : Claim7 := { stood := { row := segmentChangedUptoRow, standIns := [], harness := (true, "e41881668265d330a66f5f8b03b08202fa8fcbe1d125d3da0e93d610febc562e"), looks := true }, kinds := [], alts := [], laidByText := true, laidKinds := [.data], laidTests := true, laidLooks := .later }
def SegmentChangedUptoCardSaid : Prop := Claim7.holds Tryd.pinned (.plain (OpenSpec.upto segmentChangedSpec)) segmentChangedUptoCard

/-- THE SECOND FORM's CARD OF 'ferrybridgelaw08.SegmentReplies'. -/
def segmentRepliesUptoCard : Claim7 := { stood := { row := segmentRepliesUptoRow, standIns := [], harness := (true, "e41881668265d330a66f5f8b03b08202fa8fcbe1d125d3da0e93d610febc562e"), looks := true }, kinds := [], alts := [], laidByText := true, laidKinds := [.data], laidTests := true, laidLooks := .later }
def SegmentRepliesUptoCardSaid : Prop := Claim7.holds Tryd.pinned (.plain (OpenSpec.upto segmentRepliesSpec)) segmentRepliesUptoCard

/-- THE SECOND FORM's CARD OF 'ferrybridgelaw08.SegmentSize'. -/
def segmentSizeUptoCard : Claim7 := { stood := { row := segmentSizeUptoRow, standIns := [], harness := (true, "e41881668265d330a66f5f8b03b08202fa8fcbe1d125d3da0e93d610febc562e"), looks := true }, kinds := [], alts := [], laidByText := true, laidKinds := [.data], laidTests := true, laidLooks := .later }
def SegmentSizeUptoCardSaid : Prop := Claim7.holds Tryd.pinned (.plain (OpenSpec.upto segmentSizeSpec)) segmentSizeUptoCard
end Rows
end Go.Proofs.YtbbpemndkphgeaaDoor
