/-
  DERIVED. GIVEN WITH THE SEED: THE CARDS: each row of YtdgllpcljjhhdaaDoorRows.lean that lists a variable, with what it lists TIED to the program's text (the seventh form; the later family's looks); each row that meets fmt, with fmt's text TOLD by the authors' own Lean function (tested against real Go, not proved from fmt's source: count such statements apart). THE CARD IS WHAT COUNTS. Prove the row's statement (the work); the ties are given (YtdgllpcljjhhdaaDoorTie.lean); close each card by the builder's one call (the guide's Derived/Test/ToyasCard.lean, 'card_holds'). Laid BY PROGRAM, IN A SANDBOX (cutbox-door.mjs). By AI agents, Wed Nov 11 2026. No macro, syntax, notation, axiom, sorry.
-/
import Derived.Test.YtdgllpcljjhhdaaDoorRows
import GoSem.ClaimSeven
namespace Go.Proofs.YtdgllpcljjhhdaaDoor
namespace Rows

/-- THE TIED CARD OF 'ferrybridgelaw05.KeyToken'. -/
def keyTokenCard : Claim7 := { stood := { row := keyTokenRow, standIns := [], harness := (true, "513883a4a7dfce83dac8e459564bc91e68984abdf8a429c072e292ec357ced19"), looks := false }, kinds := [], alts := [], laidByText := true, laidKinds := [.data], laidTests := true, laidLooks := .later }
def KeyTokenCardSaid : Prop := Claim7.holds Tryd.pinned (.plain (OpenSpec.ofChange keyTokenSpec)) keyTokenCard

/-- THE TIED CARD OF 'ferrybridgelaw05.KeyProof'. -/
def keyProofCard : Claim7 := { stood := { row := keyProofRow, standIns := [], harness := (true, "513883a4a7dfce83dac8e459564bc91e68984abdf8a429c072e292ec357ced19"), looks := false }, kinds := [], alts := [], laidByText := true, laidKinds := [.data], laidTests := true, laidLooks := .later }
def KeyProofCardSaid : Prop := Claim7.holds Tryd.pinned (.plain (OpenSpec.ofChange keyProofSpec)) keyProofCard

/-- THE TIED CARD OF 'ferrybridgelaw05.KeyBytes'. -/
def keyBytesCard : Claim7 := { stood := { row := keyBytesRow, standIns := [], harness := (true, "513883a4a7dfce83dac8e459564bc91e68984abdf8a429c072e292ec357ced19"), looks := false }, kinds := [], alts := [], laidByText := true, laidKinds := [.data], laidTests := true, laidLooks := .later }
def KeyBytesCardSaid : Prop := Claim7.holds Tryd.pinned (.plain (OpenSpec.ofChange keyBytesSpec)) keyBytesCard

/-- THE SECOND FORM's CARD OF 'ferrybridgelaw05.KeyToken'. -/
def keyTokenUptoCard : Claim7 := { stood := { row := keyTokenUptoRow, standIns := [], harness := (true, "513883a4a7dfce83dac8e459564bc91e68984abdf8a429c072e292ec357ced19"), looks := false }, kinds := [], alts := [], laidByText := true, laidKinds := [.data], laidTests := true, laidLooks := .later }
def KeyTokenUptoCardSaid : Prop := Claim7.holds Tryd.pinned (.plain (OpenSpec.upto keyTokenSpec)) keyTokenUptoCard

/-- THE SECOND FORM's CARD OF 'ferrybridgelaw05.KeyProof'. -/
def keyProofUptoCard : Claim7 := { stood := { row := keyProofUptoRow, standIns := [], harness := (true, "513883a4a7dfce83dac8e459564bc91e68984abdf8a429c072e292ec357ced19"), looks := false }, kinds := [], alts := [], laidByText := true, laidKinds := [.data], laidTests := true, laidLooks := .later }
def KeyProofUptoCardSaid : Prop := Claim7.holds Tryd.pinned (.plain (OpenSpec.upto keyProofSpec)) keyProofUptoCard

/-- THE SECOND FORM's CARD OF 'ferrybridgelaw05.KeyBytes'. -/
def keyBytesUptoCard : Claim7 := { stood := { row := keyBytesUptoRow, standIns := [], harness := (true, "513883a4a7dfce83dac8e459564bc91e68984abdf8a429c072e292ec357ced19"), looks := false }, kinds := [], alts := [], laidByText := true, laidKinds := [.data], laidTests := true, laidLooks := .later }
def KeyBytesUptoCardSaid : Prop := Claim7.holds Tryd.pinned (.plain (OpenSpec.upto keyBytesSpec)) keyBytesUptoCard
end Rows
end Go.Proofs.YtdgllpcljjhhdaaDoor
