/-
  DERIVED. GIVEN WITH THE SEED: THE CARDS: each row of YtjjpflnnklealaaDoorRows.lean that lists a variable, with what it lists TIED to the program's text (the seventh form; the later family's looks); each row that meets fmt, with fmt's text TOLD by the authors' own Lean function (tested against real Go, not proved from fmt's source: count such statements apart). THE CARD IS WHAT COUNTS. Prove the row's statement (the work); the ties are given (YtjjpflnnklealaaDoorTie.lean); close each card by the builder's one call (the guide's Derived/Test/ToyasCard.lean, 'card_holds'). Laid BY PROGRAM, IN A SANDBOX (cutbox-door.mjs). By AI agents, Wed Nov 11 2026. No macro, syntax, notation, axiom, sorry.
-/
import Derived.Test.YtjjpflnnklealaaDoorRows
import GoSem.ClaimSeven
namespace Go.Proofs.YtjjpflnnklealaaDoor
namespace Rows

/-- THE TIED CARD OF 'ferrybridgelaw04.HmacOf'. -/
def hmacOfCard : Claim7 := { stood := { row := hmacOfRow, standIns := [], harness := (true, "d02351bdfb68998e4548e14ce83f809e88e358656765556b099e71af16663f10"), looks := false }, kinds := [], alts := [], laidByText := true, laidKinds := [.data], laidTests := true, laidLooks := .later }
def HmacOfCardSaid : Prop := Claim7.holds Tryd.pinned (.plain (OpenSpec.ofChange hmacOfSpec)) hmacOfCard

/-- THE TIED CARD OF 'ferrybridgelaw04.HmacKeys'. -/
def hmacKeysCard : Claim7 := { stood := { row := hmacKeysRow, standIns := [], harness := (true, "d02351bdfb68998e4548e14ce83f809e88e358656765556b099e71af16663f10"), looks := false }, kinds := [], alts := [], laidByText := true, laidKinds := [.data], laidTests := true, laidLooks := .later }
def HmacKeysCardSaid : Prop := Claim7.holds Tryd.pinned (.plain (OpenSpec.ofChange hmacKeysSpec)) hmacKeysCard

/-- THE TIED CARD OF 'ferrybridgelaw04.HmacJoins'. -/
def hmacJoinsCard : Claim7 := { stood := { row := hmacJoinsRow, standIns := [], harness := (true, "d02351bdfb68998e4548e14ce83f809e88e358656765556b099e71af16663f10"), looks := false }, kinds := [], alts := [], laidByText := true, laidKinds := [.data], laidTests := true, laidLooks := .later }
def HmacJoinsCardSaid : Prop := Claim7.holds Tryd.pinned (.plain (OpenSpec.ofChange hmacJoinsSpec)) hmacJoinsCard

/-- THE TIED CARD OF 'ferrybridgelaw04.HmacEmpty'. -/
def hmacEmptyCard : Claim7 := { stood := { row := hmacEmptyRow, standIns := [], harness := (true, "d02351bdfb68998e4548e14ce83f809e88e358656765556b099e71af16663f10"), looks := false }, kinds := [], alts := [], laidByText := true, laidKinds := [.data], laidTests := true, laidLooks := .later }
def HmacEmptyCardSaid : Prop := Claim7.holds Tryd.pinned (.plain (OpenSpec.ofChange hmacEmptySpec)) hmacEmptyCard

/-- THE SECOND FORM's CARD OF 'ferrybridgelaw04.HmacOf'. -/
def hmacOfUptoCard : Claim7 := { stood := { row := hmacOfUptoRow, standIns := [], harness := (true, "d02351bdfb68998e4548e14ce83f809e88e358656765556b099e71af16663f10"), looks := false }, kinds := [], alts := [], laidByText := true, laidKinds := [.data], laidTests := true, laidLooks := .later }
def HmacOfUptoCardSaid : Prop := Claim7.holds Tryd.pinned (.plain (OpenSpec.upto hmacOfSpec)) hmacOfUptoCard

/-- THE SECOND FORM's CARD OF 'ferrybridgelaw04.HmacKeys'. -/
def hmacKeysUptoCard : Claim7 := { stood := { row := hmacKeysUptoRow, standIns := [], harness := (true, "d02351bdfb68998e4548e14ce83f809e88e358656765556b099e71af16663f10"), looks := false }, kinds := [], alts := [], laidByText := true, laidKinds := [.data], laidTests := true, laidLooks := .later }
def HmacKeysUptoCardSaid : Prop := Claim7.holds Tryd.pinned (.plain (OpenSpec.upto hmacKeysSpec)) hmacKeysUptoCard

/-- THE SECOND FORM's CARD OF 'ferrybridgelaw04.HmacJoins'. -/
def hmacJoinsUptoCard : Claim7 := { stood := { row := hmacJoinsUptoRow, standIns := [], harness := (true, "d02351bdfb68998e4548e14ce83f809e88e358656765556b099e71af16663f10"), looks := false }, kinds := [], alts := [], laidByText := true, laidKinds := [.data], laidTests := true, laidLooks := .later }
def HmacJoinsUptoCardSaid : Prop := Claim7.holds Tryd.pinned (.plain (OpenSpec.upto hmacJoinsSpec)) hmacJoinsUptoCard

/-- THE SECOND FORM's CARD OF 'ferrybridgelaw04.HmacEmpty'. -/
def hmacEmptyUptoCard : Claim7 := { stood := { row := hmacEmptyUptoRow, standIns := [], harness := (true, "d02351bdfb68998e4548e14ce83f809e88e358656765556b099e71af16663f10"), looks := false }, kinds := [], alts := [], laidByText := true, laidKinds := [.data], laidTests := true, laidLooks := .later }
def HmacEmptyUptoCardSaid : Prop := Claim7.holds Tryd.pinned (.plain (OpenSpec.upto hmacEmptySpec)) hmacEmptyUptoCard
end Rows
end Go.Proofs.YtjjpflnnklealaaDoor
