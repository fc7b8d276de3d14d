/- Which run has a number; a set's Has, Next, Many, Runs. Conditions: the set stands; whole numbers of 64 bits. -/
import Derived.Test.YtgcblajhdebigaaSpI
namespace Go.Proofs.Ytgcblajhdebigaa
set_option linter.unusedVariables false
set_option linter.unusedSimpArgs false
open Go.RowKit Go.Lib

/-- Which run has n. -/
def AbR (l : List Rn) (n : Int) (r : Rn) (b : Bool) : Prop := (b = true ∧ r ∈ l ∧ r.1 ≤ n ∧ n < r.1 + r.2) ∨ (b = false ∧ ¬ Has l n)
def AbP (w : World) (l : List Rn) (n : Int) (e : Ending) (w' : World) : Prop := ∃ (r : Rn) (b : Bool), e = .returned (.tuple #[rg r, .bool b]) ∧ AbR l n r b ∧ Below w.heap.size w w'

end Go.Proofs.Ytgcblajhdebigaa
