/- Steps of a region that draws its order (they lie in Unt). No condition. -/
import Derived.Test.YtiehngeeamhlmaaGreatDoorMg2
import Derived.Test.YtiehngeeamhlmaaGreatDoorMg4
import Derived.Deep.RegionHeld3
namespace Go.Proofs.YtiehngeeamhlmaaGreatDoor
set_option linter.unusedVariables false
set_option linter.unusedSimpArgs false
end Go.Proofs.YtiehngeeamhlmaaGreatDoor
