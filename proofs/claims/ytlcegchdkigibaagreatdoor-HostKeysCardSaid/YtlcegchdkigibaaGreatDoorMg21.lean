/- Steps of a region that draws its order (they lie in Unt). No condition. -/
import Derived.Test.YtlcegchdkigibaaGreatDoorMg2
import Derived.Test.YtlcegchdkigibaaGreatDoorMg13
import Derived.Deep.RegionHeld3
namespace Go.Proofs.YtlcegchdkigibaaGreatDoor
set_option linter.unusedVariables false
set_option linter.unusedSimpArgs false
end Go.Proofs.YtlcegchdkigibaaGreatDoor
