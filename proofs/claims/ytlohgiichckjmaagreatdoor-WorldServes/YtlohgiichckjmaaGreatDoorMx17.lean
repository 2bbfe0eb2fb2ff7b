/-
 Laid together: what the law asks of these.
-/
import Derived.Deep.RegionHeld3
import Derived.Deep.DeepCutAuto
import Derived.Below
import Derived.Shelf.Abstract
import Derived.Test.YtlohgiichckjmaaGreatDoorMx00
namespace Go.Proofs.YtlohgiichckjmaaGreatDoor.Vi
set_option maxHeartbeats 16000000
set_option maxRecDepth 100000
open Go.RowKit Go.Shelf
end Go.Proofs.YtlohgiichckjmaaGreatDoor.Vi
