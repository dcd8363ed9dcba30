import Derived.Test.YtfoglaajnlbnbaaGreatDoorG21Mk4
import Derived.Test.YtfoglaajnlbnbaaGreatDoorG40Xck
import Derived.Test.YtfoglaajnlbnbaaGreatDoorG28Ms5
namespace Go.Proofs.YtfoglaajnlbnbaaGreatDoor
open Go.RowKit Go.Maps
set_option maxRecDepth 20000
set_option linter.unusedVariables false

end Go.Proofs.YtfoglaajnlbnbaaGreatDoor

namespace Go.Proofs.YtfoglaajnlbnbaaGreatDoor
open Go.RowKit Go.Maps
set_option maxRecDepth 20000
set_option linter.unusedVariables false

end Go.Proofs.YtfoglaajnlbnbaaGreatDoor

namespace Go.Proofs.YtfoglaajnlbnbaaGreatDoor
open Go.ChangeShapes Go.WideShapes Go.ChangeAt Go.RowKit Go.Joins Go.Deep
set_option maxRecDepth 20000

end Go.Proofs.YtfoglaajnlbnbaaGreatDoor

