import Derived.Test.YtpmgnpfpnkmmbaaGreatDoorG23Sm3
namespace Go.Proofs.YtpmgnpfpnkmmbaaGreatDoor
open Go.RowKit Go.Maps
set_option maxRecDepth 20000
set_option linter.unusedVariables false

end Go.Proofs.YtpmgnpfpnkmmbaaGreatDoor

