import Derived.Test.YtfoglaajnlbnbaaGreatDoorG23Drr
import Derived.Deep.RegionLaw
namespace Go.Proofs.YtfoglaajnlbnbaaGreatDoor
open Go.RowKit Go.Maps
set_option maxRecDepth 20000

def dcE (l : List Int) : Int := if bkE l ≠ 0 then bkE l else if shp l = 0 then 53 else 0

end Go.Proofs.YtfoglaajnlbnbaaGreatDoor

