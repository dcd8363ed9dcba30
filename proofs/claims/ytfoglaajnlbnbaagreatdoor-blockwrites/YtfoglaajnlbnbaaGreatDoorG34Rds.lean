import Derived.Test.YtfoglaajnlbnbaaGreatDoorG33Xck
import Derived.Test.YtfoglaajnlbnbaaGreatDoorG27Vd2
import Derived.Test.YtfoglaajnlbnbaaGreatDoorG30HerdJ
namespace Go.Proofs.YtfoglaajnlbnbaaGreatDoor
open Go.RowKit Go.Maps
set_option maxRecDepth 20000

end Go.Proofs.YtfoglaajnlbnbaaGreatDoor

namespace Go.Proofs.YtfoglaajnlbnbaaGreatDoor
open Go.RowKit Go.Maps
set_option maxRecDepth 20000

end Go.Proofs.YtfoglaajnlbnbaaGreatDoor

namespace Go.Proofs.YtfoglaajnlbnbaaGreatDoor
open Go.RowKit Go.Maps
set_option maxRecDepth 20000

end Go.Proofs.YtfoglaajnlbnbaaGreatDoor

namespace Go.Proofs.YtfoglaajnlbnbaaGreatDoor
open Go.RowKit Go.Maps
set_option maxRecDepth 20000

structure It where
  kind : Int
  v : Int
  n : Int
  d : Value
  l : List Int

def wid (o : It) : Nat := (o.n % 33).toNat
def low (o : It) : Int := o.v % 2 ^ wid o

end Go.Proofs.YtfoglaajnlbnbaaGreatDoor

namespace Go.Proofs.YtfoglaajnlbnbaaGreatDoor
open Go.RowKit Go.Maps
set_option maxRecDepth 20000

end Go.Proofs.YtfoglaajnlbnbaaGreatDoor

namespace Go.Proofs.YtfoglaajnlbnbaaGreatDoor
open Go.RowKit Go.Maps
set_option maxRecDepth 20000

end Go.Proofs.YtfoglaajnlbnbaaGreatDoor

