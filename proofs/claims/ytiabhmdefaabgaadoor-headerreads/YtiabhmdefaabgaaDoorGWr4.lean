import Derived.Test.YtiabhmdefaabgaaDoorG3w
namespace Go.Proofs.YtiabhmdefaabgaaDoor
open Go.RowKit Go.Maps
set_option maxRecDepth 20000

end Go.Proofs.YtiabhmdefaabgaaDoor

