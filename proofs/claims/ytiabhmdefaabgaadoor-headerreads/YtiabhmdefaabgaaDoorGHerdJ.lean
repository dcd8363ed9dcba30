import Derived.Test.YtiabhmdefaabgaaDoorG3r
import Derived.Test.YtiabhmdefaabgaaDoorGWr5
namespace Go.Proofs.YtiabhmdefaabgaaDoor
open Go.RowKit Go.Maps
set_option maxRecDepth 20000

end Go.Proofs.YtiabhmdefaabgaaDoor

