import Derived.Test.YthlbmpmbbdaboabWr3
namespace Go.Proofs.Ythlbmpmbbdaboab
open Go.RowKit Go.Maps
set_option maxRecDepth 20000

end Go.Proofs.Ythlbmpmbbdaboab
