import Derived.Test.YthlbmpmbbdaboabXw
namespace Go.Proofs.Ythlbmpmbbdaboab
open Go.RowKit Go.Maps
set_option maxRecDepth 20000

end Go.Proofs.Ythlbmpmbbdaboab
