import Derived.Test.YtjmjjjpanioifaaGBText
namespace Go.Proofs.Ytjmjjjpanioifaa
open Go.RowKit Go.Maps
set_option maxRecDepth 20000

end Go.Proofs.Ytjmjjjpanioifaa

