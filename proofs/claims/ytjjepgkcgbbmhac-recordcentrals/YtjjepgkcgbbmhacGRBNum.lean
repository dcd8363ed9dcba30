import Derived.Test.YtjjepgkcgbbmhacGBText
namespace Go.Proofs.Ytjjepgkcgbbmhac
open Go.RowKit Go.Maps
set_option maxRecDepth 20000

end Go.Proofs.Ytjjepgkcgbbmhac

