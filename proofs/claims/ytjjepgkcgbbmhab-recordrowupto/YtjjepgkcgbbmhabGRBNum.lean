import Derived.Test.YtjjepgkcgbbmhabGBText
namespace Go.Proofs.Ytjjepgkcgbbmhab
open Go.RowKit Go.Maps
set_option maxRecDepth 20000

end Go.Proofs.Ytjjepgkcgbbmhab

