import Derived.Test.YtjjepgkcgbbmhaaGBText
namespace Go.Proofs.Ytjjepgkcgbbmhaa
open Go.RowKit Go.Maps
set_option maxRecDepth 20000

end Go.Proofs.Ytjjepgkcgbbmhaa

