import Derived.Test.YtogplagiheoaiaaG00OpenA
namespace Go.Proofs.Ytogplagiheoaiaa
open Go.RowKit

end Go.Proofs.Ytogplagiheoaiaa

