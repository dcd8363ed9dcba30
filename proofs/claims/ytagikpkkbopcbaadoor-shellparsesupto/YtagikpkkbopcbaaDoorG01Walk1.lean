import Derived.Test.YtagikpkkbopcbaaDoorG00Base
namespace Go.Proofs.YtagikpkkbopcbaaDoor
open Go.RowKit

end Go.Proofs.YtagikpkkbopcbaaDoor

