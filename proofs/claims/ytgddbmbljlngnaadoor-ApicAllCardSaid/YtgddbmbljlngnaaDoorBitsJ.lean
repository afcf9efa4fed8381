/- The walk of corebellkeep.alive1: the document's example holds: it returns true. -/
import Derived.Test.YtgddbmbljlngnaaDoorBitsI
import Derived.Test.YtgddbmbljlngnaaDoorEq
namespace Go.Proofs.YtgddbmbljlngnaaDoor
open Go.RowKit





end Go.Proofs.YtgddbmbljlngnaaDoor
