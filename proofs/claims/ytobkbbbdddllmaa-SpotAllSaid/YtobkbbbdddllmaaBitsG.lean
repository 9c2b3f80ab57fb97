/- Package bits: Get. -/
import Derived.Test.YtobkbbbdddllmaaBitsB
namespace Go.Proofs.Ytobkbbbdddllmaa
open Go.RowKit

end Go.Proofs.Ytobkbbbdddllmaa
