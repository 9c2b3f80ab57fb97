/- What the guard asks of koop and lane: single calls. -/
import Derived.Test.YtobkbbbdddllmaaBitsG
import Derived.Test.YtobkbbbdddllmaaZig
import Derived.Test.YtobkbbbdddllmaaKoop
import Derived.Test.YtobkbbbdddllmaaLane
namespace Go.Proofs.Ytobkbbbdddllmaa
open Go.RowKit

end Go.Proofs.Ytobkbbbdddllmaa
