/- Contracts of the Go library (proved once, over any program) stated at this program's own numbers: each is one application. Conditions: as each states. -/
import Derived.Shelf.Lay
import Derived.Shelf.LaySoft

import Derived.Test.YtblfgnlelhjcnaaDoorProg
namespace Go.Proofs
open Go.Shelf
end Go.Proofs
