/- The program's rooms: where segments begin and end, the whole room, what is saved. -/
import Derived.Test.YtadichddgpojpaaDoorPc
import Derived.Test.YtadichddgpojpaaDoorVa
namespace Go.Proofs.YtadichddgpojpaaDoor
open Go.RowKit

/-- Of two the one that ends later, the first if neither does. -/
def laterOf (l : List Seg) (i j : Nat) : Nat := if endAt l i < endAt l j then j else i

end Go.Proofs.YtadichddgpojpaaDoor
