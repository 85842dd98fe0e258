/- That the program may be entered: asked of the program alone, once for all rows of the seat. -/
import Derived.Test.YtdbddockmdkmeaaDoorRows
import Derived.JoinedOf
import Derived.KernelRfl
namespace Go.Proofs.YtdbddockmdkmeaaDoor

theorem zMayEnter : Tryd.pinned.checked.prog.mayEnter = true := by kernel_rfl

end Go.Proofs.YtdbddockmdkmeaaDoor
