/- What the program's head lifts: asked of the program alone, once for all rows of the seat. -/
import Derived.Test.YtdbddockmdkmeaaDoorRows
import Derived.JoinedOf
import Derived.KernelRfl
namespace Go.Proofs.YtdbddockmdkmeaaDoor

theorem zLifts0 : (false == Tryd.pinned.checked.prog.liftsFinal) = true := by kernel_rfl
theorem zLifts {b : Bool} (h : b = false) : (b == Tryd.pinned.checked.prog.liftsFinal) = true := h ▸ zLifts0

end Go.Proofs.YtdbddockmdkmeaaDoor
