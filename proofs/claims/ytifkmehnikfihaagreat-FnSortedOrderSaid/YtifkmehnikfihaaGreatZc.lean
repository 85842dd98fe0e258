/- What the program's head lifts: asked of the program alone, once for all rows of the seat. -/
import Derived.Test.YtifkmehnikfihaaGreatRows
import Derived.JoinedOf
import Derived.KernelRfl
namespace Go.Proofs.YtifkmehnikfihaaGreat

theorem zLifts0 : (false == Tryz.pinned.checked.prog.liftsFinal) = true := by kernel_rfl
theorem zLifts {b : Bool} (h : b = false) : (b == Tryz.pinned.checked.prog.liftsFinal) = true := h ▸ zLifts0

end Go.Proofs.YtifkmehnikfihaaGreat
