/- How the program was made: asked of the program alone, once for all rows of the seat. -/
import Derived.Test.YtifkmehnikfihaaGreatRows
import Derived.JoinedOf
import Derived.KernelRfl
namespace Go.Proofs.YtifkmehnikfihaaGreat

theorem zMake0 : (Tryz.pinned.checked.prog.make == some Make.cut) = true := by kernel_rfl
theorem zMake {m : Make} (h : m = Make.cut) : (Tryz.pinned.checked.prog.make == some m) = true := h ▸ zMake0

end Go.Proofs.YtifkmehnikfihaaGreat
