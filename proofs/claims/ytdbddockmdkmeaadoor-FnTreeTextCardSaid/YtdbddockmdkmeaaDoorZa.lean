/- How the program was made: asked of the program alone, once for all rows of the seat. -/
import Derived.Test.YtdbddockmdkmeaaDoorRows
import Derived.JoinedOf
import Derived.KernelRfl
namespace Go.Proofs.YtdbddockmdkmeaaDoor

theorem zMake0 : (Tryd.pinned.checked.prog.make == some Make.cut) = true := by kernel_rfl
theorem zMake {m : Make} (h : m = Make.cut) : (Tryd.pinned.checked.prog.make == some m) = true := h ▸ zMake0

end Go.Proofs.YtdbddockmdkmeaaDoor
