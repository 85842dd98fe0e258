/- That the program may be entered: asked of the program alone, once for all rows of the seat. -/
import Derived.Test.YtjehklkndmdcaaaRows
import Derived.JoinedOf
import Derived.KernelRfl
namespace Go.Proofs.Ytjehklkndmdcaaa

theorem zMayEnter : Try.pinned.checked.prog.mayEnter = true := by kernel_rfl

end Go.Proofs.Ytjehklkndmdcaaa
