/- A list that is not too large. -/
import Derived.Test.YtadichddgpojpaaDoorTs
import Derived.Test.YtadichddgpojpaaDoorSz
namespace Go.Proofs.YtadichddgpojpaaDoor
open Go.RowKit

theorem sizeLeft_len {l : List Seg} (h : ¬ sizeLeft l < 0) : l.length ≤ 1048576 := by
  unfold sizeLeft at h
  by_cases h1 : 1048576 - (l.length : Int) < 0
  · rw [if_pos h1] at h; omega
  · omega

end Go.Proofs.YtadichddgpojpaaDoor
