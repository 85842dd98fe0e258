/- A list that is not too large. -/
import Derived.Test.YtdbddockmdkmeaaDoorTs
import Derived.Test.YtdbddockmdkmeaaDoorSz
namespace Go.Proofs.YtdbddockmdkmeaaDoor
open Go.RowKit

theorem sizeLeft_len {l : List Seg} (h : ¬ sizeLeft l < 0) : l.length ≤ 1048576 := by
  unfold sizeLeft at h
  by_cases h1 : 1048576 - (l.length : Int) < 0
  · rw [if_pos h1] at h; omega
  · omega

end Go.Proofs.YtdbddockmdkmeaaDoor
