/- Joined: Fh. -/
import Derived.Test.YtbmfbnlmdjnddaaU21
/- The reference's reader of calls. -/
namespace Go.Proofs.Ytbmfbnlmdjnddaa
open Go.RowKit

theorem IsKids.set2 {w W8 : World} {b : Nat} {u1 u2 : Value} {v : Value} {k : Forest} {o : Option Nat} (h : IsKids W8 (fun q => w.heap.size ≤ q ∧ q < W8.heap.size ∧ o ≠ some q) k v) (hb : b < w.heap.size) :
    IsKids ((W8.drew.setCell ⟨b, 2, none⟩ u1).setCell ⟨b, 1, none⟩ u2) (fun q => w.heap.size ≤ q ∧ q < ((W8.drew.setCell ⟨b, 2, none⟩ u1).setCell ⟨b, 1, none⟩ u2).heap.size ∧ o ≠ some q) k v := by
  refine h.keep fun q hq => ⟨⟨hq.1, by rw [size_set, size_set]; exact hq.2.1, hq.2.2⟩, ?_⟩
  exact (Below.heap_setCell _ ⟨b, 1, none⟩ _ q (by show q ≠ b; omega)).trans (Below.heap_setCell W8.drew ⟨b, 2, none⟩ _ q (by show q ≠ b; omega))

end Go.Proofs.Ytbmfbnlmdjnddaa
