/- The program's ParseNumbers. -/
import Derived.Test.YtdbddockmdkmeaaDoorHm
import Derived.Test.YtdbddockmdkmeaaDoorHq
import Derived.Test.YtdbddockmdkmeaaDoorMq
namespace Go.Proofs.YtdbddockmdkmeaaDoor
open Go.RowKit Go.Shelf

set_option maxRecDepth 100000 in
theorem splitSeq_any (t : ByteArray) (w : World) :
    Calls Tryd.prog 90 #[.string t, .string ⟨#[32]⟩] w fun e w' => e = .returned (.func (.func 114) #[] #[.pointer (some ⟨w.heap.size + 1, 0, none⟩), .pointer (some ⟨w.heap.size, 0, none⟩), .pointer (some ⟨w.heap.size + 2, 0, none⟩)]) ∧ w' = ((w.alloc (.cells #[.string t] 9)).alloc (.cells #[.string ⟨#[32]⟩] 9)).alloc (.cells #[.int .i64 0] 3) := by
  have HQ : Hid (Calls Tryd.prog 110 #[.string t, .string ⟨#[32]⟩, .int .i64 0] w fun e w' => e = .returned (.func (.func 114) #[] #[.pointer (some ⟨w.heap.size + 1, 0, none⟩), .pointer (some ⟨w.heap.size, 0, none⟩), .pointer (some ⟨w.heap.size + 2, 0, none⟩)]) ∧ w' = ((w.alloc (.cells #[.string t] 9)).alloc (.cells #[.string ⟨#[32]⟩] 9)).alloc (.cells #[.int .i64 0] 3)) := by
    show Calls _ _ _ _ _
    go_enter Tryd.func110, Tryd.ntmps110
    go_wp2
    go_ret
    exact ⟨by simp, rfl⟩
  go_enter Tryd.func90, Tryd.ntmps90
  go_wp2_with fail
  refine HQ.out.mono ?_
  rintro e w1 ⟨rfl, rfl⟩
  clear HQ
  go_wp2
  go_ret
  exact ⟨rfl, rfl⟩
theorem boxes_new12 (t : ByteArray) (w : World) : Boxes12 (((w.alloc (.cells #[.string t] 9)).alloc (.cells #[.string ⟨#[32]⟩] 9)).alloc (.cells #[.int .i64 0] 3)) w.heap.size t := by
  refine ⟨((Row.new w _ _).alloc _).alloc _, ?_, ?_⟩
  · have h := (Row.new (w.alloc (.cells #[.string t] 9)) 9 #[.string ⟨#[32]⟩]).alloc (.cells #[.int .i64 0] 3)
    simpa using h
  · have h := Row.new ((w.alloc (.cells #[.string t] 9)).alloc (.cells #[.string ⟨#[32]⟩] 9)) 3 #[.int .i64 0]
    simpa using h

end Go.Proofs.YtdbddockmdkmeaaDoor
