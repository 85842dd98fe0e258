/- Joined: Bg It Bq. -/
import Derived.Test.YtnknfpfpjijemaaU18
import Derived.Test.YtnknfpfpjijemaaU19
import Derived.Test.YtnknfpfpjijemaaU21
import Derived.Test.YtnknfpfpjijemaaU17
import Derived.Test.YtnknfpfpjijemaaSh
import Derived.Lib.SlKept
import Derived.Lib.SliceRun
import Derived.Lib.OwnBridge
import Derived.Sort.OwnSorted
import Derived.Sort.Grow
import Derived.Shelf.SlIter.Nil
import Derived.Shelf.SortM.Plain
import Derived.Shelf.SortM.SortNone
import Derived.Ground.GgzProg
import Derived.Ground.SlgmProg
import Derived.Test.YtnknfpfpjijemaaProg
import Derived.Maps.OwnIn
import Derived.Maps.Views
import Derived.Sort.KeysCollected
import Derived.StringKeys
/- UnsafeChains and IsSafe on both sides. -/
namespace Go.Proofs.Ytnknfpfpjijemaa
open Go.RowKit Go.Shelf

/-- The chains of a trace, none if it is no trace. -/
def xsRes (l : List Seg) (t : ByteArray) : List Txt := match traceB l t.data.toList with
  | none => []
  | some f => chainsB [rootB l] f
theorem chainsRes_xs (l : List Seg) (t : ByteArray) : chainsRes l t = (xsRes l t).map strOf := by
  unfold chainsRes xsRes
  cases traceB l t.data.toList with
  | none => rfl
  | some f => rfl
theorem xsRes_two {l : List Seg} {t : ByteArray} : ∀ x ∈ xsRes l t, (∃ y u v, x = y ++ [u, v]) ∧ x.length ≤ 9 := by
  unfold xsRes
  cases hR : traceB l t.data.toList with
  | none => intro x hx; cases hx
  | some f =>
    intro x hx
    obtain ⟨⟨y, u, v, e, _⟩, h9⟩ := trace_two hR x hx
    exact ⟨⟨y, u, v, e⟩, h9⟩
theorem xsRes_len (l : List Seg) (t : ByteArray) : (xsRes l t).length ≤ 80 := by
  unfold xsRes
  cases hR : traceB l t.data.toList with
  | none => exact Nat.zero_le _
  | some f =>
    show (chainsB [rootB l] f).length ≤ 80
    rw [chainsB_len]
    exact (traceB_size hR).1
def apartB (l : List Seg) (x : Txt) : Bool := !liesB l (strOf x)
def unsafeRes (l : List Seg) (t : ByteArray) : List ByteArray := (putAll [] ((xsRes l t).filter (apartB l))).map strOf
def UnsafePost (w : World) (l : List Seg) (t : ByteArray) (e : Ending) (w' : World) : Prop :=
  ∃ v, e = .returned (.tuple #[v, .bool (traceB l t.data.toList).isSome]) ∧ OwnTexts w' w.heap.size v (unsafeRes l t) ∧ Below w.heap.size w w'
theorem filter_take {p : Txt → Bool} {xs : List Txt} {k : Nat} (hk : k < xs.length) : (xs.take (k + 1)).filter p = (xs.take k).filter p ++ if p xs[k] = true then [xs[k]] else [] := by
  rw [List.take_succ_eq_append_getElem hk, List.filter_append]
  congr 1
  by_cases h : p xs[k] = true <;> simp [h]

end Go.Proofs.Ytnknfpfpjijemaa
/- The library's contracts on a map's keys, sorted, at this translation. -/
namespace Go.Proofs
open Go.Shelf
def Try.keys80_ren : Go.Shelf.Ren := ⟨fun | 7 => 80 | 10 => 98 | n => n, fun | 23 => 57 | 26 => 9 | 3 => 4 | 28 => 97 | 0 => 0 | 27 => 96 | 33 => 84 | 4 => 4 | n => n, fun | n => n⟩
theorem Try.keys80 : Go.Proofs.SlLaysZ.n7 Try.prog Try.keys80_ren := {
  mixed := by kernel_rfl
  f7 := ⟨Try.f80.name, by decide, Try.func80.trans (congrArg some (by kernel_rfl))⟩
  f10 := ⟨Try.f98.name, by decide, Try.func98.trans (congrArg some (by kernel_rfl))⟩
  t0 := Try.underlying0
  a0 := Try.isAgg0
  z0 := Try.sizeOf0
  v0 := Try.zeroValue0
  t4 := Try.underlying4
  a4 := Try.isAgg4
  z4 := Try.sizeOf4
  v4 := Try.zeroValue4
  t23 := Try.underlying57
  a23 := Try.isAgg57
  z23 := Try.sizeOf57
  v23 := Try.zeroValue57
  t26 := Try.underlying9
  a26 := Try.isAgg9
  z26 := Try.sizeOf9
  v26 := Try.zeroValue9
  t27 := Try.underlying96
  a27 := Try.isAgg96
  z27 := Try.sizeOf96
  v27 := Try.zeroValue96
  t28 := Try.underlying97
  a28 := Try.isAgg97
  z28 := Try.sizeOf97
  v28 := Try.zeroValue97
  t33 := Try.underlying84
  a33 := Try.isAgg84
  z33 := Try.sizeOf84
  v33 := Try.zeroValue84 }
def Try.sorted79_ren : Go.Shelf.Ren := ⟨fun | 6 => 79 | 8 => 96 | 9 => 97 | 11 => 114 | 13 => 116 | 12 => 115 | 23 => 134 | 24 => 135 | 14 => 125 | 15 => 126 | 16 => 127 | 17 => 128 | 18 => 129 | 19 => 130 | 20 => 131 | 21 => 132 | 22 => 133 | 25 => 140 | 26 => 141 | 27 => 142 | 28 => 143 | 29 => 144 | 30 => 145 | 31 => 149 | n => n, fun | 26 => 9 | 28 => 97 | 24 => 24 | 0 => 0 | 3 => 3 | 37 => 147 | 48 => 172 | 50 => 174 | 4 => 4 | 40 => 165 | 39 => 164 | 45 => 169 | 5 => 5 | 9 => 9 | 51 => 180 | 55 => 184 | 57 => 193 | 58 => 194 | 33 => 84 | n => n, fun | n => n⟩
theorem Try.sorted79 : Go.Proofs.SlLaysZ.n6 Try.prog Try.sorted79_ren := {
  mixed := by kernel_rfl
  f6 := ⟨Try.f79.name, by decide, Try.func79.trans (congrArg some (by kernel_rfl))⟩
  f8 := ⟨Try.f96.name, by decide, Try.func96.trans (congrArg some (by kernel_rfl))⟩
  f11 := ⟨Try.f114.name, by decide, Try.func114.trans (congrArg some (by kernel_rfl))⟩
  t0 := Try.underlying0
  a0 := Try.isAgg0
  z0 := Try.sizeOf0
  v0 := Try.zeroValue0
  t24 := Try.underlying24
  a24 := Try.isAgg24
  z24 := Try.sizeOf24
  v24 := Try.zeroValue24
  t26 := Try.underlying9
  a26 := Try.isAgg9
  z26 := Try.sizeOf9
  v26 := Try.zeroValue9
  t28 := Try.underlying97
  a28 := Try.isAgg97
  z28 := Try.sizeOf97
  v28 := Try.zeroValue97
  i26 := by kernel_rfl }
def Try.sort97_ren : Go.Shelf.Ren := ⟨fun | 6 => 97 | 8 => 116 | 9 => 115 | 19 => 134 | 20 => 135 | 21 => 125 | 22 => 126 | 23 => 127 | 24 => 128 | 25 => 129 | 26 => 130 | 27 => 131 | 28 => 132 | 29 => 133 | 36 => 140 | 31 => 141 | 32 => 142 | 37 => 143 | 38 => 144 | 39 => 145 | 41 => 149 | n => n, fun | 27 => 24 | 29 => 9 | 3 => 3 | 32 => 147 | 26 => 24 | 0 => 0 | 44 => 172 | 46 => 174 | 4 => 4 | 36 => 165 | 35 => 164 | 41 => 169 | 5 => 5 | 9 => 9 | 53 => 180 | 57 => 184 | 63 => 193 | 64 => 194 | n => n, fun | n => n⟩
theorem Try.sort97 : Go.Proofs.SlLaysM.n6 Try.prog Try.sort97_ren := {
  mixed := by kernel_rfl
  f6 := ⟨Try.f97.name, by decide, Try.func97.trans (congrArg some (by kernel_rfl))⟩
  f8 := Try.func116.trans (congrArg some (by kernel_rfl))
  f9 := ⟨Try.f115.name, by decide, Try.func115.trans (congrArg some (by kernel_rfl))⟩
  f19 := Try.func134.trans (congrArg some (by kernel_rfl))
  f20 := Try.func135.trans (congrArg some (by kernel_rfl))
  f21 := ⟨Try.f125.name, by decide, Try.func125.trans (congrArg some (by kernel_rfl))⟩
  f22 := ⟨Try.f126.name, by decide, Try.func126.trans (congrArg some (by kernel_rfl))⟩
  f23 := ⟨Try.f127.name, by decide, Try.func127.trans (congrArg some (by kernel_rfl))⟩
  f24 := ⟨Try.f128.name, by decide, Try.func128.trans (congrArg some (by kernel_rfl))⟩
  f25 := ⟨Try.f129.name, by decide, Try.func129.trans (congrArg some (by kernel_rfl))⟩
  f26 := ⟨Try.f130.name, by decide, Try.func130.trans (congrArg some (by kernel_rfl))⟩
  f27 := ⟨Try.f131.name, by decide, Try.func131.trans (congrArg some (by kernel_rfl))⟩
  f28 := ⟨Try.f132.name, by decide, Try.func132.trans (congrArg some (by kernel_rfl))⟩
  f29 := ⟨Try.f133.name, by decide, Try.func133.trans (congrArg some (by kernel_rfl))⟩
  f31 := Try.func141.trans (congrArg some (by kernel_rfl))
  f32 := Try.func142.trans (congrArg some (by kernel_rfl))
  f36 := ⟨Try.f140.name, by decide, Try.func140.trans (congrArg some (by kernel_rfl))⟩
  f37 := ⟨Try.f143.name, by decide, Try.func143.trans (congrArg some (by kernel_rfl))⟩
  f38 := ⟨Try.f144.name, by decide, Try.func144.trans (congrArg some (by kernel_rfl))⟩
  f39 := ⟨Try.f145.name, by decide, Try.func145.trans (congrArg some (by kernel_rfl))⟩
  f41 := ⟨Try.f149.name, by decide, Try.func149.trans (congrArg some (by kernel_rfl))⟩
  t0 := Try.underlying0
  a0 := Try.isAgg0
  z0 := Try.sizeOf0
  v0 := Try.zeroValue0
  t3 := Try.underlying3
  a3 := Try.isAgg3
  z3 := Try.sizeOf3
  v3 := Try.zeroValue3
  t4 := Try.underlying4
  a4 := Try.isAgg4
  z4 := Try.sizeOf4
  v4 := Try.zeroValue4
  t5 := Try.underlying5
  a5 := Try.isAgg5
  z5 := Try.sizeOf5
  v5 := Try.zeroValue5
  t9 := Try.underlying9
  a9 := Try.isAgg9
  z9 := Try.sizeOf9
  v9 := Try.zeroValue9
  t26 := Try.underlying24
  a26 := Try.isAgg24
  z26 := Try.sizeOf24
  v26 := Try.zeroValue24
  t27 := Try.underlying24
  a27 := Try.isAgg24
  z27 := Try.sizeOf24
  v27 := Try.zeroValue24
  t29 := Try.underlying9
  a29 := Try.isAgg9
  z29 := Try.sizeOf9
  v29 := Try.zeroValue9
  t32 := Try.underlying147
  a32 := Try.isAgg147
  z32 := Try.sizeOf147
  v32 := Try.zeroValue147
  t35 := Try.underlying164
  a35 := Try.isAgg164
  z35 := Try.sizeOf164
  v35 := Try.zeroValue164
  t36 := Try.underlying165
  a36 := Try.isAgg165
  z36 := Try.sizeOf165
  v36 := Try.zeroValue165
  t41 := Try.underlying169
  a41 := Try.isAgg169
  z41 := Try.sizeOf169
  v41 := Try.zeroValue169
  t44 := Try.underlying172
  a44 := Try.isAgg172
  z44 := Try.sizeOf172
  v44 := Try.zeroValue172
  t46 := Try.underlying174
  a46 := Try.isAgg174
  z46 := Try.sizeOf174
  v46 := Try.zeroValue174
  t53 := Try.underlying180
  a53 := Try.isAgg180
  z53 := Try.sizeOf180
  v53 := Try.zeroValue180
  t57 := Try.underlying184
  a57 := Try.isAgg184
  z57 := Try.sizeOf184
  v57 := Try.zeroValue184
  t63 := Try.underlying193
  a63 := Try.isAgg193
  z63 := Try.sizeOf193
  v63 := Try.zeroValue193
  t64 := Try.underlying194
  a64 := Try.isAgg194
  z64 := Try.sizeOf194
  v64 := Try.zeroValue194 }
set_option maxHeartbeats 1000000 in
open Go.RowKit Go.Maps Go.Sort in
theorem Try.sorts79 (m : Nat) : AnyZ.SortsIn Try.prog Try.sorted79_ren Fence.wide m :=
  ⟨fun blk off cap ss W hH hblk hsz => callsIn_wide.2 (AnyM.slices_Sort_string Try.sort97 blk off cap ss W hH hblk hsz),
   fun p cap W => callsIn_wide.2 (AnyM.slices_Sort_string_none Try.sort97 p cap W)⟩
set_option maxHeartbeats 1000000 in
open Go.RowKit Go.Maps Go.Sort in
theorem Try.maps_Keys_80 (mb : Option Nat) (W : World) : CallsIn Fence.wide 5 Try.prog 80 #[.map mb] W fun e w' => e = .returned (.func (.func 98) #[] #[.pointer (some ⟨W.heap.size, 0, none⟩)]) ∧ w' = W.alloc (.cells #[.map mb] 57) :=
  AnyZ.keys_in Try.keys80 Fence.wide 5 trivial rfl mb W
set_option maxHeartbeats 1000000 in
open Go.RowKit Go.Maps Go.Sort in
theorem Try.slices_Sorted_keys_79_80 {H : Type} (b nn : Nat) (D0 : DataW H) (R : Value → Option (DataW H × List MemPlace)) (w : World) (hown : w.ownsMap Try.prog 9 R b nn D0) (hmax : Maps.size D0 ≤ maxLen) (hbytes : Maps.size D0 * 16 ≤ 140737488355328) :
    CallsIn Fence.wide 5 Try.prog 79 #[.func (.func 98) #[] #[.pointer (some ⟨w.heap.size, 0, none⟩)]] (w.alloc (.cells #[.map (some b)] 57)) fun e w' => ∃ (v : Value) (ss : List (List UInt8)), e = .returned v ∧ ss.Perm (strKeys D0) ∧
      w'.ownsRow (w.alloc (.cells #[.map (some b)] 57)).heap.size 9 1 v ss.length ((ss.mergeSort (fun x y => decide (x ≤ y))).map encStr) ∧ (v = .slice none 0 0 ↔ ss = []) ∧ Below (w.alloc (.cells #[.map (some b)] 57)).heap.size (w.alloc (.cells #[.map (some b)] 57)) w' := by
  have hbl := hown.lt
  have hseq : SeqGives Fence.wide 2 Try.prog 98 #[.pointer (some ⟨w.heap.size, 0, none⟩)] encStr (fun ss => ss.Perm (strKeys D0)) (Maps.size D0) (w.alloc (.cells #[.map (some b)] 57)) :=
    AnyZ.keys_gives (ρ := Try.keys80_ren) { Try.keys80 with } Fence.wide _ trivial rfl (by omega) w.heap.size b nn D0 _ (by simp) (by simp) (by
      obtain ⟨es, clock, hb, Ft, hs, hD⟩ := hown
      exact ⟨es, clock, (Below.heap_alloc _ _ b hbl).trans hb, Ft, hs, hD⟩)
  exact AnyZ.sorted_in Try.sorted79 Fence.wide 5 trivial trivial trivial trivial rfl (by omega) (Try.sorts79 _) (enters_of Try.func97 (by kernel_rfl) rfl) 98 #[.pointer (some ⟨w.heap.size, 0, none⟩)] trivial (enters_of Try.func98 (by kernel_rfl) rfl) _ _ hmax hbytes _ hseq
set_option maxHeartbeats 1000000 in
open Go.RowKit Go.Maps Go.Sort in
theorem Try.slices_Sorted_keys_nil_79_80 (w : World) :
    CallsIn Fence.wide 5 Try.prog 79 #[.func (.func 98) #[] #[.pointer (some ⟨w.heap.size, 0, none⟩)]] (w.alloc (.cells #[.map none] 57)) fun e w' => ∃ (v : Value) (ss : List (List UInt8)), e = .returned v ∧ ss = [] ∧
      w'.ownsRow (w.alloc (.cells #[.map none] 57)).heap.size 9 1 v ss.length ((ss.mergeSort (fun x y => decide (x ≤ y))).map encStr) ∧ (v = .slice none 0 0 ↔ ss = []) ∧ Below (w.alloc (.cells #[.map none] 57)).heap.size (w.alloc (.cells #[.map none] 57)) w' := by
  have hseq : SeqGives Fence.wide 2 Try.prog 98 #[.pointer (some ⟨w.heap.size, 0, none⟩)] encStr (fun ss : List (List UInt8) => ss = []) 0 (w.alloc (.cells #[.map none] 57)) :=
    AnyZ.keys_gives_nil (ρ := Try.keys80_ren) { Try.keys80 with } Fence.wide _ trivial rfl w.heap.size _ (by simp) (by simp)
  exact AnyZ.sorted_in Try.sorted79 Fence.wide 5 trivial trivial trivial trivial rfl (by omega) (Try.sorts79 _) (enters_of Try.func97 (by kernel_rfl) rfl) 98 #[.pointer (some ⟨w.heap.size, 0, none⟩)] trivial (enters_of Try.func98 (by kernel_rfl) rfl) _ 0 (Nat.zero_le _) (by omega) _ hseq
def Try.keys88_ren : Go.Shelf.Ren := ⟨fun | 7 => 88 | 10 => 111 | n => n, fun | 23 => 56 | 26 => 9 | 3 => 4 | 28 => 97 | 0 => 0 | 27 => 96 | 33 => 84 | 4 => 4 | n => n, fun | n => n⟩
theorem Try.keys88 : Go.Proofs.SlLaysZ.n7 Try.prog Try.keys88_ren := {
  mixed := by kernel_rfl
  f7 := ⟨Try.f88.name, by decide, Try.func88.trans (congrArg some (by kernel_rfl))⟩
  f10 := ⟨Try.f111.name, by decide, Try.func111.trans (congrArg some (by kernel_rfl))⟩
  t0 := Try.underlying0
  a0 := Try.isAgg0
  z0 := Try.sizeOf0
  v0 := Try.zeroValue0
  t4 := Try.underlying4
  a4 := Try.isAgg4
  z4 := Try.sizeOf4
  v4 := Try.zeroValue4
  t23 := Try.underlying56
  a23 := Try.isAgg56
  z23 := Try.sizeOf56
  v23 := Try.zeroValue56
  t26 := Try.underlying9
  a26 := Try.isAgg9
  z26 := Try.sizeOf9
  v26 := Try.zeroValue9
  t27 := Try.underlying96
  a27 := Try.isAgg96
  z27 := Try.sizeOf96
  v27 := Try.zeroValue96
  t28 := Try.underlying97
  a28 := Try.isAgg97
  z28 := Try.sizeOf97
  v28 := Try.zeroValue97
  t33 := Try.underlying84
  a33 := Try.isAgg84
  z33 := Try.sizeOf84
  v33 := Try.zeroValue84 }
set_option maxHeartbeats 1000000 in
open Go.RowKit Go.Maps Go.Sort in
theorem Try.maps_Keys_88 (mb : Option Nat) (W : World) : CallsIn Fence.wide 5 Try.prog 88 #[.map mb] W fun e w' => e = .returned (.func (.func 111) #[] #[.pointer (some ⟨W.heap.size, 0, none⟩)]) ∧ w' = W.alloc (.cells #[.map mb] 56) :=
  AnyZ.keys_in Try.keys88 Fence.wide 5 trivial rfl mb W
set_option maxHeartbeats 1000000 in
open Go.RowKit Go.Maps Go.Sort in
theorem Try.slices_Sorted_keys_79_88 {H : Type} (b nn : Nat) (D0 : DataW H) (R : Value → Option (DataW H × List MemPlace)) (w : World) (hown : w.ownsMap Try.prog 9 R b nn D0) (hmax : Maps.size D0 ≤ maxLen) (hbytes : Maps.size D0 * 16 ≤ 140737488355328) :
    CallsIn Fence.wide 5 Try.prog 79 #[.func (.func 111) #[] #[.pointer (some ⟨w.heap.size, 0, none⟩)]] (w.alloc (.cells #[.map (some b)] 56)) fun e w' => ∃ (v : Value) (ss : List (List UInt8)), e = .returned v ∧ ss.Perm (strKeys D0) ∧
      w'.ownsRow (w.alloc (.cells #[.map (some b)] 56)).heap.size 9 1 v ss.length ((ss.mergeSort (fun x y => decide (x ≤ y))).map encStr) ∧ (v = .slice none 0 0 ↔ ss = []) ∧ Below (w.alloc (.cells #[.map (some b)] 56)).heap.size (w.alloc (.cells #[.map (some b)] 56)) w' := by
  have hbl := hown.lt
  have hseq : SeqGives Fence.wide 2 Try.prog 111 #[.pointer (some ⟨w.heap.size, 0, none⟩)] encStr (fun ss => ss.Perm (strKeys D0)) (Maps.size D0) (w.alloc (.cells #[.map (some b)] 56)) :=
    AnyZ.keys_gives (ρ := Try.keys88_ren) { Try.keys88 with } Fence.wide _ trivial rfl (by omega) w.heap.size b nn D0 _ (by simp) (by simp) (by
      obtain ⟨es, clock, hb, Ft, hs, hD⟩ := hown
      exact ⟨es, clock, (Below.heap_alloc _ _ b hbl).trans hb, Ft, hs, hD⟩)
  exact AnyZ.sorted_in Try.sorted79 Fence.wide 5 trivial trivial trivial trivial rfl (by omega) (Try.sorts79 _) (enters_of Try.func97 (by kernel_rfl) rfl) 111 #[.pointer (some ⟨w.heap.size, 0, none⟩)] trivial (enters_of Try.func111 (by kernel_rfl) rfl) _ _ hmax hbytes _ hseq
set_option maxHeartbeats 1000000 in
open Go.RowKit Go.Maps Go.Sort in
theorem Try.slices_Sorted_keys_nil_79_88 (w : World) :
    CallsIn Fence.wide 5 Try.prog 79 #[.func (.func 111) #[] #[.pointer (some ⟨w.heap.size, 0, none⟩)]] (w.alloc (.cells #[.map none] 56)) fun e w' => ∃ (v : Value) (ss : List (List UInt8)), e = .returned v ∧ ss = [] ∧
      w'.ownsRow (w.alloc (.cells #[.map none] 56)).heap.size 9 1 v ss.length ((ss.mergeSort (fun x y => decide (x ≤ y))).map encStr) ∧ (v = .slice none 0 0 ↔ ss = []) ∧ Below (w.alloc (.cells #[.map none] 56)).heap.size (w.alloc (.cells #[.map none] 56)) w' := by
  have hseq : SeqGives Fence.wide 2 Try.prog 111 #[.pointer (some ⟨w.heap.size, 0, none⟩)] encStr (fun ss : List (List UInt8) => ss = []) 0 (w.alloc (.cells #[.map none] 56)) :=
    AnyZ.keys_gives_nil (ρ := Try.keys88_ren) { Try.keys88 with } Fence.wide _ trivial rfl w.heap.size _ (by simp) (by simp)
  exact AnyZ.sorted_in Try.sorted79 Fence.wide 5 trivial trivial trivial trivial rfl (by omega) (Try.sorts79 _) (enters_of Try.func97 (by kernel_rfl) rfl) 111 #[.pointer (some ⟨w.heap.size, 0, none⟩)] trivial (enters_of Try.func111 (by kernel_rfl) rfl) _ 0 (Nat.zero_le _) (by omega) _ hseq
end Go.Proofs
/- PairsOf on both sides. -/
namespace Go.Proofs.Ytnknfpfpjijemaa
open Go.RowKit Go.Shelf

/-- The last call of a chain: who calls and who is called. -/
def twoB (x : Txt) : Txt := [penB x, lastB x]
theorem twoB_snoc (y : Txt) (u v : UInt8) : twoB (y ++ [u, v]) = [u, v] := by
  unfold twoB
  rw [(ends_of y u v).1, (ends_of y u v).2]
theorem str_two (y : Txt) (u v : UInt8) : (strOf (y ++ [u, v])).extract ((strOf (y ++ [u, v])).size - 2) (strOf (y ++ [u, v])).size = strOf (twoB (y ++ [u, v])) := by
  have hs : (strOf (y ++ [u, v])).size = y.length + 2 := by rw [str_size]; simp
  rw [hs, twoB_snoc]
  apply ByteArray.ext
  rw [ByteArray.data_extract]
  apply Array.ext'
  simp [strOf]
def pairsRes (l : List Seg) (t : ByteArray) : List ByteArray := (putAll [] ((xsRes l t).map twoB)).map strOf
def PairsPost (w : World) (l : List Seg) (t : ByteArray) (e : Ending) (w' : World) : Prop :=
  ∃ v, e = .returned (.tuple #[v, .bool (traceB l t.data.toList).isSome]) ∧ OwnTexts w' w.heap.size v (pairsRes l t) ∧ Below w.heap.size w w'

set_option maxRecDepth 100000 in
set_option maxHeartbeats 2000000 in
theorem specPairsOf_any (A : Option Addr) (l : List Seg) (c : Nat) (t : ByteArray) (w : World) (hw : Segs w w.heap.size A l) (hl : l.length ≤ 1048576) (hn : Short l) (ht : t.size ≤ 1048576) :
    Calls Try.prog 61 #[.slice A l.length c, .string t] w (PairsPost w l t) := by
  have HW : Hid (Segs w w.heap.size A l) := hw
  have HB0 : Hid (Below w.heap.size w (w.alloc (.cells #[] 9))) := (Below.refl _ w).alloc (Nat.le_refl _) _
  have HQ := Lib.hid (specChainsOf_any A l c t (w.alloc (.cells #[] 9)) ((hw.below HB0.out).more HB0.out.size) hl hn ht)
  unfold ChainsResPost at HQ
  rw [chainsRes_xs] at HQ
  unfold PairsPost pairsRes
  have HA := Lib.hid (xsRes_two (l := l) (t := t))
  have hx80 := xsRes_len l t
  have HS0 : Hid (SolidTexts (w.alloc (.cells #[] 9)) w.heap.size (.slice (some ⟨w.heap.size, 0, none⟩) 0 0) []) := ⟨OwnTexts.empty w (Nat.le_refl _), fun h => by cases h⟩
  clear hw hn
  generalize xsRes l t = xs at *
  generalize (traceB l t.data.toList).isSome = d at *
  have HTS : Hid ((xs.map strOf).length = xs.length) := List.length_map _
  have HC : Hid (∀ k (hk : k < xs.length), (xs.map strOf)[k]? = some (strOf xs[k])) := fun k hk => by rw [List.getElem?_map, List.getElem?_eq_getElem hk]; rfl
  have HPL : Hid (∀ k, (putAll [] ((xs.take k).map twoB)).length ≤ 200) := fun k => by
    have h1 := putAll_len ((xs.take k).map twoB) []
    have h2 : ((xs.take k).map twoB).length ≤ xs.length := by rw [List.length_map, List.length_take]; omega
    simp only [List.length_nil] at h1
    omega
  generalize xs.map strOf = ts at *
  have htl : ts.length ≤ 80 := by rw [HTS.out]; exact hx80
  go_enter Try.func61, Try.ntmps61
  go_wp2_with fail
  refine Calls.mono HQ.out ?_
  rintro e w2 ⟨v, rfl, ho, hb⟩
  obtain ⟨A2, cap2, rfl, -⟩ := St.textsForm ho
  have HB : Hid (Below w.heap.size w w2) := HB0.out.trans (hb.mono HB0.out.size)
  have HO := Lib.hid ho
  have HS2 : Hid (SolidTexts w2 w.heap.size (.slice (some ⟨w.heap.size, 0, none⟩) 0 0) []) := ⟨HS0.out.1.below hb, HS0.out.2⟩
  clear ho hb HS0 HB0 HQ
  go_wp2
  go_loopw [6, 20] (fun o i wr => ∃ (k : Nat) (vo : Value), k ≤ ts.length ∧ i = .int .i64 k ∧ vo = o ∧ Hid (SolidTexts wr w.heap.size vo ((putAll [] ((xs.take k).map twoB)).map strOf)) ∧ Hid (Below w2.heap.size w2 wr))
    (fun _ i _ => ts.length - (intOf i).toNat)
  case atStart => exact ⟨0, _, Nat.zero_le _, rfl, rfl, HS2, Below.refl _ _⟩
  case round =>
    obtain ⟨k, vo, hk, rfl, rfl, HT, HBr⟩ := hrel
    clear HS2
    have hbz := HB.out.size
    have hbr := HBr.out.size
    by_cases hlt : k < ts.length
    · have hkx : k < xs.length := by rw [← HTS.out]; exact hlt
      obtain ⟨⟨y, u, d9, hyd⟩, hx9⟩ := HA.out xs[k] (List.getElem_mem hkx)
      obtain ⟨b, o, hA2, hB2, hc⟩ := strsOf HO.out (by omega)
      subst hA2
      have c0 : wr.cell? ⟨b, o + k, none⟩ = some (.string (strOf xs[k])) := (HBr.out.cell (p := ⟨b, o + k, none⟩) hB2).trans (hc k _ (HC.out k hkx))
      have hsz1 : (strOf xs[k]).size = xs[k].length := str_size _
      have hlen2 : 2 ≤ xs[k].length := by rw [hyd]; simp
      have HX : Hid ((strOf xs[k]).extract ((strOf xs[k]).size - 2) (strOf xs[k]).size = strOf (twoB xs[k])) := by
        show _ = _
        rw [hyd]
        exact str_two y u d9
      have h4 : ((strOf xs[k]).size : Int) - 2 = (((strOf xs[k]).size - 2 : Nat) : Int) := by omega
      have hz2 : 2 ≤ (strOf xs[k]).size := by omega
      have hz9 : (strOf xs[k]).size ≤ 9 := by omega
      have HF1 : Hid ((xs.take (k + 1)).map twoB = (xs.take k).map twoB ++ [twoB xs[k]]) := by
        show _ = _
        rw [List.take_succ_eq_append_getElem hkx, List.map_append]
        rfl
      have HPT := Lib.hid (fun W v h hB hL => l4Put_any w.heap.size v (putAll [] ((xs.take k).map twoB)) (twoB xs[k]) W h hB hL)
      have HSN := Lib.hid (putAll_snoc [] ((xs.take k).map twoB) (twoB xs[k]))
      have HPK := Lib.hid (HPL.out k)
      have HT3 := Lib.hid (HPT.out wr _ HT.out (by omega) HPK.out)
      clear hc hx9 hsz1 hlen2 hyd HPT
      generalize twoB xs[k] = x at *
      generalize strOf xs[k] = z at *
      generalize (xs.take k).map twoB = q at *
      go_wp2_with fail
      rw [HX.out]
      refine Calls.mono HT3.out ?_
      rintro e w4 ⟨v4, rfl, hs4, hb4⟩
      have HT4 : Hid (SolidTexts w4 w.heap.size v4 ((putAll [] ((xs.take (k + 1)).map twoB)).map strOf)) := by
        show SolidTexts _ _ _ _
        rw [HF1.out, HSN.out]
        exact hs4
      have HB4 : Hid (Below w2.heap.size w2 w4) := HBr.out.trans (hb4.mono HBr.out.size)
      clear hs4 hb4 HT3 HT
      go_wp2
      go_roundw
      case rel => exact ⟨k + 1, _, by omega, by go_num, rfl, HT4, HB4⟩
      case measure => simp [intOf]; omega
    · have hkl : k = ts.length := by omega
      have HE : Hid (OwnTexts wr w.heap.size vo ((putAll [] (xs.map twoB)).map strOf)) := by
        have := HT.out.1
        rw [hkl, HTS.out, List.take_length] at this
        exact this
      have HBF : Hid (Below w.heap.size w wr) := HB.out.trans (HBr.out.mono hbz)
      clear hkl HT
      go_wp2
      go_ret2
      exact ⟨_, rfl, HE.out, HBF.out⟩


/-- A chain as a round is handed it: two long at least, never long. -/
def fix2 (x : Txt) : Txt := if 2 ≤ x.length ∧ x.length ≤ 1000 then x else [0, 0]
theorem fix2_ok (x : Txt) : 2 ≤ (fix2 x).length ∧ (fix2 x).length ≤ 1000 := by
  unfold fix2
  split
  · next h => exact h
  · exact ⟨by simp, by simp⟩
theorem two_of {x : Txt} (h : 2 ≤ x.length) : ∃ y u v, x = y ++ [u, v] := by
  refine ⟨x.take (x.length - 2), x[x.length - 2], x[x.length - 1], ?_⟩
  have h1 : x.drop (x.length - 2) = [x[x.length - 2], x[x.length - 1]] := by
    apply List.ext_getElem?
    intro i
    rw [List.getElem?_drop]
    match i with
    | 0 => simp
    | 1 => rw [show x.length - 2 + 1 = x.length - 1 by omega]; simp
    | i + 2 => rw [List.getElem?_eq_none (by omega)]; rfl
  rw [← h1, List.take_append_drop]
/-- The map holds just some texts. -/
structure PairsHeld (X : World) (b n : Nat) (ps : List Txt) (D : DataW Unit) : Prop where
  own : X.ownsMap Try.prog 9 (plainElem Try.prog 4) b n D
  has : ∀ s, Maps.has D (.string s) = true ↔ s ∈ ps
theorem PairsHeld.step {X : World} {b n : Nat} {ps : List Txt} {D : DataW Unit} (h : PairsHeld X b n ps D) (hn : n ≤ 1000) (x : Txt) (hx : (strOf x).size ≤ 1000) :
    ∃ X' D', (Instr.mapUpdate 56 (.map (some b)) (.string (strOf x)) (.bool true)).run Try.prog X = .ok () X' ∧ PairsHeld X' b (n + 1) (ps ++ [x]) D' ∧ X.grownBy X' (some b) := by
  have hkey : keyOf Try.prog 9 (.string (strOf x)) = some (.string (strOf x).data.toList) := WideMaps.keyOf_string_mk Try.underlying9 (by unfold maxLen; omega)
  obtain ⟨X', h1, h2, h3⟩ := h.own.update (Maps.string_keyed Try.underlying9) Try.underlying56 (by unfold maxLen; omega) hkey (plainElem_bool (H := Unit) Try.underlying4 true)
  refine ⟨X', _, h1, ⟨h2, fun s => ?_⟩, h3⟩
  have e : (strOf x).data.toList = x := rfl
  rw [e]
  by_cases hs : s = x
  · subst hs
    rw [Maps.has_put_same h.own.isMap (show WideAt.IsKeyLit (Lit.string _) from trivial)]
    simp
  · rw [Maps.has_put_other (by intro hh; injection hh with hh; exact hs hh), h.has, List.mem_append, List.mem_singleton]
    exact ⟨.inl, fun hh => hh.resolve_right hs⟩
/-- The keys of such a map, sorted, are the texts put in one by one. -/
theorem PairsHeld.sorted {X : World} {b n : Nat} {ps ss : List Txt} {D : DataW Unit} (h : PairsHeld X b n ps D) (hp : ss.Perm (strKeys D)) : (ss.mergeSort fun x y => decide (x ≤ y)) = putAll [] ps := by
  obtain ⟨es, rfl, hne, -⟩ := h.own.entries (Maps.string_keyed Try.underlying9)
  obtain ⟨es', he, hk⟩ := World.ownsMap.keysOf h.own
  injection he with he
  subst he
  have hall : ∀ p ∈ es, ∃ x, p.1 = Lit.string x := fun p hpm => by
    obtain ⟨key, hkey⟩ := hk p hpm
    obtain ⟨x, _, hx, _⟩ := Maps.keyOf_str Try.underlying9 hkey
    exact ⟨x, hx⟩
  have hs := putAll_sorted ps [] List.Pairwise.nil
  have hnd : (putAll [] ps).Nodup := hs.imp (fun {a b} hab e => by subst e; exact txt_irr _ hab)
  have hperm := perm_strKeys hne hall hnd (fun x => by rw [putAll_mem, h.has]; simp)
  have h1 := mergeSort_of_perm (hp.trans hperm.symm)
  have h2 : (putAll [] ps).mergeSort leB = putAll [] ps := List.mergeSort_of_pairwise (hs.imp (fun {a b} hab => decide_eq_true (List.le_of_lt hab)))
  exact h1.trans h2

attribute [local go_sem] Oper.semAt_some

set_option maxRecDepth 100000 in
set_option maxHeartbeats 4000000 in
theorem implPairsOf_any (A : Option Addr) (l : List Seg) (c : Nat) (t : ByteArray) (w : World) (hw : Segs w w.heap.size A l) (hl : l.length ≤ 1048576) (hlc : l.length ≤ c) (hcm : c ≤ 9223372036854775807) (hn : Short l) (ht : t.size ≤ 1048576) :
    Calls Try.prog 62 #[.slice A l.length c, .string t] w (PairsPost w l t) := by
  have HQ := Lib.hid (readTrace_any A l c t w hw hl hlc hcm hn ht)
  have HW : Hid (Segs w w.heap.size A l) := hw
  unfold PairsPost pairsRes xsRes
  cases hR : traceB l t.data.toList with
  | none =>
    rw [hR] at HQ
    have HE : Hid (∀ W : World, Below w.heap.size w W → ∃ v, Ending.returned (.tuple #[.slice none 0 0, .bool false]) = .returned (.tuple #[v, .bool (none : Option Forest).isSome]) ∧ OwnTexts W w.heap.size v [] ∧ Below w.heap.size w W) :=
      fun W hb => ⟨_, rfl, World.ownsRow_nil W _ _ 1, hb⟩
    clear hw hn hR
    go_enter Try.func62, Try.ntmps62
    go_wp2_with fail
    refine Calls.mono HQ.out ?_
    rintro e w2 ⟨v, rfl, -, hb⟩
    go_wp2
    go_ret2
    exact HE.out _ hb
  | some f =>
    have hsz := traceB_size hR
    have HV := Lib.hid (traceB_some hR).1
    rw [hR] at HQ
    have HFX : Hid (∀ x ∈ chainsB [rootB l] f, fix2 x = x) := fun x hx => by
      obtain ⟨⟨y, u, v, rfl, _⟩, h9⟩ := trace_two hR x hx
      unfold fix2
      rw [if_pos ⟨by simp, by omega⟩]
    have HE : Hid (∀ (v : Value) (W : World), OwnTexts W w.heap.size v ((putAll [] ((chainsB [rootB l] f).map twoB)).map strOf) → Below w.heap.size w W → ∃ u, Ending.returned (.tuple #[v, .bool true]) = .returned (.tuple #[u, .bool (some f).isSome]) ∧ OwnTexts W w.heap.size u ((putAll [] ((chainsB [rootB l] f).map twoB)).map strOf) ∧ Below w.heap.size w W) :=
      fun v W h hb => ⟨v, rfl, h, hb⟩
    clear hw hn hR
    refine (callsIn_wide (n := 20)).1 ?_
    refine callsIn_of_wp_marks Try.func62 rfl trivial ?_ rfl
    simp only [Try.ntmps62, List.size_toArray, List.length_cons, List.length_nil, Nat.reduceAdd, Nat.reduceSub, Array.replicate_succ, Array.replicate_zero, List.push_toArray, List.append_toArray, List.nil_append, List.cons_append]
    gi_wp2_with fail
    refine ⟨trivial, ?_⟩
    gi_at_call 86
    refine (callsIn_wide.2 HQ.out).mono ?_
    rintro e w2 ⟨v, rfl, (⟨f', hf', hsl⟩ | ⟨h0, -⟩), hb⟩
    · obtain rfl : f = f' := by injection hf'
      have HSL : Hid (SliceIs w2 (· < w2.heap.size) v f) := hsl.keep fun q hq => ⟨hq.2, rfl⟩
      have HB := Lib.hid hb
      obtain ⟨b0, o0, rfl, hB0, c0⟩ := (HW.out.below hb).root HV.out
      obtain ⟨A2, cap2, rfl, -⟩ := id hsl
      have hlp : (0 : Int) < (l.length : Int) := by have := (valid_all HV.out).2.2; omega
      clear hsl hb hf' HQ
      have c1 : ((w2.alloc (.map #[] 0)).alloc (.cells #[.map (some w2.heap.size)] 56)).cell? ⟨b0, o0, none⟩ = some (.string ⟨#[rootB l]⟩) := by
        have hbb : Below w2.heap.size w2 ((w2.alloc (.map #[] 0)).alloc (.cells #[.map (some w2.heap.size)] 56)) := ((Below.refl _ w2).alloc (Nat.le_refl _) _).alloc (by simp) _
        exact (hbb.cell (p := ⟨b0, o0, none⟩) (Nat.lt_of_lt_of_le hB0 (HB.out.size))).trans c0
      have hmk : (Instr.makeMap 56 none).run Try.prog w2 = .ok (.map (some w2.heap.size)) (w2.alloc (.map #[] 0)) := rfl
      gi_wp2_with fail
      refine ⟨trivial, ?_⟩
      gi_at_call 87
      refine (callsIn_wide.2 (chainsOf_any _ _ _ _ _)).mono ?_
      rintro e w3 ⟨rfl, rfl⟩
      gi_wp2
      have hz0 : ((((w2.alloc (.map #[] 0)).alloc (.cells #[.map (some w2.heap.size)] 56)).alloc (.cells #[.string ⟨#[rootB l]⟩] 9)).alloc (.cells #[.slice A2 f.len cap2] 111)).heap.size = w2.heap.size + 4 := by simp
      have hM0 : PairsHeld ((((w2.alloc (.map #[] 0)).alloc (.cells #[.map (some w2.heap.size)] 56)).alloc (.cells #[.string ⟨#[rootB l]⟩] 9)).alloc (.cells #[.slice A2 f.len cap2] 111)) w2.heap.size 0 (([] : List Txt).map fun x => twoB (fix2 x)) (.map []) := by
        refine ⟨?_, fun s => by simp [Maps.has]⟩
        exact ((((World.ownsMap_made w2 Try.prog 9 (plainElem Try.prog 4)).alloc _).alloc _).alloc _)
      have hrC : Row ((((w2.alloc (.map #[] 0)).alloc (.cells #[.map (some w2.heap.size)] 56)).alloc (.cells #[.string ⟨#[rootB l]⟩] 9)).alloc (.cells #[.slice A2 f.len cap2] 111)) (w2.heap.size + 1) 56 #[.map (some w2.heap.size)] := by
        have := Row.new (w2.alloc (.map #[] 0)) 56 #[.map (some w2.heap.size)]
        rw [World.size_alloc] at this
        exact (this.alloc _).alloc _
      have hr1 : Row ((((w2.alloc (.map #[] 0)).alloc (.cells #[.map (some w2.heap.size)] 56)).alloc (.cells #[.string ⟨#[rootB l]⟩] 9)).alloc (.cells #[.slice A2 f.len cap2] 111)) (w2.heap.size + 2) 9 #[.string ⟨#[rootB l]⟩] := by
        have := Row.new ((w2.alloc (.map #[] 0)).alloc (.cells #[.map (some w2.heap.size)] 56)) 9 #[.string ⟨#[rootB l]⟩]
        rw [World.size_alloc, World.size_alloc] at this
        exact this.alloc _
      have hr2 : Row ((((w2.alloc (.map #[] 0)).alloc (.cells #[.map (some w2.heap.size)] 56)).alloc (.cells #[.string ⟨#[rootB l]⟩] 9)).alloc (.cells #[.slice A2 f.len cap2] 111)) (w2.heap.size + 3) 111 #[.slice A2 f.len cap2] := by
        have := Row.new (((w2.alloc (.map #[] 0)).alloc (.cells #[.map (some w2.heap.size)] 56)).alloc (.cells #[.string ⟨#[rootB l]⟩] 9)) 111 #[.slice A2 f.len cap2]
        rw [World.size_alloc, World.size_alloc, World.size_alloc] at this
        exact this
      have hb0 : Below w2.heap.size w2 ((((w2.alloc (.map #[] 0)).alloc (.cells #[.map (some w2.heap.size)] 56)).alloc (.cells #[.string ⟨#[rootB l]⟩] 9)).alloc (.cells #[.slice A2 f.len cap2] 111)) := ((((Below.refl _ w2).alloc (Nat.le_refl _) _).alloc (by simp) _).alloc (by simp; omega) _).alloc (by simp; omega) _
      clear c1 hmk
      generalize ((((w2.alloc (.map #[] 0)).alloc (.cells #[.map (some w2.heap.size)] 56)).alloc (.cells #[.string ⟨#[rootB l]⟩] 9)).alloc (.cells #[.slice A2 f.len cap2] 111)) = W0 at *
      refine wpIn_rangeFunc_R (by omega) (gf := 110) (lb := #[.pointer (some ⟨w2.heap.size + 1 + 1 + 1, 0, none⟩), .pointer (some ⟨w2.heap.size + 1 + 1, 0, none⟩)]) rfl (enters_of Try.func110 (by kernel_rfl) rfl)
        (chains1_seq w2.heap.size (w2.heap.size + 1) fix2 (f.size + 1) f [rootB l] f.size 19 (w2.heap.size + 3) (w2.heap.size + 2) (.slice A2 f.len cap2) W0 (by omega) (by simp; omega) HFX.out ⟨.inr (by omega), by decide, hr2⟩ ⟨.inr (by omega), by decide, hr1⟩ (HSL.out.below hb0) (by omega) (Nat.le_refl _) (by omega))
        (by omega) (by omega) (Below.refl _ _) (fun _ => rfl)
        (fun pre X => (∃ D n, n ≤ pre.length ∧ PairsHeld X w2.heap.size n (pre.map fun x => twoB (fix2 x)) D) ∧ Row X (w2.heap.size + 1) 56 #[.map (some w2.heap.size)] ∧ Below w2.heap.size w2 X)
        (fun _ _ _ => False)
        (fun pre X Y row hs hg hr => ⟨by obtain ⟨D, n, h1, h2⟩ := hs.1; exact ⟨D, n, h1, h2.own.kept hg (fun e => by have := (hr _ e.symm).1; omega), h2.has⟩, row_grownT hs.2.1 hg hr, hs.2.2.grown hg hs.2.2.size (fun k e => by have := (hr k e).1; omega)⟩)
        (fun _ _ _ _ _ hs _ _ => hs)
        ⟨⟨_, 0, Nat.le_refl _, hM0⟩, hrC, hb0⟩
        (fun x => { tmps := #[.slice (some ⟨b0, o0, none⟩) l.length c, .string t, undef, undef, .slice none 0 0, .bool false, .slice A2 f.len cap2, .bool true, .pointer (some ⟨w2.heap.size + 1, 0, none⟩), .string (strOf (fix2 x)), .tuple #[.slice A2 f.len cap2, .bool true], .slice (some ⟨b0, o0, none⟩) l.length c, .string t, .tuple #[.slice A2 f.len cap2, .bool true], .slice A2 f.len cap2, .bool true, .bool true, .bool false, .map (some w2.heap.size), .slice (some ⟨b0, o0, none⟩) l.length c, .pointer (some ⟨b0, o0, none⟩), .pointer (some ⟨b0, o0, none⟩), .string ⟨#[rootB l]⟩, .slice A2 f.len cap2, .func (.func 110) #[] #[.pointer (some ⟨w2.heap.size + 1 + 1 + 1, 0, none⟩), .pointer (some ⟨w2.heap.size + 1 + 1, 0, none⟩)], .string (strOf (fix2 x)), undef, undef, undef, undef, undef, undef, undef, undef, undef], defers := [] }) ?assign ?body ?done ?stop
      case assign =>
        intro l2 x X K hK
        gi_wp2
        exact hK
      case body =>
        rintro l2 pre x X ⟨⟨D, n, hnl, hM⟩, hrX, hbX⟩ hlen hz
        have cT : X.cell? ⟨w2.heap.size + 1, 0, none⟩ = some (.map (some w2.heap.size)) := hrX.cell 0
        obtain ⟨hfx1, hfx2⟩ := fix2_ok x
        obtain ⟨y, u, v, hyd⟩ := two_of hfx1
        have hsz1 : (strOf (fix2 x)).size = (fix2 x).length := str_size _
        have HX : Hid ((strOf (fix2 x)).extract ((strOf (fix2 x)).size - 2) (strOf (fix2 x)).size = strOf (twoB (fix2 x))) := by
          show _ = _
          rw [hyd]
          exact str_two y u v
        have hts : (strOf (twoB (fix2 x))).size ≤ 1000 := by rw [str_size]; simp [twoB]
        obtain ⟨X', D', hrun, hM', hg'⟩ := PairsHeld.step (X := X.drew) (b := w2.heap.size) (n := n) ⟨hM.own.drew, hM.has⟩ (by omega) (twoB (fix2 x)) hts
        have HM' := Lib.hid hM'
        have HRX : Hid (Row X' (w2.heap.size + 1) 56 #[.map (some w2.heap.size)]) := (hg'.block _ (Row.lt hrX) (fun e => by injection e with e; omega)).trans hrX
        have HBX : Hid (Below w2.heap.size X X') := (Below.refl _ X).drew.grown hg' (by have := hbX.size; exact this) (fun k e => by injection e with e; omega)
        have HBW : Hid (Below w2.heap.size w2 X') := hbX.trans HBX.out
        have HKX : Hid (KeepsN (w2.heap.size + 1) X X') := ⟨hg'.size, fun k o hk ho _ => (hg'.block k (Array.getElem?_eq_some_iff.1 ho).1 (fun e => by injection e with e; omega)).trans ho⟩
        have hz2 : 2 ≤ (strOf (fix2 x)).size := by omega
        have hz9 : (strOf (fix2 x)).size ≤ 1000 := by omega
        have h4 : ((strOf (fix2 x)).size : Int) - 2 = (((strOf (fix2 x)).size - 2 : Nat) : Int) := by omega
        obtain ⟨p2, hp2⟩ : ∃ p2 : Nat, p2 = (strOf (fix2 x)).size - 2 := ⟨_, rfl⟩
        have hw4 : IntKind.i64.wrap (((strOf (fix2 x)).size : Int) - 2) = (p2 : Int) := (IntWalk.i64_in _ (by omega)).trans (by omega)
        have hpz : (p2 : Int) ≤ ((strOf (fix2 x)).size : Int) := by omega
        rw [← HX.out, ← hp2] at hrun
        have hmx : Try.prog.follows .mixedOrders = true := by kernel_rfl
        clear hM hrX hbX hfx1 hfx2 hyd hsz1 hM' hg' hts HX h4 hp2
        generalize strOf (fix2 x) = z at *
        gi_wp2_with fail
        gi_region_with_o (fail)
        all_goals gi_wp2
        all_goals exact ⟨by rw [Nat.min_eq_right (by omega)]; exact HKX.out, HBX.out, ⟨D', n + 1, by simp; omega, by rw [List.map_append]; exact HM'.out⟩, HRX.out, HBW.out⟩
      case done =>
        rintro L ys X hL rfl ⟨⟨D, n, hnl, hM⟩, hrX, hbX⟩ hK
        have d1 : X.cell? ⟨w2.heap.size + 1, 0, none⟩ = some (.map (some w2.heap.size)) := hrX.cell 0
        have hmap : ((chainsB [rootB l] f).map fun x => twoB (fix2 x)) = (chainsB [rootB l] f).map twoB := List.map_congr_left fun x hx => by rw [HFX.out x hx]
        rw [hmap] at hM
        have hcl : (chainsB [rootB l] f).length ≤ 80 := by rw [chainsB_len]; omega
        have hsd : Maps.size D ≤ 80 := Nat.le_trans hM.own.size_le (by omega)
        have HM := Lib.hid hM
        have HBX' := Lib.hid hbX
        have hfK : Fence.wide.fn 88 := trivial
        have hfS : Fence.wide.fn 79 := trivial
        clear hM hrX hbX hmap
        gi_wp2_with (first
          | (gi_at_call 88; refine ((Try.maps_Keys_88 _ _).more (show 5 ≤ 19 by omega)).mono ?_; rintro e w' ⟨rfl, rfl⟩)
          | (gi_at_call 79; refine ((Try.slices_Sorted_keys_79_88 w2.heap.size n D _ X HM.out.own (by unfold maxLen; omega) (by omega)).more (show 5 ≤ 19 by omega)).mono ?_; rintro e w' ⟨v, ss, rfl, hS, hrow, hnil, hb⟩))
        have hbz : w.heap.size ≤ (X.alloc (.cells #[.map (some w2.heap.size)] 56)).heap.size := by
          have h1 := HB.out.size
          have h2 := HBX'.out.size
          simp
          omega
        have hown : OwnTexts w' w.heap.size v ((putAll [] ((chainsB [rootB l] f).map twoB)).map strOf) := by
          have hs := HM.out.sorted hS
          unfold OwnTexts
          rw [← hs, List.length_map, List.length_mergeSort, List.map_map]
          exact own_low hrow hbz
        have hLX : L < X.heap.size := (Array.getElem?_eq_some_iff.1 hK).1
        have hK1 : w'.heap[L]? = some (.deferred (some [])) := (hb.block L (by simp; omega)).trans ((Below.heap_alloc X _ L hLX).trans hK)
        have HBF : Below w.heap.size w w' := (HB.out.trans (HBX'.out.mono HB.out.size)).trans (((Below.refl _ X).alloc (by have := HB.out.size; have := HBX'.out.size; omega) _).trans (hb.mono hbz))
        refine ⟨by simp, .inl ⟨_, _, rfl, run_takeDeferred hK1, ?_⟩⟩
        refine ⟨_, results_tmp2 rfl _ _ _, ?_⟩
        refine HE.out _ _ (own_grownT hown (grownBy_putObj' w' L _) (fun r e => by cases e; exact ⟨_, hK1, rfl⟩)) (HBF.trans (belowK_b (w := w) (Nat.le_refl _) w' L _ _ (by have := HB.out.size; omega) hK1 rfl rfl))
      case stop =>
        rintro L c' pre X _ _ h _
        exact h.elim
    · cases h0

end Go.Proofs.Ytnknfpfpjijemaa
