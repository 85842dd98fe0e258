/- Joined: It Bq Bp. -/
import Derived.Shelf.SlIter.Nil
import Derived.Shelf.SortM.Plain
import Derived.Shelf.SortM.SortNone
import Derived.Ground.GgzProg
import Derived.Ground.SlgmProg
import Derived.Test.YtafpefjjeddmeaaProg
import Derived.Test.YtafpefjjeddmeaaU28
import Derived.Test.YtafpefjjeddmeaaU23
import Derived.Test.YtafpefjjeddmeaaSh
import Derived.Maps.OwnIn
import Derived.Maps.Views
import Derived.Sort.KeysCollected
import Derived.StringKeys
import Derived.Test.YtafpefjjeddmeaaU12
import Derived.Test.YtafpefjjeddmeaaU07
/- The library's contracts on a map's keys, sorted, at this translation. -/
namespace Go.Proofs
open Go.Shelf
def Try.keys50_ren : Go.Shelf.Ren := ⟨fun | 7 => 50 | 10 => 83 | n => n, fun | 23 => 65 | 26 => 9 | 3 => 4 | 28 => 59 | 0 => 0 | 27 => 58 | 33 => 105 | 4 => 4 | n => n, fun | n => n⟩
theorem Try.keys50 : Go.Proofs.SlLaysZ.n7 Try.prog Try.keys50_ren := {
  mixed := by kernel_rfl
  f7 := ⟨Try.f50.name, by decide, Try.func50.trans (congrArg some (by kernel_rfl))⟩
  f10 := ⟨Try.f83.name, by decide, Try.func83.trans (congrArg some (by kernel_rfl))⟩
  t0 := Try.underlying0
  a0 := Try.isAgg0
  z0 := Try.sizeOf0
  v0 := Try.zeroValue0
  t4 := Try.underlying4
  a4 := Try.isAgg4
  z4 := Try.sizeOf4
  v4 := Try.zeroValue4
  t23 := Try.underlying65
  a23 := Try.isAgg65
  z23 := Try.sizeOf65
  v23 := Try.zeroValue65
  t26 := Try.underlying9
  a26 := Try.isAgg9
  z26 := Try.sizeOf9
  v26 := Try.zeroValue9
  t27 := Try.underlying58
  a27 := Try.isAgg58
  z27 := Try.sizeOf58
  v27 := Try.zeroValue58
  t28 := Try.underlying59
  a28 := Try.isAgg59
  z28 := Try.sizeOf59
  v28 := Try.zeroValue59
  t33 := Try.underlying105
  a33 := Try.isAgg105
  z33 := Try.sizeOf105
  v33 := Try.zeroValue105 }
def Try.sorted49_ren : Go.Shelf.Ren := ⟨fun | 6 => 49 | 8 => 45 | 9 => 82 | 11 => 79 | 13 => 109 | 12 => 108 | 23 => 134 | 24 => 135 | 14 => 125 | 15 => 126 | 16 => 127 | 17 => 128 | 18 => 129 | 19 => 130 | 20 => 131 | 21 => 132 | 22 => 133 | 25 => 142 | 26 => 143 | 27 => 144 | 28 => 145 | 29 => 146 | 30 => 147 | 31 => 154 | n => n, fun | 26 => 9 | 28 => 59 | 24 => 26 | 0 => 0 | 3 => 3 | 37 => 84 | 48 => 162 | 50 => 164 | 4 => 4 | 40 => 155 | 39 => 154 | 45 => 159 | 5 => 5 | 9 => 9 | 51 => 175 | 55 => 179 | 57 => 185 | 58 => 186 | 33 => 105 | n => n, fun | n => n⟩
theorem Try.sorted49 : Go.Proofs.SlLaysZ.n6 Try.prog Try.sorted49_ren := {
  mixed := by kernel_rfl
  f6 := ⟨Try.f49.name, by decide, Try.func49.trans (congrArg some (by kernel_rfl))⟩
  f8 := ⟨Try.f45.name, by decide, Try.func45.trans (congrArg some (by kernel_rfl))⟩
  f11 := ⟨Try.f79.name, by decide, Try.func79.trans (congrArg some (by kernel_rfl))⟩
  t0 := Try.underlying0
  a0 := Try.isAgg0
  z0 := Try.sizeOf0
  v0 := Try.zeroValue0
  t24 := Try.underlying26
  a24 := Try.isAgg26
  z24 := Try.sizeOf26
  v24 := Try.zeroValue26
  t26 := Try.underlying9
  a26 := Try.isAgg9
  z26 := Try.sizeOf9
  v26 := Try.zeroValue9
  t28 := Try.underlying59
  a28 := Try.isAgg59
  z28 := Try.sizeOf59
  v28 := Try.zeroValue59
  i26 := by kernel_rfl }
def Try.sort82_ren : Go.Shelf.Ren := ⟨fun | 6 => 82 | 8 => 109 | 9 => 108 | 19 => 134 | 20 => 135 | 21 => 125 | 22 => 126 | 23 => 127 | 24 => 128 | 25 => 129 | 26 => 130 | 27 => 131 | 28 => 132 | 29 => 133 | 36 => 142 | 31 => 143 | 32 => 144 | 37 => 145 | 38 => 146 | 39 => 147 | 41 => 154 | n => n, fun | 27 => 26 | 29 => 9 | 3 => 3 | 32 => 84 | 26 => 26 | 0 => 0 | 44 => 162 | 46 => 164 | 4 => 4 | 36 => 155 | 35 => 154 | 41 => 159 | 5 => 5 | 9 => 9 | 53 => 175 | 57 => 179 | 63 => 185 | 64 => 186 | n => n, fun | n => n⟩
theorem Try.sort82 : Go.Proofs.SlLaysM.n6 Try.prog Try.sort82_ren := {
  mixed := by kernel_rfl
  f6 := ⟨Try.f82.name, by decide, Try.func82.trans (congrArg some (by kernel_rfl))⟩
  f8 := Try.func109.trans (congrArg some (by kernel_rfl))
  f9 := ⟨Try.f108.name, by decide, Try.func108.trans (congrArg some (by kernel_rfl))⟩
  f19 := Try.func134.trans (congrArg some (by kernel_rfl))
  f20 := Try.func135.trans (congrArg some (by kernel_rfl))
  f21 := ⟨Try.f125.name, by decide, Try.func125.trans (congrArg some (by kernel_rfl))⟩
  f22 := ⟨Try.f126.name, by decide, Try.func126.trans (congrArg some (by kernel_rfl))⟩
  f23 := ⟨Try.f127.name, by decide, Try.func127.trans (congrArg some (by kernel_rfl))⟩
  f24 := ⟨Try.f128.name, by decide, Try.func128.trans (congrArg some (by kernel_rfl))⟩
  f25 := ⟨Try.f129.name, by decide, Try.func129.trans (congrArg some (by kernel_rfl))⟩
  f26 := ⟨Try.f130.name, by decide, Try.func130.trans (congrArg some (by kernel_rfl))⟩
  f27 := ⟨Try.f131.name, by decide, Try.func131.trans (congrArg some (by kernel_rfl))⟩
  f28 := ⟨Try.f132.name, by decide, Try.func132.trans (congrArg some (by kernel_rfl))⟩
  f29 := ⟨Try.f133.name, by decide, Try.func133.trans (congrArg some (by kernel_rfl))⟩
  f31 := Try.func143.trans (congrArg some (by kernel_rfl))
  f32 := Try.func144.trans (congrArg some (by kernel_rfl))
  f36 := ⟨Try.f142.name, by decide, Try.func142.trans (congrArg some (by kernel_rfl))⟩
  f37 := ⟨Try.f145.name, by decide, Try.func145.trans (congrArg some (by kernel_rfl))⟩
  f38 := ⟨Try.f146.name, by decide, Try.func146.trans (congrArg some (by kernel_rfl))⟩
  f39 := ⟨Try.f147.name, by decide, Try.func147.trans (congrArg some (by kernel_rfl))⟩
  f41 := ⟨Try.f154.name, by decide, Try.func154.trans (congrArg some (by kernel_rfl))⟩
  t0 := Try.underlying0
  a0 := Try.isAgg0
  z0 := Try.sizeOf0
  v0 := Try.zeroValue0
  t3 := Try.underlying3
  a3 := Try.isAgg3
  z3 := Try.sizeOf3
  v3 := Try.zeroValue3
  t4 := Try.underlying4
  a4 := Try.isAgg4
  z4 := Try.sizeOf4
  v4 := Try.zeroValue4
  t5 := Try.underlying5
  a5 := Try.isAgg5
  z5 := Try.sizeOf5
  v5 := Try.zeroValue5
  t9 := Try.underlying9
  a9 := Try.isAgg9
  z9 := Try.sizeOf9
  v9 := Try.zeroValue9
  t26 := Try.underlying26
  a26 := Try.isAgg26
  z26 := Try.sizeOf26
  v26 := Try.zeroValue26
  t27 := Try.underlying26
  a27 := Try.isAgg26
  z27 := Try.sizeOf26
  v27 := Try.zeroValue26
  t29 := Try.underlying9
  a29 := Try.isAgg9
  z29 := Try.sizeOf9
  v29 := Try.zeroValue9
  t32 := Try.underlying84
  a32 := Try.isAgg84
  z32 := Try.sizeOf84
  v32 := Try.zeroValue84
  t35 := Try.underlying154
  a35 := Try.isAgg154
  z35 := Try.sizeOf154
  v35 := Try.zeroValue154
  t36 := Try.underlying155
  a36 := Try.isAgg155
  z36 := Try.sizeOf155
  v36 := Try.zeroValue155
  t41 := Try.underlying159
  a41 := Try.isAgg159
  z41 := Try.sizeOf159
  v41 := Try.zeroValue159
  t44 := Try.underlying162
  a44 := Try.isAgg162
  z44 := Try.sizeOf162
  v44 := Try.zeroValue162
  t46 := Try.underlying164
  a46 := Try.isAgg164
  z46 := Try.sizeOf164
  v46 := Try.zeroValue164
  t53 := Try.underlying175
  a53 := Try.isAgg175
  z53 := Try.sizeOf175
  v53 := Try.zeroValue175
  t57 := Try.underlying179
  a57 := Try.isAgg179
  z57 := Try.sizeOf179
  v57 := Try.zeroValue179
  t63 := Try.underlying185
  a63 := Try.isAgg185
  z63 := Try.sizeOf185
  v63 := Try.zeroValue185
  t64 := Try.underlying186
  a64 := Try.isAgg186
  z64 := Try.sizeOf186
  v64 := Try.zeroValue186 }
set_option maxHeartbeats 1000000 in
open Go.RowKit Go.Maps Go.Sort in
theorem Try.sorts49 (m : Nat) : AnyZ.SortsIn Try.prog Try.sorted49_ren Fence.wide m :=
  ⟨fun blk off cap ss W hH hblk hsz => callsIn_wide.2 (AnyM.slices_Sort_string Try.sort82 blk off cap ss W hH hblk hsz),
   fun p cap W => callsIn_wide.2 (AnyM.slices_Sort_string_none Try.sort82 p cap W)⟩
set_option maxHeartbeats 1000000 in
open Go.RowKit Go.Maps Go.Sort in
theorem Try.maps_Keys_50 (mb : Option Nat) (W : World) : CallsIn Fence.wide 5 Try.prog 50 #[.map mb] W fun e w' => e = .returned (.func (.func 83) #[] #[.pointer (some ⟨W.heap.size, 0, none⟩)]) ∧ w' = W.alloc (.cells #[.map mb] 65) :=
  AnyZ.keys_in Try.keys50 Fence.wide 5 trivial rfl mb W
set_option maxHeartbeats 1000000 in
open Go.RowKit Go.Maps Go.Sort in
theorem Try.slices_Sorted_keys_49_50 {H : Type} (b nn : Nat) (D0 : DataW H) (R : Value → Option (DataW H × List MemPlace)) (w : World) (hown : w.ownsMap Try.prog 9 R b nn D0) (hmax : Maps.size D0 ≤ maxLen) (hbytes : Maps.size D0 * 16 ≤ 140737488355328) :
    CallsIn Fence.wide 5 Try.prog 49 #[.func (.func 83) #[] #[.pointer (some ⟨w.heap.size, 0, none⟩)]] (w.alloc (.cells #[.map (some b)] 65)) fun e w' => ∃ (v : Value) (ss : List (List UInt8)), e = .returned v ∧ ss.Perm (strKeys D0) ∧
      w'.ownsRow (w.alloc (.cells #[.map (some b)] 65)).heap.size 9 1 v ss.length ((ss.mergeSort (fun x y => decide (x ≤ y))).map encStr) ∧ (v = .slice none 0 0 ↔ ss = []) ∧ Below (w.alloc (.cells #[.map (some b)] 65)).heap.size (w.alloc (.cells #[.map (some b)] 65)) w' := by
  have hbl := hown.lt
  have hseq : SeqGives Fence.wide 2 Try.prog 83 #[.pointer (some ⟨w.heap.size, 0, none⟩)] encStr (fun ss => ss.Perm (strKeys D0)) (Maps.size D0) (w.alloc (.cells #[.map (some b)] 65)) :=
    AnyZ.keys_gives (ρ := Try.keys50_ren) { Try.keys50 with } Fence.wide _ trivial rfl (by omega) w.heap.size b nn D0 _ (by simp) (by simp) (by
      obtain ⟨es, clock, hb, Ft, hs, hD⟩ := hown
      exact ⟨es, clock, (Below.heap_alloc _ _ b hbl).trans hb, Ft, hs, hD⟩)
  exact AnyZ.sorted_in Try.sorted49 Fence.wide 5 trivial trivial trivial trivial rfl (by omega) (Try.sorts49 _) (enters_of Try.func82 (by kernel_rfl) rfl) 83 #[.pointer (some ⟨w.heap.size, 0, none⟩)] trivial (enters_of Try.func83 (by kernel_rfl) rfl) _ _ hmax hbytes _ hseq
set_option maxHeartbeats 1000000 in
open Go.RowKit Go.Maps Go.Sort in
theorem Try.slices_Sorted_keys_nil_49_50 (w : World) :
    CallsIn Fence.wide 5 Try.prog 49 #[.func (.func 83) #[] #[.pointer (some ⟨w.heap.size, 0, none⟩)]] (w.alloc (.cells #[.map none] 65)) fun e w' => ∃ (v : Value) (ss : List (List UInt8)), e = .returned v ∧ ss = [] ∧
      w'.ownsRow (w.alloc (.cells #[.map none] 65)).heap.size 9 1 v ss.length ((ss.mergeSort (fun x y => decide (x ≤ y))).map encStr) ∧ (v = .slice none 0 0 ↔ ss = []) ∧ Below (w.alloc (.cells #[.map none] 65)).heap.size (w.alloc (.cells #[.map none] 65)) w' := by
  have hseq : SeqGives Fence.wide 2 Try.prog 83 #[.pointer (some ⟨w.heap.size, 0, none⟩)] encStr (fun ss : List (List UInt8) => ss = []) 0 (w.alloc (.cells #[.map none] 65)) :=
    AnyZ.keys_gives_nil (ρ := Try.keys50_ren) { Try.keys50 with } Fence.wide _ trivial rfl w.heap.size _ (by simp) (by simp)
  exact AnyZ.sorted_in Try.sorted49 Fence.wide 5 trivial trivial trivial trivial rfl (by omega) (Try.sorts49 _) (enters_of Try.func82 (by kernel_rfl) rfl) 83 #[.pointer (some ⟨w.heap.size, 0, none⟩)] trivial (enters_of Try.func83 (by kernel_rfl) rfl) _ 0 (Nat.zero_le _) (by omega) _ hseq
end Go.Proofs
/- PairsOf on both sides. -/
namespace Go.Proofs.Ytafpefjjeddmeaa
open Go.RowKit Go.Shelf

/-- The last call of a chain: who calls and who is called. -/
def twoB (x : Txt) : Txt := [penB x, lastB x]
theorem twoB_snoc (y : Txt) (u v : UInt8) : twoB (y ++ [u, v]) = [u, v] := by
  unfold twoB
  rw [(ends_of y u v).1, (ends_of y u v).2]
theorem str_two (y : Txt) (u v : UInt8) : (strOf (y ++ [u, v])).extract ((strOf (y ++ [u, v])).size - 2) (strOf (y ++ [u, v])).size = strOf (twoB (y ++ [u, v])) := by
  have hs : (strOf (y ++ [u, v])).size = y.length + 2 := by rw [str_size]; simp
  rw [hs, twoB_snoc]
  apply ByteArray.ext
  rw [ByteArray.data_extract]
  apply Array.ext'
  simp [strOf]
def pairsRes (l : List Seg) (t : ByteArray) : List ByteArray := (putAll [] ((xsRes l t).map twoB)).map strOf
def PairsPost (w : World) (l : List Seg) (t : ByteArray) (e : Ending) (w' : World) : Prop :=
  ∃ v, e = .returned (.tuple #[v, .bool (traceB l t.data.toList).isSome]) ∧ OwnTexts w' w.heap.size v (pairsRes l t) ∧ Below w.heap.size w w'

set_option maxRecDepth 100000 in
set_option maxHeartbeats 2000000 in
theorem specPairsOf_any (A : Option Addr) (l : List Seg) (c : Nat) (t : ByteArray) (w : World) (hw : Segs w w.heap.size A l) (hl : l.length ≤ 1048576) (hn : Short l) (ht : t.size ≤ 1048576) :
    Calls Try.prog 14 #[.slice A l.length c, .string t] w (PairsPost w l t) := by
  have HW : Hid (Segs w w.heap.size A l) := hw
  have HB0 : Hid (Below w.heap.size w (w.alloc (.cells #[] 9))) := (Below.refl _ w).alloc (Nat.le_refl _) _
  have HQ := Lib.hid (specChainsOf_any A l c t (w.alloc (.cells #[] 9)) ((hw.below HB0.out).more HB0.out.size) hl hn ht)
  unfold ChainsResPost at HQ
  rw [chainsRes_xs] at HQ
  unfold PairsPost pairsRes
  have HA := Lib.hid (xsRes_two (l := l) (t := t))
  have hx80 := xsRes_len l t
  have HS0 : Hid (SolidTexts (w.alloc (.cells #[] 9)) w.heap.size (.slice (some ⟨w.heap.size, 0, none⟩) 0 0) []) := ⟨OwnTexts.empty w (Nat.le_refl _), fun h => by cases h⟩
  clear hw hn
  generalize xsRes l t = xs at *
  generalize (traceB l t.data.toList).isSome = d at *
  have HTS : Hid ((xs.map strOf).length = xs.length) := List.length_map _
  have HC : Hid (∀ k (hk : k < xs.length), (xs.map strOf)[k]? = some (strOf xs[k])) := fun k hk => by rw [List.getElem?_map, List.getElem?_eq_getElem hk]; rfl
  have HPL : Hid (∀ k, (putAll [] ((xs.take k).map twoB)).length ≤ 200) := fun k => by
    have h1 := putAll_len ((xs.take k).map twoB) []
    have h2 : ((xs.take k).map twoB).length ≤ xs.length := by rw [List.length_map, List.length_take]; omega
    simp only [List.length_nil] at h1
    omega
  generalize xs.map strOf = ts at *
  have htl : ts.length ≤ 80 := by rw [HTS.out]; exact hx80
  go_enter Try.func14, Try.ntmps14
  go_wp2_with fail
  refine Calls.mono HQ.out ?_
  rintro e w2 ⟨v, rfl, ho, hb⟩
  obtain ⟨A2, cap2, rfl, -⟩ := St.textsForm ho
  have HB : Hid (Below w.heap.size w w2) := HB0.out.trans (hb.mono HB0.out.size)
  have HO := Lib.hid ho
  have HS2 : Hid (SolidTexts w2 w.heap.size (.slice (some ⟨w.heap.size, 0, none⟩) 0 0) []) := ⟨HS0.out.1.below hb, HS0.out.2⟩
  clear ho hb HS0 HB0 HQ
  go_wp2
  go_loopw [6, 20] (fun o i wr => ∃ (k : Nat) (vo : Value), k ≤ ts.length ∧ i = .int .i64 k ∧ vo = o ∧ Hid (SolidTexts wr w.heap.size vo ((putAll [] ((xs.take k).map twoB)).map strOf)) ∧ Hid (Below w2.heap.size w2 wr))
    (fun _ i _ => ts.length - (intOf i).toNat)
  case atStart => exact ⟨0, _, Nat.zero_le _, rfl, rfl, HS2, Below.refl _ _⟩
  case round =>
    obtain ⟨k, vo, hk, rfl, rfl, HT, HBr⟩ := hrel
    clear HS2
    have hbz := HB.out.size
    have hbr := HBr.out.size
    by_cases hlt : k < ts.length
    · have hkx : k < xs.length := by rw [← HTS.out]; exact hlt
      obtain ⟨⟨y, u, d9, hyd⟩, hx9⟩ := HA.out xs[k] (List.getElem_mem hkx)
      obtain ⟨b, o, hA2, hB2, hc⟩ := strsOf HO.out (by omega)
      subst hA2
      have c0 : wr.cell? ⟨b, o + k, none⟩ = some (.string (strOf xs[k])) := (HBr.out.cell (p := ⟨b, o + k, none⟩) hB2).trans (hc k _ (HC.out k hkx))
      have hsz1 : (strOf xs[k]).size = xs[k].length := str_size _
      have hlen2 : 2 ≤ xs[k].length := by rw [hyd]; simp
      have HX : Hid ((strOf xs[k]).extract ((strOf xs[k]).size - 2) (strOf xs[k]).size = strOf (twoB xs[k])) := by
        show _ = _
        rw [hyd]
        exact str_two y u d9
      have h4 : ((strOf xs[k]).size : Int) - 2 = (((strOf xs[k]).size - 2 : Nat) : Int) := by omega
      have hz2 : 2 ≤ (strOf xs[k]).size := by omega
      have hz9 : (strOf xs[k]).size ≤ 9 := by omega
      have HF1 : Hid ((xs.take (k + 1)).map twoB = (xs.take k).map twoB ++ [twoB xs[k]]) := by
        show _ = _
        rw [List.take_succ_eq_append_getElem hkx, List.map_append]
        rfl
      have HPT := Lib.hid (fun W v h hB hL => l4Put_any w.heap.size v (putAll [] ((xs.take k).map twoB)) (twoB xs[k]) W h hB hL)
      have HSN := Lib.hid (putAll_snoc [] ((xs.take k).map twoB) (twoB xs[k]))
      have HPK := Lib.hid (HPL.out k)
      have HT3 := Lib.hid (HPT.out wr _ HT.out (by omega) HPK.out)
      clear hc hx9 hsz1 hlen2 hyd HPT
      generalize twoB xs[k] = x at *
      generalize strOf xs[k] = z at *
      generalize (xs.take k).map twoB = q at *
      go_wp2_with fail
      rw [HX.out]
      refine Calls.mono HT3.out ?_
      rintro e w4 ⟨v4, rfl, hs4, hb4⟩
      have HT4 : Hid (SolidTexts w4 w.heap.size v4 ((putAll [] ((xs.take (k + 1)).map twoB)).map strOf)) := by
        show SolidTexts _ _ _ _
        rw [HF1.out, HSN.out]
        exact hs4
      have HB4 : Hid (Below w2.heap.size w2 w4) := HBr.out.trans (hb4.mono HBr.out.size)
      clear hs4 hb4 HT3 HT
      go_wp2
      go_roundw
      case rel => exact ⟨k + 1, _, by omega, by go_num, rfl, HT4, HB4⟩
      case measure => simp [intOf]; omega
    · have hkl : k = ts.length := by omega
      have HE : Hid (OwnTexts wr w.heap.size vo ((putAll [] (xs.map twoB)).map strOf)) := by
        have := HT.out.1
        rw [hkl, HTS.out, List.take_length] at this
        exact this
      have HBF : Hid (Below w.heap.size w wr) := HB.out.trans (HBr.out.mono hbz)
      clear hkl HT
      go_wp2
      go_ret2
      exact ⟨_, rfl, HE.out, HBF.out⟩


/-- A chain as a round is handed it: two long at least, never long. -/
def fix2 (x : Txt) : Txt := if 2 ≤ x.length ∧ x.length ≤ 1000 then x else [0, 0]
theorem fix2_ok (x : Txt) : 2 ≤ (fix2 x).length ∧ (fix2 x).length ≤ 1000 := by
  unfold fix2
  split
  · next h => exact h
  · exact ⟨by simp, by simp⟩
theorem two_of {x : Txt} (h : 2 ≤ x.length) : ∃ y u v, x = y ++ [u, v] := by
  refine ⟨x.take (x.length - 2), x[x.length - 2], x[x.length - 1], ?_⟩
  have h1 : x.drop (x.length - 2) = [x[x.length - 2], x[x.length - 1]] := by
    apply List.ext_getElem?
    intro i
    rw [List.getElem?_drop]
    match i with
    | 0 => simp
    | 1 => rw [show x.length - 2 + 1 = x.length - 1 by omega]; simp
    | i + 2 => rw [List.getElem?_eq_none (by omega)]; rfl
  rw [← h1, List.take_append_drop]
/-- The map holds just some texts. -/
structure PairsHeld (X : World) (b n : Nat) (ps : List Txt) (D : DataW Unit) : Prop where
  own : X.ownsMap Try.prog 9 (plainElem Try.prog 4) b n D
  has : ∀ s, Maps.has D (.string s) = true ↔ s ∈ ps
theorem PairsHeld.step {X : World} {b n : Nat} {ps : List Txt} {D : DataW Unit} (h : PairsHeld X b n ps D) (hn : n ≤ 1000) (x : Txt) (hx : (strOf x).size ≤ 1000) :
    ∃ X' D', (Instr.mapUpdate 65 (.map (some b)) (.string (strOf x)) (.bool true)).run Try.prog X = .ok () X' ∧ PairsHeld X' b (n + 1) (ps ++ [x]) D' ∧ X.grownBy X' (some b) := by
  have hkey : keyOf Try.prog 9 (.string (strOf x)) = some (.string (strOf x).data.toList) := WideMaps.keyOf_string_mk Try.underlying9 (by unfold maxLen; omega)
  obtain ⟨X', h1, h2, h3⟩ := h.own.update (Maps.string_keyed Try.underlying9) Try.underlying65 (by unfold maxLen; omega) hkey (plainElem_bool (H := Unit) Try.underlying4 true)
  refine ⟨X', _, h1, ⟨h2, fun s => ?_⟩, h3⟩
  have e : (strOf x).data.toList = x := rfl
  rw [e]
  by_cases hs : s = x
  · subst hs
    rw [Maps.has_put_same h.own.isMap (show WideAt.IsKeyLit (Lit.string _) from trivial)]
    simp
  · rw [Maps.has_put_other (by intro hh; injection hh with hh; exact hs hh), h.has, List.mem_append, List.mem_singleton]
    exact ⟨.inl, fun hh => hh.resolve_right hs⟩
/-- The keys of such a map, sorted, are the texts put in one by one. -/
theorem PairsHeld.sorted {X : World} {b n : Nat} {ps ss : List Txt} {D : DataW Unit} (h : PairsHeld X b n ps D) (hp : ss.Perm (strKeys D)) : (ss.mergeSort fun x y => decide (x ≤ y)) = putAll [] ps := by
  obtain ⟨es, rfl, hne, -⟩ := h.own.entries (Maps.string_keyed Try.underlying9)
  obtain ⟨es', he, hk⟩ := World.ownsMap.keysOf h.own
  injection he with he
  subst he
  have hall : ∀ p ∈ es, ∃ x, p.1 = Lit.string x := fun p hpm => by
    obtain ⟨key, hkey⟩ := hk p hpm
    obtain ⟨x, _, hx, _⟩ := Maps.keyOf_str Try.underlying9 hkey
    exact ⟨x, hx⟩
  have hs := putAll_sorted ps [] List.Pairwise.nil
  have hnd : (putAll [] ps).Nodup := hs.imp (fun {a b} hab e => by subst e; exact txt_irr _ hab)
  have hperm := perm_strKeys hne hall hnd (fun x => by rw [putAll_mem, h.has]; simp)
  have h1 := mergeSort_of_perm (hp.trans hperm.symm)
  have h2 : (putAll [] ps).mergeSort leB = putAll [] ps := List.mergeSort_of_pairwise (hs.imp (fun {a b} hab => decide_eq_true (List.le_of_lt hab)))
  exact h1.trans h2

attribute [local go_sem] Oper.semAt_some

set_option maxRecDepth 100000 in
set_option maxHeartbeats 4000000 in
theorem implPairsOf_any (A : Option Addr) (l : List Seg) (c : Nat) (t : ByteArray) (w : World) (hw : Segs w w.heap.size A l) (hl : l.length ≤ 1048576) (hlc : l.length ≤ c) (hcm : c ≤ 9223372036854775807) (hn : Short l) (ht : t.size ≤ 1048576) :
    Calls Try.prog 13 #[.slice A l.length c, .string t] w (PairsPost w l t) := by
  have HQ := Lib.hid (readTrace_any A l c t w hw hl hlc hcm hn ht)
  have HW : Hid (Segs w w.heap.size A l) := hw
  unfold PairsPost pairsRes xsRes
  cases hR : traceB l t.data.toList with
  | none =>
    rw [hR] at HQ
    have HE : Hid (∀ W : World, Below w.heap.size w W → ∃ v, Ending.returned (.tuple #[.slice none 0 0, .bool false]) = .returned (.tuple #[v, .bool (none : Option Forest).isSome]) ∧ OwnTexts W w.heap.size v [] ∧ Below w.heap.size w W) :=
      fun W hb => ⟨_, rfl, World.ownsRow_nil W _ _ 1, hb⟩
    clear hw hn hR
    go_enter Try.func13, Try.ntmps13
    go_wp2_with fail
    refine Calls.mono HQ.out ?_
    rintro e w2 ⟨v, rfl, -, hb⟩
    go_wp2
    go_ret2
    exact HE.out _ hb
  | some f =>
    have hsz := traceB_size hR
    have HV := Lib.hid (traceB_some hR).1
    rw [hR] at HQ
    have HFX : Hid (∀ x ∈ chainsB [rootB l] f, fix2 x = x) := fun x hx => by
      obtain ⟨⟨y, u, v, rfl, _⟩, h9⟩ := trace_two hR x hx
      unfold fix2
      rw [if_pos ⟨by simp, by omega⟩]
    have HE : Hid (∀ (v : Value) (W : World), OwnTexts W w.heap.size v ((putAll [] ((chainsB [rootB l] f).map twoB)).map strOf) → Below w.heap.size w W → ∃ u, Ending.returned (.tuple #[v, .bool true]) = .returned (.tuple #[u, .bool (some f).isSome]) ∧ OwnTexts W w.heap.size u ((putAll [] ((chainsB [rootB l] f).map twoB)).map strOf) ∧ Below w.heap.size w W) :=
      fun v W h hb => ⟨v, rfl, h, hb⟩
    clear hw hn hR
    refine (callsIn_wide (n := 20)).1 ?_
    refine callsIn_of_wp_marks Try.func13 rfl trivial ?_ rfl
    simp only [Try.ntmps13, List.size_toArray, List.length_cons, List.length_nil, Nat.reduceAdd, Nat.reduceSub, Array.replicate_succ, Array.replicate_zero, List.push_toArray, List.append_toArray, List.nil_append, List.cons_append]
    gi_wp2_with fail
    refine ⟨trivial, ?_⟩
    gi_at_call 44
    refine (callsIn_wide.2 HQ.out).mono ?_
    rintro e w2 ⟨v, rfl, (⟨f', hf', hsl⟩ | ⟨h0, -⟩), hb⟩
    · obtain rfl : f = f' := by injection hf'
      have HSL : Hid (SliceIs w2 (· < w2.heap.size) v f) := hsl.keep fun q hq => ⟨hq.2, rfl⟩
      have HB := Lib.hid hb
      obtain ⟨b0, o0, rfl, hB0, c0⟩ := (HW.out.below hb).root HV.out
      obtain ⟨A2, cap2, rfl, -⟩ := id hsl
      have hlp : (0 : Int) < (l.length : Int) := by have := (valid_all HV.out).2.2; omega
      clear hsl hb hf' HQ
      have c1 : ((w2.alloc (.map #[] 0)).alloc (.cells #[.map (some w2.heap.size)] 65)).cell? ⟨b0, o0, none⟩ = some (.string ⟨#[rootB l]⟩) := by
        have hbb : Below w2.heap.size w2 ((w2.alloc (.map #[] 0)).alloc (.cells #[.map (some w2.heap.size)] 65)) := ((Below.refl _ w2).alloc (Nat.le_refl _) _).alloc (by simp) _
        exact (hbb.cell (p := ⟨b0, o0, none⟩) (Nat.lt_of_lt_of_le hB0 (HB.out.size))).trans c0
      have hmk : (Instr.makeMap 65 none).run Try.prog w2 = .ok (.map (some w2.heap.size)) (w2.alloc (.map #[] 0)) := rfl
      gi_wp2_with fail
      refine ⟨trivial, ?_⟩
      gi_at_call 46
      refine (callsIn_wide.2 (chainsOf_any _ _ _ _ _)).mono ?_
      rintro e w3 ⟨rfl, rfl⟩
      gi_wp2
      have hz0 : ((((w2.alloc (.map #[] 0)).alloc (.cells #[.map (some w2.heap.size)] 65)).alloc (.cells #[.string ⟨#[rootB l]⟩] 9)).alloc (.cells #[.slice A2 f.len cap2] 54)).heap.size = w2.heap.size + 4 := by simp
      have hM0 : PairsHeld ((((w2.alloc (.map #[] 0)).alloc (.cells #[.map (some w2.heap.size)] 65)).alloc (.cells #[.string ⟨#[rootB l]⟩] 9)).alloc (.cells #[.slice A2 f.len cap2] 54)) w2.heap.size 0 (([] : List Txt).map fun x => twoB (fix2 x)) (.map []) := by
        refine ⟨?_, fun s => by simp [Maps.has]⟩
        exact ((((World.ownsMap_made w2 Try.prog 9 (plainElem Try.prog 4)).alloc _).alloc _).alloc _)
      have hrC : Row ((((w2.alloc (.map #[] 0)).alloc (.cells #[.map (some w2.heap.size)] 65)).alloc (.cells #[.string ⟨#[rootB l]⟩] 9)).alloc (.cells #[.slice A2 f.len cap2] 54)) (w2.heap.size + 1) 65 #[.map (some w2.heap.size)] := by
        have := Row.new (w2.alloc (.map #[] 0)) 65 #[.map (some w2.heap.size)]
        rw [World.size_alloc] at this
        exact (this.alloc _).alloc _
      have hr1 : Row ((((w2.alloc (.map #[] 0)).alloc (.cells #[.map (some w2.heap.size)] 65)).alloc (.cells #[.string ⟨#[rootB l]⟩] 9)).alloc (.cells #[.slice A2 f.len cap2] 54)) (w2.heap.size + 2) 9 #[.string ⟨#[rootB l]⟩] := by
        have := Row.new ((w2.alloc (.map #[] 0)).alloc (.cells #[.map (some w2.heap.size)] 65)) 9 #[.string ⟨#[rootB l]⟩]
        rw [World.size_alloc, World.size_alloc] at this
        exact this.alloc _
      have hr2 : Row ((((w2.alloc (.map #[] 0)).alloc (.cells #[.map (some w2.heap.size)] 65)).alloc (.cells #[.string ⟨#[rootB l]⟩] 9)).alloc (.cells #[.slice A2 f.len cap2] 54)) (w2.heap.size + 3) 54 #[.slice A2 f.len cap2] := by
        have := Row.new (((w2.alloc (.map #[] 0)).alloc (.cells #[.map (some w2.heap.size)] 65)).alloc (.cells #[.string ⟨#[rootB l]⟩] 9)) 54 #[.slice A2 f.len cap2]
        rw [World.size_alloc, World.size_alloc, World.size_alloc] at this
        exact this
      have hb0 : Below w2.heap.size w2 ((((w2.alloc (.map #[] 0)).alloc (.cells #[.map (some w2.heap.size)] 65)).alloc (.cells #[.string ⟨#[rootB l]⟩] 9)).alloc (.cells #[.slice A2 f.len cap2] 54)) := ((((Below.refl _ w2).alloc (Nat.le_refl _) _).alloc (by simp) _).alloc (by simp; omega) _).alloc (by simp; omega) _
      clear c1 hmk
      generalize ((((w2.alloc (.map #[] 0)).alloc (.cells #[.map (some w2.heap.size)] 65)).alloc (.cells #[.string ⟨#[rootB l]⟩] 9)).alloc (.cells #[.slice A2 f.len cap2] 54)) = W0 at *
      refine wpIn_rangeFunc_R (by omega) (gf := 80) (lb := #[.pointer (some ⟨w2.heap.size + 1 + 1 + 1, 0, none⟩), .pointer (some ⟨w2.heap.size + 1 + 1, 0, none⟩)]) rfl (enters_of Try.func80 (by kernel_rfl) rfl)
        (chains1_seq w2.heap.size (w2.heap.size + 1) fix2 (f.size + 1) f [rootB l] f.size 19 (w2.heap.size + 3) (w2.heap.size + 2) (.slice A2 f.len cap2) W0 (by omega) (by simp; omega) HFX.out ⟨.inr (by omega), by decide, hr2⟩ ⟨.inr (by omega), by decide, hr1⟩ (HSL.out.below hb0) (by omega) (Nat.le_refl _) (by omega))
        (by omega) (by omega) (Below.refl _ _) (fun _ => rfl)
        (fun pre X => (∃ D n, n ≤ pre.length ∧ PairsHeld X w2.heap.size n (pre.map fun x => twoB (fix2 x)) D) ∧ Row X (w2.heap.size + 1) 65 #[.map (some w2.heap.size)] ∧ Below w2.heap.size w2 X)
        (fun _ _ _ => False)
        (fun pre X Y row hs hg hr => ⟨by obtain ⟨D, n, h1, h2⟩ := hs.1; exact ⟨D, n, h1, h2.own.kept hg (fun e => by have := (hr _ e.symm).1; omega), h2.has⟩, row_grownT hs.2.1 hg hr, hs.2.2.grown hg hs.2.2.size (fun k e => by have := (hr k e).1; omega)⟩)
        (fun _ _ _ _ _ hs _ _ => hs)
        ⟨⟨_, 0, Nat.le_refl _, hM0⟩, hrC, hb0⟩
        (fun x => { tmps := #[.slice (some ⟨b0, o0, none⟩) l.length c, .string t, undef, undef, .slice none 0 0, .bool false, .slice A2 f.len cap2, .bool true, .pointer (some ⟨w2.heap.size + 1, 0, none⟩), .string (strOf (fix2 x)), .tuple #[.slice A2 f.len cap2, .bool true], .slice (some ⟨b0, o0, none⟩) l.length c, .string t, .tuple #[.slice A2 f.len cap2, .bool true], .slice A2 f.len cap2, .bool true, .bool true, .bool false, .map (some w2.heap.size), .slice (some ⟨b0, o0, none⟩) l.length c, .pointer (some ⟨b0, o0, none⟩), .pointer (some ⟨b0, o0, none⟩), .string ⟨#[rootB l]⟩, .slice A2 f.len cap2, .func (.func 80) #[] #[.pointer (some ⟨w2.heap.size + 1 + 1 + 1, 0, none⟩), .pointer (some ⟨w2.heap.size + 1 + 1, 0, none⟩)], .string (strOf (fix2 x)), undef, undef, undef, undef, undef, undef, undef, undef, undef], defers := [] }) ?assign ?body ?done ?stop
      case assign =>
        intro l2 x X K hK
        gi_wp2
        exact hK
      case body =>
        rintro l2 pre x X ⟨⟨D, n, hnl, hM⟩, hrX, hbX⟩ hlen hz
        have cT : X.cell? ⟨w2.heap.size + 1, 0, none⟩ = some (.map (some w2.heap.size)) := hrX.cell 0
        obtain ⟨hfx1, hfx2⟩ := fix2_ok x
        obtain ⟨y, u, v, hyd⟩ := two_of hfx1
        have hsz1 : (strOf (fix2 x)).size = (fix2 x).length := str_size _
        have HX : Hid ((strOf (fix2 x)).extract ((strOf (fix2 x)).size - 2) (strOf (fix2 x)).size = strOf (twoB (fix2 x))) := by
          show _ = _
          rw [hyd]
          exact str_two y u v
        have hts : (strOf (twoB (fix2 x))).size ≤ 1000 := by rw [str_size]; simp [twoB]
        obtain ⟨X', D', hrun, hM', hg'⟩ := PairsHeld.step (X := X.drew) (b := w2.heap.size) (n := n) ⟨hM.own.drew, hM.has⟩ (by omega) (twoB (fix2 x)) hts
        have HM' := Lib.hid hM'
        have HRX : Hid (Row X' (w2.heap.size + 1) 65 #[.map (some w2.heap.size)]) := (hg'.block _ (Row.lt hrX) (fun e => by injection e with e; omega)).trans hrX
        have HBX : Hid (Below w2.heap.size X X') := (Below.refl _ X).drew.grown hg' (by have := hbX.size; exact this) (fun k e => by injection e with e; omega)
        have HBW : Hid (Below w2.heap.size w2 X') := hbX.trans HBX.out
        have HKX : Hid (KeepsN (w2.heap.size + 1) X X') := ⟨hg'.size, fun k o hk ho _ => (hg'.block k (Array.getElem?_eq_some_iff.1 ho).1 (fun e => by injection e with e; omega)).trans ho⟩
        have hz2 : 2 ≤ (strOf (fix2 x)).size := by omega
        have hz9 : (strOf (fix2 x)).size ≤ 1000 := by omega
        have h4 : ((strOf (fix2 x)).size : Int) - 2 = (((strOf (fix2 x)).size - 2 : Nat) : Int) := by omega
        obtain ⟨p2, hp2⟩ : ∃ p2 : Nat, p2 = (strOf (fix2 x)).size - 2 := ⟨_, rfl⟩
        have hw4 : IntKind.i64.wrap (((strOf (fix2 x)).size : Int) - 2) = (p2 : Int) := (IntWalk.i64_in _ (by omega)).trans (by omega)
        have hpz : (p2 : Int) ≤ ((strOf (fix2 x)).size : Int) := by omega
        rw [← HX.out, ← hp2] at hrun
        have hmx : Try.prog.follows .mixedOrders = true := by kernel_rfl
        clear hM hrX hbX hfx1 hfx2 hyd hsz1 hM' hg' hts HX h4 hp2
        generalize strOf (fix2 x) = z at *
        gi_wp2_with fail
        gi_region_with_o (fail)
        all_goals gi_wp2
        all_goals exact ⟨by rw [Nat.min_eq_right (by omega)]; exact HKX.out, HBX.out, ⟨D', n + 1, by simp; omega, by rw [List.map_append]; exact HM'.out⟩, HRX.out, HBW.out⟩
      case done =>
        rintro L ys X hL rfl ⟨⟨D, n, hnl, hM⟩, hrX, hbX⟩ hK
        have d1 : X.cell? ⟨w2.heap.size + 1, 0, none⟩ = some (.map (some w2.heap.size)) := hrX.cell 0
        have hmap : ((chainsB [rootB l] f).map fun x => twoB (fix2 x)) = (chainsB [rootB l] f).map twoB := List.map_congr_left fun x hx => by rw [HFX.out x hx]
        rw [hmap] at hM
        have hcl : (chainsB [rootB l] f).length ≤ 80 := by rw [chainsB_len]; omega
        have hsd : Maps.size D ≤ 80 := Nat.le_trans hM.own.size_le (by omega)
        have HM := Lib.hid hM
        have HBX' := Lib.hid hbX
        have hfK : Fence.wide.fn 50 := trivial
        have hfS : Fence.wide.fn 49 := trivial
        clear hM hrX hbX hmap
        gi_wp2_with (first
          | (gi_at_call 50; refine ((Try.maps_Keys_50 _ _).more (show 5 ≤ 19 by omega)).mono ?_; rintro e w' ⟨rfl, rfl⟩)
          | (gi_at_call 49; refine ((Try.slices_Sorted_keys_49_50 w2.heap.size n D _ X HM.out.own (by unfold maxLen; omega) (by omega)).more (show 5 ≤ 19 by omega)).mono ?_; rintro e w' ⟨v, ss, rfl, hS, hrow, hnil, hb⟩))
        have hbz : w.heap.size ≤ (X.alloc (.cells #[.map (some w2.heap.size)] 65)).heap.size := by
          have h1 := HB.out.size
          have h2 := HBX'.out.size
          simp
          omega
        have hown : OwnTexts w' w.heap.size v ((putAll [] ((chainsB [rootB l] f).map twoB)).map strOf) := by
          have hs := HM.out.sorted hS
          unfold OwnTexts
          rw [← hs, List.length_map, List.length_mergeSort, List.map_map]
          exact own_low hrow hbz
        have hLX : L < X.heap.size := (Array.getElem?_eq_some_iff.1 hK).1
        have hK1 : w'.heap[L]? = some (.deferred (some [])) := (hb.block L (by simp; omega)).trans ((Below.heap_alloc X _ L hLX).trans hK)
        have HBF : Below w.heap.size w w' := (HB.out.trans (HBX'.out.mono HB.out.size)).trans (((Below.refl _ X).alloc (by have := HB.out.size; have := HBX'.out.size; omega) _).trans (hb.mono hbz))
        refine ⟨by simp, .inl ⟨_, _, rfl, run_takeDeferred hK1, ?_⟩⟩
        refine ⟨_, results_tmp2 rfl _ _ _, ?_⟩
        refine HE.out _ _ (own_grownT hown (grownBy_putObj' w' L _) (fun r e => by cases e; exact ⟨_, hK1, rfl⟩)) (HBF.trans (belowK_b (w := w) (Nat.le_refl _) w' L _ _ (by have := HB.out.size; omega) hK1 rfl rfl))
      case stop =>
        rintro L c' pre X _ _ h _
        exact h.elim
    · cases h0

end Go.Proofs.Ytafpefjjeddmeaa
/- The walk of the law FnExactPairsOf. -/
namespace Go.Proofs.Ytafpefjjeddmeaa
open Go.RowKit

theorem pairsRes_le (l : List Seg) (t : ByteArray) : (pairsRes l t).length ≤ 80 := by
  unfold pairsRes
  rw [List.length_map]
  have h1 := putAll_len ((xsRes l t).map twoB) []
  have h3 := xsRes_len l t
  rw [List.length_map] at h1
  simp only [List.length_nil] at h1
  omega

set_option maxRecDepth 100000 in
set_option maxHeartbeats 4000000 in
theorem lawPairsOf_any (A : Option Addr) (l : List Seg) (c : Nat) (s : ByteArray) (w : World) (hw : Segs w w.heap.size A l) (hl : l.length ≤ maxLen) (hn : Short l) (hsz : s.size ≤ maxLen) :
    Calls Try.prog 4 #[.slice A l.length c, .string s] w fun e w' => e = .returned (.bool true) ∧ Below w.heap.size w w' := by
  have HW : Hid (Segs w w.heap.size A l) := hw
  clear hw
  unfold maxLen at hsz
  by_cases hbigs : 1048576 < s.size
  · go_enter Try.func4, Try.ntmps4
    go_wp2
    go_ret
    exact ⟨rfl, Below.refl _ _⟩
  by_cases hs : sizeLeft l < 0
  · go_enter Try.func4, Try.ntmps4
    go_wp2_with fail
    refine (szSegmentS_any _ _ _ _ HW.out hl hn).mono ?_
    rintro e w1 ⟨rfl, hb1⟩
    go_wp2
    go_ret
    exact ⟨rfl, hb1⟩
  · have hlen := sizeLeft_len hs
    have hst := pairsRes_le l s
    have hlm : l.length ≤ 9223372036854775807 := Nat.le_trans hlen (by decide)
    have HSP := Lib.hid (fun A c w h => specPairsOf_any A l c s w h hlen hn (Nat.le_of_not_lt hbigs))
    have HIM := Lib.hid (fun A w h => implPairsOf_any A l l.length s w h hlen (Nat.le_refl _) hlm hn (Nat.le_of_not_lt hbigs))
    unfold PairsPost at HSP HIM
    go_enter Try.func4, Try.ntmps4
    go_wp2_with fail
    refine (szSegmentS_any _ _ _ _ HW.out hl hn).mono ?_
    rintro e w1 ⟨rfl, hb1⟩
    have hs1 := (HW.out.below hb1).more hb1.size
    have HB1 : Hid (Below w.heap.size w w1) := hb1
    clear hb1
    generalize sizeLeft l = lft at *
    go_wp2_with fail
    refine (toSegmentS_any _ _ _ _ hs1 hlen).mono ?_
    rintro e w2 ⟨rfl, hb2, hx2⟩
    have HB2 : Hid (Below w.heap.size w w2) := HB1.out.trans (hb2.mono HB1.out.size)
    have HX2 := Lib.hid hx2
    clear hb2 hs1 hx2 HB1
    generalize pairsRes l s = ts at *
    generalize (traceB l s.data.toList).isSome = d at *
    go_wp2_with fail
    refine (HSP.out _ _ _ HX2.out).mono ?_
    rintro e w3 ⟨v0, rfl, ho3, hb3⟩
    obtain ⟨A0, cap0, rfl, -⟩ := St.textsForm ho3
    have HB3 : Hid (Below w.heap.size w w3) := HB2.out.trans (hb3.mono HB2.out.size)
    have HO3 : Hid (OwnTexts w3 w2.heap.size (.slice A0 ts.length cap0) ts) := ho3
    have HS3 : Hid (Segs w3 w3.heap.size A l) := (HW.out.below HB3.out).more HB3.out.size
    clear hb3 ho3 HX2 HSP
    go_wp2_with fail
    refine (St.toSegmentS_row _ _ _ _ HS3.out hlen).mono ?_
    rintro e w4 ⟨rfl, hb4, hx4, cs, hr4, hcs⟩
    have HB4 : Hid (Below w.heap.size w w4) := HB3.out.trans (hb4.mono HB3.out.size)
    have HO4 : Hid (OwnTexts w4 w2.heap.size (.slice A0 ts.length cap0) ts) := HO3.out.below hb4
    have HL4 : Hid (∀ g, (Value.slice A0 ts.length cap0).ownBlock = some g → g < w3.heap.size) := fun g hg => (World.ownsRow.lt HO3.out g hg).2
    have HX4 := Lib.hid hx4
    have HR4 := Lib.hid hr4
    have HCS := Lib.hid hcs
    have HZ4 : Hid (w3.heap.size < w4.heap.size) := hr4.lt
    clear hb4 hx4 hr4 hcs HS3 HO3
    go_wp2_with fail
    refine (HIM.out _ _ HX4.out).mono ?_
    rintro e w5 ⟨v1, rfl, ho5, hb5⟩
    obtain ⟨A1, cap1, rfl, hf5⟩ := St.textsForm ho5
    have HB5 : Hid (Below w.heap.size w w5) := HB4.out.trans (hb5.mono HB4.out.size)
    have HO5 : Hid (OwnTexts w5 w2.heap.size (.slice A0 ts.length cap0) ts) := HO4.out.below hb5
    have HP5 : Hid (OwnTexts w5 w4.heap.size (.slice A1 ts.length cap1) ts) := ho5
    have HR5 : Hid (Row w5 w3.heap.size 36 cs) := HR4.out.below hb5 HZ4.out
    have HX5 : Hid (Segs w5 w5.heap.size (some ⟨w3.heap.size, 0, none⟩) l) := (HX4.out.below hb5).more hb5.size
    have HZ5 : Hid (w4.heap.size ≤ w5.heap.size) := hb5.size
    clear hf5 hb5 ho5 HX4 HR4 HO4
    go_wp2_with fail
    refine (St.eqStringS_same A1 A0 ts cap1 cap0 w5 (strsOf HP5.out) (strsOf HO5.out) (by omega)).mono ?_
    rintro e w6 ⟨rfl, hb6⟩
    have HB6 : Hid (Below w.heap.size w w6) := HB5.out.trans (hb6.mono HB5.out.size)
    have HO6 : Hid (OwnTexts w6 w2.heap.size (.slice A0 ts.length cap0) ts) := HO5.out.below hb6
    have HP6 : Hid (OwnTexts w6 w4.heap.size (.slice A1 ts.length cap1) ts) := HP5.out.below hb6
    have HR6 : Hid (Row w6 w3.heap.size 36 cs) := HR5.out.below hb6 HR5.out.lt
    have HX6 : Hid (Segs w6 w6.heap.size (some ⟨w3.heap.size, 0, none⟩) l) := (HX5.out.below hb6).more hb6.size
    have HS6 : Hid (Segs w6 w6.heap.size A l) := (HW.out.below HB6.out).more HB6.out.size
    clear hb6 HB5 HO5 HP5 HR5 HX5 HZ5
    go_wp2_with fail
    refine (toSegmentS_any _ _ _ _ HS6.out hlen).mono ?_
    rintro e w7 ⟨rfl, hb7, hx7⟩
    have HB7 : Hid (Below w.heap.size w w7) := HB6.out.trans (hb7.mono HB6.out.size)
    have HO7 : Hid (OwnTexts w7 w2.heap.size (.slice A0 ts.length cap0) ts) := HO6.out.below hb7
    have HP7 : Hid (OwnTexts w7 w4.heap.size (.slice A1 ts.length cap1) ts) := HP6.out.below hb7
    have HR7 : Hid (Row w7 w3.heap.size 36 cs) := HR6.out.below hb7 HR6.out.lt
    have HX7 : Hid (Segs w7 w7.heap.size (some ⟨w3.heap.size, 0, none⟩) l) := (HX6.out.below hb7).more hb7.size
    have HY7 := Lib.hid hx7
    clear hb7 hx7 HB6 HO6 HP6 HR6 HX6 HS6
    go_wp2_with fail
    refine (eqSegmentS_same _ _ _ _ _ _ HX7.out HY7.out hlen).mono ?_
    rintro e w8 ⟨rfl, hb8⟩
    have HB8 : Hid (Below w.heap.size w w8) := HB7.out.trans (hb8.mono HB7.out.size)
    have HO8 : Hid (OwnTexts w8 w2.heap.size (.slice A0 ts.length cap0) ts) := HO7.out.below hb8
    have HP8 : Hid (OwnTexts w8 w4.heap.size (.slice A1 ts.length cap1) ts) := HP7.out.below hb8
    have HR8 : Hid (Row w8 w3.heap.size 36 cs) := HR7.out.below hb8 HR7.out.lt
    clear hb8 HB7 HO7 HP7 HR7 HX7 HY7
    go_wp2_with fail
    refine (mark1 w3.heap.size l.length l.length cs w8 HR8.out HCS.out hlen).mono ?_
    rintro e w9 ⟨rfl, hy9⟩
    have HB9 : Hid (Below w.heap.size w w9) := Only.below HB8.out hy9 HB8.out.size (fun k hk e => by have := HB3.out.size; omega)
    have HO9 : Hid (OwnTexts w9 w2.heap.size (.slice A0 ts.length cap0) ts) := St.textsFar HO8.out hy9 (fun g hg e => by have := HL4.out g hg; omega)
    have HP9 : Hid (OwnTexts w9 w4.heap.size (.slice A1 ts.length cap1) ts) := St.textsFar HP8.out hy9 (fun g hg e => by have := (World.ownsRow.lt HP8.out g hg).1; have := HZ4.out; omega)
    clear hy9 HB8 HO8 HP8 HR8 HCS
    have hq1 : ¬ ((1 + 3 * l.length : Nat) : Int) < 0 := by omega
    have hq0 : (0 : Int) ≤ ((1 + 3 * l.length : Nat) : Int) := by omega
    generalize ((1 + 3 * l.length : Nat) : Int) = q at *
    go_wp2_with fail
    refine (St.eqStringS_same A1 A0 ts cap1 cap0 w9 (strsOf HP9.out) (strsOf HO9.out) (by omega)).mono ?_
    rintro e w10 ⟨rfl, hb10⟩
    have HB10 : Hid (Below w.heap.size w w10) := HB9.out.trans (hb10.mono HB9.out.size)
    have HO10 : Hid (OwnTexts w10 w2.heap.size (.slice A0 ts.length cap0) ts) := HO9.out.below hb10
    have HP10 : Hid (OwnTexts w10 w4.heap.size (.slice A1 ts.length cap1) ts) := HP9.out.below hb10
    clear hb10 HB9 HO9 HP9
    go_wp2_with fail
    refine (smark1 _ _ ts w10 HP10.out (by omega)).mono ?_
    rintro e w11 ⟨rfl, ho11, hy11⟩
    have HB11 : Hid (Below w.heap.size w w11) := Only.below HB10.out hy11 HB10.out.size (fun k hk e => by have := (World.ownsRow.lt HP10.out k e).1; have := HB4.out.size; omega)
    have HO11 : Hid (OwnTexts w11 w2.heap.size (.slice A0 ts.length cap0) ts) := St.textsFar HO10.out hy11 (fun g hg e => by have := HL4.out g hg; have := (World.ownsRow.lt HP10.out g e).1; have := HZ4.out; omega)
    have HM11 : Hid (St.Strs w11 w11.heap.size A1 (St.smarked ts 1 ts.length)) := strsOf ho11
    clear ho11 hy11 HB10 HO10 HP10
    have hm1 : ¬ ((1 + ts.length : Nat) : Int) < 0 := by omega
    have hm0 : (0 : Int) ≤ ((1 + ts.length : Nat) : Int) := by omega
    have HH := Lib.hid (fun W h => sheld1 A1 ts.length cap1 ts W rfl h (by omega))
    have HMK := Lib.hid (fun W W' h hb => (St.Strs.more (St.Strs.below (w := W) (w' := W') (B := W.heap.size) (A := A1) (l := St.smarked ts 1 ts.length) h hb) hb.size : St.Strs W' W'.heap.size A1 (St.smarked ts 1 ts.length)))
    generalize ((1 + ts.length : Nat) : Int) = m at *
    go_wp2_with fail
    refine Calls.mono (HH.out w11 HM11.out) ?_
    rintro e w12 ⟨rfl, hb12⟩
    have HB12 : Hid (Below w.heap.size w w12) := HB11.out.trans (hb12.mono HB11.out.size)
    have HO12 : Hid (OwnTexts w12 w2.heap.size (.slice A0 ts.length cap0) ts) := HO11.out.below hb12
    have HM12 : Hid (St.Strs w12 w12.heap.size A1 (St.smarked ts 1 ts.length)) := HMK.out w11 w12 HM11.out hb12
    have HS12 : Hid (Segs w12 w12.heap.size A l) := (HW.out.below HB12.out).more HB12.out.size
    clear hb12 HB11 HO11 HM11
    go_wp2_with fail
    refine (toSegmentS_any _ _ _ _ HS12.out hlen).mono ?_
    rintro e w13 ⟨rfl, hb13, hx13⟩
    have HB13 : Hid (Below w.heap.size w w13) := HB12.out.trans (hb13.mono HB12.out.size)
    have HO13 : Hid (OwnTexts w13 w2.heap.size (.slice A0 ts.length cap0) ts) := HO12.out.below hb13
    have HM13 : Hid (St.Strs w13 w13.heap.size A1 (St.smarked ts 1 ts.length)) := HMK.out w12 w13 HM12.out hb13
    have HX13 := Lib.hid hx13
    clear hb13 hx13 HB12 HO12 HM12 HS12
    go_wp2_with fail
    refine (HIM.out _ _ HX13.out).mono ?_
    rintro e w14 ⟨v2, rfl, ho14, hb14⟩
    obtain ⟨A2, cap2, rfl, hf14⟩ := St.textsForm ho14
    have HB14 : Hid (Below w.heap.size w w14) := HB13.out.trans (hb14.mono HB13.out.size)
    have HO14 : Hid (OwnTexts w14 w2.heap.size (.slice A0 ts.length cap0) ts) := HO13.out.below hb14
    have HM14 : Hid (St.Strs w14 w14.heap.size A1 (St.smarked ts 1 ts.length)) := HMK.out w13 w14 HM13.out hb14
    have HF14 := Lib.hid hf14
    clear hb14 ho14 hf14 HB13 HO13 HM13 HX13
    go_wp2_with fail
    refine (St.eqStringS_same A2 A0 ts cap2 cap0 w14 HF14.out (strsOf HO14.out) (by omega)).mono ?_
    rintro e w15 ⟨rfl, hb15⟩
    have HB15 : Hid (Below w.heap.size w w15) := HB14.out.trans (hb15.mono HB14.out.size)
    have HM15 : Hid (St.Strs w15 w15.heap.size A1 (St.smarked ts 1 ts.length)) := HMK.out w14 w15 HM14.out hb15
    clear hb15 HB14 HO14 HM14 HF14
    go_wp2_with fail
    refine Calls.mono (HH.out w15 HM15.out) ?_
    rintro e w16 ⟨rfl, hb16⟩
    have HB16 : Hid (Below w.heap.size w w16) := HB15.out.trans (hb16.mono HB15.out.size)
    clear hb16 HB15 HM15
    go_wp2
    go_ret
    exact ⟨rfl, HB16.out⟩

end Go.Proofs.Ytafpefjjeddmeaa
