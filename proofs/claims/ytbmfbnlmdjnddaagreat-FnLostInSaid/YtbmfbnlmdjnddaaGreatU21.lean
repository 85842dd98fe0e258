/- Joined: Bg It Bq Ja Bi. -/
import Derived.Test.YtbmfbnlmdjnddaaGreatU15
import Derived.Test.YtbmfbnlmdjnddaaGreatU19
import Derived.Test.YtbmfbnlmdjnddaaGreatU20
import Derived.Test.YtbmfbnlmdjnddaaGreatSh
import Derived.Lib.SlKept
import Derived.Lib.SliceRun
import Derived.Lib.OwnBridge
import Derived.Sort.OwnSorted
import Derived.Sort.Grow
import Derived.Shelf.SlIter.Nil
import Derived.Shelf.SortM.Plain
import Derived.Shelf.SortM.SortNone
import Derived.Ground.GgzProg
import Derived.Ground.SlgmProg
import Derived.Test.YtbmfbnlmdjnddaaGreatProg
import Derived.Maps.OwnIn
import Derived.Maps.Views
import Derived.Sort.KeysCollected
import Derived.StringKeys
import Derived.Test.YtbmfbnlmdjnddaaGreatU16
import Derived.Test.YtbmfbnlmdjnddaaGreatU17
/- UnsafeChains and IsSafe on both sides. -/
namespace Go.Proofs.YtbmfbnlmdjnddaaGreat
open Go.RowKit Go.Shelf

/-- The chains of a trace, none if it is no trace. -/
def xsRes (l : List Seg) (t : ByteArray) : List Txt := match traceB l t.data.toList with
  | none => []
  | some f => chainsB [rootB l] f
theorem chainsRes_xs (l : List Seg) (t : ByteArray) : chainsRes l t = (xsRes l t).map strOf := by
  unfold chainsRes xsRes
  cases traceB l t.data.toList with
  | none => rfl
  | some f => rfl
theorem xsRes_two {l : List Seg} {t : ByteArray} : ∀ x ∈ xsRes l t, (∃ y u v, x = y ++ [u, v]) ∧ x.length ≤ 9 := by
  unfold xsRes
  cases hR : traceB l t.data.toList with
  | none => intro x hx; cases hx
  | some f =>
    intro x hx
    obtain ⟨⟨y, u, v, e, _⟩, h9⟩ := trace_two hR x hx
    exact ⟨⟨y, u, v, e⟩, h9⟩
theorem xsRes_len (l : List Seg) (t : ByteArray) : (xsRes l t).length ≤ 80 := by
  unfold xsRes
  cases hR : traceB l t.data.toList with
  | none => exact Nat.zero_le _
  | some f =>
    show (chainsB [rootB l] f).length ≤ 80
    rw [chainsB_len]
    exact (traceB_size hR).1
theorem filter_take {p : Txt → Bool} {xs : List Txt} {k : Nat} (hk : k < xs.length) : (xs.take (k + 1)).filter p = (xs.take k).filter p ++ if p xs[k] = true then [xs[k]] else [] := by
  rw [List.take_succ_eq_append_getElem hk, List.filter_append]
  congr 1
  by_cases h : p xs[k] = true <;> simp [h]

end Go.Proofs.YtbmfbnlmdjnddaaGreat
/- The library's contracts on a map's keys, sorted, at this translation. -/
namespace Go.Proofs
open Go.Shelf
def Tryz.keys147_ren : Go.Shelf.Ren := ⟨fun | 7 => 147 | 10 => 189 | n => n, fun | 23 => 99 | 26 => 9 | 3 => 4 | 28 => 87 | 0 => 0 | 27 => 86 | 33 => 104 | 4 => 4 | n => n, fun | n => n⟩
theorem Tryz.keys147 : Go.Proofs.SlLaysZ.n7 Tryz.prog Tryz.keys147_ren := {
  mixed := by kernel_rfl
  f7 := ⟨Tryz.f147.name, by decide, Tryz.func147.trans (congrArg some (by kernel_rfl))⟩
  f10 := ⟨Tryz.f189.name, by decide, Tryz.func189.trans (congrArg some (by kernel_rfl))⟩
  t0 := Tryz.underlying0
  a0 := Tryz.isAgg0
  z0 := Tryz.sizeOf0
  v0 := Tryz.zeroValue0
  t4 := Tryz.underlying4
  a4 := Tryz.isAgg4
  z4 := Tryz.sizeOf4
  v4 := Tryz.zeroValue4
  t23 := Tryz.underlying99
  a23 := Tryz.isAgg99
  z23 := Tryz.sizeOf99
  v23 := Tryz.zeroValue99
  t26 := Tryz.underlying9
  a26 := Tryz.isAgg9
  z26 := Tryz.sizeOf9
  v26 := Tryz.zeroValue9
  t27 := Tryz.underlying86
  a27 := Tryz.isAgg86
  z27 := Tryz.sizeOf86
  v27 := Tryz.zeroValue86
  t28 := Tryz.underlying87
  a28 := Tryz.isAgg87
  z28 := Tryz.sizeOf87
  v28 := Tryz.zeroValue87
  t33 := Tryz.underlying104
  a33 := Tryz.isAgg104
  z33 := Tryz.sizeOf104
  v33 := Tryz.zeroValue104 }
def Tryz.sorted146_ren : Go.Shelf.Ren := ⟨fun | 6 => 146 | 8 => 69 | 9 => 188 | 11 => 135 | 13 => 205 | 12 => 204 | 23 => 221 | 24 => 222 | 14 => 212 | 15 => 213 | 16 => 214 | 17 => 215 | 18 => 216 | 19 => 217 | 20 => 218 | 21 => 219 | 22 => 220 | 25 => 228 | 26 => 229 | 27 => 230 | 28 => 231 | 29 => 232 | 30 => 233 | 31 => 235 | n => n, fun | 26 => 9 | 28 => 87 | 24 => 29 | 0 => 0 | 3 => 3 | 37 => 64 | 48 => 253 | 50 => 255 | 4 => 4 | 40 => 247 | 39 => 246 | 45 => 230 | 5 => 5 | 9 => 9 | 51 => 260 | 55 => 264 | 57 => 266 | 58 => 267 | 33 => 104 | n => n, fun | n => n⟩
theorem Tryz.sorted146 : Go.Proofs.SlLaysZ.n6 Tryz.prog Tryz.sorted146_ren := {
  mixed := by kernel_rfl
  f6 := ⟨Tryz.f146.name, by decide, Tryz.func146.trans (congrArg some (by kernel_rfl))⟩
  f8 := ⟨Tryz.f69.name, by decide, Tryz.func69.trans (congrArg some (by kernel_rfl))⟩
  f11 := ⟨Tryz.f135.name, by decide, Tryz.func135.trans (congrArg some (by kernel_rfl))⟩
  t0 := Tryz.underlying0
  a0 := Tryz.isAgg0
  z0 := Tryz.sizeOf0
  v0 := Tryz.zeroValue0
  t24 := Tryz.underlying29
  a24 := Tryz.isAgg29
  z24 := Tryz.sizeOf29
  v24 := Tryz.zeroValue29
  t26 := Tryz.underlying9
  a26 := Tryz.isAgg9
  z26 := Tryz.sizeOf9
  v26 := Tryz.zeroValue9
  t28 := Tryz.underlying87
  a28 := Tryz.isAgg87
  z28 := Tryz.sizeOf87
  v28 := Tryz.zeroValue87
  i26 := by kernel_rfl }
def Tryz.sort188_ren : Go.Shelf.Ren := ⟨fun | 6 => 188 | 8 => 205 | 9 => 204 | 19 => 221 | 20 => 222 | 21 => 212 | 22 => 213 | 23 => 214 | 24 => 215 | 25 => 216 | 26 => 217 | 27 => 218 | 28 => 219 | 29 => 220 | 36 => 228 | 31 => 229 | 32 => 230 | 37 => 231 | 38 => 232 | 39 => 233 | 41 => 235 | n => n, fun | 27 => 29 | 29 => 9 | 3 => 3 | 32 => 64 | 26 => 29 | 0 => 0 | 44 => 253 | 46 => 255 | 4 => 4 | 36 => 247 | 35 => 246 | 41 => 230 | 5 => 5 | 9 => 9 | 53 => 260 | 57 => 264 | 63 => 266 | 64 => 267 | n => n, fun | n => n⟩
theorem Tryz.sort188 : Go.Proofs.SlLaysM.n6 Tryz.prog Tryz.sort188_ren := {
  mixed := by kernel_rfl
  f6 := ⟨Tryz.f188.name, by decide, Tryz.func188.trans (congrArg some (by kernel_rfl))⟩
  f8 := Tryz.func205.trans (congrArg some (by kernel_rfl))
  f9 := ⟨Tryz.f204.name, by decide, Tryz.func204.trans (congrArg some (by kernel_rfl))⟩
  f19 := Tryz.func221.trans (congrArg some (by kernel_rfl))
  f20 := Tryz.func222.trans (congrArg some (by kernel_rfl))
  f21 := ⟨Tryz.f212.name, by decide, Tryz.func212.trans (congrArg some (by kernel_rfl))⟩
  f22 := ⟨Tryz.f213.name, by decide, Tryz.func213.trans (congrArg some (by kernel_rfl))⟩
  f23 := ⟨Tryz.f214.name, by decide, Tryz.func214.trans (congrArg some (by kernel_rfl))⟩
  f24 := ⟨Tryz.f215.name, by decide, Tryz.func215.trans (congrArg some (by kernel_rfl))⟩
  f25 := ⟨Tryz.f216.name, by decide, Tryz.func216.trans (congrArg some (by kernel_rfl))⟩
  f26 := ⟨Tryz.f217.name, by decide, Tryz.func217.trans (congrArg some (by kernel_rfl))⟩
  f27 := ⟨Tryz.f218.name, by decide, Tryz.func218.trans (congrArg some (by kernel_rfl))⟩
  f28 := ⟨Tryz.f219.name, by decide, Tryz.func219.trans (congrArg some (by kernel_rfl))⟩
  f29 := ⟨Tryz.f220.name, by decide, Tryz.func220.trans (congrArg some (by kernel_rfl))⟩
  f31 := Tryz.func229.trans (congrArg some (by kernel_rfl))
  f32 := Tryz.func230.trans (congrArg some (by kernel_rfl))
  f36 := ⟨Tryz.f228.name, by decide, Tryz.func228.trans (congrArg some (by kernel_rfl))⟩
  f37 := ⟨Tryz.f231.name, by decide, Tryz.func231.trans (congrArg some (by kernel_rfl))⟩
  f38 := ⟨Tryz.f232.name, by decide, Tryz.func232.trans (congrArg some (by kernel_rfl))⟩
  f39 := ⟨Tryz.f233.name, by decide, Tryz.func233.trans (congrArg some (by kernel_rfl))⟩
  f41 := ⟨Tryz.f235.name, by decide, Tryz.func235.trans (congrArg some (by kernel_rfl))⟩
  t0 := Tryz.underlying0
  a0 := Tryz.isAgg0
  z0 := Tryz.sizeOf0
  v0 := Tryz.zeroValue0
  t3 := Tryz.underlying3
  a3 := Tryz.isAgg3
  z3 := Tryz.sizeOf3
  v3 := Tryz.zeroValue3
  t4 := Tryz.underlying4
  a4 := Tryz.isAgg4
  z4 := Tryz.sizeOf4
  v4 := Tryz.zeroValue4
  t5 := Tryz.underlying5
  a5 := Tryz.isAgg5
  z5 := Tryz.sizeOf5
  v5 := Tryz.zeroValue5
  t9 := Tryz.underlying9
  a9 := Tryz.isAgg9
  z9 := Tryz.sizeOf9
  v9 := Tryz.zeroValue9
  t26 := Tryz.underlying29
  a26 := Tryz.isAgg29
  z26 := Tryz.sizeOf29
  v26 := Tryz.zeroValue29
  t27 := Tryz.underlying29
  a27 := Tryz.isAgg29
  z27 := Tryz.sizeOf29
  v27 := Tryz.zeroValue29
  t29 := Tryz.underlying9
  a29 := Tryz.isAgg9
  z29 := Tryz.sizeOf9
  v29 := Tryz.zeroValue9
  t32 := Tryz.underlying64
  a32 := Tryz.isAgg64
  z32 := Tryz.sizeOf64
  v32 := Tryz.zeroValue64
  t35 := Tryz.underlying246
  a35 := Tryz.isAgg246
  z35 := Tryz.sizeOf246
  v35 := Tryz.zeroValue246
  t36 := Tryz.underlying247
  a36 := Tryz.isAgg247
  z36 := Tryz.sizeOf247
  v36 := Tryz.zeroValue247
  t41 := Tryz.underlying230
  a41 := Tryz.isAgg230
  z41 := Tryz.sizeOf230
  v41 := Tryz.zeroValue230
  t44 := Tryz.underlying253
  a44 := Tryz.isAgg253
  z44 := Tryz.sizeOf253
  v44 := Tryz.zeroValue253
  t46 := Tryz.underlying255
  a46 := Tryz.isAgg255
  z46 := Tryz.sizeOf255
  v46 := Tryz.zeroValue255
  t53 := Tryz.underlying260
  a53 := Tryz.isAgg260
  z53 := Tryz.sizeOf260
  v53 := Tryz.zeroValue260
  t57 := Tryz.underlying264
  a57 := Tryz.isAgg264
  z57 := Tryz.sizeOf264
  v57 := Tryz.zeroValue264
  t63 := Tryz.underlying266
  a63 := Tryz.isAgg266
  z63 := Tryz.sizeOf266
  v63 := Tryz.zeroValue266
  t64 := Tryz.underlying267
  a64 := Tryz.isAgg267
  z64 := Tryz.sizeOf267
  v64 := Tryz.zeroValue267 }
set_option maxHeartbeats 1000000 in
open Go.RowKit Go.Maps Go.Sort in
theorem Tryz.sorts146 (m : Nat) : AnyZ.SortsIn Tryz.prog Tryz.sorted146_ren Fence.wide m :=
  ⟨fun blk off cap ss W hH hblk hsz => callsIn_wide.2 (AnyM.slices_Sort_string Tryz.sort188 blk off cap ss W hH hblk hsz),
   fun p cap W => callsIn_wide.2 (AnyM.slices_Sort_string_none Tryz.sort188 p cap W)⟩
set_option maxHeartbeats 1000000 in
open Go.RowKit Go.Maps Go.Sort in
theorem Tryz.maps_Keys_147 (mb : Option Nat) (W : World) : CallsIn Fence.wide 5 Tryz.prog 147 #[.map mb] W fun e w' => e = .returned (.func (.func 189) #[] #[.pointer (some ⟨W.heap.size, 0, none⟩)]) ∧ w' = W.alloc (.cells #[.map mb] 99) :=
  AnyZ.keys_in Tryz.keys147 Fence.wide 5 trivial rfl mb W
set_option maxHeartbeats 1000000 in
open Go.RowKit Go.Maps Go.Sort in
theorem Tryz.slices_Sorted_keys_146_147 {H : Type} (b nn : Nat) (D0 : DataW H) (R : Value → Option (DataW H × List MemPlace)) (w : World) (hown : w.ownsMap Tryz.prog 9 R b nn D0) (hmax : Maps.size D0 ≤ maxLen) (hbytes : Maps.size D0 * 16 ≤ 140737488355328) :
    CallsIn Fence.wide 5 Tryz.prog 146 #[.func (.func 189) #[] #[.pointer (some ⟨w.heap.size, 0, none⟩)]] (w.alloc (.cells #[.map (some b)] 99)) fun e w' => ∃ (v : Value) (ss : List (List UInt8)), e = .returned v ∧ ss.Perm (strKeys D0) ∧
      w'.ownsRow (w.alloc (.cells #[.map (some b)] 99)).heap.size 9 1 v ss.length ((ss.mergeSort (fun x y => decide (x ≤ y))).map encStr) ∧ (v = .slice none 0 0 ↔ ss = []) ∧ Below (w.alloc (.cells #[.map (some b)] 99)).heap.size (w.alloc (.cells #[.map (some b)] 99)) w' := by
  have hbl := hown.lt
  have hseq : SeqGives Fence.wide 2 Tryz.prog 189 #[.pointer (some ⟨w.heap.size, 0, none⟩)] encStr (fun ss => ss.Perm (strKeys D0)) (Maps.size D0) (w.alloc (.cells #[.map (some b)] 99)) :=
    AnyZ.keys_gives (ρ := Tryz.keys147_ren) { Tryz.keys147 with } Fence.wide _ trivial rfl (by omega) w.heap.size b nn D0 _ (by simp) (by simp) (by
      obtain ⟨es, clock, hb, Ft, hs, hD⟩ := hown
      exact ⟨es, clock, (Below.heap_alloc _ _ b hbl).trans hb, Ft, hs, hD⟩)
  exact AnyZ.sorted_in Tryz.sorted146 Fence.wide 5 trivial trivial trivial trivial rfl (by omega) (Tryz.sorts146 _) (enters_of Tryz.func188 (by kernel_rfl) rfl) 189 #[.pointer (some ⟨w.heap.size, 0, none⟩)] trivial (enters_of Tryz.func189 (by kernel_rfl) rfl) _ _ hmax hbytes _ hseq
set_option maxHeartbeats 1000000 in
open Go.RowKit Go.Maps Go.Sort in
theorem Tryz.slices_Sorted_keys_nil_146_147 (w : World) :
    CallsIn Fence.wide 5 Tryz.prog 146 #[.func (.func 189) #[] #[.pointer (some ⟨w.heap.size, 0, none⟩)]] (w.alloc (.cells #[.map none] 99)) fun e w' => ∃ (v : Value) (ss : List (List UInt8)), e = .returned v ∧ ss = [] ∧
      w'.ownsRow (w.alloc (.cells #[.map none] 99)).heap.size 9 1 v ss.length ((ss.mergeSort (fun x y => decide (x ≤ y))).map encStr) ∧ (v = .slice none 0 0 ↔ ss = []) ∧ Below (w.alloc (.cells #[.map none] 99)).heap.size (w.alloc (.cells #[.map none] 99)) w' := by
  have hseq : SeqGives Fence.wide 2 Tryz.prog 189 #[.pointer (some ⟨w.heap.size, 0, none⟩)] encStr (fun ss : List (List UInt8) => ss = []) 0 (w.alloc (.cells #[.map none] 99)) :=
    AnyZ.keys_gives_nil (ρ := Tryz.keys147_ren) { Tryz.keys147 with } Fence.wide _ trivial rfl w.heap.size _ (by simp) (by simp)
  exact AnyZ.sorted_in Tryz.sorted146 Fence.wide 5 trivial trivial trivial trivial rfl (by omega) (Tryz.sorts146 _) (enters_of Tryz.func188 (by kernel_rfl) rfl) 189 #[.pointer (some ⟨w.heap.size, 0, none⟩)] trivial (enters_of Tryz.func189 (by kernel_rfl) rfl) _ 0 (Nat.zero_le _) (by omega) _ hseq
end Go.Proofs
/- PairsOf on both sides. -/
namespace Go.Proofs.YtbmfbnlmdjnddaaGreat
open Go.RowKit Go.Shelf

/-- The map holds just some texts. -/
structure PairsHeld (X : World) (b n : Nat) (ps : List Txt) (D : DataW Unit) : Prop where
  own : X.ownsMap Tryz.prog 9 (plainElem Tryz.prog 4) b n D
  has : ∀ s, Maps.has D (.string s) = true ↔ s ∈ ps
theorem PairsHeld.step {X : World} {b n : Nat} {ps : List Txt} {D : DataW Unit} (h : PairsHeld X b n ps D) (hn : n ≤ 1000) (x : Txt) (hx : (strOf x).size ≤ 1000) :
    ∃ X' D', (Instr.mapUpdate 98 (.map (some b)) (.string (strOf x)) (.bool true)).run Tryz.prog X = .ok () X' ∧ PairsHeld X' b (n + 1) (ps ++ [x]) D' ∧ X.grownBy X' (some b) := by
  have hkey : keyOf Tryz.prog 9 (.string (strOf x)) = some (.string (strOf x).data.toList) := WideMaps.keyOf_string_mk Tryz.underlying9 (by unfold maxLen; omega)
  obtain ⟨X', h1, h2, h3⟩ := h.own.update (Maps.string_keyed Tryz.underlying9) Tryz.underlying98 (by unfold maxLen; omega) hkey (plainElem_bool (H := Unit) Tryz.underlying4 true)
  refine ⟨X', _, h1, ⟨h2, fun s => ?_⟩, h3⟩
  have e : (strOf x).data.toList = x := rfl
  rw [e]
  by_cases hs : s = x
  · subst hs
    rw [Maps.has_put_same h.own.isMap (show WideAt.IsKeyLit (Lit.string _) from trivial)]
    simp
  · rw [Maps.has_put_other (by intro hh; injection hh with hh; exact hs hh), h.has, List.mem_append, List.mem_singleton]
    exact ⟨.inl, fun hh => hh.resolve_right hs⟩
/-- The keys of such a map, sorted, are the texts put in one by one. -/
theorem PairsHeld.sorted {X : World} {b n : Nat} {ps ss : List Txt} {D : DataW Unit} (h : PairsHeld X b n ps D) (hp : ss.Perm (strKeys D)) : (ss.mergeSort fun x y => decide (x ≤ y)) = putAll [] ps := by
  obtain ⟨es, rfl, hne, -⟩ := h.own.entries (Maps.string_keyed Tryz.underlying9)
  obtain ⟨es', he, hk⟩ := World.ownsMap.keysOf h.own
  injection he with he
  subst he
  have hall : ∀ p ∈ es, ∃ x, p.1 = Lit.string x := fun p hpm => by
    obtain ⟨key, hkey⟩ := hk p hpm
    obtain ⟨x, _, hx, _⟩ := Maps.keyOf_str Tryz.underlying9 hkey
    exact ⟨x, hx⟩
  have hs := putAll_sorted ps [] List.Pairwise.nil
  have hnd : (putAll [] ps).Nodup := hs.imp (fun {a b} hab e => by subst e; exact txt_irr _ hab)
  have hperm := perm_strKeys hne hall hnd (fun x => by rw [putAll_mem, h.has]; simp)
  have h1 := mergeSort_of_perm (hp.trans hperm.symm)
  have h2 : (putAll [] ps).mergeSort leB = putAll [] ps := List.mergeSort_of_pairwise (hs.imp (fun {a b} hab => decide_eq_true (List.le_of_lt hab)))
  exact h1.trans h2

attribute [local go_sem] Oper.semAt_some

end Go.Proofs.YtbmfbnlmdjnddaaGreat
/- Who may call whom: pairs, and what can be reached: plain. -/
namespace Go.Proofs.YtbmfbnlmdjnddaaGreat
open Go.RowKit

def pairOk (l : List Seg) (x : Txt) : Bool := match x with
  | [u, v] => callP l u && callP l v
  | _ => false
theorem pairOk_two {l : List Seg} {x : Txt} (h : pairOk l x = true) : ∃ u v, x = [u, v] ∧ callP l u = true ∧ callP l v = true := by
  match x, h with
  | [u, v], h => exact ⟨u, v, rfl, (Bool.and_eq_true_iff.1 h).1, (Bool.and_eq_true_iff.1 h).2⟩
theorem pairOk_len {l : List Seg} {x : Txt} (h : x.length ≠ 2) : pairOk l x = false := by
  match x, h with
  | [], _ => rfl
  | [_], _ => rfl
  | [_, _], h => exact absurd rfl h
  | _ :: _ :: _ :: _, _ => rfl
def txAt (ts : List ByteArray) (k : Nat) : Txt := (ts.getD k ByteArray.empty).data.toList
theorem txAt_of {ts : List ByteArray} {k : Nat} (h : k < ts.length) : txAt ts k = ts[k].data.toList := by
  unfold txAt
  rw [List.getD_eq_getElem?_getD, List.getElem?_eq_getElem h]
  rfl
/-- Whether the text at an index is a pair, and behind the one ahead of it. -/
def pairAt (l : List Seg) (ts : List ByteArray) (k : Nat) : Bool := pairOk l (txAt ts k) && (decide (k = 0) || decide (txAt ts (k - 1) < txAt ts k))
def pairsTo (l : List Seg) (ts : List ByteArray) (k : Nat) : Bool := (List.range k).all (pairAt l ts)
theorem pairsTo_succ (l : List Seg) (ts : List ByteArray) (k : Nat) : pairsTo l ts (k + 1) = (pairsTo l ts k && pairAt l ts k) := by
  unfold pairsTo
  rw [List.range_succ, List.all_append]
  simp
theorem pairsTo_bad {l : List Seg} {ts : List ByteArray} {k n : Nat} (hk : k < n) (h : pairAt l ts k = false) : pairsTo l ts n = false := by
  unfold pairsTo
  rw [List.all_eq_false]
  exact ⟨k, List.mem_range.2 hk, by rw [h]; decide⟩
def graphB (l : List Seg) (ts : List ByteArray) : Bool := validB l && decide (ts.length ≤ 20) && pairsTo l ts ts.length
def psOf (ts : List ByteArray) : List Txt := ts.map fun t => t.data.toList
theorem psOf_len (ts : List ByteArray) : (psOf ts).length = ts.length := List.length_map _
theorem psOf_at {ts : List ByteArray} {k : Nat} (h : k < ts.length) : (psOf ts)[k]? = some (txAt ts k) := by
  rw [txAt_of h]
  unfold psOf
  rw [List.getElem?_map, List.getElem?_eq_getElem h]
  rfl
/-- Pairs in their order, each once. -/
structure IsGraph (l : List Seg) (ps : List Txt) : Prop where
  valid : validB l = true
  len : ps.length ≤ 20
  two : ∀ p ∈ ps, ∃ u v, p = [u, v] ∧ callP l u = true ∧ callP l v = true
  asc : ps.Pairwise (· < ·)
theorem graph_is {l : List Seg} {ts : List ByteArray} (h : graphB l ts = true) : IsGraph l (psOf ts) := by
  unfold graphB at h
  rw [Bool.and_eq_true, Bool.and_eq_true] at h
  obtain ⟨⟨h1, h2⟩, h3⟩ := h
  have hat : ∀ k, k < ts.length → pairAt l ts k = true := fun k hk => by
    unfold pairsTo at h3
    exact List.all_eq_true.1 h3 k (List.mem_range.2 hk)
  refine ⟨h1, by rw [psOf_len]; exact of_decide_eq_true h2, fun p hp => ?_, ?_⟩
  · obtain ⟨k, hk, e⟩ := List.getElem_of_mem hp
    have hk' : k < ts.length := by rwa [psOf_len] at hk
    have h4 := psOf_at hk'
    rw [List.getElem?_eq_getElem hk, e] at h4
    injection h4 with h4
    rw [h4]
    have h5 := hat k hk'
    unfold pairAt at h5
    exact pairOk_two (Bool.and_eq_true_iff.1 h5).1
  · have step : ∀ j, j < ts.length → ∀ i, i < j → txAt ts i < txAt ts j := by
      intro j
      induction j with
      | zero => intro _ i hi; omega
      | succ j ih =>
        intro hj i hi
        have h5 := hat (j + 1) hj
        unfold pairAt at h5
        have h6 := (Bool.and_eq_true_iff.1 h5).2
        have h7 : txAt ts j < txAt ts (j + 1) := by simpa using h6
        by_cases hij : i = j
        · rw [hij]; exact h7
        · exact txt_trans (ih (by omega) i (by omega)) h7
    rw [List.pairwise_iff_getElem]
    intro i j hi hj hij
    have hi' : i < ts.length := by rwa [psOf_len] at hi
    have hj' : j < ts.length := by rwa [psOf_len] at hj
    have e1 := psOf_at hi'
    have e2 := psOf_at hj'
    rw [List.getElem?_eq_getElem hi] at e1
    rw [List.getElem?_eq_getElem hj] at e2
    injection e1 with e1
    injection e2 with e2
    rw [e1, e2]
    exact step j hj' i hij

/-- Whom a segment may call, in the order of the pairs. -/
def fstB (p : Txt) : UInt8 := p.headD 0
def calleds (ps : List Txt) (u : UInt8) : List UInt8 := (ps.filter fun p => decide (fstB p = u)).map lastB
theorem calleds_snoc (ps : List Txt) (p : Txt) (u : UInt8) : calleds (ps ++ [p]) u = calleds ps u ++ if fstB p = u then [lastB p] else [] := by
  unfold calleds
  rw [List.filter_append, List.map_append]
  congr 1
  by_cases h : fstB p = u
  · simp [h]
  · simp [h]
theorem calleds_mem {ps : List Txt} {u v : UInt8} (h : v ∈ calleds ps u) : ∃ p ∈ ps, fstB p = u ∧ lastB p = v := by
  unfold calleds at h
  obtain ⟨p, hp, e⟩ := List.mem_map.1 h
  rw [List.mem_filter] at hp
  exact ⟨p, hp.1, of_decide_eq_true hp.2, e⟩
theorem last_two (u v : UInt8) : lastB [u, v] = v := rfl
theorem two_lt {u v w : UInt8} (h : ([u, v] : Txt) < [u, w]) : ([v] : Txt) < [w] := by
  have h1 : List.Lex (· < ·) ([u, v] : Txt) [u, w] := h
  cases h1 with
  | rel h => exact absurd h (UInt8.lt_irrefl _)
  | cons h => exact h
theorem calleds_asc {l : List Seg} {ps : List Txt} (h : IsGraph l ps) (u : UInt8) : ((calleds ps u).map fun v => ([v] : Txt)).Pairwise (· < ·) := by
  unfold calleds
  rw [List.map_map, List.pairwise_map]
  have h1 := h.asc.sublist (List.filter_sublist (p := fun p => decide (fstB p = u)))
  refine List.Pairwise.imp_of_mem ?_ h1
  intro a b ha hb hab
  rw [List.mem_filter] at ha hb
  obtain ⟨u1, v1, rfl, _, _⟩ := h.two a ha.1
  obtain ⟨u2, v2, rfl, _, _⟩ := h.two b hb.1
  have e1 : u1 = u := of_decide_eq_true ha.2
  have e2 : u2 = u := of_decide_eq_true hb.2
  subst e1
  subst e2
  exact two_lt hab

/-- The last segments of all ways but the first one. -/
def lasts (Q : List Txt) : List UInt8 := Q.tail.map lastB
/-- A way that goes on by each of those that are not reached yet. -/
def stepQ (way : Txt) : List UInt8 → List Txt → List Txt
  | [], Q => Q
  | c :: cs, Q => if c ∈ lasts Q then stepQ way cs Q else stepQ way cs (Q ++ [way ++ [c]])
theorem stepQ_app (way : Txt) : ∀ (a b : List UInt8) (Q : List Txt), stepQ way (a ++ b) Q = stepQ way b (stepQ way a Q)
  | [], _, _ => rfl
  | c :: a, b, Q => by
    show (if c ∈ lasts Q then stepQ way (a ++ b) Q else stepQ way (a ++ b) (Q ++ [way ++ [c]])) = stepQ way b (if c ∈ lasts Q then _ else _)
    by_cases h : c ∈ lasts Q
    · rw [if_pos h, if_pos h, stepQ_app way a b Q]
    · rw [if_neg h, if_neg h, stepQ_app way a b _]
theorem stepQ_one (way : Txt) (c : UInt8) (Q : List Txt) : stepQ way [c] Q = if c ∈ lasts Q then Q else Q ++ [way ++ [c]] := rfl
theorem stepQ_pre (way : Txt) : ∀ (cs : List UInt8) (Q : List Txt), Q <+: stepQ way cs Q
  | [], Q => List.prefix_refl Q
  | c :: cs, Q => by
    show Q <+: if c ∈ lasts Q then _ else _
    by_cases h : c ∈ lasts Q
    · rw [if_pos h]; exact stepQ_pre way cs Q
    · rw [if_neg h]; exact (List.prefix_append Q _).trans (stepQ_pre way cs _)
theorem lasts_snoc {Q : List Txt} (hQ : Q ≠ []) (way : Txt) (c : UInt8) : lasts (Q ++ [way ++ [c]]) = lasts Q ++ [c] := by
  cases Q with
  | nil => exact absurd rfl hQ
  | cons q Q =>
    unfold lasts
    show (Q ++ [way ++ [c]]).map lastB = Q.map lastB ++ [c]
    rw [List.map_append, List.map_singleton, lastB_snoc]
/-- The ways when the first 'k' have been gone on. -/
def qAt (ps : List Txt) (u : UInt8) : Nat → List Txt
  | 0 => [[u]]
  | k + 1 => match (qAt ps u k)[k]? with
    | none => qAt ps u k
    | some way => stepQ way (calleds ps (lastB way)) (qAt ps u k)
theorem qAt_succ {ps : List Txt} {u : UInt8} {k : Nat} {way : Txt} (h : (qAt ps u k)[k]? = some way) : qAt ps u (k + 1) = stepQ way (calleds ps (lastB way)) (qAt ps u k) := by
  show (match (qAt ps u k)[k]? with | none => _ | some way => _) = _
  rw [h]
theorem qAt_none {ps : List Txt} {u : UInt8} {k : Nat} (h : (qAt ps u k).length ≤ k) : qAt ps u (k + 1) = qAt ps u k := by
  show (match (qAt ps u k)[k]? with | none => _ | some way => _) = _
  rw [List.getElem?_eq_none h]
theorem qAt_stop {ps : List Txt} {u : UInt8} {k : Nat} (h : (qAt ps u k).length ≤ k) : ∀ m, qAt ps u (k + m) = qAt ps u k
  | 0 => rfl
  | m + 1 => by
    have ih := qAt_stop h m
    rw [show k + (m + 1) = (k + m) + 1 by omega, qAt_none (by rw [ih]; omega), ih]
def wayOk (ps : List Txt) (Q : List Txt) : Prop := Q ≠ [] ∧ (lasts Q).Nodup ∧ (∀ c ∈ lasts Q, c ∈ ps.map lastB) ∧ (∀ x ∈ Q, x ≠ [])
theorem stepQ_ok {ps : List Txt} (way : Txt) : ∀ (cs : List UInt8) (Q : List Txt), wayOk ps Q → (∀ c ∈ cs, c ∈ ps.map lastB) → wayOk ps (stepQ way cs Q)
  | [], Q, h, _ => h
  | c :: cs, Q, h, hc => by
    show wayOk ps (if c ∈ lasts Q then _ else _)
    by_cases hm : c ∈ lasts Q
    · rw [if_pos hm]; exact stepQ_ok way cs Q h (fun x hx => hc x (List.mem_cons_of_mem _ hx))
    · rw [if_neg hm]
      refine stepQ_ok way cs _ ⟨by simp, ?_, ?_, ?_⟩ (fun x hx => hc x (List.mem_cons_of_mem _ hx))
      · rw [lasts_snoc h.1, List.nodup_append]
        refine ⟨h.2.1, by simp, ?_⟩
        intro a ha b hb e
        rw [List.mem_singleton] at hb
        subst hb
        subst e
        exact hm ha
      · intro x hx
        rw [lasts_snoc h.1] at hx
        rcases List.mem_append.1 hx with hx | hx
        · exact h.2.2.1 x hx
        · rw [List.mem_singleton] at hx
          rw [hx]
          exact hc c List.mem_cons_self
      · intro x hx
        rcases List.mem_append.1 hx with hx | hx
        · exact h.2.2.2 x hx
        · rw [List.mem_singleton] at hx
          rw [hx]
          simp
theorem calleds_sub (ps : List Txt) (u : UInt8) : ∀ c ∈ calleds ps u, c ∈ ps.map lastB := fun c hc => by
  obtain ⟨p, hp, _, e⟩ := calleds_mem hc
  exact List.mem_map.2 ⟨p, hp, e⟩
theorem qAt_ok (ps : List Txt) (u : UInt8) : ∀ k, wayOk ps (qAt ps u k)
  | 0 => ⟨by simp [qAt], by simp [qAt, lasts], by simp [qAt, lasts], by simp [qAt]⟩
  | k + 1 => by
    have ih := qAt_ok ps u k
    cases h : (qAt ps u k)[k]? with
    | none =>
      rw [qAt_none (by rw [List.getElem?_eq_none_iff] at h; exact h)]
      exact ih
    | some way =>
      rw [qAt_succ h]
      exact stepQ_ok way _ _ ih (calleds_sub ps _)
theorem nodup_le : ∀ {a b : List UInt8}, a.Nodup → (∀ x ∈ a, x ∈ b) → a.length ≤ b.length
  | [], b, _, _ => Nat.zero_le _
  | x :: a, b, hn, hs => by
    have hx := hs x List.mem_cons_self
    obtain ⟨h1, h2⟩ := List.nodup_cons.1 hn
    have h3 := nodup_le (b := b.erase x) h2 (fun y hy => (List.mem_erase_of_ne (fun e => h1 (by rw [← e]; exact hy))).2 (hs y (List.mem_cons_of_mem _ hy)))
    rw [List.length_erase_of_mem hx] at h3
    have h4 := List.length_pos_of_mem hx
    rw [List.length_cons]
    omega
theorem wayOk.len {ps Q : List Txt} (h : wayOk ps Q) : Q.length ≤ ps.length + 1 := by
  have h1 := nodup_le h.2.1 h.2.2.1
  unfold lasts at h1
  rw [List.length_map, List.length_map, List.length_tail] at h1
  omega
theorem wayOk.pos {ps Q : List Txt} (h : wayOk ps Q) : 0 < Q.length := List.length_pos_iff.2 h.1
/-- All ways, and all that is reached. -/
def waysB (ps : List Txt) (u : UInt8) : List Txt := qAt ps u 32
def reachL (ps : List Txt) (u : UInt8) : List UInt8 := lasts (waysB ps u)
theorem waysB_stop {ps : List Txt} {u : UInt8} {k : Nat} (hp : ps.length ≤ 20) (hk : k ≤ (qAt ps u k).length) (h : (qAt ps u k).length ≤ k) : waysB ps u = qAt ps u k := by
  have h1 := (qAt_ok ps u k).len
  have h2 := qAt_stop h (32 - k)
  rw [show k + (32 - k) = 32 by omega] at h2
  exact h2
theorem waysB_len {ps : List Txt} {u : UInt8} (hp : ps.length ≤ 20) : (waysB ps u).length ≤ 21 := by
  have := (qAt_ok ps u 32).len
  unfold waysB
  omega
theorem qAt_pre (ps : List Txt) (u : UInt8) (k : Nat) : qAt ps u k <+: qAt ps u (k + 1) := by
  cases h : (qAt ps u k)[k]? with
  | none =>
    rw [qAt_none (by rw [List.getElem?_eq_none_iff] at h; exact h)]
    exact List.prefix_refl _
  | some way =>
    rw [qAt_succ h]
    exact stepQ_pre way _ _
/-- All ways begin with the segment that they start from. -/
theorem stepQ_all {P : Txt → Prop} (way : Txt) (hw : P way) (hs : ∀ x c, P x → P (x ++ [c])) : ∀ (cs : List UInt8) (Q : List Txt), (∀ x ∈ Q, P x) → ∀ x ∈ stepQ way cs Q, P x
  | [], Q, h => h
  | c :: cs, Q, h => by
    show ∀ x ∈ (if c ∈ lasts Q then _ else _), P x
    by_cases hm : c ∈ lasts Q
    · rw [if_pos hm]; exact stepQ_all way hw hs cs Q h
    · rw [if_neg hm]
      refine stepQ_all way hw hs cs _ fun x hx => ?_
      rcases List.mem_append.1 hx with hx | hx
      · exact h x hx
      · rw [List.mem_singleton] at hx
        rw [hx]
        exact hs _ _ hw

end Go.Proofs.YtbmfbnlmdjnddaaGreat
/- What is lost in a trace: plain. -/
namespace Go.Proofs.YtbmfbnlmdjnddaaGreat
open Go.RowKit

def byteAt (x : List UInt8) (k : Nat) : UInt8 := x.getD k 0
/-- What the reference writes down for one chain. -/
def lostOne (l : List Seg) (x : List UInt8) (m : Nat) : List UInt8 := ((List.range m).filter fun k => !lieB l ⟨#[byteAt x k]⟩ ⟨#[lastB x]⟩).map (byteAt x)
def lostAll (l : List Seg) (xs : List (List UInt8)) : List UInt8 := xs.flatMap fun x => lostOne l x x.length
theorem lostOne_succ (l : List Seg) (x : List UInt8) (m : Nat) : lostOne l x (m + 1) = lostOne l x m ++ if lieB l ⟨#[byteAt x m]⟩ ⟨#[lastB x]⟩ = true then [] else [byteAt x m] := by
  unfold lostOne
  rw [List.range_succ, List.filter_append, List.map_append]
  congr 1
  cases h : lieB l ⟨#[byteAt x m]⟩ ⟨#[lastB x]⟩ <;> simp [h]
theorem lostOne_len (l : List Seg) (x : List UInt8) (m : Nat) : (lostOne l x m).length ≤ m := by
  unfold lostOne
  rw [List.length_map]
  have := List.length_filter_le (fun k => !lieB l ⟨#[byteAt x k]⟩ ⟨#[lastB x]⟩) (List.range m)
  simpa using this
theorem lostAll_snoc (l : List Seg) (xs : List (List UInt8)) (x : List UInt8) : lostAll l (xs ++ [x]) = lostAll l xs ++ lostOne l x x.length := by
  unfold lostAll
  rw [List.flatMap_append]
  simp
theorem lostAll_len (l : List Seg) : ∀ (xs : List (List UInt8)), (∀ x ∈ xs, x.length ≤ 9) → (lostAll l xs).length ≤ 9 * xs.length
  | [], _ => Nat.le_refl _
  | x :: xs, h => by
    have h1 := lostAll_len l xs (fun y hy => h y (List.mem_cons_of_mem _ hy))
    have h2 := lostOne_len l x x.length
    have h3 := h x List.mem_cons_self
    have e : lostAll l (x :: xs) = lostOne l x x.length ++ lostAll l xs := List.flatMap_cons
    rw [e, List.length_append, List.length_cons]
    omega
/-- Which segments the program says are lost at the last call of a chain, and in all of them. -/
def lostX (l : List Seg) (x : List UInt8) (i : Nat) : Bool := decide (byteOf l i ∈ x) && decide (kindIx l i (bSeek l (lastB x)).toNat = 2)
def lostF (l : List Seg) (xs : List (List UInt8)) (i : Nat) : Bool := decide (i < l.length) && xs.any fun x => lostX l x i
theorem lostF_nil (l : List Seg) (i : Nat) : lostF l [] i = false := by unfold lostF; simp
theorem lostF_snoc (l : List Seg) (xs : List (List UInt8)) (x : List UInt8) (i : Nat) : lostF l (xs ++ [x]) i = (lostF l xs i || (decide (i < l.length) && lostX l x i)) := by
  unfold lostF
  rw [List.any_append]
  cases decide (i < l.length) <;> simp
theorem mem_bytes {x : List UInt8} {c : UInt8} : c ∈ x ↔ ∃ k, k < x.length ∧ byteAt x k = c := by
  constructor
  · intro h
    obtain ⟨k, hk, e⟩ := List.getElem_of_mem h
    exact ⟨k, hk, by unfold byteAt; rw [List.getD_eq_getElem?_getD, List.getElem?_eq_getElem hk]; exact e⟩
  · rintro ⟨k, hk, e⟩
    unfold byteAt at e
    rw [List.getD_eq_getElem?_getD, List.getElem?_eq_getElem hk] at e
    rw [← e]
    exact List.getElem_mem hk
theorem lost_same {l : List Seg} (hv : validB l = true) {xs : List (List UInt8)} (hx : ∀ x ∈ xs, callP l (lastB x) = true) {i : Nat} (hi : i < l.length) : decide (byteOf l i ∈ lostAll l xs) = lostF l xs i := by
  have hb := bSeek_byte hv hi
  have one : ∀ x ∈ xs, (byteOf l i ∈ lostOne l x x.length ↔ lostX l x i = true) := by
    intro x hxm
    have hc : 0 ≤ bSeek l (lastB x) := by
      have h1 := of_decide_eq_true (hx x hxm)
      rwa [show indexB l ⟨#[lastB x]⟩ = bSeek l (lastB x) from if_pos hv] at h1
    have hl : lieB l ⟨#[byteOf l i]⟩ ⟨#[lastB x]⟩ = lieIx l i (bSeek l (lastB x)).toNat := by
      rw [lieB_bytes hv, hb, decide_eq_true hc, decide_eq_true (Int.natCast_nonneg i), Int.toNat_natCast]
      rfl
    unfold lostX
    rw [Bool.and_eq_true, decide_eq_true_eq, kindIx_side, ← hl]
    unfold lostOne
    rw [List.mem_map]
    constructor
    · rintro ⟨k, hk, e⟩
      rw [List.mem_filter, List.mem_range] at hk
      rw [e] at hk
      exact ⟨mem_bytes.2 ⟨k, hk.1, e⟩, hk.2⟩
    · rintro ⟨h1, h2⟩
      obtain ⟨k, hk, e⟩ := mem_bytes.1 h1
      refine ⟨k, ?_, e⟩
      rw [List.mem_filter, List.mem_range, e]
      exact ⟨hk, h2⟩
  unfold lostF
  rw [decide_eq_true hi, Bool.true_and, Bool.eq_iff_iff, decide_eq_true_eq, List.any_eq_true]
  unfold lostAll
  rw [List.mem_flatMap]
  constructor
  · rintro ⟨x, hxm, h⟩
    exact ⟨x, hxm, (one x hxm).1 h⟩
  · rintro ⟨x, hxm, h⟩
    exact ⟨x, hxm, (one x hxm).2 h⟩
/-- The segments that are lost in a trace. -/
def lostRes (l : List Seg) (t : ByteArray) : ByteArray := match traceB l t.data.toList with
  | none => ⟨#[]⟩
  | some f => namesAt l (selIx (lostF l (chainsB [rootB l] f)) l.length)
theorem selIx_congr {f g : Nat → Bool} {n : Nat} (h : ∀ i, i < n → f i = g i) : selIx f n = selIx g n := by
  unfold selIx
  apply List.filter_congr
  intro i hi
  exact h i (List.mem_range.1 hi)

end Go.Proofs.YtbmfbnlmdjnddaaGreat
