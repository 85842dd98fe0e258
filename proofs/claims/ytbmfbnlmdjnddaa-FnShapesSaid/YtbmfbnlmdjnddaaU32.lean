/- Joined: Go Bd Bg It Bq Bi Be. -/
import Derived.Test.YtbmfbnlmdjnddaaU31
import Derived.Deep.RegionWith
import Derived.WalkMore
import Derived.Test.YtbmfbnlmdjnddaaU27
import Derived.Test.YtbmfbnlmdjnddaaU24
import Derived.Test.YtbmfbnlmdjnddaaSh
import Derived.Lib.SlKept
import Derived.Lib.SliceRun
import Derived.Lib.OwnBridge
import Derived.Sort.OwnSorted
import Derived.Sort.Grow
import Derived.Shelf.SlIter.Nil
import Derived.Shelf.SortM.Plain
import Derived.Shelf.SortM.SortNone
import Derived.Ground.GgzProg
import Derived.Ground.SlgmProg
import Derived.Test.YtbmfbnlmdjnddaaProg
import Derived.Maps.OwnIn
import Derived.Maps.Views
import Derived.Sort.KeysCollected
import Derived.StringKeys
/- impl.nodesNamed, sizesTogether, CostOf, LoadCost. -/
namespace Go.Proofs.Ytbmfbnlmdjnddaa
open Go.RowKit Go.Shelf

theorem ret_nodes {a b : Value} {c d : Bool} (h : a = b) (k : c = d) : Ending.returned (.tuple #[a, .bool c]) = .returned (.tuple #[b, .bool d]) := by rw [h, k]
/-- The nodes that are named, in a row of the call's own. -/
def NamedPost (w : World) (l : List Seg) (nb : Nat → Nat) (s : ByteArray) (e : Ending) (w' : World) : Prop :=
  ∃ v, e = .returned (.tuple #[v, .bool true]) ∧ w'.ownsRow w.heap.size 88 1 v (namedJs l s.data.toList).length (ptrsOf nb (namedJs l s.data.toList)) ∧ Below w.heap.size w w'

set_option maxRecDepth 100000 in
set_option maxHeartbeats 400000 in
theorem nodesNamed_bad (s : ByteArray) (w : World) (hs : s.size ≤ 1048576) :
    Calls Try.prog 111 #[.slice none 0 0, .string s] w fun e w' => e = .returned (.tuple #[.slice none 0 0, .bool (decide (s.size = 0))]) ∧ w = w' := by
  by_cases h0 : s.size = 0
  · have HD : Hid (decide (s.size = 0) = true) := decide_eq_true h0
    go_enter Try.func111, Try.ntmps111
    go_wp2
    go_loop [6, 11] (fun v i => v = .slice none 0 0 ∧ i = .int .i64 0) (fun _ _ => 0)
    case atStart => exact ⟨rfl, rfl⟩
    case round =>
      obtain ⟨rfl, rfl⟩ := hrel
      go_wp2
      refine bodyPost_ret (v := .tuple #[.slice none 0 0, .bool true]) (by simp [results, Try.results111, go_sem]) rfl ?_
      exact ⟨rfl, rfl⟩
  · have HD : Hid (decide (s.size = 0) = false) := decide_eq_false h0
    have hp : 0 < s.size := by omega
    clear h0
    go_enter Try.func111, Try.ntmps111
    go_wp2
    go_loop [6, 11] (fun v i => v = .slice none 0 0 ∧ i = .int .i64 0) (fun _ _ => 0)
    case atStart => exact ⟨rfl, rfl⟩
    case round =>
      obtain ⟨rfl, rfl⟩ := hrel
      go_wp2_with fail
      refine (findNode_nil _ _).mono ?_
      rintro e w1 ⟨rfl, rfl⟩
      go_wp2
      refine bodyPost_ret (v := .tuple #[.slice none 0 0, .bool false]) (by simp [results, Try.results111, go_sem]) rfl ?_
      exact ⟨by rw [HD.out], rfl⟩

theorem found_byte {l : List Seg} {nb : Nat → Nat} {b : UInt8} (h : 0 ≤ bSeek l b) : foundPtr l nb ⟨#[b]⟩ = some ⟨nb (bSeek l b).toNat, 0, none⟩ := if_neg (by unfold bSeek at h; omega)
theorem found_none {l : List Seg} {nb : Nat → Nat} {b : UInt8} (h : bSeek l b < 0) : foundPtr l nb ⟨#[b]⟩ = none := if_pos h

def NamedEither (w : World) (l : List Seg) (nb : Nat → Nat) (s : ByteArray) (e : Ending) (w' : World) : Prop :=
  (namedOk l s.data.toList = true ∧ NamedPost w l nb s e w') ∨ (namedOk l s.data.toList = false ∧ e = .returned (.tuple #[.slice none 0 0, .bool false]) ∧ Below w.heap.size w w')

set_option maxRecDepth 100000 in
set_option maxHeartbeats 1000000 in
theorem nodesNamed_any (B g : Nat) (l : List Seg) (nb : Nat → Nat) (cv : Nat → Value) (s : ByteArray) (w : World) (h : Nodes w B g l.length l.length l nb cv) (hv : validB l = true) (hs : s.size ≤ 1048576) :
    Calls Try.prog 111 #[.slice (some ⟨g, 0, none⟩) l.length l.length, .string s] w (NamedEither w l nb s) := by
  have h8 := (valid_all hv).2.1
  have HN := Lib.hid h
  obtain ⟨i0, hi0, hz0, hz1, hz2⟩ := info_parts info_ptr
  have I0 := Lib.hid hi0
  have Z0 := Lib.hid hz0
  have Z1 := Lib.hid hz1
  have Z2 := Lib.hid hz2
  clear hi0 hz0 hz1 hz2 h hv
  go_enter Try.func111, Try.ntmps111
  go_wp2
  go_loopw [6, 11] (fun v i wr => ∃ k : Nat, k ≤ s.size ∧ i = .int .i64 k ∧ Hid (namedOk l (s.data.toList.take k) = true) ∧ Hid (wr.ownsRow w.heap.size 88 1 v (namedJs l (s.data.toList.take k)).length (ptrsOf nb (namedJs l (s.data.toList.take k)))) ∧ Hid (Below w.heap.size w wr) ∧ ∃ a n c, v = .slice a n c)
    (fun _ i _ => s.size - (intOf i).toNat)
  case atStart => exact ⟨0, Nat.zero_le _, rfl, rfl, World.ownsRow_nil _ _ _ _, Below.refl _ _, _, _, _, rfl⟩
  case round =>
    obtain ⟨k, hk, rfl, HK, HO, HB, a, n, c, rfl⟩ := hrel
    have hk0 : (0 : Int) ≤ (k : Int) := Int.natCast_nonneg _
    by_cases hlt : k < s.size
    · have hlt' : (k : Int) < (s.size : Int) := by omega
      have h1 : (k : Int) + 1 ≤ (s.size : Int) := by omega
      obtain ⟨t1, t2⟩ := named_take (l := l) s hlt
      have HM : Hid (s[k] ∈ s.data.toList) := by
        show s.data.toList[k]'(by simpa using hlt) ∈ _
        exact List.getElem_mem _
      have HX := Lib.hid (one_byte s hlt)
      have HT1 := Lib.hid t1
      have HT2 := Lib.hid t2
      have hbd := bSeek_bd l s[k]
      clear t1 t2
      generalize s[k] = b at *
      have HNk := Lib.hid (HN.out.below HB.out)
      go_wp2_with fail
      refine (findNode_any _ _ _ _ _ _ _ HNk.out (by omega)).mono ?_
      rw [HX.out]
      rcases hbd with hbd | ⟨hb0, hb1⟩
      · have HF : Hid (namedOk l s.data.toList = false) := namedOk_bad HM.out (by omega)
        rw [found_none (by omega)]
        rintro e w1 ⟨rfl, rfl⟩
        clear hbd
        go_wp2
        refine bodyPost_ret (v := .tuple #[.slice none 0 0, .bool false]) (by simp [results, Try.results111, go_sem]) rfl ?_
        exact .inr ⟨HF.out, rfl, HB.out⟩
      · rw [found_byte hb0]
        rintro e w1 ⟨rfl, rfl⟩
        have hlen : (namedJs l (s.data.toList.take k)).length = k := by
          unfold namedJs
          rw [List.length_map, List.length_take]
          simp
          omega
        have HK1 : Hid (namedOk l (s.data.toList.take (k + 1)) = true) := by
          show _ = _
          rw [HT1.out, HK.out, decide_eq_true hb0]
          rfl
        generalize (bSeek l b).toNat = j at *
        clear hb0 hb1
        have HJ : Hid (ptrsOf nb (namedJs l (s.data.toList.take (k + 1))) = ptrsOf nb (namedJs l (s.data.toList.take k)) ++ [.pointer (some ⟨nb j, 0, none⟩)] ∧ (namedJs l (s.data.toList.take (k + 1))).length = (namedJs l (s.data.toList.take k)).length + 1) := by
          rw [HT2.out]
          exact ⟨by simp [ptrsOf, ptrTo], by simp⟩
        have hHO := HO.out
        rw [hlen] at hHO
        have HO2 := Lib.hid (hHO.alloc (.cells #[.pointer (some ⟨nb j, 0, none⟩)] 88))
        clear hHO
        have hbz := HB.out.size
        go_wp2_with (at_builtin; refine wpList_append_own_at _ rfl _ _ 84 rfl w.heap.size 88 i0 (.pointer none) 1 8 Try.underlying84 I0.out Z0.out Z1.out Z2.out rfl (by decide) _ _ _ rfl HO2.out ⟨wr.heap.size, 0, none⟩ 1 1 [.pointer (some ⟨nb j, 0, none⟩)] rfl rfl (cell_one_new _ _ _) (by simp [Value.oneCell']) (by unfold maxLen; omega) (by omega) (by simp; omega) ?_; intro v4 w4 hown4 hgrow _ _)
        have HB4 : Hid (Below w.heap.size w w4) := (HB.out.alloc hbz _).grown hgrow (by simp; omega) (fun q hq => (World.ownsRow.lt HO2.out q hq).1)
        have HO4 : Hid (w4.ownsRow w.heap.size 88 1 v4 (namedJs l (s.data.toList.take (k + 1))).length (ptrsOf nb (namedJs l (s.data.toList.take (k + 1))))) := by
          show World.ownsRow _ _ _ _ _ _ _
          rw [HJ.out.1, HJ.out.2, hlen]
          exact hown4
        have HV : ∃ a n c, v4 = .slice a n c := by
          obtain ⟨q, cap, rfl⟩ := own_form hown4 (by omega)
          exact ⟨_, _, _, rfl⟩
        clear hown4 hgrow
        go_roundw
        case rel => exact ⟨k + 1, by omega, by go_num, HK1, HO4, HB4, HV⟩
        case measure => simp [intOf]; omega
    · obtain rfl : k = s.size := by omega
      have e : s.data.toList.take s.size = s.data.toList := List.take_of_length_le (by simp)
      rw [e] at HK HO
      go_wp2
      refine bodyPost_ret (v := .tuple #[.slice a n c, .bool true]) (by simp [results, Try.results111, go_sem]) rfl ?_
      exact .inl ⟨HK.out, _, rfl, HO.out, HB.out⟩

theorem szs_take {l : List Seg} {js : List Nat} {k : Nat} (hk : k < js.length) : szs l (js.take (k + 1)) = szs l (js.take k) + sizeAt l js[k] := by
  rw [List.take_succ_eq_append_getElem hk, szs_snoc]

end Go.Proofs.Ytbmfbnlmdjnddaa

/- impl.needsFor: what is to be met, as functions. -/
namespace Go.Proofs.Ytbmfbnlmdjnddaa
open Go.RowKit Go.Shelf

end Go.Proofs.Ytbmfbnlmdjnddaa
/- ChainLies on both sides. -/
namespace Go.Proofs.Ytbmfbnlmdjnddaa
open Go.RowKit Go.Shelf

/-- The set of the first of some indices. -/
def memF (js : List Nat) (j : Nat) : Bool := decide (j ∈ js)
theorem memF_snoc (js : List Nat) (i : Nat) : setF (fun j => memF js j || decide (j = i)) = setF (memF (js ++ [i])) := by
  apply setF_congr
  intro j _
  unfold memF
  rw [Bool.eq_iff_iff, Bool.or_eq_true, decide_eq_true_eq, decide_eq_true_eq, decide_eq_true_eq, List.mem_append, List.mem_singleton]

set_option maxRecDepth 100000 in
set_option maxHeartbeats 1000000 in
theorem setOf_any (B g : Nat) (l : List Seg) (nb : Nat → Nat) (cv : Nat → Value) (js : List Nat) (v : Value) (B2 : Nat) (w : World) (h : Nodes w B g l.length l.length l nb cv) (hv : validB l = true) (hj : ∀ j ∈ js, j < l.length) (hjl : js.length ≤ 1048576)
    (hown : w.ownsRow B2 88 1 v js.length (ptrsOf nb js)) :
    Calls Try.prog 112 #[.slice (some ⟨g, 0, none⟩) l.length l.length, v] w fun e w' => e = .returned (.int .u64 (setF (memF js) : Int)) ∧ w = w' := by
  have h8 := (valid_all hv).2.1
  have HIX := Lib.hid (fun i (hi : i < l.length) => indexAll_any B g i l nb cv w h (by omega) hi)
  have HO := Lib.hid hown
  have HJ := Lib.hid hj
  clear h hv
  obtain ⟨a, cap, rfl⟩ : ∃ a cap, v = .slice a js.length cap := by
    rcases hown.2 with ⟨rfl, h0⟩ | ⟨g', cap, cur, rfl, _⟩
    · exact ⟨none, 0, by rw [h0]⟩
    · exact ⟨_, cap, rfl⟩
  clear hown hj
  have H0 : Hid (setF (memF (js.take 0)) = 0) := rfl
  go_enter Try.func112, Try.ntmps112
  go_wp2
  go_loop [5, 10] (fun o i => ∃ k : Nat, k ≤ js.length ∧ i = .int .i64 k ∧ o = .int .u64 (setF (memF (js.take k)) : Int))
    (fun _ i => js.length - (intOf i).toNat)
  case atStart => exact ⟨0, Nat.zero_le _, rfl, rfl⟩
  case round =>
    obtain ⟨k, hk, rfl, rfl⟩ := hrel
    have hk0 : (0 : Int) ≤ (k : Int) := Int.natCast_nonneg _
    by_cases hlt : k < js.length
    · have hlt' : (k : Int) < (js.length : Int) := by omega
      obtain ⟨g', cap', hv'⟩ := own_form HO.out (by omega)
      injection hv' with hA _ hc
      subst hA hc
      have c0 : w.cell? ⟨g', k, none⟩ = some (.pointer (some ⟨nb js[k], 0, none⟩)) := by
        rw [HO.out.cellAt k (by omega)]
        simp [ptrsOf, ptrTo, hlt]
      have hjk := HJ.out js[k] (List.getElem_mem hlt)
      have HS : Hid (js.take (k + 1) = js.take k ++ [js[k]]) := List.take_succ_eq_append_getElem hlt
      have HN := Lib.hid (HIX.out js[k] hjk)
      generalize js[k] = i at *
      have hi8 : i < 8 := by omega
      have HX := Lib.hid (memF_snoc (js.take k) i)
      go_wp2_with fail
      refine HN.out.mono ?_
      rintro e w1 ⟨rfl, rfl⟩
      go_wp2_with fail
      refine (with_any _ i _ hi8).mono ?_
      rintro e w1 ⟨rfl, rfl⟩
      go_wp2
      go_round
      case rel => exact ⟨k + 1, by omega, by go_num, by rw [HX.out, HS.out]⟩
      case measure => simp [intOf]; omega
    · obtain rfl : k = js.length := by omega
      rw [List.take_length]
      go_wp2
      go_ret
      exact ⟨rfl, rfl⟩

/-- Whether no two of the first segments that are in a set lie apart. -/
def togeRow (l : List Seg) (f : Nat → Bool) (i n : Nat) : Bool := (List.range n).all fun j => !(f i && f j && decide (kindIx l i j = 2))
def togeUp (l : List Seg) (f : Nat → Bool) (n : Nat) : Bool := (List.range n).all fun i => togeRow l f i i
theorem togeRow_succ (l : List Seg) (f : Nat → Bool) (i n : Nat) : togeRow l f i (n + 1) = (togeRow l f i n && !(f i && f n && decide (kindIx l i n = 2))) := by
  unfold togeRow
  rw [List.range_succ, List.all_append]
  simp
theorem togeUp_succ (l : List Seg) (f : Nat → Bool) (n : Nat) : togeUp l f (n + 1) = (togeUp l f n && togeRow l f n n) := by
  unfold togeUp
  rw [List.range_succ, List.all_append]
  simp
theorem togeB_up (l : List Seg) (f : Nat → Bool) : togeB l f = togeUp l f l.length := rfl
theorem toge_no {l : List Seg} {f : Nat → Bool} {i j : Nat} (hi : i < l.length) (hj : j < i) (h1 : f i = true) (h2 : f j = true) (hk : kindIx l i j = 2) : togeB l f = false := by
  rw [Bool.eq_false_iff]
  intro h
  have := all_range.1 (all_range.1 h i hi) j hj
  rw [h1, h2, hk] at this
  cases this

end Go.Proofs.Ytbmfbnlmdjnddaa
/- UnsafeChains and IsSafe on both sides. -/
namespace Go.Proofs.Ytbmfbnlmdjnddaa
open Go.RowKit Go.Shelf

/-- The chains of a trace, none if it is no trace. -/
def xsRes (l : List Seg) (t : ByteArray) : List Txt := match traceB l t.data.toList with
  | none => []
  | some f => chainsB [rootB l] f
theorem chainsRes_xs (l : List Seg) (t : ByteArray) : chainsRes l t = (xsRes l t).map strOf := by
  unfold chainsRes xsRes
  cases traceB l t.data.toList with
  | none => rfl
  | some f => rfl
theorem xsRes_two {l : List Seg} {t : ByteArray} : ∀ x ∈ xsRes l t, (∃ y u v, x = y ++ [u, v]) ∧ x.length ≤ 9 := by
  unfold xsRes
  cases hR : traceB l t.data.toList with
  | none => intro x hx; cases hx
  | some f =>
    intro x hx
    obtain ⟨⟨y, u, v, e, _⟩, h9⟩ := trace_two hR x hx
    exact ⟨⟨y, u, v, e⟩, h9⟩
theorem xsRes_len (l : List Seg) (t : ByteArray) : (xsRes l t).length ≤ 80 := by
  unfold xsRes
  cases hR : traceB l t.data.toList with
  | none => exact Nat.zero_le _
  | some f =>
    show (chainsB [rootB l] f).length ≤ 80
    rw [chainsB_len]
    exact (traceB_size hR).1
def apartB (l : List Seg) (x : Txt) : Bool := !liesB l (strOf x)
def unsafeRes (l : List Seg) (t : ByteArray) : List ByteArray := (putAll [] ((xsRes l t).filter (apartB l))).map strOf
def UnsafePost (w : World) (l : List Seg) (t : ByteArray) (e : Ending) (w' : World) : Prop :=
  ∃ v, e = .returned (.tuple #[v, .bool (traceB l t.data.toList).isSome]) ∧ OwnTexts w' w.heap.size v (unsafeRes l t) ∧ Below w.heap.size w w'
theorem filter_take {p : Txt → Bool} {xs : List Txt} {k : Nat} (hk : k < xs.length) : (xs.take (k + 1)).filter p = (xs.take k).filter p ++ if p xs[k] = true then [xs[k]] else [] := by
  rw [List.take_succ_eq_append_getElem hk, List.filter_append]
  congr 1
  by_cases h : p xs[k] = true <;> simp [h]

end Go.Proofs.Ytbmfbnlmdjnddaa
/- The library's contracts on a map's keys, sorted, at this translation. -/
namespace Go.Proofs
open Go.Shelf
def Try.keys137_ren : Go.Shelf.Ren := ⟨fun | 7 => 137 | 10 => 141 | n => n, fun | 23 => 63 | 26 => 9 | 3 => 4 | 28 => 130 | 0 => 0 | 27 => 129 | 33 => 134 | 4 => 4 | n => n, fun | n => n⟩
theorem Try.keys137 : Go.Proofs.SlLaysZ.n7 Try.prog Try.keys137_ren := {
  mixed := by kernel_rfl
  f7 := ⟨Try.f137.name, by decide, Try.func137.trans (congrArg some (by kernel_rfl))⟩
  f10 := ⟨Try.f141.name, by decide, Try.func141.trans (congrArg some (by kernel_rfl))⟩
  t0 := Try.underlying0
  a0 := Try.isAgg0
  z0 := Try.sizeOf0
  v0 := Try.zeroValue0
  t4 := Try.underlying4
  a4 := Try.isAgg4
  z4 := Try.sizeOf4
  v4 := Try.zeroValue4
  t23 := Try.underlying63
  a23 := Try.isAgg63
  z23 := Try.sizeOf63
  v23 := Try.zeroValue63
  t26 := Try.underlying9
  a26 := Try.isAgg9
  z26 := Try.sizeOf9
  v26 := Try.zeroValue9
  t27 := Try.underlying129
  a27 := Try.isAgg129
  z27 := Try.sizeOf129
  v27 := Try.zeroValue129
  t28 := Try.underlying130
  a28 := Try.isAgg130
  z28 := Try.sizeOf130
  v28 := Try.zeroValue130
  t33 := Try.underlying134
  a33 := Try.isAgg134
  z33 := Try.sizeOf134
  v33 := Try.zeroValue134 }
def Try.sorted136_ren : Go.Shelf.Ren := ⟨fun | 6 => 136 | 8 => 139 | 9 => 140 | 11 => 143 | 13 => 145 | 12 => 144 | 23 => 157 | 24 => 158 | 14 => 148 | 15 => 149 | 16 => 150 | 17 => 151 | 18 => 152 | 19 => 153 | 20 => 154 | 21 => 155 | 22 => 156 | 25 => 159 | 26 => 160 | 27 => 161 | 28 => 162 | 29 => 163 | 30 => 164 | 31 => 165 | n => n, fun | 26 => 9 | 28 => 130 | 24 => 24 | 0 => 0 | 3 => 3 | 37 => 104 | 48 => 192 | 50 => 194 | 4 => 4 | 40 => 186 | 39 => 185 | 45 => 169 | 5 => 5 | 9 => 9 | 51 => 195 | 55 => 199 | 57 => 201 | 58 => 202 | 33 => 134 | n => n, fun | n => n⟩
theorem Try.sorted136 : Go.Proofs.SlLaysZ.n6 Try.prog Try.sorted136_ren := {
  mixed := by kernel_rfl
  f6 := ⟨Try.f136.name, by decide, Try.func136.trans (congrArg some (by kernel_rfl))⟩
  f8 := ⟨Try.f139.name, by decide, Try.func139.trans (congrArg some (by kernel_rfl))⟩
  f11 := ⟨Try.f143.name, by decide, Try.func143.trans (congrArg some (by kernel_rfl))⟩
  t0 := Try.underlying0
  a0 := Try.isAgg0
  z0 := Try.sizeOf0
  v0 := Try.zeroValue0
  t24 := Try.underlying24
  a24 := Try.isAgg24
  z24 := Try.sizeOf24
  v24 := Try.zeroValue24
  t26 := Try.underlying9
  a26 := Try.isAgg9
  z26 := Try.sizeOf9
  v26 := Try.zeroValue9
  t28 := Try.underlying130
  a28 := Try.isAgg130
  z28 := Try.sizeOf130
  v28 := Try.zeroValue130
  i26 := by kernel_rfl }
def Try.sort140_ren : Go.Shelf.Ren := ⟨fun | 6 => 140 | 8 => 145 | 9 => 144 | 19 => 157 | 20 => 158 | 21 => 148 | 22 => 149 | 23 => 150 | 24 => 151 | 25 => 152 | 26 => 153 | 27 => 154 | 28 => 155 | 29 => 156 | 36 => 159 | 31 => 160 | 32 => 161 | 37 => 162 | 38 => 163 | 39 => 164 | 41 => 165 | n => n, fun | 27 => 24 | 29 => 9 | 3 => 3 | 32 => 104 | 26 => 24 | 0 => 0 | 44 => 192 | 46 => 194 | 4 => 4 | 36 => 186 | 35 => 185 | 41 => 169 | 5 => 5 | 9 => 9 | 53 => 195 | 57 => 199 | 63 => 201 | 64 => 202 | n => n, fun | n => n⟩
theorem Try.sort140 : Go.Proofs.SlLaysM.n6 Try.prog Try.sort140_ren := {
  mixed := by kernel_rfl
  f6 := ⟨Try.f140.name, by decide, Try.func140.trans (congrArg some (by kernel_rfl))⟩
  f8 := Try.func145.trans (congrArg some (by kernel_rfl))
  f9 := ⟨Try.f144.name, by decide, Try.func144.trans (congrArg some (by kernel_rfl))⟩
  f19 := Try.func157.trans (congrArg some (by kernel_rfl))
  f20 := Try.func158.trans (congrArg some (by kernel_rfl))
  f21 := ⟨Try.f148.name, by decide, Try.func148.trans (congrArg some (by kernel_rfl))⟩
  f22 := ⟨Try.f149.name, by decide, Try.func149.trans (congrArg some (by kernel_rfl))⟩
  f23 := ⟨Try.f150.name, by decide, Try.func150.trans (congrArg some (by kernel_rfl))⟩
  f24 := ⟨Try.f151.name, by decide, Try.func151.trans (congrArg some (by kernel_rfl))⟩
  f25 := ⟨Try.f152.name, by decide, Try.func152.trans (congrArg some (by kernel_rfl))⟩
  f26 := ⟨Try.f153.name, by decide, Try.func153.trans (congrArg some (by kernel_rfl))⟩
  f27 := ⟨Try.f154.name, by decide, Try.func154.trans (congrArg some (by kernel_rfl))⟩
  f28 := ⟨Try.f155.name, by decide, Try.func155.trans (congrArg some (by kernel_rfl))⟩
  f29 := ⟨Try.f156.name, by decide, Try.func156.trans (congrArg some (by kernel_rfl))⟩
  f31 := Try.func160.trans (congrArg some (by kernel_rfl))
  f32 := Try.func161.trans (congrArg some (by kernel_rfl))
  f36 := ⟨Try.f159.name, by decide, Try.func159.trans (congrArg some (by kernel_rfl))⟩
  f37 := ⟨Try.f162.name, by decide, Try.func162.trans (congrArg some (by kernel_rfl))⟩
  f38 := ⟨Try.f163.name, by decide, Try.func163.trans (congrArg some (by kernel_rfl))⟩
  f39 := ⟨Try.f164.name, by decide, Try.func164.trans (congrArg some (by kernel_rfl))⟩
  f41 := ⟨Try.f165.name, by decide, Try.func165.trans (congrArg some (by kernel_rfl))⟩
  t0 := Try.underlying0
  a0 := Try.isAgg0
  z0 := Try.sizeOf0
  v0 := Try.zeroValue0
  t3 := Try.underlying3
  a3 := Try.isAgg3
  z3 := Try.sizeOf3
  v3 := Try.zeroValue3
  t4 := Try.underlying4
  a4 := Try.isAgg4
  z4 := Try.sizeOf4
  v4 := Try.zeroValue4
  t5 := Try.underlying5
  a5 := Try.isAgg5
  z5 := Try.sizeOf5
  v5 := Try.zeroValue5
  t9 := Try.underlying9
  a9 := Try.isAgg9
  z9 := Try.sizeOf9
  v9 := Try.zeroValue9
  t26 := Try.underlying24
  a26 := Try.isAgg24
  z26 := Try.sizeOf24
  v26 := Try.zeroValue24
  t27 := Try.underlying24
  a27 := Try.isAgg24
  z27 := Try.sizeOf24
  v27 := Try.zeroValue24
  t29 := Try.underlying9
  a29 := Try.isAgg9
  z29 := Try.sizeOf9
  v29 := Try.zeroValue9
  t32 := Try.underlying104
  a32 := Try.isAgg104
  z32 := Try.sizeOf104
  v32 := Try.zeroValue104
  t35 := Try.underlying185
  a35 := Try.isAgg185
  z35 := Try.sizeOf185
  v35 := Try.zeroValue185
  t36 := Try.underlying186
  a36 := Try.isAgg186
  z36 := Try.sizeOf186
  v36 := Try.zeroValue186
  t41 := Try.underlying169
  a41 := Try.isAgg169
  z41 := Try.sizeOf169
  v41 := Try.zeroValue169
  t44 := Try.underlying192
  a44 := Try.isAgg192
  z44 := Try.sizeOf192
  v44 := Try.zeroValue192
  t46 := Try.underlying194
  a46 := Try.isAgg194
  z46 := Try.sizeOf194
  v46 := Try.zeroValue194
  t53 := Try.underlying195
  a53 := Try.isAgg195
  z53 := Try.sizeOf195
  v53 := Try.zeroValue195
  t57 := Try.underlying199
  a57 := Try.isAgg199
  z57 := Try.sizeOf199
  v57 := Try.zeroValue199
  t63 := Try.underlying201
  a63 := Try.isAgg201
  z63 := Try.sizeOf201
  v63 := Try.zeroValue201
  t64 := Try.underlying202
  a64 := Try.isAgg202
  z64 := Try.sizeOf202
  v64 := Try.zeroValue202 }
set_option maxHeartbeats 1000000 in
open Go.RowKit Go.Maps Go.Sort in
theorem Try.sorts136 (m : Nat) : AnyZ.SortsIn Try.prog Try.sorted136_ren Fence.wide m :=
  ⟨fun blk off cap ss W hH hblk hsz => callsIn_wide.2 (AnyM.slices_Sort_string Try.sort140 blk off cap ss W hH hblk hsz),
   fun p cap W => callsIn_wide.2 (AnyM.slices_Sort_string_none Try.sort140 p cap W)⟩
set_option maxHeartbeats 1000000 in
open Go.RowKit Go.Maps Go.Sort in
theorem Try.maps_Keys_137 (mb : Option Nat) (W : World) : CallsIn Fence.wide 5 Try.prog 137 #[.map mb] W fun e w' => e = .returned (.func (.func 141) #[] #[.pointer (some ⟨W.heap.size, 0, none⟩)]) ∧ w' = W.alloc (.cells #[.map mb] 63) :=
  AnyZ.keys_in Try.keys137 Fence.wide 5 trivial rfl mb W
set_option maxHeartbeats 1000000 in
open Go.RowKit Go.Maps Go.Sort in
theorem Try.slices_Sorted_keys_136_137 {H : Type} (b nn : Nat) (D0 : DataW H) (R : Value → Option (DataW H × List MemPlace)) (w : World) (hown : w.ownsMap Try.prog 9 R b nn D0) (hmax : Maps.size D0 ≤ maxLen) (hbytes : Maps.size D0 * 16 ≤ 140737488355328) :
    CallsIn Fence.wide 5 Try.prog 136 #[.func (.func 141) #[] #[.pointer (some ⟨w.heap.size, 0, none⟩)]] (w.alloc (.cells #[.map (some b)] 63)) fun e w' => ∃ (v : Value) (ss : List (List UInt8)), e = .returned v ∧ ss.Perm (strKeys D0) ∧
      w'.ownsRow (w.alloc (.cells #[.map (some b)] 63)).heap.size 9 1 v ss.length ((ss.mergeSort (fun x y => decide (x ≤ y))).map encStr) ∧ (v = .slice none 0 0 ↔ ss = []) ∧ Below (w.alloc (.cells #[.map (some b)] 63)).heap.size (w.alloc (.cells #[.map (some b)] 63)) w' := by
  have hbl := hown.lt
  have hseq : SeqGives Fence.wide 2 Try.prog 141 #[.pointer (some ⟨w.heap.size, 0, none⟩)] encStr (fun ss => ss.Perm (strKeys D0)) (Maps.size D0) (w.alloc (.cells #[.map (some b)] 63)) :=
    AnyZ.keys_gives (ρ := Try.keys137_ren) { Try.keys137 with } Fence.wide _ trivial rfl (by omega) w.heap.size b nn D0 _ (by simp) (by simp) (by
      obtain ⟨es, clock, hb, Ft, hs, hD⟩ := hown
      exact ⟨es, clock, (Below.heap_alloc _ _ b hbl).trans hb, Ft, hs, hD⟩)
  exact AnyZ.sorted_in Try.sorted136 Fence.wide 5 trivial trivial trivial trivial rfl (by omega) (Try.sorts136 _) (enters_of Try.func140 (by kernel_rfl) rfl) 141 #[.pointer (some ⟨w.heap.size, 0, none⟩)] trivial (enters_of Try.func141 (by kernel_rfl) rfl) _ _ hmax hbytes _ hseq
set_option maxHeartbeats 1000000 in
open Go.RowKit Go.Maps Go.Sort in
theorem Try.slices_Sorted_keys_nil_136_137 (w : World) :
    CallsIn Fence.wide 5 Try.prog 136 #[.func (.func 141) #[] #[.pointer (some ⟨w.heap.size, 0, none⟩)]] (w.alloc (.cells #[.map none] 63)) fun e w' => ∃ (v : Value) (ss : List (List UInt8)), e = .returned v ∧ ss = [] ∧
      w'.ownsRow (w.alloc (.cells #[.map none] 63)).heap.size 9 1 v ss.length ((ss.mergeSort (fun x y => decide (x ≤ y))).map encStr) ∧ (v = .slice none 0 0 ↔ ss = []) ∧ Below (w.alloc (.cells #[.map none] 63)).heap.size (w.alloc (.cells #[.map none] 63)) w' := by
  have hseq : SeqGives Fence.wide 2 Try.prog 141 #[.pointer (some ⟨w.heap.size, 0, none⟩)] encStr (fun ss : List (List UInt8) => ss = []) 0 (w.alloc (.cells #[.map none] 63)) :=
    AnyZ.keys_gives_nil (ρ := Try.keys137_ren) { Try.keys137 with } Fence.wide _ trivial rfl w.heap.size _ (by simp) (by simp)
  exact AnyZ.sorted_in Try.sorted136 Fence.wide 5 trivial trivial trivial trivial rfl (by omega) (Try.sorts136 _) (enters_of Try.func140 (by kernel_rfl) rfl) 141 #[.pointer (some ⟨w.heap.size, 0, none⟩)] trivial (enters_of Try.func141 (by kernel_rfl) rfl) _ 0 (Nat.zero_le _) (by omega) _ hseq
end Go.Proofs
/- PairsOf on both sides. -/
namespace Go.Proofs.Ytbmfbnlmdjnddaa
open Go.RowKit Go.Shelf

/-- The last call of a chain: who calls and who is called. -/
def twoB (x : Txt) : Txt := [penB x, lastB x]
theorem twoB_snoc (y : Txt) (u v : UInt8) : twoB (y ++ [u, v]) = [u, v] := by
  unfold twoB
  rw [(ends_of y u v).1, (ends_of y u v).2]
theorem str_two (y : Txt) (u v : UInt8) : (strOf (y ++ [u, v])).extract ((strOf (y ++ [u, v])).size - 2) (strOf (y ++ [u, v])).size = strOf (twoB (y ++ [u, v])) := by
  have hs : (strOf (y ++ [u, v])).size = y.length + 2 := by rw [str_size]; simp
  rw [hs, twoB_snoc]
  apply ByteArray.ext
  rw [ByteArray.data_extract]
  apply Array.ext'
  simp [strOf]
def pairsRes (l : List Seg) (t : ByteArray) : List ByteArray := (putAll [] ((xsRes l t).map twoB)).map strOf
def PairsPost (w : World) (l : List Seg) (t : ByteArray) (e : Ending) (w' : World) : Prop :=
  ∃ v, e = .returned (.tuple #[v, .bool (traceB l t.data.toList).isSome]) ∧ OwnTexts w' w.heap.size v (pairsRes l t) ∧ Below w.heap.size w w'

/-- A chain as a round is handed it: two long at least, never long. -/
def fix2 (x : Txt) : Txt := if 2 ≤ x.length ∧ x.length ≤ 1000 then x else [0, 0]
theorem fix2_ok (x : Txt) : 2 ≤ (fix2 x).length ∧ (fix2 x).length ≤ 1000 := by
  unfold fix2
  split
  · next h => exact h
  · exact ⟨by simp, by simp⟩
theorem two_of {x : Txt} (h : 2 ≤ x.length) : ∃ y u v, x = y ++ [u, v] := by
  refine ⟨x.take (x.length - 2), x[x.length - 2], x[x.length - 1], ?_⟩
  have h1 : x.drop (x.length - 2) = [x[x.length - 2], x[x.length - 1]] := by
    apply List.ext_getElem?
    intro i
    rw [List.getElem?_drop]
    match i with
    | 0 => simp
    | 1 => rw [show x.length - 2 + 1 = x.length - 1 by omega]; simp
    | i + 2 => rw [List.getElem?_eq_none (by omega)]; rfl
  rw [← h1, List.take_append_drop]
/-- The map holds just some texts. -/
structure PairsHeld (X : World) (b n : Nat) (ps : List Txt) (D : DataW Unit) : Prop where
  own : X.ownsMap Try.prog 9 (plainElem Try.prog 4) b n D
  has : ∀ s, Maps.has D (.string s) = true ↔ s ∈ ps
theorem PairsHeld.step {X : World} {b n : Nat} {ps : List Txt} {D : DataW Unit} (h : PairsHeld X b n ps D) (hn : n ≤ 1000) (x : Txt) (hx : (strOf x).size ≤ 1000) :
    ∃ X' D', (Instr.mapUpdate 62 (.map (some b)) (.string (strOf x)) (.bool true)).run Try.prog X = .ok () X' ∧ PairsHeld X' b (n + 1) (ps ++ [x]) D' ∧ X.grownBy X' (some b) := by
  have hkey : keyOf Try.prog 9 (.string (strOf x)) = some (.string (strOf x).data.toList) := WideMaps.keyOf_string_mk Try.underlying9 (by unfold maxLen; omega)
  obtain ⟨X', h1, h2, h3⟩ := h.own.update (Maps.string_keyed Try.underlying9) Try.underlying62 (by unfold maxLen; omega) hkey (plainElem_bool (H := Unit) Try.underlying4 true)
  refine ⟨X', _, h1, ⟨h2, fun s => ?_⟩, h3⟩
  have e : (strOf x).data.toList = x := rfl
  rw [e]
  by_cases hs : s = x
  · subst hs
    rw [Maps.has_put_same h.own.isMap (show WideAt.IsKeyLit (Lit.string _) from trivial)]
    simp
  · rw [Maps.has_put_other (by intro hh; injection hh with hh; exact hs hh), h.has, List.mem_append, List.mem_singleton]
    exact ⟨.inl, fun hh => hh.resolve_right hs⟩
/-- The keys of such a map, sorted, are the texts put in one by one. -/
theorem PairsHeld.sorted {X : World} {b n : Nat} {ps ss : List Txt} {D : DataW Unit} (h : PairsHeld X b n ps D) (hp : ss.Perm (strKeys D)) : (ss.mergeSort fun x y => decide (x ≤ y)) = putAll [] ps := by
  obtain ⟨es, rfl, hne, -⟩ := h.own.entries (Maps.string_keyed Try.underlying9)
  obtain ⟨es', he, hk⟩ := World.ownsMap.keysOf h.own
  injection he with he
  subst he
  have hall : ∀ p ∈ es, ∃ x, p.1 = Lit.string x := fun p hpm => by
    obtain ⟨key, hkey⟩ := hk p hpm
    obtain ⟨x, _, hx, _⟩ := Maps.keyOf_str Try.underlying9 hkey
    exact ⟨x, hx⟩
  have hs := putAll_sorted ps [] List.Pairwise.nil
  have hnd : (putAll [] ps).Nodup := hs.imp (fun {a b} hab e => by subst e; exact txt_irr _ hab)
  have hperm := perm_strKeys hne hall hnd (fun x => by rw [putAll_mem, h.has]; simp)
  have h1 := mergeSort_of_perm (hp.trans hperm.symm)
  have h2 : (putAll [] ps).mergeSort leB = putAll [] ps := List.mergeSort_of_pairwise (hs.imp (fun {a b} hab => decide_eq_true (List.le_of_lt hab)))
  exact h1.trans h2

attribute [local go_sem] Oper.semAt_some

end Go.Proofs.Ytbmfbnlmdjnddaa
/- What is lost in a trace: plain. -/
namespace Go.Proofs.Ytbmfbnlmdjnddaa
open Go.RowKit

def byteAt (x : List UInt8) (k : Nat) : UInt8 := x.getD k 0
/-- What the reference writes down for one chain. -/
def lostOne (l : List Seg) (x : List UInt8) (m : Nat) : List UInt8 := ((List.range m).filter fun k => !lieB l ⟨#[byteAt x k]⟩ ⟨#[lastB x]⟩).map (byteAt x)
def lostAll (l : List Seg) (xs : List (List UInt8)) : List UInt8 := xs.flatMap fun x => lostOne l x x.length
theorem lostOne_succ (l : List Seg) (x : List UInt8) (m : Nat) : lostOne l x (m + 1) = lostOne l x m ++ if lieB l ⟨#[byteAt x m]⟩ ⟨#[lastB x]⟩ = true then [] else [byteAt x m] := by
  unfold lostOne
  rw [List.range_succ, List.filter_append, List.map_append]
  congr 1
  cases h : lieB l ⟨#[byteAt x m]⟩ ⟨#[lastB x]⟩ <;> simp [h]
theorem lostOne_len (l : List Seg) (x : List UInt8) (m : Nat) : (lostOne l x m).length ≤ m := by
  unfold lostOne
  rw [List.length_map]
  have := List.length_filter_le (fun k => !lieB l ⟨#[byteAt x k]⟩ ⟨#[lastB x]⟩) (List.range m)
  simpa using this
theorem lostAll_snoc (l : List Seg) (xs : List (List UInt8)) (x : List UInt8) : lostAll l (xs ++ [x]) = lostAll l xs ++ lostOne l x x.length := by
  unfold lostAll
  rw [List.flatMap_append]
  simp
theorem lostAll_len (l : List Seg) : ∀ (xs : List (List UInt8)), (∀ x ∈ xs, x.length ≤ 9) → (lostAll l xs).length ≤ 9 * xs.length
  | [], _ => Nat.le_refl _
  | x :: xs, h => by
    have h1 := lostAll_len l xs (fun y hy => h y (List.mem_cons_of_mem _ hy))
    have h2 := lostOne_len l x x.length
    have h3 := h x List.mem_cons_self
    have e : lostAll l (x :: xs) = lostOne l x x.length ++ lostAll l xs := List.flatMap_cons
    rw [e, List.length_append, List.length_cons]
    omega
/-- Which segments the program says are lost at the last call of a chain, and in all of them. -/
def lostX (l : List Seg) (x : List UInt8) (i : Nat) : Bool := decide (byteOf l i ∈ x) && decide (kindIx l i (bSeek l (lastB x)).toNat = 2)
def lostF (l : List Seg) (xs : List (List UInt8)) (i : Nat) : Bool := decide (i < l.length) && xs.any fun x => lostX l x i
theorem lostF_nil (l : List Seg) (i : Nat) : lostF l [] i = false := by unfold lostF; simp
theorem lostF_snoc (l : List Seg) (xs : List (List UInt8)) (x : List UInt8) (i : Nat) : lostF l (xs ++ [x]) i = (lostF l xs i || (decide (i < l.length) && lostX l x i)) := by
  unfold lostF
  rw [List.any_append]
  cases decide (i < l.length) <;> simp
theorem mem_bytes {x : List UInt8} {c : UInt8} : c ∈ x ↔ ∃ k, k < x.length ∧ byteAt x k = c := by
  constructor
  · intro h
    obtain ⟨k, hk, e⟩ := List.getElem_of_mem h
    exact ⟨k, hk, by unfold byteAt; rw [List.getD_eq_getElem?_getD, List.getElem?_eq_getElem hk]; exact e⟩
  · rintro ⟨k, hk, e⟩
    unfold byteAt at e
    rw [List.getD_eq_getElem?_getD, List.getElem?_eq_getElem hk] at e
    rw [← e]
    exact List.getElem_mem hk
theorem lost_same {l : List Seg} (hv : validB l = true) {xs : List (List UInt8)} (hx : ∀ x ∈ xs, callP l (lastB x) = true) {i : Nat} (hi : i < l.length) : decide (byteOf l i ∈ lostAll l xs) = lostF l xs i := by
  have hb := bSeek_byte hv hi
  have one : ∀ x ∈ xs, (byteOf l i ∈ lostOne l x x.length ↔ lostX l x i = true) := by
    intro x hxm
    have hc : 0 ≤ bSeek l (lastB x) := by
      have h1 := of_decide_eq_true (hx x hxm)
      rwa [show indexB l ⟨#[lastB x]⟩ = bSeek l (lastB x) from if_pos hv] at h1
    have hl : lieB l ⟨#[byteOf l i]⟩ ⟨#[lastB x]⟩ = lieIx l i (bSeek l (lastB x)).toNat := by
      rw [lieB_bytes hv, hb, decide_eq_true hc, decide_eq_true (Int.natCast_nonneg i), Int.toNat_natCast]
      rfl
    unfold lostX
    rw [Bool.and_eq_true, decide_eq_true_eq, kindIx_side, ← hl]
    unfold lostOne
    rw [List.mem_map]
    constructor
    · rintro ⟨k, hk, e⟩
      rw [List.mem_filter, List.mem_range] at hk
      rw [e] at hk
      exact ⟨mem_bytes.2 ⟨k, hk.1, e⟩, hk.2⟩
    · rintro ⟨h1, h2⟩
      obtain ⟨k, hk, e⟩ := mem_bytes.1 h1
      refine ⟨k, ?_, e⟩
      rw [List.mem_filter, List.mem_range, e]
      exact ⟨hk, h2⟩
  unfold lostF
  rw [decide_eq_true hi, Bool.true_and, Bool.eq_iff_iff, decide_eq_true_eq, List.any_eq_true]
  unfold lostAll
  rw [List.mem_flatMap]
  constructor
  · rintro ⟨x, hxm, h⟩
    exact ⟨x, hxm, (one x hxm).1 h⟩
  · rintro ⟨x, hxm, h⟩
    exact ⟨x, hxm, (one x hxm).2 h⟩
/-- The segments that are lost in a trace. -/
def lostRes (l : List Seg) (t : ByteArray) : ByteArray := match traceB l t.data.toList with
  | none => ⟨#[]⟩
  | some f => namesAt l (selIx (lostF l (chainsB [rootB l] f)) l.length)
theorem selIx_congr {f g : Nat → Bool} {n : Nat} (h : ∀ i, i < n → f i = g i) : selIx f n = selIx g n := by
  unfold selIx
  apply List.filter_congr
  intro i hi
  exact h i (List.mem_range.1 hi)

end Go.Proofs.Ytbmfbnlmdjnddaa
/- LostIn on both sides. -/
namespace Go.Proofs.Ytbmfbnlmdjnddaa
open Go.RowKit Go.Shelf

theorem strOf_byte {x : List UInt8} {k : Nat} (hk : k < x.length) : (strOf x).extract k (k + 1) = ⟨#[byteAt x k]⟩ := by
  have hk' : k < (strOf x).size := by rw [str_size]; exact hk
  rw [one_byte _ hk']
  have : (strOf x)[k] = byteAt x k := by
    unfold byteAt
    rw [List.getD_eq_getElem?_getD, List.getElem?_eq_getElem hk]
    simp [strOf, ByteArray.getElem_eq_getElem_data]
  rw [this]
theorem strOf_last {x : List UInt8} (hx : x ≠ []) : (strOf x).extract ((strOf x).size - 1) (strOf x).size = ⟨#[lastB x]⟩ := by
  obtain ⟨y, c, rfl⟩ : ∃ y c, x = y ++ [c] := ⟨x.dropLast, x.getLast hx, (List.dropLast_concat_getLast hx).symm⟩
  rw [lastB_snoc]
  exact str_last y c
theorem strOf_snoc (a : List UInt8) (c : UInt8) : strOf a ++ ⟨#[c]⟩ = strOf (a ++ [c]) := bytes_cat a [c]

set_option maxRecDepth 100000 in
set_option maxHeartbeats 2000000 in
theorem setNames_any (B g : Nat) (l : List Seg) (nb : Nat → Nat) (cv : Nat → Value) (f : Nat → Bool) (w : World) (h : Nodes w B g l.length l.length l nb cv) (hv : validB l = true) :
    Calls Try.prog 83 #[.int .u64 (setF f : Int), .slice (some ⟨g, 0, none⟩) l.length l.length] w fun e w' => e = .returned (.string (namesAt l (selIx f l.length))) ∧ Below w.heap.size w w' := by
  have HN := Lib.hid h
  have HV := Lib.hid hv
  have h8 := (valid_all hv).2.1
  clear h hv
  go_enter Try.func83, Try.ntmps83
  go_wp2
  have hI0 : Lib.IsBuilderF 67 5 w.heap.size w.heap.size (Lib.byteCells (namesAt l (selIx f 0)).data.toList) (w.alloc (.cells #[.pointer none, .slice none 0 0] 67)) :=
    Lib.IsBuilderF.of (Lib.fresh_isBuilder 67 5 w)
  have hB0 : Below w.heap.size w (w.alloc (.cells #[.pointer none, .slice none 0 0] 67)) := (Below.refl _ w).alloc (Nat.le_refl _) _
  go_loopw [10] (fun i wr => ∃ k : Nat, k ≤ l.length ∧ i = .int .i64 k ∧ Hid (Lib.IsBuilderF 67 5 w.heap.size w.heap.size (Lib.byteCells (namesAt l (selIx f k)).data.toList) wr) ∧ Hid (Below w.heap.size w wr))
    (fun i _ => l.length - (intOf i).toNat)
  case atStart => exact ⟨0, Nat.zero_le _, rfl, hI0, hB0⟩
  case round =>
    clear hI0 hB0
    obtain ⟨k, hk, rfl, HI, HB⟩ := hrel
    have hk0 : (0 : Int) ≤ (k : Int) := Int.natCast_nonneg _
    have hbz := HB.out.size
    have hbw : w.heap.size < wr.heap.size := by
      obtain ⟨cb, hcb⟩ := builder_cells HI.out
      exact (Array.getElem?_eq_some_iff.1 hcb).1
    by_cases hlt : k < l.length
    · have hlt' : (k : Int) < (l.length : Int) := by omega
      obtain ⟨cs, hrow, _, hci⟩ := HN.out.row
      have gk : wr.cell? ⟨g, k, none⟩ = some (.pointer (some ⟨nb k, 0, none⟩)) := by
        rw [HB.out.cell (p := ⟨g, k, none⟩) hrow.lt, hrow.cell]
        exact hci k hlt
      have hnk := HN.out.node k _ hlt (List.getElem?_eq_getElem hlt)
      have nk : wr.cell? ⟨nb k, 0, none⟩ = some (.string l[k].name) := (HB.out.cell (p := ⟨nb k, 0, none⟩) hnk.lt).trans (hnk.cell 0)
      clear hrow hci hnk
      have HS := Lib.hid (selIx_succ f k)
      go_wp2_with fail
      refine (has_any f k _ (by omega)).mono ?_
      cases hf : f k with
      | false =>
        have HS1 : Hid (selIx f (k + 1) = selIx f k) := by
          show _ = _
          rw [HS.out, if_neg (by rw [hf]; decide), List.append_nil]
        have HI1 : Hid (Lib.IsBuilderF 67 5 w.heap.size w.heap.size (Lib.byteCells (namesAt l (selIx f (k + 1))).data.toList) wr) := by
          show Lib.IsBuilderF _ _ _ _ _ _
          rw [HS1.out]
          exact HI.out
        clear hf
        rintro e w1 ⟨rfl, rfl⟩
        go_wp2
        go_roundw
        case rel => exact ⟨k + 1, by omega, by go_num, HI1, HB⟩
        case measure => simp [intOf]; omega
      | true =>
        rintro e w1 ⟨rfl, rfl⟩
        have hlen : (Lib.byteCells (namesAt l (selIx f k)).data.toList).length = (namesAt l (selIx f k)).size := by simp [Lib.byteCells]
        have HS1 : Hid (Lib.byteCells (namesAt l (selIx f (k + 1))).data.toList = Lib.byteCells (namesAt l (selIx f k)).data.toList ++ Lib.strCells l[k].name) := by
          show _ = _
          rw [HS.out, if_pos hf, namesAt_snoc _ hlt, ByteArray.data_append, Array.toList_append]
          simp [Lib.byteCells, Lib.strCells]
        have hz1 := valid_names HV.out _ (List.getElem_mem hlt)
        have hz2 := namesAt_len (valid_names HV.out) (selIx f k)
        have hz3 := selIx_len f k
        have hl1 : (Lib.byteCells (namesAt l (selIx f k)).data.toList).length + l[k].name.size ≤ 140737488355328 := by omega
        clear hz2 hz3 hf hlen
        generalize l[k].name = nm at *
        go_wp2_with fail
        refine (writeString_any w.heap.size w.heap.size _ nm _ HI.out hl1 (by omega)).mono ?_
        rintro e w2 ⟨rfl, hI1, hb1, hk1⟩
        have HI1 : Hid (Lib.IsBuilderF 67 5 w.heap.size w.heap.size (Lib.byteCells (namesAt l (selIx f (k + 1))).data.toList) w2) := by
          show Lib.IsBuilderF _ _ _ _ _ _
          rw [HS1.out]
          exact hI1
        have HB1 := Lib.hid (HB.out.trans (hb1.mono (by omega)))
        clear hI1 hb1 hk1 gk nk
        go_wp2
        go_roundw
        case rel => exact ⟨k + 1, by omega, by go_num, HI1, HB1⟩
        case measure => simp [intOf]; omega
    · obtain rfl : k = l.length := by omega
      go_wp2_with fail
      refine (Try.Builder_String_any_k w.heap.size w.heap.size _ _ HI.out (by omega)).mono ?_
      rintro e w2 ⟨rfl, hI1, hb1, hk1⟩
      have HB1 := Lib.hid (HB.out.trans (hb1.mono (by omega)))
      clear hI1 hb1 hk1
      go_wp2
      go_ret
      exact ⟨rfl, HB1.out⟩

theorem contains_said (s : ByteArray) (b : UInt8) : decide (0 ≤ Lib.indexByte s.data.toList b) = decide (b ∈ s.data.toList) := by
  rw [← Lib.contains_iff_indexByte]
  simp

end Go.Proofs.Ytbmfbnlmdjnddaa
