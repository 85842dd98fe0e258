/- Joined: Ao Dj Dk Dl. -/
import Derived.Test.YtifkmehnikfihaaGreatU19
import Derived.Test.YtifkmehnikfihaaGreatU20
import Derived.Test.YtifkmehnikfihaaGreatU21
import Derived.Test.YtifkmehnikfihaaGreatU13
import Derived.Test.YtifkmehnikfihaaGreatU16
import Derived.Test.YtifkmehnikfihaaGreatU01
import Derived.Laws.EntriesVeiled
/- The program's TopCalls. -/
namespace Go.Proofs.YtifkmehnikfihaaGreat
open Go.RowKit

/-- What a call writes into a builder that is younger than all calls. -/
theorem callWriteB_of (B b : Nat) (c : UInt8) (k : Forest) (v : Value) (s : List UInt8) (w : World) (hu : IsCall w (· < B) c k v) (h : Lib.IsBuilderF 93 5 B b (Lib.byteCells s) w) (hs : s.length + (textB k).length ≤ 90000) (hBw : B ≤ w.heap.size)
    (hk : ∀ (W : World) (u : Value) (s' : List UInt8), k.isNil = false → s'.length ≤ s.length + 2 → SliceIs W (· < B) u k → Below B w W → Lib.IsBuilderF 93 5 B b (Lib.byteCells s') W → Calls Tryz.prog 317 #[.pointer (some ⟨b, 0, none⟩), u] W (Written W B b (s' ++ textB k))) :
    ∃ T x K y, v = .iface T x ∧ (∀ w : World, (method 426 T x "loop.example/segmentrooms/impl.write").run Tryz.prog w = .ok (K, y) w) ∧ (∀ w : World, (callFunc K #[y, .pointer (some ⟨b, 0, none⟩)]).run Tryz.prog w = .ok (.enter K #[y, .pointer (some ⟨b, 0, none⟩)]) w) ∧
      Calls Tryz.prog K #[y, .pointer (some ⟨b, 0, none⟩)] w (Written w B b (s ++ textOne c k)) := by
  rcases hu with ⟨h1, rfl⟩ | ⟨h1, q, cap, rfl, hq, hc⟩
  · refine ⟨_, _, _, _, rfl, meth_write_leaf c, fun w => enters_of Tryz.func314 (by kernel_rfl) rfl _ w, ?_⟩
    have e1 : textOne c k = [c] := by unfold textOne; rw [if_pos h1]
    rw [e1]
    exact leafWrite_any B b c s w h (by omega) hBw
  · refine ⟨_, _, _, _, rfl, meth_write_branch c _ _ _, fun w => enters_of Tryz.func316 (by kernel_rfl) rfl _ w, ?_⟩
    have e1 : s ++ textOne c k = s ++ [c] ++ [40] ++ textB k ++ [41] := by unfold textOne; rw [if_neg (by rw [h1]; decide)]; simp
    rw [e1]
    exact branchWrite_of B b c k _ cap s w h hs hBw fun W hb ho hi => hk W _ _ h1 (by simp) ⟨_, cap, rfl, fun _ => ⟨q, rfl, hq, Cells.keep (fun x hx => ⟨hx, hb.block x hx⟩) k q 0 (hb.block q hq) hc⟩⟩ hb hi

set_option maxRecDepth 100000 in
set_option maxHeartbeats 1000000 in
theorem writeCallsB_any (B b : Nat) : ∀ (m : Nat) (f : Forest) (v : Value) (s : List UInt8) (w : World), f.size < m → s.length + 3 * f.size ≤ 80000 → SliceIs w (· < B) v f → Lib.IsBuilderF 93 5 B b (Lib.byteCells s) w → B ≤ w.heap.size →
    Calls Tryz.prog 317 #[.pointer (some ⟨b, 0, none⟩), v] w (Written w B b (s ++ textB f)) := by
  intro m
  induction m with
  | zero => intro f v s w h; omega
  | succ m ih =>
    intro f v s w hm hs hv hI hBw
    obtain ⟨A, cap, rfl, hl0⟩ := LeftC.start hv
    have IH := Lib.hid ih
    have HL0 := Lib.hid hl0
    have HI0 := Lib.hid hI
    have hfl : f.len ≤ 80000 := by have := f.len_size; omega
    clear ih hv hl0 hI
    go_enter Tryz.func317, Tryz.ntmps317
    go_wp2
    go_loopw [8] (fun i wr => ∃ (pre rest : Forest), i = .int .i64 pre.len ∧ Hid (LeftC wr B f A pre rest) ∧ Hid (Lib.IsBuilderF 93 5 B b (Lib.byteCells (s ++ textB pre)) wr) ∧ Hid (Below B w wr) ∧ Hid (Lib.OthersKept 5 (some b) w wr))
      (fun i _ => f.len - (intOf i).toNat)
    case atStart => exact ⟨.nil, f, rfl, HL0, by show Lib.IsBuilderF _ _ _ _ _ _; rw [show textB .nil = [] from rfl, List.append_nil]; exact HI0.out, Below.refl _ _, Lib.OthersKept.refl _ _ _⟩
    case round =>
      obtain ⟨pre, rest, rfl, HL, HI, HB, HO⟩ := hrel
      clear HL0 HI0
      cases rest with
      | nil =>
        have HE := Lib.hid HL.out.done
        have hle : ¬ (pre.len < f.len) := by rw [HE.out]; omega
        go_wp2
        go_end0
        exact ⟨rfl, by rw [HE.out]; exact HI.out, HB.out, HO.out⟩
      | cons c k r =>
        obtain ⟨hnext, hlt, hks, g, u, rfl, hg, c0, hu⟩ := HL.out.take
        have hz := HB.out.size
        have hBr : B ≤ wr.heap.size := by omega
        have hpl := textB_len pre
        have hkl := textB_len k
        have hps : pre.size + (k.size + r.size + 1) = f.size := by rw [HL.out.1, Forest.app_size]; rfl
        have hl1 : (s ++ textB pre).length + 3 * k.size + 3 ≤ 80000 := by rw [List.length_append]; omega
        have HNX := Lib.hid hnext
        have HLN : Hid ((pre.app (.cons c k .nil)).len = pre.len + 1) := by show _ = _; rw [Forest.app_len]; rfl
        have HNB : Hid (s ++ textB (pre.app (.cons c k .nil)) = s ++ textB pre ++ textOne c k) := by
          show _ = _
          rw [textB_app, textB_one, List.append_assoc]
        obtain ⟨T, x, K, y, rfl, hmt, hen, hc⟩ := callWriteB_of B b c k u _ wr hu HI.out (by omega) hBr (fun W u' s' _ hs' hsl hb' hi' => IH.out k u' s' W (by omega) (by omega) hsl hi' (by have := hb'.size; omega))
        have HC := Lib.hid hc
        clear hnext hpl hkl hc hu
        go_wp2_with fail
        refine HC.out.mono ?_
        rintro e w2 ⟨rfl, hI2, hb2, hk2⟩
        rw [← HNB.out] at hI2
        have HI2 := Lib.hid hI2
        have HB2 := Lib.hid (HB.out.trans hb2)
        have HL2 := Lib.hid (HNX.out.below hb2)
        have HO2 := Lib.hid (HO.out.trans hk2)
        clear hI2 hb2 hk2 HC HNX HL HI HB HO hmt hen c0
        go_wp2
        go_roundw
        case rel => exact ⟨_, r, by rw [HLN.out]; go_num, HL2, HI2, HB2, HO2⟩
        case measure => simp [intOf]; omega

/-- What was read, or nothing. -/
theorem readSlice {w w' : World} {l : List Seg} {t : ByteArray} {e : Ending} (h : TracePost w (traceB l t.data.toList) e w') :
    ∃ v f, e = .returned (.tuple #[v, .bool (traceB l t.data.toList).isSome]) ∧ topsRes l t = (topsB f).map strOf ∧ f.size ≤ 80 ∧ SliceIs w' (· < w'.heap.size) v f ∧ Below w.heap.size w w' := by
  obtain ⟨v, e1, h1, hb⟩ := h
  unfold topsRes
  cases hR : traceB l t.data.toList with
  | none =>
    rw [hR] at h1 e1
    rcases h1 with ⟨f, h0, _⟩ | ⟨_, rfl⟩
    · cases h0
    · exact ⟨_, .nil, e1, rfl, Nat.zero_le _, ⟨none, 0, rfl, fun h => by cases h⟩, hb⟩
  | some f =>
    rw [hR] at h1 e1
    rcases h1 with ⟨f', h0, hk⟩ | ⟨h0, _⟩
    · obtain rfl : f = f' := by injection h0
      exact ⟨v, f, e1, rfl, (traceB_size hR).1, hk.keep fun q hq => ⟨hq.2, rfl⟩, hb⟩
    · cases h0

set_option maxRecDepth 100000 in
set_option maxHeartbeats 4000000 in
theorem implTopCalls_any (A : Option Addr) (l : List Seg) (c : Nat) (t : ByteArray) (w : World) (hw : Segs w w.heap.size A l) (hl : l.length ≤ 1048576) (hlc : l.length ≤ c) (hcm : c ≤ 9223372036854775807) (hn : Short l) (ht : t.size ≤ 1048576) :
    Calls Tryz.prog 56 #[.slice A l.length c, .string t] w (TopsPost w l t) := by
  have HQ := Lib.hid (readTrace_any A l c t w hw hl hlc hcm hn ht)
  have HRK := Lib.hid (fun e w' => readSlice (w := w) (w' := w') (l := l) (t := t) (e := e))
  have HNO : Hid ((traceB l t.data.toList).isSome = false → topsRes l t = []) := fun h => by
    unfold topsRes
    cases hR : traceB l t.data.toList with
    | none => rfl
    | some f => rw [hR] at h; cases h
  unfold TopsPost
  generalize (traceB l t.data.toList).isSome = d at *
  generalize topsRes l t = ts0 at *
  clear hw hn
  go_enter Tryz.func56, Tryz.ntmps56
  go_wp2_with fail
  refine Calls.mono HQ.out ?_
  intro e w2 hrd
  obtain ⟨v, f, rfl, htr, h80, hk, hb⟩ := HRK.out e w2 hrd
  have HB := Lib.hid hb
  cases d with
  | false =>
    have HE : Hid (ts0 = []) := HNO.out rfl
    clear hrd htr HRK HQ hk hb
    go_wp2
    go_ret2
    exact ⟨_, rfl, by rw [HE.out]; exact World.ownsRow_nil _ _ _ _, HB.out⟩
  | true =>
    subst htr
    have hfl : f.len ≤ 80 := Nat.le_trans f.len_size h80
    obtain ⟨A3, cap, rfl, hl0⟩ := LeftC.start hk
    have HL0 := Lib.hid hl0
    clear hrd HRK HQ hk hl0 hb HNO
    have HS0 : Hid (OwnTexts w2 w2.heap.size (.slice none 0 0) []) := World.ownsRow_nil _ _ _ _
    go_wp2
    go_loopw [8, 22] (fun o i wr => ∃ (pre rest : Forest), i = .int .i64 pre.len ∧ Hid (OwnTexts wr w2.heap.size o ((topsB pre).map strOf)) ∧ Hid (LeftC wr w2.heap.size f A3 pre rest) ∧ Hid (Below w2.heap.size w2 wr))
      (fun _ i _ => f.len - (intOf i).toNat)
    case atStart => exact ⟨.nil, f, rfl, HS0, HL0, Below.refl _ _⟩
    case round =>
      obtain ⟨pre, rest, rfl, HT, HL, HB2⟩ := hrel
      clear HL0 HS0
      cases rest with
      | nil =>
        have HE := Lib.hid HL.out.done
        have hle : ¬ (pre.len < f.len) := by rw [HE.out]; omega
        go_wp2
        go_ret2
        exact ⟨_, rfl, by rw [HE.out]; exact own_low HT.out HB.out.size, HB.out.trans (HB2.out.mono HB.out.size)⟩
      | cons c k r =>
        obtain ⟨hnext, hlt, hks, g, u, rfl, hg, c0, hu⟩ := HL.out.take
        have HNX := Lib.hid hnext
        have hz := HB2.out.size
        obtain ⟨A1, cap1, rfl, -⟩ := St.textsForm HT.out
        have htl : ((topsB pre).map strOf).length ≤ 80 := by rw [List.length_map, topsB_len]; omega
        have HLN : Hid ((pre.app (.cons c k .nil)).len = pre.len + 1) := by show _ = _; rw [Forest.app_len]; rfl
        have HCH : Hid ((topsB (pre.app (.cons c k .nil))).map strOf = (topsB pre).map strOf ++ [strOf (textOne c k)]) := by
          show _ = _
          rw [topsB_app, topsB_one, List.map_append]; rfl
        have hkl := textB_len k
        have HBX : Hid (Below wr.heap.size wr (wr.alloc (.cells #[.pointer none, .slice none 0 0] 93))) := (Below.refl _ wr).alloc (Nat.le_refl _) _
        have HI0 : Hid (Lib.IsBuilderF 93 5 wr.heap.size wr.heap.size (Lib.byteCells []) (wr.alloc (.cells #[.pointer none, .slice none 0 0] 93))) := Lib.IsBuilderF.of (Lib.fresh_isBuilder _ _ wr)
        have hu1 : IsCall (wr.alloc (.cells #[.pointer none, .slice none 0 0] 93)) (· < wr.heap.size) c k u := hu.keep fun q hq => ⟨Nat.lt_of_lt_of_le hq hz, HBX.out.block q (Nat.lt_of_lt_of_le hq hz)⟩
        obtain ⟨T, x, K, y, rfl, hmt, hen, hc⟩ := callWriteB_of wr.heap.size wr.heap.size c k u [] _ hu1 HI0.out (by simp; omega) HBX.out.size (fun W u' s' _ hs' hsl hb' hi' => writeCallsB_any wr.heap.size wr.heap.size (k.size + 1) k u' s' W (by omega) (by simp at hs'; omega) hsl hi' (by have := hb'.size; have := HBX.out.size; omega))
        have HC := Lib.hid hc
        clear hnext hkl hc hu hu1
        generalize (topsB pre).map strOf = ts at *
        go_wp2_with fail
        generalize wr.alloc (.cells #[.pointer none, .slice none 0 0] 93) = W1 at *
        refine HC.out.mono ?_
        rintro e w3 ⟨rfl, hI3, hb3, -⟩
        rw [List.nil_append] at hI3
        have HI3 := Lib.hid hI3
        have HB3 : Hid (Below wr.heap.size wr w3) := HBX.out.trans hb3
        clear hI3 hb3 HC hmt hen c0 HI0
        go_wp2_with fail
        refine (Tryz.Builder_String_any_k wr.heap.size wr.heap.size _ _ HI3.out HB3.out.size).mono ?_
        rintro e w5 ⟨rfl, -, hb5, -⟩
        have HB5 : Hid (Below wr.heap.size wr w5) := HB3.out.trans hb5
        have HT5 : Hid (OwnTexts w5 w2.heap.size (.slice A1 ts.length cap1) ts) := HT.out.below HB5.out
        clear hb5 HB3 HI3 HBX
        have hys : (strOf (textOne c k)).size ≤ 1000 := by
          have := textOne_len c k
          unfold strOf
          show (textOne c k).toArray.size ≤ 1000
          rw [List.size_toArray]; omega
        have HYE : Hid ((⟨(textOne c k).toArray⟩ : ByteArray) = strOf (textOne c k)) := rfl
        rw [HYE.out]
        generalize strOf (textOne c k) = y0 at *
        have HT6 : Hid (OwnTexts (w5.alloc (.cells #[.string y0] 9)) w2.heap.size (.slice A1 ts.length cap1) ts) := HT5.out.below ((Below.refl _ w5).alloc (Nat.le_refl _) _)
        have HN6 : Hid (∀ j x, [y0][j]? = some x → (w5.alloc (.cells #[.string y0] 9)).cell? ⟨w5.heap.size, 0 + j, none⟩ = some (.string x)) := by
          intro j x hj
          have hj0 : j = 0 := by have := (List.getElem?_eq_some_iff.1 hj).1; simp at this; omega
          subst hj0
          simp at hj
          subst hj
          exact Row.cell (Row.new w5 9 #[.string y0]) 0
        have hz5 := HB5.out.size
        go_wp2_with (at_builtin; go_loud (refine wp_app11 rfl (.tmp 28) (.tmp 30) rfl w2.heap.size _ ts _ rfl HT6.out (by omega) (by simp; omega) w5.heap.size 0 1 1 [y0] rfl rfl (by simp) HN6.out ?_); intro v7 w7 ho7 hb7 _ _; have HO7 := Lib.hid ho7; have HB7 : Hid (Below w2.heap.size w5 w7) := ((Below.refl _ w5).alloc (by omega) _).trans hb7; clear ho7 hb7 HN6 HT6)
        rw [← HCH.out] at HO7
        have HB8 : Hid (Below w2.heap.size wr w7) := (HB5.out.mono hz).trans HB7.out
        have HB9 : Hid (Below w2.heap.size w2 w7) := HB2.out.trans HB8.out
        have HL9 := Lib.hid (HNX.out.below HB8.out)
        clear HB5 HB7 HT5 HT HL HNX HB8 HB2
        go_roundw
        case rel => exact ⟨_, r, by rw [HLN.out]; go_num, HO7, HL9, HB9⟩
        case measure => simp [intOf]; omega

end Go.Proofs.YtifkmehnikfihaaGreat
/- The program's comparison of calls: the two closures of SortedOrder. -/
namespace Go.Proofs.YtifkmehnikfihaaGreat
open Go.RowKit

/-- A call's name is told by the same function, whichever of the two it is. -/
theorem IsCall.name11 {w : World} {S : Nat → Prop} {c : UInt8} {k : Forest} {v : Value} (h : IsCall w S c k v) : ∃ T x, v = .iface T x ∧ ∀ w : World, (method 426 T x "loop.example/segmentrooms/impl.name").run Tryz.prog w = .ok (313, .agg #[.string ⟨#[c]⟩]) w := by
  rcases h with ⟨_, rfl⟩ | ⟨_, q, cap, rfl, _, _⟩
  · exact ⟨_, _, rfl, meth_name_leaf c⟩
  · exact ⟨_, _, rfl, meth_name_branch c _ _ _⟩
theorem cells_head {w : World} {S : Nat → Prop} : ∀ (f : Forest) (g o i : Nat) (c : UInt8), Cells w S f g o → (headsB f)[i]? = some c → ∃ u k, w.cell? ⟨g, o + i, none⟩ = some u ∧ IsCall w S c k u
  | .nil, _, _, _, _, _, h => by cases h
  | .cons a k r, g, o, 0, c, h, e => by
    obtain ⟨⟨v, hv, hc⟩, _⟩ := h
    have e1 : some a = some c := e
    injection e1 with e1
    subst e1
    exact ⟨v, k, hv, hc⟩
  | .cons a k r, g, o, i + 1, c, h, e => by
    obtain ⟨_, hr⟩ := h
    obtain ⟨u, k', h1, h2⟩ := cells_head r g (o + 1) i c hr e
    exact ⟨u, k', by rw [show o + (i + 1) = o + 1 + i by omega]; exact h1, h2⟩

/-- What the closures read: the names in their box, the calls in theirs. -/
structure PlaceHeld (W : World) (B bN bC : Nat) (names : ByteArray) (A : Option Addr) (cap : Nat) (f : Forest) : Prop where
  boxN : Row W bN 9 #[.string names]
  boxC : Row W bC 99 #[.slice A f.len cap]
  sl : SliceIs W (· < B) (.slice A f.len cap) f
  low : B ≤ W.heap.size
theorem PlaceHeld.only {W W' : World} {B bN bC g : Nat} {names : ByteArray} {A : Option Addr} {cap : Nat} {f : Forest} (h : PlaceHeld W B bN bC names A cap f) (ho : Only W W' (· = g)) (hg : B ≤ g) (h1 : bN ≠ g) (h2 : bC ≠ g) : PlaceHeld W' B bN bC names A cap f :=
  ⟨ho.row h.boxN h1, ho.row h.boxC h2, h.sl.keep fun q hq => ⟨hq, ho.block q (Nat.lt_of_lt_of_le hq h.low) (by omega)⟩, Nat.le_trans h.low ho.size⟩
theorem PlaceHeld.below {W W' : World} {B bN bC : Nat} {names : ByteArray} {A : Option Addr} {cap : Nat} {f : Forest} (h : PlaceHeld W B bN bC names A cap f) (hb : Below W.heap.size W W') : PlaceHeld W' B bN bC names A cap f :=
  ⟨h.boxN.below hb h.boxN.lt, h.boxC.below hb h.boxC.lt, h.sl.keep fun q hq => ⟨hq, hb.block q (Nat.lt_of_lt_of_le hq h.low)⟩, Nat.le_trans h.low hb.size⟩

set_option maxRecDepth 100000 in
set_option maxHeartbeats 1000000 in
theorem placeOf_any (B bN bC : Nat) (names : ByteArray) (A : Option Addr) (cap : Nat) (f : Forest) (i : Nat) (c : UInt8) (W : World) (h : PlaceHeld W B bN bC names A cap f) (hi : (headsB f)[i]? = some c) (hf : f.len ≤ 80) :
    Calls Tryz.prog 112 #[.int .i64 (i : Nat), .pointer (some ⟨bN, 0, none⟩), .pointer (some ⟨bC, 0, none⟩)] W fun e w' => e = .returned (.int .i64 (Lib.indexByte names.data.toList c)) ∧ Below W.heap.size W w' := by
  have hil : i < f.len := by
    have := (List.getElem?_eq_some_iff.1 hi).1
    rw [headsB_len] at this; exact this
  obtain ⟨A', cap', e, hs⟩ := h.sl
  obtain ⟨g, hA, hg, hc⟩ := hs (by omega)
  injection e with e1 e2 e3
  subst e1 e3
  subst hA
  obtain ⟨u, k, hu, hcall⟩ := cells_head f g 0 i c hc hi
  rw [Nat.zero_add] at hu
  obtain ⟨T, x, rfl, hmt⟩ := hcall.name11
  have b1 : W.cell? ⟨bN, 0, none⟩ = some (.string names) := h.boxN.cell 0
  have b2 : W.cell? ⟨bC, 0, none⟩ = some (.slice (some ⟨g, 0, none⟩) f.len cap) := h.boxC.cell 0
  have HL1 := Lib.hid h.boxN.lt
  have HL2 := Lib.hid h.boxC.lt
  have HL3 : Hid (g < W.heap.size) := Nat.lt_of_lt_of_le hg h.low
  have HQ : Hid (W.drew.cell? ⟨bN, 0, none⟩ = some (.string names) ∧ W.drew.cell? ⟨bC, 0, none⟩ = some (.slice (some ⟨g, 0, none⟩) f.len cap) ∧ W.drew.cell? ⟨g, i, none⟩ = some (.iface T x) ∧ Below W.heap.size W W.drew) := ⟨b1, b2, hu, (Below.refl _ W).drew⟩
  have HKP : Hid (∀ W1 w2, (W1.cell? ⟨bN, 0, none⟩ = some (.string names) ∧ W1.cell? ⟨bC, 0, none⟩ = some (.slice (some ⟨g, 0, none⟩) f.len cap) ∧ W1.cell? ⟨g, i, none⟩ = some (.iface T x) ∧ Below W.heap.size W W1) → Below W1.heap.size W1 w2 →
      (w2.cell? ⟨bN, 0, none⟩ = some (.string names) ∧ w2.cell? ⟨bC, 0, none⟩ = some (.slice (some ⟨g, 0, none⟩) f.len cap) ∧ w2.cell? ⟨g, i, none⟩ = some (.iface T x) ∧ Below W.heap.size W w2)) := fun W1 w2 hS hb => by
    have hz := hS.2.2.2.size
    exact ⟨(hb.cell (p := ⟨bN, 0, none⟩) (Nat.lt_of_lt_of_le HL1.out hz)).trans hS.1, (hb.cell (p := ⟨bC, 0, none⟩) (Nat.lt_of_lt_of_le HL2.out hz)).trans hS.2.1, (hb.cell (p := ⟨g, i, none⟩) (Nat.lt_of_lt_of_le HL3.out hz)).trans hS.2.2.1, hS.2.2.2.trans (hb.mono hz)⟩
  have hii : (i : Int) < (f.len : Int) := by omega
  clear h e2 hs hc hcall hu b1 b2 hi HL1 HL2 HL3
  go_enter Tryz.func112, Tryz.ntmps112
  go_wp2_with fail
  refine wp_region_held_drew (S := (fun w' => w'.cell? ⟨bN, 0, none⟩ = some (.string names) ∧ w'.cell? ⟨bC, 0, none⟩ = some (.slice (some ⟨g, 0, none⟩) f.len cap) ∧ w'.cell? ⟨g, i, none⟩ = some (.iface T x) ∧ Below W.heap.size W w')) (by kernel_rfl) ?_ (fun hHeld => ?_)
  · exact HQ.out
  refine take_at (i := 0) (d := 5) (v := .string names) rfl rfl (by kernel_rfl) (by kernel_rfl) (by kernel_rfl) (fun _ _ _ h => h) (by kernel_rfl) (by (intro w hSw; (try dsimp only at hSw); go_simp)) (by assumption) ?_
  simp only [List.setIfInBounds_toArray, List.set_cons_succ, List.set_cons_zero]
  refine take_at (i := 1) (d := 6) (v := .slice (some ⟨g, 0, none⟩) f.len cap) rfl rfl (by kernel_rfl) (by kernel_rfl) (by kernel_rfl) (fun _ _ _ h => h) (by kernel_rfl) (by (intro w hSw; (try dsimp only at hSw); go_simp)) (by assumption) ?_
  simp only [List.setIfInBounds_toArray, List.set_cons_succ, List.set_cons_zero]
  refine take_at (i := 2) (d := 7) (v := .int .i64 i) rfl rfl (by kernel_rfl) (by kernel_rfl) (by kernel_rfl) (fun _ _ _ h => h) (by kernel_rfl) (by (intro w hSw; (try dsimp only at hSw); go_simp)) (by assumption) ?_
  simp only [List.setIfInBounds_toArray, List.set_cons_succ, List.set_cons_zero]
  refine take_at (i := 3) (d := 8) (v := .pointer (some ⟨g, i, none⟩)) rfl rfl (by kernel_rfl) (by kernel_rfl) (by kernel_rfl) (fun _ _ _ h => h) (by kernel_rfl) (by (intro w hSw; (try dsimp only at hSw); go_simp)) (by assumption) ?_
  simp only [List.setIfInBounds_toArray, List.set_cons_succ, List.set_cons_zero]
  refine take_at (i := 4) (d := 9) (v := .iface T x) rfl rfl (by kernel_rfl) (by kernel_rfl) (by kernel_rfl) (fun _ _ _ h => h) (by kernel_rfl) (by (intro w hSw; (try dsimp only at hSw); go_simp)) (by assumption) ?_
  simp only [List.setIfInBounds_toArray, List.set_cons_succ, List.set_cons_zero]
  refine wpAnyH_ready (rs := [5]) (by kernel_rfl) (by simp) ?_
  refine AllReadyH.cons rfl (fun K hK => ?_) AllReadyH.nil
  go_simp
  refine (leafName_any c _).mono ?_
  rintro e w2 ⟨rfl, hw2⟩
  have hs2 := HKP.out _ w2 hHeld (by rw [hw2]; exact (Below.refl _ _).alloc (Nat.le_refl _) _)
  clear hw2 hHeld
  refine hK.out _ _ hs2 (fun hHeld => ?_)
  clear hK K hs2
  refine wpAnyH_ready (rs := [6]) (by kernel_rfl) (by simp) ?_
  refine AllReadyH.cons rfl (fun K hK => ?_) AllReadyH.nil
  go_simp
  refine (Tryz.strings_Index_one names c w2).mono ?_
  rintro e w3 ⟨rfl, rfl⟩
  have hs3 := hHeld
  clear hHeld
  refine hK.out _ _ hs3 (fun hHeld => ?_)
  clear hK K hs3
  refine take_at (i := 7) (d := 4) (v := .int .i64 (Lib.indexByte names.data.toList c)) rfl rfl (by kernel_rfl) (by kernel_rfl) (by kernel_rfl) (fun _ _ _ h => h) (by kernel_rfl) (by (intro w hSw; (try dsimp only at hSw); go_simp)) (by assumption) ?_
  simp only [List.setIfInBounds_toArray, List.set_cons_succ, List.set_cons_zero]
  refine wpAnyH_done (by kernel_rfl) ?_ _
  go_wp2
  go_ret
  exact ⟨rfl, hHeld.2.2.2⟩

theorem cmp_less (x y : Int) : decide (Lib.compareInt x y < 0) = decide (x < y) := by
  unfold Lib.compareInt
  by_cases h : x < y
  · rw [if_pos h]; simp [h]
  · rw [if_neg h]
    by_cases h2 : x > y
    · rw [if_pos h2]; simp [h]
    · rw [if_neg h2]; simp [h]

set_option maxRecDepth 100000 in
set_option maxHeartbeats 1000000 in
theorem cmpCalls_any (B bN bC bP : Nat) (names : ByteArray) (A : Option Addr) (cap : Nat) (f : Forest) (x y : Nat) (cx cy : UInt8) (W : World) (h : PlaceHeld W B bN bC names A cap f) (hp : Row W bP 136 #[.func (.func 112) #[] #[.pointer (some ⟨bN, 0, none⟩), .pointer (some ⟨bC, 0, none⟩)]])
    (hx : (headsB f)[x]? = some cx) (hy : (headsB f)[y]? = some cy) (hf : f.len ≤ 80) :
    Calls Tryz.prog 116 #[.int .i64 (x : Nat), .int .i64 (y : Nat), .pointer (some ⟨bP, 0, none⟩)] W fun e w' => (∃ r : Int, e = .returned (.int .i64 r) ∧ decide (r < 0) = decide (Lib.indexByte names.data.toList cx < Lib.indexByte names.data.toList cy)) ∧ Below W.heap.size W w' := by
  have b1 : W.cell? ⟨bP, 0, none⟩ = some (.func (.func 112) #[] #[.pointer (some ⟨bN, 0, none⟩), .pointer (some ⟨bC, 0, none⟩)]) := hp.cell 0
  have HLP := Lib.hid hp.lt
  have HH := Lib.hid h
  have HQ : Hid (W.drew.cell? ⟨bP, 0, none⟩ = some (.func (.func 112) #[] #[.pointer (some ⟨bN, 0, none⟩), .pointer (some ⟨bC, 0, none⟩)]) ∧ Below W.heap.size W W.drew) := ⟨b1, (Below.refl _ W).drew⟩
  have HKP : Hid (∀ W1 w2, (W1.cell? ⟨bP, 0, none⟩ = some (.func (.func 112) #[] #[.pointer (some ⟨bN, 0, none⟩), .pointer (some ⟨bC, 0, none⟩)]) ∧ Below W.heap.size W W1) → Below W1.heap.size W1 w2 → (w2.cell? ⟨bP, 0, none⟩ = some (.func (.func 112) #[] #[.pointer (some ⟨bN, 0, none⟩), .pointer (some ⟨bC, 0, none⟩)]) ∧ Below W.heap.size W w2)) := fun W1 w2 hS hb => by
    have hz := hS.2.size
    exact ⟨(hb.cell (p := ⟨bP, 0, none⟩) (Nat.lt_of_lt_of_le HLP.out hz)).trans hS.1, hS.2.trans (hb.mono hz)⟩
  have HCX := Lib.hid (fun W1 (hb : Below W.heap.size W W1) => placeOf_any B bN bC names A cap f x cx W1 (HH.out.below hb) hx hf)
  have HCY := Lib.hid (fun W1 (hb : Below W.heap.size W W1) => placeOf_any B bN bC names A cap f y cy W1 (HH.out.below hb) hy hf)
  have heg : ∀ args w, (callFunc 112 args).run Tryz.prog w = .ok (.enter 112 args) w := enters_of Tryz.func112 (by kernel_rfl) rfl
  clear h hp b1 HLP hx hy
  generalize Lib.indexByte names.data.toList cx = kx at *
  generalize Lib.indexByte names.data.toList cy = ky at *
  go_enter Tryz.func116, Tryz.ntmps116
  go_wp2_with fail
  refine wp_region_held_drew (S := (fun w' => w'.cell? ⟨bP, 0, none⟩ = some (.func (.func 112) #[] #[.pointer (some ⟨bN, 0, none⟩), .pointer (some ⟨bC, 0, none⟩)]) ∧ Below W.heap.size W w')) (by kernel_rfl) ?_ (fun hHeld => ?_)
  · exact HQ.out
  refine take_at (i := 0) (d := 6) (v := .func (.func 112) #[] #[.pointer (some ⟨bN, 0, none⟩), .pointer (some ⟨bC, 0, none⟩)]) rfl rfl (by kernel_rfl) (by kernel_rfl) (by kernel_rfl) (fun _ _ _ h => h) (by kernel_rfl) (by (intro w hSw; (try dsimp only at hSw); go_simp)) (by assumption) ?_
  simp only [List.setIfInBounds_toArray, List.set_cons_succ, List.set_cons_zero]
  refine take_at (i := 1) (d := 7) (v := .int .i64 x) rfl rfl (by kernel_rfl) (by kernel_rfl) (by kernel_rfl) (fun _ _ _ h => h) (by kernel_rfl) (by (intro w hSw; (try dsimp only at hSw); go_simp)) (by assumption) ?_
  simp only [List.setIfInBounds_toArray, List.set_cons_succ, List.set_cons_zero]
  refine take_at (i := 3) (d := 9) (v := .func (.func 112) #[] #[.pointer (some ⟨bN, 0, none⟩), .pointer (some ⟨bC, 0, none⟩)]) rfl rfl (by kernel_rfl) (by kernel_rfl) (by kernel_rfl) (fun _ _ _ h => h) (by kernel_rfl) (by (intro w hSw; (try dsimp only at hSw); go_simp)) (by assumption) ?_
  simp only [List.setIfInBounds_toArray, List.set_cons_succ, List.set_cons_zero]
  refine take_at (i := 4) (d := 10) (v := .int .i64 y) rfl rfl (by kernel_rfl) (by kernel_rfl) (by kernel_rfl) (fun _ _ _ h => h) (by kernel_rfl) (by (intro w hSw; (try dsimp only at hSw); go_simp)) (by assumption) ?_
  simp only [List.setIfInBounds_toArray, List.set_cons_succ, List.set_cons_zero]
  refine wpAnyH_ready (rs := [2]) (by kernel_rfl) (by simp) ?_
  refine AllReadyH.cons rfl (fun K hK => ?_) AllReadyH.nil
  go_simp
  refine (HCX.out _ hHeld.2).mono ?_
  rintro e w2 ⟨rfl, hb2⟩
  have hs2 := HKP.out _ w2 hHeld hb2
  clear hb2 hHeld
  refine hK.out _ _ hs2 (fun hHeld => ?_)
  clear hK K hs2
  refine wpAnyH_ready (rs := [5]) (by kernel_rfl) (by simp) ?_
  refine AllReadyH.cons rfl (fun K hK => ?_) AllReadyH.nil
  go_simp
  refine (HCY.out _ hHeld.2).mono ?_
  rintro e w3 ⟨rfl, hb3⟩
  have hs3 := HKP.out _ w3 hHeld hb3
  clear hb3 hHeld
  refine hK.out _ _ hs3 (fun hHeld => ?_)
  clear hK K hs3
  refine wpAnyH_ready (rs := [6]) (by kernel_rfl) (by simp) ?_
  refine AllReadyH.cons rfl (fun K hK => ?_) AllReadyH.nil
  go_simp
  refine (Tryz.cmp_Compare_int kx ky w3).mono ?_
  rintro e w4 ⟨rfl, rfl⟩
  have hs4 := hHeld
  clear hHeld
  refine hK.out _ _ hs4 (fun hHeld => ?_)
  clear hK K hs4
  refine take_at (i := 7) (d := 5) (v := .int .i64 (Lib.compareInt kx ky)) rfl rfl (by kernel_rfl) (by kernel_rfl) (by kernel_rfl) (fun _ _ _ h => h) (by kernel_rfl) (by (intro w hSw; (try dsimp only at hSw); go_simp)) (by assumption) ?_
  simp only [List.setIfInBounds_toArray, List.set_cons_succ, List.set_cons_zero]
  refine wpAnyH_done (by kernel_rfl) ?_ _
  go_wp2
  go_ret
  exact ⟨⟨_, rfl, cmp_less kx ky⟩, hHeld.2⟩

end Go.Proofs.YtifkmehnikfihaaGreat
/- The program's SortedOrder. -/
namespace Go.Proofs.YtifkmehnikfihaaGreat
open Go.RowKit

set_option maxRecDepth 100000 in
/-- Numbers put behind numbers. -/
theorem wp_appI11 {ops : Array Oper} {rest : List Oper} {o : Oper} {a : Act} {Q : Exit → Act → World → Prop} (hgd : o.guard = none) (S X : Operand)
    (ho : o.op = Op.call { callee := Callee.builtin Builtin.append, args := #[S, X], argTypes := #[27, 27] })
    (B : Nat) (v : Value) (ts : List Int) (W : World) (hs : a.eval S = v) (hown : Si.OwnInts W B v ts) (htl : ts.length ≤ 1000) (hB : B ≤ W.heap.size)
    (g : Nat) (u : Int) (hx : a.eval X = .slice (some ⟨g, 0, none⟩) 1 1) (hnew : W.cell? ⟨g, 0, none⟩ = some (.int .i64 u))
    (h : ∀ v' w', Si.OwnInts w' B v' (ts ++ [u]) → Below B W w' → wpList Tryz.prog ops Q rest (a.put o.dst v') w') :
    wpList Tryz.prog ops Q (o :: rest) a W := by
  obtain ⟨i0, hi, hz0, hz1, hz2⟩ := info_parts info_int
  refine wpList_append_own W hgd S X 27 ho B 3 i0 (.int .i64 0) 1 8 Tryz.underlying27 hi hz0 hz1 hz2 rfl (by decide) v ts.length (ts.map (Value.int .i64)) hs hown ⟨g, 0, none⟩ 1 1 [.int .i64 u] hx rfl ?_ ?_ (by unfold maxLen; omega) (by omega) hB ?_
  · intro j x hj
    have hj0 : j = 0 := by have := (List.getElem?_eq_some_iff.1 hj).1; simp at this; omega
    subst hj0
    simp at hj
    subst hj
    exact hnew
  · intro x hx'
    rw [List.mem_singleton.1 hx']
    rfl
  · intro v' w' h1 h2 h3
    refine h v' w' ?_ ?_
    · show w'.ownsRow B _ 1 v' (ts ++ [u]).length ((ts ++ [u]).map (Value.int .i64))
      rw [List.length_append, List.map_append]
      exact h1
    · exact (Below.refl B W).grown h2 hB (fun k e => (World.ownsRow.lt hown k e).1)

/-- The numbers from 0 on. -/
def upTo11 (n : Nat) : List Int := (List.range n).map fun (k : Nat) => (k : Int)
theorem upTo_next (n : Nat) : upTo11 (n + 1) = upTo11 n ++ [(n : Int)] := by
  unfold upTo11
  rw [List.range_succ, List.map_append]; rfl
theorem upTo_len (n : Nat) : (upTo11 n).length = n := by unfold upTo11; simp

set_option maxRecDepth 100000 in
set_option maxHeartbeats 1000000 in
theorem orderAsMade_any (n : Nat) (w : World) (hn : n ≤ 80) :
    Calls Tryz.prog 114 #[.int .i64 n] w fun e w' => (∃ v, e = .returned v ∧ Si.OwnInts w' w.heap.size v (upTo11 n)) ∧ Below w.heap.size w w' := by
  have HS0 : Hid (Si.OwnInts w w.heap.size (.slice none 0 0) (upTo11 0)) := World.ownsRow_nil _ _ _ _
  go_enter Tryz.func114, Tryz.ntmps114
  go_wp2
  go_loopw [3, 6] (fun vo vi wr => ∃ (k : Nat), vi = .int .i64 k ∧ k ≤ n ∧ Hid (Si.OwnInts wr w.heap.size vo (upTo11 k)) ∧ Hid (Below w.heap.size w wr))
    (fun _ vi _ => n - (intOf vi).toNat)
  case atStart => exact ⟨0, rfl, Nat.zero_le _, HS0, Below.refl _ _⟩
  case round =>
    obtain ⟨k, rfl, hk, HT, HB⟩ := hrel
    clear HS0
    by_cases hlt : k < n
    · have hz := HB.out.size
      have htl : (upTo11 k).length ≤ 80 := by rw [upTo_len]; omega
      have HNX : Hid (upTo11 (k + 1) = upTo11 k ++ [(k : Int)]) := upTo_next k
      obtain ⟨A1, cap1, rfl, -⟩ := Si.intsForm HT.out
      generalize upTo11 k = ts at *
      have HT6 : Hid (Si.OwnInts (wr.alloc (.cells #[.int .i64 k] 3)) w.heap.size (.slice A1 ts.length cap1) ts) := HT.out.below ((Below.refl _ wr).alloc (Nat.le_refl _) _)
      have HN6 : Hid ((wr.alloc (.cells #[.int .i64 k] 3)).cell? ⟨wr.heap.size, 0, none⟩ = some (.int .i64 k)) := Row.cell (Row.new wr 3 #[.int .i64 k]) 0
      go_wp2_with (at_builtin; go_loud (refine wp_appI11 rfl (.tmp 9) (.tmp 11) rfl w.heap.size _ ts _ rfl HT6.out (by omega) (by simp; omega) wr.heap.size (k : Int) rfl HN6.out ?_); intro v7 w7 ho7 hb7; have HO7 := Lib.hid ho7; have HB7 : Hid (Below w.heap.size wr w7) := ((Below.refl _ wr).alloc hz _).trans hb7; clear ho7 hb7 HN6 HT6)
      rw [← HNX.out] at HO7
      have HB8 := Lib.hid (HB.out.trans HB7.out)
      clear HB7 HB HT HNX
      go_roundw
      case rel => exact ⟨k + 1, by go_num, by omega, HO7, HB8⟩
      case measure => simp [intOf]; omega
    · have hke : k = n := by omega
      subst hke
      go_wp2
      go_ret
      exact ⟨⟨_, rfl, HT.out⟩, HB.out⟩

/-- The sort of nothing. -/
theorem insertion_nil (F : Value) (w : World) : Calls Tryz.prog 228 #[.slice none 0 0, .int .i64 0, .int .i64 0, F] w fun e w' => e = .returned (.tuple #[]) ∧ w' = w := by
  go_enter Tryz.func228, Tryz.ntmps228
  go_wp2
  go_loopw [8] (fun vi wr => vi = .int .i64 1 ∧ wr = w) (fun _ _ => 0)
  case atStart => exact ⟨by go_num, rfl⟩
  case round =>
    obtain ⟨rfl, rfl⟩ := hrel
    go_wp2
    go_end0
    exact ⟨rfl, rfl⟩
set_option maxRecDepth 100000 in
theorem sortNil_any (F : Value) (w : World) : Calls Tryz.prog 115 #[.slice none 0 0, F] w fun e w' => e = .returned (.tuple #[]) ∧ w' = w := by
  have HQ : Hid (Calls Tryz.prog 174 #[.slice none 0 0, .int .i64 0, F] w fun e w' => e = .returned (.tuple #[]) ∧ w' = w) := by
    show Calls _ _ _ _ _
    go_enter Tryz.func174, Tryz.ntmps174
    go_wp2
    go_loopw [7, 8] (fun va vb wr => va = .int .i64 0 ∧ vb = .int .i64 20 ∧ wr = w) (fun _ _ _ => 0)
    case atStart => exact ⟨rfl, rfl, rfl⟩
    case round =>
      obtain ⟨rfl, rfl, rfl⟩ := hrel
      go_wp2_with fail
      refine (insertion_nil F _).mono ?_
      rintro e w2 ⟨rfl, rfl⟩
      go_wp2
      go_loopw [6, 7, 8, 9] (fun vs _ _ _ wr => vs = .int .i64 20 ∧ wr = w2) (fun _ _ _ _ _ => 0)
      case atStart => exact ⟨rfl, rfl⟩
      case round =>
        obtain ⟨rfl, rfl⟩ := hrel
        go_wp2
        go_end0
        exact ⟨rfl, rfl⟩
  go_enter Tryz.func115, Tryz.ntmps115
  go_wp2_with fail
  refine Calls.mono HQ.out ?_
  rintro e w2 ⟨rfl, rfl⟩
  go_wp2
  go_end0
  exact ⟨rfl, rfl⟩

/-- What SortedOrder hands back. -/
def SortPost (w : World) (l : List Seg) (t : ByteArray) (e : Ending) (w' : World) : Prop :=
  ∃ v, e = .returned (.tuple #[v, .bool (traceB l t.data.toList).isSome]) ∧ Si.OwnInts w' w.heap.size v (sortRes l t) ∧ Below w.heap.size w w'

/-- What the row of numbers is behind the sort. -/
theorem sorted_own {w w' : World} {B g cap n : Nat} {d : Nat → Nat} (h : Si.OwnInts w B (.slice (some ⟨g, 0, none⟩) n cap) (upTo11 n)) (hr : Rest11 w w' g 0 n d) : Si.OwnInts w' B (.slice (some ⟨g, 0, none⟩) n cap) (((List.range n).map d).map fun (k : Nat) => (k : Int)) := by
  unfold Si.OwnInts at h ⊢
  rw [upTo_len] at h
  refine ⟨by simp, .inr ?_⟩
  rcases h.2 with ⟨h0, _⟩ | ⟨g', cap', cur, hv, hg, hh, h1, h2, h3, h4⟩
  · cases h0
  · injection hv with hv1 _ hv3
    injection hv1 with hv1
    injection hv1 with hv1
    subst hv1 hv3
    have hrow : Row w g 3 cur := hh
    obtain ⟨cs', hr', hz'⟩ := hr.room cur hrow
    obtain ⟨cs2, hr2, hc2⟩ := hr.data
    have e : cs' = cs2 := by
      have h5 : w'.heap[g]? = some (.cells cs' 3) := hr'
      have h6 : w'.heap[g]? = some (.cells cs2 3) := hr2
      rw [h5] at h6
      injection h6 with h6
      injection h6
    subst e
    simp only [List.length_map, List.length_range]
    refine ⟨g, cap, cs', rfl, hg, hr', h1, h2, by rw [hz']; exact h3, ?_⟩
    apply List.ext_getElem?
    intro i
    rw [List.getElem?_take, List.getElem?_map, List.getElem?_map]
    by_cases hi : i < n
    · rw [if_pos (by omega), Array.getElem?_toList]
      have := hc2 i hi
      rw [Nat.zero_add] at this
      rw [this, List.getElem?_map, List.getElem?_range hi]
      rfl
    · rw [if_neg (by omega), List.getElem?_map, List.getElem?_eq_none (by simpa using hi)]
      rfl
theorem data_upTo {w : World} {B g cap n : Nat} (h : Si.OwnInts w B (.slice (some ⟨g, 0, none⟩) n cap) (upTo11 n)) : DataAt w g 0 n id := by
  unfold Si.OwnInts at h
  rw [upTo_len] at h
  rcases h.2 with ⟨h0, _⟩ | ⟨g', cap', cur, hv, hg, hh, h1, h2, h3, h4⟩
  · cases h0
  · injection hv with hv1 _ hv3
    injection hv1 with hv1
    injection hv1 with hv1
    subst hv1
    refine ⟨cur, hh, fun k hk => ?_⟩
    have h5 := congrArg (fun (x : List Value) => x[k]?) h4
    rw [Nat.zero_add]
    simp only [List.getElem?_take, Array.getElem?_toList, List.getElem?_map] at h5
    rw [if_pos (by omega)] at h5
    rw [h5]
    unfold upTo11
    rw [List.getElem?_map, List.getElem?_range hk]
    rfl

end Go.Proofs.YtifkmehnikfihaaGreat
/- The program's SortedOrder, whole. -/
namespace Go.Proofs.YtifkmehnikfihaaGreat
open Go.RowKit

/-- What was read, for the sort: its heads are names. -/
theorem readHeads {w w' : World} {l : List Seg} {t : ByteArray} {e : Ending} {f0 : Forest} (hR : traceB l t.data.toList = some f0) (h : TracePost w (traceB l t.data.toList) e w') :
    ∃ A cap, e = .returned (.tuple #[.slice A f0.len cap, .bool true]) ∧ SliceIs w' (· < w'.heap.size) (.slice A f0.len cap) f0 ∧ Below w.heap.size w w' := by
  rw [hR] at h
  obtain ⟨v, e1, h1, hb⟩ := h
  rcases h1 with ⟨f', h0, hk⟩ | ⟨h0, _⟩
  · obtain rfl : f0 = f' := by injection h0
    obtain ⟨A, cap, rfl, _⟩ := id hk
    exact ⟨A, cap, e1, hk.keep fun q hq => ⟨hq.2, rfl⟩, hb⟩
  · cases h0

set_option maxRecDepth 100000 in
set_option maxHeartbeats 4000000 in
theorem implSortedOrder_any (A : Option Addr) (l : List Seg) (c : Nat) (t : ByteArray) (w : World) (hw : Segs w w.heap.size A l) (hl : l.length ≤ 1048576) (hlc : l.length ≤ c) (hcm : c ≤ 9223372036854775807) (hn : Short l) (ht : t.size ≤ 1048576) :
    Calls Tryz.prog 53 #[.slice A l.length c, .string t] w (SortPost w l t) := by
  have HQ := Lib.hid (readTrace_any A l c t w hw hl hlc hcm hn ht)
  have HW : Hid (Segs w w.heap.size A l) := hw
  unfold SortPost
  cases hR : traceB l t.data.toList with
  | none =>
    have HE : Hid (sortRes l t = []) := by
      show _ = _
      unfold sortRes; rw [hR]
    rw [hR] at HQ
    generalize sortRes l t = ts0 at *
    clear hw hn hR
    go_enter Tryz.func53, Tryz.ntmps53
    go_wp2_with fail
    refine Calls.mono HQ.out ?_
    rintro e w2 ⟨v, rfl, ⟨f0, h0, -⟩ | ⟨-, rfl⟩, hb⟩
    · cases h0
    have HB := Lib.hid (hb.alloc hb.size (.cells #[.slice none 0 0] 99))
    have HE2 := HE.out
    subst HE2
    clear HE
    go_wp2
    go_ret2
    exact ⟨_, rfl, World.ownsRow_nil _ _ _ _, HB.out⟩
  | some f =>
    have HRH := Lib.hid (fun e w' => readHeads (w := w) (w' := w') (l := l) (t := t) (e := e) hR)
    have HE : Hid (sortRes l t = (sortNat l (headsB f)).map fun (k : Nat) => (k : Int)) := by
      show _ = _
      unfold sortRes; rw [hR]
    obtain ⟨hv, -, -⟩ := traceB_some hR
    have hsz := (traceB_size hR).1
    have hfl : f.len ≤ 80 := Nat.le_trans f.len_size hsz
    have HV := Lib.hid hv
    have HA := Lib.hid (headsB_all f (traceB_all hR))
    have HNM := Lib.hid (fun A W h => namesOf_any A l c W h hl hlc hcm hn)
    have HKEY : Hid (∀ k cc, (headsB f)[k]? = some cc → keyOf l (headsB f) k = Lib.indexByte (namesStr l).data.toList cc) := fun k cc h => by
      unfold keyOf placeOf
      have hk := (List.getElem?_eq_some_iff.1 h).1
      rw [getD_in _ _ _ hk, (List.getElem?_eq_some_iff.1 h).2]
    have HSI : Hid (∀ d, Sorted11 (keyOf l (headsB f)) d 0 f.len → (∀ k, k < f.len → d k < f.len) → ((List.range f.len).map d).map (fun (k : Nat) => (k : Int)) = (sortNat l (headsB f)).map fun (k : Nat) => (k : Int)) := fun d h1 h2 => by
      rw [← headsB_len f] at h1 h2 ⊢
      rw [sorted_is HV.out HA.out h1 h2]
    have HNIL : Hid (f.len = 0 → (sortNat l (headsB f)).map (fun (k : Nat) => (k : Int)) = []) := fun h => by
      have h1 : headsB f = [] := List.eq_nil_of_length_eq_zero (by rw [headsB_len]; exact h)
      rw [h1]
      have : ∀ js : List Nat, js.flatMap (groupB l []) = [] := fun js => List.flatMap_eq_nil_iff.2 fun x _ => rfl
      unfold sortNat
      rw [this]; rfl
    rw [hR] at HQ HRH
    rw [HE.out]
    generalize (sortNat l (headsB f)).map (fun (k : Nat) => (k : Int)) = R0 at *
    generalize keyOf l (headsB f) = key at *
    rw [HV.out] at HNM
    generalize namesStr l = names at *
    clear hw hn hR hv HE HA
    go_enter Tryz.func53, Tryz.ntmps53
    go_wp2_with fail
    refine Calls.mono HQ.out ?_
    intro e w2 hrd
    obtain ⟨A3, cap, rfl, hsl, hb⟩ := HRH.out e w2 hrd
    have HB := Lib.hid hb
    have HSL := Lib.hid hsl
    clear hrd hsl hb HQ HRH
    have HR3 : Hid (Row (w2.alloc (.cells #[.slice A3 f.len cap] 99)) w2.heap.size 99 #[.slice A3 f.len cap]) := Row.new w2 _ _
    have HB3 : Hid (Below w2.heap.size w2 (w2.alloc (.cells #[.slice A3 f.len cap] 99))) := (Below.refl _ w2).alloc (Nat.le_refl _) _
    have HZ3 : Hid ((w2.alloc (.cells #[.slice A3 f.len cap] 99)).heap.size = w2.heap.size + 1) := by show _ = _; simp
    go_wp2_with fail
    generalize w2.alloc (.cells #[.slice A3 f.len cap] 99) = W3 at *
    have HBW3 := Lib.hid (HB.out.trans (HB3.out.mono HB.out.size))
    refine (HNM.out A W3 ((HW.out.below HBW3.out).more HBW3.out.size)).mono ?_
    rintro e w4 ⟨rfl, hb4⟩
    have HR4 : Hid (Row w4 w2.heap.size 99 #[.slice A3 f.len cap]) := HR3.out.below hb4 HR3.out.lt
    have HB4 : Hid (Below w2.heap.size w2 w4) := HB3.out.trans (hb4.mono (by have := HZ3.out; omega))
    have HL4 : Hid (w2.heap.size < w4.heap.size) := by have := HZ3.out; have := hb4.size; show _ < _; omega
    clear hb4 HR3 HB3 HZ3 HBW3 HNM
    have c6 : w4.cell? ⟨w2.heap.size, 0, none⟩ = some (.slice A3 f.len cap) := HR4.out.cell 0
    have HP5 : Hid (PlaceHeld ((w4.alloc (.cells #[.string names] 9)).alloc (.cells #[.func (.func 112) #[] #[.pointer (some ⟨w4.heap.size, 0, none⟩), .pointer (some ⟨w2.heap.size, 0, none⟩)]] 136)) w2.heap.size w4.heap.size w2.heap.size names A3 cap f) :=
      ⟨(Row.new w4 _ _).alloc _, (HR4.out.alloc _).alloc _, HSL.out.below (((HB4.out.alloc (Nat.le_of_lt HL4.out) _).alloc (by simp; have := HL4.out; omega) _)), by have := HL4.out; simp; omega⟩
    have HF5 : Hid (Row ((w4.alloc (.cells #[.string names] 9)).alloc (.cells #[.func (.func 112) #[] #[.pointer (some ⟨w4.heap.size, 0, none⟩), .pointer (some ⟨w2.heap.size, 0, none⟩)]] 136)) (w4.heap.size + 1) 136 #[.func (.func 112) #[] #[.pointer (some ⟨w4.heap.size, 0, none⟩), .pointer (some ⟨w2.heap.size, 0, none⟩)]]) := by
      have := Row.new (w4.alloc (.cells #[.string names] 9)) 136 #[.func (.func 112) #[] #[.pointer (some ⟨w4.heap.size, 0, none⟩), .pointer (some ⟨w2.heap.size, 0, none⟩)]]
      rw [World.size_alloc] at this
      exact this
    have HB5 : Hid (Below w2.heap.size w2 ((w4.alloc (.cells #[.string names] 9)).alloc (.cells #[.func (.func 112) #[] #[.pointer (some ⟨w4.heap.size, 0, none⟩), .pointer (some ⟨w2.heap.size, 0, none⟩)]] 136))) := (HB4.out.alloc (Nat.le_of_lt HL4.out) _).alloc (by simp; have := HL4.out; omega) _
    have HZ5 : Hid (((w4.alloc (.cells #[.string names] 9)).alloc (.cells #[.func (.func 112) #[] #[.pointer (some ⟨w4.heap.size, 0, none⟩), .pointer (some ⟨w2.heap.size, 0, none⟩)]] 136)).heap.size = w4.heap.size + 2) := by show _ = _; simp
    have c7 : ((w4.alloc (.cells #[.string names] 9)).alloc (.cells #[.func (.func 112) #[] #[.pointer (some ⟨w4.heap.size, 0, none⟩), .pointer (some ⟨w2.heap.size, 0, none⟩)]] 136)).cell? ⟨w2.heap.size, 0, none⟩ = some (.slice A3 f.len cap) := HP5.out.boxC.cell 0
    go_wp2_with fail
    generalize (w4.alloc (.cells #[.string names] 9)).alloc (.cells #[.func (.func 112) #[] #[.pointer (some ⟨w4.heap.size, 0, none⟩), .pointer (some ⟨w2.heap.size, 0, none⟩)]] 136) = W5 at *
    have HBW5 : Hid (Below w.heap.size w W5) := HB.out.trans (HB5.out.mono HB.out.size)
    clear c6 HR4 HB4 HB5 HW HSL
    refine (orderAsMade_any f.len W5 hfl).mono ?_
    rintro e w6 ⟨⟨v6, rfl, ho6⟩, hb6⟩
    have HO6 := Lib.hid ho6
    have HP6 := Lib.hid (HP5.out.below hb6)
    have HF6 := Lib.hid (HF5.out.below hb6 HF5.out.lt)
    have HBW6 : Hid (Below w.heap.size w w6) := HBW5.out.trans (hb6.mono HBW5.out.size)
    have HZ6 : Hid (W5.heap.size ≤ w6.heap.size) := hb6.size
    unfold Si.OwnInts at ho6
    rw [upTo_len] at ho6
    clear c7 HP5 HF5 HBW5 hb6
    rcases ho6.2 with ⟨rfl, h1⟩ | ⟨g, cap', cur, rfl, hg, -⟩
    · have h0 : f.len = 0 := h1
      have HR0 : Hid (R0 = []) := HNIL.out h0
      clear h1 ho6 HSI HKEY
      go_wp2_with fail
      refine (sortNil_any _ _).mono ?_
      rintro e w7 ⟨rfl, rfl⟩
      go_wp2
      go_ret2
      exact ⟨_, rfl, by rw [HR0.out]; exact World.ownsRow_nil _ _ _ _, HBW6.out⟩
    · have hz := HZ5.out
      have hlow := HL4.out
      have HD6 := Lib.hid (data_upTo HO6.out)
      have HC6 : Hid (CmpSays g f.len key 116 ⟨w4.heap.size + 1, 0, none⟩ w6) := fun x y W hx hy hW => by
        obtain ⟨cx, hcx⟩ : ∃ cx, (headsB f)[x]? = some cx := ⟨_, List.getElem?_eq_getElem (by rw [headsB_len]; exact hx)⟩
        obtain ⟨cy, hcy⟩ : ∃ cy, (headsB f)[y]? = some cy := ⟨_, List.getElem?_eq_getElem (by rw [headsB_len]; exact hy)⟩
        rw [HKEY.out x cx hcx, HKEY.out y cy hcy]
        exact cmpCalls_any w2.heap.size w4.heap.size w2.heap.size (w4.heap.size + 1) names A3 cap f x y cx cy W (HP6.out.only hW (by omega) (by omega) (by omega)) (hW.row HF6.out (by omega)) hcx hcy hfl
      clear ho6 HP6 HF6 HKEY HNIL
      go_wp2_with fail
      refine (sortStable_any g 0 f.len cap' key ⟨w4.heap.size + 1, 0, none⟩ w6 HD6.out HC6.out hfl).mono ?_
      rintro e w7 ⟨rfl, d, hr, hs, hin⟩
      have HO7 : Hid (Si.OwnInts w7 w.heap.size (.slice (some ⟨g, 0, none⟩) f.len cap') R0) := by
        rw [← HSI.out d hs hin]
        exact own_low (sorted_own HO6.out hr) (by have := HBW6.out.size; have := HB.out.size; omega)
      have HB7 : Hid (Below w.heap.size w w7) := Only.below HBW6.out hr.only HBW6.out.size (fun k hk => by have := HB.out.size; omega)
      clear HO6 HD6 HC6 HSI hr hs hin
      go_wp2
      go_ret2
      exact ⟨_, rfl, HO7.out, HB7.out⟩

end Go.Proofs.YtifkmehnikfihaaGreat
