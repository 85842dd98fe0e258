/- Joined: An Sb Fn Va. -/
import Derived.Test.YtifkmehnikfihaaU09
import Derived.Test.YtifkmehnikfihaaU13
import Derived.Test.YtifkmehnikfihaaSh
import Derived.Test.YtifkmehnikfihaaU12
import Derived.Lib.OthersKept
import Derived.RangeFuncNested
import Derived.RangeFuncBound
import Derived.RangeFuncCalls
import Derived.RangeFuncLeaves
import Derived.RangeFuncBox
import Derived.Shelf.Abstract
import Derived.Shelf.RegionOpen
import Derived.OwnWalkIn
import Derived.TacticsInMore
import Derived.LoopNIn
import Derived.LoopIn
import Derived.Test.YtifkmehnikfihaaU08
import Derived.BigQuiet
/- The reference's TopCalls. -/
namespace Go.Proofs.Ytifkmehnikfihaa
open Go.RowKit

set_option maxRecDepth 100000 in
/-- Texts put behind texts: append, where what is put behind lies somewhere else. -/
theorem wp_app11 {ops : Array Oper} {rest : List Oper} {o : Oper} {a : Act} {Q : Exit → Act → World → Prop} (hgd : o.guard = none) (S X : Operand)
    (ho : o.op = Op.call { callee := Callee.builtin Builtin.append, args := #[S, X], argTypes := #[24, 24] })
    (B : Nat) (v : Value) (ts : List ByteArray) (W : World) (hs : a.eval S = v) (hown : OwnTexts W B v ts) (htl : ts.length ≤ 1000) (hB : B ≤ W.heap.size)
    (g off m c : Nat) (us : List ByteArray) (hx : a.eval X = .slice (some ⟨g, off, none⟩) m c) (hm : us.length = m) (hul : us.length ≤ 1000)
    (hnew : ∀ j x, us[j]? = some x → W.cell? ⟨g, off + j, none⟩ = some (.string x))
    (h : ∀ v' w', OwnTexts w' B v' (ts ++ us) → Below B W w' → (∀ k, k < W.heap.size → v.ownBlock ≠ some k → w'.heap[k]? = W.heap[k]?) → (v' = .slice none 0 0 ↔ v = .slice none 0 0 ∧ m = 0) → wpList Try.prog ops Q rest (a.put o.dst v') w') :
    wpList Try.prog ops Q (o :: rest) a W := by
  obtain ⟨i0, hi, hz0, hz1, hz2⟩ := info_parts info_str
  refine wpList_append_own W hgd S X 24 ho B 9 i0 (.string ByteArray.empty) 1 16 Try.underlying24 hi hz0 hz1 hz2 rfl (by decide) v ts.length (ts.map Value.string) hs hown ⟨g, off, none⟩ m c (us.map Value.string) hx (by rw [List.length_map, hm, Nat.mul_one]) ?_ ?_ (by unfold maxLen; omega) (by omega) hB ?_
  · intro j u hj
    rw [List.getElem?_map] at hj
    rw [Addr.add_lit]
    cases hu : us[j]? with
    | none => rw [hu] at hj; cases hj
    | some x =>
      rw [hu] at hj
      injection hj with hj
      rw [← hj]
      exact hnew j x hu
  · intro u hu
    obtain ⟨x, _, rfl⟩ := List.mem_map.1 hu
    rfl
  · intro v' w' h1 h2 h3
    refine h v' w' ?_ ?_ ?_ h3
    · show w'.ownsRow B _ 1 v' (ts ++ us).length ((ts ++ us).map Value.string)
      rw [List.length_append, List.map_append, hm]
      exact h1
    · exact (Below.refl B W).grown h2 hB (fun k e => (World.ownsRow.lt hown k e).1)
    · exact fun k hk hne => h2.block k hk (fun e => hne e.symm)

/-- What TopCalls hands back. -/
def TopsPost (w : World) (l : List Seg) (t : ByteArray) (e : Ending) (w' : World) : Prop :=
  ∃ v, e = .returned (.tuple #[v, .bool (traceB l t.data.toList).isSome]) ∧ OwnTexts w' w.heap.size v (topsRes l t) ∧ Below w.heap.size w w'

/-- What was read, or nothing. -/
theorem readKids {w w' : World} {l : List Seg} {t : ByteArray} {e : Ending} (h : ReadPost w (traceB l t.data.toList) e w') :
    ∃ v f, e = .returned (.tuple #[v, .bool (traceB l t.data.toList).isSome]) ∧ topsRes l t = (topsB f).map strOf ∧ f.size ≤ 80 ∧ IsKids w' (· < w'.heap.size) f v ∧ Below w.heap.size w w' := by
  obtain ⟨v, e1, h1, hb⟩ := h
  unfold topsRes
  cases hR : traceB l t.data.toList with
  | none =>
    rw [hR] at h1 e1
    rcases h1 with ⟨f, h0, _⟩ | ⟨_, A, cap, rfl⟩
    · cases h0
    · exact ⟨_, .nil, e1, rfl, Nat.zero_le _, ⟨A, cap, rfl, fun h => by cases h⟩, hb⟩
  | some f =>
    rw [hR] at h1 e1
    rcases h1 with ⟨f', h0, hk⟩ | ⟨h0, _⟩
    · obtain rfl : f = f' := by injection h0
      exact ⟨v, f, e1, rfl, (traceB_size hR).1, hk.keep fun q hq => ⟨hq.2, rfl⟩, hb⟩
    · cases h0

/-- A row of one call. -/
theorem kids_one {W : World} {c : UInt8} {k : Forest} {A : Option Addr} {cap : Nat} (hk : IsKids W (· < W.heap.size) k (.slice A k.len cap)) :
    IsKids (W.alloc (.cells #[.string ⟨#[c]⟩, .slice A k.len cap] 74)) (· < (W.alloc (.cells #[.string ⟨#[c]⟩, .slice A k.len cap] 74)).heap.size) (.cons c k .nil) (.slice (some ⟨W.heap.size, 0, none⟩) 1 1) := by
  have hr : Row (W.alloc (.cells #[.string ⟨#[c]⟩, .slice A k.len cap] 74)) W.heap.size 74 #[.string ⟨#[c]⟩, .slice A k.len cap] := Row.new W _ _
  have h1 := (hk.below ((Below.refl _ W).alloc (Nat.le_refl _) (.cells #[.string ⟨#[c]⟩, .slice A k.len cap] 74))).up (B' := (W.alloc (.cells #[.string ⟨#[c]⟩, .slice A k.len cap] 74)).heap.size) (by simp)
  obtain ⟨A', cap', e, h2⟩ := h1
  injection e with e1 e2 e3
  subst e1 e3
  exact ⟨_, 1, rfl, fun _ => ⟨W.heap.size, rfl, by simp, hr.cell 0, ⟨_, _, hr.cell 1, h2⟩, trivial⟩⟩

set_option maxRecDepth 100000 in
set_option maxHeartbeats 2000000 in
theorem l11Top_any (A : Option Addr) (l : List Seg) (c : Nat) (t : ByteArray) (w : World) (hw : Segs w w.heap.size A l) (hl : l.length ≤ 1048576) (hn : Short l) (ht : t.size ≤ 1048576) :
    Calls Try.prog 24 #[.slice A l.length c, .string t] w (TopsPost w l t) := by
  have HQ := Lib.hid (l4Read_any A l c t w hw hl hn ht)
  have HRK := Lib.hid (fun e w' => readKids (w := w) (w' := w') (l := l) (t := t) (e := e))
  unfold TopsPost
  generalize (traceB l t.data.toList).isSome = d at *
  generalize topsRes l t = ts0 at *
  clear hw hn
  go_enter Try.func24, Try.ntmps24
  go_wp2_with fail
  refine Calls.mono HQ.out ?_
  intro e w2 hrd
  obtain ⟨v, f, rfl, htr, h80, hk, hb⟩ := HRK.out e w2 hrd
  subst htr
  obtain ⟨A3, cap, rfl, hcs⟩ := hk.nil_or
  have HL0 : Hid (LeftS w2 w2.heap.size f A3 .nil f) := LeftS.start hcs
  have HB := Lib.hid hb
  have hfl : f.len ≤ 80 := Nat.le_trans f.len_size h80
  clear hrd HRK HQ hk hcs hb
  have HS0 : Hid (OwnTexts (w2.alloc (.cells #[] 9)) w2.heap.size (.slice (some ⟨w2.heap.size, 0, none⟩) 0 0) []) := OwnTexts.empty w2 (Nat.le_refl _)
  have HB0 : Hid (Below w2.heap.size w2 (w2.alloc (.cells #[] 9))) := (Below.refl _ w2).alloc (Nat.le_refl _) _
  go_wp2
  go_loopw [8, 20] (fun o i wr => ∃ (pre rest : Forest), i = .int .i64 pre.len ∧ Hid (OwnTexts wr w2.heap.size o ((topsB pre).map strOf)) ∧ Hid (LeftS wr w2.heap.size f A3 pre rest) ∧ Hid (Below w2.heap.size w2 wr))
    (fun _ i _ => f.len - (intOf i).toNat)
  case atStart => exact ⟨.nil, f, rfl, HS0, HL0.out.below HB0.out, HB0.out⟩
  case round =>
    obtain ⟨pre, rest, rfl, HT, HL, HB2⟩ := hrel
    clear HL0 HS0 HB0
    cases rest with
    | nil =>
      have HE := Lib.hid HL.out.done
      have hle : ¬ (pre.len < f.len) := by rw [HE.out]; omega
      go_wp2
      go_ret2
      exact ⟨_, rfl, by rw [HE.out]; exact own_low HT.out HB.out.size, HB.out.trans (HB2.out.mono HB.out.size)⟩
    | cons c k r =>
      obtain ⟨hnext, hlt, hks, g, u, rfl, hg, c0, c1, hu⟩ := HL.out.take
      obtain ⟨A2, cap2, rfl, -⟩ := id hu
      have HNX := Lib.hid hnext
      have hz := HB2.out.size
      obtain ⟨A1, cap1, rfl, -⟩ := St.textsForm HT.out
      have htl : ((topsB pre).map strOf).length ≤ 80 := by rw [List.length_map, topsB_len]; omega
      have HLN : Hid ((pre.app (.cons c k .nil)).len = pre.len + 1) := by show _ = _; rw [Forest.app_len]; rfl
      have HCH : Hid ((topsB (pre.app (.cons c k .nil))).map strOf = (topsB pre).map strOf ++ [strOf (textOne c k)]) := by
        show _ = _
        rw [topsB_app, topsB_one, List.map_append]; rfl
      have hu1 := (hu.up hz).below ((Below.refl wr.heap.size wr).alloc (Nat.le_refl _) (.cells #[.string ⟨#[c]⟩, .slice A2 k.len cap2] 74))
      have hu2 := kids_one (c := c) (hu1.up (B' := (wr.alloc (.cells #[.string ⟨#[c]⟩, .slice A2 k.len cap2] 74)).heap.size) (by simp))
      have HQ := Lib.hid (l4Text_any (k.size + 2) (.cons c k .nil) _ _ (by show k.size + 0 + 1 < _; omega) (by show k.size + 0 + 1 ≤ _; omega) hu2)
      rw [textB_one] at HQ
      rw [World.size_alloc] at HQ
      have HB3 : Hid (Below wr.heap.size wr ((wr.alloc (.cells #[.string ⟨#[c]⟩, .slice A2 k.len cap2] 74)).alloc (.cells #[.string ⟨#[c]⟩, .slice A2 k.len cap2] 74))) := ((Below.refl _ wr).alloc (Nat.le_refl _) _).alloc (by simp) _
      have hys : (strOf (textOne c k)).size ≤ 1000 := by
        have := textOne_len c k
        unfold strOf
        show (textOne c k).toArray.size ≤ 1000
        rw [List.size_toArray]; omega
      clear hnext hu hu1 hu2
      generalize (topsB pre).map strOf = ts at *
      generalize strOf (textOne c k) = y at *
      go_wp2_with fail
      refine Calls.mono HQ.out ?_
      rintro e w5 ⟨rfl, hb5⟩
      have HB5 : Hid (Below wr.heap.size wr w5) := HB3.out.trans (hb5.mono (by simp; omega))
      have HT5 : Hid (OwnTexts w5 w2.heap.size (.slice A1 ts.length cap1) ts) := HT.out.below HB5.out
      clear hb5 HB3 HQ c0 c1
      have HT6 : Hid (OwnTexts (w5.alloc (.cells #[.string y] 9)) w2.heap.size (.slice A1 ts.length cap1) ts) := HT5.out.below ((Below.refl _ w5).alloc (Nat.le_refl _) _)
      have HN6 : Hid (∀ j x, [y][j]? = some x → (w5.alloc (.cells #[.string y] 9)).cell? ⟨w5.heap.size, 0 + j, none⟩ = some (.string x)) := by
        intro j x hj
        have hj0 : j = 0 := by have := (List.getElem?_eq_some_iff.1 hj).1; simp at this; omega
        subst hj0
        simp at hj
        subst hj
        exact Row.cell (Row.new w5 9 #[.string y]) 0
      have hz5 := HB5.out.size
      go_wp2_with (at_builtin; go_loud (refine wp_app11 rfl (.tmp 24) (.tmp 28) rfl w2.heap.size _ ts _ rfl HT6.out (by omega) (by simp; omega) w5.heap.size 0 1 1 [y] rfl rfl (by simp) HN6.out ?_); intro v7 w7 ho7 hb7 _ _; have HO7 := Lib.hid ho7; have HB7 : Hid (Below w2.heap.size w5 w7) := ((Below.refl _ w5).alloc (by omega) _).trans hb7; clear ho7 hb7 HN6 HT6)
      rw [← HCH.out] at HO7
      have HB8 : Hid (Below w2.heap.size wr w7) := (HB5.out.mono hz).trans HB7.out
      have HB9 : Hid (Below w2.heap.size w2 w7) := HB2.out.trans HB8.out
      have HL9 := Lib.hid (HNX.out.below HB8.out)
      clear HB5 HB7 HT5 HT HL HNX HB8 HB2
      go_roundw
      case rel => exact ⟨_, r, by rw [HLN.out]; go_num, HO7, HL9, HB9⟩
      case measure => simp [intOf]; omega

set_option maxRecDepth 100000 in
theorem specTopCalls_any (A : Option Addr) (l : List Seg) (c : Nat) (t : ByteArray) (w : World) (hw : Segs w w.heap.size A l) (hl : l.length ≤ 1048576) (hn : Short l) (ht : t.size ≤ 1048576) :
    Calls Try.prog 7 #[.slice A l.length c, .string t] w (TopsPost w l t) := by
  have HQ := Lib.hid (l11Top_any A l c t w hw hl hn ht)
  unfold TopsPost at HQ ⊢
  generalize (traceB l t.data.toList).isSome = d at *
  generalize topsRes l t = ts at *
  clear hw hn
  go_enter Try.func7, Try.ntmps7
  go_wp2_with fail
  refine Calls.mono HQ.out ?_
  rintro e w2 ⟨v, rfl, ho, hb⟩
  have HO := Lib.hid ho
  clear ho
  go_wp2
  go_ret2
  exact ⟨_, rfl, HO.out, hb⟩

end Go.Proofs.Ytifkmehnikfihaa
/- strings.Builder: what its two writing helpers do here. -/
namespace Go.Proofs.Ytifkmehnikfihaa
open Go.RowKit

theorem bsize : (Try.prog.info? 56).map (·.size) = some 2 := by kernel_rfl
theorem info_byte : (Try.prog.info? 5).map (fun i => (i.zero, i.size, i.bytes)) = some (some (.int .u8 0), 1, 1) := by kernel_rfl

set_option maxRecDepth 100000 in
set_option maxHeartbeats 1000000 in
theorem copyCheck_used (b : Nat) (w : World) (h0 : w.cell? ⟨b, 0, none⟩ = some (.pointer (some ⟨b, 0, none⟩))) :
    Calls Try.prog 61 #[.pointer (some ⟨b, 0, none⟩)] w fun e w' => e = .returned (.tuple #[]) ∧ w = w' := by
  obtain ⟨j, hj, _⟩ := Option.map_eq_some_iff.1 bsize
  have HJ := Lib.hid hj
  clear hj
  go_enter Try.func61, Try.ntmps61
  go_wp2
  rw [Lib.run_neq_ptr_same w _ Try.underlying53 HJ.out]
  go_wp2
  go_end0
  exact ⟨rfl, rfl⟩

set_option maxRecDepth 100000 in
set_option maxHeartbeats 1000000 in
theorem copyCheck_fresh (b : Nat) (w : World) (h0 : w.cell? ⟨b, 0, none⟩ = some (.pointer none)) (hsh : w.shape? b = some (56, 2)) (hfz : w.frozen? ⟨b, 0, none⟩ = false) :
    Calls Try.prog 61 #[.pointer (some ⟨b, 0, none⟩)] w fun e w' => e = .returned (.tuple #[]) ∧ w' = w.setCell ⟨b, 0, none⟩ (.pointer (some ⟨b, 0, none⟩)) := by
  obtain ⟨j, hj, hjs⟩ := Option.map_eq_some_iff.1 bsize
  have HJ := Lib.hid hj
  have HS := Lib.hid hjs
  have HSH := Lib.hid hsh
  clear hj hjs hsh
  go_enter Try.func61, Try.ntmps61
  go_wp2
  rw [Lib.run_to_unsafe w ⟨b, 0, none⟩ Try.underlying53 Try.underlying115 HJ.out (by rw [HS.out]; decide) HSH.out (Nat.zero_lt_succ 1)]
  simp only [Result.andThen]
  rw [Oper.upon_value]
  go_wp2
  rw [run_callFunc_extern Try.func80 (by kernel_rfl) (by kernel_rfl) (by kernel_rfl) (e := Extern.AbiNoEscape.same) (by kernel_rfl)]
  rw [Lib.run_noEscape]
  simp only [Result.andThen]
  rw [Oper.upon_value]
  go_wp2
  rw [Lib.run_from_unsafe w ⟨b, 0, none⟩ Try.underlying115 Try.underlying53 HJ.out HSH.out (by kernel_rfl)]
  simp only [Result.andThen]
  rw [Oper.upon_value]
  go_wp2
  go_end0
  exact ⟨rfl, rfl⟩

/-- What a builder holds, and which blocks a writing call may turn. -/
def Wrote (w : World) (B b : Nat) (bs : List Value) (n : Nat) (e : Ending) (w' : World) : Prop :=
  e = .returned (.tuple #[.int .i64 n, .nilIface]) ∧ Lib.IsBuilderF 56 5 B b bs w' ∧ Below B w w' ∧ Lib.OthersKept 5 (some b) w w'

set_option maxRecDepth 100000 in
theorem copyCheck_any (B b : Nat) (bs : List Value) (w : World) (h : Lib.IsBuilderF 56 5 B b bs w) :
    Calls Try.prog 61 #[.pointer (some ⟨b, 0, none⟩)] w fun e w' => e = .returned (.tuple #[]) ∧ (Lib.BuilderAtF 56 5 B b (.pointer (some ⟨b, 0, none⟩)) bs w' ∧ Below B w w' ∧ Lib.OthersKept 5 (some b) w w') := by
  rcases h with h | h
  · refine (copyCheck_fresh b w h.cell0 h.shape h.frozen0).mono ?_
    rintro e w' ⟨rfl, rfl⟩
    exact ⟨rfl, h.used _, (Below.refl B w).setCell (p := ⟨b, 0, none⟩) h.1 _, (Lib.OthersKept.refl _ _ w).setCell ⟨b, 0, none⟩ rfl _⟩
  · refine (copyCheck_used b w h.cell0).mono ?_
    rintro e w' ⟨rfl, rfl⟩
    exact ⟨rfl, h, Below.refl B _, Lib.OthersKept.refl _ _ _⟩

set_option maxRecDepth 100000 in
set_option maxHeartbeats 1000000 in
theorem writeString_any (B b : Nat) (bs : List Value) (s : ByteArray) (w : World) (h : Lib.IsBuilderF 56 5 B b bs w) (hlen : bs.length + s.size ≤ 140737488355328) (hBw : B ≤ w.heap.size) :
    Calls Try.prog 49 #[.pointer (some ⟨b, 0, none⟩), .string s] w (Wrote w B b (bs ++ Lib.strCells s) s.size) := by
  obtain ⟨i0, hi, hz0, hz1, hz2⟩ := info_parts info_byte
  have I0 := Lib.hid hi
  have Z0 := Lib.hid hz0
  have Z1 := Lib.hid hz1
  have Z2 := Lib.hid hz2
  clear hi hz0 hz1 hz2
  go_enter Try.func49, Try.ntmps49
  go_wp2_with fail
  refine (copyCheck_any B b bs _ h).mono ?_
  rintro e w1 ⟨rfl, h1, hb1, hk1⟩
  obtain ⟨hB, v, hbk, hown, hne⟩ := h1
  have c0 : w1.cell? ⟨b, 0, none⟩ = some (.pointer (some ⟨b, 0, none⟩)) := by rw [Lib.cell_of_heap hbk]; rfl
  have c1 : w1.cell? ⟨b, 1, none⟩ = some v := by rw [Lib.cell_of_heap hbk]; rfl
  go_wp2_with (at_builtin; go_must (refine Lib.wpList_append_own_stringF _ rfl _ _ 54 9 rfl B 5 i0 Try.underlying54 Try.underlying9 I0.out Z0.out Z1.out Z2.out _ _ _ rfl hown s rfl ?c3 ?c4 ?c5 ?_))
  case c3 => unfold maxLen; omega
  case c4 => omega
  case c5 => have := hb1.size; omega
  intro v' w2 hown' hgrow _
  have hlt : b < w1.heap.size := (Array.getElem?_eq_some_iff.1 hbk).1
  have hb2 : w2.heap[b]? = some (.cells #[.pointer (some ⟨b, 0, none⟩), v] 56 (0, 0)) := (hgrow.block b hlt (fun e => hne e.symm)).trans hbk
  have d1 : w2.cell? ⟨b, 1, none⟩ = some v := by rw [Lib.cell_of_heap hb2]; rfl
  have f1 : w2.frozen? ⟨b, 1, none⟩ = false := Lib.frozen_of_heap hb2 1
  obtain ⟨ao, n', cap, rfl⟩ : ∃ ao n' cap, v' = .slice ao n' cap := by
    rcases hown'.2 with ⟨hv, _⟩ | ⟨g, cap, cur, fz, hv, _⟩
    · exact ⟨_, _, _, hv⟩
    · exact ⟨_, _, _, hv⟩
  have HK := Lib.hid ((hk1.grown hgrow (Lib.ownsRowF_kind hown)).setCell ⟨b, 1, none⟩ rfl (.slice ao n' cap))
  have HP := Lib.hid (Lib.BuilderAtF.put (T := 56) (e := 5) hB hb2 (bs' := bs ++ Lib.strCells s) (by simpa [Lib.strCells_length] using hown') (by decide))
  have HW := Lib.hid ((hb1.grown hgrow (by have := hb1.size; omega) (fun k hk => (hown.lt k hk).1)).setCell (p := ⟨b, 1, none⟩) hB (.slice ao n' cap))
  clear hown hown' hgrow hk1 hbk hb2 c0 c1
  go_wp2
  go_ret2
  exact ⟨rfl, .inr HP.out, HW.out, HK.out⟩

end Go.Proofs.Ytifkmehnikfihaa

/- impl.joinNames over whatever iterator that yields nodes. -/
namespace Go.Proofs.Ytifkmehnikfihaa
open Go.RowKit Go.Shelf
attribute [local go_sem] Oper.semAt_some

/-- The index of a segment of 'l'. -/
abbrev Ix (l : List Seg) := { j : Nat // j < l.length }
def nameBytes (l : List Seg) (xs : List (Ix l)) : List UInt8 := xs.flatMap fun x => (l[x.1]'x.2).name.data.toList
theorem nameBytes_snoc (l : List Seg) (xs : List (Ix l)) (x : Ix l) : nameBytes l (xs ++ [x]) = nameBytes l xs ++ (l[x.1]'x.2).name.data.toList := by simp [nameBytes]
theorem nameBytes_len {l : List Seg} (h : ∀ s ∈ l, s.name.size ≤ 1) : ∀ xs : List (Ix l), (nameBytes l xs).length ≤ xs.length
  | [] => by simp [nameBytes]
  | x :: xs => by
    have h1 := nameBytes_len h xs
    have h2 := h _ (List.getElem_mem x.2)
    have h3 : ((l[x.1]'x.2).name.data.toList).length = (l[x.1]'x.2).name.size := by simp
    simp only [nameBytes, List.flatMap_cons, List.length_append, List.length_cons] at h1 ⊢
    omega

theorem isB_keep {T e : TypeId} {B b : Nat} {bs : List Value} {W W' : World} (h : Lib.IsBuilderF T e B b bs W) (hk : ∀ (k : Nat) (o : Obj), W.heap[k]? = some o → o.isCells = true → W'.heap[k]? = some o) : Lib.IsBuilderF T e B b bs W' := by
  have at_ : ∀ p, Lib.BuilderAtF T e B b p bs W → Lib.BuilderAtF T e B b p bs W' := fun p hp => by
    obtain ⟨h1, v, h2, h3, h4⟩ := hp
    refine ⟨h1, v, hk _ _ h2 rfl, ⟨h3.1, ?_⟩, h4⟩
    rcases h3.2 with h5 | ⟨g, cap, cur, fz, hv, hg, hh, r⟩
    · exact .inl h5
    · exact .inr ⟨g, cap, cur, fz, hv, hg, hk _ _ hh rfl, r⟩
  exact h.elim (fun x => .inl (at_ _ x)) (fun x => .inr (at_ _ x))
theorem isB_own (T e : TypeId) (B b D : Nat) {α : Type} (f : List α → List Value) : OwnFrom D (fun (pre : List α) W => Lib.IsBuilderF T e B b (f pre) W) := fun s A A' row hs hg hr =>
  isB_keep hs fun k o ho hc => (hg.block k (Array.getElem?_eq_some_iff.1 ho).1 (fun he => by
    obtain ⟨_, o', ho', hn⟩ := hr k he.symm
    rw [ho] at ho'
    injection ho' with ho'
    subst ho'
    rw [hc] at hn
    cases hn)).trans ho
theorem kept_from {w w' : World} {b B : Nat} {e : TypeId} {Bl : Nat} (h : Lib.OthersKept e (some b) w w') (hb : Below Bl w w') {c : Array Value} {t : TypeId} {fz : Nat × Nat} (hc : w.heap[b]? = some (.cells c t fz)) : KeepsFrom B w w' := by
  refine KeepsOthers.from ⟨hb.size, fun k o ho hn => h k o ho (fun he => ?_) (fun c' fz' he => ?_)⟩ B
  · injection he with he
    subst he
    rw [hc] at ho
    injection ho with ho
    subst ho
    cases hn
  · subst he
    cases hn

set_option maxRecDepth 100000 in
set_option maxHeartbeats 2000000 in
theorem joinNames_any {gf : Nat} {lb : Array Value} (w : World) (l : List Seg) (nb : Nat → Nat) (hnode : ∀ x : Ix l, w.cell? ⟨nb x.1, 0, none⟩ = some (.string (l[x.1]'x.2).name)) (hone : ∀ s ∈ l, s.name.size ≤ 1)
    (S Sp : List (Ix l) → Prop) (N : Nat) (hN : N ≤ 1000) (heg : ∀ args w, (callFunc gf args).run Try.prog w = .ok (.enter gf args) w)
    (hseq : SeqStopsK Fence.wide 5 Try.prog gf lb (fun x : Ix l => #[.pointer (some ⟨nb x.1, 0, none⟩)]) (Below w.heap.size) S Sp N w) :
    Calls Try.prog 50 #[.func (.func gf) #[] lb] w fun e w' => (∃ xs, S xs ∧ e = .returned (.string ⟨(nameBytes l xs).toArray⟩)) ∧ Below w.heap.size w w' := by
  refine (callsIn_wide (n := 6)).1 ?_
  refine callsIn_of_wp_marks Try.func50 rfl trivial ?_ rfl
  simp only [Try.ntmps50, List.size_toArray, List.length_cons, List.length_nil, Nat.reduceAdd, Nat.reduceSub, Array.replicate_succ, Array.replicate_zero, List.push_toArray, List.append_toArray, List.nil_append, List.cons_append]
  gi_wp2
  have hB0 : Below w.heap.size w (w.alloc (.cells #[.pointer none, .slice none 0 0] 56)) := (Below.refl _ w).alloc (Nat.le_refl _) _
  have hI0 : Lib.IsBuilderF 56 5 w.heap.size w.heap.size [] (w.alloc (.cells #[.pointer none, .slice none 0 0] 56)) := Lib.IsBuilderF.of (Lib.fresh_isBuilder _ _ w)
  refine wpIn_rangeFunc_ownG rfl (by omega) (gf := gf) (lb := lb) rfl trivial heg hseq belowK_t (belowK_b (by simp)) hB0 (fun _ => rfl)
    (fun pre W => Lib.IsBuilderF 56 5 w.heap.size w.heap.size (Lib.byteCells (nameBytes l pre)) W ∧ Below w.heap.size w W)
    (fun _ _ _ => False)
    (OwnFrom.and (isB_own _ _ _ _ _ (fun pre => Lib.byteCells (nameBytes l pre))) (ownFrom_below (Nat.le_refl _) (by simp)))
    (fun _ _ _ _ _ hs _ _ => hs)
    ⟨hI0, hB0⟩
    (fun x => { tmps := #[.func (.func gf) #[] lb, undef, .string ⟨#[]⟩, .pointer (some ⟨w.heap.size, 0, none⟩), .pointer (some ⟨nb x.1, 0, none⟩), .func (.func gf) #[] lb, .pointer (some ⟨nb x.1, 0, none⟩), undef, undef, undef, undef, undef, undef], defers := [] }) ?assign ?body ?done ?stop
  case assign =>
    intro l x W K hK
    gi_wp2
    exact hK
  case body =>
    rintro l' pre x W ⟨hI, hB⟩ hlen
    have hlt := World.block_lt_of_cell? w _ (hnode x)
    have nk : W.cell? ⟨nb x.1, 0, none⟩ = some (.string (l[x.1]'x.2).name) := (hB.cell (p := ⟨nb x.1, 0, none⟩) hlt).trans (hnode x)
    have HN : Hid _ := nameBytes_snoc l pre x
    have hl1 : (Lib.byteCells (nameBytes l pre)).length + (l[x.1]'x.2).name.size ≤ 140737488355328 := by
      have h1 := nameBytes_len hone pre
      have h2 := hone _ (List.getElem_mem x.2)
      have h3 : (Lib.byteCells (nameBytes l pre)).length = (nameBytes l pre).length := by simp [Lib.byteCells]
      omega
    obtain ⟨cb, hcb⟩ : ∃ c, W.heap[w.heap.size]? = some (.cells c 56 (0, 0)) := by
      rcases hI with ⟨_, v, h2, _⟩ | ⟨_, v, h2, _⟩
      · exact ⟨_, h2⟩
      · exact ⟨_, h2⟩
    have HC := Lib.hid hcb
    clear hcb
    generalize (l[x.1]'x.2).name = nm at *
    gi_wp2_with (refine ⟨trivial, ?_⟩; gi_at_call 49; refine (CallsIn.inRound l' (callsIn_wide.2 (writeString_any w.heap.size w.heap.size _ nm _ hI hl1 hB.size))).mono ?_; rintro e W1 ⟨rfl, hI1, hb1, hk1⟩)
    refine ⟨kept_from hk1 hb1 HC.out, hb1, ?_, hB.trans hb1⟩
    rw [HN.out]
    have : Lib.byteCells (nameBytes l pre ++ nm.data.toList) = Lib.byteCells (nameBytes l pre) ++ Lib.strCells nm := by simp [Lib.byteCells, Lib.strCells]
    rw [this]
    exact hI1
  case done =>
    rintro D ys W hD hS ⟨hI, hB⟩ hK
    gi_wp2_with (refine ⟨trivial, ?_⟩; gi_at_call 27; refine (callsIn_wide.2 (Try.Builder_String_any_k w.heap.size w.heap.size _ _ hI hB.size)).mono ?_; rintro e W1 ⟨rfl, hI1, hb1, hk1⟩)
    have hbne : D ≠ w.heap.size := by simp at hD; omega
    have hK1 : W1.heap[D]? = some (.deferred (some [])) := hk1 D _ hK (fun he => hbne (by injection he)) (fun c fz he => by cases he)
    refine ⟨by simp, .inl ⟨_, _, rfl, run_takeDeferred hK1, ?_⟩⟩
    exact ⟨_, results_tmp rfl _ _ _, ⟨ys, hS, rfl⟩, (hB.trans hb1).trans (belowK_b (w := w) (Nat.le_refl _) W1 D _ _ (by simp at hD; omega) hK1 rfl rfl)⟩
  case stop =>
    rintro D c pre W _ _ h _
    exact h.elim

end Go.Proofs.Ytifkmehnikfihaa
/- The program's calls: their methods, and what is needed for them, written out. -/
namespace Go.Proofs.Ytifkmehnikfihaa
open Go.RowKit

theorem meth_name_leaf (c : UInt8) (w : World) : (method 255 122 (.agg #[.string ⟨#[c]⟩]) "loop.example/segmentrooms/impl.name").run Try.prog w = .ok (122, .agg #[.string ⟨#[c]⟩]) w := by kernel_rfl
theorem meth_calls_leaf (c : UInt8) (w : World) : (method 255 122 (.agg #[.string ⟨#[c]⟩]) "loop.example/segmentrooms/impl.calls").run Try.prog w = .ok (121, .agg #[.string ⟨#[c]⟩]) w := by kernel_rfl
theorem meth_name_branch (c : UInt8) (A : Option Addr) (n cap : Nat) (w : World) : (method 255 124 (.agg #[.string ⟨#[c]⟩, .slice A n cap]) "loop.example/segmentrooms/impl.name").run Try.prog w = .ok (122, .agg #[.string ⟨#[c]⟩]) w := by kernel_rfl
theorem meth_calls_branch (c : UInt8) (A : Option Addr) (n cap : Nat) (w : World) : (method 255 124 (.agg #[.string ⟨#[c]⟩, .slice A n cap]) "loop.example/segmentrooms/impl.calls").run Try.prog w = .ok (124, .agg #[.string ⟨#[c]⟩, .slice A n cap]) w := by kernel_rfl

set_option maxRecDepth 100000 in
theorem leafName_any (c : UInt8) (w : World) : Calls Try.prog 122 #[.agg #[.string ⟨#[c]⟩]] w fun e w' => e = .returned (.string ⟨#[c]⟩) ∧ w' = w.alloc (.cells #[.string ⟨#[c]⟩] 122) := by
  go_enter Try.func122, Try.ntmps122
  go_wp2
  go_ret
  exact ⟨rfl, rfl⟩
/-- What the methods of a call say, whichever of the two it is. -/
structure CallFacts (T : TypeId) (x : Value) (c : UInt8) (kv : Value) : Prop where
  name : ∀ w : World, (method 255 T x "loop.example/segmentrooms/impl.name").run Try.prog w = .ok (122, .agg #[.string ⟨#[c]⟩]) w
  calls : ∃ K y o, (∀ w : World, (method 255 T x "loop.example/segmentrooms/impl.calls").run Try.prog w = .ok (K, y) w) ∧ (∀ w : World, (callFunc K #[y]).run Try.prog w = .ok (.enter K #[y]) w) ∧ ∀ w : World, Calls Try.prog K #[y] w fun e w' => e = .returned kv ∧ w' = w.alloc o
end Go.Proofs.Ytifkmehnikfihaa
/- slices.Values at a slice of nodes. -/
namespace Go.Proofs.Ytifkmehnikfihaa
open Go.RowKit Go.Shelf
attribute [local go_sem] Oper.semAt_some

/-- The slice value 'sv' holds pointers to the nodes 'ks', in a block below n₀; or it is nil and there are none. -/
def PtrsAt (n₀ : Nat) (W : World) (sv : Value) {l : List Seg} (nb : Nat → Nat) (ks : List (Ix l)) : Prop :=
  (sv = .slice none 0 0 ∧ ks = []) ∨ ∃ b off cap, sv = .slice (some ⟨b, off, none⟩) ks.length cap ∧ b < n₀ ∧ ∀ (j : Nat) (x : Ix l), ks[j]? = some x → W.cell? ⟨b, off + j, none⟩ = some (.pointer (some ⟨nb x.1, 0, none⟩))
theorem PtrsAt.below {n₀ : Nat} {A B : World} (h : Below n₀ A B) {sv : Value} {l : List Seg} {nb : Nat → Nat} {ks : List (Ix l)} : PtrsAt n₀ A sv nb ks → PtrsAt n₀ B sv nb ks
  | .inl e => .inl e
  | .inr ⟨b, off, cap, e, hb, hc⟩ => .inr ⟨b, off, cap, e, hb, fun j x hj => (h.cell (p := ⟨b, off + j, none⟩) hb).trans (hc j x hj)⟩

set_option maxRecDepth 100000 in
set_option maxHeartbeats 2000000 in
theorem values1_in (n : Nat) (hn : 1 ≤ n) (l' Bs n₀ b off cap : Nat) {l : List Seg} (nb : Nat → Nat) (ks : List (Ix l)) (hreach : ks.length ≤ 1000) (hb : b < n₀) (J Jx : List (Ix l) → World → Prop)
    (hY : ∀ pre x W, J pre W → pre.length < ks.length → YieldAt Fence.wide (n - 1) Try.prog l' #[.pointer (some ⟨nb x.1, 0, none⟩)] W fun e W' =>
      (e = .returned (.bool true) ∧ J (pre ++ [x]) W' ∧ Below n₀ W W') ∨ (e = .returned (.bool false) ∧ Jx (pre ++ [x]) W'))
    (W : World) (hBs : W.cell? ⟨Bs, 0, none⟩ = some (.slice (some ⟨b, off, none⟩) ks.length cap)) (hc : ∀ (j : Nat) (x : Ix l), ks[j]? = some x → W.cell? ⟨b, off + j, none⟩ = some (.pointer (some ⟨nb x.1, 0, none⟩))) (h0 : J [] W) :
    CallsIn Fence.wide n Try.prog 62 #[.func (.yield l') #[] #[], .pointer (some ⟨Bs, 0, none⟩)] W fun e W' => (∃ v, e = .returned v) ∧
      ((∃ ys, ys = ks ∧ J ys W') ∨ (∃ pre, pre <+: ks ∧ Jx pre W')) := by
  refine callsIn_of_wp Try.func62 rfl trivial ?_ rfl
  simp only [Try.ntmps62, List.size_toArray, List.length_cons, List.length_nil, Nat.reduceAdd, Nat.reduceSub, Array.replicate_succ, Array.replicate_zero, List.push_toArray, List.append_toArray, List.nil_append, List.cons_append]
  have HC := Lib.hid hc
  clear hc
  gi_wp2
  gi_loopw [7] (fun i wr => ∃ k : Nat, k ≤ ks.length ∧ i = .int .i64 k ∧ J (ks.take k) wr ∧ Below n₀ W wr)
    (fun i _ => ks.length - (intOf i).toNat)
  case atStart => exact ⟨0, Nat.zero_le _, rfl, h0, Below.refl _ _⟩
  case round =>
    obtain ⟨k, hk, rfl, hJs, hnx⟩ := hrel
    by_cases hlt : k < ks.length
    · have hcx : wr.cell? ⟨b, off + k, none⟩ = some (.pointer (some ⟨nb ks[k].1, 0, none⟩)) := (hnx.cell (p := ⟨b, off + k, none⟩) hb).trans (HC.out k _ (List.getElem?_eq_getElem hlt))
      have HT : Hid (ks.take (k + 1) = ks.take k ++ [ks[k]]) := List.take_succ_eq_append_getElem hlt
      obtain ⟨fn, tmps, assign, body, hy, hR⟩ := hY _ ks[k] wr hJs (by rw [List.length_take]; omega)
      generalize ks[k] = x at *
      gi_wp2
      refine hR.mono ?_
      rintro e W3 (⟨rfl, hJ3, hk3⟩ | ⟨rfl, hJx3⟩)
      · gi_wp2
        go_roundw
        case rel => exact ⟨k + 1, by omega, by simp, by rw [HT.out]; exact hJ3, hnx.trans hk3⟩
        case measure => simp [intOf]; omega
      · gi_wp2
        refine bodyPost_ret (results_none rfl _ _ _) rfl ?_
        exact ⟨⟨_, rfl⟩, .inr ⟨_, by rw [← HT.out]; exact List.take_prefix _ _, hJx3⟩⟩
    · gi_wp2
      go_end0
      exact ⟨⟨_, rfl⟩, .inl ⟨_, List.take_of_length_le (by omega), hJs⟩⟩

set_option maxRecDepth 100000 in
set_option maxHeartbeats 1000000 in
theorem values1_nil_in (n : Nat) (l' Bs : Nat) {l : List Seg} (J : List (Ix l) → World → Prop) (W : World) (hBs : W.cell? ⟨Bs, 0, none⟩ = some (.slice none 0 0)) (h0 : J [] W) :
    CallsIn Fence.wide n Try.prog 62 #[.func (.yield l') #[] #[], .pointer (some ⟨Bs, 0, none⟩)] W fun e W' => (∃ v, e = .returned v) ∧ J [] W' := by
  refine callsIn_of_wp Try.func62 rfl trivial ?_ rfl
  simp only [Try.ntmps62, List.size_toArray, List.length_cons, List.length_nil, Nat.reduceAdd, Nat.reduceSub, Array.replicate_succ, Array.replicate_zero, List.push_toArray, List.append_toArray, List.nil_append, List.cons_append]
  gi_wp2
  gi_loopw [7] (fun i wr => i = .int .i64 0 ∧ J [] wr) (fun _ _ => 0)
  case atStart => exact ⟨rfl, h0⟩
  case round =>
    obtain ⟨rfl, hJs⟩ := hrel
    gi_wp2
    go_end0
    exact ⟨⟨_, rfl⟩, hJs⟩

set_option maxRecDepth 100000 in
set_option maxHeartbeats 400000 in
theorem values_any (a : Option Addr) (len cap : Nat) (w : World) :
    Calls Try.prog 51 #[.slice a len cap] w fun e w' => e = .returned (.func (.func 62) #[] #[.pointer (some ⟨w.heap.size, 0, none⟩)]) ∧ w' = w.alloc (.cells #[.slice a len cap] 76) := by
  go_enter Try.func51, Try.ntmps51
  go_wp2
  go_ret
  exact ⟨rfl, rfl⟩

theorem values_stops (n : Nat) (hn : 1 ≤ n) (Bs n₀ : Nat) (sv : Value) {l : List Seg} (nb : Nat → Nat) (ks : List (Ix l)) (hreach : ks.length ≤ 1000) (w : World) (hBs : Bs < w.heap.size) (hn₀ : n₀ ≤ w.heap.size)
    (hc : w.cell? ⟨Bs, 0, none⟩ = some sv) (hI : PtrsAt n₀ w sv nb ks) :
    SeqStopsK Fence.wide n Try.prog 62 #[.pointer (some ⟨Bs, 0, none⟩)] (fun x : Ix l => #[.pointer (some ⟨nb x.1, 0, none⟩)]) (Below n₀) (fun ys => ys = ks) (fun pre => pre <+: ks) ks.length w := fun l' J Jx W hW _ _ hY h0 => by
  have hc' := (hW.cell (p := ⟨Bs, 0, none⟩) hBs).trans hc
  rcases hI.below (hW.mono hn₀) with ⟨rfl, rfl⟩ | ⟨b, off, cap, rfl, hb, hcs⟩
  · exact (values1_nil_in n l' Bs J W hc' h0).mono fun e W' ⟨he, hj⟩ => ⟨he, .inl ⟨_, rfl, hj⟩⟩
  · exact values1_in n hn l' Bs n₀ b off cap nb ks hreach hb J Jx hY W hc' hcs h0

end Go.Proofs.Ytifkmehnikfihaa

/- NamesOf and ChildrenOf: the program's and the model's. -/
namespace Go.Proofs.Ytifkmehnikfihaa
open Go.RowKit Go.Shelf

theorem ret_two {a b : ByteArray} {c d : Bool} (h : a = b) (k : c = d) : Ending.returned (.tuple #[.string a, .bool c]) = .returned (.tuple #[.string b, .bool d]) := by rw [h, k]

def nmAt (l : List Seg) (j : Nat) : List UInt8 := match l[j]? with
  | some s => s.name.data.toList
  | none => []
theorem nmAt_of {l : List Seg} {j : Nat} (h : j < l.length) : nmAt l j = l[j].name.data.toList := by unfold nmAt; rw [List.getElem?_eq_getElem h]
def ixOf (l : List Seg) (js : List Nat) (h : ∀ j ∈ js, j < l.length) : List (Ix l) := js.pmap (fun j h => ⟨j, h⟩) h
theorem ixOf_len (l : List Seg) (js : List Nat) (h : ∀ j ∈ js, j < l.length) : (ixOf l js h).length = js.length := by simp [ixOf]
theorem ixOf_at {l : List Seg} {js : List Nat} {h : ∀ j ∈ js, j < l.length} {i : Nat} {x : Ix l} (hx : (ixOf l js h)[i]? = some x) : js[i]? = some x.1 := by
  unfold ixOf at hx
  rw [List.getElem?_pmap] at hx
  cases hj : js[i]? with
  | none => simp [hj] at hx
  | some j => simp [hj] at hx; rw [← hx]
theorem nameBytes_ixOf (l : List Seg) : ∀ (js : List Nat) (h : ∀ j ∈ js, j < l.length), nameBytes l (ixOf l js h) = js.flatMap (nmAt l)
  | [], _ => rfl
  | j :: js, h => by
    have h1 := nameBytes_ixOf l js (fun i hi => h i (List.mem_cons_of_mem _ hi))
    have hj : j < l.length := h j List.mem_cons_self
    show (l[j]'hj).name.data.toList ++ nameBytes l (ixOf l js _) = nmAt l j ++ js.flatMap (nmAt l)
    rw [h1, nmAt_of hj]
theorem range_names (l : List Seg) : ∀ k, k ≤ l.length → (List.range k).flatMap (nmAt l) = (seenOf l k).data.toList
  | 0, _ => rfl
  | k + 1, hk => by
    rw [List.range_succ, List.flatMap_append, range_names l k (by omega), seenOf_succ (by omega)]
    show _ = (seenOf l k ++ l[k].name).data.toList
    rw [ByteArray.data_append, Array.toList_append]
    simp [nmAt_of (show k < l.length by omega)]
theorem valid_names {l : List Seg} (h : validB l = true) : ∀ s ∈ l, s.name.size ≤ 1 := fun s hs => by
  obtain ⟨j, hj, rfl⟩ := List.getElem_of_mem hs
  obtain ⟨c, hc, _⟩ := nameOk_one ((valid_all h).1.name hj (List.getElem?_eq_getElem hj))
  rw [hc]
  exact Nat.le_refl 1

def namesStr (l : List Seg) : ByteArray := if validB l = true then seenOf l l.length else ⟨#[]⟩

set_option maxRecDepth 100000 in
set_option maxHeartbeats 400000 in
theorem namesOf_any (A : Option Addr) (l : List Seg) (c : Nat) (w : World) (hw : Segs w w.heap.size A l) (hl : l.length ≤ 1048576) (hlc : l.length ≤ c) (hcm : c ≤ 9223372036854775807) (hn : Short l) :
    Calls Try.prog 34 #[.slice A l.length c] w fun e w' => e = .returned (.tuple #[.string (namesStr l), .bool (validB l)]) ∧ Below w.heap.size w w' := by
  have HW : Hid (Segs w w.heap.size A l) := hw
  clear hw
  have hnil := fun (W : World) (a : Option Addr) (n c : Nat) => Lib.run_eql_slice_nil (P := Try.prog) W 76 92 a n c 0 0 Try.underlying76
  cases hv : validB l with
  | false =>
    have HF : Hid (namesStr l = ⟨#[]⟩) := if_neg (by rw [hv]; decide)
    go_enter Try.func34, Try.ntmps34
    go_wp2_with fail
    refine (nodesOf_bad _ _ _ _ HW.out hl hlc hcm hn hv).mono ?_
    rintro e w1 ⟨rfl, hb1⟩
    go_wp2
    go_ret2
    exact ⟨ret_two HF.out.symm rfl, hb1⟩
  | true =>
    have HF : Hid (namesStr l = seenOf l l.length) := if_pos hv
    have HO : Hid _ := valid_names hv
    have HL : Hid _ := valid_all hv
    have hr : ∀ j ∈ List.range l.length, j < l.length := fun j hj => List.mem_range.1 hj
    have HR := Lib.hid hr
    clear hr
    go_enter Try.func34, Try.ntmps34
    go_wp2_with fail
    refine (nodesOf_any _ _ _ _ HW.out hl hlc hcm hn hv).mono ?_
    rintro e w1 ⟨g, nb, cv, rfl, hN, hb1⟩
    have HN := Lib.hid hN
    clear hN hv
    go_wp2_with fail
    refine (values_any _ _ _ _).mono ?_
    rintro e w2 ⟨rfl, rfl⟩
    clear hnil
    go_wp2_with fail
    have hg := HN.out.row
    have hseq := values_stops (l := l) 5 (by omega) w1.heap.size (w1.heap.size + 1) (.slice (some ⟨g, 0, none⟩) l.length l.length) nb (ixOf l (List.range l.length) HR.out) (by rw [ixOf_len, List.length_range]; have := HL.out.2.1; omega)
      (w1.alloc (.cells #[.slice (some ⟨g, 0, none⟩) l.length l.length] 76)) (by simp) (by simp) (by simp) (.inr (by
        obtain ⟨cs, hrow, _, hci⟩ := hg
        refine ⟨g, 0, l.length, by rw [ixOf_len, List.length_range], Nat.lt_succ_of_lt hrow.lt, fun j x hj => ?_⟩
        have h1 := ixOf_at hj
        have hj2 : j < l.length := by have := (List.getElem?_eq_some_iff.1 h1).1; simpa using this
        rw [List.getElem?_range hj2] at h1
        injection h1 with h1
        rw [← h1, Nat.zero_add, (hrow.alloc _).cell]
        exact hci j hj2))
    have HSQ := Lib.hid hseq
    clear hseq hg
    refine (joinNames_any _ l nb (fun x => ?_) HO.out _ _ _ ?_ (enters_of Try.func62 (by kernel_rfl) rfl) (by rw [World.size_alloc]; exact HSQ.out)).mono ?_
    · exact ((HN.out.node x.1 _ x.2 (List.getElem?_eq_getElem x.2)).alloc _).cell 0
    · rw [ixOf_len, List.length_range]; have := HL.out.2.1; omega
    · rintro e w3 ⟨⟨xs, rfl, rfl⟩, hb3⟩
      have hb4 : Below w.heap.size w w3 := (hb1.alloc hb1.size _).trans (hb3.mono (by rw [World.size_alloc]; have := hb1.size; omega))
      have HE : Hid (namesStr l = ⟨(nameBytes l (ixOf l (List.range l.length) HR.out)).toArray⟩) := by
        show _ = _
        rw [HF.out, nameBytes_ixOf, range_names l _ (Nat.le_refl _)]
      clear hb3
      go_wp2
      go_ret2
      exact ⟨ret_two HE.out.symm rfl, hb4⟩

end Go.Proofs.Ytifkmehnikfihaa
