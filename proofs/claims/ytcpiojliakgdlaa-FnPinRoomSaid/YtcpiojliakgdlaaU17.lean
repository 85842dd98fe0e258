/- Joined: Pe Qc Cm Qb Qe Ba Gc Bh Ge Qd Gh Bj Gf Gj Gk. -/
import Derived.Test.YtcpiojliakgdlaaU16
import Derived.Test.YtcpiojliakgdlaaU15
import Derived.Maps.OwnIn
import Derived.LaidEqlPtr
import Derived.BigQuiet
import Derived.Test.YtcpiojliakgdlaaU01
import Derived.Laws.Rows
import Derived.RangeFuncWrites
import Derived.IntWalk
import Derived.Test.YtcpiojliakgdlaaU12
import Derived.Maps.AppendAt
import Derived.Deep.AppendLies
/- The program's rooms: RoomOf, SavedRoom, Overlap. -/
namespace Go.Proofs.Ytcpiojliakgdlaa
open Go.RowKit

set_option maxRecDepth 100000 in
set_option maxHeartbeats 400000 in
theorem roomOf_any (A : Option Addr) (l : List Seg) (c : Nat) (w : World) (hw : Segs w w.heap.size A l) (hl : l.length ≤ 1048576) (hlc : l.length ≤ c) (hcm : c ≤ 9223372036854775807) (hn : Short l) :
    Calls Try.prog 38 #[.slice A l.length c] w fun e w' => e = .returned (.int .i64 (roomB l)) ∧ Below w.heap.size w w' := by
  have HW : Hid (Segs w w.heap.size A l) := hw
  clear hw
  have hnil := fun (W : World) (a : Option Addr) (n c : Nat) => Lib.run_eql_slice_nil (P := Try.prog) W 61 72 a n c 0 0 Try.underlying61
  cases hv : validB l with
  | false =>
    have HF : Hid (roomB l = -1) := if_neg (by rw [hv]; decide)
    go_enter Try.func38, Try.ntmps38
    go_wp2_with fail
    refine (nodesOf_bad _ _ _ _ HW.out hl hlc hcm hn hv).mono ?_
    rintro e w1 ⟨rfl, hb1⟩
    go_wp2
    go_ret
    exact ⟨ret_int HF.out.symm, hb1⟩
  | true =>
    have h0 := (valid_all hv).2.2
    have hle := lastIx_le l (l.length - 1)
    have HL : Hid (lastIx l (l.length - 1) < l.length) := show _ < _ by omega
    have HF : Hid (roomB l = endAt l (lastIx l (l.length - 1))) := by
      have h1 : roomB l = roomTo l l.length := if_pos hv
      have h2 := lastIx_room hv (l.length - 1) (by omega)
      rw [show l.length - 1 + 1 = l.length by omega] at h2
      exact h1.trans h2.symm
    have HV := Lib.hid hv
    clear hv hle
    have hfld := run_end
    go_enter Try.func38, Try.ntmps38
    go_wp2_with fail
    refine (nodesOf_any _ _ _ _ HW.out hl hlc hcm hn HV.out).mono ?_
    rintro e w1 ⟨g, nb, cv, rfl, hN, hb1⟩
    have HN := Lib.hid hN
    clear hN
    go_wp2_with fail
    refine (fold_any _ _ _ _ _ _ HN.out HV.out).mono ?_
    rintro e w2 ⟨rfl, hb2⟩
    have B2 := hb1.trans (hb2.mono hb1.size)
    go_wp2_with fail
    refine (place_any l nb HV.out _ HL.out _ (HN.out.placed.below hb2)).mono ?_
    rintro e w3 ⟨rfl, hb3⟩
    have B3 := B2.trans (hb3.mono B2.size)
    clear hb1 hb2 B2 hb3
    go_wp2
    go_ret
    exact ⟨ret_int HF.out.symm, B3⟩

end Go.Proofs.Ytcpiojliakgdlaa
/- The program's LongestPath. -/
namespace Go.Proofs.Ytcpiojliakgdlaa
open Go.RowKit Go.Shelf

theorem Nodes.below {w w' : World} {B g m k : Nat} {l : List Seg} {nb : Nat → Nat} {cv : Nat → Value} (h : Nodes w B g m k l nb cv) (hb : Below w.heap.size w w') : Nodes w' B g m k l nb cv := by
  obtain ⟨cs, hg, hcs, hci⟩ := h.row
  refine ⟨⟨cs, hg.below hb hg.lt, hcs, hci⟩, fun i t hi ht => ?_, fun i t hi hi2 ht => ?_, fun i hi => ?_, h.apart, h.apartC, h.notg, h.low⟩
  · have h1 := h.node i t hi ht
    exact h1.below hb h1.lt
  · have h1 := h.fresh i t hi hi2 ht
    exact h1.below hb h1.lt
  · exact own_keep (h.kids i hi) fun b hb' => hb.block b ((h.kids i hi).lt b hb').2

end Go.Proofs.Ytcpiojliakgdlaa
/- impl.CommonOf where both are found. -/
namespace Go.Proofs.Ytcpiojliakgdlaa
open Go.RowKit Go.Shelf
attribute [local go_sem] Oper.semAt_some

theorem row_grown {W W' : World} {b : Nat} {t : TypeId} {cs : Array Value} {row : Option Nat} (h : Row W b t cs) (hg : W.grownBy W' row) {B : Nat} (hr : ∀ r, row = some r → B ≤ r ∧ ∃ o : Obj, W.heap[r]? = some o ∧ o.isCells = false) : Row W' b t cs :=
  (hg.block b h.lt (fun he => by
    obtain ⟨_, o, ho, hc⟩ := hr b he.symm
    have h' : W.heap[b]? = some (.cells cs t (0, 0)) := h
    rw [h'] at ho
    injection ho with ho
    subst ho
    cases hc)).trans h
/-- What the loop keeps: the box of the answer, the box of the names. -/
structure Loop2 (w1 : World) (l : List Seg) (R : List Nat) (nm : ByteArray) (b2 : Nat) (T : List Nat) (W : World) : Prop where
  box : Row W w1.heap.size 9 #[.string (lastNm l T)]
  names : Row W b2 9 #[.string nm]
  below : Below w1.heap.size w1 W
  all : ∀ v ∈ T, v ∈ R
theorem Loop2.grown {w1 W W' : World} {l : List Seg} {R T : List Nat} {nm : ByteArray} {b2 B : Nat} {row : Option Nat} (h : Loop2 w1 l R nm b2 T W) (hg : W.grownBy W' row) (hB : w1.heap.size ≤ B) (hr : ∀ r, row = some r → B ≤ r ∧ ∃ o : Obj, W.heap[r]? = some o ∧ o.isCells = false) : Loop2 w1 l R nm b2 T W' :=
  ⟨row_grown h.box hg hr, row_grown h.names hg hr, h.below.grown hg h.below.size (fun k e => by have := (hr k e).1; omega), h.all⟩
theorem Loop2.drew {w1 W : World} {l : List Seg} {R T : List Nat} {nm : ByteArray} {b2 : Nat} (h : Loop2 w1 l R nm b2 T W) : Loop2 w1 l R nm b2 T W.drew := ⟨h.box, h.names, h.below.drew, h.all⟩
theorem Loop2.step {w1 W : World} {l : List Seg} {R T : List Nat} {nm a : ByteArray} {b2 : Nat} (h : Loop2 w1 l R nm b2 T W) (hb2 : w1.heap.size < b2) {v : Nat} (hv : v < l.length) (hR : v ∈ R) (ha : l[v].name = a) :
    Loop2 w1 l R nm b2 (T ++ [v]) (W.setCell ⟨w1.heap.size, 0, none⟩ (.string a)) := by
  refine ⟨?_, Row.far h.names (by show b2 ≠ w1.heap.size; omega) _, h.below.setCell (Nat.le_refl _) _, fun u hu => ?_⟩
  · have := Row.put h.box 0 (.string a)
    rw [lastNm_snoc T hv, ha]
    exact this
  · rcases List.mem_append.1 hu with hu | hu
    · exact h.all u hu
    · rw [List.mem_singleton.1 hu]; exact hR

end Go.Proofs.Ytcpiojliakgdlaa
/- A path gathered into a slice, and what is in it: the program's LieTogether. -/
namespace Go.Proofs.Ytcpiojliakgdlaa
open Go.RowKit Go.Shelf
attribute [local go_sem] Oper.semAt_some

theorem own_grown {W W' : World} {base n : Nat} {e : TypeId} {v : Value} {xs : List Value} {row : Option Nat} (h : W.ownsRow base e 1 v n xs) (hg : W.grownBy W' row) (hr : ∀ r, row = some r → ∃ o : Obj, W.heap[r]? = some o ∧ o.isCells = false) : W'.ownsRow base e 1 v n xs :=
  own_keep h fun g hb => hg.block g ((h.lt g hb).2) (fun he => by
    obtain ⟨o, ho, hc⟩ := hr g he.symm
    rcases h.2 with ⟨rfl, _⟩ | ⟨g', cap, cur, rfl, _, hh, _⟩
    · simp [Value.ownBlock] at hb
    · have : g' = g := by simpa [Value.ownBlock] using hb
      subst this
      rw [hh] at ho
      injection ho with ho
      subst ho
      cases hc)

/-- What was gathered: the box holds a slice of the call's own. -/
structure Gath (w : World) (nb : Nat → Nat) (T : List Nat) (W : World) : Prop where
  ex : ∃ v, Row W w.heap.size 61 #[v] ∧ W.ownsRow (w.heap.size + 1) 72 1 v T.length (ptrsOf nb T) ∧ (T.length = 0 → v = .slice none 0 0)
  below : Below w.heap.size w W
theorem Gath.grown {w W W' : World} {nb : Nat → Nat} {T : List Nat} {B : Nat} {row : Option Nat} (h : Gath w nb T W) (hg : W.grownBy W' row) (hB : w.heap.size ≤ B) (hr : ∀ r, row = some r → B ≤ r ∧ ∃ o : Obj, W.heap[r]? = some o ∧ o.isCells = false) : Gath w nb T W' := by
  obtain ⟨⟨v, h1, h2, h3⟩, hb⟩ := h
  exact ⟨⟨v, row_grown h1 hg hr, own_grown h2 hg (fun r e => (hr r e).2), h3⟩, hb.grown hg hb.size (fun k e => by have := (hr k e).1; omega)⟩

/-- What Index says. -/
def FoundAt (js : List Nat) (i : Nat) (w : World) (e : Ending) (w' : World) : Prop := ∃ r : Int, e = .returned (.int .i64 r) ∧ (0 ≤ r ↔ i ∈ js) ∧ (0 ≤ r → js[r.toNat]? = some i) ∧ w = w'

set_option maxRecDepth 100000 in
set_option maxHeartbeats 1000000 in
theorem index_any (g cap base : Nat) (js : List Nat) (nb : Nat → Nat) (i : Nat) (w : World) (hown : w.ownsRow base 72 1 (.slice (some ⟨g, 0, none⟩) js.length cap) js.length (ptrsOf nb js)) (hjl : js.length ≤ 1000)
    (hnode : ∀ j, j = i ∨ j ∈ js → ∃ c, Row w (nb j) 108 c) (hinj : ∀ j ∈ js, nb i = nb j → i = j) :
    Calls Try.prog 150 #[.slice (some ⟨g, 0, none⟩) js.length cap, .pointer (some ⟨nb i, 0, none⟩)] w (FoundAt js i w) := by
  have HO := Lib.hid hown
  have HN := Lib.hid hnode
  have HI := Lib.hid hinj
  obtain ⟨i0, hi0, hsz0⟩ := Option.map_eq_some_iff.1 (show (Try.prog.info? 108).map (fun i => i.size) = some 4 by kernel_rfl)
  have I0 := Lib.hid hi0
  have I1 := Lib.hid hsz0
  clear hown hnode hinj hi0 hsz0
  go_enter Try.func150, Try.ntmps150
  go_wp2
  go_loop [8] (fun c => ∃ k : Nat, k ≤ js.length ∧ c = .int .i64 k ∧ Hid (∀ m, m < k → js[m]? ≠ some i)) (fun c => js.length - (intOf c).toNat)
  case atStart => exact ⟨0, Nat.zero_le _, rfl, fun m hm => absurd hm (by omega)⟩
  case round =>
    obtain ⟨k, hk, rfl, HM⟩ := hrel
    by_cases hlt : k < js.length
    · have hc : w.cell? ⟨g, k, none⟩ = some (.pointer (some ⟨nb js[k], 0, none⟩)) := by
        rw [HO.out.cellAt k (by omega)]
        simp [ptrsOf, ptrTo, hlt]
      have HK : Hid (js[k]? = some js[k]) := List.getElem?_eq_getElem hlt
      have HMem : Hid (js[k] ∈ js) := List.getElem_mem hlt
      generalize js[k] = j at *
      by_cases hij : i = j
      · subst hij
        have hq := fun W : World => run_eql_ptr_same (P := Try.prog) W ⟨nb i, 0, none⟩ Try.underlying72 I0.out
        go_wp2
        go_ret
        exact ⟨k, rfl, ⟨fun _ => HMem.out, fun _ => by omega⟩, fun _ => HK.out, rfl⟩
      · obtain ⟨c1, r1⟩ := HN.out i (.inl rfl)
        obtain ⟨c2, r2⟩ := HN.out j (.inr HMem.out)
        have hne : nb i ≠ nb j := fun e => hij (HI.out j HMem.out e)
        have hq := run_eql_ptr_other (P := Try.prog) w (a := ⟨nb i, 0, none⟩) (b := ⟨nb j, 0, none⟩) Try.underlying72 I0.out (by rw [I1.out]; decide) (fun e => hne (by injection e)) r1 r2
        have HM1 : Hid (∀ m, m < k + 1 → js[m]? ≠ some i) := fun m hm => by
          rcases Nat.lt_or_ge m k with h1 | h1
          · exact HM.out m h1
          · obtain rfl : m = k := by omega
            rw [HK.out]
            intro e
            injection e with e
            exact hij e.symm
        clear r1 r2 hij hne
        go_wp2
        go_round
        case rel => exact ⟨k + 1, by omega, by go_num, HM1⟩
        case measure => simp [intOf]; omega
    · obtain rfl : k = js.length := by omega
      go_wp2
      go_ret
      refine ⟨-1, rfl, ⟨fun h => absurd h (by decide), fun h => ?_⟩, fun h => absurd h (by decide), rfl⟩
      obtain ⟨m, hm, he⟩ := List.getElem_of_mem h
      exact absurd (by rw [List.getElem?_eq_getElem hm, he]) (HM.out m hm)

end Go.Proofs.Ytcpiojliakgdlaa
/- The program's LieTogether. -/
namespace Go.Proofs.Ytcpiojliakgdlaa
open Go.RowKit

end Go.Proofs.Ytcpiojliakgdlaa
/- The kinds of calls: KindOf on both sides. -/
namespace Go.Proofs.Ytcpiojliakgdlaa
open Go.RowKit

end Go.Proofs.Ytcpiojliakgdlaa
/- The model's side of loading: states and needs. -/
namespace Go.Proofs.Ytcpiojliakgdlaa
open Go.RowKit

theorem drop_names {l : List Seg} (hv : validB l = true) {P : List Nat} (hP : ∀ j ∈ P, j < l.length) (n : Nat) : (namesAt l P).extract n (namesAt l P).size = namesAt l (P.drop n) := by
  apply ByteArray.ext
  apply Array.ext'
  have h1 := namesAt_map hv P hP
  have h2 := namesAt_map hv (P.drop n) (fun j hj => hP j (List.mem_of_mem_drop hj))
  rw [h2, List.map_drop, ← h1]
  simp [ByteArray.data_extract]
  exact List.take_of_length_le (by simp)
theorem names_size {l : List Seg} (hv : validB l = true) {P : List Nat} (hP : ∀ j ∈ P, j < l.length) : (namesAt l P).size = P.length := by
  have h1 := congrArg List.length (namesAt_map hv P hP)
  simpa using h1
end Go.Proofs.Ytcpiojliakgdlaa

/- The model's NeedOf, DropsOf, CostOf, LoadCost. -/
namespace Go.Proofs.Ytcpiojliakgdlaa
open Go.RowKit

theorem named_take {l : List Seg} (s : ByteArray) {k : Nat} (h : k < s.size) : namedOk l (s.data.toList.take (k + 1)) = (namedOk l (s.data.toList.take k) && decide (0 ≤ bSeek l s[k])) ∧ namedJs l (s.data.toList.take (k + 1)) = namedJs l (s.data.toList.take k) ++ [(bSeek l s[k]).toNat] := by
  have e : s.data.toList.take (k + 1) = s.data.toList.take k ++ [s[k]] := by
    rw [List.take_succ_eq_append_getElem (by simpa using h)]
    rfl
  rw [e, namedOk_snoc, namedJs_snoc]
  exact ⟨rfl, rfl⟩
theorem one_byte (s : ByteArray) {k : Nat} (h : k < s.size) : s.extract k (k + 1) = ⟨#[s[k]]⟩ := by
  apply ByteArray.ext
  apply Array.ext'
  have : s.data.toList.drop k = s[k] :: s.data.toList.drop (k + 1) := List.drop_eq_getElem_cons (by simpa using h)
  simp [ByteArray.data_extract, this]
theorem bSeek_bd (l : List Seg) (b : UInt8) : bSeek l b = -1 ∨ (0 ≤ bSeek l b ∧ bSeek l b < l.length) := seek_bd l _

set_option maxRecDepth 100000 in
set_option maxHeartbeats 1000000 in
theorem specCost_any (A : Option Addr) (l : List Seg) (c : Nat) (s : ByteArray) (w : World) (hw : Segs w w.heap.size A l) (hl : l.length ≤ 1048576) (hn : Short l) (hs : s.size ≤ 1048576) :
    Calls Try.prog 28 #[.slice A l.length c, .string s] w fun e w' => e = .returned (.int .i64 (costB l s)) ∧ Below w.heap.size w w' := by
  have HW : Hid (Segs w w.heap.size A l) := hw
  clear hw
  cases hv : validB l with
  | false =>
    have HF : Hid (costB l s = -1) := if_neg (by rw [hv]; simp)
    have HI : Hid (∀ t, indexB l t = -1) := fun t => if_neg (by rw [hv]; decide)
    by_cases h0 : s.size = 0
    · go_enter Try.func28, Try.ntmps28
      go_wp2
      go_loopw [5, 10] (fun o i wr => o = .int .i64 0 ∧ i = .int .i64 0 ∧ Below w.heap.size w wr) (fun _ _ _ => 0)
      case atStart => exact ⟨rfl, rfl, Below.refl _ _⟩
      case round =>
        obtain ⟨rfl, rfl, hb⟩ := hrel
        go_wp2_with fail
        refine (specTreeValid_any _ _ _ _ ((HW.out.below hb).more hb.size) hl hn).mono ?_
        rw [hv]
        rintro e w1 ⟨rfl, hb1⟩
        have B1 := hb.trans (hb1.mono hb.size)
        clear hb hb1 hv
        go_wp2
        go_ret
        exact ⟨ret_int HF.out.symm, B1⟩
    · have hp : 0 < s.size := by omega
      clear h0
      go_enter Try.func28, Try.ntmps28
      go_wp2
      go_loopw [5, 10] (fun o i wr => o = .int .i64 0 ∧ i = .int .i64 0 ∧ Below w.heap.size w wr) (fun _ _ _ => 0)
      case atStart => exact ⟨rfl, rfl, Below.refl _ _⟩
      case round =>
        obtain ⟨rfl, rfl, hb⟩ := hrel
        go_wp2_with fail
        refine (l1Index_any _ _ _ _ _ ((HW.out.below hb).more hb.size) hl hn).mono ?_
        rw [HI.out]
        rintro e w1 ⟨rfl, hb1⟩
        have B1 := hb.trans (hb1.mono hb.size)
        clear hb hb1 hv
        go_wp2
        go_ret
        exact ⟨ret_int HF.out.symm, B1⟩
  | true =>
    have HV := Lib.hid hv
    have HI : Hid (∀ b, indexB l ⟨#[b]⟩ = bSeek l b) := fun b => if_pos hv
    clear hv
    go_enter Try.func28, Try.ntmps28
    go_wp2
    go_loopw [5, 10] (fun o i wr => ∃ k : Nat, k ≤ s.size ∧ i = .int .i64 k ∧ o = .int .i64 (szs l (namedJs l (s.data.toList.take k))) ∧ Hid (namedOk l (s.data.toList.take k) = true) ∧ Below w.heap.size w wr)
      (fun _ i _ => s.size - (intOf i).toNat)
    case atStart => exact ⟨0, Nat.zero_le _, rfl, rfl, rfl, Below.refl _ _⟩
    case round =>
      obtain ⟨k, hk, rfl, rfl, HK, hb⟩ := hrel
      have hk0 : (0 : Int) ≤ (k : Int) := Int.natCast_nonneg _
      by_cases hlt : k < s.size
      · have hlt' : (k : Int) < (s.size : Int) := by omega
        have h1 : (k : Int) + 1 ≤ (s.size : Int) := by omega
        obtain ⟨t1, t2⟩ := named_take (l := l) s hlt
        have HM : Hid (s[k] ∈ s.data.toList) := by
          show s.data.toList[k]'(by simpa using hlt) ∈ _
          exact List.getElem_mem _
        have HX := Lib.hid (one_byte s hlt)
        have HT1 := Lib.hid t1
        have HT2 := Lib.hid t2
        have hbd := bSeek_bd l s[k]
        clear t1 t2
        generalize s[k] = b at *
        go_wp2_with fail
        refine (l1Index_any _ _ _ _ _ ((HW.out.below hb).more hb.size) hl hn).mono ?_
        rw [HX.out, HI.out]
        rcases hbd with hbd | ⟨hb0, hb1⟩
        · have HF : Hid (costB l s = -1) := if_neg (fun h => by rw [namedOk_bad HM.out (by omega)] at h; cases h.2)
          rw [hbd]
          rintro e w1 ⟨rfl, hb1⟩
          have B1 := hb.trans (hb1.mono hb.size)
          clear hb hb1 hbd
          go_wp2
          go_ret
          exact ⟨ret_int HF.out.symm, B1⟩
        · obtain ⟨j, hj⟩ := Int.eq_ofNat_of_zero_le hb0
          have hjl : j < l.length := by omega
          have HK1 : Hid (namedOk l (s.data.toList.take (k + 1)) = true) := by
            show _ = _
            rw [HT1.out, HK.out, decide_eq_true hb0]
            rfl
          have HS : Hid (szs l (namedJs l (s.data.toList.take (k + 1))) = szs l (namedJs l (s.data.toList.take k)) + sizeAt l j) := by
            show _ = _
            rw [HT2.out, szs_snoc, hj, Int.toNat_natCast]
          have hsb := szs_bd HV.out _ (namedJs_lt HK.out)
          have hln : (namedJs l (s.data.toList.take k)).length ≤ k := by
            unfold namedJs
            rw [List.length_map, List.length_take]
            omega
          have hs0 : 0 ≤ szs l (namedJs l (s.data.toList.take k)) := by omega
          have hs1 : szs l (namedJs l (s.data.toList.take k)) ≤ 103809024 := by omega
          have hz := sizeAt_bd HV.out hjl
          obtain ⟨b', o', rfl, hB, hc⟩ := HW.out (by omega)
          obtain ⟨c0, c1, c2⟩ := hc j l[j] (List.getElem?_eq_getElem hjl)
          clear hc c0 c2 hsb hln
          rw [← hb.cell hB] at c1
          rw [← sizeAt_of hjl] at c1
          rw [hj]
          generalize szs l (namedJs l (s.data.toList.take k)) = S0 at *
          generalize sizeAt l j = z at *
          rintro e w1 ⟨rfl, hb1'⟩
          have B1 := hb.trans (hb1'.mono hb.size)
          have c1' : w1.cell? ⟨b', o' + j * 3 + 1, none⟩ = some (.int .i64 z) := (hb1'.cell (p := ⟨b', o' + j * 3 + 1, none⟩) (Nat.lt_of_lt_of_le hB hb.size)).trans c1
          have hj0 : (0 : Int) ≤ (j : Int) := Int.natCast_nonneg _
          have hj1 : (j : Int) < (l.length : Int) := by omega
          clear hb hb1' c1 hj HX hb0 hb1
          go_wp2
          go_roundw
          case rel => exact ⟨k + 1, by omega, by go_num, by rw [HS.out], HK1, B1⟩
          case measure => simp [intOf]; omega
      · obtain rfl : k = s.size := by omega
        have HF : Hid (costB l s = szs l (namedJs l (s.data.toList.take s.size))) := by
          have e : s.data.toList.take s.size = s.data.toList := List.take_of_length_le (by simp)
          have hk := HK.out
          show _ = _
          rw [e] at hk ⊢
          exact if_pos ⟨HV.out, hk⟩
        have HT : Hid (validB l = true) := HV.out
        go_wp2_with fail
        refine (specTreeValid_any _ _ _ _ ((HW.out.below hb).more hb.size) hl hn).mono ?_
        rw [HT.out]
        rintro e w1 ⟨rfl, hb1⟩
        have B1 := hb.trans (hb1.mono hb.size)
        clear hb hb1
        go_wp2
        go_ret
        exact ⟨ret_int HF.out.symm, B1⟩

end Go.Proofs.Ytcpiojliakgdlaa
/- Sets of segments as bits, and chains that lie together: plain. -/
namespace Go.Proofs.Ytcpiojliakgdlaa
open Go.RowKit

/-- A set of eight as bits. -/
def setF (f : Nat → Bool) : Nat := (f 0).toNat + 2 * (f 1).toNat + 4 * (f 2).toNat + 8 * (f 3).toNat + 16 * (f 4).toNat + 32 * (f 5).toNat + 64 * (f 6).toNat + 128 * (f 7).toNat
theorem setF_lt (f : Nat → Bool) : setF f < 256 := by
  unfold setF
  have h : ∀ b : Bool, b.toNat ≤ 1 := fun b => by cases b <;> decide
  have := h (f 0); have := h (f 1); have := h (f 2); have := h (f 3); have := h (f 4); have := h (f 5); have := h (f 6); have := h (f 7)
  omega
theorem set_brute : ∀ b0 b1 b2 b3 b4 b5 b6 b7 : Bool,
    (b0.toNat + 2 * b1.toNat + 4 * b2.toNat + 8 * b3.toNat + 16 * b4.toNat + 32 * b5.toNat + 64 * b6.toNat + 128 * b7.toNat).testBit 0 = b0 ∧
    (b0.toNat + 2 * b1.toNat + 4 * b2.toNat + 8 * b3.toNat + 16 * b4.toNat + 32 * b5.toNat + 64 * b6.toNat + 128 * b7.toNat).testBit 1 = b1 ∧
    (b0.toNat + 2 * b1.toNat + 4 * b2.toNat + 8 * b3.toNat + 16 * b4.toNat + 32 * b5.toNat + 64 * b6.toNat + 128 * b7.toNat).testBit 2 = b2 ∧
    (b0.toNat + 2 * b1.toNat + 4 * b2.toNat + 8 * b3.toNat + 16 * b4.toNat + 32 * b5.toNat + 64 * b6.toNat + 128 * b7.toNat).testBit 3 = b3 ∧
    (b0.toNat + 2 * b1.toNat + 4 * b2.toNat + 8 * b3.toNat + 16 * b4.toNat + 32 * b5.toNat + 64 * b6.toNat + 128 * b7.toNat).testBit 4 = b4 ∧
    (b0.toNat + 2 * b1.toNat + 4 * b2.toNat + 8 * b3.toNat + 16 * b4.toNat + 32 * b5.toNat + 64 * b6.toNat + 128 * b7.toNat).testBit 5 = b5 ∧
    (b0.toNat + 2 * b1.toNat + 4 * b2.toNat + 8 * b3.toNat + 16 * b4.toNat + 32 * b5.toNat + 64 * b6.toNat + 128 * b7.toNat).testBit 6 = b6 ∧
    (b0.toNat + 2 * b1.toNat + 4 * b2.toNat + 8 * b3.toNat + 16 * b4.toNat + 32 * b5.toNat + 64 * b6.toNat + 128 * b7.toNat).testBit 7 = b7 := by
  decide +kernel
theorem setF_bit (f : Nat → Bool) (i : Nat) : (setF f).testBit i = (decide (i < 8) && f i) := by
  by_cases hi : i < 8
  · rw [decide_eq_true hi, Bool.true_and]
    obtain ⟨h0, h1, h2, h3, h4, h5, h6, h7⟩ := set_brute (f 0) (f 1) (f 2) (f 3) (f 4) (f 5) (f 6) (f 7)
    unfold setF
    have : i = 0 ∨ i = 1 ∨ i = 2 ∨ i = 3 ∨ i = 4 ∨ i = 5 ∨ i = 6 ∨ i = 7 := by omega
    rcases this with rfl | rfl | rfl | rfl | rfl | rfl | rfl | rfl <;> assumption
  · rw [decide_eq_false hi, Bool.false_and]
    exact Nat.testBit_lt_two_pow (Nat.lt_of_lt_of_le (setF_lt f) (Nat.pow_le_pow_right (n := 2) (by decide) (by omega : 8 ≤ i)))
theorem setF_congr {f g : Nat → Bool} (h : ∀ i, i < 8 → f i = g i) : setF f = setF g := by
  unfold setF
  rw [h 0 (by decide), h 1 (by decide), h 2 (by decide), h 3 (by decide), h 4 (by decide), h 5 (by decide), h 6 (by decide), h 7 (by decide)]
theorem setF_with (f : Nat → Bool) {i : Nat} (hi : i < 8) : setF f ||| 2 ^ i = setF (fun j => f j || decide (j = i)) := by
  apply Nat.eq_of_testBit_eq
  intro j
  rw [Nat.testBit_or, setF_bit, setF_bit, Nat.testBit_two_pow]
  by_cases hj : j < 8
  · rw [decide_eq_true hj, Bool.true_and, Bool.true_and]
    congr 1
    exact decide_eq_decide.2 ⟨fun h => h.symm, fun h => h.symm⟩
  · rw [decide_eq_false hj, Bool.false_and, Bool.false_and, Bool.false_or]
    exact decide_eq_false (by omega)
theorem setF_and (f : Nat → Bool) {i : Nat} (hi : i < 8) : setF f &&& 2 ^ i = if f i = true then 2 ^ i else 0 := by
  apply Nat.eq_of_testBit_eq
  intro j
  rw [Nat.testBit_and, setF_bit, Nat.testBit_two_pow]
  by_cases hj : i = j
  · subst hj
    rw [decide_eq_true hi, decide_eq_true rfl, Bool.true_and, Bool.and_true]
    cases f i with
    | false => simp
    | true => rw [if_pos rfl, Nat.testBit_two_pow, decide_eq_true rfl]
  · rw [decide_eq_false hj, Bool.and_false]
    cases f i with
    | false => simp
    | true => rw [if_pos rfl, Nat.testBit_two_pow, decide_eq_false hj]
theorem setF_has (f : Nat → Bool) {i : Nat} (hi : i < 8) : (setF f &&& 2 ^ i != 0) = f i := by
  rw [setF_and f hi]
  have hp : 0 < 2 ^ i := Nat.pow_pos (by decide)
  cases f i with
  | false => simp
  | true =>
    rw [if_pos rfl, bne_iff_ne]
    omega

end Go.Proofs.Ytcpiojliakgdlaa
/- A state as an array of eight truths: what is in one and not in another. -/
namespace Go.Proofs.Ytcpiojliakgdlaa
open Go.RowKit

def bitCells (f : Nat → Bool) : Array Value := #[.bool (f 0), .bool (f 1), .bool (f 2), .bool (f 3), .bool (f 4), .bool (f 5), .bool (f 6), .bool (f 7)]
theorem bits_set (f : Nat → Bool) {k : Nat} (h : k < 8) (b : Bool) : (bitCells f).setIfInBounds k (.bool b) = bitCells (fun j => if j = k then b else f j) := by
  match k, h with
  | 0, _ => rfl
  | 1, _ => rfl
  | 2, _ => rfl
  | 3, _ => rfl
  | 4, _ => rfl
  | 5, _ => rfl
  | 6, _ => rfl
  | 7, _ => rfl
theorem bits_congr {f g : Nat → Bool} (h : ∀ j, j < 8 → f j = g j) : bitCells f = bitCells g := by
  unfold bitCells
  rw [h 0 (by decide), h 1 (by decide), h 2 (by decide), h 3 (by decide), h 4 (by decide), h 5 (by decide), h 6 (by decide), h 7 (by decide)]
/-- The world behind a store of a whole state. -/
def putBits (w : World) (b : Nat) (f : Nat → Bool) : World :=
  (((((((w.setCell ⟨b, 0, none⟩ (.bool (f 0))).setCell ⟨b, 1, none⟩ (.bool (f 1))).setCell ⟨b, 2, none⟩ (.bool (f 2))).setCell ⟨b, 3, none⟩ (.bool (f 3))).setCell ⟨b, 4, none⟩ (.bool (f 4))).setCell ⟨b, 5, none⟩ (.bool (f 5))).setCell ⟨b, 6, none⟩ (.bool (f 6))).setCell ⟨b, 7, none⟩ (.bool (f 7))
def upTo (f g : Nat → Bool) (k j : Nat) : Bool := if j < k then f j else g j
theorem upTo_step {t : TypeId} {w : World} {b k : Nat} {f g : Nat → Bool} (h : Row w b t (bitCells (upTo f g k))) (hk : k < 8) : Row (w.setCell ⟨b, k, none⟩ (.bool (f k))) b t (bitCells (upTo f g (k + 1))) := by
  have h1 := h.put k (.bool (f k))
  rw [bits_set _ hk] at h1
  rw [bits_congr (f := upTo f g (k + 1)) (g := fun j => if j = k then f k else upTo f g k j)]
  · exact h1
  · intro j _
    unfold upTo
    by_cases e : j = k
    · subst e
      rw [if_pos (by omega), if_pos rfl]
    · rw [if_neg e]
      by_cases e2 : j < k
      · rw [if_pos e2, if_pos (by omega)]
      · rw [if_neg e2, if_neg (by omega)]
theorem putBits_row {t : TypeId} {w : World} {b : Nat} {f g : Nat → Bool} (h : Row w b t (bitCells g)) : Row (putBits w b f) b t (bitCells f) := by
  have h0 : Row w b t (bitCells (upTo f g 0)) := h
  have h8 := upTo_step (upTo_step (upTo_step (upTo_step (upTo_step (upTo_step (upTo_step (upTo_step h0 (by decide)) (by decide)) (by decide)) (by decide)) (by decide)) (by decide)) (by decide)) (by decide)
  rw [bits_congr (f := f) (g := upTo f g 8) (fun j hj => (if_pos hj).symm)]
  exact h8
theorem putBits_block (w : World) (b : Nat) (f : Nat → Bool) {k : Nat} (h : k ≠ b) : (putBits w b f).heap[k]? = w.heap[k]? := by
  unfold putBits
  rw [Below.heap_setCell _ ⟨b, 7, none⟩ _ k h, Below.heap_setCell _ ⟨b, 6, none⟩ _ k h, Below.heap_setCell _ ⟨b, 5, none⟩ _ k h, Below.heap_setCell _ ⟨b, 4, none⟩ _ k h, Below.heap_setCell _ ⟨b, 3, none⟩ _ k h, Below.heap_setCell _ ⟨b, 2, none⟩ _ k h, Below.heap_setCell _ ⟨b, 1, none⟩ _ k h, Below.heap_setCell _ ⟨b, 0, none⟩ _ k h]
theorem putBits_below {w0 w : World} {B b : Nat} {f : Nat → Bool} (h : Below B w0 w) (hb : B ≤ b) : Below B w0 (putBits w b f) :=
  (((((((h.setCell (p := ⟨b, 0, none⟩) hb _).setCell (p := ⟨b, 1, none⟩) hb _).setCell (p := ⟨b, 2, none⟩) hb _).setCell (p := ⟨b, 3, none⟩) hb _).setCell (p := ⟨b, 4, none⟩) hb _).setCell (p := ⟨b, 5, none⟩) hb _).setCell (p := ⟨b, 6, none⟩) hb _).setCell (p := ⟨b, 7, none⟩) hb _

end Go.Proofs.Ytcpiojliakgdlaa
/- Where nodes lie, yielded one by one. -/
namespace Go.Proofs.Ytcpiojliakgdlaa
open Go.RowKit Go.Shelf
attribute [local go_sem] Oper.semAt_some

/-- All blocks below 'n₀' but 'bb', rows of bytes aside, lie as they lay. -/
def Kept (n₀ bb : Nat) (W W' : World) : Prop := ∀ (k : Nat) (o : Obj), k < n₀ → k ≠ bb → W.heap[k]? = some o → (∀ c fz, o ≠ .cells c 5 fz) → W'.heap[k]? = some o
theorem Kept.refl (n₀ bb : Nat) (W : World) : Kept n₀ bb W W := fun _ _ _ _ h _ => h
theorem Kept.trans {n₀ bb : Nat} {A B C : World} (h : Kept n₀ bb A B) (k : Kept n₀ bb B C) : Kept n₀ bb A C := fun i o h1 h2 h3 h4 => k i o h1 h2 (h i o h1 h2 h3 h4) h4
theorem Kept.row {n₀ bb : Nat} {A B : World} (h : Kept n₀ bb A B) {b : Nat} {t : TypeId} {cs : Array Value} (hr : Row A b t cs) (h1 : b < n₀) (h2 : b ≠ bb) (h3 : t ≠ 5) : Row B b t cs :=
  h b _ h1 h2 hr (fun c fz he => by injection he with _ ht; exact h3 ht)
theorem Kept.put {n₀ bb : Nat} (W : World) {l : Nat} (o : Obj) (hl : n₀ ≤ l) : Kept n₀ bb W (W.putObj l o) := fun _ _ _ _ h3 _ => (World.putObj_heap_other (by omega)).trans h3
/-- The nodes that the iterator reads. -/
structure Lain (w : World) (n₀ bb g : Nat) (l : List Seg) (nb : Nat → Nat) : Prop where
  row : ∃ cs, Row w g 72 cs ∧ ∀ i, i < l.length → cs[i]? = some (.pointer (some ⟨nb i, 0, none⟩))
  rowAt : g < n₀ ∧ g ≠ bb
  node : ∀ (i : Nat) (hi : i < l.length), ∃ cv, Row w (nb i) 108 #[.string (l[i]'hi).name, .int .i64 (l[i]'hi).size, .pointer (parPtr l nb i), cv]
  nodeAt : ∀ i, i < l.length → nb i < n₀ ∧ nb i ≠ bb
theorem Lain.kept {w w' : World} {n₀ bb g : Nat} {l : List Seg} {nb : Nat → Nat} (h : Lain w n₀ bb g l nb) (hk : Kept n₀ bb w w') : Lain w' n₀ bb g l nb := by
  obtain ⟨cs, hr, hc⟩ := h.row
  refine ⟨⟨cs, hk.row hr h.rowAt.1 h.rowAt.2 (by decide), hc⟩, h.rowAt, fun i hi => ?_, h.nodeAt⟩
  obtain ⟨cv, hn⟩ := h.node i hi
  exact ⟨cv, hk.row hn (h.nodeAt i hi).1 (h.nodeAt i hi).2 (by decide)⟩
theorem Lain.placed {w : World} {n₀ bb g : Nat} {l : List Seg} {nb : Nat → Nat} (h : Lain w n₀ bb g l nb) : Placed w l nb := fun j hj => by
  obtain ⟨cv, hn⟩ := h.node j hj
  refine ⟨hn.lt, ?_, hn.cell 2⟩
  rw [sizeAt_of hj]
  exact hn.cell 1

/-- What a round says, by the truth it hands back. -/
def YP {α : Type} (J Jx : List α → World → Prop) (Kp : World → World → Prop) (ys : List α) (W1 : World) (b : Bool) (W' : World) : Prop := if b then J ys W' ∧ Kp W1 W' else Jx ys W'

theorem YP.no {α : Type} {J Jx : List α → World → Prop} {Kp : World → World → Prop} {ys : List α} {W1 W' : World} (h : YP J Jx Kp ys W1 false W') : Jx ys W' := by
  unfold YP at h
  rwa [if_neg (by decide)] at h

theorem builder_cells {T e : TypeId} {B b : Nat} {bs : List Value} {w : World} (h : Lib.IsBuilderF T e B b bs w) : ∃ c, w.heap[b]? = some (.cells c T (0, 0)) := by
  rcases h with ⟨_, v, h2, _⟩ | ⟨_, v, h2, _⟩
  · exact ⟨_, h2⟩
  · exact ⟨_, h2⟩


end Go.Proofs.Ytcpiojliakgdlaa
/- The names of what is loaded in a state. -/
namespace Go.Proofs.Ytcpiojliakgdlaa
open Go.RowKit Go.Shelf

theorem asc_ext : ∀ {a b : List Nat}, a.Pairwise (· < ·) → b.Pairwise (· < ·) → (∀ x, x ∈ a ↔ x ∈ b) → a = b
  | [], [], _, _, _ => rfl
  | [], y :: b, _, _, h => by
    have := (h y).2 List.mem_cons_self
    cases this
  | x :: a, [], _, _, h => by
    have := (h x).1 List.mem_cons_self
    cases this
  | x :: a, y :: b, ha, hb, h => by
    have ha' := List.pairwise_cons.1 ha
    have hb' := List.pairwise_cons.1 hb
    have hxy : x = y := by
      have h1 := (h x).1 List.mem_cons_self
      have h2 := (h y).2 List.mem_cons_self
      rcases List.mem_cons.1 h1 with e | e
      · exact e
      · rcases List.mem_cons.1 h2 with e2 | e2
        · exact e2.symm
        · have := hb'.1 x e
          have := ha'.1 y e2
          omega
    subst hxy
    rw [asc_ext ha'.2 hb'.2]
    intro z
    constructor
    · intro hz
      have := ha'.1 z hz
      rcases List.mem_cons.1 ((h z).1 (List.mem_cons_of_mem _ hz)) with e | e
      · omega
      · exact e
    · intro hz
      have := hb'.1 z hz
      rcases List.mem_cons.1 ((h z).2 (List.mem_cons_of_mem _ hz)) with e | e
      · omega
      · exact e
/-- The segments of which a truth is told, among the first 'k'. -/
def selIx (f : Nat → Bool) (k : Nat) : List Nat := (List.range k).filter f
theorem selIx_succ (f : Nat → Bool) (k : Nat) : selIx f (k + 1) = selIx f k ++ if f k = true then [k] else [] := by
  unfold selIx
  rw [List.range_succ, List.filter_append]
  by_cases h : f k = true <;> simp [h]
theorem selIx_len (f : Nat → Bool) (k : Nat) : (selIx f k).length ≤ k := by
  have := List.length_filter_le f (List.range k)
  simpa [selIx] using this
theorem selIx_lt {f : Nat → Bool} {k j : Nat} (h : j ∈ selIx f k) : j < k := List.mem_range.1 (List.mem_filter.1 h).1
theorem sel_mem {T : List Nat} {n : Nat} (ha : T.Pairwise (· < ·)) (hl : ∀ j ∈ T, j < n) : selIx (fun j => decide (j ∈ T)) n = T := by
  apply asc_ext
  · exact List.Pairwise.filter _ List.pairwise_lt_range
  · exact ha
  · intro x
    unfold selIx
    rw [List.mem_filter, List.mem_range]
    constructor
    · intro h; simpa using h.2
    · intro h; exact ⟨hl x h, by simpa using h⟩

end Go.Proofs.Ytcpiojliakgdlaa

/- The state in which the path of a node is loaded. -/
namespace Go.Proofs.Ytcpiojliakgdlaa
open Go.RowKit Go.Shelf
attribute [local go_sem] Oper.semAt_some

theorem nodes_own {w : World} {B g : Nat} {l : List Seg} {nb : Nat → Nat} {cv : Nat → Value} (h : Nodes w B g l.length l.length l nb cv) (hl : l.length ≤ 1000) :
    w.ownsRow B 72 1 (.slice (some ⟨g, 0, none⟩) (List.range l.length).length l.length) (List.range l.length).length (ptrsOf nb (List.range l.length)) := by
  obtain ⟨cs, hrow, hcs, hci⟩ := h.row
  refine ⟨by simp [ptrsOf], .inr ⟨g, l.length, cs, rfl, h.low.1, hrow, by simp, by unfold maxLen; omega, by omega, ?_⟩⟩
  apply List.ext_getElem?
  intro k
  rw [List.getElem?_take]
  by_cases hk : k < l.length
  · rw [if_pos (by simpa using hk)]
    have h1 := hci k hk
    rw [← Array.getElem?_toList] at h1
    rw [h1]
    simp [ptrsOf, hk]
  · rw [if_neg (by simpa using hk)]
    simp [ptrsOf, hk]

/-- Where a node stands. -/
theorem indexAll_any (B g i : Nat) (l : List Seg) (nb : Nat → Nat) (cv : Nat → Value) (w : World) (h : Nodes w B g l.length l.length l nb cv) (hl : l.length ≤ 1000) (hi : i < l.length) :
    Calls Try.prog 150 #[.slice (some ⟨g, 0, none⟩) l.length l.length, .pointer (some ⟨nb i, 0, none⟩)] w fun e w' => e = .returned (.int .i64 i) ∧ w = w' := by
  have h1 := index_any g l.length B (List.range l.length) nb i w (nodes_own h hl) (by simpa using hl) (fun j hj => by
    have hjl : j < l.length := hj.elim (fun e => e ▸ hi) (fun h => List.mem_range.1 h)
    exact ⟨_, h.node j _ hjl (List.getElem?_eq_getElem hjl)⟩) (fun j hj he => Classical.byContradiction fun hne => h.apart i j hi (List.mem_range.1 hj) hne he)
  rw [List.length_range] at h1
  refine h1.mono ?_
  rintro e w' ⟨r, rfl, h2, h3, rfl⟩
  have h4 : 0 ≤ r := h2.2 (List.mem_range.2 hi)
  have h5 := h3 h4
  obtain ⟨q, rfl⟩ := Int.eq_ofNat_of_zero_le h4
  rw [Int.toNat_natCast] at h5
  have hq : q < l.length := by
    have := (List.getElem?_eq_some_iff.1 h5).1
    simpa using this
  rw [List.getElem?_range hq] at h5
  injection h5 with h5
  exact ⟨by rw [h5], rfl⟩

/-- What the loop keeps. -/
structure LitG (w : World) (g : Nat) (l : List Seg) (T : List Nat) (W : World) : Prop where
  state : Row W (w.heap.size + 1 + 1) 64 (bitCells fun j => decide (j ∈ T))
  res : Row W (w.heap.size + 1) 64 (bitCells fun _ => false)
  nodes : Row W w.heap.size 61 #[.slice (some ⟨g, 0, none⟩) l.length l.length]
  below : Below w.heap.size w W
theorem LitG.grown {w W W' : World} {g : Nat} {l : List Seg} {T : List Nat} {B : Nat} {row : Option Nat} (h : LitG w g l T W) (hg : W.grownBy W' row) (hB : w.heap.size ≤ B) (hr : ∀ r, row = some r → B ≤ r ∧ ∃ o : Obj, W.heap[r]? = some o ∧ o.isCells = false) : LitG w g l T W' :=
  ⟨row_grown h.state hg hr, row_grown h.res hg hr, row_grown h.nodes hg hr, h.below.grown hg h.below.size (fun k e => by have := (hr k e).1; omega)⟩
theorem LitG.step {w W : World} {g : Nat} {l : List Seg} {T : List Nat} (h : LitG w g l T W) {v : Nat} (hv : v < 8) : LitG w g l (T ++ [v]) (W.setCell ⟨w.heap.size + 1 + 1, v, none⟩ (.bool true)) := by
  refine ⟨?_, Row.far h.res (by show w.heap.size + 1 ≠ w.heap.size + 1 + 1; omega) _, Row.far h.nodes (by show w.heap.size ≠ w.heap.size + 1 + 1; omega) _, h.below.setCell (by show w.heap.size ≤ w.heap.size + 1 + 1; omega) _⟩
  have h1 := h.state.put v (.bool true)
  rw [bits_set _ hv] at h1
  rw [bits_congr (g := fun j => if j = v then true else decide (j ∈ T))]
  · exact h1
  · intro j _
    by_cases e : j = v
    · rw [if_pos e, e]
      simp
    · rw [if_neg e]
      simp [e]

end Go.Proofs.Ytcpiojliakgdlaa
/- Sets of segments: the program's small functions on bits. -/
namespace Go.Proofs.Ytcpiojliakgdlaa
open Go.RowKit Go.Shelf

theorem ret_u64 {a b : Int} (h : a = b) : Ending.returned (.int .u64 a) = .returned (.int .u64 b) := by rw [h]
theorem bits_or_nat {a b : Nat} (ha : a < 256) (hb : b < 256) : bits .or .u64 (a : Int) (b : Int) = ((a ||| b : Nat) : Int) := by
  have h : a ||| b < 2 ^ 8 := Nat.or_lt_two_pow (by omega) (by omega)
  have e : ((BitVec.ofInt IntKind.u64.bits (a : Int)) ||| (BitVec.ofInt IntKind.u64.bits (b : Int))).toNat = a ||| b := by
    show ((BitVec.ofInt 64 (a : Int)) ||| (BitVec.ofInt 64 (b : Int))).toNat = a ||| b
    rw [BitVec.toNat_or, BitVec.ofInt_natCast, BitVec.ofInt_natCast, BitVec.toNat_ofNat, BitVec.toNat_ofNat, Nat.mod_eq_of_lt (by omega), Nat.mod_eq_of_lt (by omega)]
  show IntKind.u64.wrap (((BitVec.ofInt IntKind.u64.bits (a : Int)) ||| (BitVec.ofInt IntKind.u64.bits (b : Int))).toNat : Int) = _
  rw [e]
  exact IntWalk.u64_in _ (by omega)
theorem bits_and_nat {a b : Nat} (ha : a < 256) (hb : b < 256) : bits .and .u64 (a : Int) (b : Int) = ((a &&& b : Nat) : Int) := by
  have h : a &&& b ≤ a := Nat.and_le_left
  have e : ((BitVec.ofInt IntKind.u64.bits (a : Int)) &&& (BitVec.ofInt IntKind.u64.bits (b : Int))).toNat = a &&& b := by
    show ((BitVec.ofInt 64 (a : Int)) &&& (BitVec.ofInt 64 (b : Int))).toNat = a &&& b
    rw [BitVec.toNat_and, BitVec.ofInt_natCast, BitVec.ofInt_natCast, BitVec.toNat_ofNat, BitVec.toNat_ofNat, Nat.mod_eq_of_lt (by omega), Nat.mod_eq_of_lt (by omega)]
  show IntKind.u64.wrap (((BitVec.ofInt IntKind.u64.bits (a : Int)) &&& (BitVec.ofInt IntKind.u64.bits (b : Int))).toNat : Int) = _
  rw [e]
  exact IntWalk.u64_in _ (by omega)
theorem one_shl {i : Nat} (hi : i < 8) : IntKind.u64.wrap ((2 : Int) ^ i) = ((2 ^ i : Nat) : Int) := by
  have : i = 0 ∨ i = 1 ∨ i = 2 ∨ i = 3 ∨ i = 4 ∨ i = 5 ∨ i = 6 ∨ i = 7 := by omega
  rcases this with rfl | rfl | rfl | rfl | rfl | rfl | rfl | rfl <;> decide +kernel
theorem pow_lt {i : Nat} (hi : i < 8) : 2 ^ i < 256 := by
  have : i = 0 ∨ i = 1 ∨ i = 2 ∨ i = 3 ∨ i = 4 ∨ i = 5 ∨ i = 6 ∨ i = 7 := by omega
  rcases this with rfl | rfl | rfl | rfl | rfl | rfl | rfl | rfl <;> decide

set_option maxRecDepth 100000 in
set_option maxHeartbeats 400000 in
theorem has_any (f : Nat → Bool) (i : Nat) (w : World) (hi : i < 8) :
    Calls Try.prog 152 #[.int .u64 (setF f : Int), .int .i64 (i : Int)] w fun e w' => e = .returned (.bool (f i)) ∧ w = w' := by
  have H1 := Lib.hid (one_shl hi)
  have H2 := Lib.hid (bits_and_nat (setF_lt f) (pow_lt hi))
  have H3 : Hid (f i = (((setF f &&& 2 ^ i : Nat) : Int) != 0)) := by
    show _ = _
    rw [← setF_has f hi, Bool.eq_iff_iff, bne_iff_ne, bne_iff_ne]
    omega
  go_enter Try.func152, Try.ntmps152
  go_wp2
  go_ret
  exact ⟨ret_bool (show (bits .and .u64 (setF f : Int) (IntKind.u64.wrap ((2 : Int) ^ i)) != 0) = f i by rw [H1.out, H2.out, H3.out]), rfl⟩

set_option maxRecDepth 100000 in
set_option maxHeartbeats 400000 in
theorem with_any (f : Nat → Bool) (i : Nat) (w : World) (hi : i < 8) :
    Calls Try.prog 131 #[.int .u64 (setF f : Int), .int .i64 (i : Int)] w fun e w' => e = .returned (.int .u64 (setF (fun j => f j || decide (j = i)) : Int)) ∧ w = w' := by
  have H1 := Lib.hid (one_shl hi)
  have H2 := Lib.hid (bits_or_nat (setF_lt f) (pow_lt hi))
  have H3 := Lib.hid (setF_with f hi)
  go_enter Try.func131, Try.ntmps131
  go_wp2
  go_ret
  exact ⟨ret_u64 (show bits .or .u64 (setF f : Int) (IntKind.u64.wrap ((2 : Int) ^ i)) = _ by rw [H1.out, H2.out, H3.out]), rfl⟩

end Go.Proofs.Ytcpiojliakgdlaa
/- The model's NeedAll and CheapestNeed. -/
namespace Go.Proofs.Ytcpiojliakgdlaa
open Go.RowKit

end Go.Proofs.Ytcpiojliakgdlaa

/- The model's StatesOf: all states, as texts of the call's own. -/
namespace Go.Proofs.Ytcpiojliakgdlaa
open Go.RowKit

end Go.Proofs.Ytcpiojliakgdlaa
/- All states, yielded one by one. -/
namespace Go.Proofs.Ytcpiojliakgdlaa
open Go.RowKit Go.Shelf
attribute [local go_sem] Oper.semAt_some

/-- Nodes lie where all blocks below 'w' but one are kept. -/
theorem Nodes.kept {w w' : World} {B g m k bb : Nat} {l : List Seg} {nb : Nat → Nat} {cv : Nat → Value} (h : Nodes w B g m k l nb cv) (hk : Kept w.heap.size bb w w') (hbb : ∀ q, B ≤ q → q < w.heap.size → q ≠ bb) (hkm : k ≤ m) : Nodes w' B g m k l nb cv := by
  obtain ⟨cs, hg, hcs, hci⟩ := h.row
  refine ⟨⟨cs, hk.row hg hg.lt (hbb _ h.low.1 hg.lt) (by decide), hcs, hci⟩, fun i t hi ht => ?_, fun i t hi hi2 ht => ?_, fun i hi => ?_, h.apart, h.apartC, h.notg, h.low⟩
  · have h1 := h.node i t hi ht
    exact hk.row h1 h1.lt (hbb _ (h.low.2 i (by omega)) h1.lt) (by decide)
  · have h1 := h.fresh i t hi hi2 ht
    exact hk.row h1 h1.lt (hbb _ (h.low.2 i hi2) h1.lt) (by decide)
  · refine own_keep (h.kids i hi) fun b hb' => ?_
    have hlt := (h.kids i hi).lt b hb'
    rcases (h.kids i hi).2 with ⟨he, _⟩ | ⟨g', cap, cur, he, _, hh, _⟩
    · rw [he] at hb'
      cases hb'
    · rw [he] at hb'
      have : g' = b := by simpa [Value.ownBlock] using hb'
      subst this
      rw [hh]
      exact hk g' _ hlt.2 (hbb _ hlt.1 hlt.2) hh (fun c fz e => by injection e with _ e2; exact absurd e2 (by decide))

theorem Kept.less {n₀ n₁ bb : Nat} {A B : World} (h : Kept n₀ bb A B) (hn : n₁ ≤ n₀) : Kept n₁ bb A B := fun k o h1 h2 h3 h4 => h k o (Nat.lt_of_lt_of_le h1 hn) h2 h3 h4
end Go.Proofs.Ytcpiojliakgdlaa
/- impl.findState over whatever iterator that yields states. -/
namespace Go.Proofs.Ytcpiojliakgdlaa
open Go.RowKit Go.Shelf
attribute [local go_sem] Oper.semAt_some

/-- What the loop keeps. -/
structure Finding (w : World) (v : Value) (s : ByteArray) (nm : List Nat → ByteArray) (pre : List (List Nat)) (W : World) : Prop where
  nodes : Row W w.heap.size 61 #[v]
  text : Row W (w.heap.size + 1) 9 #[.string s]
  res : Row W (w.heap.size + 1 + 1) 64 (bitCells fun _ => false)
  ok : Row W (w.heap.size + 1 + 1 + 1) 4 #[.bool false]
  below : Below w.heap.size w W
  none : ∀ T ∈ pre, sameB (nm T) s = false
theorem Finding.grown {w W W' : World} {v : Value} {s : ByteArray} {nm : List Nat → ByteArray} {pre : List (List Nat)} {B : Nat} {row : Option Nat} (h : Finding w v s nm pre W) (hg : W.grownBy W' row) (hB : w.heap.size ≤ B) (hr : ∀ r, row = some r → B ≤ r ∧ ∃ o : Obj, W.heap[r]? = some o ∧ o.isCells = false) : Finding w v s nm pre W' :=
  ⟨row_grown h.nodes hg hr, row_grown h.text hg hr, row_grown h.res hg hr, row_grown h.ok hg hr, h.below.grown hg h.below.size (fun k e => by have := (hr k e).1; omega), h.none⟩
theorem Finding.next {w W : World} {v : Value} {s : ByteArray} {nm : List Nat → ByteArray} {pre : List (List Nat)} {T : List Nat} (h : Finding w v s nm pre W) (hT : sameB (nm T) s = false) : Finding w v s nm (pre ++ [T]) W :=
  ⟨h.nodes, h.text, h.res, h.ok, h.below, fun U hU => by
    rcases List.mem_append.1 hU with hU | hU
    · exact h.none U hU
    · rw [List.mem_singleton.1 hU]; exact hT⟩
/-- How it stops: the state is found and told. -/
structure Found (w : World) (s : ByteArray) (nm : List Nat → ByteArray) (pre : List (List Nat)) (W : World) : Prop where
  ex : ∃ P T, pre = P ++ [T] ∧ (∀ U ∈ P, sameB (nm U) s = false) ∧ sameB (nm T) s = true ∧ Row W (w.heap.size + 1 + 1) 64 (bitCells fun j => decide (j ∈ T))
  ok : Row W (w.heap.size + 1 + 1 + 1) 4 #[.bool true]
  below : Below w.heap.size w W
theorem Found.grown {w W W' : World} {s : ByteArray} {nm : List Nat → ByteArray} {pre : List (List Nat)} {B : Nat} {row : Option Nat} (h : Found w s nm pre W) (hg : W.grownBy W' row) (hB : w.heap.size ≤ B) (hr : ∀ r, row = some r → B ≤ r ∧ ∃ o : Obj, W.heap[r]? = some o ∧ o.isCells = false) : Found w s nm pre W' := by
  obtain ⟨P, T, h1, h2, h3, h4⟩ := h.ex
  exact ⟨⟨P, T, h1, h2, h3, row_grown h4 hg hr⟩, row_grown h.ok hg hr, h.below.grown hg h.below.size (fun k e => by have := (hr k e).1; omega)⟩

end Go.Proofs.Ytcpiojliakgdlaa
