/- impl.nodesOf makes the nodes of a valid tree. -/
import Derived.Test.YtdbddockmdkmeaaDoorNd
import Derived.StillTailTactics
namespace Go.Proofs.YtdbddockmdkmeaaDoor
open Go.RowKit

theorem run_make_nodes (n : Nat) (hn : n ≤ 1048576) (W : World) :
    (Instr.makeSlice 52 (.int .i64 (n : Int)) (.int .i64 (n : Int))).run Tryd.prog W = .ok (.slice (some ⟨W.heap.size, 0, none⟩) n n) (W.alloc (.cells (madeCells #[Value.pointer none] n) 57)) := by
  obtain ⟨i0, hi, hz0, hz1, hz2⟩ := info_parts info_ptr
  have hr := run_make (P := Tryd.prog) W 52 57 i0 (.pointer none) Tryd.underlying52 hi hz0 .i64 .i64 n n (by omega) (by omega) (by rw [hz2]; omega) (by omega)
  simp only [Int.toNat_natCast, hz1, Nat.mul_one] at hr
  exact hr

theorem Nodes.drew {w : World} {B g m k : Nat} {l : List Seg} {nb : Nat → Nat} {cv : Nat → Value} (h : Nodes w B g m k l nb cv) : Nodes w.drew B g m k l nb cv :=
  ⟨h.row, h.node, h.fresh, h.kids, h.apart, h.apartC, h.notg, h.low⟩
theorem Nodes.child_below {w0 w w' : World} {g k p n : Nat} {l : List Seg} {nb : Nat → Nat} {cv : Nat → Value} {nm nm' : ByteArray} {sz sz' : Int} {pp' : Option Addr} {cc : Value} {xs : List Value} {e : Ending}
    (h : Nodes w w0.heap.size g (k + 1) k l nb cv) (hb : Below w0.heap.size w0 w) (hpk : p < k) (hk : k < k + 1) (ha : Adopted w w0.heap.size (nb p) (nb k) n nm nm' sz sz' pp' cc (cv p) xs e w') : Below w0.heap.size w0 w' := by
  obtain ⟨_, v', _, _, _, _, honly⟩ := ha
  refine honly.below hb hb.size fun b hbk => ?_
  rintro (he | he | he)
  · have := h.low.2 p (by omega); omega
  · have := h.low.2 k hk; omega
  · have := ((h.kids p hpk).lt b he.symm).1; omega

/-- What is behind nodesOf where the tree is valid. -/
def NodesPost (w : World) (l : List Seg) (e : Ending) (w' : World) : Prop :=
  ∃ g nb cv, e = .returned (.slice (some ⟨g, 0, none⟩) l.length l.length) ∧ Nodes w' w.heap.size g l.length l.length l nb cv ∧ Below w.heap.size w w'

set_option maxRecDepth 100000 in
set_option maxHeartbeats 1000000 in
theorem nodesOf_any (A : Option Addr) (l : List Seg) (c : Nat) (w : World) (hw : Segs w w.heap.size A l) (hl : l.length ≤ 1048576) (hlc : l.length ≤ c) (hcm : c ≤ 9223372036854775807) (hn : Short l) (hv : validB l = true) :
    Calls Tryd.prog 49 #[.slice A l.length c] w (NodesPost w l) := by
  have HW : Hid (Segs w w.heap.size A l) := hw
  clear hw
  obtain ⟨hall, hl8, hl1⟩ := valid_all hv
  have HD := Lib.hid hall.down
  clear hall
  have hmk := run_make_nodes l.length hl
  go_enter Tryd.func49, Tryd.ntmps49
  go_wp2_with fail
  refine (treeValid_any _ _ _ _ HW.out hl hlc hcm hn).mono ?_
  rw [hv]
  rintro e w1 ⟨rfl, hb1⟩
  clear hv
  go_wp2_with fail
  have hg0 : Row (w1.alloc (.cells (madeCells #[Value.pointer none] l.length) 57)) w1.heap.size 57 (madeCells #[Value.pointer none] l.length) := Row.new _ _ _
  have hbg : Below w.heap.size w (w1.alloc (.cells (madeCells #[Value.pointer none] l.length) 57)) := hb1.alloc hb1.size _
  clear hmk
  go_loopw [14] (fun i wr => ∃ (k : Nat) (nb : Nat → Nat) (cv : Nat → Value), k ≤ l.length ∧ i = .int .i64 k ∧ Nodes wr w.heap.size w1.heap.size k k l nb cv ∧ Below w.heap.size w wr)
    (fun i _ => l.length - (intOf i).toNat)
  case atStart =>
    refine ⟨0, fun _ => 0, fun _ => nilKids, Nat.zero_le _, rfl, ⟨⟨_, hg0, ?_, fun i hi => absurd hi (by omega)⟩, fun i _ hi => absurd hi (by omega), fun i _ _ hi => absurd hi (by omega), fun i hi => absurd hi (by omega), fun i _ hi => absurd hi (by omega), fun i _ hi => absurd hi (by omega), fun i hi => absurd hi (by omega), hb1.size, fun i hi => absurd hi (by omega)⟩, hbg⟩
    rw [size_madeCells]
  case round =>
    obtain ⟨k, nb, cv, hk, rfl, hnd, hb⟩ := hrel
    clear hbg hg0
    by_cases hlt : k < l.length
    · obtain ⟨b, o, rfl, hB, hc⟩ := HW.out (by omega)
      obtain ⟨c0, c1, c2⟩ := hc k l[k] (List.getElem?_eq_getElem hlt)
      clear hc
      rw [← hb.cell hB] at c0 c1 c2
      have HS : Hid (l[k]? = some l[k]) := List.getElem?_eq_getElem hlt
      have HP : Hid _ := parAt_of (List.getElem?_eq_getElem hlt)
      have HN := Lib.hid hnd
      obtain ⟨cs, hrow, hcs, -⟩ := hnd.row
      have hG := hrow.lt
      have d : wr.cell? ⟨w1.heap.size, k, none⟩ = some (cs[k]'(by omega)) := by rw [hrow.cell, Array.getElem?_eq_getElem]
      have f := hrow.free k
      clear hnd hrow
      generalize cs[k]'_ = old at *
      clear hcs cs
      generalize l[k] = x at *
      obtain ⟨nm, sz, pa⟩ := x
      dsimp only at c0 c1 c2 HP
      have hm := HN.out.made (HD.out.mono (by omega)) hlt HS.out hb.size (.cells #[.string nm, .int .i64 sz, .int .i64 pa] 66)
      rw [World.setCell_alloc_past _ _ _ _ (by rw [World.size_alloc]; omega), World.setCell_alloc_past _ _ _ _ hG] at hm
      have hbW : Below w.heap.size w (((wr.setCell ⟨w1.heap.size, k, none⟩ (.pointer (some ⟨wr.heap.size + 1, 0, none⟩))).alloc (.cells #[.string nm, .int .i64 sz, .int .i64 pa] 66)).alloc (.cells #[.string nm, .int .i64 sz, .pointer none, .slice none 0 0] 106)) := ((hb.setCell hb1.size _).alloc (by rw [size_set]; exact hb.size) _).alloc (by rw [World.size_alloc, size_set]; have := hb.size; omega) _
      have hmW : Nodes (((wr.setCell ⟨w1.heap.size, k, none⟩ (.pointer (some ⟨wr.heap.size + 1, 0, none⟩))).alloc (.cells #[.string nm, .int .i64 sz, .int .i64 pa] 66)).alloc (.cells #[.string nm, .int .i64 sz, .pointer none, .slice none 0 0] 106)) w.heap.size w1.heap.size (k + 1) k l (upd nb k (wr.heap.size + 1)) cv := hm
      have e2 : World.cell? (((wr.setCell ⟨w1.heap.size, k, none⟩ (.pointer (some ⟨wr.heap.size + 1, 0, none⟩))).alloc (.cells #[.string nm, .int .i64 sz, .int .i64 pa] 66)).alloc (.cells #[.string nm, .int .i64 sz, .pointer none, .slice none 0 0] 106)) ⟨wr.heap.size, 2, none⟩ = some (.int .i64 pa) := by
        have h1 : Row ((wr.setCell ⟨w1.heap.size, k, none⟩ (.pointer (some ⟨wr.heap.size + 1, 0, none⟩))).alloc (.cells #[.string nm, .int .i64 sz, .int .i64 pa] 66)) wr.heap.size 66 #[.string nm, .int .i64 sz, .int .i64 pa] := by
          have := Row.new (wr.setCell ⟨w1.heap.size, k, none⟩ (.pointer (some ⟨wr.heap.size + 1, 0, none⟩))) 66 #[.string nm, .int .i64 sz, .int .i64 pa]
          rw [size_set] at this
          exact this
        exact (h1.alloc _).cell 2
      clear hm
      have hdk := HD.out k hlt
      rw [HP.out] at hdk
      obtain ⟨hd1, hd2⟩ := hdk
      have HE2 := Lib.hid e2
      have HM := Lib.hid hmW
      clear e2 hmW
      by_cases hpa : pa < 0
      · have hne : (pa != -1) = false := by
          have : pa = -1 := by omega
          rw [this]; rfl
        go_wp2
        go_roundw
        case rel => exact ⟨k + 1, _, _, by omega, by go_num, HM.out.root (HD.out.mono (by omega)) hlt (by rw [HP.out]; exact hpa), hbW⟩
        case measure => simp [intOf]; omega
      · have hne : (pa != -1) = true := by rw [bne_iff_ne]; omega
        obtain ⟨p, hp⟩ := Int.eq_ofNat_of_zero_le (show 0 ≤ pa by omega)
        subst hp
        have hpk : p < k := by omega
        have hp0 : (0 : Int) ≤ (p : Int) := Int.natCast_nonneg _
        have hpl : (p : Int) < (l.length : Int) := by omega
        have hk0 : (0 : Int) ≤ (k : Int) := Int.natCast_nonneg _
        have hkl : (k : Int) < (l.length : Int) := by omega
        go_wp2_with fail
        generalize (((wr.setCell ⟨w1.heap.size, k, none⟩ (.pointer (some ⟨wr.heap.size + 1, 0, none⟩))).alloc (.cells #[.string nm, .int .i64 sz, .int .i64 (p : Int)] 66)).alloc (.cells #[.string nm, .int .i64 sz, .pointer none, .slice none 0 0] 106)) = W3 at *
        obtain ⟨cs, hrow, hcs, hci⟩ := HM.out.row
        have gp : W3.cell? ⟨w1.heap.size, p, none⟩ = some (.pointer (some ⟨upd nb k (wr.heap.size + 1) p, 0, none⟩)) := by rw [hrow.cell]; exact hci p (by omega)
        have gk : W3.cell? ⟨w1.heap.size, k, none⟩ = some (.pointer (some ⟨upd nb k (wr.heap.size + 1) k, 0, none⟩)) := by rw [hrow.cell]; exact hci k (by omega)
        clear hrow hcs hci cs
        have e2 := HE2.out
        clear hne c0 c1 c2 d f
        generalize upd nb k (wr.heap.size + 1) = nb' at *
        go_still_tail 9, (by kernel_rfl)
        change wpList _ _ _ _ _ W3.drew
        go_wp2_with fail
        have hsp : l[p]? = some (l[p]'(by omega)) := List.getElem?_eq_getElem (by omega)
        generalize l[p]'(by omega) = sp at *
        have HSP := Lib.hid hsp
        clear hsp
        refine (adopt_any w.heap.size (nb' p) (nb' k) (kidsOf l p k).length nm sp.name sz sp.size none (parPtr l nb' p) nilKids (cv p) (ptrsOf nb' (kidsOf l p k)) W3.drew (HM.out.fresh k _ (Nat.le_refl _) (by omega) HS.out) (HM.out.node p _ hpk HSP.out) (HM.out.apart p k (by omega) (by omega) (by omega)) (HM.out.kids p hpk) hbW.drew.size (by have := kidsOf_len l p k; omega)).mono ?_
        intro e w4 ha
        have ha1 := ha.1
        subst ha1
        have hbN := HM.out.drew.child_below hbW.drew hpk (by omega) ha
        obtain ⟨v', hN⟩ := HM.out.drew.child (HD.out.mono (by omega)) hlt HS.out HSP.out HP.out hpk ha
        clear ha
        have HN4 := Lib.hid hN
        clear hN
        go_wp2
        go_roundw
        case rel => exact ⟨k + 1, _, _, by omega, by go_num, HN4.out, hbN⟩
        case measure => simp [intOf]; omega
    · obtain rfl : k = l.length := by omega
      go_wp2
      go_ret
      exact ⟨_, nb, cv, rfl, hnd, hb⟩

end Go.Proofs.YtdbddockmdkmeaaDoor

/- impl.findNode and impl.SizeOf. -/
namespace Go.Proofs.YtdbddockmdkmeaaDoor
open Go.RowKit

theorem ret_ptr {a b : Option Addr} (h : a = b) : Ending.returned (.pointer a) = .returned (.pointer b) := by rw [h]
def foundPtr (l : List Seg) (nb : Nat → Nat) (s : ByteArray) : Option Addr := if seek l s < 0 then none else some ⟨nb (seek l s).toNat, 0, none⟩

set_option maxRecDepth 100000 in
set_option maxHeartbeats 400000 in
theorem findNode_nil (s : ByteArray) (w : World) :
    Calls Tryd.prog 87 #[.slice none 0 0, .string s] w fun e w' => e = .returned (.pointer none) ∧ w = w' := by
  go_enter Tryd.func87, Tryd.ntmps87
  go_wp2
  go_loop [9] (fun i => i = .int .i64 0) (fun _ => 0)
  case atStart => rfl
  case round =>
    subst hrel
    go_wp2
    go_ret
    exact ⟨rfl, rfl⟩

set_option maxRecDepth 100000 in
set_option maxHeartbeats 400000 in
theorem findNode_any (B g : Nat) (l : List Seg) (nb : Nat → Nat) (cv : Nat → Value) (s : ByteArray) (w : World) (h : Nodes w B g l.length l.length l nb cv) (hl : l.length ≤ 1048576) :
    Calls Tryd.prog 87 #[.slice (some ⟨g, 0, none⟩) l.length l.length, .string s] w fun e w' => e = .returned (.pointer (foundPtr l nb s)) ∧ w = w' := by
  have HN := Lib.hid h
  clear h
  go_enter Tryd.func87, Tryd.ntmps87
  go_wp2
  go_loop [9] (fun i => ∃ (k : Nat), k ≤ l.length ∧ i = .int .i64 k ∧ Hid (seek l s = seekFrom s (l.drop k) k))
    (fun i => l.length - (intOf i).toNat)
  case atStart => exact ⟨0, Nat.zero_le _, rfl, rfl⟩
  case round =>
    obtain ⟨k, hk, rfl, HS⟩ := hrel
    by_cases hlt : k < l.length
    · obtain ⟨cs, hrow, _, hci⟩ := HN.out.row
      have gk : w.cell? ⟨g, k, none⟩ = some (.pointer (some ⟨nb k, 0, none⟩)) := by rw [hrow.cell]; exact hci k hlt
      have nk : w.cell? ⟨nb k, 0, none⟩ = some (.string l[k].name) := (HN.out.node k _ hlt (List.getElem?_eq_getElem hlt)).cell 0
      clear hrow hci
      have HD : Hid _ := seekFrom_drop l s k hlt
      generalize l[k] = x at *
      cases ht : (x.name.toList == s.toList) with
      | true =>
        have HE : Hid (foundPtr l nb s = some ⟨nb k, 0, none⟩) := by
          have h1 : seek l s = (k : Int) := by rw [HS.out, HD.out]; exact if_pos ht
          show foundPtr l nb s = _
          unfold foundPtr
          rw [h1, if_neg (by omega), Int.toNat_natCast]
        go_wp2
        go_ret
        exact ⟨ret_ptr HE.out.symm, rfl⟩
      | false =>
        have HE : Hid (seek l s = seekFrom s (l.drop (k + 1)) (k + 1)) := by
          show _ = _
          rw [HS.out, HD.out]
          exact if_neg (by rw [show sameB x.name s = false from ht]; decide)
        go_wp2
        go_round
        case rel => exact ⟨k + 1, by omega, by go_num, HE⟩
        case measure => simp [intOf]; omega
    · have HE : Hid (foundPtr l nb s = none) := by
        have h1 : seek l s = -1 := by rw [HS.out, List.drop_of_length_le (by omega)]; rfl
        show foundPtr l nb s = _
        unfold foundPtr
        rw [if_pos (by omega)]
      go_wp2
      go_ret
      exact ⟨ret_ptr HE.out.symm, rfl⟩

set_option maxRecDepth 100000 in
set_option maxHeartbeats 400000 in
theorem nodesOf_bad (A : Option Addr) (l : List Seg) (c : Nat) (w : World) (hw : Segs w w.heap.size A l) (hl : l.length ≤ 1048576) (hlc : l.length ≤ c) (hcm : c ≤ 9223372036854775807) (hn : Short l) (hv : validB l = false) :
    Calls Tryd.prog 49 #[.slice A l.length c] w fun e w' => e = .returned (.slice none 0 0) ∧ Below w.heap.size w w' := by
  have HW : Hid (Segs w w.heap.size A l) := hw
  clear hw
  go_enter Tryd.func49, Tryd.ntmps49
  go_wp2_with fail
  refine (treeValid_any _ _ _ _ HW.out hl hlc hcm hn).mono ?_
  rw [hv]
  rintro e w1 ⟨rfl, hb1⟩
  go_wp2
  go_ret
  exact ⟨rfl, hb1⟩

set_option maxRecDepth 100000 in
set_option maxHeartbeats 400000 in
theorem sizeOf_any (A : Option Addr) (l : List Seg) (c : Nat) (s : ByteArray) (w : World) (hw : Segs w w.heap.size A l) (hl : l.length ≤ 1048576) (hlc : l.length ≤ c) (hcm : c ≤ 9223372036854775807) (hn : Short l) :
    Calls Tryd.prog 28 #[.slice A l.length c, .string s] w fun e w' => e = .returned (.int .i64 (sizeB l s)) ∧ Below w.heap.size w w' := by
  have HW : Hid (Segs w w.heap.size A l) := hw
  clear hw
  cases hv : validB l with
  | false =>
    have HF : Hid (sizeB l s = -1) := by
      have h1 : indexB l s = -1 := if_neg (by rw [hv]; decide)
      exact if_pos (by omega)
    go_enter Tryd.func28, Tryd.ntmps28
    go_wp2_with fail
    refine (nodesOf_bad _ _ _ _ HW.out hl hlc hcm hn hv).mono ?_
    rintro e w1 ⟨rfl, hb1⟩
    go_wp2_with fail
    refine (findNode_nil _ _).mono ?_
    rintro e w2 ⟨rfl, rfl⟩
    go_wp2
    go_ret
    exact ⟨ret_int HF.out.symm, hb1⟩
  | true =>
    have HI : Hid (indexB l s = seek l s) := if_pos hv
    rcases seek_bd l s with hi | ⟨h0, hi⟩
    · have HF : Hid (sizeB l s = -1) := if_pos (by have := HI.out; omega)
      have HP : Hid (∀ nb, foundPtr l nb s = none) := fun nb => if_pos (by omega)
      clear hi
      go_enter Tryd.func28, Tryd.ntmps28
      go_wp2_with fail
      refine (nodesOf_any _ _ _ _ HW.out hl hlc hcm hn hv).mono ?_
      rintro e w1 ⟨g, nb, cv, rfl, hN, hb1⟩
      have HN := Lib.hid hN
      clear hN
      go_wp2_with fail
      refine (findNode_any _ _ _ _ _ _ _ HN.out hl).mono ?_
      rw [HP.out nb]
      rintro e w2 ⟨rfl, rfl⟩
      go_wp2
      go_ret
      exact ⟨ret_int HF.out.symm, hb1⟩
    · obtain ⟨k, hk⟩ := Int.eq_ofNat_of_zero_le h0
      have hkl : k < l.length := by omega
      have HF : Hid (sizeB l s = l[k].size) := by
        show sizeB l s = _
        unfold sizeB
        rw [HI.out, if_neg (by omega), hk, Int.toNat_natCast, sizeAt_of hkl]
      have HP : Hid (∀ nb, foundPtr l nb s = some ⟨nb k, 0, none⟩) := fun nb => by
        unfold foundPtr
        rw [if_neg (by omega), hk, Int.toNat_natCast]
      have HL : Hid (l[k]? = some l[k]) := List.getElem?_eq_getElem hkl
      clear hk hi h0
      generalize l[k] = x at *
      go_enter Tryd.func28, Tryd.ntmps28
      go_wp2_with fail
      refine (nodesOf_any _ _ _ _ HW.out hl hlc hcm hn hv).mono ?_
      rintro e w1 ⟨g, nb, cv, rfl, hN, hb1⟩
      have HN := Lib.hid hN
      clear hN
      go_wp2_with fail
      refine (findNode_any _ _ _ _ _ _ _ HN.out hl).mono ?_
      rw [HP.out nb]
      rintro e w2 ⟨rfl, rfl⟩
      have n1 : w1.cell? ⟨nb k, 1, none⟩ = some (.int .i64 x.size) := (HN.out.node k _ hkl HL.out).cell 1
      go_wp2
      go_ret
      exact ⟨ret_int HF.out.symm, hb1⟩

end Go.Proofs.YtdbddockmdkmeaaDoor
