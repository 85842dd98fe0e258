/- Joined: No Sb Va. -/
import Derived.Test.YtadichddgpojpaaU05
import Derived.StillTailTactics
import Derived.Test.YtadichddgpojpaaSh
import Derived.Lib.OthersKept
import Derived.RangeFuncNested
import Derived.RangeFuncBound
import Derived.RangeFuncCalls
import Derived.RangeFuncLeaves
import Derived.RangeFuncBox
import Derived.Shelf.Abstract
import Derived.Shelf.RegionOpen
import Derived.OwnWalkIn
import Derived.TacticsInMore
import Derived.LoopNIn
import Derived.LoopIn
/- impl.nodesOf makes the nodes of a valid tree. -/
namespace Go.Proofs.Ytadichddgpojpaa
open Go.RowKit

theorem run_make_nodes (n : Nat) (hn : n ≤ 1048576) (W : World) :
    (Instr.makeSlice 54 (.int .i64 (n : Int)) (.int .i64 (n : Int))).run Try.prog W = .ok (.slice (some ⟨W.heap.size, 0, none⟩) n n) (W.alloc (.cells (madeCells #[Value.pointer none] n) 56)) := by
  obtain ⟨i0, hi, hz0, hz1, hz2⟩ := info_parts info_ptr
  have hr := run_make (P := Try.prog) W 54 56 i0 (.pointer none) Try.underlying54 hi hz0 .i64 .i64 n n (by omega) (by omega) (by rw [hz2]; omega) (by omega)
  simp only [Int.toNat_natCast, hz1, Nat.mul_one] at hr
  exact hr

theorem Nodes.drew {w : World} {B g m k : Nat} {l : List Seg} {nb : Nat → Nat} {cv : Nat → Value} (h : Nodes w B g m k l nb cv) : Nodes w.drew B g m k l nb cv :=
  ⟨h.row, h.node, h.fresh, h.kids, h.apart, h.apartC, h.notg, h.low⟩
theorem Nodes.child_below {w0 w w' : World} {g k p n : Nat} {l : List Seg} {nb : Nat → Nat} {cv : Nat → Value} {nm nm' : ByteArray} {sz sz' : Int} {pp' : Option Addr} {cc : Value} {xs : List Value} {e : Ending}
    (h : Nodes w w0.heap.size g (k + 1) k l nb cv) (hb : Below w0.heap.size w0 w) (hpk : p < k) (hk : k < k + 1) (ha : Adopted w w0.heap.size (nb p) (nb k) n nm nm' sz sz' pp' cc (cv p) xs e w') : Below w0.heap.size w0 w' := by
  obtain ⟨_, v', _, _, _, _, honly⟩ := ha
  refine honly.below hb hb.size fun b hbk => ?_
  rintro (he | he | he)
  · have := h.low.2 p (by omega); omega
  · have := h.low.2 k hk; omega
  · have := ((h.kids p hpk).lt b he.symm).1; omega

/-- What is behind nodesOf where the tree is valid. -/
def NodesPost (w : World) (l : List Seg) (e : Ending) (w' : World) : Prop :=
  ∃ g nb cv, e = .returned (.slice (some ⟨g, 0, none⟩) l.length l.length) ∧ Nodes w' w.heap.size g l.length l.length l nb cv ∧ Below w.heap.size w w'

set_option maxRecDepth 100000 in
set_option maxHeartbeats 1000000 in
theorem nodesOf_any (A : Option Addr) (l : List Seg) (c : Nat) (w : World) (hw : Segs w w.heap.size A l) (hl : l.length ≤ 1048576) (hlc : l.length ≤ c) (hcm : c ≤ 9223372036854775807) (hn : Short l) (hv : validB l = true) :
    Calls Try.prog 49 #[.slice A l.length c] w (NodesPost w l) := by
  have HW : Hid (Segs w w.heap.size A l) := hw
  clear hw
  obtain ⟨hall, hl8, hl1⟩ := valid_all hv
  have HD := Lib.hid hall.down
  clear hall
  have hmk := run_make_nodes l.length hl
  go_enter Try.func49, Try.ntmps49
  go_wp2_with fail
  refine (treeValid_any _ _ _ _ HW.out hl hlc hcm hn).mono ?_
  rw [hv]
  rintro e w1 ⟨rfl, hb1⟩
  clear hv
  go_wp2_with fail
  have hg0 : Row (w1.alloc (.cells (madeCells #[Value.pointer none] l.length) 56)) w1.heap.size 56 (madeCells #[Value.pointer none] l.length) := Row.new _ _ _
  have hbg : Below w.heap.size w (w1.alloc (.cells (madeCells #[Value.pointer none] l.length) 56)) := hb1.alloc hb1.size _
  clear hmk
  go_loopw [14] (fun i wr => ∃ (k : Nat) (nb : Nat → Nat) (cv : Nat → Value), k ≤ l.length ∧ i = .int .i64 k ∧ Nodes wr w.heap.size w1.heap.size k k l nb cv ∧ Below w.heap.size w wr)
    (fun i _ => l.length - (intOf i).toNat)
  case atStart =>
    refine ⟨0, fun _ => 0, fun _ => nilKids, Nat.zero_le _, rfl, ⟨⟨_, hg0, ?_, fun i hi => absurd hi (by omega)⟩, fun i _ hi => absurd hi (by omega), fun i _ _ hi => absurd hi (by omega), fun i hi => absurd hi (by omega), fun i _ hi => absurd hi (by omega), fun i _ hi => absurd hi (by omega), fun i hi => absurd hi (by omega), hb1.size, fun i hi => absurd hi (by omega)⟩, hbg⟩
    rw [size_madeCells]
  case round =>
    obtain ⟨k, nb, cv, hk, rfl, hnd, hb⟩ := hrel
    clear hbg hg0
    by_cases hlt : k < l.length
    · obtain ⟨b, o, rfl, hB, hc⟩ := HW.out (by omega)
      obtain ⟨c0, c1, c2⟩ := hc k l[k] (List.getElem?_eq_getElem hlt)
      clear hc
      rw [← hb.cell hB] at c0 c1 c2
      have HS : Hid (l[k]? = some l[k]) := List.getElem?_eq_getElem hlt
      have HP : Hid _ := parAt_of (List.getElem?_eq_getElem hlt)
      have HN := Lib.hid hnd
      obtain ⟨cs, hrow, hcs, -⟩ := hnd.row
      have hG := hrow.lt
      have d : wr.cell? ⟨w1.heap.size, k, none⟩ = some (cs[k]'(by omega)) := by rw [hrow.cell, Array.getElem?_eq_getElem]
      have f := hrow.free k
      clear hnd hrow
      generalize cs[k]'_ = old at *
      clear hcs cs
      generalize l[k] = x at *
      obtain ⟨nm, sz, pa⟩ := x
      dsimp only at c0 c1 c2 HP
      have hm := HN.out.made (HD.out.mono (by omega)) hlt HS.out hb.size (.cells #[.string nm, .int .i64 sz, .int .i64 pa] 36)
      rw [World.setCell_alloc_past _ _ _ _ (by rw [World.size_alloc]; omega), World.setCell_alloc_past _ _ _ _ hG] at hm
      have hbW : Below w.heap.size w (((wr.setCell ⟨w1.heap.size, k, none⟩ (.pointer (some ⟨wr.heap.size + 1, 0, none⟩))).alloc (.cells #[.string nm, .int .i64 sz, .int .i64 pa] 36)).alloc (.cells #[.string nm, .int .i64 sz, .pointer none, .slice none 0 0] 59)) := ((hb.setCell hb1.size _).alloc (by rw [size_set]; exact hb.size) _).alloc (by rw [World.size_alloc, size_set]; have := hb.size; omega) _
      have hmW : Nodes (((wr.setCell ⟨w1.heap.size, k, none⟩ (.pointer (some ⟨wr.heap.size + 1, 0, none⟩))).alloc (.cells #[.string nm, .int .i64 sz, .int .i64 pa] 36)).alloc (.cells #[.string nm, .int .i64 sz, .pointer none, .slice none 0 0] 59)) w.heap.size w1.heap.size (k + 1) k l (upd nb k (wr.heap.size + 1)) cv := hm
      have e2 : World.cell? (((wr.setCell ⟨w1.heap.size, k, none⟩ (.pointer (some ⟨wr.heap.size + 1, 0, none⟩))).alloc (.cells #[.string nm, .int .i64 sz, .int .i64 pa] 36)).alloc (.cells #[.string nm, .int .i64 sz, .pointer none, .slice none 0 0] 59)) ⟨wr.heap.size, 2, none⟩ = some (.int .i64 pa) := by
        have h1 : Row ((wr.setCell ⟨w1.heap.size, k, none⟩ (.pointer (some ⟨wr.heap.size + 1, 0, none⟩))).alloc (.cells #[.string nm, .int .i64 sz, .int .i64 pa] 36)) wr.heap.size 36 #[.string nm, .int .i64 sz, .int .i64 pa] := by
          have := Row.new (wr.setCell ⟨w1.heap.size, k, none⟩ (.pointer (some ⟨wr.heap.size + 1, 0, none⟩))) 36 #[.string nm, .int .i64 sz, .int .i64 pa]
          rw [size_set] at this
          exact this
        exact (h1.alloc _).cell 2
      clear hm
      have hdk := HD.out k hlt
      rw [HP.out] at hdk
      obtain ⟨hd1, hd2⟩ := hdk
      have HE2 := Lib.hid e2
      have HM := Lib.hid hmW
      clear e2 hmW
      by_cases hpa : pa < 0
      · have hne : (pa != -1) = false := by
          have : pa = -1 := by omega
          rw [this]; rfl
        go_wp2
        go_roundw
        case rel => exact ⟨k + 1, _, _, by omega, by go_num, HM.out.root (HD.out.mono (by omega)) hlt (by rw [HP.out]; exact hpa), hbW⟩
        case measure => simp [intOf]; omega
      · have hne : (pa != -1) = true := by rw [bne_iff_ne]; omega
        obtain ⟨p, hp⟩ := Int.eq_ofNat_of_zero_le (show 0 ≤ pa by omega)
        subst hp
        have hpk : p < k := by omega
        have hp0 : (0 : Int) ≤ (p : Int) := Int.natCast_nonneg _
        have hpl : (p : Int) < (l.length : Int) := by omega
        have hk0 : (0 : Int) ≤ (k : Int) := Int.natCast_nonneg _
        have hkl : (k : Int) < (l.length : Int) := by omega
        go_wp2_with fail
        generalize (((wr.setCell ⟨w1.heap.size, k, none⟩ (.pointer (some ⟨wr.heap.size + 1, 0, none⟩))).alloc (.cells #[.string nm, .int .i64 sz, .int .i64 (p : Int)] 36)).alloc (.cells #[.string nm, .int .i64 sz, .pointer none, .slice none 0 0] 59)) = W3 at *
        obtain ⟨cs, hrow, hcs, hci⟩ := HM.out.row
        have gp : W3.cell? ⟨w1.heap.size, p, none⟩ = some (.pointer (some ⟨upd nb k (wr.heap.size + 1) p, 0, none⟩)) := by rw [hrow.cell]; exact hci p (by omega)
        have gk : W3.cell? ⟨w1.heap.size, k, none⟩ = some (.pointer (some ⟨upd nb k (wr.heap.size + 1) k, 0, none⟩)) := by rw [hrow.cell]; exact hci k (by omega)
        clear hrow hcs hci cs
        have e2 := HE2.out
        clear hne c0 c1 c2 d f
        generalize upd nb k (wr.heap.size + 1) = nb' at *
        go_still_tail 9, (by kernel_rfl)
        change wpList _ _ _ _ _ W3.drew
        go_wp2_with fail
        have hsp : l[p]? = some (l[p]'(by omega)) := List.getElem?_eq_getElem (by omega)
        generalize l[p]'(by omega) = sp at *
        have HSP := Lib.hid hsp
        clear hsp
        refine (adopt_any w.heap.size (nb' p) (nb' k) (kidsOf l p k).length nm sp.name sz sp.size none (parPtr l nb' p) nilKids (cv p) (ptrsOf nb' (kidsOf l p k)) W3.drew (HM.out.fresh k _ (Nat.le_refl _) (by omega) HS.out) (HM.out.node p _ hpk HSP.out) (HM.out.apart p k (by omega) (by omega) (by omega)) (HM.out.kids p hpk) hbW.drew.size (by have := kidsOf_len l p k; omega)).mono ?_
        intro e w4 ha
        have ha1 := ha.1
        subst ha1
        have hbN := HM.out.drew.child_below hbW.drew hpk (by omega) ha
        obtain ⟨v', hN⟩ := HM.out.drew.child (HD.out.mono (by omega)) hlt HS.out HSP.out HP.out hpk ha
        clear ha
        have HN4 := Lib.hid hN
        clear hN
        go_wp2
        go_roundw
        case rel => exact ⟨k + 1, _, _, by omega, by go_num, HN4.out, hbN⟩
        case measure => simp [intOf]; omega
    · obtain rfl : k = l.length := by omega
      go_wp2
      go_ret
      exact ⟨_, nb, cv, rfl, hnd, hb⟩

end Go.Proofs.Ytadichddgpojpaa

/- impl.findNode and impl.SizeOf. -/
namespace Go.Proofs.Ytadichddgpojpaa
open Go.RowKit

theorem ret_ptr {a b : Option Addr} (h : a = b) : Ending.returned (.pointer a) = .returned (.pointer b) := by rw [h]
def foundPtr (l : List Seg) (nb : Nat → Nat) (s : ByteArray) : Option Addr := if seek l s < 0 then none else some ⟨nb (seek l s).toNat, 0, none⟩

set_option maxRecDepth 100000 in
set_option maxHeartbeats 400000 in
theorem findNode_nil (s : ByteArray) (w : World) :
    Calls Try.prog 50 #[.slice none 0 0, .string s] w fun e w' => e = .returned (.pointer none) ∧ w = w' := by
  go_enter Try.func50, Try.ntmps50
  go_wp2
  go_loop [9] (fun i => i = .int .i64 0) (fun _ => 0)
  case atStart => rfl
  case round =>
    subst hrel
    go_wp2
    go_ret
    exact ⟨rfl, rfl⟩

set_option maxRecDepth 100000 in
set_option maxHeartbeats 400000 in
theorem findNode_any (B g : Nat) (l : List Seg) (nb : Nat → Nat) (cv : Nat → Value) (s : ByteArray) (w : World) (h : Nodes w B g l.length l.length l nb cv) (hl : l.length ≤ 1048576) :
    Calls Try.prog 50 #[.slice (some ⟨g, 0, none⟩) l.length l.length, .string s] w fun e w' => e = .returned (.pointer (foundPtr l nb s)) ∧ w = w' := by
  have HN := Lib.hid h
  clear h
  go_enter Try.func50, Try.ntmps50
  go_wp2
  go_loop [9] (fun i => ∃ (k : Nat), k ≤ l.length ∧ i = .int .i64 k ∧ Hid (seek l s = seekFrom s (l.drop k) k))
    (fun i => l.length - (intOf i).toNat)
  case atStart => exact ⟨0, Nat.zero_le _, rfl, rfl⟩
  case round =>
    obtain ⟨k, hk, rfl, HS⟩ := hrel
    by_cases hlt : k < l.length
    · obtain ⟨cs, hrow, _, hci⟩ := HN.out.row
      have gk : w.cell? ⟨g, k, none⟩ = some (.pointer (some ⟨nb k, 0, none⟩)) := by rw [hrow.cell]; exact hci k hlt
      have nk : w.cell? ⟨nb k, 0, none⟩ = some (.string l[k].name) := (HN.out.node k _ hlt (List.getElem?_eq_getElem hlt)).cell 0
      clear hrow hci
      have HD : Hid _ := seekFrom_drop l s k hlt
      generalize l[k] = x at *
      cases ht : (x.name.toList == s.toList) with
      | true =>
        have HE : Hid (foundPtr l nb s = some ⟨nb k, 0, none⟩) := by
          have h1 : seek l s = (k : Int) := by rw [HS.out, HD.out]; exact if_pos ht
          show foundPtr l nb s = _
          unfold foundPtr
          rw [h1, if_neg (by omega), Int.toNat_natCast]
        go_wp2
        go_ret
        exact ⟨ret_ptr HE.out.symm, rfl⟩
      | false =>
        have HE : Hid (seek l s = seekFrom s (l.drop (k + 1)) (k + 1)) := by
          show _ = _
          rw [HS.out, HD.out]
          exact if_neg (by rw [show sameB x.name s = false from ht]; decide)
        go_wp2
        go_round
        case rel => exact ⟨k + 1, by omega, by go_num, HE⟩
        case measure => simp [intOf]; omega
    · have HE : Hid (foundPtr l nb s = none) := by
        have h1 : seek l s = -1 := by rw [HS.out, List.drop_of_length_le (by omega)]; rfl
        show foundPtr l nb s = _
        unfold foundPtr
        rw [if_pos (by omega)]
      go_wp2
      go_ret
      exact ⟨ret_ptr HE.out.symm, rfl⟩

set_option maxRecDepth 100000 in
set_option maxHeartbeats 400000 in
theorem nodesOf_bad (A : Option Addr) (l : List Seg) (c : Nat) (w : World) (hw : Segs w w.heap.size A l) (hl : l.length ≤ 1048576) (hlc : l.length ≤ c) (hcm : c ≤ 9223372036854775807) (hn : Short l) (hv : validB l = false) :
    Calls Try.prog 49 #[.slice A l.length c] w fun e w' => e = .returned (.slice none 0 0) ∧ Below w.heap.size w w' := by
  have HW : Hid (Segs w w.heap.size A l) := hw
  clear hw
  go_enter Try.func49, Try.ntmps49
  go_wp2_with fail
  refine (treeValid_any _ _ _ _ HW.out hl hlc hcm hn).mono ?_
  rw [hv]
  rintro e w1 ⟨rfl, hb1⟩
  go_wp2
  go_ret
  exact ⟨rfl, hb1⟩

set_option maxRecDepth 100000 in
set_option maxHeartbeats 400000 in
theorem sizeOf_any (A : Option Addr) (l : List Seg) (c : Nat) (s : ByteArray) (w : World) (hw : Segs w w.heap.size A l) (hl : l.length ≤ 1048576) (hlc : l.length ≤ c) (hcm : c ≤ 9223372036854775807) (hn : Short l) :
    Calls Try.prog 56 #[.slice A l.length c, .string s] w fun e w' => e = .returned (.int .i64 (sizeB l s)) ∧ Below w.heap.size w w' := by
  have HW : Hid (Segs w w.heap.size A l) := hw
  clear hw
  cases hv : validB l with
  | false =>
    have HF : Hid (sizeB l s = -1) := by
      have h1 : indexB l s = -1 := if_neg (by rw [hv]; decide)
      exact if_pos (by omega)
    go_enter Try.func56, Try.ntmps56
    go_wp2_with fail
    refine (nodesOf_bad _ _ _ _ HW.out hl hlc hcm hn hv).mono ?_
    rintro e w1 ⟨rfl, hb1⟩
    go_wp2_with fail
    refine (findNode_nil _ _).mono ?_
    rintro e w2 ⟨rfl, rfl⟩
    go_wp2
    go_ret
    exact ⟨ret_int HF.out.symm, hb1⟩
  | true =>
    have HI : Hid (indexB l s = seek l s) := if_pos hv
    rcases seek_bd l s with hi | ⟨h0, hi⟩
    · have HF : Hid (sizeB l s = -1) := if_pos (by have := HI.out; omega)
      have HP : Hid (∀ nb, foundPtr l nb s = none) := fun nb => if_pos (by omega)
      clear hi
      go_enter Try.func56, Try.ntmps56
      go_wp2_with fail
      refine (nodesOf_any _ _ _ _ HW.out hl hlc hcm hn hv).mono ?_
      rintro e w1 ⟨g, nb, cv, rfl, hN, hb1⟩
      have HN := Lib.hid hN
      clear hN
      go_wp2_with fail
      refine (findNode_any _ _ _ _ _ _ _ HN.out hl).mono ?_
      rw [HP.out nb]
      rintro e w2 ⟨rfl, rfl⟩
      go_wp2
      go_ret
      exact ⟨ret_int HF.out.symm, hb1⟩
    · obtain ⟨k, hk⟩ := Int.eq_ofNat_of_zero_le h0
      have hkl : k < l.length := by omega
      have HF : Hid (sizeB l s = l[k].size) := by
        show sizeB l s = _
        unfold sizeB
        rw [HI.out, if_neg (by omega), hk, Int.toNat_natCast, sizeAt_of hkl]
      have HP : Hid (∀ nb, foundPtr l nb s = some ⟨nb k, 0, none⟩) := fun nb => by
        unfold foundPtr
        rw [if_neg (by omega), hk, Int.toNat_natCast]
      have HL : Hid (l[k]? = some l[k]) := List.getElem?_eq_getElem hkl
      clear hk hi h0
      generalize l[k] = x at *
      go_enter Try.func56, Try.ntmps56
      go_wp2_with fail
      refine (nodesOf_any _ _ _ _ HW.out hl hlc hcm hn hv).mono ?_
      rintro e w1 ⟨g, nb, cv, rfl, hN, hb1⟩
      have HN := Lib.hid hN
      clear hN
      go_wp2_with fail
      refine (findNode_any _ _ _ _ _ _ _ HN.out hl).mono ?_
      rw [HP.out nb]
      rintro e w2 ⟨rfl, rfl⟩
      have n1 : w1.cell? ⟨nb k, 1, none⟩ = some (.int .i64 x.size) := (HN.out.node k _ hkl HL.out).cell 1
      go_wp2
      go_ret
      exact ⟨ret_int HF.out.symm, hb1⟩

end Go.Proofs.Ytadichddgpojpaa
/- strings.Builder: what its two writing helpers do here. -/
namespace Go.Proofs.Ytadichddgpojpaa
open Go.RowKit

theorem bsize : (Try.prog.info? 123).map (·.size) = some 2 := by kernel_rfl
theorem info_byte : (Try.prog.info? 5).map (fun i => (i.zero, i.size, i.bytes)) = some (some (.int .u8 0), 1, 1) := by kernel_rfl

set_option maxRecDepth 100000 in
set_option maxHeartbeats 1000000 in
theorem copyCheck_used (b : Nat) (w : World) (h0 : w.cell? ⟨b, 0, none⟩ = some (.pointer (some ⟨b, 0, none⟩))) :
    Calls Try.prog 137 #[.pointer (some ⟨b, 0, none⟩)] w fun e w' => e = .returned (.tuple #[]) ∧ w = w' := by
  obtain ⟨j, hj, _⟩ := Option.map_eq_some_iff.1 bsize
  have HJ := Lib.hid hj
  clear hj
  go_enter Try.func137, Try.ntmps137
  go_wp2
  rw [Lib.run_neq_ptr_same w _ Try.underlying121 HJ.out]
  go_wp2
  go_end0
  exact ⟨rfl, rfl⟩

set_option maxRecDepth 100000 in
set_option maxHeartbeats 1000000 in
theorem copyCheck_fresh (b : Nat) (w : World) (h0 : w.cell? ⟨b, 0, none⟩ = some (.pointer none)) (hsh : w.shape? b = some (123, 2)) (hfz : w.frozen? ⟨b, 0, none⟩ = false) :
    Calls Try.prog 137 #[.pointer (some ⟨b, 0, none⟩)] w fun e w' => e = .returned (.tuple #[]) ∧ w' = w.setCell ⟨b, 0, none⟩ (.pointer (some ⟨b, 0, none⟩)) := by
  obtain ⟨j, hj, hjs⟩ := Option.map_eq_some_iff.1 bsize
  have HJ := Lib.hid hj
  have HS := Lib.hid hjs
  have HSH := Lib.hid hsh
  clear hj hjs hsh
  go_enter Try.func137, Try.ntmps137
  go_wp2
  rw [Lib.run_to_unsafe w ⟨b, 0, none⟩ Try.underlying121 Try.underlying177 HJ.out (by rw [HS.out]; decide) HSH.out (Nat.zero_lt_succ 1)]
  simp only [Result.andThen]
  rw [Oper.upon_value]
  go_wp2
  rw [run_callFunc_extern Try.func155 (by kernel_rfl) (by kernel_rfl) (by kernel_rfl) (e := Extern.AbiNoEscape.same) (by kernel_rfl)]
  rw [Lib.run_noEscape]
  simp only [Result.andThen]
  rw [Oper.upon_value]
  go_wp2
  rw [Lib.run_from_unsafe w ⟨b, 0, none⟩ Try.underlying177 Try.underlying121 HJ.out HSH.out (by kernel_rfl)]
  simp only [Result.andThen]
  rw [Oper.upon_value]
  go_wp2
  go_end0
  exact ⟨rfl, rfl⟩

/-- What a builder holds, and which blocks a writing call may turn. -/
def Wrote (w : World) (B b : Nat) (bs : List Value) (n : Nat) (e : Ending) (w' : World) : Prop :=
  e = .returned (.tuple #[.int .i64 n, .nilIface]) ∧ Lib.IsBuilderF 123 5 B b bs w' ∧ Below B w w' ∧ Lib.OthersKept 5 (some b) w w'

set_option maxRecDepth 100000 in
theorem copyCheck_any (B b : Nat) (bs : List Value) (w : World) (h : Lib.IsBuilderF 123 5 B b bs w) :
    Calls Try.prog 137 #[.pointer (some ⟨b, 0, none⟩)] w fun e w' => e = .returned (.tuple #[]) ∧ (Lib.BuilderAtF 123 5 B b (.pointer (some ⟨b, 0, none⟩)) bs w' ∧ Below B w w' ∧ Lib.OthersKept 5 (some b) w w') := by
  rcases h with h | h
  · refine (copyCheck_fresh b w h.cell0 h.shape h.frozen0).mono ?_
    rintro e w' ⟨rfl, rfl⟩
    exact ⟨rfl, h.used _, (Below.refl B w).setCell (p := ⟨b, 0, none⟩) h.1 _, (Lib.OthersKept.refl _ _ w).setCell ⟨b, 0, none⟩ rfl _⟩
  · refine (copyCheck_used b w h.cell0).mono ?_
    rintro e w' ⟨rfl, rfl⟩
    exact ⟨rfl, h, Below.refl B _, Lib.OthersKept.refl _ _ _⟩

set_option maxRecDepth 100000 in
set_option maxHeartbeats 1000000 in
theorem writeString_any (B b : Nat) (bs : List Value) (s : ByteArray) (w : World) (h : Lib.IsBuilderF 123 5 B b bs w) (hlen : bs.length + s.size ≤ 140737488355328) (hBw : B ≤ w.heap.size) :
    Calls Try.prog 100 #[.pointer (some ⟨b, 0, none⟩), .string s] w (Wrote w B b (bs ++ Lib.strCells s) s.size) := by
  obtain ⟨i0, hi, hz0, hz1, hz2⟩ := info_parts info_byte
  have I0 := Lib.hid hi
  have Z0 := Lib.hid hz0
  have Z1 := Lib.hid hz1
  have Z2 := Lib.hid hz2
  clear hi hz0 hz1 hz2
  go_enter Try.func100, Try.ntmps100
  go_wp2_with fail
  refine (copyCheck_any B b bs _ h).mono ?_
  rintro e w1 ⟨rfl, h1, hb1, hk1⟩
  obtain ⟨hB, v, hbk, hown, hne⟩ := h1
  have c0 : w1.cell? ⟨b, 0, none⟩ = some (.pointer (some ⟨b, 0, none⟩)) := by rw [Lib.cell_of_heap hbk]; rfl
  have c1 : w1.cell? ⟨b, 1, none⟩ = some v := by rw [Lib.cell_of_heap hbk]; rfl
  go_wp2_with (at_builtin; go_must (refine Lib.wpList_append_own_stringF _ rfl _ _ 22 9 rfl B 5 i0 Try.underlying22 Try.underlying9 I0.out Z0.out Z1.out Z2.out _ _ _ rfl hown s rfl ?c3 ?c4 ?c5 ?_))
  case c3 => unfold maxLen; omega
  case c4 => omega
  case c5 => have := hb1.size; omega
  intro v' w2 hown' hgrow _
  have hlt : b < w1.heap.size := (Array.getElem?_eq_some_iff.1 hbk).1
  have hb2 : w2.heap[b]? = some (.cells #[.pointer (some ⟨b, 0, none⟩), v] 123 (0, 0)) := (hgrow.block b hlt (fun e => hne e.symm)).trans hbk
  have d1 : w2.cell? ⟨b, 1, none⟩ = some v := by rw [Lib.cell_of_heap hb2]; rfl
  have f1 : w2.frozen? ⟨b, 1, none⟩ = false := Lib.frozen_of_heap hb2 1
  obtain ⟨ao, n', cap, rfl⟩ : ∃ ao n' cap, v' = .slice ao n' cap := by
    rcases hown'.2 with ⟨hv, _⟩ | ⟨g, cap, cur, fz, hv, _⟩
    · exact ⟨_, _, _, hv⟩
    · exact ⟨_, _, _, hv⟩
  have HK := Lib.hid ((hk1.grown hgrow (Lib.ownsRowF_kind hown)).setCell ⟨b, 1, none⟩ rfl (.slice ao n' cap))
  have HP := Lib.hid (Lib.BuilderAtF.put (T := 123) (e := 5) hB hb2 (bs' := bs ++ Lib.strCells s) (by simpa [Lib.strCells_length] using hown') (by decide))
  have HW := Lib.hid ((hb1.grown hgrow (by have := hb1.size; omega) (fun k hk => (hown.lt k hk).1)).setCell (p := ⟨b, 1, none⟩) hB (.slice ao n' cap))
  clear hown hown' hgrow hk1 hbk hb2 c0 c1
  go_wp2
  go_ret2
  exact ⟨rfl, .inr HP.out, HW.out, HK.out⟩

end Go.Proofs.Ytadichddgpojpaa

/- impl.joinNames over whatever iterator that yields nodes. -/
namespace Go.Proofs.Ytadichddgpojpaa
open Go.RowKit Go.Shelf
attribute [local go_sem] Oper.semAt_some

/-- The index of a segment of 'l'. -/
abbrev Ix (l : List Seg) := { j : Nat // j < l.length }
def nameBytes (l : List Seg) (xs : List (Ix l)) : List UInt8 := xs.flatMap fun x => (l[x.1]'x.2).name.data.toList
theorem nameBytes_snoc (l : List Seg) (xs : List (Ix l)) (x : Ix l) : nameBytes l (xs ++ [x]) = nameBytes l xs ++ (l[x.1]'x.2).name.data.toList := by simp [nameBytes]
theorem nameBytes_len {l : List Seg} (h : ∀ s ∈ l, s.name.size ≤ 1) : ∀ xs : List (Ix l), (nameBytes l xs).length ≤ xs.length
  | [] => by simp [nameBytes]
  | x :: xs => by
    have h1 := nameBytes_len h xs
    have h2 := h _ (List.getElem_mem x.2)
    have h3 : ((l[x.1]'x.2).name.data.toList).length = (l[x.1]'x.2).name.size := by simp
    simp only [nameBytes, List.flatMap_cons, List.length_append, List.length_cons] at h1 ⊢
    omega

theorem isB_keep {T e : TypeId} {B b : Nat} {bs : List Value} {W W' : World} (h : Lib.IsBuilderF T e B b bs W) (hk : ∀ (k : Nat) (o : Obj), W.heap[k]? = some o → o.isCells = true → W'.heap[k]? = some o) : Lib.IsBuilderF T e B b bs W' := by
  have at_ : ∀ p, Lib.BuilderAtF T e B b p bs W → Lib.BuilderAtF T e B b p bs W' := fun p hp => by
    obtain ⟨h1, v, h2, h3, h4⟩ := hp
    refine ⟨h1, v, hk _ _ h2 rfl, ⟨h3.1, ?_⟩, h4⟩
    rcases h3.2 with h5 | ⟨g, cap, cur, fz, hv, hg, hh, r⟩
    · exact .inl h5
    · exact .inr ⟨g, cap, cur, fz, hv, hg, hk _ _ hh rfl, r⟩
  exact h.elim (fun x => .inl (at_ _ x)) (fun x => .inr (at_ _ x))
theorem isB_own (T e : TypeId) (B b D : Nat) {α : Type} (f : List α → List Value) : OwnFrom D (fun (pre : List α) W => Lib.IsBuilderF T e B b (f pre) W) := fun s A A' row hs hg hr =>
  isB_keep hs fun k o ho hc => (hg.block k (Array.getElem?_eq_some_iff.1 ho).1 (fun he => by
    obtain ⟨_, o', ho', hn⟩ := hr k he.symm
    rw [ho] at ho'
    injection ho' with ho'
    subst ho'
    rw [hc] at hn
    cases hn)).trans ho
theorem kept_from {w w' : World} {b B : Nat} {e : TypeId} {Bl : Nat} (h : Lib.OthersKept e (some b) w w') (hb : Below Bl w w') {c : Array Value} {t : TypeId} {fz : Nat × Nat} (hc : w.heap[b]? = some (.cells c t fz)) : KeepsFrom B w w' := by
  refine KeepsOthers.from ⟨hb.size, fun k o ho hn => h k o ho (fun he => ?_) (fun c' fz' he => ?_)⟩ B
  · injection he with he
    subst he
    rw [hc] at ho
    injection ho with ho
    subst ho
    cases hn
  · subst he
    cases hn

set_option maxRecDepth 100000 in
set_option maxHeartbeats 2000000 in
theorem joinNames_any {gf : Nat} {lb : Array Value} (w : World) (l : List Seg) (nb : Nat → Nat) (hnode : ∀ x : Ix l, w.cell? ⟨nb x.1, 0, none⟩ = some (.string (l[x.1]'x.2).name)) (hone : ∀ s ∈ l, s.name.size ≤ 1)
    (S Sp : List (Ix l) → Prop) (N : Nat) (hN : N ≤ 1000) (heg : ∀ args w, (callFunc gf args).run Try.prog w = .ok (.enter gf args) w)
    (hseq : SeqStopsK Fence.wide 5 Try.prog gf lb (fun x : Ix l => #[.pointer (some ⟨nb x.1, 0, none⟩)]) (Below w.heap.size) S Sp N w) :
    Calls Try.prog 60 #[.func (.func gf) #[] lb] w fun e w' => (∃ xs, S xs ∧ e = .returned (.string ⟨(nameBytes l xs).toArray⟩)) ∧ Below w.heap.size w w' := by
  refine (callsIn_wide (n := 6)).1 ?_
  refine callsIn_of_wp_marks Try.func60 rfl trivial ?_ rfl
  simp only [Try.ntmps60, List.size_toArray, List.length_cons, List.length_nil, Nat.reduceAdd, Nat.reduceSub, Array.replicate_succ, Array.replicate_zero, List.push_toArray, List.append_toArray, List.nil_append, List.cons_append]
  gi_wp2
  have hB0 : Below w.heap.size w (w.alloc (.cells #[.pointer none, .slice none 0 0] 123)) := (Below.refl _ w).alloc (Nat.le_refl _) _
  have hI0 : Lib.IsBuilderF 123 5 w.heap.size w.heap.size [] (w.alloc (.cells #[.pointer none, .slice none 0 0] 123)) := Lib.IsBuilderF.of (Lib.fresh_isBuilder _ _ w)
  refine wpIn_rangeFunc_ownG rfl (by omega) (gf := gf) (lb := lb) rfl trivial heg hseq belowK_t (belowK_b (by simp)) hB0 (fun _ => rfl)
    (fun pre W => Lib.IsBuilderF 123 5 w.heap.size w.heap.size (Lib.byteCells (nameBytes l pre)) W ∧ Below w.heap.size w W)
    (fun _ _ _ => False)
    (OwnFrom.and (isB_own _ _ _ _ _ (fun pre => Lib.byteCells (nameBytes l pre))) (ownFrom_below (Nat.le_refl _) (by simp)))
    (fun _ _ _ _ _ hs _ _ => hs)
    ⟨hI0, hB0⟩
    (fun x => { tmps := #[.func (.func gf) #[] lb, undef, .string ⟨#[]⟩, .pointer (some ⟨w.heap.size, 0, none⟩), .pointer (some ⟨nb x.1, 0, none⟩), .func (.func gf) #[] lb, .pointer (some ⟨nb x.1, 0, none⟩), undef, undef, undef, undef, undef, undef], defers := [] }) ?assign ?body ?done ?stop
  case assign =>
    intro l x W K hK
    gi_wp2
    exact hK
  case body =>
    rintro l' pre x W ⟨hI, hB⟩ hlen
    have hlt := World.block_lt_of_cell? w _ (hnode x)
    have nk : W.cell? ⟨nb x.1, 0, none⟩ = some (.string (l[x.1]'x.2).name) := (hB.cell (p := ⟨nb x.1, 0, none⟩) hlt).trans (hnode x)
    have HN : Hid _ := nameBytes_snoc l pre x
    have hl1 : (Lib.byteCells (nameBytes l pre)).length + (l[x.1]'x.2).name.size ≤ 140737488355328 := by
      have h1 := nameBytes_len hone pre
      have h2 := hone _ (List.getElem_mem x.2)
      have h3 : (Lib.byteCells (nameBytes l pre)).length = (nameBytes l pre).length := by simp [Lib.byteCells]
      omega
    obtain ⟨cb, hcb⟩ : ∃ c, W.heap[w.heap.size]? = some (.cells c 123 (0, 0)) := by
      rcases hI with ⟨_, v, h2, _⟩ | ⟨_, v, h2, _⟩
      · exact ⟨_, h2⟩
      · exact ⟨_, h2⟩
    have HC := Lib.hid hcb
    clear hcb
    generalize (l[x.1]'x.2).name = nm at *
    gi_wp2_with (refine ⟨trivial, ?_⟩; gi_at_call 100; refine (CallsIn.inRound l' (callsIn_wide.2 (writeString_any w.heap.size w.heap.size _ nm _ hI hl1 hB.size))).mono ?_; rintro e W1 ⟨rfl, hI1, hb1, hk1⟩)
    refine ⟨kept_from hk1 hb1 HC.out, hb1, ?_, hB.trans hb1⟩
    rw [HN.out]
    have : Lib.byteCells (nameBytes l pre ++ nm.data.toList) = Lib.byteCells (nameBytes l pre) ++ Lib.strCells nm := by simp [Lib.byteCells, Lib.strCells]
    rw [this]
    exact hI1
  case done =>
    rintro D ys W hD hS ⟨hI, hB⟩ hK
    gi_wp2_with (refine ⟨trivial, ?_⟩; gi_at_call 101; refine (callsIn_wide.2 (Try.Builder_String_any_k w.heap.size w.heap.size _ _ hI hB.size)).mono ?_; rintro e W1 ⟨rfl, hI1, hb1, hk1⟩)
    have hbne : D ≠ w.heap.size := by simp at hD; omega
    have hK1 : W1.heap[D]? = some (.deferred (some [])) := hk1 D _ hK (fun he => hbne (by injection he)) (fun c fz he => by cases he)
    refine ⟨by simp, .inl ⟨_, _, rfl, run_takeDeferred hK1, ?_⟩⟩
    exact ⟨_, results_tmp rfl _ _ _, ⟨ys, hS, rfl⟩, (hB.trans hb1).trans (belowK_b (w := w) (Nat.le_refl _) W1 D _ _ (by simp at hD; omega) hK1 rfl rfl)⟩
  case stop =>
    rintro D c pre W _ _ h _
    exact h.elim

end Go.Proofs.Ytadichddgpojpaa
/- slices.Values at a slice of nodes. -/
namespace Go.Proofs.Ytadichddgpojpaa
open Go.RowKit Go.Shelf
attribute [local go_sem] Oper.semAt_some

/-- The slice value 'sv' holds pointers to the nodes 'ks', in a block below n₀; or it is nil and there are none. -/
def PtrsAt (n₀ : Nat) (W : World) (sv : Value) {l : List Seg} (nb : Nat → Nat) (ks : List (Ix l)) : Prop :=
  (sv = .slice none 0 0 ∧ ks = []) ∨ ∃ b off cap, sv = .slice (some ⟨b, off, none⟩) ks.length cap ∧ b < n₀ ∧ ∀ (j : Nat) (x : Ix l), ks[j]? = some x → W.cell? ⟨b, off + j, none⟩ = some (.pointer (some ⟨nb x.1, 0, none⟩))
theorem PtrsAt.below {n₀ : Nat} {A B : World} (h : Below n₀ A B) {sv : Value} {l : List Seg} {nb : Nat → Nat} {ks : List (Ix l)} : PtrsAt n₀ A sv nb ks → PtrsAt n₀ B sv nb ks
  | .inl e => .inl e
  | .inr ⟨b, off, cap, e, hb, hc⟩ => .inr ⟨b, off, cap, e, hb, fun j x hj => (h.cell (p := ⟨b, off + j, none⟩) hb).trans (hc j x hj)⟩

set_option maxRecDepth 100000 in
set_option maxHeartbeats 2000000 in
theorem values1_in (n : Nat) (hn : 1 ≤ n) (l' Bs n₀ b off cap : Nat) {l : List Seg} (nb : Nat → Nat) (ks : List (Ix l)) (hreach : ks.length ≤ 1000) (hb : b < n₀) (J Jx : List (Ix l) → World → Prop)
    (hY : ∀ pre x W, J pre W → pre.length < ks.length → YieldAt Fence.wide (n - 1) Try.prog l' #[.pointer (some ⟨nb x.1, 0, none⟩)] W fun e W' =>
      (e = .returned (.bool true) ∧ J (pre ++ [x]) W' ∧ Below n₀ W W') ∨ (e = .returned (.bool false) ∧ Jx (pre ++ [x]) W'))
    (W : World) (hBs : W.cell? ⟨Bs, 0, none⟩ = some (.slice (some ⟨b, off, none⟩) ks.length cap)) (hc : ∀ (j : Nat) (x : Ix l), ks[j]? = some x → W.cell? ⟨b, off + j, none⟩ = some (.pointer (some ⟨nb x.1, 0, none⟩))) (h0 : J [] W) :
    CallsIn Fence.wide n Try.prog 102 #[.func (.yield l') #[] #[], .pointer (some ⟨Bs, 0, none⟩)] W fun e W' => (∃ v, e = .returned v) ∧
      ((∃ ys, ys = ks ∧ J ys W') ∨ (∃ pre, pre <+: ks ∧ Jx pre W')) := by
  refine callsIn_of_wp Try.func102 rfl trivial ?_ rfl
  simp only [Try.ntmps102, List.size_toArray, List.length_cons, List.length_nil, Nat.reduceAdd, Nat.reduceSub, Array.replicate_succ, Array.replicate_zero, List.push_toArray, List.append_toArray, List.nil_append, List.cons_append]
  have HC := Lib.hid hc
  clear hc
  gi_wp2
  gi_loopw [7] (fun i wr => ∃ k : Nat, k ≤ ks.length ∧ i = .int .i64 k ∧ J (ks.take k) wr ∧ Below n₀ W wr)
    (fun i _ => ks.length - (intOf i).toNat)
  case atStart => exact ⟨0, Nat.zero_le _, rfl, h0, Below.refl _ _⟩
  case round =>
    obtain ⟨k, hk, rfl, hJs, hnx⟩ := hrel
    by_cases hlt : k < ks.length
    · have hcx : wr.cell? ⟨b, off + k, none⟩ = some (.pointer (some ⟨nb ks[k].1, 0, none⟩)) := (hnx.cell (p := ⟨b, off + k, none⟩) hb).trans (HC.out k _ (List.getElem?_eq_getElem hlt))
      have HT : Hid (ks.take (k + 1) = ks.take k ++ [ks[k]]) := List.take_succ_eq_append_getElem hlt
      obtain ⟨fn, tmps, assign, body, hy, hR⟩ := hY _ ks[k] wr hJs (by rw [List.length_take]; omega)
      generalize ks[k] = x at *
      gi_wp2
      refine hR.mono ?_
      rintro e W3 (⟨rfl, hJ3, hk3⟩ | ⟨rfl, hJx3⟩)
      · gi_wp2
        go_roundw
        case rel => exact ⟨k + 1, by omega, by simp, by rw [HT.out]; exact hJ3, hnx.trans hk3⟩
        case measure => simp [intOf]; omega
      · gi_wp2
        refine bodyPost_ret (results_none rfl _ _ _) rfl ?_
        exact ⟨⟨_, rfl⟩, .inr ⟨_, by rw [← HT.out]; exact List.take_prefix _ _, hJx3⟩⟩
    · gi_wp2
      go_end0
      exact ⟨⟨_, rfl⟩, .inl ⟨_, List.take_of_length_le (by omega), hJs⟩⟩

set_option maxRecDepth 100000 in
set_option maxHeartbeats 1000000 in
theorem values1_nil_in (n : Nat) (l' Bs : Nat) {l : List Seg} (J : List (Ix l) → World → Prop) (W : World) (hBs : W.cell? ⟨Bs, 0, none⟩ = some (.slice none 0 0)) (h0 : J [] W) :
    CallsIn Fence.wide n Try.prog 102 #[.func (.yield l') #[] #[], .pointer (some ⟨Bs, 0, none⟩)] W fun e W' => (∃ v, e = .returned v) ∧ J [] W' := by
  refine callsIn_of_wp Try.func102 rfl trivial ?_ rfl
  simp only [Try.ntmps102, List.size_toArray, List.length_cons, List.length_nil, Nat.reduceAdd, Nat.reduceSub, Array.replicate_succ, Array.replicate_zero, List.push_toArray, List.append_toArray, List.nil_append, List.cons_append]
  gi_wp2
  gi_loopw [7] (fun i wr => i = .int .i64 0 ∧ J [] wr) (fun _ _ => 0)
  case atStart => exact ⟨rfl, h0⟩
  case round =>
    obtain ⟨rfl, hJs⟩ := hrel
    gi_wp2
    go_end0
    exact ⟨⟨_, rfl⟩, hJs⟩

set_option maxRecDepth 100000 in
set_option maxHeartbeats 400000 in
theorem values_any (a : Option Addr) (len cap : Nat) (w : World) :
    Calls Try.prog 61 #[.slice a len cap] w fun e w' => e = .returned (.func (.func 102) #[] #[.pointer (some ⟨w.heap.size, 0, none⟩)]) ∧ w' = w.alloc (.cells #[.slice a len cap] 54) := by
  go_enter Try.func61, Try.ntmps61
  go_wp2
  go_ret
  exact ⟨rfl, rfl⟩

theorem values_stops (n : Nat) (hn : 1 ≤ n) (Bs n₀ : Nat) (sv : Value) {l : List Seg} (nb : Nat → Nat) (ks : List (Ix l)) (hreach : ks.length ≤ 1000) (w : World) (hBs : Bs < w.heap.size) (hn₀ : n₀ ≤ w.heap.size)
    (hc : w.cell? ⟨Bs, 0, none⟩ = some sv) (hI : PtrsAt n₀ w sv nb ks) :
    SeqStopsK Fence.wide n Try.prog 102 #[.pointer (some ⟨Bs, 0, none⟩)] (fun x : Ix l => #[.pointer (some ⟨nb x.1, 0, none⟩)]) (Below n₀) (fun ys => ys = ks) (fun pre => pre <+: ks) ks.length w := fun l' J Jx W hW _ _ hY h0 => by
  have hc' := (hW.cell (p := ⟨Bs, 0, none⟩) hBs).trans hc
  rcases hI.below (hW.mono hn₀) with ⟨rfl, rfl⟩ | ⟨b, off, cap, rfl, hb, hcs⟩
  · exact (values1_nil_in n l' Bs J W hc' h0).mono fun e W' ⟨he, hj⟩ => ⟨he, .inl ⟨_, rfl, hj⟩⟩
  · exact values1_in n hn l' Bs n₀ b off cap nb ks hreach hb J Jx hY W hc' hcs h0

end Go.Proofs.Ytadichddgpojpaa

/- NamesOf and ChildrenOf: the program's and the model's. -/
namespace Go.Proofs.Ytadichddgpojpaa
open Go.RowKit Go.Shelf

theorem ret_two {a b : ByteArray} {c d : Bool} (h : a = b) (k : c = d) : Ending.returned (.tuple #[.string a, .bool c]) = .returned (.tuple #[.string b, .bool d]) := by rw [h, k]

def nmAt (l : List Seg) (j : Nat) : List UInt8 := match l[j]? with
  | some s => s.name.data.toList
  | none => []
theorem nmAt_of {l : List Seg} {j : Nat} (h : j < l.length) : nmAt l j = l[j].name.data.toList := by unfold nmAt; rw [List.getElem?_eq_getElem h]
def ixOf (l : List Seg) (js : List Nat) (h : ∀ j ∈ js, j < l.length) : List (Ix l) := js.pmap (fun j h => ⟨j, h⟩) h
theorem ixOf_len (l : List Seg) (js : List Nat) (h : ∀ j ∈ js, j < l.length) : (ixOf l js h).length = js.length := by simp [ixOf]
theorem ixOf_at {l : List Seg} {js : List Nat} {h : ∀ j ∈ js, j < l.length} {i : Nat} {x : Ix l} (hx : (ixOf l js h)[i]? = some x) : js[i]? = some x.1 := by
  unfold ixOf at hx
  rw [List.getElem?_pmap] at hx
  cases hj : js[i]? with
  | none => simp [hj] at hx
  | some j => simp [hj] at hx; rw [← hx]
theorem nameBytes_ixOf (l : List Seg) : ∀ (js : List Nat) (h : ∀ j ∈ js, j < l.length), nameBytes l (ixOf l js h) = js.flatMap (nmAt l)
  | [], _ => rfl
  | j :: js, h => by
    have h1 := nameBytes_ixOf l js (fun i hi => h i (List.mem_cons_of_mem _ hi))
    have hj : j < l.length := h j List.mem_cons_self
    show (l[j]'hj).name.data.toList ++ nameBytes l (ixOf l js _) = nmAt l j ++ js.flatMap (nmAt l)
    rw [h1, nmAt_of hj]
theorem range_names (l : List Seg) : ∀ k, k ≤ l.length → (List.range k).flatMap (nmAt l) = (seenOf l k).data.toList
  | 0, _ => rfl
  | k + 1, hk => by
    rw [List.range_succ, List.flatMap_append, range_names l k (by omega), seenOf_succ (by omega)]
    show _ = (seenOf l k ++ l[k].name).data.toList
    rw [ByteArray.data_append, Array.toList_append]
    simp [nmAt_of (show k < l.length by omega)]
theorem valid_names {l : List Seg} (h : validB l = true) : ∀ s ∈ l, s.name.size ≤ 1 := fun s hs => by
  obtain ⟨j, hj, rfl⟩ := List.getElem_of_mem hs
  obtain ⟨c, hc, _⟩ := nameOk_one ((valid_all h).1.name hj (List.getElem?_eq_getElem hj))
  rw [hc]
  exact Nat.le_refl 1

def namesStr (l : List Seg) : ByteArray := if validB l = true then seenOf l l.length else ⟨#[]⟩

set_option maxRecDepth 100000 in
set_option maxHeartbeats 400000 in
theorem specNames_any (A : Option Addr) (l : List Seg) (c : Nat) (w : World) (hw : Segs w w.heap.size A l) (hl : l.length ≤ 1048576) (hn : Short l) :
    Calls Try.prog 107 #[.slice A l.length c] w fun e w' => e = .returned (.tuple #[.string (namesStr l), .bool (validB l)]) ∧ Below w.heap.size w w' := by
  have HW : Hid (Segs w w.heap.size A l) := hw
  clear hw
  cases hv : validB l with
  | false =>
    have HF : Hid (namesStr l = ⟨#[]⟩) := if_neg (by rw [hv]; decide)
    go_enter Try.func107, Try.ntmps107
    go_wp2_with fail
    refine (specTreeValid_any _ _ _ _ HW.out hl hn).mono ?_
    rw [hv]
    rintro e w1 ⟨rfl, hb1⟩
    go_wp2
    go_ret2
    exact ⟨ret_two HF.out.symm rfl, hb1⟩
  | true =>
    have HF : Hid (namesStr l = seenOf l l.length) := if_pos hv
    have hA := (valid_all hv).1
    have HO : Hid _ := valid_names hv
    have HA := Lib.hid hA
    clear hA
    go_enter Try.func107, Try.ntmps107
    go_wp2_with fail
    refine (specTreeValid_any _ _ _ _ HW.out hl hn).mono ?_
    rw [hv]
    rintro e w1 ⟨rfl, hb1⟩
    clear hv
    go_wp2
    go_loopw [4, 12] (fun s i wr => ∃ (k : Nat), k ≤ l.length ∧ i = .int .i64 k ∧ s = .string (seenOf l k) ∧ Below w.heap.size w wr)
      (fun _ i _ => l.length - (intOf i).toNat)
    case atStart => exact ⟨0, Nat.zero_le _, rfl, rfl, hb1⟩
    case round =>
      obtain ⟨k, hk, rfl, rfl, hb⟩ := hrel
      clear hb1
      by_cases hlt : k < l.length
      · obtain ⟨b, o, rfl, hB, hc⟩ := HW.out (by omega)
        obtain ⟨c0, c1, c2⟩ := hc k l[k] (List.getElem?_eq_getElem hlt)
        clear hc
        rw [← hb.cell hB] at c0 c1 c2
        have HQ : Hid _ := seenOf_succ hlt
        have hlen : (seenOf l k).size ≤ 1048576 := Nat.le_trans (seenOf_len (fun j hj => HA.out j (by omega))) hl
        have hx1 := HO.out l[k] (List.getElem_mem hlt)
        generalize l[k] = x at *
        go_wp2
        go_roundw
        case rel => exact ⟨k + 1, by omega, by go_num, by rw [HQ.out], hb.alloc hb.size _⟩
        case measure => simp [intOf]; omega
      · obtain rfl : k = l.length := by omega
        go_wp2
        go_ret2
        exact ⟨ret_two HF.out.symm rfl, hb⟩

set_option maxRecDepth 100000 in
set_option maxHeartbeats 400000 in
theorem namesOf_any (A : Option Addr) (l : List Seg) (c : Nat) (w : World) (hw : Segs w w.heap.size A l) (hl : l.length ≤ 1048576) (hlc : l.length ≤ c) (hcm : c ≤ 9223372036854775807) (hn : Short l) :
    Calls Try.prog 21 #[.slice A l.length c] w fun e w' => e = .returned (.tuple #[.string (namesStr l), .bool (validB l)]) ∧ Below w.heap.size w w' := by
  have HW : Hid (Segs w w.heap.size A l) := hw
  clear hw
  have hnil := fun (W : World) (a : Option Addr) (n c : Nat) => Lib.run_eql_slice_nil (P := Try.prog) W 54 56 a n c 0 0 Try.underlying54
  cases hv : validB l with
  | false =>
    have HF : Hid (namesStr l = ⟨#[]⟩) := if_neg (by rw [hv]; decide)
    go_enter Try.func21, Try.ntmps21
    go_wp2_with fail
    refine (nodesOf_bad _ _ _ _ HW.out hl hlc hcm hn hv).mono ?_
    rintro e w1 ⟨rfl, hb1⟩
    go_wp2
    go_ret2
    exact ⟨ret_two HF.out.symm rfl, hb1⟩
  | true =>
    have HF : Hid (namesStr l = seenOf l l.length) := if_pos hv
    have HO : Hid _ := valid_names hv
    have HL : Hid _ := valid_all hv
    have hr : ∀ j ∈ List.range l.length, j < l.length := fun j hj => List.mem_range.1 hj
    have HR := Lib.hid hr
    clear hr
    go_enter Try.func21, Try.ntmps21
    go_wp2_with fail
    refine (nodesOf_any _ _ _ _ HW.out hl hlc hcm hn hv).mono ?_
    rintro e w1 ⟨g, nb, cv, rfl, hN, hb1⟩
    have HN := Lib.hid hN
    clear hN hv
    go_wp2_with fail
    refine (values_any _ _ _ _).mono ?_
    rintro e w2 ⟨rfl, rfl⟩
    clear hnil
    go_wp2_with fail
    have hg := HN.out.row
    have hseq := values_stops (l := l) 5 (by omega) w1.heap.size (w1.heap.size + 1) (.slice (some ⟨g, 0, none⟩) l.length l.length) nb (ixOf l (List.range l.length) HR.out) (by rw [ixOf_len, List.length_range]; have := HL.out.2.1; omega)
      (w1.alloc (.cells #[.slice (some ⟨g, 0, none⟩) l.length l.length] 54)) (by simp) (by simp) (by simp) (.inr (by
        obtain ⟨cs, hrow, _, hci⟩ := hg
        refine ⟨g, 0, l.length, by rw [ixOf_len, List.length_range], Nat.lt_succ_of_lt hrow.lt, fun j x hj => ?_⟩
        have h1 := ixOf_at hj
        have hj2 : j < l.length := by have := (List.getElem?_eq_some_iff.1 h1).1; simpa using this
        rw [List.getElem?_range hj2] at h1
        injection h1 with h1
        rw [← h1, Nat.zero_add, (hrow.alloc _).cell]
        exact hci j hj2))
    have HSQ := Lib.hid hseq
    clear hseq hg
    refine (joinNames_any _ l nb (fun x => ?_) HO.out _ _ _ ?_ (enters_of Try.func102 (by kernel_rfl) rfl) (by rw [World.size_alloc]; exact HSQ.out)).mono ?_
    · exact ((HN.out.node x.1 _ x.2 (List.getElem?_eq_getElem x.2)).alloc _).cell 0
    · rw [ixOf_len, List.length_range]; have := HL.out.2.1; omega
    · rintro e w3 ⟨⟨xs, rfl, rfl⟩, hb3⟩
      have hb4 : Below w.heap.size w w3 := (hb1.alloc hb1.size _).trans (hb3.mono (by rw [World.size_alloc]; have := hb1.size; omega))
      have HE : Hid (namesStr l = ⟨(nameBytes l (ixOf l (List.range l.length) HR.out)).toArray⟩) := by
        show _ = _
        rw [HF.out, nameBytes_ixOf, range_names l _ (Nat.le_refl _)]
      clear hb3
      go_wp2
      go_ret2
      exact ⟨ret_two HE.out.symm rfl, hb4⟩

end Go.Proofs.Ytadichddgpojpaa
