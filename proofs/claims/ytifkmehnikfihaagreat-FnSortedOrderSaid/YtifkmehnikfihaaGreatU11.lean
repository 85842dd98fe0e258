/- Joined: No Tx Ti. -/
import Derived.Test.YtifkmehnikfihaaGreatU10
import Derived.StillTailTactics
import Derived.Test.YtifkmehnikfihaaGreatU01
import Derived.BigQuiet
/- impl.nodesOf makes the nodes of a valid tree. -/
namespace Go.Proofs.YtifkmehnikfihaaGreat
open Go.RowKit

theorem run_make_nodes (n : Nat) (hn : n ≤ 1048576) (W : World) :
    (Instr.makeSlice 83 (.int .i64 (n : Int)) (.int .i64 (n : Int))).run Tryz.prog W = .ok (.slice (some ⟨W.heap.size, 0, none⟩) n n) (W.alloc (.cells (madeCells #[Value.pointer none] n) 87)) := by
  obtain ⟨i0, hi, hz0, hz1, hz2⟩ := info_parts info_ptr
  have hr := run_make (P := Tryz.prog) W 83 87 i0 (.pointer none) Tryz.underlying83 hi hz0 .i64 .i64 n n (by omega) (by omega) (by rw [hz2]; omega) (by omega)
  simp only [Int.toNat_natCast, hz1, Nat.mul_one] at hr
  exact hr

theorem Nodes.drew {w : World} {B g m k : Nat} {l : List Seg} {nb : Nat → Nat} {cv : Nat → Value} (h : Nodes w B g m k l nb cv) : Nodes w.drew B g m k l nb cv :=
  ⟨h.row, h.node, h.fresh, h.kids, h.apart, h.apartC, h.notg, h.low⟩
theorem Nodes.child_below {w0 w w' : World} {g k p n : Nat} {l : List Seg} {nb : Nat → Nat} {cv : Nat → Value} {nm nm' : ByteArray} {sz sz' : Int} {pp' : Option Addr} {cc : Value} {xs : List Value} {e : Ending}
    (h : Nodes w w0.heap.size g (k + 1) k l nb cv) (hb : Below w0.heap.size w0 w) (hpk : p < k) (hk : k < k + 1) (ha : Adopted w w0.heap.size (nb p) (nb k) n nm nm' sz sz' pp' cc (cv p) xs e w') : Below w0.heap.size w0 w' := by
  obtain ⟨_, v', _, _, _, _, honly⟩ := ha
  refine honly.below hb hb.size fun b hbk => ?_
  rintro (he | he | he)
  · have := h.low.2 p (by omega); omega
  · have := h.low.2 k hk; omega
  · have := ((h.kids p hpk).lt b he.symm).1; omega

/-- What is behind nodesOf where the tree is valid. -/
def NodesPost (w : World) (l : List Seg) (e : Ending) (w' : World) : Prop :=
  ∃ g nb cv, e = .returned (.slice (some ⟨g, 0, none⟩) l.length l.length) ∧ Nodes w' w.heap.size g l.length l.length l nb cv ∧ Below w.heap.size w w'

set_option maxRecDepth 100000 in
set_option maxHeartbeats 1000000 in
theorem nodesOf_any (A : Option Addr) (l : List Seg) (c : Nat) (w : World) (hw : Segs w w.heap.size A l) (hl : l.length ≤ 1048576) (hlc : l.length ≤ c) (hcm : c ≤ 9223372036854775807) (hn : Short l) (hv : validB l = true) :
    Calls Tryz.prog 82 #[.slice A l.length c] w (NodesPost w l) := by
  have HW : Hid (Segs w w.heap.size A l) := hw
  clear hw
  obtain ⟨hall, hl8, hl1⟩ := valid_all hv
  have HD := Lib.hid hall.down
  clear hall
  have hmk := run_make_nodes l.length hl
  go_enter Tryz.func82, Tryz.ntmps82
  go_wp2_with fail
  refine (treeValid_any _ _ _ _ HW.out hl hlc hcm hn).mono ?_
  rw [hv]
  rintro e w1 ⟨rfl, hb1⟩
  clear hv
  go_wp2_with fail
  have hg0 : Row (w1.alloc (.cells (madeCells #[Value.pointer none] l.length) 87)) w1.heap.size 87 (madeCells #[Value.pointer none] l.length) := Row.new _ _ _
  have hbg : Below w.heap.size w (w1.alloc (.cells (madeCells #[Value.pointer none] l.length) 87)) := hb1.alloc hb1.size _
  clear hmk
  go_loopw [14] (fun i wr => ∃ (k : Nat) (nb : Nat → Nat) (cv : Nat → Value), k ≤ l.length ∧ i = .int .i64 k ∧ Nodes wr w.heap.size w1.heap.size k k l nb cv ∧ Below w.heap.size w wr)
    (fun i _ => l.length - (intOf i).toNat)
  case atStart =>
    refine ⟨0, fun _ => 0, fun _ => nilKids, Nat.zero_le _, rfl, ⟨⟨_, hg0, ?_, fun i hi => absurd hi (by omega)⟩, fun i _ hi => absurd hi (by omega), fun i _ _ hi => absurd hi (by omega), fun i hi => absurd hi (by omega), fun i _ hi => absurd hi (by omega), fun i _ hi => absurd hi (by omega), fun i hi => absurd hi (by omega), hb1.size, fun i hi => absurd hi (by omega)⟩, hbg⟩
    rw [size_madeCells]
  case round =>
    obtain ⟨k, nb, cv, hk, rfl, hnd, hb⟩ := hrel
    clear hbg hg0
    by_cases hlt : k < l.length
    · obtain ⟨b, o, rfl, hB, hc⟩ := HW.out (by omega)
      obtain ⟨c0, c1, c2⟩ := hc k l[k] (List.getElem?_eq_getElem hlt)
      clear hc
      rw [← hb.cell hB] at c0 c1 c2
      have HS : Hid (l[k]? = some l[k]) := List.getElem?_eq_getElem hlt
      have HP : Hid _ := parAt_of (List.getElem?_eq_getElem hlt)
      have HN := Lib.hid hnd
      obtain ⟨cs, hrow, hcs, -⟩ := hnd.row
      have hG := hrow.lt
      have d : wr.cell? ⟨w1.heap.size, k, none⟩ = some (cs[k]'(by omega)) := by rw [hrow.cell, Array.getElem?_eq_getElem]
      have f := hrow.free k
      clear hnd hrow
      generalize cs[k]'_ = old at *
      clear hcs cs
      generalize l[k] = x at *
      obtain ⟨nm, sz, pa⟩ := x
      dsimp only at c0 c1 c2 HP
      have hm := HN.out.made (HD.out.mono (by omega)) hlt HS.out hb.size (.cells #[.string nm, .int .i64 sz, .int .i64 pa] 34)
      rw [World.setCell_alloc_past _ _ _ _ (by rw [World.size_alloc]; omega), World.setCell_alloc_past _ _ _ _ hG] at hm
      have hbW : Below w.heap.size w (((wr.setCell ⟨w1.heap.size, k, none⟩ (.pointer (some ⟨wr.heap.size + 1, 0, none⟩))).alloc (.cells #[.string nm, .int .i64 sz, .int .i64 pa] 34)).alloc (.cells #[.string nm, .int .i64 sz, .pointer none, .slice none 0 0] 173)) := ((hb.setCell hb1.size _).alloc (by rw [size_set]; exact hb.size) _).alloc (by rw [World.size_alloc, size_set]; have := hb.size; omega) _
      have hmW : Nodes (((wr.setCell ⟨w1.heap.size, k, none⟩ (.pointer (some ⟨wr.heap.size + 1, 0, none⟩))).alloc (.cells #[.string nm, .int .i64 sz, .int .i64 pa] 34)).alloc (.cells #[.string nm, .int .i64 sz, .pointer none, .slice none 0 0] 173)) w.heap.size w1.heap.size (k + 1) k l (upd nb k (wr.heap.size + 1)) cv := hm
      have e2 : World.cell? (((wr.setCell ⟨w1.heap.size, k, none⟩ (.pointer (some ⟨wr.heap.size + 1, 0, none⟩))).alloc (.cells #[.string nm, .int .i64 sz, .int .i64 pa] 34)).alloc (.cells #[.string nm, .int .i64 sz, .pointer none, .slice none 0 0] 173)) ⟨wr.heap.size, 2, none⟩ = some (.int .i64 pa) := by
        have h1 : Row ((wr.setCell ⟨w1.heap.size, k, none⟩ (.pointer (some ⟨wr.heap.size + 1, 0, none⟩))).alloc (.cells #[.string nm, .int .i64 sz, .int .i64 pa] 34)) wr.heap.size 34 #[.string nm, .int .i64 sz, .int .i64 pa] := by
          have := Row.new (wr.setCell ⟨w1.heap.size, k, none⟩ (.pointer (some ⟨wr.heap.size + 1, 0, none⟩))) 34 #[.string nm, .int .i64 sz, .int .i64 pa]
          rw [size_set] at this
          exact this
        exact (h1.alloc _).cell 2
      clear hm
      have hdk := HD.out k hlt
      rw [HP.out] at hdk
      obtain ⟨hd1, hd2⟩ := hdk
      have HE2 := Lib.hid e2
      have HM := Lib.hid hmW
      clear e2 hmW
      by_cases hpa : pa < 0
      · have hne : (pa != -1) = false := by
          have : pa = -1 := by omega
          rw [this]; rfl
        go_wp2
        go_roundw
        case rel => exact ⟨k + 1, _, _, by omega, by go_num, HM.out.root (HD.out.mono (by omega)) hlt (by rw [HP.out]; exact hpa), hbW⟩
        case measure => simp [intOf]; omega
      · have hne : (pa != -1) = true := by rw [bne_iff_ne]; omega
        obtain ⟨p, hp⟩ := Int.eq_ofNat_of_zero_le (show 0 ≤ pa by omega)
        subst hp
        have hpk : p < k := by omega
        have hp0 : (0 : Int) ≤ (p : Int) := Int.natCast_nonneg _
        have hpl : (p : Int) < (l.length : Int) := by omega
        have hk0 : (0 : Int) ≤ (k : Int) := Int.natCast_nonneg _
        have hkl : (k : Int) < (l.length : Int) := by omega
        go_wp2_with fail
        generalize (((wr.setCell ⟨w1.heap.size, k, none⟩ (.pointer (some ⟨wr.heap.size + 1, 0, none⟩))).alloc (.cells #[.string nm, .int .i64 sz, .int .i64 (p : Int)] 34)).alloc (.cells #[.string nm, .int .i64 sz, .pointer none, .slice none 0 0] 173)) = W3 at *
        obtain ⟨cs, hrow, hcs, hci⟩ := HM.out.row
        have gp : W3.cell? ⟨w1.heap.size, p, none⟩ = some (.pointer (some ⟨upd nb k (wr.heap.size + 1) p, 0, none⟩)) := by rw [hrow.cell]; exact hci p (by omega)
        have gk : W3.cell? ⟨w1.heap.size, k, none⟩ = some (.pointer (some ⟨upd nb k (wr.heap.size + 1) k, 0, none⟩)) := by rw [hrow.cell]; exact hci k (by omega)
        clear hrow hcs hci cs
        have e2 := HE2.out
        clear hne c0 c1 c2 d f
        generalize upd nb k (wr.heap.size + 1) = nb' at *
        go_still_tail 9, (by kernel_rfl)
        change wpList _ _ _ _ _ W3.drew
        go_wp2_with fail
        have hsp : l[p]? = some (l[p]'(by omega)) := List.getElem?_eq_getElem (by omega)
        generalize l[p]'(by omega) = sp at *
        have HSP := Lib.hid hsp
        clear hsp
        refine (adopt_any w.heap.size (nb' p) (nb' k) (kidsOf l p k).length nm sp.name sz sp.size none (parPtr l nb' p) nilKids (cv p) (ptrsOf nb' (kidsOf l p k)) W3.drew (HM.out.fresh k _ (Nat.le_refl _) (by omega) HS.out) (HM.out.node p _ hpk HSP.out) (HM.out.apart p k (by omega) (by omega) (by omega)) (HM.out.kids p hpk) hbW.drew.size (by have := kidsOf_len l p k; omega)).mono ?_
        intro e w4 ha
        have ha1 := ha.1
        subst ha1
        have hbN := HM.out.drew.child_below hbW.drew hpk (by omega) ha
        obtain ⟨v', hN⟩ := HM.out.drew.child (HD.out.mono (by omega)) hlt HS.out HSP.out HP.out hpk ha
        clear ha
        have HN4 := Lib.hid hN
        clear hN
        go_wp2
        go_roundw
        case rel => exact ⟨k + 1, _, _, by omega, by go_num, HN4.out, hbN⟩
        case measure => simp [intOf]; omega
    · obtain rfl : k = l.length := by omega
      go_wp2
      go_ret
      exact ⟨_, nb, cv, rfl, hnd, hb⟩

end Go.Proofs.YtifkmehnikfihaaGreat

/- impl.findNode and impl.SizeOf. -/
namespace Go.Proofs.YtifkmehnikfihaaGreat
open Go.RowKit

theorem ret_ptr {a b : Option Addr} (h : a = b) : Ending.returned (.pointer a) = .returned (.pointer b) := by rw [h]
def foundPtr (l : List Seg) (nb : Nat → Nat) (s : ByteArray) : Option Addr := if seek l s < 0 then none else some ⟨nb (seek l s).toNat, 0, none⟩

set_option maxRecDepth 100000 in
set_option maxHeartbeats 400000 in
theorem findNode_nil (s : ByteArray) (w : World) :
    Calls Tryz.prog 164 #[.slice none 0 0, .string s] w fun e w' => e = .returned (.pointer none) ∧ w = w' := by
  go_enter Tryz.func164, Tryz.ntmps164
  go_wp2
  go_loop [9] (fun i => i = .int .i64 0) (fun _ => 0)
  case atStart => rfl
  case round =>
    subst hrel
    go_wp2
    go_ret
    exact ⟨rfl, rfl⟩

set_option maxRecDepth 100000 in
set_option maxHeartbeats 400000 in
theorem findNode_any (B g : Nat) (l : List Seg) (nb : Nat → Nat) (cv : Nat → Value) (s : ByteArray) (w : World) (h : Nodes w B g l.length l.length l nb cv) (hl : l.length ≤ 1048576) :
    Calls Tryz.prog 164 #[.slice (some ⟨g, 0, none⟩) l.length l.length, .string s] w fun e w' => e = .returned (.pointer (foundPtr l nb s)) ∧ w = w' := by
  have HN := Lib.hid h
  clear h
  go_enter Tryz.func164, Tryz.ntmps164
  go_wp2
  go_loop [9] (fun i => ∃ (k : Nat), k ≤ l.length ∧ i = .int .i64 k ∧ Hid (seek l s = seekFrom s (l.drop k) k))
    (fun i => l.length - (intOf i).toNat)
  case atStart => exact ⟨0, Nat.zero_le _, rfl, rfl⟩
  case round =>
    obtain ⟨k, hk, rfl, HS⟩ := hrel
    by_cases hlt : k < l.length
    · obtain ⟨cs, hrow, _, hci⟩ := HN.out.row
      have gk : w.cell? ⟨g, k, none⟩ = some (.pointer (some ⟨nb k, 0, none⟩)) := by rw [hrow.cell]; exact hci k hlt
      have nk : w.cell? ⟨nb k, 0, none⟩ = some (.string l[k].name) := (HN.out.node k _ hlt (List.getElem?_eq_getElem hlt)).cell 0
      clear hrow hci
      have HD : Hid _ := seekFrom_drop l s k hlt
      generalize l[k] = x at *
      cases ht : (x.name.toList == s.toList) with
      | true =>
        have HE : Hid (foundPtr l nb s = some ⟨nb k, 0, none⟩) := by
          have h1 : seek l s = (k : Int) := by rw [HS.out, HD.out]; exact if_pos ht
          show foundPtr l nb s = _
          unfold foundPtr
          rw [h1, if_neg (by omega), Int.toNat_natCast]
        go_wp2
        go_ret
        exact ⟨ret_ptr HE.out.symm, rfl⟩
      | false =>
        have HE : Hid (seek l s = seekFrom s (l.drop (k + 1)) (k + 1)) := by
          show _ = _
          rw [HS.out, HD.out]
          exact if_neg (by rw [show sameB x.name s = false from ht]; decide)
        go_wp2
        go_round
        case rel => exact ⟨k + 1, by omega, by go_num, HE⟩
        case measure => simp [intOf]; omega
    · have HE : Hid (foundPtr l nb s = none) := by
        have h1 : seek l s = -1 := by rw [HS.out, List.drop_of_length_le (by omega)]; rfl
        show foundPtr l nb s = _
        unfold foundPtr
        rw [if_pos (by omega)]
      go_wp2
      go_ret
      exact ⟨ret_ptr HE.out.symm, rfl⟩

set_option maxRecDepth 100000 in
set_option maxHeartbeats 400000 in
theorem nodesOf_bad (A : Option Addr) (l : List Seg) (c : Nat) (w : World) (hw : Segs w w.heap.size A l) (hl : l.length ≤ 1048576) (hlc : l.length ≤ c) (hcm : c ≤ 9223372036854775807) (hn : Short l) (hv : validB l = false) :
    Calls Tryz.prog 82 #[.slice A l.length c] w fun e w' => e = .returned (.slice none 0 0) ∧ Below w.heap.size w w' := by
  have HW : Hid (Segs w w.heap.size A l) := hw
  clear hw
  go_enter Tryz.func82, Tryz.ntmps82
  go_wp2_with fail
  refine (treeValid_any _ _ _ _ HW.out hl hlc hcm hn).mono ?_
  rw [hv]
  rintro e w1 ⟨rfl, hb1⟩
  go_wp2
  go_ret
  exact ⟨rfl, hb1⟩

end Go.Proofs.YtifkmehnikfihaaGreat
/- A row of texts of the call's own; marks in segments and in texts: what a law writes into what it was given, and whether it is held. -/
namespace Go.Proofs.YtifkmehnikfihaaGreat
open Go.RowKit

/-- Texts in a row of the call's own. -/
def OwnTexts (w : World) (B : Nat) (v : Value) (ts : List ByteArray) : Prop := w.ownsRow B 9 1 v ts.length (ts.map Value.string)
theorem OwnTexts.far {w w' : World} {B : Nat} {v : Value} {ts : List ByteArray} (h : OwnTexts w B v ts) (hk : ∀ g, v.ownBlock = some g → w'.heap[g]? = w.heap[g]?) : OwnTexts w' B v ts := by
  refine ⟨h.1, ?_⟩
  rcases h.2 with h0 | ⟨g', cap, cur, rfl, hg, hh, r⟩
  · exact .inl h0
  · exact .inr ⟨g', cap, cur, rfl, hg, (hk g' rfl).trans hh, r⟩
theorem OwnTexts.below {w w' : World} {B : Nat} {v : Value} {ts : List ByteArray} (h : OwnTexts w B v ts) (hb : Below w.heap.size w w') : OwnTexts w' B v ts := h.far fun g hg => hb.block g (World.ownsRow.lt h g hg).2
theorem info_str : (Tryz.prog.info? 9).map (fun i => (i.zero, i.size, i.bytes)) = some (some (.string ByteArray.empty), 1, 16) := by kernel_rfl

theorem OwnTexts.empty (w : World) {B : Nat} (hB : B ≤ w.heap.size) : OwnTexts (w.alloc (.cells #[] 9)) B (.slice (some ⟨w.heap.size, 0, none⟩) 0 0) [] :=
  World.ownsRow_lit w #[] 0 hB (by simp [maxLen]) rfl
theorem OwnTexts.one (w : World) {B : Nat} (hB : B ≤ w.heap.size) (s : ByteArray) : OwnTexts (w.alloc (.cells #[.string s] 9)) B (.slice (some ⟨w.heap.size, 0, none⟩) 1 1) [s] :=
  World.ownsRow_lit w #[.string s] 1 hB (by simp [maxLen]) rfl
theorem OwnTexts.form {w : World} {B : Nat} {v : Value} {ts : List ByteArray} (h : OwnTexts w B v ts) (hn : 0 < ts.length) : ∃ g cap, v = .slice (some ⟨g, 0, none⟩) ts.length cap := own_form h hn

end Go.Proofs.YtifkmehnikfihaaGreat
namespace Go.Proofs.YtifkmehnikfihaaGreat.St
open Go.RowKit

def digC (m : Nat) : UInt8 := UInt8.ofNat (48 + m % 10)
theorem digC_nat (m : Nat) : (digC m).toNat = 48 + m % 10 := by
  unfold digC
  rw [UInt8.toNat_ofNat']
  omega
/-- The decimal digits of a number, ahead of a text. -/
def mtl (k : Nat) (out : ByteArray) : ByteArray := if _h : k = 0 then out else mtl (k / 10) (⟨#[digC k]⟩ ++ out)
termination_by k
decreasing_by omega
theorem mtl_zero (out : ByteArray) : mtl 0 out = out := by
  rw [mtl]
  exact dif_pos rfl
theorem mtl_step {k : Nat} (h : 0 < k) (out : ByteArray) : mtl k out = mtl (k / 10) (⟨#[digC k]⟩ ++ out) := by
  conv => lhs; rw [mtl]
  exact dif_neg (by omega)
def mt (k : Nat) : ByteArray := ⟨#[109]⟩ ++ mtl k ⟨#[]⟩

set_option maxRecDepth 100000 in
set_option maxHeartbeats 1000000 in
theorem markText_any (k : Nat) (w : World) (h0 : 0 < k) (hk : k ≤ 10000000) :
    Calls Tryz.prog 127 #[.int .i64 k] w fun e w' => e = .returned (.string (mt k)) ∧ Below w.heap.size w w' := by
  have HM : Hid (mt k = ⟨#[109]⟩ ++ mtl k ⟨#[]⟩) := rfl
  have h0' : ¬ (k : Int) ≤ 0 := by omega
  go_enter Tryz.func127, Tryz.ntmps127
  go_wp2
  go_loopw [0, 3] (fun v o wr => ∃ (m : Nat) (s : ByteArray), v = .int .i64 m ∧ o = .string s ∧ s.size + m ≤ 10000000 ∧ Hid (mtl k ⟨#[]⟩ = mtl m s) ∧ Below w.heap.size w wr)
    (fun v _ _ => (intOf v).toNat)
  case atStart => exact ⟨k, ⟨#[]⟩, rfl, rfl, (by have h : (⟨#[]⟩ : ByteArray).size = 0 := rfl; omega), rfl, Below.refl _ _⟩
  case round =>
    obtain ⟨m, s, rfl, rfl, hs, HK, hb⟩ := hrel
    have hm0 : (0 : Int) ≤ (m : Int) := Int.natCast_nonneg _
    by_cases hm : 0 < m
    · have hm' : (0 : Int) < (m : Int) := by omega
      have HS := Lib.hid (HK.out.trans (mtl_step hm s))
      have hcv : (convert 22 9 (.slice (some ⟨wr.heap.size, 0, none⟩) 1 1)).run Tryz.prog (wr.alloc (.cells #[.int .u8 (48 + (m : Int) % 10)] 5)) = .ok (.string ⟨#[digC m]⟩) (wr.alloc (.cells #[.int .u8 (48 + (m : Int) % 10)] 5)) :=
        run_convert_bytes_back (P := Tryz.prog) _ 22 9 5 ⟨wr.heap.size, 0, none⟩ 1 [digC m] Tryz.underlying22 Tryz.underlying5 Tryz.underlying9 (fun j hj => by
          have : j = 0 := by simp at hj; omega
          subst this
          have h := (Row.new wr 5 #[.int .u8 (48 + (m : Int) % 10)]).cell 0
          have e : (48 + (m : Int) % 10) = ((digC m).toNat : Int) := by rw [digC_nat]; omega
          rw [e] at h ⊢
          exact h)
      have hsz : (⟨#[digC m]⟩ ++ s : ByteArray).size + m / 10 ≤ 10000000 := by
        have h1 : (⟨#[digC m]⟩ ++ s : ByteArray).size = 1 + s.size := by rw [ByteArray.size_append]; rfl
        omega
      go_wp2
      go_roundw
      case rel => exact ⟨m / 10, ⟨#[digC m]⟩ ++ s, congrArg (Value.int .i64) (by omega), rfl, hsz, HS, hb.alloc hb.size _⟩
      case measure => simp [intOf]; omega
    · obtain rfl : m = 0 := by omega
      have HZ := Lib.hid (HK.out.trans (mtl_zero s))
      go_wp2
      go_ret
      exact ⟨by rw [HM.out, HZ.out]; rfl, hb⟩


theorem onlyRefl (w : World) (may : Nat → Prop) : Only w w may := ⟨rfl, rfl, rfl, Nat.le_refl _, fun _ _ _ => rfl⟩
theorem onlyBelow {w w1 w2 : World} {may : Nat → Prop} (h : Only w w1 may) (hb : Below w1.heap.size w1 w2) : Only w w2 may :=
  ⟨hb.os.trans h.os, hb.tape.trans h.tape, hb.output.trans h.output, Nat.le_trans h.size hb.size, fun k hk hn => (hb.block k (Nat.lt_of_lt_of_le hk h.size)).trans (h.block k hk hn)⟩
theorem onlyPut {w w' : World} {may : Nat → Prop} (h : Only w w' may) {b : Nat} (hm : may b) (i : Nat) (u : Value) : Only w (w'.setCell ⟨b, i, none⟩ u) may := by
  have hb : Below 0 w' (w'.setCell ⟨b, i, none⟩ u) := (Below.refl 0 w').setCell (Nat.zero_le _) u
  exact ⟨hb.os.trans h.os, hb.tape.trans h.tape, hb.output.trans h.output, by have := h.size; have := hb.size; omega, fun k hk hn => (Below.heap_setCell w' ⟨b, i, none⟩ u k (fun e => hn (by rw [e]; exact hm))).trans (h.block k hk hn)⟩

/-- A slice of texts in memory below 'B'. -/
def Strs (w : World) (B : Nat) (A : Option Addr) (ts : List ByteArray) : Prop :=
  0 < ts.length → ∃ b o, A = some ⟨b, o, none⟩ ∧ b < B ∧ ∀ (k : Nat) (s : ByteArray), ts[k]? = some s → w.cell? ⟨b, o + k, none⟩ = some (.string s)
theorem Strs.below {w w' : World} {B : Nat} {A : Option Addr} {l : List ByteArray} (h : Strs w B A l) (hb : Below B w w') : Strs w' B A l := fun hl => by
  obtain ⟨b, o, e, hB, hc⟩ := h hl
  refine ⟨b, o, e, hB, fun k s hk => ?_⟩
  rw [hb.cell hB]
  exact hc k s hk
theorem Strs.more {w : World} {B B' : Nat} {A : Option Addr} {l : List ByteArray} (h : Strs w B A l) (hB : B ≤ B') : Strs w B' A l := fun hl => by
  obtain ⟨b, o, e, hb, hc⟩ := h hl
  exact ⟨b, o, e, Nat.lt_of_lt_of_le hb hB, hc⟩
theorem textsCell {w : World} {B g cap : Nat} {ts : List ByteArray} (h : OwnTexts w B (.slice (some ⟨g, 0, none⟩) ts.length cap) ts) {i : Nat} {s : ByteArray} (hi : ts[i]? = some s) : w.cell? ⟨g, i, none⟩ = some (.string s) := by
  have hlt := (List.getElem?_eq_some_iff.1 hi).1
  have := World.ownsRow.cellAt h i (by omega)
  rw [this, List.getElem?_map, hi]
  rfl
theorem textsForm {w : World} {B : Nat} {v : Value} {ts : List ByteArray} (h : OwnTexts w B v ts) : ∃ A cap, v = .slice A ts.length cap ∧ Strs w w.heap.size A ts := by
  have h' := h
  rcases h.2 with ⟨rfl, h0⟩ | ⟨g, cap, cur, rfl, hg, hh, r⟩
  · exact ⟨none, 0, by rw [h0], fun h => absurd h (by omega)⟩
  · refine ⟨_, cap, rfl, fun _ => ⟨g, 0, rfl, (Array.getElem?_eq_some_iff.1 hh).1, fun k s hk => ?_⟩⟩
    rw [Nat.zero_add]
    exact textsCell h' hk
theorem textsFree {w : World} {B g cap n : Nat} {ts : List ByteArray} (h : OwnTexts w B (.slice (some ⟨g, 0, none⟩) n cap) ts) (j : Nat) : w.frozen? ⟨g, j, none⟩ = false := by
  rcases h.2 with ⟨h0, _⟩ | ⟨g', cap', cur, hv, hg, hh, _⟩
  · cases h0
  · injection hv with hv1 _ hv3
    injection hv1 with hv1
    injection hv1 with hv1
    subst hv1
    exact Row.free (hh : Row w g _ cur) j
theorem textsStore {w : World} {B g cap : Nat} {ts : List ByteArray} (h : OwnTexts w B (.slice (some ⟨g, 0, none⟩) ts.length cap) ts) (i : Nat) (s : ByteArray) :
    OwnTexts (w.setCell ⟨g, i, none⟩ (.string s)) B (.slice (some ⟨g, 0, none⟩) ts.length cap) (ts.set i s) := by
  unfold OwnTexts at h ⊢
  rw [List.length_set]
  refine ⟨by simp, ?_⟩
  rcases h.2 with ⟨h0, _⟩ | ⟨g', cap', cur, hv, hg, hh, h1, h2, h3, h4⟩
  · cases h0
  · injection hv with hv1 _ hv3
    injection hv1 with hv1
    injection hv1 with hv1
    subst hv1 hv3
    have hr : Row w g 9 cur := hh
    refine .inr ⟨g, cap, _, rfl, hg, hr.put i _, h1, h2, by simpa using h3, ?_⟩
    rw [List.map_set, ← h4]
    simp only [Array.toList_setIfInBounds, List.take_set]
theorem textsFar {w w' : World} {B : Nat} {v : Value} {ts : List ByteArray} {may : Nat → Prop} (h : OwnTexts w B v ts) (ho : Only w w' may) (hm : ∀ g, v.ownBlock = some g → ¬ may g) : OwnTexts w' B v ts :=
  h.far fun g hg => ho.block g (World.ownsRow.lt h g hg).2 (hm g hg)

/-- The first 'i' are marked. -/
def smarked (ts : List ByteArray) (k : Nat) : Nat → List ByteArray
  | 0 => ts
  | i + 1 => (smarked ts k i).set i (mt (k + i))
theorem smarked_len (l : List ByteArray) (k : Nat) : ∀ i, (smarked l k i).length = l.length
  | 0 => rfl
  | i + 1 => by
    show ((smarked l k i).set i _).length = _
    rw [List.length_set, smarked_len l k i]
theorem smarked_at (l : List ByteArray) (k : Nat) : ∀ i j, j < i → i ≤ l.length → (smarked l k i)[j]? = some (mt (k + j))
  | 0, _, h, _ => absurd h (by omega)
  | i + 1, j, h, hi => by
    show ((smarked l k i).set i _)[j]? = _
    by_cases hj : j = i
    · subst hj
      rw [List.getElem?_set_self (by rw [smarked_len]; omega)]
    · rw [List.getElem?_set_ne (by omega)]
      exact smarked_at l k i j (by omega) (by omega)

set_option maxRecDepth 100000 in
set_option maxHeartbeats 2000000 in
theorem markSegmentS_only (k g n cap : Nat) (cs : Array Value) (w : World) (hr : Row w g 34 cs) (hc : cs.size = n * 3) (hk : k = 1) (hn : n ≤ 1048576) :
    Calls Tryz.prog 68 #[.slice (some ⟨g, 0, none⟩) n cap, .int .i64 k] w fun e w' => e = .returned (.int .i64 ((k + 3 * n : Nat) : Int)) ∧ Only w w' (· = g) := by
  have h0k : 0 < k := by omega
  have hk9 : k ≤ 10 := by omega
  clear hk
  have HR0 : Hid (Row w g 34 cs) := hr
  clear hr
  go_enter Tryz.func68, Tryz.ntmps68
  go_wp2
  go_loopw [1, 5] (fun a c wr => ∃ (i : Nat) (cs' : Array Value), i ≤ n ∧ c = .int .i64 i ∧ a = .int .i64 ((k + 3 * i : Nat) : Int) ∧ cs'.size = n * 3 ∧ Hid (Row wr g 34 cs') ∧ Hid (Only w wr (· = g)))
    (fun _ c _ => n - (intOf c).toNat)
  case atStart => exact ⟨0, cs, Nat.zero_le _, rfl, rfl, hc, HR0, onlyRefl _ _⟩
  case round =>
    obtain ⟨i, cs', hi, rfl, rfl, hz, HR, HY⟩ := hrel
    by_cases hlt : i < n
    · have hlt' : (i : Int) < (n : Int) := by omega
      have hi0 : (0 : Int) ≤ (i : Int) := Int.natCast_nonneg _
      go_wp2_with fail
      refine (markText_any (k + 3 * i) _ (by omega) (by omega)).mono ?_
      rintro e w1 ⟨rfl, hb1⟩
      have hr1 := HR.out.below hb1 HR.out.lt
      have z0 := hr1.free (i * 3)
      have z1 := hr1.free (i * 3 + 1)
      have z2 := hr1.free (i * 3 + 2)
      have d0 : w1.cell? ⟨g, i * 3, none⟩ = some (cs'[i * 3]'(by omega)) := by rw [hr1.cell, Array.getElem?_eq_getElem]
      have d1 : w1.cell? ⟨g, i * 3 + 1, none⟩ = some (cs'[i * 3 + 1]'(by omega)) := by rw [hr1.cell, Array.getElem?_eq_getElem]
      have d2 : w1.cell? ⟨g, i * 3 + 2, none⟩ = some (cs'[i * 3 + 2]'(by omega)) := by rw [hr1.cell, Array.getElem?_eq_getElem]
      have HR2 : Hid (∀ u0 u1 u2, Row (((w1.setCell ⟨g, i * 3, none⟩ u0).setCell ⟨g, i * 3 + 1, none⟩ u1).setCell ⟨g, i * 3 + 2, none⟩ u2) g 34 (((cs'.setIfInBounds (i * 3) u0).setIfInBounds (i * 3 + 1) u1).setIfInBounds (i * 3 + 2) u2)) := fun u0 u1 u2 => ((hr1.put _ _).put _ _).put _ _
      have HZ2 : Hid (∀ u0 u1 u2, (((cs'.setIfInBounds (i * 3) u0).setIfInBounds (i * 3 + 1) u1).setIfInBounds (i * 3 + 2) u2).size = n * 3) := fun u0 u1 u2 => by simpa using hz
      have HY1 : Hid (Only w w1 (· = g)) := onlyBelow HY.out hb1
      clear hr1 hb1 HR HY
      generalize cs'[i * 3]'_ = v0 at *
      generalize cs'[i * 3 + 1]'_ = v1 at *
      generalize cs'[i * 3 + 2]'_ = v2 at *
      generalize mt (k + 3 * i) = mm at *
      clear hz
      go_wp2
      go_roundw
      case rel => exact ⟨i + 1, _, by omega, by go_num, congrArg (Value.int .i64) (by omega), HZ2.out _ _ _, HR2.out _ _ _, onlyPut (onlyPut (onlyPut HY1.out rfl _ _) rfl _ _) rfl _ _⟩
      case measure => simp [intOf]; omega
    · obtain rfl : i = n := by omega
      go_wp2
      go_ret
      exact ⟨rfl, HY.out⟩

set_option maxHeartbeats 400000 in
theorem toSegmentS_row (A : Option Addr) (l : List Seg) (c : Nat) (w : World) (hw : Segs w w.heap.size A l) (hl : l.length ≤ 1048576) :
    Calls Tryz.prog 65 #[.slice A l.length c] w fun e w' => e = .returned (.slice (some ⟨w.heap.size, 0, none⟩) l.length l.length) ∧ Below w.heap.size w w' ∧ Segs w' w'.heap.size (some ⟨w.heap.size, 0, none⟩) l ∧ ∃ cs, Row w' w.heap.size 34 cs ∧ cs.size = l.length * 3 := by
  have HW : Hid (Segs w w.heap.size A l) := hw
  clear hw
  have hmk := run_make_segs l.length hl
  go_enter Tryz.func65, Tryz.ntmps65
  go_wp2
  go_loopw [4] (fun i wr => ∃ (k : Nat) (cs : Array Value), k ≤ l.length ∧ i = .int .i64 k ∧ Below w.heap.size w wr ∧ Row wr w.heap.size 34 cs ∧ Filled l k cs)
    (fun i _ => l.length - (intOf i).toNat)
  case atStart => exact ⟨0, _, Nat.zero_le _, rfl, (Below.refl _ _).alloc (Nat.le_refl _) _, Row.new _ _ _, Filled.start _ (size_madeCells _ _)⟩
  case round =>
    obtain ⟨k, cs, hk, rfl, hb, hrow, hf⟩ := hrel
    have hz : w.heap.size < wr.heap.size := hrow.lt
    by_cases hlt : k < l.length
    · obtain ⟨b, o, rfl, hB, hc⟩ := HW.out (by omega)
      obtain ⟨c0, c1, c2⟩ := hc k l[k] (List.getElem?_eq_getElem hlt)
      clear hc
      rw [← hb.cell hB] at c0 c1 c2
      have HN := Lib.hid (hf.next hlt)
      have HS := Lib.hid hf.1
      clear hf
      generalize l[k] = s at *
      go_wp2_with fail
      refine (toSegment_any s.name s.size s.par _).mono ?_
      rintro e w1 ⟨rfl, hb1⟩
      have hrow1 := hrow.below hb1 hz
      clear hrow
      have hb2 : Below w.heap.size w w1 := hb.trans (hb1.mono hb.size)
      have f0 := hrow1.free (k * 3)
      have f1 := hrow1.free (k * 3 + 1)
      have f2 := hrow1.free (k * 3 + 2)
      have d0 : w1.cell? ⟨w.heap.size, k * 3, none⟩ = some (cs[k * 3]'(by have := HS.out; omega)) := by rw [hrow1.cell, Array.getElem?_eq_getElem]
      have d1 : w1.cell? ⟨w.heap.size, k * 3 + 1, none⟩ = some (cs[k * 3 + 1]'(by have := HS.out; omega)) := by rw [hrow1.cell, Array.getElem?_eq_getElem]
      have d2 : w1.cell? ⟨w.heap.size, k * 3 + 2, none⟩ = some (cs[k * 3 + 2]'(by have := HS.out; omega)) := by rw [hrow1.cell, Array.getElem?_eq_getElem]
      have HR := Lib.hid hrow1
      clear hrow1
      generalize cs[k * 3]'_ = u0 at *
      generalize cs[k * 3 + 1]'_ = u1 at *
      generalize cs[k * 3 + 2]'_ = u2 at *
      go_wp2
      go_roundw
      case rel => exact ⟨k + 1, _, by omega, by go_num, ((hb2.setCell (Nat.le_refl _) _).setCell (Nat.le_refl _) _).setCell (Nat.le_refl _) _, ((HR.out.put _ _).put _ _).put _ _, HN.out⟩
      case measure => simp [intOf]; omega
    · obtain rfl : k = l.length := by omega
      have hd := hf.done hrow
      have HQ := Lib.hid hrow
      have HQ2 := Lib.hid hf.1
      clear hf hrow
      go_wp2
      go_ret
      exact ⟨rfl, hb, hd, _, HQ.out, HQ2.out⟩

end Go.Proofs.YtifkmehnikfihaaGreat.St

namespace Go.Proofs.YtifkmehnikfihaaGreat
open Go.RowKit

theorem mark1 (g n cap : Nat) (cs : Array Value) (w : World) (hr : Row w g 34 cs) (hc : cs.size = n * 3) (hn : n ≤ 1048576) :
    Calls Tryz.prog 68 #[.slice (some ⟨g, 0, none⟩) n cap, .int .i64 1] w fun e w' => e = .returned (.int .i64 ((1 + 3 * n : Nat) : Int)) ∧ Only w w' (· = g) :=
  St.markSegmentS_only 1 g n cap cs w hr hc rfl hn

theorem strsOf {w : World} {B n cap : Nat} {A : Option Addr} {ts : List ByteArray} (h : OwnTexts w B (.slice A n cap) ts) : St.Strs w w.heap.size A ts := by
  obtain ⟨A', cap', e, h'⟩ := St.textsForm h
  injection e with e1 e2 e3
  rw [e1]
  exact h'

end Go.Proofs.YtifkmehnikfihaaGreat
/- A row of numbers of the call's own; marks in numbers: what a law writes into what it was given, and whether it is held. -/
namespace Go.Proofs.YtifkmehnikfihaaGreat.Si
open Go.RowKit

/-- Numbers in a row of the call's own. -/
def OwnInts (w : World) (B : Nat) (v : Value) (ts : List Int) : Prop := w.ownsRow B 3 1 v ts.length (ts.map (Value.int .i64))
theorem OwnInts.far {w w' : World} {B : Nat} {v : Value} {ts : List Int} (h : OwnInts w B v ts) (hk : ∀ g, v.ownBlock = some g → w'.heap[g]? = w.heap[g]?) : OwnInts w' B v ts := by
  refine ⟨h.1, ?_⟩
  rcases h.2 with h0 | ⟨g', cap, cur, rfl, hg, hh, r⟩
  · exact .inl h0
  · exact .inr ⟨g', cap, cur, rfl, hg, (hk g' rfl).trans hh, r⟩
theorem OwnInts.below {w w' : World} {B : Nat} {v : Value} {ts : List Int} (h : OwnInts w B v ts) (hb : Below w.heap.size w w') : OwnInts w' B v ts := h.far fun g hg => hb.block g (World.ownsRow.lt h g hg).2
theorem OwnInts.empty (w : World) {B : Nat} (hB : B ≤ w.heap.size) : OwnInts (w.alloc (.cells #[] 3)) B (.slice (some ⟨w.heap.size, 0, none⟩) 0 0) [] :=
  World.ownsRow_lit w #[] 0 hB (by simp [maxLen]) rfl
/-- A slice of numbers in memory below 'B'. -/
def Ints (w : World) (B : Nat) (A : Option Addr) (ts : List Int) : Prop :=
  0 < ts.length → ∃ b o, A = some ⟨b, o, none⟩ ∧ b < B ∧ ∀ (k : Nat) (s : Int), ts[k]? = some s → w.cell? ⟨b, o + k, none⟩ = some (.int .i64 s)
theorem Ints.below {w w' : World} {B : Nat} {A : Option Addr} {l : List Int} (h : Ints w B A l) (hb : Below B w w') : Ints w' B A l := fun hl => by
  obtain ⟨b, o, e, hB, hc⟩ := h hl
  refine ⟨b, o, e, hB, fun k s hk => ?_⟩
  rw [hb.cell hB]
  exact hc k s hk
theorem Ints.more {w : World} {B B' : Nat} {A : Option Addr} {l : List Int} (h : Ints w B A l) (hB : B ≤ B') : Ints w B' A l := fun hl => by
  obtain ⟨b, o, e, hb, hc⟩ := h hl
  exact ⟨b, o, e, Nat.lt_of_lt_of_le hb hB, hc⟩
theorem intsCell {w : World} {B g cap : Nat} {ts : List Int} (h : OwnInts w B (.slice (some ⟨g, 0, none⟩) ts.length cap) ts) {i : Nat} {s : Int} (hi : ts[i]? = some s) : w.cell? ⟨g, i, none⟩ = some (.int .i64 s) := by
  have hlt := (List.getElem?_eq_some_iff.1 hi).1
  have := World.ownsRow.cellAt h i (by omega)
  rw [this, List.getElem?_map, hi]
  rfl
theorem intsForm {w : World} {B : Nat} {v : Value} {ts : List Int} (h : OwnInts w B v ts) : ∃ A cap, v = .slice A ts.length cap ∧ Ints w w.heap.size A ts := by
  have h' := h
  rcases h.2 with ⟨rfl, h0⟩ | ⟨g, cap, cur, rfl, hg, hh, r⟩
  · exact ⟨none, 0, by rw [h0], fun h => absurd h (by omega)⟩
  · refine ⟨_, cap, rfl, fun _ => ⟨g, 0, rfl, (Array.getElem?_eq_some_iff.1 hh).1, fun k s hk => ?_⟩⟩
    rw [Nat.zero_add]
    exact intsCell h' hk
theorem intsOf {w : World} {B n cap : Nat} {A : Option Addr} {ts : List Int} (h : OwnInts w B (.slice A n cap) ts) : Ints w w.heap.size A ts := by
  obtain ⟨A', cap', e, h'⟩ := intsForm h
  injection e with e1 e2 e3
  rw [e1]
  exact h'
theorem intsFree {w : World} {B g cap n : Nat} {ts : List Int} (h : OwnInts w B (.slice (some ⟨g, 0, none⟩) n cap) ts) (j : Nat) : w.frozen? ⟨g, j, none⟩ = false := by
  rcases h.2 with ⟨h0, _⟩ | ⟨g', cap', cur, hv, hg, hh, _⟩
  · cases h0
  · injection hv with hv1 _ hv3
    injection hv1 with hv1
    injection hv1 with hv1
    subst hv1
    exact Row.free (hh : Row w g _ cur) j
theorem intsStore {w : World} {B g cap : Nat} {ts : List Int} (h : OwnInts w B (.slice (some ⟨g, 0, none⟩) ts.length cap) ts) (i : Nat) (s : Int) :
    OwnInts (w.setCell ⟨g, i, none⟩ (.int .i64 s)) B (.slice (some ⟨g, 0, none⟩) ts.length cap) (ts.set i s) := by
  unfold OwnInts at h ⊢
  rw [List.length_set]
  refine ⟨by simp, ?_⟩
  rcases h.2 with ⟨h0, _⟩ | ⟨g', cap', cur, hv, hg, hh, h1, h2, h3, h4⟩
  · cases h0
  · injection hv with hv1 _ hv3
    injection hv1 with hv1
    injection hv1 with hv1
    subst hv1 hv3
    have hr : Row w g 3 cur := hh
    refine .inr ⟨g, cap, _, rfl, hg, hr.put i _, h1, h2, by simpa using h3, ?_⟩
    rw [List.map_set, ← h4]
    simp only [Array.toList_setIfInBounds, List.take_set]
theorem intsFar {w w' : World} {B : Nat} {v : Value} {ts : List Int} {may : Nat → Prop} (h : OwnInts w B v ts) (ho : Only w w' may) (hm : ∀ g, v.ownBlock = some g → ¬ may g) : OwnInts w' B v ts :=
  h.far fun g hg => ho.block g (World.ownsRow.lt h g hg).2 (hm g hg)

/-- The first 'i' are marked. -/
def imarked (ts : List Int) (k : Nat) : Nat → List Int
  | 0 => ts
  | i + 1 => (imarked ts k i).set i ((k + i : Nat) : Int)
theorem imarked_len (l : List Int) (k : Nat) : ∀ i, (imarked l k i).length = l.length
  | 0 => rfl
  | i + 1 => by
    show ((imarked l k i).set i _).length = _
    rw [List.length_set, imarked_len l k i]
theorem imarked_at (l : List Int) (k : Nat) : ∀ i j, j < i → i ≤ l.length → (imarked l k i)[j]? = some ((k + j : Nat) : Int)
  | 0, _, h, _ => absurd h (by omega)
  | i + 1, j, h, hi => by
    show ((imarked l k i).set i _)[j]? = _
    by_cases hj : j = i
    · subst hj
      rw [List.getElem?_set_self (by rw [imarked_len]; omega)]
    · rw [List.getElem?_set_ne (by omega)]
      exact imarked_at l k i j (by omega) (by omega)

set_option maxRecDepth 100000 in
set_option maxHeartbeats 1000000 in
theorem eqIntS_same (A A' : Option Addr) (l : List Int) (c c' : Nat) (w : World) (hw : Ints w w.heap.size A l) (hw' : Ints w w.heap.size A' l) (hl : l.length ≤ 1048576) :
    Calls Tryz.prog 67 #[.slice A l.length c, .slice A' l.length c'] w fun e w' => e = .returned (.bool true) ∧ Below w.heap.size w w' := by
  have HW : Hid (Ints w w.heap.size A l) := hw
  have HW' : Hid (Ints w w.heap.size A' l) := hw'
  clear hw hw'
  go_enter Tryz.func67, Tryz.ntmps67
  go_wp2
  go_loopw [5] (fun i wr => ∃ (k : Nat), k ≤ l.length ∧ i = .int .i64 k ∧ Below w.heap.size w wr)
    (fun i _ => l.length - (intOf i).toNat)
  case atStart => exact ⟨0, Nat.zero_le _, rfl, Below.refl _ _⟩
  case round =>
    obtain ⟨k, hk, rfl, hb⟩ := hrel
    by_cases hlt : k < l.length
    · have hlt' : (k : Int) < (l.length : Int) := by omega
      have hk0 : (0 : Int) ≤ (k : Int) := Int.natCast_nonneg _
      obtain ⟨b, o, rfl, hB, hc⟩ := HW.out (by omega)
      obtain ⟨b', o', rfl, hB', hc'⟩ := HW'.out (by omega)
      have c0 := hc k l[k] (List.getElem?_eq_getElem hlt)
      have d0 := hc' k l[k] (List.getElem?_eq_getElem hlt)
      clear hc hc'
      rw [← hb.cell hB] at c0
      rw [← hb.cell hB'] at d0
      generalize l[k] = s at *
      have HB2 := Lib.hid hb.drew
      go_wp2
      go_quiet (fail)
      go_wp2
      go_roundw
      case rel => exact ⟨k + 1, by omega, by go_num, below_drewN hb _⟩
      case measure => simp [intOf]; omega
    · go_wp2
      go_ret
      exact ⟨rfl, hb⟩

set_option maxRecDepth 100000 in
set_option maxHeartbeats 1000000 in
theorem markIntS_any (B k : Nat) (v : Value) (l : List Int) (w : World) (hown : OwnInts w B v l) (hk : k = 1) (hl : l.length ≤ 1000) :
    Calls Tryz.prog 69 #[v, .int .i64 k] w fun e w' => e = .returned (.int .i64 ((k + l.length : Nat) : Int)) ∧ OwnInts w' B v (imarked l k l.length) ∧ Only w w' (fun b => v.ownBlock = some b) := by
  have hk9 : k ≤ 10 := by omega
  clear hk
  obtain ⟨A, cap, rfl, -⟩ := intsForm hown
  have HO := Lib.hid hown
  clear hown
  go_enter Tryz.func69, Tryz.ntmps69
  go_wp2
  go_loopw [1, 5] (fun a c wr => ∃ (i : Nat), i ≤ l.length ∧ c = .int .i64 i ∧ a = .int .i64 ((k + i : Nat) : Int) ∧ Hid (OwnInts wr B (.slice A l.length cap) (imarked l k i)) ∧ Hid (Only w wr (fun b => (Value.slice A l.length cap).ownBlock = some b)))
    (fun _ c _ => l.length - (intOf c).toNat)
  case atStart => exact ⟨0, Nat.zero_le _, rfl, rfl, HO, St.onlyRefl _ _⟩
  case round =>
    obtain ⟨i, hi, rfl, rfl, HT, HY⟩ := hrel
    by_cases hlt : i < l.length
    · have hlt' : (i : Int) < (l.length : Int) := by omega
      have hi0 : (0 : Int) ≤ (i : Int) := Int.natCast_nonneg _
      have hml := imarked_len l k i
      have hT := HT.out
      rw [← hml] at hT
      obtain ⟨g, cap', hv⟩ := own_form hT (by omega)
      injection hv with hA _ hc
      subst hA hc
      have hold : (imarked l k i)[i]? = some ((imarked l k i)[i]'(by omega)) := List.getElem?_eq_getElem (by omega)
      have hst := fun W (hW : OwnInts W B (.slice (some ⟨g, 0, none⟩) (imarked l k i).length cap) (imarked l k i)) => intsStore hW i ((k + i : Nat) : Int)
      generalize (imarked l k i)[i]'_ = old at *
      have d0 := intsCell hT hold
      have z0 := intsFree hT i
      have hT2 := hst wr hT
      rw [hml] at hT2
      have HT2 : Hid (OwnInts (wr.setCell ⟨g, i, none⟩ (.int .i64 ((k + i : Nat) : Int))) B (.slice (some ⟨g, 0, none⟩) l.length cap) (imarked l k (i + 1))) := hT2
      clear hT hst hold hml hT2 HT
      go_wp2
      go_roundw
      case rel => exact ⟨i + 1, by omega, by go_num, congrArg (Value.int .i64) (by omega), HT2, St.onlyPut HY.out rfl _ _⟩
      case measure => simp [intOf]; omega
    · obtain rfl : i = l.length := by omega
      go_wp2
      go_ret
      exact ⟨rfl, HT.out, HY.out⟩

set_option maxRecDepth 100000 in
set_option maxHeartbeats 2000000 in
theorem heldIntS_any (k : Nat) (A : Option Addr) (cap : Nat) (l : List Int) (w : World) (hw : Ints w w.heap.size A l) (hm : ∀ j, j < l.length → l[j]? = some ((k + j : Nat) : Int)) (hk : k = 1) (hl : l.length ≤ 1000) :
    Calls Tryz.prog 70 #[.slice A l.length cap, .int .i64 k] w fun e w' => e = .returned (.int .i64 ((k + l.length : Nat) : Int)) ∧ Below w.heap.size w w' := by
  have hk9 : k ≤ 10 := by omega
  clear hk
  have HW : Hid (Ints w w.heap.size A l) := hw
  have HM := Lib.hid hm
  clear hw hm
  go_enter Tryz.func70, Tryz.ntmps70
  go_wp2
  go_loopw [1, 5] (fun a c wr => ∃ (i : Nat), i ≤ l.length ∧ c = .int .i64 i ∧ a = .int .i64 ((k + i : Nat) : Int) ∧ Below w.heap.size w wr)
    (fun _ c _ => l.length - (intOf c).toNat)
  case atStart => exact ⟨0, Nat.zero_le _, rfl, rfl, Below.refl _ _⟩
  case round =>
    obtain ⟨i, hi, rfl, rfl, hb⟩ := hrel
    by_cases hlt : i < l.length
    · have hlt' : (i : Int) < (l.length : Int) := by omega
      have hi0 : (0 : Int) ≤ (i : Int) := Int.natCast_nonneg _
      obtain ⟨b, o, rfl, hB, hc⟩ := HW.out (by omega)
      have c0 := hc i _ (HM.out i hlt)
      clear hc
      rw [← hb.cell hB] at c0
      have HB2 := Lib.hid hb
      go_wp2
      go_roundw
      case rel => exact ⟨i + 1, by omega, by go_num, congrArg (Value.int .i64) (by omega), HB2.out⟩
      case measure => simp [intOf]; omega
    · obtain rfl : i = l.length := by omega
      go_wp2
      go_ret
      exact ⟨rfl, hb⟩

end Go.Proofs.YtifkmehnikfihaaGreat.Si

namespace Go.Proofs.YtifkmehnikfihaaGreat
open Go.RowKit

theorem imark1 (B : Nat) (v : Value) (l : List Int) (w : World) (hown : Si.OwnInts w B v l) (hl : l.length ≤ 1000) :
    Calls Tryz.prog 69 #[v, .int .i64 1] w fun e w' => e = .returned (.int .i64 ((1 + l.length : Nat) : Int)) ∧ Si.OwnInts w' B v (Si.imarked l 1 l.length) ∧ Only w w' (fun b => v.ownBlock = some b) :=
  Si.markIntS_any B 1 v l w hown rfl hl
theorem iheld1 (A : Option Addr) (n cap : Nat) (l : List Int) (w : World) (hn : l.length = n) (hw : Si.Ints w w.heap.size A (Si.imarked l 1 l.length)) (hl : l.length ≤ 1000) :
    Calls Tryz.prog 70 #[.slice A n cap, .int .i64 1] w fun e w' => e = .returned (.int .i64 ((1 + l.length : Nat) : Int)) ∧ Below w.heap.size w w' := by
  have h := Si.heldIntS_any 1 A cap (Si.imarked l 1 l.length) w hw (fun j hj => Si.imarked_at l 1 l.length j (by rw [Si.imarked_len] at hj; exact hj) (Nat.le_refl _)) rfl (by rw [Si.imarked_len]; exact hl)
  rw [Si.imarked_len, hn] at h
  rw [hn]
  exact h

end Go.Proofs.YtifkmehnikfihaaGreat
