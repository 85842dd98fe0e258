/- Joined: Pd Cs Er Pe Qc Vd Cm Qb Vf Vh Vi Vj Vk Lk Tx Ti Oc. -/
import Derived.Test.YtcpiojliakgdlaaGreatDoorU13
import Derived.Test.YtcpiojliakgdlaaGreatDoorU11
import Derived.Test.YtcpiojliakgdlaaGreatDoorU12
import Derived.BigQuiet
import Derived.Lib.IndexAny
import Derived.Maps.OwnIn
import Derived.LaidEqlPtr
import Derived.Laws.CopyOwn
import Derived.Lib.SliceRun
import Derived.Lib.Overlaps
import Derived.Lib.AppendZerosOnto
import Derived.Deep.Upon
import Derived.Deep.RegionLaw
import Derived.Laws.Externs
import Derived.Lib.AppendZeros
import Derived.Test.YtcpiojliakgdlaaGreatDoorU04
import Derived.Test.YtcpiojliakgdlaaGreatDoorU01
import Derived.Test.YtcpiojliakgdlaaGreatDoorU03
/- The program's rooms: where segments begin and end, the whole room, what is saved. -/
namespace Go.Proofs.YtcpiojliakgdlaaGreatDoor
open Go.RowKit

set_option maxRecDepth 100000 in
set_option maxHeartbeats 400000 in
theorem endsBehind_any (a b x y : Int) (w : World) :
    Calls Tryz.prog 64 #[.agg #[.int .i64 a, .int .i64 b], .agg #[.int .i64 x, .int .i64 y]] w fun e w' => e = .returned (.bool (decide (y < b))) ∧ Below w.heap.size w w' := by
  go_enter Tryz.func64, Tryz.ntmps64
  go_wp2
  go_ret
  refine ⟨ret_bool (by simp), ?_⟩
  repeat (first | exact Below.refl _ _ | refine Below.setCell ?_ (by simp) _ | refine Below.alloc ?_ (by simp; try omega) _)

/-- Of two the one that ends later, the first if neither does. -/
def laterOf (l : List Seg) (i j : Nat) : Nat := if endAt l i < endAt l j then j else i

set_option maxRecDepth 100000 in
set_option maxHeartbeats 400000 in
theorem endingLast_any (l : List Seg) (nb : Nat → Nat) (hv : validB l = true) (i j : Nat) (hi : i < l.length) (hj : j < l.length) (w : World) (hw : Placed w l nb) :
    Calls Tryz.prog 41 #[.pointer (some ⟨nb i, 0, none⟩), .pointer (some ⟨nb j, 0, none⟩)] w fun e w' => e = .returned (.pointer (some ⟨nb (laterOf l i j), 0, none⟩)) ∧ Below w.heap.size w w' := by
  have HW := Lib.hid hw
  have HV := Lib.hid hv
  clear hw hv
  by_cases h : endAt l i < endAt l j
  · have hd : decide (endAt l i < endAt l j) = true := decide_eq_true h
    have HP : Hid ((some ⟨nb (laterOf l i j), 0, none⟩ : Option Addr) = some ⟨nb j, 0, none⟩) := by
      show _ = _
      unfold laterOf
      rw [if_pos h]
    clear h
    go_enter Tryz.func41, Tryz.ntmps41
    go_wp2_with fail
    refine (place_any l nb HV.out j hj _ HW.out).mono ?_
    rintro e w1 ⟨rfl, hb1⟩
    go_wp2_with fail
    refine (place_any l nb HV.out i hi _ (HW.out.below hb1)).mono ?_
    rintro e w2 ⟨rfl, hb2⟩
    have B2 := hb1.trans (hb2.mono hb1.size)
    clear hb1 hb2
    go_wp2_with fail
    refine (endsBehind_any _ _ _ _ _).mono ?_
    rw [hd]
    rintro e w3 ⟨rfl, hb3⟩
    have B3 := B2.trans (hb3.mono B2.size)
    clear B2 hb3 hd
    go_wp2
    go_ret
    exact ⟨ret_ptr HP.out.symm, B3⟩
  · have hd : decide (endAt l i < endAt l j) = false := decide_eq_false h
    have HP : Hid ((some ⟨nb (laterOf l i j), 0, none⟩ : Option Addr) = some ⟨nb i, 0, none⟩) := by
      show _ = _
      unfold laterOf
      rw [if_neg h]
    clear h
    go_enter Tryz.func41, Tryz.ntmps41
    go_wp2_with fail
    refine (place_any l nb HV.out j hj _ HW.out).mono ?_
    rintro e w1 ⟨rfl, hb1⟩
    go_wp2_with fail
    refine (place_any l nb HV.out i hi _ (HW.out.below hb1)).mono ?_
    rintro e w2 ⟨rfl, hb2⟩
    have B2 := hb1.trans (hb2.mono hb1.size)
    clear hb1 hb2
    go_wp2_with fail
    refine (endsBehind_any _ _ _ _ _).mono ?_
    rw [hd]
    rintro e w3 ⟨rfl, hb3⟩
    have B3 := B2.trans (hb3.mono B2.size)
    clear B2 hb3 hd
    go_wp2
    go_ret
    exact ⟨ret_ptr HP.out.symm, B3⟩

set_option maxRecDepth 100000 in
set_option maxHeartbeats 400000 in
theorem fold_any (B g : Nat) (l : List Seg) (nb : Nat → Nat) (cv : Nat → Value) (w : World) (hN : Nodes w B g l.length l.length l nb cv) (hv : validB l = true) :
    Calls Tryz.prog 40 #[.slice (some ⟨g, 0, none⟩) l.length l.length, .func (.func 41) #[] #[]] w fun e w' => e = .returned (.pointer (some ⟨nb (lastIx l (l.length - 1)), 0, none⟩)) ∧ Below w.heap.size w w' := by
  have HN := Lib.hid hN
  have HV := Lib.hid hv
  obtain ⟨-, hl8, hl1⟩ := valid_all hv
  obtain ⟨cs, hrow, -, hci⟩ := hN.row
  have HC : Hid (∀ i, i < l.length → w.cell? ⟨g, i, none⟩ = some (.pointer (some ⟨nb i, 0, none⟩))) := fun i hi => by rw [hrow.cell]; exact hci i hi
  have hg := hrow.lt
  have c0 := HC.out 0 (by omega)
  clear hN hv hrow hci cs
  go_enter Tryz.func40, Tryz.ntmps40
  go_wp2
  · have H1 := Lib.hid h
    clear h
    go_loop [5, 14] (fun v i => v = .pointer (some ⟨nb 0, 0, none⟩) ∧ i = .int .i64 0) (fun _ _ => 0)
    case atStart => exact ⟨rfl, rfl⟩
    case round =>
      obtain ⟨rfl, rfl⟩ := hrel
      have HE : Hid (lastIx l (l.length - 1) = 0) := by
        show lastIx l (l.length - 1) = 0
        rw [H1.out]; rfl
      go_wp2
      go_ret
      exact ⟨ret_ptr (by rw [HE.out]), Below.refl _ _⟩
  · go_loopw [5, 14] (fun v i wr => ∃ (k : Nat), k + 1 ≤ l.length ∧ i = .int .i64 k ∧ v = .pointer (some ⟨nb (lastIx l k), 0, none⟩) ∧ Below w.heap.size w wr)
      (fun _ i _ => l.length - (intOf i).toNat)
    case atStart => exact ⟨0, by omega, rfl, rfl, Below.refl _ _⟩
    case round =>
      obtain ⟨k, hk, rfl, rfl, hb⟩ := hrel
      have hle := lastIx_le l k
      by_cases hlt : k + 1 < l.length
      · have HR : Hid (nb (lastIx l (k + 1)) = nb (laterOf l (lastIx l k) (k + 1))) := rfl
        have ck : wr.cell? ⟨g, 1 + k, none⟩ = some (.pointer (some ⟨nb (k + 1), 0, none⟩)) := by
          rw [Nat.add_comm 1 k, hb.cell (p := ⟨g, k + 1, none⟩) hg]
          exact HC.out (k + 1) hlt
        clear c0
        have hlt2 : (k : Int) < ((l.length - 1 : Nat) : Int) := by omega
        have hlt3 : decide (k < l.length - 1) = true := decide_eq_true (by omega)
        have hlt4 : k < l.length - 1 := by omega
        go_wp2_with fail
        refine (endingLast_any l nb HV.out (lastIx l k) (k + 1) (by omega) hlt _ (HN.out.placed.below hb)).mono ?_
        rintro e w1 ⟨rfl, hb1⟩
        have B1 := hb.trans (hb1.mono hb.size)
        clear hb hb1
        rw [← HR.out]
        go_wp2
        go_roundw
        case rel => exact ⟨k + 1, by omega, by go_num, rfl, B1⟩
        case measure => simp [intOf]; omega
      · obtain rfl : k = l.length - 1 := by omega
        go_wp2
        go_ret
        exact ⟨rfl, hb⟩

end Go.Proofs.YtcpiojliakgdlaaGreatDoor
/- spec.CommonOf. -/
namespace Go.Proofs.YtcpiojliakgdlaaGreatDoor
open Go.RowKit

def byteOf (l : List Seg) (v : Nat) : UInt8 := (nmAt l v).headD 0
theorem nmAt_one {l : List Seg} (h : validB l = true) {v : Nat} (hv : v < l.length) : nmAt l v = [byteOf l v] ∧ l[v].name = ⟨#[byteOf l v]⟩ := by
  obtain ⟨c, hc, _⟩ := nameOk_one ((valid_all h).1.name hv (List.getElem?_eq_getElem hv))
  unfold byteOf
  rw [nmAt_of hv, hc]
  exact ⟨rfl, rfl⟩
theorem byteOf_inj {l : List Seg} (h : validB l = true) {u v : Nat} (hu : u < l.length) (hv : v < l.length) (he : byteOf l u = byteOf l v) : u = v := by
  have key : ∀ a b : Nat, a < b → b < l.length → byteOf l a ≠ byteOf l b := fun a b hab hb e => by
    have h1 := (valid_all h).1 b hb
    rw [segOk_of hb] at h1
    simp only [Bool.and_eq_true, Bool.not_eq_true'] at h1
    have h2 := h1.1.1.2
    have h3 : takenB (l.take b) l[b].name = true := by
      unfold takenB
      refine List.any_eq_true.2 ⟨l[a]'(by omega), ?_, sameB_iff.2 ?_⟩
      · exact List.mem_take_iff_getElem.2 ⟨a, by omega, rfl⟩
      · rw [(nmAt_one h (show a < l.length by omega)).2, (nmAt_one h hb).2, e]
    rw [h3] at h2
    cases h2
  rcases Nat.lt_trichotomy u v with h1 | h1 | h1
  · exact absurd he (key u v h1 hv)
  · exact h1
  · exact absurd he.symm (key v u h1 hu)
theorem namesAt_map {l : List Seg} (h : validB l = true) : ∀ js : List Nat, (∀ j ∈ js, j < l.length) → (namesAt l js).data.toList = js.map (byteOf l)
  | [], _ => rfl
  | j :: js, hj => by
    have h1 := namesAt_map h js (fun x hx => hj x (List.mem_cons_of_mem _ hx))
    have e : (namesAt l (j :: js)).data.toList = nmAt l j ++ (namesAt l js).data.toList := by simp [namesAt]
    rw [e, h1, (nmAt_one h (hj j List.mem_cons_self)).1]
    rfl

end Go.Proofs.YtcpiojliakgdlaaGreatDoor

/- spec.CommonOf: the last name of the common beginning of two paths. -/
namespace Go.Proofs.YtcpiojliakgdlaaGreatDoor
open Go.RowKit

end Go.Proofs.YtcpiojliakgdlaaGreatDoor

/- What the loop of impl.CommonOf leaves, plain. -/
namespace Go.Proofs.YtcpiojliakgdlaaGreatDoor
open Go.RowKit

def lastNm (l : List Seg) (T : List Nat) : ByteArray := namesAt l T.getLast?.toList
theorem lastNm_snoc {l : List Seg} (T : List Nat) {v : Nat} (hv : v < l.length) : lastNm l (T ++ [v]) = l[v].name := by
  unfold lastNm
  rw [List.getLast?_concat]
  apply ByteArray.ext
  apply Array.ext'
  simp [namesAt, nmAt_of hv]
end Go.Proofs.YtcpiojliakgdlaaGreatDoor
/- Segments that lie together, and over an address. No program. -/
namespace Go.Proofs.YtcpiojliakgdlaaGreatDoor
open Go.RowKit

theorem index_lt {l : List Seg} {s : ByteArray} (h : 0 ≤ indexB l s) : (indexB l s).toNat < l.length := by
  rcases indexB_bd l s with a | ⟨_, a⟩ <;> omega
theorem index_nm {l : List Seg} {s : ByteArray} (h : 0 ≤ indexB l s) : namesAt l [(indexB l s).toNat] = s := by
  have hv := index_valid h
  have h1 : indexB l s = seek l s := if_pos hv
  obtain ⟨x, hx, hn⟩ := seek_name (l := l) (s := s) (j := (indexB l s).toNat) (by omega)
  have hlt := index_lt h
  rw [← List.nil_append [(indexB l s).toNat], namesAt_snoc [] hlt]
  rw [List.getElem?_eq_getElem hlt] at hx
  injection hx with hx
  rw [hx, hn]
  apply ByteArray.ext
  simp [namesAt]
theorem namesAt_one_inj {l : List Seg} (hv : validB l = true) {u v : Nat} (hu : u < l.length) (hv' : v < l.length) (h : namesAt l [u] = namesAt l [v]) : u = v := by
  have h1 := namesAt_map hv [u] (fun j hj => by rw [List.mem_singleton.1 hj]; exact hu)
  have h2 := namesAt_map hv [v] (fun j hj => by rw [List.mem_singleton.1 hj]; exact hv')
  rw [h, h2] at h1
  exact (byteOf_inj hv hv' hu (by simpa using h1)).symm
end Go.Proofs.YtcpiojliakgdlaaGreatDoor
/- The program's rooms: RoomOf, SavedRoom, Overlap. -/
namespace Go.Proofs.YtcpiojliakgdlaaGreatDoor
open Go.RowKit

set_option maxRecDepth 100000 in
set_option maxHeartbeats 400000 in
theorem roomOf_any (A : Option Addr) (l : List Seg) (c : Nat) (w : World) (hw : Segs w w.heap.size A l) (hl : l.length ≤ 1048576) (hlc : l.length ≤ c) (hcm : c ≤ 9223372036854775807) (hn : Short l) :
    Calls Tryz.prog 16 #[.slice A l.length c] w fun e w' => e = .returned (.int .i64 (roomB l)) ∧ Below w.heap.size w w' := by
  have HW : Hid (Segs w w.heap.size A l) := hw
  clear hw
  have hnil := fun (W : World) (a : Option Addr) (n c : Nat) => Lib.run_eql_slice_nil (P := Tryz.prog) W 41 43 a n c 0 0 Tryz.underlying41
  cases hv : validB l with
  | false =>
    have HF : Hid (roomB l = -1) := if_neg (by rw [hv]; decide)
    go_enter Tryz.func16, Tryz.ntmps16
    go_wp2_with fail
    refine (nodesOf_bad _ _ _ _ HW.out hl hlc hcm hn hv).mono ?_
    rintro e w1 ⟨rfl, hb1⟩
    go_wp2
    go_ret
    exact ⟨ret_int HF.out.symm, hb1⟩
  | true =>
    have h0 := (valid_all hv).2.2
    have hle := lastIx_le l (l.length - 1)
    have HL : Hid (lastIx l (l.length - 1) < l.length) := show _ < _ by omega
    have HF : Hid (roomB l = endAt l (lastIx l (l.length - 1))) := by
      have h1 : roomB l = roomTo l l.length := if_pos hv
      have h2 := lastIx_room hv (l.length - 1) (by omega)
      rw [show l.length - 1 + 1 = l.length by omega] at h2
      exact h1.trans h2.symm
    have HV := Lib.hid hv
    clear hv hle
    have hfld := run_end
    go_enter Tryz.func16, Tryz.ntmps16
    go_wp2_with fail
    refine (nodesOf_any _ _ _ _ HW.out hl hlc hcm hn HV.out).mono ?_
    rintro e w1 ⟨g, nb, cv, rfl, hN, hb1⟩
    have HN := Lib.hid hN
    clear hN
    go_wp2_with fail
    refine (fold_any _ _ _ _ _ _ HN.out HV.out).mono ?_
    rintro e w2 ⟨rfl, hb2⟩
    have B2 := hb1.trans (hb2.mono hb1.size)
    go_wp2_with fail
    refine (place_any l nb HV.out _ HL.out _ (HN.out.placed.below hb2)).mono ?_
    rintro e w3 ⟨rfl, hb3⟩
    have B3 := B2.trans (hb3.mono B2.size)
    clear hb1 hb2 B2 hb3
    go_wp2
    go_ret
    exact ⟨ret_int HF.out.symm, B3⟩

set_option maxRecDepth 100000 in
set_option maxHeartbeats 400000 in
theorem findTwo_bad (A : Option Addr) (l : List Seg) (c : Nat) (s t : ByteArray) (w : World) (hw : Segs w w.heap.size A l) (hl : l.length ≤ 1048576) (hlc : l.length ≤ c) (hcm : c ≤ 9223372036854775807) (hn : Short l) (hv : validB l = false) :
    Calls Tryz.prog 32 #[.slice A l.length c, .string s, .string t] w fun e w' => e = .returned (.tuple #[.pointer none, .pointer none]) ∧ Below w.heap.size w w' := by
  have HW : Hid (Segs w w.heap.size A l) := hw
  clear hw
  go_enter Tryz.func32, Tryz.ntmps32
  go_wp2_with fail
  refine (nodesOf_bad _ _ _ _ HW.out hl hlc hcm hn hv).mono ?_
  rintro e w1 ⟨rfl, hb1⟩
  go_wp2_with fail
  refine (findNode_nil _ _).mono ?_
  rintro e w2 ⟨rfl, rfl⟩
  go_wp2_with fail
  refine (findNode_nil _ _).mono ?_
  rintro e w2 ⟨rfl, rfl⟩
  go_wp2
  go_ret2
  exact ⟨rfl, hb1⟩

/-- What is behind findTwo where the tree is valid. -/
def TwoPost (w : World) (l : List Seg) (s t : ByteArray) (e : Ending) (w' : World) : Prop :=
  ∃ g nb cv, e = .returned (.tuple #[.pointer (foundPtr l nb s), .pointer (foundPtr l nb t)]) ∧ Nodes w' w.heap.size g l.length l.length l nb cv ∧ Below w.heap.size w w'

set_option maxRecDepth 100000 in
set_option maxHeartbeats 400000 in
theorem findTwo_any (A : Option Addr) (l : List Seg) (c : Nat) (s t : ByteArray) (w : World) (hw : Segs w w.heap.size A l) (hl : l.length ≤ 1048576) (hlc : l.length ≤ c) (hcm : c ≤ 9223372036854775807) (hn : Short l) (hv : validB l = true) :
    Calls Tryz.prog 32 #[.slice A l.length c, .string s, .string t] w (TwoPost w l s t) := by
  have HW : Hid (Segs w w.heap.size A l) := hw
  clear hw
  go_enter Tryz.func32, Tryz.ntmps32
  go_wp2_with fail
  refine (nodesOf_any _ _ _ _ HW.out hl hlc hcm hn hv).mono ?_
  rintro e w1 ⟨g, nb, cv, rfl, hN, hb1⟩
  have HN := Lib.hid hN
  clear hN
  go_wp2_with fail
  refine (findNode_any _ _ _ _ _ _ _ HN.out hl).mono ?_
  rintro e w2 ⟨rfl, rfl⟩
  go_wp2_with fail
  refine (findNode_any _ _ _ _ _ _ _ HN.out hl).mono ?_
  rintro e w2 ⟨rfl, rfl⟩
  go_wp2
  go_ret2
  exact ⟨g, nb, cv, rfl, HN.out, hb1⟩

end Go.Proofs.YtcpiojliakgdlaaGreatDoor
/- The program's LongestPath. -/
namespace Go.Proofs.YtcpiojliakgdlaaGreatDoor
open Go.RowKit Go.Shelf

theorem Nodes.below {w w' : World} {B g m k : Nat} {l : List Seg} {nb : Nat → Nat} {cv : Nat → Value} (h : Nodes w B g m k l nb cv) (hb : Below w.heap.size w w') : Nodes w' B g m k l nb cv := by
  obtain ⟨cs, hg, hcs, hci⟩ := h.row
  refine ⟨⟨cs, hg.below hb hg.lt, hcs, hci⟩, fun i t hi ht => ?_, fun i t hi hi2 ht => ?_, fun i hi => ?_, h.apart, h.apartC, h.notg, h.low⟩
  · have h1 := h.node i t hi ht
    exact h1.below hb h1.lt
  · have h1 := h.fresh i t hi hi2 ht
    exact h1.below hb h1.lt
  · exact own_keep (h.kids i hi) fun b hb' => hb.block b ((h.kids i hi).lt b hb').2

end Go.Proofs.YtcpiojliakgdlaaGreatDoor
/- Chapter 9: nodes in memory whose children are moved. -/
namespace Go.Proofs.YtcpiojliakgdlaaGreatDoor
open Go.RowKit

def ptr9 (nb : Nat → Nat) (x : Int) : Option Addr := if x < 0 then none else some ⟨nb x.toNat, 0, none⟩
theorem ptr9_neg {nb : Nat → Nat} {x : Int} (h : x < 0) : ptr9 nb x = none := if_pos h
theorem ptr9_nat (nb : Nat → Nat) (k : Nat) : ptr9 nb (k : Int) = some ⟨nb k, 0, none⟩ := by
  unfold ptr9
  rw [if_neg (by omega), Int.toNat_natCast]

/-- Nodes in memory: names, sizes, parents and children are given. -/
structure Mem9 (w : World) (B n : Nat) (nm : Nat → ByteArray) (sz pp : Nat → Int) (kd : Nat → List Nat) (nb : Nat → Nat) (cv : Nat → Value) : Prop where
  node : ∀ i, i < n → Row w (nb i) 50 (nodeCells (nm i) (sz i) (ptr9 nb (pp i)) (cv i))
  kids : ∀ i, i < n → w.ownsRow B 43 1 (cv i) (kd i).length (ptrsOf nb (kd i))
  apart : ∀ i j, i < n → j < n → i ≠ j → nb i ≠ nb j
  apartC : ∀ i j, i < n → j < n → i ≠ j → (cv i).ownBlock = none ∨ (cv i).ownBlock ≠ (cv j).ownBlock
  low : ∀ i, i < n → B ≤ nb i
/-- The row of all nodes: only its first cell is read again. -/
structure Top9 (w : World) (B g n : Nat) (nb : Nat → Nat) (cv : Nat → Value) : Prop where
  row : ∃ cs, Row w g 43 cs ∧ cs[0]? = some (ptrTo (nb 0))
  notg : ∀ i, i < n → (cv i).ownBlock ≠ some g
  low : B ≤ g

theorem Nodes.mem9 {w : World} {B g : Nat} {l : List Seg} {nb : Nat → Nat} {cv : Nat → Value} (h : Nodes w B g l.length l.length l nb cv) : Mem9 w B l.length (nmAt9 l) (sizeAt l) (parAt l) (kids9 (parAt l) l.length) nb cv := by
  refine ⟨fun i hi => ?_, fun i hi => h.kids i hi, h.apart, h.apartC, h.low.2⟩
  rw [nmAt9_of hi, sizeAt_of hi]
  exact h.node i _ hi (List.getElem?_eq_getElem hi)
theorem Nodes.top9 {w : World} {B g : Nat} {l : List Seg} {nb : Nat → Nat} {cv : Nat → Value} (h : Nodes w B g l.length l.length l nb cv) (h0 : 0 < l.length) : Top9 w B g l.length nb cv := by
  obtain ⟨cs, h1, _, h2⟩ := h.row
  exact ⟨⟨cs, h1, h2 0 h0⟩, h.notg, h.low.1⟩

variable {w w' : World} {B g n : Nat} {nm : Nat → ByteArray} {sz pp : Nat → Int} {kd : Nat → List Nat} {nb : Nat → Nat} {cv : Nat → Value}
theorem Mem9.below (h : Mem9 w B n nm sz pp kd nb cv) (hb : Below w.heap.size w w') : Mem9 w' B n nm sz pp kd nb cv :=
  ⟨fun i hi => (h.node i hi).below hb (h.node i hi).lt, fun i hi => own_keep (h.kids i hi) fun k hk => hb.block k ((h.kids i hi).lt k hk).2, h.apart, h.apartC, h.low⟩
theorem Top9.below (h : Top9 w B g n nb cv) (hb : Below w.heap.size w w') : Top9 w' B g n nb cv := by
  obtain ⟨cs, h1, h2⟩ := h.row
  exact ⟨⟨cs, h1.below hb h1.lt, h2⟩, h.notg, h.low⟩
/-- Another size. -/
theorem Mem9.size (h : Mem9 w B n nm sz pp kd nb cv) {i : Nat} (hi : i < n) (x : Int) : Mem9 (w.setCell ⟨nb i, 1, none⟩ (.int .i64 x)) B n nm (resizeZ9 sz i x) pp kd nb cv := by
  refine ⟨fun j hj => ?_, fun j hj => own_set (h.kids j hj) (h.node i hi) (by decide) 1 _, h.apart, h.apartC, h.low⟩
  unfold resizeZ9
  by_cases hji : j = i
  · subst hji
    rw [if_pos rfl]
    exact (h.node j hj).put 1 _
  · rw [if_neg hji]
    exact (h.node j hj).far (p := ⟨nb i, 1, none⟩) (h.apart j i hj hi hji) _
/-- Another parent. -/
theorem Mem9.parent (h : Mem9 w B n nm sz pp kd nb cv) {i q : Nat} (hi : i < n) : Mem9 (w.setCell ⟨nb i, 2, none⟩ (.pointer (some ⟨nb q, 0, none⟩))) B n nm sz (fun j => if j = i then (q : Int) else pp j) kd nb cv := by
  refine ⟨fun j hj => ?_, fun j hj => own_set (h.kids j hj) (h.node i hi) (by decide) 2 _, h.apart, h.apartC, h.low⟩
  by_cases hji : j = i
  · subst hji
    simp only [if_pos]
    rw [ptr9_nat]
    exact (h.node j hj).put 2 _
  · simp only [if_neg hji]
    exact (h.node j hj).far (p := ⟨nb i, 2, none⟩) (h.apart j i hj hi hji) _
theorem Top9.set (h : Top9 w B g n nb cv) {t : TypeId} {cs : Array Value} {b : Nat} (hr : Row w b t cs) (ht : t ≠ 43) (i : Nat) (u : Value) : Top9 (w.setCell ⟨b, i, none⟩ u) B g n nb cv := by
  obtain ⟨cs', h1, h2⟩ := h.row
  refine ⟨⟨cs', h1.far (p := ⟨b, i, none⟩) (fun e => ?_) _, h2⟩, h.notg, h.low⟩
  have e' : g = b := e
  subst e'
  unfold Row at h1 hr
  rw [hr] at h1
  injection h1 with h1
  injection h1 with _ h3
  exact ht h3

end Go.Proofs.YtcpiojliakgdlaaGreatDoor
/- impl.CommonOf where both are found. -/
namespace Go.Proofs.YtcpiojliakgdlaaGreatDoor
open Go.RowKit Go.Shelf
attribute [local go_sem] Oper.semAt_some

theorem row_grown {W W' : World} {b : Nat} {t : TypeId} {cs : Array Value} {row : Option Nat} (h : Row W b t cs) (hg : W.grownBy W' row) {B : Nat} (hr : ∀ r, row = some r → B ≤ r ∧ ∃ o : Obj, W.heap[r]? = some o ∧ o.isCells = false) : Row W' b t cs :=
  (hg.block b h.lt (fun he => by
    obtain ⟨_, o, ho, hc⟩ := hr b he.symm
    have h' : W.heap[b]? = some (.cells cs t (0, 0)) := h
    rw [h'] at ho
    injection ho with ho
    subst ho
    cases hc)).trans h
/-- What the loop keeps: the box of the answer, the box of the names. -/
structure Loop2 (w1 : World) (l : List Seg) (R : List Nat) (nm : ByteArray) (b2 : Nat) (T : List Nat) (W : World) : Prop where
  box : Row W w1.heap.size 9 #[.string (lastNm l T)]
  names : Row W b2 9 #[.string nm]
  below : Below w1.heap.size w1 W
  all : ∀ v ∈ T, v ∈ R
theorem Loop2.grown {w1 W W' : World} {l : List Seg} {R T : List Nat} {nm : ByteArray} {b2 B : Nat} {row : Option Nat} (h : Loop2 w1 l R nm b2 T W) (hg : W.grownBy W' row) (hB : w1.heap.size ≤ B) (hr : ∀ r, row = some r → B ≤ r ∧ ∃ o : Obj, W.heap[r]? = some o ∧ o.isCells = false) : Loop2 w1 l R nm b2 T W' :=
  ⟨row_grown h.box hg hr, row_grown h.names hg hr, h.below.grown hg h.below.size (fun k e => by have := (hr k e).1; omega), h.all⟩
theorem Loop2.drew {w1 W : World} {l : List Seg} {R T : List Nat} {nm : ByteArray} {b2 : Nat} (h : Loop2 w1 l R nm b2 T W) : Loop2 w1 l R nm b2 T W.drew := ⟨h.box, h.names, h.below.drew, h.all⟩
theorem Loop2.step {w1 W : World} {l : List Seg} {R T : List Nat} {nm a : ByteArray} {b2 : Nat} (h : Loop2 w1 l R nm b2 T W) (hb2 : w1.heap.size < b2) {v : Nat} (hv : v < l.length) (hR : v ∈ R) (ha : l[v].name = a) :
    Loop2 w1 l R nm b2 (T ++ [v]) (W.setCell ⟨w1.heap.size, 0, none⟩ (.string a)) := by
  refine ⟨?_, Row.far h.names (by show b2 ≠ w1.heap.size; omega) _, h.below.setCell (Nat.le_refl _) _, fun u hu => ?_⟩
  · have := Row.put h.box 0 (.string a)
    rw [lastNm_snoc T hv, ha]
    exact this
  · rcases List.mem_append.1 hu with hu | hu
    · exact h.all u hu
    · rw [List.mem_singleton.1 hu]; exact hR

end Go.Proofs.YtcpiojliakgdlaaGreatDoor
/- A path gathered into a slice, and what is in it: the program's LieTogether. -/
namespace Go.Proofs.YtcpiojliakgdlaaGreatDoor
open Go.RowKit Go.Shelf
attribute [local go_sem] Oper.semAt_some

theorem own_grown {W W' : World} {base n : Nat} {e : TypeId} {v : Value} {xs : List Value} {row : Option Nat} (h : W.ownsRow base e 1 v n xs) (hg : W.grownBy W' row) (hr : ∀ r, row = some r → ∃ o : Obj, W.heap[r]? = some o ∧ o.isCells = false) : W'.ownsRow base e 1 v n xs :=
  own_keep h fun g hb => hg.block g ((h.lt g hb).2) (fun he => by
    obtain ⟨o, ho, hc⟩ := hr g he.symm
    rcases h.2 with ⟨rfl, _⟩ | ⟨g', cap, cur, rfl, _, hh, _⟩
    · simp [Value.ownBlock] at hb
    · have : g' = g := by simpa [Value.ownBlock] using hb
      subst this
      rw [hh] at ho
      injection ho with ho
      subst ho
      cases hc)

/-- What was gathered: the box holds a slice of the call's own. -/
structure Gath (w : World) (nb : Nat → Nat) (T : List Nat) (W : World) : Prop where
  ex : ∃ v, Row W w.heap.size 41 #[v] ∧ W.ownsRow (w.heap.size + 1) 43 1 v T.length (ptrsOf nb T) ∧ (T.length = 0 → v = .slice none 0 0)
  below : Below w.heap.size w W
theorem Gath.grown {w W W' : World} {nb : Nat → Nat} {T : List Nat} {B : Nat} {row : Option Nat} (h : Gath w nb T W) (hg : W.grownBy W' row) (hB : w.heap.size ≤ B) (hr : ∀ r, row = some r → B ≤ r ∧ ∃ o : Obj, W.heap[r]? = some o ∧ o.isCells = false) : Gath w nb T W' := by
  obtain ⟨⟨v, h1, h2, h3⟩, hb⟩ := h
  exact ⟨⟨v, row_grown h1 hg hr, own_grown h2 hg (fun r e => (hr r e).2), h3⟩, hb.grown hg hb.size (fun k e => by have := (hr k e).1; omega)⟩

end Go.Proofs.YtcpiojliakgdlaaGreatDoor
/- Chapter 9: the program's subtree: what is below a node, in order. -/
namespace Go.Proofs.YtcpiojliakgdlaaGreatDoor
open Go.RowKit

theorem own_news9 {w : World} {B g n cap : Nat} {e : TypeId} {xs : List Value} (h : w.ownsRow B e 1 (.slice (some ⟨g, 0, none⟩) n cap) n xs) : ∀ j u, xs[j]? = some u → w.cell? ((⟨g, 0, none⟩ : Addr).add j) = some u := fun j u hj => by
  rw [WideShapes.add_plain]
  have hlt := (List.getElem?_eq_some_iff.1 hj).1
  show w.cell? ⟨g, 0 + j, none⟩ = some u
  rw [Nat.zero_add, World.ownsRow.cellAt h j (by have := h.1; omega)]
  exact hj
theorem ptrs9_one (nb : Nat → Nat) (L : List Nat) : ∀ u ∈ ptrsOf nb L, u.oneCell' = true := by
  intro u hu
  obtain ⟨j, _, rfl⟩ := List.mem_map.1 hu
  rfl
theorem ptrs9_len (nb : Nat → Nat) (L : List Nat) : (ptrsOf nb L).length = L.length := List.length_map _
theorem ptrs9_append (nb : Nat → Nat) (L M : List Nat) : ptrsOf nb (L ++ M) = ptrsOf nb L ++ ptrsOf nb M := List.map_append
theorem kids9_form {w : World} {B n : Nat} {v : Value} {xs : List Value} {e : TypeId} (h : w.ownsRow B e 1 v n xs) : ∃ A c, v = .slice A n c ∧ (0 < n → ∃ g, A = some ⟨g, 0, none⟩) := by
  rcases h.2 with ⟨rfl, h0⟩ | ⟨g, cap, cur, rfl, hg, hh, r⟩
  · exact ⟨none, 0, by rw [h0], fun h => by omega⟩
  · exact ⟨_, cap, rfl, fun _ => ⟨g, rfl⟩⟩

/-- A row of nodes of the call's own. -/
def SubPost9 (w : World) (nb : Nat → Nat) (L : List Nat) (e : Ending) (w' : World) : Prop :=
  ∃ g cap, e = .returned (.slice (some ⟨g, 0, none⟩) L.length cap) ∧ w'.ownsRow w.heap.size 43 1 (.slice (some ⟨g, 0, none⟩) L.length cap) L.length (ptrsOf nb L) ∧ Below w.heap.size w w'
/-- What subtree does, to a depth. -/
def Subs9 (B n : Nat) (nm : Nat → ByteArray) (sz pp : Nat → Int) (kd : Nat → List Nat) (nb : Nat → Nat) (cv : Nat → Value) (ps : Nat → Int) (f : Nat) : Prop :=
  ∀ (i : Nat) (w : World), n ≤ f + i → i < n → Mem9 w B n nm sz pp kd nb cv → (∀ j, j ∈ sub9 ps n i → kd j = kids9 ps n j) →
    Calls Tryz.prog 48 #[.pointer (some ⟨nb i, 0, none⟩)] w (SubPost9 w nb (sub9 ps n i))
def part9 (ps : Nat → Int) (n i k : Nat) : List Nat := i :: (((kids9 ps n i).take k).map (sub9 ps n)).flatten
theorem part9_succ {ps : Nat → Int} {n i k : Nat} (h : k < (kids9 ps n i).length) : part9 ps n i (k + 1) = part9 ps n i k ++ sub9 ps n (kids9 ps n i)[k] := by
  unfold part9
  rw [List.take_succ_eq_append_getElem h, List.map_append, List.flatten_append, List.map_cons, List.map_nil, List.flatten_cons, List.flatten_nil, List.append_nil, List.cons_append]
theorem part9_all {ps : Nat → Int} {n i : Nat} (hf : Fall9 ps n) (hi : i < n) : part9 ps n i (kids9 ps n i).length = sub9 ps n i := by
  unfold part9
  rw [List.take_length, sub9_eq hf hi]
theorem part9_sub (ps : Nat → Int) (n i k : Nat) : (part9 ps n i k).Sublist (i :: ((kids9 ps n i).map (sub9 ps n)).flatten) := by
  have h : ((kids9 ps n i).map (sub9 ps n)).flatten = (((kids9 ps n i).take k).map (sub9 ps n)).flatten ++ (((kids9 ps n i).drop k).map (sub9 ps n)).flatten := by
    rw [← List.flatten_append, ← List.map_append, List.take_append_drop]
  rw [h]
  exact (List.sublist_append_left _ _).cons_cons i
theorem part9_len {ps : Nat → Int} {n i : Nat} (hf : Fall9 ps n) (hi : i < n) (k : Nat) : (part9 ps n i k).length ≤ n := by
  refine nodup9_len (n := n) ?_ fun x hx => ?_
  · have h1 := sub9_nodup hf n i (by omega) hi
    rw [sub9_eq hf hi] at h1
    have h2 := part9_sub ps n i k
    exact h1.sublist h2
  · unfold part9 at hx
    have h2 := part9_sub ps n i k
    have h3 : x ∈ sub9 ps n i := by rw [sub9_eq hf hi]; exact h2.subset hx
    exact ((in_sub9 hf hi).1 h3).1

set_option maxRecDepth 100000 in
set_option maxHeartbeats 2000000 in
theorem subtree_step (B n : Nat) (nm : Nat → ByteArray) (sz pp : Nat → Int) (kd : Nat → List Nat) (nb : Nat → Nat) (cv : Nat → Value) (ps : Nat → Int) (hf : Fall9 ps n) (hn : n ≤ 100) (f : Nat)
    (IH : Subs9 B n nm sz pp kd nb cv ps f) : Subs9 B n nm sz pp kd nb cv ps (f + 1) := by
  intro i w hfi hi hM hkd
  have HM := Lib.hid hM
  have HIH : Hid (Subs9 B n nm sz pp kd nb cv ps f) := IH
  have HK : Hid (kd i = kids9 ps n i) := hkd i ((in_sub9 hf hi).2 ⟨hi, .refl⟩)
  have HKD : Hid (∀ k (h : k < (kids9 ps n i).length), (kids9 ps n i)[k] < n ∧ n ≤ f + (kids9 ps n i)[k] ∧ ∀ j, j ∈ sub9 ps n (kids9 ps n i)[k] → kd j = kids9 ps n j) := fun k h => by
    obtain ⟨h1, h2⟩ := mem_kids9.1 (List.getElem_mem h)
    have h3 := hf _ h1
    refine ⟨h1, by omega, fun j hj => hkd j ?_⟩
    obtain ⟨h4, h5⟩ := (in_sub9 hf h1).1 hj
    exact (in_sub9 hf hi).2 ⟨h4, (Anc9.step h2 .refl).trans h5⟩
  have HP0 : Hid (part9 ps n i 0 = [i]) := rfl
  have HPS := Lib.hid (fun k (h : k < (kids9 ps n i).length) => part9_succ h)
  have HPA := Lib.hid (part9_all hf hi)
  have HPL := Lib.hid (part9_len hf hi)
  have hKL : (kids9 ps n i).length ≤ n := kids9_len ps n i
  have HKR : Hid (w.ownsRow B 43 1 (cv i) (kids9 ps n i).length (ptrsOf nb (kids9 ps n i))) := by
    have := hM.kids i hi
    rw [HK.out] at this
    exact this
  obtain ⟨A, cA, hcv, hA⟩ := kids9_form HKR.out
  have hnode := hM.node i hi
  rw [hcv] at hnode HKR
  have e3 : (w.alloc (.cells #[.pointer (some ⟨nb i, 0, none⟩)] 43)).cell? ⟨nb i, 3, none⟩ = some (.slice A (kids9 ps n i).length cA) := (hnode.alloc _).cell 3
  have HO0 : Hid ((w.alloc (.cells #[.pointer (some ⟨nb i, 0, none⟩)] 43)).ownsRow w.heap.size 43 1 (.slice (some ⟨w.heap.size, 0, none⟩) 1 1) 1 (ptrsOf nb (part9 ps n i 0))) :=
    World.ownsRow_lit (base := w.heap.size) (e := 43) (size := 1) w #[.pointer (some ⟨nb i, 0, none⟩)] 1 (Nat.le_refl _) (by simp [maxLen]) rfl
  have HL0 : Hid (1 = (part9 ps n i 0).length) := rfl
  have HB0 : Hid (Below w.heap.size w (w.alloc (.cells #[.pointer (some ⟨nb i, 0, none⟩)] 43))) := (Below.refl _ w).alloc (Nat.le_refl _) _
  clear hnode hM hkd IH hcv hf HP0
  have hwz : w.heap.size ≤ w.heap.size := Nat.le_refl _
  generalize part9 ps n i = L at *
  generalize kids9 ps n i = K at *
  generalize hS : sub9 ps n i = S at *
  obtain ⟨i0, hi0, hz0, hz1, hz2⟩ := info_parts info_ptr
  have I0 := Lib.hid hi0
  have Z0 := Lib.hid hz0
  have Z1 := Lib.hid hz1
  have Z2 := Lib.hid hz2
  clear hi0 hz0 hz1 hz2 hS
  unfold SubPost9
  go_enter Tryz.func48, Tryz.ntmps48
  go_wp2
  go_loopw [3, 13] (fun vo iv wr => ∃ (k g cap m : Nat), iv = .int .i64 k ∧ k ≤ K.length ∧ 0 < m ∧ vo = .slice (some ⟨g, 0, none⟩) m cap ∧ Hid (m = (L k).length) ∧ Hid (wr.ownsRow w.heap.size 43 1 (.slice (some ⟨g, 0, none⟩) m cap) m (ptrsOf nb (L k))) ∧ Hid (Below w.heap.size w wr))
    (fun _ iv _ => K.length - (intOf iv).toNat)
  case atStart => exact ⟨0, w.heap.size, 1, 1, rfl, Nat.zero_le _, by omega, rfl, HL0, HO0, HB0⟩
  case round =>
    clear HL0 HO0 HB0 e3
    obtain ⟨k, g, cap, m, rfl, hk, hm0, rfl, HMm, HO, HB⟩ := hrel
    have hk0 : (0 : Int) ≤ (k : Int) := Int.natCast_nonneg _
    by_cases hlt : k < K.length
    · have hlt' : (k : Int) < (K.length : Int) := by omega
      obtain ⟨gA, rfl⟩ := hA (by omega)
      obtain ⟨hj1, hj2, hj3⟩ := HKD.out k hlt
      have hcell : wr.cell? ⟨gA, k, none⟩ = some (.pointer (some ⟨nb K[k], 0, none⟩)) := by
        have h1 : w.cell? ⟨gA, k, none⟩ = (ptrsOf nb K)[k]? := HKR.out.cellAt k (by omega)
        rw [HB.out.cell (p := ⟨gA, k, none⟩) (HKR.out.lt gA rfl).2, h1]
        simp [ptrsOf, ptrTo, hlt]
      have HMr : Hid (Mem9 wr B n nm sz pp kd nb cv) := HM.out.below HB.out
      have HST := Lib.hid (HPS.out k hlt)
      have hpl := HPL.out (k + 1)
      have HCALL : Hid (Calls Tryz.prog 48 #[.pointer (some ⟨nb K[k], 0, none⟩)] wr (SubPost9 wr nb (sub9 ps n K[k]))) := HIH.out K[k] wr hj2 hj1 HMr.out hj3
      unfold SubPost9 at HCALL
      clear hj1 hj2 hj3
      have hmz : m + (sub9 ps n K[k]).length ≤ 100 := by
        have h1 := HMm.out
        have h2 := congrArg List.length HST.out
        rw [List.length_append] at h2
        omega
      clear hpl
      generalize sub9 ps n K[k] = Sj at *
      generalize K[k] = j at *
      go_wp2_with fail
      refine Calls.mono HCALL.out ?_
      rintro e w3 ⟨g3, cap3, rfl, ho3, hb3⟩
      have HNEW := Lib.hid (own_news9 ho3)
      have HO3 := Lib.hid (own_keep HO.out fun b hb => hb3.block b (HO.out.lt b hb).2)
      have HB3 : Hid (Below w.heap.size w w3) := HB.out.trans (hb3.mono HB.out.size)
      have HPZ : Hid ((ptrsOf nb Sj).length = Sj.length * 1) := by show _ = _; rw [ptrs9_len, Nat.mul_one]
      clear ho3 hb3 HCALL HO HB HMr
      go_wp2_with (at_builtin; go_loud (refine wpList_append_own _ rfl (.tmp 17) (.tmp 19) 41 rfl w.heap.size 43 i0 (.pointer none) 1 8 Tryz.underlying41 I0.out Z0.out Z1.out Z2.out rfl (by decide) (.slice (some ⟨g, 0, none⟩) m cap) m (ptrsOf nb (L k)) rfl HO3.out ⟨g3, 0, none⟩ Sj.length cap3 (ptrsOf nb Sj) rfl HPZ.out HNEW.out (ptrs9_one _ _) (by unfold maxLen; omega) (by omega) HB3.out.size ?_); intro v' w4 hown4 hgrow4 _; have HO4 := Lib.hid hown4; have HB4 := Lib.hid (HB3.out.grown hgrow4 HB3.out.size (fun k e => (HO3.out.lt k e).1)); clear hown4 hgrow4)
      obtain ⟨g4, cap4, rfl⟩ : ∃ g4 cap4, v' = .slice (some ⟨g4, 0, none⟩) (m + Sj.length) cap4 := by
        have h1 := HO4.out
        have h2 := HMm.out
        have h3 := HO3.out
        rcases kids9_form h1 with ⟨A', c', e, h4⟩
        obtain ⟨g4, rfl⟩ := h4 (by omega)
        exact ⟨g4, c', e⟩
      go_wp2
      go_roundw
      case rel => exact ⟨k + 1, g4, cap4, m + Sj.length, by go_num, by omega, by omega, rfl, by show _ = _; rw [HST.out, List.length_append, ← HMm.out], by rw [HST.out, ptrs9_append]; exact HO4.out, HB4⟩
      case measure => simp [intOf]; omega
    · obtain rfl : k = K.length := by omega
      have hm := HMm.out
      rw [HPA.out] at hm HO
      subst hm
      go_wp2
      go_ret
      exact ⟨g, cap, rfl, HO.out, HB.out⟩

theorem subtree_any (B n : Nat) (nm : Nat → ByteArray) (sz pp : Nat → Int) (kd : Nat → List Nat) (nb : Nat → Nat) (cv : Nat → Value) (ps : Nat → Int) (hf : Fall9 ps n) (hn : n ≤ 100) : ∀ f, Subs9 B n nm sz pp kd nb cv ps f
  | 0 => fun i w h1 h2 _ _ => by omega
  | f + 1 => subtree_step B n nm sz pp kd nb cv ps hf hn f (subtree_any B n nm sz pp kd nb cv ps hf hn f)

end Go.Proofs.YtcpiojliakgdlaaGreatDoor
/- Chapter 9: slices.Replace at one element of a row of the call's own: the library's own text is walked. -/
namespace Go.Proofs.YtcpiojliakgdlaaGreatDoor
open Go.RowKit

/-- What Replace is asked of. -/
structure Repl9 (w : World) (B b n c i m : Nat) (A : Option Addr) (vc : Nat) (xs ys : List Value) : Prop where
  own : w.ownsRow B 43 1 (.slice (some ⟨b, 0, none⟩) n c) n xs
  lt : i < n
  few : n ≤ 100
  len : ys.length = m
  few' : m ≤ 100
  le : m ≤ vc
  le' : vc ≤ 9223372036854775807
  base : B ≤ w.heap.size
  one : ∀ y ∈ ys, y.oneCell' = true
  xone : ∀ x ∈ xs, x.oneCell' = true
  from' : 0 < m → ∃ vb, A = some ⟨vb, 0, none⟩ ∧ vb ≠ b ∧ (∀ j u, ys[j]? = some u → w.cell? ((⟨vb, 0, none⟩ : Addr).add j) = some u) ∧ ∃ tB kB, w.shape? vb = some (tB, kB) ∧ kB ≠ 0

theorem Repl9.row {w : World} {B b n c i m : Nat} {A : Option Addr} {vc : Nat} {xs ys : List Value} (h : Repl9 w B b n c i m A vc xs ys) : ∃ cur, Row w b 43 cur ∧ n ≤ c ∧ c ≤ maxLen ∧ cur.size = c ∧ cur.toList.take n = xs := by
  rcases h.own.2 with ⟨h0, _⟩ | ⟨g, cap, cur, hv, hg, hh, h1, h2, h3, h4⟩
  · cases h0
  · injection hv with hv1 hv2 hv3
    injection hv1 with hv1
    injection hv1 with hv1
    subst hv1 hv3
    exact ⟨cur, hh, h1, h2, by omega, by rw [← h4, Nat.mul_one]⟩
end Go.Proofs.YtcpiojliakgdlaaGreatDoor
/- Chapter 9: slices.Replace within a row. -/
namespace Go.Proofs.YtcpiojliakgdlaaGreatDoor
open Go.RowKit

end Go.Proofs.YtcpiojliakgdlaaGreatDoor
/- Chapter 9: slices.Replace by several ones: where there is room, and where there is none. -/
namespace Go.Proofs.YtcpiojliakgdlaaGreatDoor
open Go.RowKit

end Go.Proofs.YtcpiojliakgdlaaGreatDoor
/- Chapter 9: slices.Replace where a row grows. -/
namespace Go.Proofs.YtcpiojliakgdlaaGreatDoor
open Go.RowKit

end Go.Proofs.YtcpiojliakgdlaaGreatDoor
/- A list that is not too large. -/
namespace Go.Proofs.YtcpiojliakgdlaaGreatDoor
open Go.RowKit

end Go.Proofs.YtcpiojliakgdlaaGreatDoor
/- A row of texts of the call's own; marks in segments and in texts: what a law writes into what it was given, and whether it is held. -/
namespace Go.Proofs.YtcpiojliakgdlaaGreatDoor
open Go.RowKit

/-- Texts in a row of the call's own. -/
def OwnTexts (w : World) (B : Nat) (v : Value) (ts : List ByteArray) : Prop := w.ownsRow B 9 1 v ts.length (ts.map Value.string)
theorem OwnTexts.far {w w' : World} {B : Nat} {v : Value} {ts : List ByteArray} (h : OwnTexts w B v ts) (hk : ∀ g, v.ownBlock = some g → w'.heap[g]? = w.heap[g]?) : OwnTexts w' B v ts := by
  refine ⟨h.1, ?_⟩
  rcases h.2 with h0 | ⟨g', cap, cur, rfl, hg, hh, r⟩
  · exact .inl h0
  · exact .inr ⟨g', cap, cur, rfl, hg, (hk g' rfl).trans hh, r⟩
theorem OwnTexts.below {w w' : World} {B : Nat} {v : Value} {ts : List ByteArray} (h : OwnTexts w B v ts) (hb : Below w.heap.size w w') : OwnTexts w' B v ts := h.far fun g hg => hb.block g (World.ownsRow.lt h g hg).2
theorem info_str : (Tryz.prog.info? 9).map (fun i => (i.zero, i.size, i.bytes)) = some (some (.string ByteArray.empty), 1, 16) := by kernel_rfl

theorem OwnTexts.empty (w : World) {B : Nat} (hB : B ≤ w.heap.size) : OwnTexts (w.alloc (.cells #[] 9)) B (.slice (some ⟨w.heap.size, 0, none⟩) 0 0) [] :=
  World.ownsRow_lit w #[] 0 hB (by simp [maxLen]) rfl
theorem OwnTexts.one (w : World) {B : Nat} (hB : B ≤ w.heap.size) (s : ByteArray) : OwnTexts (w.alloc (.cells #[.string s] 9)) B (.slice (some ⟨w.heap.size, 0, none⟩) 1 1) [s] :=
  World.ownsRow_lit w #[.string s] 1 hB (by simp [maxLen]) rfl
theorem OwnTexts.form {w : World} {B : Nat} {v : Value} {ts : List ByteArray} (h : OwnTexts w B v ts) (hn : 0 < ts.length) : ∃ g cap, v = .slice (some ⟨g, 0, none⟩) ts.length cap := own_form h hn

end Go.Proofs.YtcpiojliakgdlaaGreatDoor
namespace Go.Proofs.YtcpiojliakgdlaaGreatDoor.St
open Go.RowKit

/-- A slice of texts in memory below 'B'. -/
def Strs (w : World) (B : Nat) (A : Option Addr) (ts : List ByteArray) : Prop :=
  0 < ts.length → ∃ b o, A = some ⟨b, o, none⟩ ∧ b < B ∧ ∀ (k : Nat) (s : ByteArray), ts[k]? = some s → w.cell? ⟨b, o + k, none⟩ = some (.string s)
theorem Strs.below {w w' : World} {B : Nat} {A : Option Addr} {l : List ByteArray} (h : Strs w B A l) (hb : Below B w w') : Strs w' B A l := fun hl => by
  obtain ⟨b, o, e, hB, hc⟩ := h hl
  refine ⟨b, o, e, hB, fun k s hk => ?_⟩
  rw [hb.cell hB]
  exact hc k s hk
theorem Strs.more {w : World} {B B' : Nat} {A : Option Addr} {l : List ByteArray} (h : Strs w B A l) (hB : B ≤ B') : Strs w B' A l := fun hl => by
  obtain ⟨b, o, e, hb, hc⟩ := h hl
  exact ⟨b, o, e, Nat.lt_of_lt_of_le hb hB, hc⟩
theorem textsCell {w : World} {B g cap : Nat} {ts : List ByteArray} (h : OwnTexts w B (.slice (some ⟨g, 0, none⟩) ts.length cap) ts) {i : Nat} {s : ByteArray} (hi : ts[i]? = some s) : w.cell? ⟨g, i, none⟩ = some (.string s) := by
  have hlt := (List.getElem?_eq_some_iff.1 hi).1
  have := World.ownsRow.cellAt h i (by omega)
  rw [this, List.getElem?_map, hi]
  rfl
theorem textsForm {w : World} {B : Nat} {v : Value} {ts : List ByteArray} (h : OwnTexts w B v ts) : ∃ A cap, v = .slice A ts.length cap ∧ Strs w w.heap.size A ts := by
  have h' := h
  rcases h.2 with ⟨rfl, h0⟩ | ⟨g, cap, cur, rfl, hg, hh, r⟩
  · exact ⟨none, 0, by rw [h0], fun h => absurd h (by omega)⟩
  · refine ⟨_, cap, rfl, fun _ => ⟨g, 0, rfl, (Array.getElem?_eq_some_iff.1 hh).1, fun k s hk => ?_⟩⟩
    rw [Nat.zero_add]
    exact textsCell h' hk
end Go.Proofs.YtcpiojliakgdlaaGreatDoor.St

namespace Go.Proofs.YtcpiojliakgdlaaGreatDoor
open Go.RowKit

end Go.Proofs.YtcpiojliakgdlaaGreatDoor
/- A row of numbers of the call's own; marks in numbers: what a law writes into what it was given, and whether it is held. -/
namespace Go.Proofs.YtcpiojliakgdlaaGreatDoor.Si
open Go.RowKit

/-- Numbers in a row of the call's own. -/
def OwnInts (w : World) (B : Nat) (v : Value) (ts : List Int) : Prop := w.ownsRow B 3 1 v ts.length (ts.map (Value.int .i64))
theorem OwnInts.far {w w' : World} {B : Nat} {v : Value} {ts : List Int} (h : OwnInts w B v ts) (hk : ∀ g, v.ownBlock = some g → w'.heap[g]? = w.heap[g]?) : OwnInts w' B v ts := by
  refine ⟨h.1, ?_⟩
  rcases h.2 with h0 | ⟨g', cap, cur, rfl, hg, hh, r⟩
  · exact .inl h0
  · exact .inr ⟨g', cap, cur, rfl, hg, (hk g' rfl).trans hh, r⟩
theorem OwnInts.below {w w' : World} {B : Nat} {v : Value} {ts : List Int} (h : OwnInts w B v ts) (hb : Below w.heap.size w w') : OwnInts w' B v ts := h.far fun g hg => hb.block g (World.ownsRow.lt h g hg).2
theorem OwnInts.empty (w : World) {B : Nat} (hB : B ≤ w.heap.size) : OwnInts (w.alloc (.cells #[] 3)) B (.slice (some ⟨w.heap.size, 0, none⟩) 0 0) [] :=
  World.ownsRow_lit w #[] 0 hB (by simp [maxLen]) rfl
/-- A slice of numbers in memory below 'B'. -/
def Ints (w : World) (B : Nat) (A : Option Addr) (ts : List Int) : Prop :=
  0 < ts.length → ∃ b o, A = some ⟨b, o, none⟩ ∧ b < B ∧ ∀ (k : Nat) (s : Int), ts[k]? = some s → w.cell? ⟨b, o + k, none⟩ = some (.int .i64 s)
theorem Ints.below {w w' : World} {B : Nat} {A : Option Addr} {l : List Int} (h : Ints w B A l) (hb : Below B w w') : Ints w' B A l := fun hl => by
  obtain ⟨b, o, e, hB, hc⟩ := h hl
  refine ⟨b, o, e, hB, fun k s hk => ?_⟩
  rw [hb.cell hB]
  exact hc k s hk
theorem Ints.more {w : World} {B B' : Nat} {A : Option Addr} {l : List Int} (h : Ints w B A l) (hB : B ≤ B') : Ints w B' A l := fun hl => by
  obtain ⟨b, o, e, hb, hc⟩ := h hl
  exact ⟨b, o, e, Nat.lt_of_lt_of_le hb hB, hc⟩
theorem intsCell {w : World} {B g cap : Nat} {ts : List Int} (h : OwnInts w B (.slice (some ⟨g, 0, none⟩) ts.length cap) ts) {i : Nat} {s : Int} (hi : ts[i]? = some s) : w.cell? ⟨g, i, none⟩ = some (.int .i64 s) := by
  have hlt := (List.getElem?_eq_some_iff.1 hi).1
  have := World.ownsRow.cellAt h i (by omega)
  rw [this, List.getElem?_map, hi]
  rfl
theorem intsForm {w : World} {B : Nat} {v : Value} {ts : List Int} (h : OwnInts w B v ts) : ∃ A cap, v = .slice A ts.length cap ∧ Ints w w.heap.size A ts := by
  have h' := h
  rcases h.2 with ⟨rfl, h0⟩ | ⟨g, cap, cur, rfl, hg, hh, r⟩
  · exact ⟨none, 0, by rw [h0], fun h => absurd h (by omega)⟩
  · refine ⟨_, cap, rfl, fun _ => ⟨g, 0, rfl, (Array.getElem?_eq_some_iff.1 hh).1, fun k s hk => ?_⟩⟩
    rw [Nat.zero_add]
    exact intsCell h' hk
end Go.Proofs.YtcpiojliakgdlaaGreatDoor.Si

namespace Go.Proofs.YtcpiojliakgdlaaGreatDoor
open Go.RowKit

end Go.Proofs.YtcpiojliakgdlaaGreatDoor
/- FlatTree and ChainTree: other parents. Plain. -/
namespace Go.Proofs.YtcpiojliakgdlaaGreatDoor
open Go.RowKit

end Go.Proofs.YtcpiojliakgdlaaGreatDoor
