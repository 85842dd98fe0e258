/- Joined: Cs Er Ga Pc Pd Pe Qc Cm Qb Qe La Lb Ba Gc Bh. -/
import Derived.Test.YtcpiojliakgdlaaU05
import Derived.BigQuiet
import Derived.Lib.IndexAny
import Derived.Maps.OwnIn
import Derived.LaidEqlPtr
import Derived.IntWalk
/- spec.CommonOf. -/
namespace Go.Proofs.Ytcpiojliakgdlaa
open Go.RowKit

def byteOf (l : List Seg) (v : Nat) : UInt8 := (nmAt l v).headD 0
theorem nmAt_one {l : List Seg} (h : validB l = true) {v : Nat} (hv : v < l.length) : nmAt l v = [byteOf l v] ∧ l[v].name = ⟨#[byteOf l v]⟩ := by
  obtain ⟨c, hc, _⟩ := nameOk_one ((valid_all h).1.name hv (List.getElem?_eq_getElem hv))
  unfold byteOf
  rw [nmAt_of hv, hc]
  exact ⟨rfl, rfl⟩
theorem byteOf_inj {l : List Seg} (h : validB l = true) {u v : Nat} (hu : u < l.length) (hv : v < l.length) (he : byteOf l u = byteOf l v) : u = v := by
  have key : ∀ a b : Nat, a < b → b < l.length → byteOf l a ≠ byteOf l b := fun a b hab hb e => by
    have h1 := (valid_all h).1 b hb
    rw [segOk_of hb] at h1
    simp only [Bool.and_eq_true, Bool.not_eq_true'] at h1
    have h2 := h1.1.1.2
    have h3 : takenB (l.take b) l[b].name = true := by
      unfold takenB
      refine List.any_eq_true.2 ⟨l[a]'(by omega), ?_, sameB_iff.2 ?_⟩
      · exact List.mem_take_iff_getElem.2 ⟨a, by omega, rfl⟩
      · rw [(nmAt_one h (show a < l.length by omega)).2, (nmAt_one h hb).2, e]
    rw [h3] at h2
    cases h2
  rcases Nat.lt_trichotomy u v with h1 | h1 | h1
  · exact absurd he (key u v h1 hv)
  · exact h1
  · exact absurd he.symm (key v u h1 hu)
theorem namesAt_map {l : List Seg} (h : validB l = true) : ∀ js : List Nat, (∀ j ∈ js, j < l.length) → (namesAt l js).data.toList = js.map (byteOf l)
  | [], _ => rfl
  | j :: js, hj => by
    have h1 := namesAt_map h js (fun x hx => hj x (List.mem_cons_of_mem _ hx))
    have e : (namesAt l (j :: js)).data.toList = nmAt l j ++ (namesAt l js).data.toList := by simp [namesAt]
    rw [e, h1, (nmAt_one h (hj j List.mem_cons_self)).1]
    rfl

def comBytes (x y : ByteArray) : Nat := comLen x.data.toList y.data.toList
theorem comBytes_at {x y : ByteArray} {k : Nat} (h : comBytes x y = k + comLen (x.data.toList.drop k) (y.data.toList.drop k)) (hx : k < x.size) (hy : k < y.size) :
    (x[k] = y[k] → comBytes x y = (k + 1) + comLen (x.data.toList.drop (k + 1)) (y.data.toList.drop (k + 1))) ∧ (x[k] ≠ y[k] → comBytes x y = k) := by
  have e1 : x.data.toList.drop k = x[k] :: x.data.toList.drop (k + 1) := List.drop_eq_getElem_cons (by simpa using hx)
  have e2 : y.data.toList.drop k = y[k] :: y.data.toList.drop (k + 1) := List.drop_eq_getElem_cons (by simpa using hy)
  rw [e1, e2] at h
  simp only [comLen] at h
  refine ⟨fun he => ?_, fun he => ?_⟩
  · rw [if_pos he] at h; omega
  · rw [if_neg he] at h; omega

set_option maxRecDepth 100000 in
set_option maxHeartbeats 1000000 in
theorem l1Common_any (x y : ByteArray) (w : World) (hx : x.size ≤ 1048576) (_ : y.size ≤ 1048576) :
    Calls Try.prog 67 #[.string x, .string y] w fun e w' => e = .returned (.int .i64 (comBytes x y)) ∧ Below w.heap.size w w' := by
  go_enter Try.func67, Try.ntmps67
  go_wp2
  go_loopw [5] (fun i wr => ∃ k : Nat, k ≤ x.size ∧ k ≤ y.size ∧ i = .int .i64 k ∧ Hid (comBytes x y = k + comLen (x.data.toList.drop k) (y.data.toList.drop k)) ∧ Below w.heap.size w wr)
    (fun i _ => x.size - (intOf i).toNat)
  case atStart => exact ⟨0, Nat.zero_le _, Nat.zero_le _, rfl, (Nat.zero_add _).symm, Below.refl _ _⟩
  case round =>
    obtain ⟨k, hkx, hky, rfl, HK, hb⟩ := hrel
    have hk0 : (0 : Int) ≤ (k : Int) := Int.natCast_nonneg _
    by_cases hlx : k < x.size
    · have g1 : decide (k < x.size) = true := decide_eq_true hlx
      have hlx' : (k : Int) < (x.size : Int) := by omega
      by_cases hly : k < y.size
      · have g2 : decide (k < y.size) = true := decide_eq_true hly
        have hly' : (k : Int) < (y.size : Int) := by omega
        obtain ⟨ha, hbn⟩ := comBytes_at HK.out hlx hly
        by_cases he : x[k] = y[k]
        · have HA := Lib.hid (ha he)
          have ht : ((x[k].toNat : Int) == (y[k].toNat : Int)) = true := by rw [he]; simp
          clear ha hbn he HK
          go_wp2_with fail
          go_quiet (fail)
          go_wp2
          go_roundw
          case rel => exact ⟨k + 1, by omega, by omega, by go_num, HA, below_drewN hb _⟩
          case measure => simp [intOf]; omega
        · have HA := Lib.hid (hbn he)
          have ht : ((x[k].toNat : Int) == (y[k].toNat : Int)) = false := by
            rw [beq_eq_false_iff_ne]
            exact fun e => he (UInt8.toNat_inj.1 (by omega))
          clear ha hbn he HK
          go_wp2_with fail
          go_quiet (fail)
          go_wp2
          go_ret
          exact ⟨ret_int (by rw [HA.out]), below_drewN hb _⟩
      · have g2 : decide (k < y.size) = false := decide_eq_false hly
        have HA : Hid (comBytes x y = k) := by
          show _ = _
          rw [HK.out, List.drop_of_length_le (l := y.data.toList) (by simp; omega)]
          cases x.data.toList.drop k <;> simp [comLen]
        clear HK
        go_wp2_with fail
        go_quiet (fail)
        go_wp2
        go_ret
        exact ⟨ret_int (by rw [HA.out]), below_drewN hb _⟩
    · have g1 : decide (k < x.size) = false := decide_eq_false hlx
      have HA : Hid (comBytes x y = k) := by
        show _ = _
        rw [HK.out, List.drop_of_length_le (l := x.data.toList) (by simp; omega)]
        simp [comLen]
      clear HK
      go_wp2_with fail
      go_quiet (fail)
      go_wp2
      go_ret
      exact ⟨ret_int (by rw [HA.out]), below_drewN hb _⟩

end Go.Proofs.Ytcpiojliakgdlaa

/- spec.CommonOf: the last name of the common beginning of two paths. -/
namespace Go.Proofs.Ytcpiojliakgdlaa
open Go.RowKit

end Go.Proofs.Ytcpiojliakgdlaa

/- What the loop of impl.CommonOf leaves, plain. -/
namespace Go.Proofs.Ytcpiojliakgdlaa
open Go.RowKit

def lastNm (l : List Seg) (T : List Nat) : ByteArray := namesAt l T.getLast?.toList
theorem lastNm_snoc {l : List Seg} (T : List Nat) {v : Nat} (hv : v < l.length) : lastNm l (T ++ [v]) = l[v].name := by
  unfold lastNm
  rw [List.getLast?_concat]
  apply ByteArray.ext
  apply Array.ext'
  simp [namesAt, nmAt_of hv]
end Go.Proofs.Ytcpiojliakgdlaa
/- Segments that lie together, and over an address. No program. -/
namespace Go.Proofs.Ytcpiojliakgdlaa
open Go.RowKit

theorem index_lt {l : List Seg} {s : ByteArray} (h : 0 ≤ indexB l s) : (indexB l s).toNat < l.length := by
  rcases indexB_bd l s with a | ⟨_, a⟩ <;> omega
theorem index_nm {l : List Seg} {s : ByteArray} (h : 0 ≤ indexB l s) : namesAt l [(indexB l s).toNat] = s := by
  have hv := index_valid h
  have h1 : indexB l s = seek l s := if_pos hv
  obtain ⟨x, hx, hn⟩ := seek_name (l := l) (s := s) (j := (indexB l s).toNat) (by omega)
  have hlt := index_lt h
  rw [← List.nil_append [(indexB l s).toNat], namesAt_snoc [] hlt]
  rw [List.getElem?_eq_getElem hlt] at hx
  injection hx with hx
  rw [hx, hn]
  apply ByteArray.ext
  simp [namesAt]
theorem namesAt_one_inj {l : List Seg} (hv : validB l = true) {u v : Nat} (hu : u < l.length) (hv' : v < l.length) (h : namesAt l [u] = namesAt l [v]) : u = v := by
  have h1 := namesAt_map hv [u] (fun j hj => by rw [List.mem_singleton.1 hj]; exact hu)
  have h2 := namesAt_map hv [v] (fun j hj => by rw [List.mem_singleton.1 hj]; exact hv')
  rw [h, h2] at h1
  exact (byteOf_inj hv hv' hu (by simpa using h1)).symm
end Go.Proofs.Ytcpiojliakgdlaa
/- States, needs and what they load: no program. -/
namespace Go.Proofs.Ytcpiojliakgdlaa
open Go.RowKit

def IsState (l : List Seg) (T : List Nat) : Prop := T = [] ∨ ∃ j, j < l.length ∧ T = rp l j
theorem IsState.lt {l : List Seg} (hd : Down l l.length) {T : List Nat} (h : IsState l T) : ∀ j ∈ T, j < l.length := by
  rcases h with rfl | ⟨i, hi, rfl⟩
  · intro j hj; cases hj
  · intro j hj
    have := rp_le hd i hi j hj
    omega
theorem IsState.asc {l : List Seg} (hd : Down l l.length) {T : List Nat} (h : IsState l T) : T.Pairwise (· < ·) := by
  rcases h with rfl | ⟨i, hi, rfl⟩
  · exact List.Pairwise.nil
  · exact rp_asc hd i hi
theorem seek_nm {l : List Seg} (hv : validB l = true) {i : Nat} (hi : i < l.length) : indexB l (namesAt l [i]) = (i : Int) := by
  have h1 : indexB l (namesAt l [i]) = seek l (namesAt l [i]) := if_pos hv
  have h2 : 0 ≤ indexB l (namesAt l [i]) := by
    rw [h1]
    have key : ∀ (k : Nat), k ≤ i → seek l (namesAt l [i]) = seekFrom (namesAt l [i]) (l.drop k) k ∨ 0 ≤ seek l (namesAt l [i]) := by
      intro k
      induction k with
      | zero => intro _; exact .inl rfl
      | succ k ih =>
        intro hk
        rcases ih (by omega) with h | h
        · rw [seekFrom_drop l _ k (by omega)] at h
          by_cases hs : sameB (l[k]'(by omega)).name (namesAt l [i]) = true
          · rw [if_pos hs] at h; right; omega
          · rw [if_neg hs] at h; exact .inl h
        · exact .inr h
    rcases key i (Nat.le_refl _) with h | h
    · rw [seekFrom_drop l _ i hi, if_pos (sameB_iff.2 ?_)] at h
      · omega
      · rw [(nmAt_one hv hi).2]
        show _ = (⟨([i].flatMap (nmAt l)).toArray⟩ : ByteArray)
        rw [List.flatMap_cons, (nmAt_one hv hi).1]
        rfl
    · exact h
  have h3 := index_nm h2
  have h4 := namesAt_one_inj hv (index_lt h2) hi h3
  omega

/-- The state behind a need for all of 'P'. -/
def needT (T P : List Nat) : List Nat := if (∀ x ∈ P, x ∈ T) then T else P
def lessT (T U : List Nat) : List Nat := T.filter (fun x => decide (x ∉ U))
def loadT (T P : List Nat) : List Nat := lessT (needT T P) T
theorem comLen_comm {α : Type} [DecidableEq α] : ∀ xs ys : List α, comLen xs ys = comLen ys xs
  | [], [] => rfl
  | [], _ :: _ => by simp [comLen]
  | _ :: _, [] => by simp [comLen]
  | a :: xs, b :: ys => by
    simp only [comLen]
    by_cases h : a = b
    · rw [if_pos h, if_pos h.symm, comLen_comm xs ys]
    · rw [if_neg h, if_neg (fun e => h e.symm)]
theorem com_mem {l : List Seg} (hd : Down l l.length) {T U : List Nat} (hT : IsState l T) (hU : IsState l U) {k : Nat} (hk : k < T.length) : T[k] ∈ U ↔ k < comLen T U := by
  constructor
  · intro hm
    rcases hT with rfl | ⟨i, hi, rfl⟩
    · exact absurd hk (by simp)
    · rcases hU with rfl | ⟨j, hj, rfl⟩
      · cases hm
      · have hmi : (rp l i)[k] ∈ rp l i := List.getElem_mem hk
        have hx : (rp l i)[k] < l.length := by have := rp_le hd i hi _ hmi; omega
        have h1 := rp_prefix hd i hi _ hmi
        have h2 := rp_prefix hd j hj _ hm
        obtain ⟨A, hA⟩ := rp_last hd _ hx
        have h3 := comLen_prefix _ _ _ h1 h2
        rw [hA] at h1 h3
        have h4 : (rp l i).take k ++ [(rp l i)[k]] <+: rp l i := by
          rw [← List.take_succ_eq_append_getElem hk]
          exact List.take_prefix _ _
        have h5 := snoc_unique (rp_asc hd i hi) h1 h4
        rw [List.length_take] at h5
        rw [List.length_append, List.length_singleton] at h3
        omega
  · intro h
    obtain ⟨x, h1, h2⟩ := comLen_get T U k h
    rw [List.getElem?_eq_getElem hk] at h1
    injection h1 with h1
    rw [h1]
    exact List.mem_of_getElem? h2
theorem less_nil {T U : List Nat} : lessT T U = [] ↔ ∀ x ∈ T, x ∈ U := by
  unfold lessT
  rw [List.filter_eq_nil_iff]
  simp
theorem less_self (T : List Nat) : lessT T T = [] := less_nil.2 fun _ h => h

end Go.Proofs.Ytcpiojliakgdlaa

/- Costs, needs one after the other, the cheapest need: no program. -/
namespace Go.Proofs.Ytcpiojliakgdlaa
open Go.RowKit

/-- Where the segment that a byte names stands. -/
def bSeek (l : List Seg) (b : UInt8) : Int := seek l ⟨#[b]⟩
def namedOk (l : List Seg) (bs : List UInt8) : Bool := bs.all (fun b => decide (0 ≤ bSeek l b))
def namedJs (l : List Seg) (bs : List UInt8) : List Nat := bs.map (fun b => (bSeek l b).toNat)
theorem namedOk_snoc (l : List Seg) (bs : List UInt8) (b : UInt8) : namedOk l (bs ++ [b]) = (namedOk l bs && decide (0 ≤ bSeek l b)) := by
  unfold namedOk
  rw [List.all_append]
  simp
theorem namedJs_snoc (l : List Seg) (bs : List UInt8) (b : UInt8) : namedJs l (bs ++ [b]) = namedJs l bs ++ [(bSeek l b).toNat] := by
  unfold namedJs
  rw [List.map_append]
  rfl
theorem namedOk_bad {l : List Seg} {bs : List UInt8} {b : UInt8} (h : b ∈ bs) (hb : bSeek l b < 0) : namedOk l bs = false := by
  unfold namedOk
  rw [List.all_eq_false]
  exact ⟨b, h, by simp; omega⟩
theorem namedJs_lt {l : List Seg} {bs : List UInt8} (h : namedOk l bs = true) : ∀ j ∈ namedJs l bs, j < l.length := by
  intro j hj
  obtain ⟨b, hb, rfl⟩ := List.mem_map.1 hj
  have h1 := List.all_eq_true.1 h b hb
  have h2 : 0 ≤ bSeek l b := by simpa using h1
  rcases seek_bd l ⟨#[b]⟩ with h3 | ⟨_, h3⟩
  · unfold bSeek at h2; omega
  · unfold bSeek at *; omega
theorem bSeek_byte {l : List Seg} (hv : validB l = true) {i : Nat} (hi : i < l.length) : bSeek l (byteOf l i) = (i : Int) := by
  have h := seek_nm hv hi
  have h1 : namesAt l [i] = ⟨#[byteOf l i]⟩ := by
    show (⟨([i].flatMap (nmAt l)).toArray⟩ : ByteArray) = _
    rw [List.flatMap_cons, (nmAt_one hv hi).1]
    rfl
  rw [h1] at h
  have h2 : indexB l ⟨#[byteOf l i]⟩ = seek l ⟨#[byteOf l i]⟩ := if_pos hv
  unfold bSeek
  omega
theorem named_names {l : List Seg} (hv : validB l = true) : ∀ js : List Nat, (∀ j ∈ js, j < l.length) → namedOk l (namesAt l js).data.toList = true ∧ namedJs l (namesAt l js).data.toList = js := by
  intro js hj
  rw [namesAt_map hv js hj]
  induction js with
  | nil => exact ⟨rfl, rfl⟩
  | cons j js ih =>
    obtain ⟨h1, h2⟩ := ih (fun x hx => hj x (List.mem_cons_of_mem _ hx))
    have h3 := bSeek_byte hv (hj j List.mem_cons_self)
    unfold namedOk at h1 ⊢
    unfold namedJs at h2 ⊢
    rw [List.map_cons, List.all_cons, List.map_cons, h1, h2, h3]
    simp

theorem szs_bd {l : List Seg} (h : validB l = true) : ∀ js : List Nat, (∀ j ∈ js, j < l.length) → (js.length : Int) ≤ szs l js ∧ szs l js ≤ 99 * (js.length : Int)
  | [], _ => by simp [szs]
  | j :: js, hj => by
    have h1 := szs_bd h js (fun x hx => hj x (List.mem_cons_of_mem _ hx))
    have h2 := sizeAt_bd h (hj j List.mem_cons_self)
    have h3 : szs l (j :: js) = sizeAt l j + szs l js := rfl
    rw [h3, List.length_cons]
    omega

def costB (l : List Seg) (s : ByteArray) : Int := if validB l = true ∧ namedOk l s.data.toList = true then szs l (namedJs l s.data.toList) else -1
theorem costB_names {l : List Seg} (hv : validB l = true) {js : List Nat} (hj : ∀ j ∈ js, j < l.length) : costB l (namesAt l js) = szs l js := by
  obtain ⟨h1, h2⟩ := named_names hv js hj
  unfold costB
  rw [if_pos ⟨hv, h1⟩, h2]

theorem less_lt {l : List Seg} {T U : List Nat} (h : ∀ j ∈ T, j < l.length) : ∀ j ∈ lessT T U, j < l.length := fun j hj => h j (List.mem_filter.1 hj).1
theorem state_len {l : List Seg} {T : List Nat} (h : IsState l T) : T.length ≤ l.length := by
  rcases h with rfl | ⟨i, hi, rfl⟩
  · exact Nat.zero_le _
  · have := rootPath_len l (i + 1) i
    unfold rp
    omega
theorem less_len (T U : List Nat) : (lessT T U).length ≤ T.length := List.length_filter_le _ _
end Go.Proofs.Ytcpiojliakgdlaa
/- Where a node lies: the program's own place, by the parents. -/
namespace Go.Proofs.Ytcpiojliakgdlaa
open Go.RowKit

/-- What place reads of the nodes. -/
def Placed (w : World) (l : List Seg) (nb : Nat → Nat) : Prop := ∀ j, j < l.length → nb j < w.heap.size ∧ w.cell? ⟨nb j, 1, none⟩ = some (.int .i64 (sizeAt l j)) ∧ w.cell? ⟨nb j, 2, none⟩ = some (.pointer (parPtr l nb j))
theorem Placed.below {w w' : World} {l : List Seg} {nb : Nat → Nat} (h : Placed w l nb) (hb : Below w.heap.size w w') : Placed w' l nb := fun j hj => by
  obtain ⟨h1, h2, h3⟩ := h j hj
  exact ⟨Nat.lt_of_lt_of_le h1 hb.size, (hb.cell (p := ⟨nb j, 1, none⟩) h1).trans h2, (hb.cell (p := ⟨nb j, 2, none⟩) h1).trans h3⟩
theorem Nodes.placed {w : World} {B g : Nat} {l : List Seg} {nb : Nat → Nat} {cv : Nat → Value} (h : Nodes w B g l.length l.length l nb cv) : Placed w l nb := fun j hj => by
  have h1 := h.node j _ hj (List.getElem?_eq_getElem hj)
  refine ⟨h1.lt, ?_, h1.cell 2⟩
  rw [sizeAt_of hj]
  exact h1.cell 1

end Go.Proofs.Ytcpiojliakgdlaa
/- The program's rooms: where segments begin and end, the whole room, what is saved. -/
namespace Go.Proofs.Ytcpiojliakgdlaa
open Go.RowKit

end Go.Proofs.Ytcpiojliakgdlaa
/- The program's rooms: RoomOf, SavedRoom, Overlap. -/
namespace Go.Proofs.Ytcpiojliakgdlaa
open Go.RowKit

end Go.Proofs.Ytcpiojliakgdlaa
/- The program's LongestPath. -/
namespace Go.Proofs.Ytcpiojliakgdlaa
open Go.RowKit Go.Shelf

theorem Nodes.below {w w' : World} {B g m k : Nat} {l : List Seg} {nb : Nat → Nat} {cv : Nat → Value} (h : Nodes w B g m k l nb cv) (hb : Below w.heap.size w w') : Nodes w' B g m k l nb cv := by
  obtain ⟨cs, hg, hcs, hci⟩ := h.row
  refine ⟨⟨cs, hg.below hb hg.lt, hcs, hci⟩, fun i t hi ht => ?_, fun i t hi hi2 ht => ?_, fun i hi => ?_, h.apart, h.apartC, h.notg, h.low⟩
  · have h1 := h.node i t hi ht
    exact h1.below hb h1.lt
  · have h1 := h.fresh i t hi hi2 ht
    exact h1.below hb h1.lt
  · exact own_keep (h.kids i hi) fun b hb' => hb.block b ((h.kids i hi).lt b hb').2

end Go.Proofs.Ytcpiojliakgdlaa
/- impl.CommonOf where both are found. -/
namespace Go.Proofs.Ytcpiojliakgdlaa
open Go.RowKit Go.Shelf
attribute [local go_sem] Oper.semAt_some

theorem row_grown {W W' : World} {b : Nat} {t : TypeId} {cs : Array Value} {row : Option Nat} (h : Row W b t cs) (hg : W.grownBy W' row) {B : Nat} (hr : ∀ r, row = some r → B ≤ r ∧ ∃ o : Obj, W.heap[r]? = some o ∧ o.isCells = false) : Row W' b t cs :=
  (hg.block b h.lt (fun he => by
    obtain ⟨_, o, ho, hc⟩ := hr b he.symm
    have h' : W.heap[b]? = some (.cells cs t (0, 0)) := h
    rw [h'] at ho
    injection ho with ho
    subst ho
    cases hc)).trans h
theorem keepsN_set {B : Nat} (W : World) (p : Addr) (v : Value) (hp : p.block < B) : KeepsN B W (W.setCell p v) :=
  ⟨by simp, fun k o hk ho _ => (Below.heap_setCell W p v k (by omega)).trans ho⟩
/-- What the loop keeps: the box of the answer, the box of the names. -/
structure Loop2 (w1 : World) (l : List Seg) (R : List Nat) (nm : ByteArray) (b2 : Nat) (T : List Nat) (W : World) : Prop where
  box : Row W w1.heap.size 9 #[.string (lastNm l T)]
  names : Row W b2 9 #[.string nm]
  below : Below w1.heap.size w1 W
  all : ∀ v ∈ T, v ∈ R
theorem Loop2.grown {w1 W W' : World} {l : List Seg} {R T : List Nat} {nm : ByteArray} {b2 B : Nat} {row : Option Nat} (h : Loop2 w1 l R nm b2 T W) (hg : W.grownBy W' row) (hB : w1.heap.size ≤ B) (hr : ∀ r, row = some r → B ≤ r ∧ ∃ o : Obj, W.heap[r]? = some o ∧ o.isCells = false) : Loop2 w1 l R nm b2 T W' :=
  ⟨row_grown h.box hg hr, row_grown h.names hg hr, h.below.grown hg h.below.size (fun k e => by have := (hr k e).1; omega), h.all⟩
theorem Loop2.drew {w1 W : World} {l : List Seg} {R T : List Nat} {nm : ByteArray} {b2 : Nat} (h : Loop2 w1 l R nm b2 T W) : Loop2 w1 l R nm b2 T W.drew := ⟨h.box, h.names, h.below.drew, h.all⟩
theorem Loop2.step {w1 W : World} {l : List Seg} {R T : List Nat} {nm a : ByteArray} {b2 : Nat} (h : Loop2 w1 l R nm b2 T W) (hb2 : w1.heap.size < b2) {v : Nat} (hv : v < l.length) (hR : v ∈ R) (ha : l[v].name = a) :
    Loop2 w1 l R nm b2 (T ++ [v]) (W.setCell ⟨w1.heap.size, 0, none⟩ (.string a)) := by
  refine ⟨?_, Row.far h.names (by show b2 ≠ w1.heap.size; omega) _, h.below.setCell (Nat.le_refl _) _, fun u hu => ?_⟩
  · have := Row.put h.box 0 (.string a)
    rw [lastNm_snoc T hv, ha]
    exact this
  · rcases List.mem_append.1 hu with hu | hu
    · exact h.all u hu
    · rw [List.mem_singleton.1 hu]; exact hR

end Go.Proofs.Ytcpiojliakgdlaa
/- A path gathered into a slice, and what is in it: the program's LieTogether. -/
namespace Go.Proofs.Ytcpiojliakgdlaa
open Go.RowKit Go.Shelf
attribute [local go_sem] Oper.semAt_some

theorem own_grown {W W' : World} {base n : Nat} {e : TypeId} {v : Value} {xs : List Value} {row : Option Nat} (h : W.ownsRow base e 1 v n xs) (hg : W.grownBy W' row) (hr : ∀ r, row = some r → ∃ o : Obj, W.heap[r]? = some o ∧ o.isCells = false) : W'.ownsRow base e 1 v n xs :=
  own_keep h fun g hb => hg.block g ((h.lt g hb).2) (fun he => by
    obtain ⟨o, ho, hc⟩ := hr g he.symm
    rcases h.2 with ⟨rfl, _⟩ | ⟨g', cap, cur, rfl, _, hh, _⟩
    · simp [Value.ownBlock] at hb
    · have : g' = g := by simpa [Value.ownBlock] using hb
      subst this
      rw [hh] at ho
      injection ho with ho
      subst ho
      cases hc)

/-- What was gathered: the box holds a slice of the call's own. -/
structure Gath (w : World) (nb : Nat → Nat) (T : List Nat) (W : World) : Prop where
  ex : ∃ v, Row W w.heap.size 61 #[v] ∧ W.ownsRow (w.heap.size + 1) 72 1 v T.length (ptrsOf nb T) ∧ (T.length = 0 → v = .slice none 0 0)
  below : Below w.heap.size w W
theorem Gath.grown {w W W' : World} {nb : Nat → Nat} {T : List Nat} {B : Nat} {row : Option Nat} (h : Gath w nb T W) (hg : W.grownBy W' row) (hB : w.heap.size ≤ B) (hr : ∀ r, row = some r → B ≤ r ∧ ∃ o : Obj, W.heap[r]? = some o ∧ o.isCells = false) : Gath w nb T W' := by
  obtain ⟨⟨v, h1, h2, h3⟩, hb⟩ := h
  exact ⟨⟨v, row_grown h1 hg hr, own_grown h2 hg (fun r e => (hr r e).2), h3⟩, hb.grown hg hb.size (fun k e => by have := (hr k e).1; omega)⟩

/-- What Index says. -/
def FoundAt (js : List Nat) (i : Nat) (w : World) (e : Ending) (w' : World) : Prop := ∃ r : Int, e = .returned (.int .i64 r) ∧ (0 ≤ r ↔ i ∈ js) ∧ (0 ≤ r → js[r.toNat]? = some i) ∧ w = w'

set_option maxRecDepth 100000 in
set_option maxHeartbeats 1000000 in
theorem index_any (g cap base : Nat) (js : List Nat) (nb : Nat → Nat) (i : Nat) (w : World) (hown : w.ownsRow base 72 1 (.slice (some ⟨g, 0, none⟩) js.length cap) js.length (ptrsOf nb js)) (hjl : js.length ≤ 1000)
    (hnode : ∀ j, j = i ∨ j ∈ js → ∃ c, Row w (nb j) 108 c) (hinj : ∀ j ∈ js, nb i = nb j → i = j) :
    Calls Try.prog 150 #[.slice (some ⟨g, 0, none⟩) js.length cap, .pointer (some ⟨nb i, 0, none⟩)] w (FoundAt js i w) := by
  have HO := Lib.hid hown
  have HN := Lib.hid hnode
  have HI := Lib.hid hinj
  obtain ⟨i0, hi0, hsz0⟩ := Option.map_eq_some_iff.1 (show (Try.prog.info? 108).map (fun i => i.size) = some 4 by kernel_rfl)
  have I0 := Lib.hid hi0
  have I1 := Lib.hid hsz0
  clear hown hnode hinj hi0 hsz0
  go_enter Try.func150, Try.ntmps150
  go_wp2
  go_loop [8] (fun c => ∃ k : Nat, k ≤ js.length ∧ c = .int .i64 k ∧ Hid (∀ m, m < k → js[m]? ≠ some i)) (fun c => js.length - (intOf c).toNat)
  case atStart => exact ⟨0, Nat.zero_le _, rfl, fun m hm => absurd hm (by omega)⟩
  case round =>
    obtain ⟨k, hk, rfl, HM⟩ := hrel
    by_cases hlt : k < js.length
    · have hc : w.cell? ⟨g, k, none⟩ = some (.pointer (some ⟨nb js[k], 0, none⟩)) := by
        rw [HO.out.cellAt k (by omega)]
        simp [ptrsOf, ptrTo, hlt]
      have HK : Hid (js[k]? = some js[k]) := List.getElem?_eq_getElem hlt
      have HMem : Hid (js[k] ∈ js) := List.getElem_mem hlt
      generalize js[k] = j at *
      by_cases hij : i = j
      · subst hij
        have hq := fun W : World => run_eql_ptr_same (P := Try.prog) W ⟨nb i, 0, none⟩ Try.underlying72 I0.out
        go_wp2
        go_ret
        exact ⟨k, rfl, ⟨fun _ => HMem.out, fun _ => by omega⟩, fun _ => HK.out, rfl⟩
      · obtain ⟨c1, r1⟩ := HN.out i (.inl rfl)
        obtain ⟨c2, r2⟩ := HN.out j (.inr HMem.out)
        have hne : nb i ≠ nb j := fun e => hij (HI.out j HMem.out e)
        have hq := run_eql_ptr_other (P := Try.prog) w (a := ⟨nb i, 0, none⟩) (b := ⟨nb j, 0, none⟩) Try.underlying72 I0.out (by rw [I1.out]; decide) (fun e => hne (by injection e)) r1 r2
        have HM1 : Hid (∀ m, m < k + 1 → js[m]? ≠ some i) := fun m hm => by
          rcases Nat.lt_or_ge m k with h1 | h1
          · exact HM.out m h1
          · obtain rfl : m = k := by omega
            rw [HK.out]
            intro e
            injection e with e
            exact hij e.symm
        clear r1 r2 hij hne
        go_wp2
        go_round
        case rel => exact ⟨k + 1, by omega, by go_num, HM1⟩
        case measure => simp [intOf]; omega
    · obtain rfl : k = js.length := by omega
      go_wp2
      go_ret
      refine ⟨-1, rfl, ⟨fun h => absurd h (by decide), fun h => ?_⟩, fun h => absurd h (by decide), rfl⟩
      obtain ⟨m, hm, he⟩ := List.getElem_of_mem h
      exact absurd (by rw [List.getElem?_eq_getElem hm, he]) (HM.out m hm)

end Go.Proofs.Ytcpiojliakgdlaa
/- The program's LieTogether. -/
namespace Go.Proofs.Ytcpiojliakgdlaa
open Go.RowKit

end Go.Proofs.Ytcpiojliakgdlaa
/- The model's side of rooms: where segments begin and end. -/
namespace Go.Proofs.Ytcpiojliakgdlaa
open Go.RowKit

end Go.Proofs.Ytcpiojliakgdlaa
/- The model's side of rooms: the whole room, what is saved, who lies together. -/
namespace Go.Proofs.Ytcpiojliakgdlaa
open Go.RowKit

end Go.Proofs.Ytcpiojliakgdlaa
/- The kinds of calls: KindOf on both sides. -/
namespace Go.Proofs.Ytcpiojliakgdlaa
open Go.RowKit

end Go.Proofs.Ytcpiojliakgdlaa
/- The model's side of loading: states and needs. -/
namespace Go.Proofs.Ytcpiojliakgdlaa
open Go.RowKit

theorem ret_pair {a b c d : ByteArray} (h : a = c) (k : b = d) : Ending.returned (.tuple #[.string a, .string b]) = .returned (.tuple #[.string c, .string d]) := by rw [h, k]
theorem drop_names {l : List Seg} (hv : validB l = true) {P : List Nat} (hP : ∀ j ∈ P, j < l.length) (n : Nat) : (namesAt l P).extract n (namesAt l P).size = namesAt l (P.drop n) := by
  apply ByteArray.ext
  apply Array.ext'
  have h1 := namesAt_map hv P hP
  have h2 := namesAt_map hv (P.drop n) (fun j hj => hP j (List.mem_of_mem_drop hj))
  rw [h2, List.map_drop, ← h1]
  simp [ByteArray.data_extract]
  exact List.take_of_length_le (by simp)
theorem names_size {l : List Seg} (hv : validB l = true) {P : List Nat} (hP : ∀ j ∈ P, j < l.length) : (namesAt l P).size = P.length := by
  have h1 := congrArg List.length (namesAt_map hv P hP)
  simpa using h1
theorem com_names {l : List Seg} (hv : validB l = true) {T P : List Nat} (hT : ∀ j ∈ T, j < l.length) (hP : ∀ j ∈ P, j < l.length) : comBytes (namesAt l T) (namesAt l P) = comLen T P := by
  unfold comBytes
  rw [namesAt_map hv T hT, namesAt_map hv P hP]
  exact comLen_map _ _ _ (fun a ha b hb he => byteOf_inj hv (hT a ha) (hP b hb) he)

end Go.Proofs.Ytcpiojliakgdlaa

/- The model's NeedOf, DropsOf, CostOf, LoadCost. -/
namespace Go.Proofs.Ytcpiojliakgdlaa
open Go.RowKit

theorem named_take {l : List Seg} (s : ByteArray) {k : Nat} (h : k < s.size) : namedOk l (s.data.toList.take (k + 1)) = (namedOk l (s.data.toList.take k) && decide (0 ≤ bSeek l s[k])) ∧ namedJs l (s.data.toList.take (k + 1)) = namedJs l (s.data.toList.take k) ++ [(bSeek l s[k]).toNat] := by
  have e : s.data.toList.take (k + 1) = s.data.toList.take k ++ [s[k]] := by
    rw [List.take_succ_eq_append_getElem (by simpa using h)]
    rfl
  rw [e, namedOk_snoc, namedJs_snoc]
  exact ⟨rfl, rfl⟩
theorem one_byte (s : ByteArray) {k : Nat} (h : k < s.size) : s.extract k (k + 1) = ⟨#[s[k]]⟩ := by
  apply ByteArray.ext
  apply Array.ext'
  have : s.data.toList.drop k = s[k] :: s.data.toList.drop (k + 1) := List.drop_eq_getElem_cons (by simpa using h)
  simp [ByteArray.data_extract, this]
theorem bSeek_bd (l : List Seg) (b : UInt8) : bSeek l b = -1 ∨ (0 ≤ bSeek l b ∧ bSeek l b < l.length) := seek_bd l _

set_option maxRecDepth 100000 in
set_option maxHeartbeats 1000000 in
theorem specCost_any (A : Option Addr) (l : List Seg) (c : Nat) (s : ByteArray) (w : World) (hw : Segs w w.heap.size A l) (hl : l.length ≤ 1048576) (hn : Short l) (hs : s.size ≤ 1048576) :
    Calls Try.prog 28 #[.slice A l.length c, .string s] w fun e w' => e = .returned (.int .i64 (costB l s)) ∧ Below w.heap.size w w' := by
  have HW : Hid (Segs w w.heap.size A l) := hw
  clear hw
  cases hv : validB l with
  | false =>
    have HF : Hid (costB l s = -1) := if_neg (by rw [hv]; simp)
    have HI : Hid (∀ t, indexB l t = -1) := fun t => if_neg (by rw [hv]; decide)
    by_cases h0 : s.size = 0
    · go_enter Try.func28, Try.ntmps28
      go_wp2
      go_loopw [5, 10] (fun o i wr => o = .int .i64 0 ∧ i = .int .i64 0 ∧ Below w.heap.size w wr) (fun _ _ _ => 0)
      case atStart => exact ⟨rfl, rfl, Below.refl _ _⟩
      case round =>
        obtain ⟨rfl, rfl, hb⟩ := hrel
        go_wp2_with fail
        refine (specTreeValid_any _ _ _ _ ((HW.out.below hb).more hb.size) hl hn).mono ?_
        rw [hv]
        rintro e w1 ⟨rfl, hb1⟩
        have B1 := hb.trans (hb1.mono hb.size)
        clear hb hb1 hv
        go_wp2
        go_ret
        exact ⟨ret_int HF.out.symm, B1⟩
    · have hp : 0 < s.size := by omega
      clear h0
      go_enter Try.func28, Try.ntmps28
      go_wp2
      go_loopw [5, 10] (fun o i wr => o = .int .i64 0 ∧ i = .int .i64 0 ∧ Below w.heap.size w wr) (fun _ _ _ => 0)
      case atStart => exact ⟨rfl, rfl, Below.refl _ _⟩
      case round =>
        obtain ⟨rfl, rfl, hb⟩ := hrel
        go_wp2_with fail
        refine (l1Index_any _ _ _ _ _ ((HW.out.below hb).more hb.size) hl hn).mono ?_
        rw [HI.out]
        rintro e w1 ⟨rfl, hb1⟩
        have B1 := hb.trans (hb1.mono hb.size)
        clear hb hb1 hv
        go_wp2
        go_ret
        exact ⟨ret_int HF.out.symm, B1⟩
  | true =>
    have HV := Lib.hid hv
    have HI : Hid (∀ b, indexB l ⟨#[b]⟩ = bSeek l b) := fun b => if_pos hv
    clear hv
    go_enter Try.func28, Try.ntmps28
    go_wp2
    go_loopw [5, 10] (fun o i wr => ∃ k : Nat, k ≤ s.size ∧ i = .int .i64 k ∧ o = .int .i64 (szs l (namedJs l (s.data.toList.take k))) ∧ Hid (namedOk l (s.data.toList.take k) = true) ∧ Below w.heap.size w wr)
      (fun _ i _ => s.size - (intOf i).toNat)
    case atStart => exact ⟨0, Nat.zero_le _, rfl, rfl, rfl, Below.refl _ _⟩
    case round =>
      obtain ⟨k, hk, rfl, rfl, HK, hb⟩ := hrel
      have hk0 : (0 : Int) ≤ (k : Int) := Int.natCast_nonneg _
      by_cases hlt : k < s.size
      · have hlt' : (k : Int) < (s.size : Int) := by omega
        have h1 : (k : Int) + 1 ≤ (s.size : Int) := by omega
        obtain ⟨t1, t2⟩ := named_take (l := l) s hlt
        have HM : Hid (s[k] ∈ s.data.toList) := by
          show s.data.toList[k]'(by simpa using hlt) ∈ _
          exact List.getElem_mem _
        have HX := Lib.hid (one_byte s hlt)
        have HT1 := Lib.hid t1
        have HT2 := Lib.hid t2
        have hbd := bSeek_bd l s[k]
        clear t1 t2
        generalize s[k] = b at *
        go_wp2_with fail
        refine (l1Index_any _ _ _ _ _ ((HW.out.below hb).more hb.size) hl hn).mono ?_
        rw [HX.out, HI.out]
        rcases hbd with hbd | ⟨hb0, hb1⟩
        · have HF : Hid (costB l s = -1) := if_neg (fun h => by rw [namedOk_bad HM.out (by omega)] at h; cases h.2)
          rw [hbd]
          rintro e w1 ⟨rfl, hb1⟩
          have B1 := hb.trans (hb1.mono hb.size)
          clear hb hb1 hbd
          go_wp2
          go_ret
          exact ⟨ret_int HF.out.symm, B1⟩
        · obtain ⟨j, hj⟩ := Int.eq_ofNat_of_zero_le hb0
          have hjl : j < l.length := by omega
          have HK1 : Hid (namedOk l (s.data.toList.take (k + 1)) = true) := by
            show _ = _
            rw [HT1.out, HK.out, decide_eq_true hb0]
            rfl
          have HS : Hid (szs l (namedJs l (s.data.toList.take (k + 1))) = szs l (namedJs l (s.data.toList.take k)) + sizeAt l j) := by
            show _ = _
            rw [HT2.out, szs_snoc, hj, Int.toNat_natCast]
          have hsb := szs_bd HV.out _ (namedJs_lt HK.out)
          have hln : (namedJs l (s.data.toList.take k)).length ≤ k := by
            unfold namedJs
            rw [List.length_map, List.length_take]
            omega
          have hs0 : 0 ≤ szs l (namedJs l (s.data.toList.take k)) := by omega
          have hs1 : szs l (namedJs l (s.data.toList.take k)) ≤ 103809024 := by omega
          have hz := sizeAt_bd HV.out hjl
          obtain ⟨b', o', rfl, hB, hc⟩ := HW.out (by omega)
          obtain ⟨c0, c1, c2⟩ := hc j l[j] (List.getElem?_eq_getElem hjl)
          clear hc c0 c2 hsb hln
          rw [← hb.cell hB] at c1
          rw [← sizeAt_of hjl] at c1
          rw [hj]
          generalize szs l (namedJs l (s.data.toList.take k)) = S0 at *
          generalize sizeAt l j = z at *
          rintro e w1 ⟨rfl, hb1'⟩
          have B1 := hb.trans (hb1'.mono hb.size)
          have c1' : w1.cell? ⟨b', o' + j * 3 + 1, none⟩ = some (.int .i64 z) := (hb1'.cell (p := ⟨b', o' + j * 3 + 1, none⟩) (Nat.lt_of_lt_of_le hB hb.size)).trans c1
          have hj0 : (0 : Int) ≤ (j : Int) := Int.natCast_nonneg _
          have hj1 : (j : Int) < (l.length : Int) := by omega
          clear hb hb1' c1 hj HX hb0 hb1
          go_wp2
          go_roundw
          case rel => exact ⟨k + 1, by omega, by go_num, by rw [HS.out], HK1, B1⟩
          case measure => simp [intOf]; omega
      · obtain rfl : k = s.size := by omega
        have HF : Hid (costB l s = szs l (namedJs l (s.data.toList.take s.size))) := by
          have e : s.data.toList.take s.size = s.data.toList := List.take_of_length_le (by simp)
          have hk := HK.out
          show _ = _
          rw [e] at hk ⊢
          exact if_pos ⟨HV.out, hk⟩
        have HT : Hid (validB l = true) := HV.out
        go_wp2_with fail
        refine (specTreeValid_any _ _ _ _ ((HW.out.below hb).more hb.size) hl hn).mono ?_
        rw [HT.out]
        rintro e w1 ⟨rfl, hb1⟩
        have B1 := hb.trans (hb1.mono hb.size)
        clear hb hb1
        go_wp2
        go_ret
        exact ⟨ret_int HF.out.symm, B1⟩

end Go.Proofs.Ytcpiojliakgdlaa
/- Sets of segments as bits, and chains that lie together: plain. -/
namespace Go.Proofs.Ytcpiojliakgdlaa
open Go.RowKit

/-- A set of eight as bits. -/
def setF (f : Nat → Bool) : Nat := (f 0).toNat + 2 * (f 1).toNat + 4 * (f 2).toNat + 8 * (f 3).toNat + 16 * (f 4).toNat + 32 * (f 5).toNat + 64 * (f 6).toNat + 128 * (f 7).toNat
theorem setF_lt (f : Nat → Bool) : setF f < 256 := by
  unfold setF
  have h : ∀ b : Bool, b.toNat ≤ 1 := fun b => by cases b <;> decide
  have := h (f 0); have := h (f 1); have := h (f 2); have := h (f 3); have := h (f 4); have := h (f 5); have := h (f 6); have := h (f 7)
  omega
theorem set_brute : ∀ b0 b1 b2 b3 b4 b5 b6 b7 : Bool,
    (b0.toNat + 2 * b1.toNat + 4 * b2.toNat + 8 * b3.toNat + 16 * b4.toNat + 32 * b5.toNat + 64 * b6.toNat + 128 * b7.toNat).testBit 0 = b0 ∧
    (b0.toNat + 2 * b1.toNat + 4 * b2.toNat + 8 * b3.toNat + 16 * b4.toNat + 32 * b5.toNat + 64 * b6.toNat + 128 * b7.toNat).testBit 1 = b1 ∧
    (b0.toNat + 2 * b1.toNat + 4 * b2.toNat + 8 * b3.toNat + 16 * b4.toNat + 32 * b5.toNat + 64 * b6.toNat + 128 * b7.toNat).testBit 2 = b2 ∧
    (b0.toNat + 2 * b1.toNat + 4 * b2.toNat + 8 * b3.toNat + 16 * b4.toNat + 32 * b5.toNat + 64 * b6.toNat + 128 * b7.toNat).testBit 3 = b3 ∧
    (b0.toNat + 2 * b1.toNat + 4 * b2.toNat + 8 * b3.toNat + 16 * b4.toNat + 32 * b5.toNat + 64 * b6.toNat + 128 * b7.toNat).testBit 4 = b4 ∧
    (b0.toNat + 2 * b1.toNat + 4 * b2.toNat + 8 * b3.toNat + 16 * b4.toNat + 32 * b5.toNat + 64 * b6.toNat + 128 * b7.toNat).testBit 5 = b5 ∧
    (b0.toNat + 2 * b1.toNat + 4 * b2.toNat + 8 * b3.toNat + 16 * b4.toNat + 32 * b5.toNat + 64 * b6.toNat + 128 * b7.toNat).testBit 6 = b6 ∧
    (b0.toNat + 2 * b1.toNat + 4 * b2.toNat + 8 * b3.toNat + 16 * b4.toNat + 32 * b5.toNat + 64 * b6.toNat + 128 * b7.toNat).testBit 7 = b7 := by
  decide +kernel
theorem setF_bit (f : Nat → Bool) (i : Nat) : (setF f).testBit i = (decide (i < 8) && f i) := by
  by_cases hi : i < 8
  · rw [decide_eq_true hi, Bool.true_and]
    obtain ⟨h0, h1, h2, h3, h4, h5, h6, h7⟩ := set_brute (f 0) (f 1) (f 2) (f 3) (f 4) (f 5) (f 6) (f 7)
    unfold setF
    have : i = 0 ∨ i = 1 ∨ i = 2 ∨ i = 3 ∨ i = 4 ∨ i = 5 ∨ i = 6 ∨ i = 7 := by omega
    rcases this with rfl | rfl | rfl | rfl | rfl | rfl | rfl | rfl <;> assumption
  · rw [decide_eq_false hi, Bool.false_and]
    exact Nat.testBit_lt_two_pow (Nat.lt_of_lt_of_le (setF_lt f) (Nat.pow_le_pow_right (n := 2) (by decide) (by omega : 8 ≤ i)))
theorem setF_congr {f g : Nat → Bool} (h : ∀ i, i < 8 → f i = g i) : setF f = setF g := by
  unfold setF
  rw [h 0 (by decide), h 1 (by decide), h 2 (by decide), h 3 (by decide), h 4 (by decide), h 5 (by decide), h 6 (by decide), h 7 (by decide)]
theorem setF_with (f : Nat → Bool) {i : Nat} (hi : i < 8) : setF f ||| 2 ^ i = setF (fun j => f j || decide (j = i)) := by
  apply Nat.eq_of_testBit_eq
  intro j
  rw [Nat.testBit_or, setF_bit, setF_bit, Nat.testBit_two_pow]
  by_cases hj : j < 8
  · rw [decide_eq_true hj, Bool.true_and, Bool.true_and]
    congr 1
    exact decide_eq_decide.2 ⟨fun h => h.symm, fun h => h.symm⟩
  · rw [decide_eq_false hj, Bool.false_and, Bool.false_and, Bool.false_or]
    exact decide_eq_false (by omega)
theorem setF_and (f : Nat → Bool) {i : Nat} (hi : i < 8) : setF f &&& 2 ^ i = if f i = true then 2 ^ i else 0 := by
  apply Nat.eq_of_testBit_eq
  intro j
  rw [Nat.testBit_and, setF_bit, Nat.testBit_two_pow]
  by_cases hj : i = j
  · subst hj
    rw [decide_eq_true hi, decide_eq_true rfl, Bool.true_and, Bool.and_true]
    cases f i with
    | false => simp
    | true => rw [if_pos rfl, Nat.testBit_two_pow, decide_eq_true rfl]
  · rw [decide_eq_false hj, Bool.and_false]
    cases f i with
    | false => simp
    | true => rw [if_pos rfl, Nat.testBit_two_pow, decide_eq_false hj]
theorem setF_has (f : Nat → Bool) {i : Nat} (hi : i < 8) : (setF f &&& 2 ^ i != 0) = f i := by
  rw [setF_and f hi]
  have hp : 0 < 2 ^ i := Nat.pow_pos (by decide)
  cases f i with
  | false => simp
  | true =>
    rw [if_pos rfl, bne_iff_ne]
    omega

end Go.Proofs.Ytcpiojliakgdlaa
