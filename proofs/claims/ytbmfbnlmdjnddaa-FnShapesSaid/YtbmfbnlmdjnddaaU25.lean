/- Joined: Pc Pd Cs Er Pe Qc Cm. -/
import Derived.Test.YtbmfbnlmdjnddaaU06
import Derived.Test.YtbmfbnlmdjnddaaU05
import Derived.BigQuiet
import Derived.Lib.IndexAny
/- Where a node lies: the program's own place, by the parents. -/
namespace Go.Proofs.Ytbmfbnlmdjnddaa
open Go.RowKit

/-- What place reads of the nodes. -/
def Placed (w : World) (l : List Seg) (nb : Nat → Nat) : Prop := ∀ j, j < l.length → nb j < w.heap.size ∧ w.cell? ⟨nb j, 1, none⟩ = some (.int .i64 (sizeAt l j)) ∧ w.cell? ⟨nb j, 2, none⟩ = some (.pointer (parPtr l nb j))
theorem Placed.below {w w' : World} {l : List Seg} {nb : Nat → Nat} (h : Placed w l nb) (hb : Below w.heap.size w w') : Placed w' l nb := fun j hj => by
  obtain ⟨h1, h2, h3⟩ := h j hj
  exact ⟨Nat.lt_of_lt_of_le h1 hb.size, (hb.cell (p := ⟨nb j, 1, none⟩) h1).trans h2, (hb.cell (p := ⟨nb j, 2, none⟩) h1).trans h3⟩
theorem Nodes.placed {w : World} {B g : Nat} {l : List Seg} {nb : Nat → Nat} {cv : Nat → Value} (h : Nodes w B g l.length l.length l nb cv) : Placed w l nb := fun j hj => by
  have h1 := h.node j _ hj (List.getElem?_eq_getElem hj)
  refine ⟨h1.lt, ?_, h1.cell 2⟩
  rw [sizeAt_of hj]
  exact h1.cell 1

theorem run_begin (a b : Int) (w : World) : (Instr.field 87 (.agg #[.int .i64 a, .int .i64 b]) 0).run Try.prog w = .ok (.int .i64 a) w := by kernel_rfl
theorem run_end (a b : Int) (w : World) : (Instr.field 87 (.agg #[.int .i64 a, .int .i64 b]) 1).run Try.prog w = .ok (.int .i64 b) w := by kernel_rfl

set_option maxRecDepth 100000 in
set_option maxHeartbeats 400000 in
theorem place_any (l : List Seg) (nb : Nat → Nat) (hv : validB l = true) : ∀ i, i < l.length → ∀ w, Placed w l nb →
    Calls Try.prog 66 #[.pointer (some ⟨nb i, 0, none⟩)] w fun e w' => e = .returned (.agg #[.int .i64 (begAt l i), .int .i64 (endAt l i)]) ∧ Below w.heap.size w w' := by
  refine rp_ind (valid_all hv).1.down (fun i hi hp w hw => ?_) (fun i p hi hpi hp ih w hw => ?_)
  · obtain ⟨h1, c1, c2⟩ := hw i hi
    have hpp : parPtr l nb i = none := if_pos hp
    have HB : Hid (begAt l i = 0 ∧ endAt l i = sizeAt l i) := by
      have a := begAt_root hp
      have b := endAt_beg l i
      exact ⟨a, by omega⟩
    obtain ⟨z1, z2⟩ := sizeAt_bd hv hi
    rw [hpp] at c2
    clear hw hpp hp
    rw [HB.out.1, HB.out.2]
    generalize sizeAt l i = sz at *
    go_enter Try.func66, Try.ntmps66
    go_wp2
    refine bodyPost_ret (v := .agg #[.int .i64 0, .int .i64 sz]) (by simp [results, Try.results66, go_sem]) rfl ⟨rfl, ?_⟩
    repeat (first | exact Below.refl _ _ | refine Below.setCell ?_ (by simp) _ | refine Below.alloc ?_ (by simp; try omega) _)
  · obtain ⟨h1, c1, c2⟩ := hw i hi
    have hd := (valid_all hv).1.down i hi
    have hpp : parPtr l nb i = some ⟨nb p, 0, none⟩ := by
      unfold parPtr
      rw [if_neg (by omega), hp, Int.toNat_natCast]
    have HB : Hid (begAt l i = endAt l p ∧ endAt l i = endAt l p + sizeAt l i) := by
      have a := begAt_step (valid_all hv).1.down hi hp
      have b := endAt_beg l i
      exact ⟨a, by omega⟩
    obtain ⟨z1, z2⟩ := sizeAt_bd hv hi
    obtain ⟨e1, e2, e3⟩ := place_small hv (show p < l.length by omega)
    have e0 : 0 ≤ endAt l p := by omega
    rw [hpp] at c2
    have HW := Lib.hid hw
    have HI := Lib.hid ih
    clear hw hpp hp ih hd e1 e2
    rw [HB.out.1, HB.out.2]
    clear HB
    have hz0 : w.heap.size < w.heap.size + 1 := Nat.lt_succ_self _
    have hf1 := run_end
    go_enter Try.func66, Try.ntmps66
    go_wp2_with fail
    refine (HI.out _ (HW.out.below ((Below.refl _ _).alloc (Nat.le_refl _) _))).mono ?_
    rintro e w1 ⟨rfl, hb1⟩
    have hb : Below w.heap.size w w1 := ((Below.refl _ w).alloc (Nat.le_refl _) _).trans (hb1.mono (by simp))
    rw [← hb.cell (p := ⟨nb i, 1, none⟩) h1] at c1
    rw [← hb.cell (p := ⟨nb i, 2, none⟩) h1] at c2
    have hr : Row w1 w.heap.size 87 #[.int .i64 0, .int .i64 0] := (Row.new w _ _).below hb1 (by simp)
    have r0 := hr.cell 0
    have r1 := hr.cell 1
    have f0 := hr.free 0
    have f1 := hr.free 1
    have hz := hr.lt
    have H := Lib.hid hb
    clear hb hb1 hr HW HI
    go_wp2
    refine bodyPost_ret (v := .agg #[.int .i64 (endAt l p), .int .i64 (endAt l p + sizeAt l i)]) (by simp [results, Try.results66, go_sem, r0, r1]) rfl ⟨rfl, ?_⟩
    repeat (first | exact H.out | refine Below.setCell ?_ (by simp) _ | refine Below.alloc ?_ (by simp; try omega) _)

end Go.Proofs.Ytbmfbnlmdjnddaa
/- The program's rooms: where segments begin and end, the whole room, what is saved. -/
namespace Go.Proofs.Ytbmfbnlmdjnddaa
open Go.RowKit

set_option maxRecDepth 100000 in
set_option maxHeartbeats 400000 in
theorem endsBehind_any (a b x y : Int) (w : World) :
    Calls Try.prog 104 #[.agg #[.int .i64 a, .int .i64 b], .agg #[.int .i64 x, .int .i64 y]] w fun e w' => e = .returned (.bool (decide (y < b))) ∧ Below w.heap.size w w' := by
  go_enter Try.func104, Try.ntmps104
  go_wp2
  go_ret
  refine ⟨ret_bool (by simp), ?_⟩
  repeat (first | exact Below.refl _ _ | refine Below.setCell ?_ (by simp) _ | refine Below.alloc ?_ (by simp; try omega) _)

/-- Of two the one that ends later, the first if neither does. -/
def laterOf (l : List Seg) (i j : Nat) : Nat := if endAt l i < endAt l j then j else i

set_option maxRecDepth 100000 in
set_option maxHeartbeats 400000 in
theorem endingLast_any (l : List Seg) (nb : Nat → Nat) (hv : validB l = true) (i j : Nat) (hi : i < l.length) (hj : j < l.length) (w : World) (hw : Placed w l nb) :
    Calls Try.prog 65 #[.pointer (some ⟨nb i, 0, none⟩), .pointer (some ⟨nb j, 0, none⟩)] w fun e w' => e = .returned (.pointer (some ⟨nb (laterOf l i j), 0, none⟩)) ∧ Below w.heap.size w w' := by
  have HW := Lib.hid hw
  have HV := Lib.hid hv
  clear hw hv
  by_cases h : endAt l i < endAt l j
  · have hd : decide (endAt l i < endAt l j) = true := decide_eq_true h
    have HP : Hid ((some ⟨nb (laterOf l i j), 0, none⟩ : Option Addr) = some ⟨nb j, 0, none⟩) := by
      show _ = _
      unfold laterOf
      rw [if_pos h]
    clear h
    go_enter Try.func65, Try.ntmps65
    go_wp2_with fail
    refine (place_any l nb HV.out j hj _ HW.out).mono ?_
    rintro e w1 ⟨rfl, hb1⟩
    go_wp2_with fail
    refine (place_any l nb HV.out i hi _ (HW.out.below hb1)).mono ?_
    rintro e w2 ⟨rfl, hb2⟩
    have B2 := hb1.trans (hb2.mono hb1.size)
    clear hb1 hb2
    go_wp2_with fail
    refine (endsBehind_any _ _ _ _ _).mono ?_
    rw [hd]
    rintro e w3 ⟨rfl, hb3⟩
    have B3 := B2.trans (hb3.mono B2.size)
    clear B2 hb3 hd
    go_wp2
    go_ret
    exact ⟨ret_ptr HP.out.symm, B3⟩
  · have hd : decide (endAt l i < endAt l j) = false := decide_eq_false h
    have HP : Hid ((some ⟨nb (laterOf l i j), 0, none⟩ : Option Addr) = some ⟨nb i, 0, none⟩) := by
      show _ = _
      unfold laterOf
      rw [if_neg h]
    clear h
    go_enter Try.func65, Try.ntmps65
    go_wp2_with fail
    refine (place_any l nb HV.out j hj _ HW.out).mono ?_
    rintro e w1 ⟨rfl, hb1⟩
    go_wp2_with fail
    refine (place_any l nb HV.out i hi _ (HW.out.below hb1)).mono ?_
    rintro e w2 ⟨rfl, hb2⟩
    have B2 := hb1.trans (hb2.mono hb1.size)
    clear hb1 hb2
    go_wp2_with fail
    refine (endsBehind_any _ _ _ _ _).mono ?_
    rw [hd]
    rintro e w3 ⟨rfl, hb3⟩
    have B3 := B2.trans (hb3.mono B2.size)
    clear B2 hb3 hd
    go_wp2
    go_ret
    exact ⟨ret_ptr HP.out.symm, B3⟩

set_option maxRecDepth 100000 in
set_option maxHeartbeats 400000 in
theorem fold_any (B g : Nat) (l : List Seg) (nb : Nat → Nat) (cv : Nat → Value) (w : World) (hN : Nodes w B g l.length l.length l nb cv) (hv : validB l = true) :
    Calls Try.prog 64 #[.slice (some ⟨g, 0, none⟩) l.length l.length, .func (.func 65) #[] #[]] w fun e w' => e = .returned (.pointer (some ⟨nb (lastIx l (l.length - 1)), 0, none⟩)) ∧ Below w.heap.size w w' := by
  have HN := Lib.hid hN
  have HV := Lib.hid hv
  obtain ⟨-, hl8, hl1⟩ := valid_all hv
  obtain ⟨cs, hrow, -, hci⟩ := hN.row
  have HC : Hid (∀ i, i < l.length → w.cell? ⟨g, i, none⟩ = some (.pointer (some ⟨nb i, 0, none⟩))) := fun i hi => by rw [hrow.cell]; exact hci i hi
  have hg := hrow.lt
  have c0 := HC.out 0 (by omega)
  clear hN hv hrow hci cs
  go_enter Try.func64, Try.ntmps64
  go_wp2
  · have H1 := Lib.hid h
    clear h
    go_loop [5, 14] (fun v i => v = .pointer (some ⟨nb 0, 0, none⟩) ∧ i = .int .i64 0) (fun _ _ => 0)
    case atStart => exact ⟨rfl, rfl⟩
    case round =>
      obtain ⟨rfl, rfl⟩ := hrel
      have HE : Hid (lastIx l (l.length - 1) = 0) := by
        show lastIx l (l.length - 1) = 0
        rw [H1.out]; rfl
      go_wp2
      go_ret
      exact ⟨ret_ptr (by rw [HE.out]), Below.refl _ _⟩
  · go_loopw [5, 14] (fun v i wr => ∃ (k : Nat), k + 1 ≤ l.length ∧ i = .int .i64 k ∧ v = .pointer (some ⟨nb (lastIx l k), 0, none⟩) ∧ Below w.heap.size w wr)
      (fun _ i _ => l.length - (intOf i).toNat)
    case atStart => exact ⟨0, by omega, rfl, rfl, Below.refl _ _⟩
    case round =>
      obtain ⟨k, hk, rfl, rfl, hb⟩ := hrel
      have hle := lastIx_le l k
      by_cases hlt : k + 1 < l.length
      · have HR : Hid (nb (lastIx l (k + 1)) = nb (laterOf l (lastIx l k) (k + 1))) := rfl
        have ck : wr.cell? ⟨g, 1 + k, none⟩ = some (.pointer (some ⟨nb (k + 1), 0, none⟩)) := by
          rw [Nat.add_comm 1 k, hb.cell (p := ⟨g, k + 1, none⟩) hg]
          exact HC.out (k + 1) hlt
        clear c0
        have hlt2 : (k : Int) < ((l.length - 1 : Nat) : Int) := by omega
        have hlt3 : decide (k < l.length - 1) = true := decide_eq_true (by omega)
        have hlt4 : k < l.length - 1 := by omega
        go_wp2_with fail
        refine (endingLast_any l nb HV.out (lastIx l k) (k + 1) (by omega) hlt _ (HN.out.placed.below hb)).mono ?_
        rintro e w1 ⟨rfl, hb1⟩
        have B1 := hb.trans (hb1.mono hb.size)
        clear hb hb1
        rw [← HR.out]
        go_wp2
        go_roundw
        case rel => exact ⟨k + 1, by omega, by go_num, rfl, B1⟩
        case measure => simp [intOf]; omega
      · obtain rfl : k = l.length - 1 := by omega
        go_wp2
        go_ret
        exact ⟨rfl, hb⟩

end Go.Proofs.Ytbmfbnlmdjnddaa
/- spec.CommonOf. -/
namespace Go.Proofs.Ytbmfbnlmdjnddaa
open Go.RowKit

def byteOf (l : List Seg) (v : Nat) : UInt8 := (nmAt l v).headD 0
theorem nmAt_one {l : List Seg} (h : validB l = true) {v : Nat} (hv : v < l.length) : nmAt l v = [byteOf l v] ∧ l[v].name = ⟨#[byteOf l v]⟩ := by
  obtain ⟨c, hc, _⟩ := nameOk_one ((valid_all h).1.name hv (List.getElem?_eq_getElem hv))
  unfold byteOf
  rw [nmAt_of hv, hc]
  exact ⟨rfl, rfl⟩
theorem byteOf_inj {l : List Seg} (h : validB l = true) {u v : Nat} (hu : u < l.length) (hv : v < l.length) (he : byteOf l u = byteOf l v) : u = v := by
  have key : ∀ a b : Nat, a < b → b < l.length → byteOf l a ≠ byteOf l b := fun a b hab hb e => by
    have h1 := (valid_all h).1 b hb
    rw [segOk_of hb] at h1
    simp only [Bool.and_eq_true, Bool.not_eq_true'] at h1
    have h2 := h1.1.1.2
    have h3 : takenB (l.take b) l[b].name = true := by
      unfold takenB
      refine List.any_eq_true.2 ⟨l[a]'(by omega), ?_, sameB_iff.2 ?_⟩
      · exact List.mem_take_iff_getElem.2 ⟨a, by omega, rfl⟩
      · rw [(nmAt_one h (show a < l.length by omega)).2, (nmAt_one h hb).2, e]
    rw [h3] at h2
    cases h2
  rcases Nat.lt_trichotomy u v with h1 | h1 | h1
  · exact absurd he (key u v h1 hv)
  · exact h1
  · exact absurd he.symm (key v u h1 hu)
theorem namesAt_map {l : List Seg} (h : validB l = true) : ∀ js : List Nat, (∀ j ∈ js, j < l.length) → (namesAt l js).data.toList = js.map (byteOf l)
  | [], _ => rfl
  | j :: js, hj => by
    have h1 := namesAt_map h js (fun x hx => hj x (List.mem_cons_of_mem _ hx))
    have e : (namesAt l (j :: js)).data.toList = nmAt l j ++ (namesAt l js).data.toList := by simp [namesAt]
    rw [e, h1, (nmAt_one h (hj j List.mem_cons_self)).1]
    rfl

theorem comLen_drop (x y : List UInt8) : ∀ k, k ≤ comLen x y → comLen x y = k + comLen (x.drop k) (y.drop k)
  | 0, _ => by simp
  | k + 1, hk => by
    have h1 := comLen_drop x y k (by omega)
    obtain ⟨z, hx, hy⟩ := comLen_get x y k (by omega)
    have hxl := (List.getElem?_eq_some_iff.1 hx).1
    have hyl := (List.getElem?_eq_some_iff.1 hy).1
    have ex : x[k] = z := by rw [List.getElem?_eq_getElem hxl] at hx; injection hx
    have ey : y[k] = z := by rw [List.getElem?_eq_getElem hyl] at hy; injection hy
    rw [List.drop_eq_getElem_cons hxl, List.drop_eq_getElem_cons hyl, ex, ey] at h1
    simp only [comLen, if_true] at h1
    omega

def comBytes (x y : ByteArray) : Nat := comLen x.data.toList y.data.toList
theorem comBytes_at {x y : ByteArray} {k : Nat} (h : comBytes x y = k + comLen (x.data.toList.drop k) (y.data.toList.drop k)) (hx : k < x.size) (hy : k < y.size) :
    (x[k] = y[k] → comBytes x y = (k + 1) + comLen (x.data.toList.drop (k + 1)) (y.data.toList.drop (k + 1))) ∧ (x[k] ≠ y[k] → comBytes x y = k) := by
  have e1 : x.data.toList.drop k = x[k] :: x.data.toList.drop (k + 1) := List.drop_eq_getElem_cons (by simpa using hx)
  have e2 : y.data.toList.drop k = y[k] :: y.data.toList.drop (k + 1) := List.drop_eq_getElem_cons (by simpa using hy)
  rw [e1, e2] at h
  simp only [comLen] at h
  refine ⟨fun he => ?_, fun he => ?_⟩
  · rw [if_pos he] at h; omega
  · rw [if_neg he] at h; omega

end Go.Proofs.Ytbmfbnlmdjnddaa

/- spec.CommonOf: the last name of the common beginning of two paths. -/
namespace Go.Proofs.Ytbmfbnlmdjnddaa
open Go.RowKit

/-- The numbers of a found segment's path. -/
def pathIx (l : List Seg) (s : ByteArray) : List Nat := rp l (indexB l s).toNat
def comCount (l : List Seg) (s t : ByteArray) : Nat := comLen (pathIx l s) (pathIx l t)
def comStr (l : List Seg) (s t : ByteArray) : ByteArray := if indexB l s < 0 ∨ indexB l t < 0 then ⟨#[]⟩ else namesAt l [(pathIx l s).getD (comCount l s t - 1) 0]
def comOk (l : List Seg) (s t : ByteArray) : Bool := hasSeg l s && hasSeg l t

theorem pathStr_ix {l : List Seg} {s : ByteArray} (h : 0 ≤ indexB l s) : pathStr l s = namesAt l (pathIx l s) := if_neg (by omega)
theorem comCount_pos {l : List Seg} {s t : ByteArray} (h1 : 0 ≤ indexB l s) (h2 : 0 ≤ indexB l t) : 0 < comCount l s t := by
  have ok := (valid_all (index_valid h1)).1
  rcases indexB_bd l s with a1 | ⟨_, a1⟩
  · omega
  rcases indexB_bd l t with a2 | ⟨_, a2⟩
  · omega
  obtain ⟨A, hA⟩ := rp_head ok _ (show (indexB l s).toNat < l.length by omega)
  obtain ⟨B, hB⟩ := rp_head ok _ (show (indexB l t).toNat < l.length by omega)
  unfold comCount pathIx
  rw [hA, hB]
  simp [comLen]
theorem comBytes_ix {l : List Seg} {s t : ByteArray} (h1 : 0 ≤ indexB l s) (h2 : 0 ≤ indexB l t) : comBytes (pathStr l s) (pathStr l t) = comCount l s t := by
  have hv := index_valid h1
  have ok := (valid_all hv).1
  rcases indexB_bd l s with a1 | ⟨_, a1⟩
  · omega
  rcases indexB_bd l t with a2 | ⟨_, a2⟩
  · omega
  have b1 : ∀ j ∈ pathIx l s, j < l.length := fun j hj => by
    have := rp_le ok.down _ (show (indexB l s).toNat < l.length by omega) j hj
    omega
  have b2 : ∀ j ∈ pathIx l t, j < l.length := fun j hj => by
    have := rp_le ok.down _ (show (indexB l t).toNat < l.length by omega) j hj
    omega
  unfold comBytes comCount
  rw [pathStr_ix h1, pathStr_ix h2, namesAt_map hv _ b1, namesAt_map hv _ b2]
  exact comLen_map _ _ _ (fun a ha b hb he => byteOf_inj hv (b1 a ha) (b2 b hb) he)
theorem pathStr_size {l : List Seg} {s : ByteArray} (h1 : 0 ≤ indexB l s) : (pathStr l s).size = (pathIx l s).length ∧ (pathIx l s).length ≤ l.length := by
  have hv := index_valid h1
  have ok := (valid_all hv).1
  rcases indexB_bd l s with a1 | ⟨_, a1⟩
  · omega
  have b1 : ∀ j ∈ pathIx l s, j < l.length := fun j hj => by
    have := rp_le ok.down _ (show (indexB l s).toNat < l.length by omega) j hj
    omega
  refine ⟨?_, ?_⟩
  · have e := namesAt_map hv _ b1
    have e2 : (pathStr l s).size = (pathStr l s).data.toList.length := by simp
    rw [e2, pathStr_ix h1, e, List.length_map]
  · have := rootPath_len l ((indexB l s).toNat + 1) (indexB l s).toNat
    unfold pathIx rp
    omega
theorem comStr_cut {l : List Seg} {s t : ByteArray} (h1 : 0 ≤ indexB l s) (h2 : 0 ≤ indexB l t) (n : Nat) (hn : comCount l s t = n + 1) : (pathStr l s).extract n (n + 1) = comStr l s t := by
  have hv := index_valid h1
  have ok := (valid_all hv).1
  rcases indexB_bd l s with a1 | ⟨_, a1⟩
  · omega
  have b1 : ∀ j ∈ pathIx l s, j < l.length := fun j hj => by
    have := rp_le ok.down _ (show (indexB l s).toNat < l.length by omega) j hj
    omega
  have hle : n < (pathIx l s).length := by have := (comLen_le (pathIx l s) (pathIx l t)).1; unfold comCount at hn; omega
  have e1 : comStr l s t = namesAt l [(pathIx l s)[n]] := by
    unfold comStr
    rw [if_neg (by omega), hn]
    simp [List.getD, List.getElem?_eq_getElem hle]
  have hm : ∀ j ∈ [(pathIx l s)[n]], j < l.length := fun j hj => by
    rw [List.mem_singleton.1 hj]
    exact b1 _ (List.getElem_mem hle)
  have e2 := namesAt_map hv _ hm
  have e3 := namesAt_map hv _ b1
  rw [e1]
  apply ByteArray.ext
  apply Array.ext'
  rw [e2, pathStr_ix h1]
  have e4 : ((namesAt l (pathIx l s)).extract n (n + 1)).data.toList = (((namesAt l (pathIx l s)).data.toList).drop n).take 1 := by
    simp [ByteArray.data_extract]
  rw [e4, e3, ← List.map_drop, List.drop_eq_getElem_cons hle]
  rfl

end Go.Proofs.Ytbmfbnlmdjnddaa

/- What the loop of impl.CommonOf leaves, plain. -/
namespace Go.Proofs.Ytbmfbnlmdjnddaa
open Go.RowKit

def lastNm (l : List Seg) (T : List Nat) : ByteArray := namesAt l T.getLast?.toList
theorem lastNm_snoc {l : List Seg} (T : List Nat) {v : Nat} (hv : v < l.length) : lastNm l (T ++ [v]) = l[v].name := by
  unfold lastNm
  rw [List.getLast?_concat]
  apply ByteArray.ext
  apply Array.ext'
  simp [namesAt, nmAt_of hv]
theorem com_last {l : List Seg} {s t : ByteArray} (hs : 0 ≤ indexB l s) (ht : 0 ≤ indexB l t) {T : List Nat} (hT : T <+: pathIx l s) (hc : comCount l s t = T.length) : comStr l s t = lastNm l T := by
  have h0 := comCount_pos hs ht
  unfold comStr lastNm
  rw [if_neg (by omega), hc]
  rcases List.eq_nil_or_concat T with h | ⟨A, v, h⟩
  · subst h; simp at hc; omega
  · rw [List.concat_eq_append] at h
    subst h
    obtain ⟨r, hr⟩ := hT
    rw [← hr]
    simp [List.getD]
theorem com_end {l : List Seg} {s t : ByteArray} (hs : 0 ≤ indexB l s) (ht : 0 ≤ indexB l t) {T : List Nat} (hT : T <+: pathIx l s) (hall : ∀ v ∈ T, v ∈ pathIx l t) (hend : T = pathIx l s ∨ ∃ x, T ++ [x] <+: pathIx l s ∧ x ∉ pathIx l t) : comStr l s t = lastNm l T := by
  have hv := index_valid hs
  rcases indexB_bd l s with a1 | ⟨_, a1⟩
  · omega
  rcases indexB_bd l t with a2 | ⟨_, a2⟩
  · omega
  exact com_last hs ht hT (com_of (valid_all hv).1.down (by omega) (by omega) hT hall hend)

/-- A name among a path's names. -/
theorem has_name {l : List Seg} (h : validB l = true) {js : List Nat} (hj : ∀ j ∈ js, j < l.length) {v : Nat} (hv : v < l.length) :
    decide (0 ≤ Lib.indexByte (namesAt l js).data.toList (byteOf l v)) = decide (v ∈ js) := by
  rw [← Lib.contains_iff_indexByte, namesAt_map h js hj]
  by_cases hm : v ∈ js
  · rw [decide_eq_true hm]
    simp only [List.contains_eq_mem, List.mem_map, decide_eq_true_eq]
    exact ⟨v, hm, rfl⟩
  · rw [decide_eq_false hm]
    simp only [List.contains_eq_mem, List.mem_map, decide_eq_false_iff_not]
    rintro ⟨u, hu, he⟩
    exact hm (byteOf_inj h (hj u hu) hv he ▸ hu)

end Go.Proofs.Ytbmfbnlmdjnddaa
/- Segments that lie together, and over an address. No program. -/
namespace Go.Proofs.Ytbmfbnlmdjnddaa
open Go.RowKit

theorem com_common {l : List Seg} {s t : ByteArray} (hs : 0 ≤ indexB l s) (ht : 0 ≤ indexB l t) : ∃ v, comStr l s t = namesAt l [v] ∧ v ∈ pathIx l s ∧ v ∈ pathIx l t := by
  have h0 := comCount_pos hs ht
  obtain ⟨v, h1, h2⟩ := comLen_get (pathIx l s) (pathIx l t) (comCount l s t - 1) (by unfold comCount at h0 ⊢; omega)
  refine ⟨v, ?_, List.mem_of_getElem? h1, List.mem_of_getElem? h2⟩
  unfold comStr
  rw [if_neg (by omega)]
  simp [List.getD, h1]
theorem index_lt {l : List Seg} {s : ByteArray} (h : 0 ≤ indexB l s) : (indexB l s).toNat < l.length := by
  rcases indexB_bd l s with a | ⟨_, a⟩ <;> omega
theorem index_nm {l : List Seg} {s : ByteArray} (h : 0 ≤ indexB l s) : namesAt l [(indexB l s).toNat] = s := by
  have hv := index_valid h
  have h1 : indexB l s = seek l s := if_pos hv
  obtain ⟨x, hx, hn⟩ := seek_name (l := l) (s := s) (j := (indexB l s).toNat) (by omega)
  have hlt := index_lt h
  rw [← List.nil_append [(indexB l s).toNat], namesAt_snoc [] hlt]
  rw [List.getElem?_eq_getElem hlt] at hx
  injection hx with hx
  rw [hx, hn]
  apply ByteArray.ext
  simp [namesAt]
theorem namesAt_one_inj {l : List Seg} (hv : validB l = true) {u v : Nat} (hu : u < l.length) (hv' : v < l.length) (h : namesAt l [u] = namesAt l [v]) : u = v := by
  have h1 := namesAt_map hv [u] (fun j hj => by rw [List.mem_singleton.1 hj]; exact hu)
  have h2 := namesAt_map hv [v] (fun j hj => by rw [List.mem_singleton.1 hj]; exact hv')
  rw [h, h2] at h1
  exact (byteOf_inj hv hv' hu (by simpa using h1)).symm
/-- The common name is the first one's: it lies on the other one's path. -/
theorem lie_left {l : List Seg} {s t : ByteArray} (hs : 0 ≤ indexB l s) (ht : 0 ≤ indexB l t) : comStr l s t = s ↔ (indexB l s).toNat ∈ pathIx l t := by
  have hv := index_valid hs
  have hd := (valid_all hv).1.down
  have hi := index_lt hs
  have hj := index_lt ht
  constructor
  · intro h
    obtain ⟨v, h1, h2, h3⟩ := com_common hs ht
    have hvl : v < l.length := Nat.lt_of_le_of_lt (rp_le hd _ hi v h2) hi
    have he := namesAt_one_inj hv hvl hi (by rw [← h1, h, index_nm hs])
    rw [← he]; exact h3
  · intro h
    have hp := rp_prefix hd _ hj _ h
    have hc := com_of hd hi hj (T := pathIx l s) (List.prefix_refl _) (fun v hv => hp.subset hv) (.inl rfl)
    have := com_last hs ht (T := pathIx l s) (List.prefix_refl _) hc
    rw [this]
    obtain ⟨A, hA⟩ := rp_last hd _ hi
    have e : pathIx l s = A ++ [(indexB l s).toNat] := hA
    rw [e]
    unfold lastNm
    rw [List.getLast?_concat]
    exact index_nm hs
theorem lie_right {l : List Seg} {s t : ByteArray} (hs : 0 ≤ indexB l s) (ht : 0 ≤ indexB l t) : comStr l s t = t ↔ (indexB l t).toNat ∈ pathIx l s := by
  have hv := index_valid hs
  have hd := (valid_all hv).1.down
  have hi := index_lt hs
  have hj := index_lt ht
  constructor
  · intro h
    obtain ⟨v, h1, h2, h3⟩ := com_common hs ht
    have hvl : v < l.length := Nat.lt_of_le_of_lt (rp_le hd _ hi v h2) hi
    have he := namesAt_one_inj hv hvl hj (by rw [← h1, h, index_nm ht])
    rw [← he]; exact h2
  · intro h
    have hp := rp_prefix hd _ hi _ h
    have hp' : pathIx l t <+: pathIx l s := hp
    have hend : pathIx l t = rp l (indexB l s).toNat ∨ ∃ x, pathIx l t ++ [x] <+: rp l (indexB l s).toNat ∧ x ∉ rp l (indexB l t).toNat := by
      obtain ⟨r, hr⟩ := hp'
      cases r with
      | nil => left; rw [List.append_nil] at hr; exact hr
      | cons x r =>
        right
        refine ⟨x, ⟨r, by rw [List.append_assoc]; exact hr⟩, fun hx => ?_⟩
        have ha := rp_asc hd _ hi
        have hr' : rp l (indexB l s).toNat = pathIx l t ++ x :: r := hr.symm
        rw [hr', List.pairwise_append] at ha
        have := ha.2.2 x hx x List.mem_cons_self
        omega
    have hc := com_of hd hi hj (T := pathIx l t) hp' (fun v hv => hv) hend
    have := com_last hs ht (T := pathIx l t) hp' hc
    rw [this]
    obtain ⟨A, hA⟩ := rp_last hd _ hj
    have e : pathIx l t = A ++ [(indexB l t).toNat] := hA
    rw [e]
    unfold lastNm
    rw [List.getLast?_concat]
    exact index_nm ht

/-- Two segments of which one is on the other one's path. -/
def lieB (l : List Seg) (s t : ByteArray) : Bool := comOk l s t && (decide ((indexB l s).toNat ∈ pathIx l t) || decide ((indexB l t).toNat ∈ pathIx l s))

/-- Whether a segment has an address. -/
def holdsB (l : List Seg) (a : Int) (i : Nat) : Bool := decide (begAt l i ≤ a) && decide (a < endAt l i)
def overIx (l : List Seg) (a : Int) (k : Nat) : List Nat := (List.range k).filter (holdsB l a)
theorem overIx_succ (l : List Seg) (a : Int) (k : Nat) : overIx l a (k + 1) = overIx l a k ++ if holdsB l a k = true then [k] else [] := by
  unfold overIx
  rw [List.range_succ, List.filter_append]
  by_cases h : holdsB l a k = true <;> simp [h]
theorem overIx_lt {l : List Seg} {a : Int} {k j : Nat} (h : j ∈ overIx l a k) : j < k := List.mem_range.1 (List.mem_filter.1 h).1
theorem overIx_len (l : List Seg) (a : Int) (k : Nat) : (overIx l a k).length ≤ k := by
  have := List.length_filter_le (holdsB l a) (List.range k)
  simpa [overIx] using this
theorem over_some {l : List Seg} (h : validB l = true) {a : Int} (ha : 0 ≤ a) : ∀ i, i < l.length → a < endAt l i → ∃ j, j < l.length ∧ holdsB l a j = true :=
  rp_ind (valid_all h).1.down (fun i hi hp he => ⟨i, hi, by unfold holdsB; rw [begAt_root hp, decide_eq_true ha, decide_eq_true he]; rfl⟩) (fun i p hi hpi hp ih he => by
    by_cases hb : begAt l i ≤ a
    · exact ⟨i, hi, by unfold holdsB; rw [decide_eq_true hb, decide_eq_true he]; rfl⟩
    · rw [begAt_step (valid_all h).1.down hi hp] at hb
      exact ih (by omega))
theorem over_iff {l : List Seg} (h : validB l = true) (a : Int) : overIx l a l.length ≠ [] ↔ (0 ≤ a ∧ a < roomTo l l.length) := by
  constructor
  · intro hne
    obtain ⟨j, hj⟩ := List.exists_mem_of_ne_nil _ hne
    have hl := overIx_lt hj
    have h2 := (List.mem_filter.1 hj).2
    unfold holdsB at h2
    simp only [Bool.and_eq_true, decide_eq_true_eq] at h2
    have h3 := place_small h hl
    have h4 := roomTo_le l l.length j hl
    omega
  · rintro ⟨h1, h2⟩
    have h0 := (valid_all h).2.2
    have h3 := lastIx_room h (l.length - 1) (by omega)
    have h4 := lastIx_le l (l.length - 1)
    rw [show l.length - 1 + 1 = l.length by omega] at h3
    obtain ⟨j, hj, hh⟩ := over_some h h1 (lastIx l (l.length - 1)) (by omega) (by omega)
    exact List.ne_nil_of_mem (List.mem_filter.2 ⟨List.mem_range.2 hj, hh⟩)
def overStr (l : List Seg) (a : Int) : ByteArray := if validB l = true then namesAt l (overIx l a l.length) else ⟨#[]⟩
def overOk (l : List Seg) (a : Int) : Bool := validB l && decide (0 ≤ a) && decide (a < roomTo l l.length)
theorem overStr_no {l : List Seg} {a : Int} (h : overOk l a = false) : overStr l a = ⟨#[]⟩ := by
  unfold overStr
  by_cases hv : validB l = true
  · rw [if_pos hv]
    have : overIx l a l.length = [] := by
      apply Classical.byContradiction
      intro hne
      have := (over_iff hv a).1 hne
      unfold overOk at h
      rw [hv, decide_eq_true this.1, decide_eq_true this.2] at h
      cases h
    rw [this]
    rfl
  · rw [if_neg hv]
theorem overStr_size {l : List Seg} (hv : validB l = true) (a : Int) : decide (0 < (overStr l a).size) = overOk l a := by
  have h1 : (overStr l a).size = (overIx l a l.length).length := by
    unfold overStr
    rw [if_pos hv]
    have := namesAt_map hv (overIx l a l.length) (fun j hj => overIx_lt hj)
    have e : (namesAt l (overIx l a l.length)).size = (namesAt l (overIx l a l.length)).data.toList.length := by simp
    rw [e, this, List.length_map]
  have h2 := over_iff hv a
  rw [h1]
  unfold overOk
  rw [hv, Bool.true_and]
  by_cases hn : overIx l a l.length = []
  · rw [hn]
    have : ¬ (0 ≤ a ∧ a < roomTo l l.length) := fun h => (h2.2 h) hn
    by_cases h3 : 0 ≤ a
    · rw [decide_eq_true h3, decide_eq_false (p := a < _) (fun h => this ⟨h3, h⟩)]; rfl
    · rw [decide_eq_false h3]; rfl
  · have h3 := h2.1 hn
    rw [decide_eq_true h3.1, decide_eq_true h3.2, decide_eq_true (List.length_pos_iff.2 hn)]
    rfl

/-- The path of the first segment that ends last. -/
def longStr (l : List Seg) : ByteArray := if validB l = true then namesAt l (rp l (lastIx l (l.length - 1))) else ⟨#[]⟩

end Go.Proofs.Ytbmfbnlmdjnddaa
/- The program's rooms: RoomOf, SavedRoom, Overlap. -/
namespace Go.Proofs.Ytbmfbnlmdjnddaa
open Go.RowKit

set_option maxRecDepth 100000 in
set_option maxHeartbeats 400000 in
theorem roomOf_any (A : Option Addr) (l : List Seg) (c : Nat) (w : World) (hw : Segs w w.heap.size A l) (hl : l.length ≤ 1048576) (hlc : l.length ≤ c) (hcm : c ≤ 9223372036854775807) (hn : Short l) :
    Calls Try.prog 25 #[.slice A l.length c] w fun e w' => e = .returned (.int .i64 (roomB l)) ∧ Below w.heap.size w w' := by
  have HW : Hid (Segs w w.heap.size A l) := hw
  clear hw
  have hnil := fun (W : World) (a : Option Addr) (n c : Nat) => Lib.run_eql_slice_nil (P := Try.prog) W 84 88 a n c 0 0 Try.underlying84
  cases hv : validB l with
  | false =>
    have HF : Hid (roomB l = -1) := if_neg (by rw [hv]; decide)
    go_enter Try.func25, Try.ntmps25
    go_wp2_with fail
    refine (nodesOf_bad _ _ _ _ HW.out hl hlc hcm hn hv).mono ?_
    rintro e w1 ⟨rfl, hb1⟩
    go_wp2
    go_ret
    exact ⟨ret_int HF.out.symm, hb1⟩
  | true =>
    have h0 := (valid_all hv).2.2
    have hle := lastIx_le l (l.length - 1)
    have HL : Hid (lastIx l (l.length - 1) < l.length) := show _ < _ by omega
    have HF : Hid (roomB l = endAt l (lastIx l (l.length - 1))) := by
      have h1 : roomB l = roomTo l l.length := if_pos hv
      have h2 := lastIx_room hv (l.length - 1) (by omega)
      rw [show l.length - 1 + 1 = l.length by omega] at h2
      exact h1.trans h2.symm
    have HV := Lib.hid hv
    clear hv hle
    have hfld := run_end
    go_enter Try.func25, Try.ntmps25
    go_wp2_with fail
    refine (nodesOf_any _ _ _ _ HW.out hl hlc hcm hn HV.out).mono ?_
    rintro e w1 ⟨g, nb, cv, rfl, hN, hb1⟩
    have HN := Lib.hid hN
    clear hN
    go_wp2_with fail
    refine (fold_any _ _ _ _ _ _ HN.out HV.out).mono ?_
    rintro e w2 ⟨rfl, hb2⟩
    have B2 := hb1.trans (hb2.mono hb1.size)
    go_wp2_with fail
    refine (place_any l nb HV.out _ HL.out _ (HN.out.placed.below hb2)).mono ?_
    rintro e w3 ⟨rfl, hb3⟩
    have B3 := B2.trans (hb3.mono B2.size)
    clear hb1 hb2 B2 hb3
    go_wp2
    go_ret
    exact ⟨ret_int HF.out.symm, B3⟩

set_option maxRecDepth 100000 in
set_option maxHeartbeats 400000 in
theorem savedRoom_any (A : Option Addr) (l : List Seg) (c : Nat) (w : World) (hw : Segs w w.heap.size A l) (hl : l.length ≤ 1048576) (hlc : l.length ≤ c) (hcm : c ≤ 9223372036854775807) (hn : Short l) :
    Calls Try.prog 26 #[.slice A l.length c] w fun e w' => e = .returned (.int .i64 (savedB l)) ∧ Below w.heap.size w w' := by
  have HW : Hid (Segs w w.heap.size A l) := hw
  clear hw
  cases hv : validB l with
  | false =>
    have HF : Hid (savedB l = -1) := if_neg (by rw [hv]; decide)
    go_enter Try.func26, Try.ntmps26
    go_wp2_with fail
    refine (treeValid_any _ _ _ _ HW.out hl hlc hcm hn).mono ?_
    rw [hv]
    rintro e w1 ⟨rfl, hb1⟩
    go_wp2
    go_ret
    exact ⟨ret_int HF.out.symm, hb1⟩
  | true =>
    have HF : Hid (savedB l = sumTo l l.length - roomTo l l.length) := if_pos hv
    have HT : Hid (totalB l = sumTo l l.length) := if_pos hv
    have HR : Hid (roomB l = roomTo l l.length) := if_pos hv
    obtain ⟨r1, r2⟩ := roomTo_bd hv l.length (Nat.le_refl _)
    obtain ⟨t1, t2⟩ := sumTo_le hv l.length (Nat.le_refl _)
    have hl8 := (valid_all hv).2.1
    have t3 : sumTo l l.length ≤ 792 := by omega
    clear t2
    go_enter Try.func26, Try.ntmps26
    go_wp2_with fail
    refine (treeValid_any _ _ _ _ HW.out hl hlc hcm hn).mono ?_
    rw [hv]
    rintro e w1 ⟨rfl, hb1⟩
    clear hv
    go_wp2_with fail
    refine (totalSize_any _ _ _ _ ((HW.out.below hb1).more hb1.size) hl hlc hcm hn).mono ?_
    rw [HT.out]
    rintro e w2 ⟨rfl, hb2⟩
    have B2 := hb1.trans (hb2.mono hb1.size)
    clear hb1 hb2
    go_wp2_with fail
    refine (roomOf_any _ _ _ _ ((HW.out.below B2).more B2.size) hl hlc hcm hn).mono ?_
    rw [HR.out]
    rintro e w3 ⟨rfl, hb3⟩
    have B3 := B2.trans (hb3.mono B2.size)
    clear B2 hb3
    generalize sumTo l l.length = a at *
    generalize roomTo l l.length = b at *
    go_wp2
    go_ret
    exact ⟨ret_int HF.out.symm, B3⟩

/-- What is behind findTwo where the tree is valid. -/
def TwoPost (w : World) (l : List Seg) (s t : ByteArray) (e : Ending) (w' : World) : Prop :=
  ∃ g nb cv, e = .returned (.tuple #[.pointer (foundPtr l nb s), .pointer (foundPtr l nb t)]) ∧ Nodes w' w.heap.size g l.length l.length l nb cv ∧ Below w.heap.size w w'

end Go.Proofs.Ytbmfbnlmdjnddaa
/- The program's LongestPath. -/
namespace Go.Proofs.Ytbmfbnlmdjnddaa
open Go.RowKit Go.Shelf

theorem Nodes.below {w w' : World} {B g m k : Nat} {l : List Seg} {nb : Nat → Nat} {cv : Nat → Value} (h : Nodes w B g m k l nb cv) (hb : Below w.heap.size w w') : Nodes w' B g m k l nb cv := by
  obtain ⟨cs, hg, hcs, hci⟩ := h.row
  refine ⟨⟨cs, hg.below hb hg.lt, hcs, hci⟩, fun i t hi ht => ?_, fun i t hi hi2 ht => ?_, fun i hi => ?_, h.apart, h.apartC, h.notg, h.low⟩
  · have h1 := h.node i t hi ht
    exact h1.below hb h1.lt
  · have h1 := h.fresh i t hi hi2 ht
    exact h1.below hb h1.lt
  · exact own_keep (h.kids i hi) fun b hb' => hb.block b ((h.kids i hi).lt b hb').2

theorem nameBytes_map (l : List Seg) : ∀ ys : List (Ix l), nameBytes l ys = (ys.map (·.1)).flatMap (nmAt l)
  | [] => rfl
  | y :: ys => by
    show (l[y.1]'y.2).name.data.toList ++ nameBytes l ys = nmAt l y.1 ++ (ys.map (·.1)).flatMap (nmAt l)
    rw [nameBytes_map l ys, nmAt_of y.2]

end Go.Proofs.Ytbmfbnlmdjnddaa
/- impl.CommonOf where both are found. -/
namespace Go.Proofs.Ytbmfbnlmdjnddaa
open Go.RowKit Go.Shelf
attribute [local go_sem] Oper.semAt_some

theorem row_grown {W W' : World} {b : Nat} {t : TypeId} {cs : Array Value} {row : Option Nat} (h : Row W b t cs) (hg : W.grownBy W' row) {B : Nat} (hr : ∀ r, row = some r → B ≤ r ∧ ∃ o : Obj, W.heap[r]? = some o ∧ o.isCells = false) : Row W' b t cs :=
  (hg.block b h.lt (fun he => by
    obtain ⟨_, o, ho, hc⟩ := hr b he.symm
    have h' : W.heap[b]? = some (.cells cs t (0, 0)) := h
    rw [h'] at ho
    injection ho with ho
    subst ho
    cases hc)).trans h
theorem keepsN_set {B : Nat} (W : World) (p : Addr) (v : Value) (hp : p.block < B) : KeepsN B W (W.setCell p v) :=
  ⟨by simp, fun k o hk ho _ => (Below.heap_setCell W p v k (by omega)).trans ho⟩
theorem keepsN_drew (B : Nat) (W : World) : KeepsN B W W.drew := ⟨Nat.le_refl _, fun _ _ _ h _ => h⟩

/-- What the loop keeps: the box of the answer, the box of the names. -/
structure Loop2 (w1 : World) (l : List Seg) (R : List Nat) (nm : ByteArray) (b2 : Nat) (T : List Nat) (W : World) : Prop where
  box : Row W w1.heap.size 9 #[.string (lastNm l T)]
  names : Row W b2 9 #[.string nm]
  below : Below w1.heap.size w1 W
  all : ∀ v ∈ T, v ∈ R
theorem Loop2.grown {w1 W W' : World} {l : List Seg} {R T : List Nat} {nm : ByteArray} {b2 B : Nat} {row : Option Nat} (h : Loop2 w1 l R nm b2 T W) (hg : W.grownBy W' row) (hB : w1.heap.size ≤ B) (hr : ∀ r, row = some r → B ≤ r ∧ ∃ o : Obj, W.heap[r]? = some o ∧ o.isCells = false) : Loop2 w1 l R nm b2 T W' :=
  ⟨row_grown h.box hg hr, row_grown h.names hg hr, h.below.grown hg h.below.size (fun k e => by have := (hr k e).1; omega), h.all⟩
theorem Loop2.drew {w1 W : World} {l : List Seg} {R T : List Nat} {nm : ByteArray} {b2 : Nat} (h : Loop2 w1 l R nm b2 T W) : Loop2 w1 l R nm b2 T W.drew := ⟨h.box, h.names, h.below.drew, h.all⟩
theorem Loop2.step {w1 W : World} {l : List Seg} {R T : List Nat} {nm a : ByteArray} {b2 : Nat} (h : Loop2 w1 l R nm b2 T W) (hb2 : w1.heap.size < b2) {v : Nat} (hv : v < l.length) (hR : v ∈ R) (ha : l[v].name = a) :
    Loop2 w1 l R nm b2 (T ++ [v]) (W.setCell ⟨w1.heap.size, 0, none⟩ (.string a)) := by
  refine ⟨?_, Row.far h.names (by show b2 ≠ w1.heap.size; omega) _, h.below.setCell (Nat.le_refl _) _, fun u hu => ?_⟩
  · have := Row.put h.box 0 (.string a)
    rw [lastNm_snoc T hv, ha]
    exact this
  · rcases List.mem_append.1 hu with hu | hu
    · exact h.all u hu
    · rw [List.mem_singleton.1 hu]; exact hR

end Go.Proofs.Ytbmfbnlmdjnddaa
