/- spec.CommonOf. -/
import Derived.Test.YtbmfjfhmdpmlbaaCp
import Derived.BigQuiet
import Derived.Lib.IndexAny
namespace Go.Proofs.Ytbmfjfhmdpmlbaa
open Go.RowKit

def byteOf (l : List Seg) (v : Nat) : UInt8 := (nmAt l v).headD 0
theorem nmAt_one {l : List Seg} (h : validB l = true) {v : Nat} (hv : v < l.length) : nmAt l v = [byteOf l v] ∧ l[v].name = ⟨#[byteOf l v]⟩ := by
  obtain ⟨c, hc, _⟩ := nameOk_one ((valid_all h).1.name hv (List.getElem?_eq_getElem hv))
  unfold byteOf
  rw [nmAt_of hv, hc]
  exact ⟨rfl, rfl⟩
theorem byteOf_inj {l : List Seg} (h : validB l = true) {u v : Nat} (hu : u < l.length) (hv : v < l.length) (he : byteOf l u = byteOf l v) : u = v := by
  have key : ∀ a b : Nat, a < b → b < l.length → byteOf l a ≠ byteOf l b := fun a b hab hb e => by
    have h1 := (valid_all h).1 b hb
    rw [segOk_of hb] at h1
    simp only [Bool.and_eq_true, Bool.not_eq_true'] at h1
    have h2 := h1.1.1.2
    have h3 : takenB (l.take b) l[b].name = true := by
      unfold takenB
      refine List.any_eq_true.2 ⟨l[a]'(by omega), ?_, sameB_iff.2 ?_⟩
      · exact List.mem_take_iff_getElem.2 ⟨a, by omega, rfl⟩
      · rw [(nmAt_one h (show a < l.length by omega)).2, (nmAt_one h hb).2, e]
    rw [h3] at h2
    cases h2
  rcases Nat.lt_trichotomy u v with h1 | h1 | h1
  · exact absurd he (key u v h1 hv)
  · exact h1
  · exact absurd he.symm (key v u h1 hu)
theorem namesAt_map {l : List Seg} (h : validB l = true) : ∀ js : List Nat, (∀ j ∈ js, j < l.length) → (namesAt l js).data.toList = js.map (byteOf l)
  | [], _ => rfl
  | j :: js, hj => by
    have h1 := namesAt_map h js (fun x hx => hj x (List.mem_cons_of_mem _ hx))
    have e : (namesAt l (j :: js)).data.toList = nmAt l j ++ (namesAt l js).data.toList := by simp [namesAt]
    rw [e, h1, (nmAt_one h (hj j List.mem_cons_self)).1]
    rfl

theorem comLen_drop (x y : List UInt8) : ∀ k, k ≤ comLen x y → comLen x y = k + comLen (x.drop k) (y.drop k)
  | 0, _ => by simp
  | k + 1, hk => by
    have h1 := comLen_drop x y k (by omega)
    obtain ⟨z, hx, hy⟩ := comLen_get x y k (by omega)
    have hxl := (List.getElem?_eq_some_iff.1 hx).1
    have hyl := (List.getElem?_eq_some_iff.1 hy).1
    have ex : x[k] = z := by rw [List.getElem?_eq_getElem hxl] at hx; injection hx
    have ey : y[k] = z := by rw [List.getElem?_eq_getElem hyl] at hy; injection hy
    rw [List.drop_eq_getElem_cons hxl, List.drop_eq_getElem_cons hyl, ex, ey] at h1
    simp only [comLen, if_true] at h1
    omega

def comBytes (x y : ByteArray) : Nat := comLen x.data.toList y.data.toList
theorem comBytes_at {x y : ByteArray} {k : Nat} (h : comBytes x y = k + comLen (x.data.toList.drop k) (y.data.toList.drop k)) (hx : k < x.size) (hy : k < y.size) :
    (x[k] = y[k] → comBytes x y = (k + 1) + comLen (x.data.toList.drop (k + 1)) (y.data.toList.drop (k + 1))) ∧ (x[k] ≠ y[k] → comBytes x y = k) := by
  have e1 : x.data.toList.drop k = x[k] :: x.data.toList.drop (k + 1) := List.drop_eq_getElem_cons (by simpa using hx)
  have e2 : y.data.toList.drop k = y[k] :: y.data.toList.drop (k + 1) := List.drop_eq_getElem_cons (by simpa using hy)
  rw [e1, e2] at h
  simp only [comLen] at h
  refine ⟨fun he => ?_, fun he => ?_⟩
  · rw [if_pos he] at h; omega
  · rw [if_neg he] at h; omega

set_option maxRecDepth 100000 in
set_option maxHeartbeats 1000000 in
theorem l1Common_any (x y : ByteArray) (w : World) (hx : x.size ≤ 1048576) (_ : y.size ≤ 1048576) :
    Calls Try.prog 96 #[.string x, .string y] w fun e w' => e = .returned (.int .i64 (comBytes x y)) ∧ Below w.heap.size w w' := by
  go_enter Try.func96, Try.ntmps96
  go_wp2
  go_loopw [5] (fun i wr => ∃ k : Nat, k ≤ x.size ∧ k ≤ y.size ∧ i = .int .i64 k ∧ Hid (comBytes x y = k + comLen (x.data.toList.drop k) (y.data.toList.drop k)) ∧ Below w.heap.size w wr)
    (fun i _ => x.size - (intOf i).toNat)
  case atStart => exact ⟨0, Nat.zero_le _, Nat.zero_le _, rfl, (Nat.zero_add _).symm, Below.refl _ _⟩
  case round =>
    obtain ⟨k, hkx, hky, rfl, HK, hb⟩ := hrel
    have hk0 : (0 : Int) ≤ (k : Int) := Int.natCast_nonneg _
    by_cases hlx : k < x.size
    · have g1 : decide (k < x.size) = true := decide_eq_true hlx
      have hlx' : (k : Int) < (x.size : Int) := by omega
      by_cases hly : k < y.size
      · have g2 : decide (k < y.size) = true := decide_eq_true hly
        have hly' : (k : Int) < (y.size : Int) := by omega
        obtain ⟨ha, hbn⟩ := comBytes_at HK.out hlx hly
        by_cases he : x[k] = y[k]
        · have HA := Lib.hid (ha he)
          have ht : ((x[k].toNat : Int) == (y[k].toNat : Int)) = true := by rw [he]; simp
          clear ha hbn he HK
          go_wp2_with fail
          go_quiet (fail)
          go_wp2
          go_roundw
          case rel => exact ⟨k + 1, by omega, by omega, by go_num, HA, below_drewN hb _⟩
          case measure => simp [intOf]; omega
        · have HA := Lib.hid (hbn he)
          have ht : ((x[k].toNat : Int) == (y[k].toNat : Int)) = false := by
            rw [beq_eq_false_iff_ne]
            exact fun e => he (UInt8.toNat_inj.1 (by omega))
          clear ha hbn he HK
          go_wp2_with fail
          go_quiet (fail)
          go_wp2
          go_ret
          exact ⟨ret_int (by rw [HA.out]), below_drewN hb _⟩
      · have g2 : decide (k < y.size) = false := decide_eq_false hly
        have HA : Hid (comBytes x y = k) := by
          show _ = _
          rw [HK.out, List.drop_of_length_le (l := y.data.toList) (by simp; omega)]
          cases x.data.toList.drop k <;> simp [comLen]
        clear HK
        go_wp2_with fail
        go_quiet (fail)
        go_wp2
        go_ret
        exact ⟨ret_int (by rw [HA.out]), below_drewN hb _⟩
    · have g1 : decide (k < x.size) = false := decide_eq_false hlx
      have HA : Hid (comBytes x y = k) := by
        show _ = _
        rw [HK.out, List.drop_of_length_le (l := x.data.toList) (by simp; omega)]
        simp [comLen]
      clear HK
      go_wp2_with fail
      go_quiet (fail)
      go_wp2
      go_ret
      exact ⟨ret_int (by rw [HA.out]), below_drewN hb _⟩

end Go.Proofs.Ytbmfjfhmdpmlbaa

/- spec.CommonOf: the last name of the common beginning of two paths. -/
namespace Go.Proofs.Ytbmfjfhmdpmlbaa
open Go.RowKit

/-- The numbers of a found segment's path. -/
def pathIx (l : List Seg) (s : ByteArray) : List Nat := rp l (indexB l s).toNat
def comCount (l : List Seg) (s t : ByteArray) : Nat := comLen (pathIx l s) (pathIx l t)
def comStr (l : List Seg) (s t : ByteArray) : ByteArray := if indexB l s < 0 ∨ indexB l t < 0 then ⟨#[]⟩ else namesAt l [(pathIx l s).getD (comCount l s t - 1) 0]
def comOk (l : List Seg) (s t : ByteArray) : Bool := hasSeg l s && hasSeg l t

theorem pathStr_ix {l : List Seg} {s : ByteArray} (h : 0 ≤ indexB l s) : pathStr l s = namesAt l (pathIx l s) := if_neg (by omega)
theorem comCount_pos {l : List Seg} {s t : ByteArray} (h1 : 0 ≤ indexB l s) (h2 : 0 ≤ indexB l t) : 0 < comCount l s t := by
  have ok := (valid_all (index_valid h1)).1
  rcases indexB_bd l s with a1 | ⟨_, a1⟩
  · omega
  rcases indexB_bd l t with a2 | ⟨_, a2⟩
  · omega
  obtain ⟨A, hA⟩ := rp_head ok _ (show (indexB l s).toNat < l.length by omega)
  obtain ⟨B, hB⟩ := rp_head ok _ (show (indexB l t).toNat < l.length by omega)
  unfold comCount pathIx
  rw [hA, hB]
  simp [comLen]
theorem comBytes_ix {l : List Seg} {s t : ByteArray} (h1 : 0 ≤ indexB l s) (h2 : 0 ≤ indexB l t) : comBytes (pathStr l s) (pathStr l t) = comCount l s t := by
  have hv := index_valid h1
  have ok := (valid_all hv).1
  rcases indexB_bd l s with a1 | ⟨_, a1⟩
  · omega
  rcases indexB_bd l t with a2 | ⟨_, a2⟩
  · omega
  have b1 : ∀ j ∈ pathIx l s, j < l.length := fun j hj => by
    have := rp_le ok.down _ (show (indexB l s).toNat < l.length by omega) j hj
    omega
  have b2 : ∀ j ∈ pathIx l t, j < l.length := fun j hj => by
    have := rp_le ok.down _ (show (indexB l t).toNat < l.length by omega) j hj
    omega
  unfold comBytes comCount
  rw [pathStr_ix h1, pathStr_ix h2, namesAt_map hv _ b1, namesAt_map hv _ b2]
  exact comLen_map _ _ _ (fun a ha b hb he => byteOf_inj hv (b1 a ha) (b2 b hb) he)
theorem pathStr_size {l : List Seg} {s : ByteArray} (h1 : 0 ≤ indexB l s) : (pathStr l s).size = (pathIx l s).length ∧ (pathIx l s).length ≤ l.length := by
  have hv := index_valid h1
  have ok := (valid_all hv).1
  rcases indexB_bd l s with a1 | ⟨_, a1⟩
  · omega
  have b1 : ∀ j ∈ pathIx l s, j < l.length := fun j hj => by
    have := rp_le ok.down _ (show (indexB l s).toNat < l.length by omega) j hj
    omega
  refine ⟨?_, ?_⟩
  · have e := namesAt_map hv _ b1
    have e2 : (pathStr l s).size = (pathStr l s).data.toList.length := by simp
    rw [e2, pathStr_ix h1, e, List.length_map]
  · have := rootPath_len l ((indexB l s).toNat + 1) (indexB l s).toNat
    unfold pathIx rp
    omega
theorem comStr_cut {l : List Seg} {s t : ByteArray} (h1 : 0 ≤ indexB l s) (h2 : 0 ≤ indexB l t) (n : Nat) (hn : comCount l s t = n + 1) : (pathStr l s).extract n (n + 1) = comStr l s t := by
  have hv := index_valid h1
  have ok := (valid_all hv).1
  rcases indexB_bd l s with a1 | ⟨_, a1⟩
  · omega
  have b1 : ∀ j ∈ pathIx l s, j < l.length := fun j hj => by
    have := rp_le ok.down _ (show (indexB l s).toNat < l.length by omega) j hj
    omega
  have hle : n < (pathIx l s).length := by have := (comLen_le (pathIx l s) (pathIx l t)).1; unfold comCount at hn; omega
  have e1 : comStr l s t = namesAt l [(pathIx l s)[n]] := by
    unfold comStr
    rw [if_neg (by omega), hn]
    simp [List.getD, List.getElem?_eq_getElem hle]
  have hm : ∀ j ∈ [(pathIx l s)[n]], j < l.length := fun j hj => by
    rw [List.mem_singleton.1 hj]
    exact b1 _ (List.getElem_mem hle)
  have e2 := namesAt_map hv _ hm
  have e3 := namesAt_map hv _ b1
  rw [e1]
  apply ByteArray.ext
  apply Array.ext'
  rw [e2, pathStr_ix h1]
  have e4 : ((namesAt l (pathIx l s)).extract n (n + 1)).data.toList = (((namesAt l (pathIx l s)).data.toList).drop n).take 1 := by
    simp [ByteArray.data_extract]
  rw [e4, e3, ← List.map_drop, List.drop_eq_getElem_cons hle]
  rfl

set_option maxRecDepth 100000 in
set_option maxHeartbeats 1000000 in
theorem specCommon_any (A : Option Addr) (l : List Seg) (c : Nat) (s t : ByteArray) (w : World) (hw : Segs w w.heap.size A l) (hl : l.length ≤ 1048576) (hn : Short l) :
    Calls Try.prog 32 #[.slice A l.length c, .string s, .string t] w fun e w' => e = .returned (.tuple #[.string (comStr l s t), .bool (comOk l s t)]) ∧ Below w.heap.size w w' := by
  have HW : Hid (Segs w w.heap.size A l) := hw
  clear hw
  have HS : Hid (hasSeg l s = decide (0 ≤ indexB l s)) := rfl
  have HT : Hid (hasSeg l t = decide (0 ≤ indexB l t)) := rfl
  by_cases hs : 0 ≤ indexB l s
  · by_cases ht : 0 ≤ indexB l t
    · have h1 : hasSeg l s = true := decide_eq_true hs
      have h2 : hasSeg l t = true := decide_eq_true ht
      have HO : Hid (comOk l s t = true) := by
        show _ = _
        unfold comOk
        rw [h1, h2]
        rfl
      obtain ⟨n, hn1⟩ : ∃ n, comCount l s t = n + 1 := ⟨comCount l s t - 1, by have := comCount_pos hs ht; omega⟩
      have HC := Lib.hid (comStr_cut hs ht n hn1)
      have HB := Lib.hid ((comBytes_ix hs ht).trans hn1)
      have hp1 := pathStr_size hs
      have hp2 := pathStr_size ht
      have hz1 : (pathStr l s).size ≤ 1048576 := by omega
      have hz2 : (pathStr l t).size ≤ 1048576 := by omega
      have hle : n + 1 ≤ (pathStr l s).size := by
        have := (comLen_le (pathIx l s) (pathIx l t)).1
        unfold comCount at hn1
        omega
      clear hp1 hp2 hn1 hs ht HS HT
      go_enter Try.func32, Try.ntmps32
      go_wp2_with fail
      refine (specPath_any _ _ _ _ _ HW.out hl hn).mono ?_
      rw [h1]
      rintro e w1 ⟨rfl, hb1⟩
      go_wp2_with fail
      refine (specPath_any _ _ _ _ _ ((HW.out.below hb1).more hb1.size) hl hn).mono ?_
      rw [h2]
      rintro e w2 ⟨rfl, hb2⟩
      have B2 := hb1.trans (hb2.mono hb1.size)
      clear hb1 hb2 h1 h2
      go_wp2_with fail
      refine (l1Common_any _ _ _ hz1 hz2).mono ?_
      rw [HB.out]
      rintro e w3 ⟨rfl, hb3⟩
      have B3 := B2.trans (hb3.mono B2.size)
      clear hb3 B2
      have hlo : (0 : Int) ≤ (n : Int) := Int.natCast_nonneg _
      go_wp2
      go_ret2
      exact ⟨ret_two (by rw [← HC.out]) HO.out.symm, B3⟩
    · have h2 : hasSeg l t = false := decide_eq_false ht
      have HF : Hid (comStr l s t = ⟨#[]⟩ ∧ comOk l s t = false) := ⟨if_pos (.inr (by omega)), by unfold comOk; rw [h2, Bool.and_false]⟩
      clear hs ht HS HT
      go_enter Try.func32, Try.ntmps32
      go_wp2_with fail
      refine (specPath_any _ _ _ _ _ HW.out hl hn).mono ?_
      rintro e w1 ⟨rfl, hb1⟩
      go_wp2_with fail
      refine (specPath_any _ _ _ _ _ ((HW.out.below hb1).more hb1.size) hl hn).mono ?_
      rw [h2]
      rintro e w2 ⟨rfl, hb2⟩
      have B2 := hb1.trans (hb2.mono hb1.size)
      clear hb1 hb2 h2
      go_wp2
      all_goals go_ret2
      all_goals exact ⟨ret_two HF.out.1.symm HF.out.2.symm, B2⟩
  · have h1 : hasSeg l s = false := decide_eq_false hs
    have HF : Hid (comStr l s t = ⟨#[]⟩ ∧ comOk l s t = false) := ⟨if_pos (.inl (by omega)), by unfold comOk; rw [h1, Bool.false_and]⟩
    clear hs HS HT
    go_enter Try.func32, Try.ntmps32
    go_wp2_with fail
    refine (specPath_any _ _ _ _ _ HW.out hl hn).mono ?_
    rw [h1]
    rintro e w1 ⟨rfl, hb1⟩
    go_wp2_with fail
    refine (specPath_any _ _ _ _ _ ((HW.out.below hb1).more hb1.size) hl hn).mono ?_
    rintro e w2 ⟨rfl, hb2⟩
    have B2 := hb1.trans (hb2.mono hb1.size)
    clear hb1 hb2 h1
    go_wp2
    all_goals go_ret2
    all_goals exact ⟨ret_two HF.out.1.symm HF.out.2.symm, B2⟩

end Go.Proofs.Ytbmfjfhmdpmlbaa

/- What the loop of impl.CommonOf leaves, plain. -/
namespace Go.Proofs.Ytbmfjfhmdpmlbaa
open Go.RowKit

def lastNm (l : List Seg) (T : List Nat) : ByteArray := namesAt l T.getLast?.toList
theorem lastNm_snoc {l : List Seg} (T : List Nat) {v : Nat} (hv : v < l.length) : lastNm l (T ++ [v]) = l[v].name := by
  unfold lastNm
  rw [List.getLast?_concat]
  apply ByteArray.ext
  apply Array.ext'
  simp [namesAt, nmAt_of hv]
theorem com_last {l : List Seg} {s t : ByteArray} (hs : 0 ≤ indexB l s) (ht : 0 ≤ indexB l t) {T : List Nat} (hT : T <+: pathIx l s) (hc : comCount l s t = T.length) : comStr l s t = lastNm l T := by
  have h0 := comCount_pos hs ht
  unfold comStr lastNm
  rw [if_neg (by omega), hc]
  rcases List.eq_nil_or_concat T with h | ⟨A, v, h⟩
  · subst h; simp at hc; omega
  · rw [List.concat_eq_append] at h
    subst h
    obtain ⟨r, hr⟩ := hT
    rw [← hr]
    simp [List.getD]
theorem com_end {l : List Seg} {s t : ByteArray} (hs : 0 ≤ indexB l s) (ht : 0 ≤ indexB l t) {T : List Nat} (hT : T <+: pathIx l s) (hall : ∀ v ∈ T, v ∈ pathIx l t) (hend : T = pathIx l s ∨ ∃ x, T ++ [x] <+: pathIx l s ∧ x ∉ pathIx l t) : comStr l s t = lastNm l T := by
  have hv := index_valid hs
  rcases indexB_bd l s with a1 | ⟨_, a1⟩
  · omega
  rcases indexB_bd l t with a2 | ⟨_, a2⟩
  · omega
  exact com_last hs ht hT (com_of (valid_all hv).1.down (by omega) (by omega) hT hall hend)

/-- A name among a path's names. -/
theorem has_name {l : List Seg} (h : validB l = true) {js : List Nat} (hj : ∀ j ∈ js, j < l.length) {v : Nat} (hv : v < l.length) :
    decide (0 ≤ Lib.indexByte (namesAt l js).data.toList (byteOf l v)) = decide (v ∈ js) := by
  rw [← Lib.contains_iff_indexByte, namesAt_map h js hj]
  by_cases hm : v ∈ js
  · rw [decide_eq_true hm]
    simp only [List.contains_eq_mem, List.mem_map, decide_eq_true_eq]
    exact ⟨v, hm, rfl⟩
  · rw [decide_eq_false hm]
    simp only [List.contains_eq_mem, List.mem_map, decide_eq_false_iff_not]
    rintro ⟨u, hu, he⟩
    exact hm (byteOf_inj h (hj u hu) hv he ▸ hu)

set_option maxRecDepth 100000 in
set_option maxHeartbeats 400000 in
theorem commonOf_none (A : Option Addr) (l : List Seg) (c : Nat) (s t : ByteArray) (w : World) (hw : Segs w w.heap.size A l) (hl : l.length ≤ 1048576) (hlc : l.length ≤ c) (hcm : c ≤ 9223372036854775807) (hn : Short l) (hno : indexB l s < 0 ∨ indexB l t < 0) :
    Calls Try.prog 31 #[.slice A l.length c, .string s, .string t] w fun e w' => e = .returned (.tuple #[.string (comStr l s t), .bool (comOk l s t)]) ∧ Below w.heap.size w w' := by
  have HW : Hid (Segs w w.heap.size A l) := hw
  clear hw
  have HF : Hid (comStr l s t = ⟨#[]⟩ ∧ comOk l s t = false) := ⟨if_pos hno, by
    unfold comOk hasSeg
    rcases hno with h | h
    · rw [decide_eq_false (by omega), Bool.false_and]
    · rw [decide_eq_false (p := 0 ≤ indexB l t) (by omega), Bool.and_false]⟩
  cases hv : validB l with
  | false =>
    clear hno
    go_enter Try.func31, Try.ntmps31
    go_wp2_with fail
    refine (nodesOf_bad _ _ _ _ HW.out hl hlc hcm hn hv).mono ?_
    rintro e w1 ⟨rfl, hb1⟩
    go_wp2_with fail
    refine (findNode_nil _ _).mono ?_
    rintro e w2 ⟨rfl, rfl⟩
    go_wp2_with fail
    refine (findNode_nil _ _).mono ?_
    rintro e w2 ⟨rfl, rfl⟩
    go_wp2
    go_ret2
    exact ⟨ret_two HF.out.1.symm HF.out.2.symm, hb1⟩
  | true =>
    have hi1 : indexB l s = seek l s := if_pos hv
    have hi2 : indexB l t = seek l t := if_pos hv
    rw [hi1, hi2] at hno
    by_cases h1 : seek l s < 0
    · have HP : Hid (∀ nb, foundPtr l nb s = none) := fun nb => if_pos h1
      clear h1 hno hi1 hi2
      go_enter Try.func31, Try.ntmps31
      go_wp2_with fail
      refine (nodesOf_any _ _ _ _ HW.out hl hlc hcm hn hv).mono ?_
      rintro e w1 ⟨g, nb, cv, rfl, hN, hb1⟩
      have HN := Lib.hid hN
      clear hN
      go_wp2_with fail
      refine (findNode_any _ _ _ _ _ _ _ HN.out hl).mono ?_
      rw [HP.out nb]
      rintro e w2 ⟨rfl, rfl⟩
      go_wp2_with fail
      refine (findNode_any _ _ _ _ _ _ _ HN.out hl).mono ?_
      rintro e w2 ⟨rfl, rfl⟩
      go_wp2
      all_goals go_ret2
      all_goals exact ⟨ret_two HF.out.1.symm HF.out.2.symm, hb1⟩
    · have HP : Hid (∀ nb, foundPtr l nb t = none) := fun nb => if_pos (by omega)
      have HQ : Hid (∀ nb, foundPtr l nb s = some ⟨nb (seek l s).toNat, 0, none⟩) := fun nb => if_neg h1
      clear h1 hno hi1 hi2
      go_enter Try.func31, Try.ntmps31
      go_wp2_with fail
      refine (nodesOf_any _ _ _ _ HW.out hl hlc hcm hn hv).mono ?_
      rintro e w1 ⟨g, nb, cv, rfl, hN, hb1⟩
      have HN := Lib.hid hN
      clear hN
      go_wp2_with fail
      refine (findNode_any _ _ _ _ _ _ _ HN.out hl).mono ?_
      rw [HQ.out nb]
      rintro e w2 ⟨rfl, rfl⟩
      go_wp2_with fail
      refine (findNode_any _ _ _ _ _ _ _ HN.out hl).mono ?_
      rw [HP.out nb]
      rintro e w2 ⟨rfl, rfl⟩
      go_wp2
      all_goals go_ret2
      all_goals exact ⟨ret_two HF.out.1.symm HF.out.2.symm, hb1⟩

end Go.Proofs.Ytbmfjfhmdpmlbaa
