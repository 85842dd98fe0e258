/- Joined: Cs Er Ga Gc Ya Yc Pc Pd Pe Qc Cm. -/
import Derived.Test.YteokbgfiokbojaaGreatU15
import Derived.BigQuiet
import Derived.Lib.IndexAny
import Derived.Test.YteokbgfiokbojaaGreatU08
import Derived.Test.YteokbgfiokbojaaGreatU12
/- spec.CommonOf. -/
namespace Go.Proofs.YteokbgfiokbojaaGreat
open Go.RowKit

def byteOf (l : List Seg) (v : Nat) : UInt8 := (nmAt l v).headD 0
theorem nmAt_one {l : List Seg} (h : validB l = true) {v : Nat} (hv : v < l.length) : nmAt l v = [byteOf l v] ∧ l[v].name = ⟨#[byteOf l v]⟩ := by
  obtain ⟨c, hc, _⟩ := nameOk_one ((valid_all h).1.name hv (List.getElem?_eq_getElem hv))
  unfold byteOf
  rw [nmAt_of hv, hc]
  exact ⟨rfl, rfl⟩
theorem byteOf_inj {l : List Seg} (h : validB l = true) {u v : Nat} (hu : u < l.length) (hv : v < l.length) (he : byteOf l u = byteOf l v) : u = v := by
  have key : ∀ a b : Nat, a < b → b < l.length → byteOf l a ≠ byteOf l b := fun a b hab hb e => by
    have h1 := (valid_all h).1 b hb
    rw [segOk_of hb] at h1
    simp only [Bool.and_eq_true, Bool.not_eq_true'] at h1
    have h2 := h1.1.1.2
    have h3 : takenB (l.take b) l[b].name = true := by
      unfold takenB
      refine List.any_eq_true.2 ⟨l[a]'(by omega), ?_, sameB_iff.2 ?_⟩
      · exact List.mem_take_iff_getElem.2 ⟨a, by omega, rfl⟩
      · rw [(nmAt_one h (show a < l.length by omega)).2, (nmAt_one h hb).2, e]
    rw [h3] at h2
    cases h2
  rcases Nat.lt_trichotomy u v with h1 | h1 | h1
  · exact absurd he (key u v h1 hv)
  · exact h1
  · exact absurd he.symm (key v u h1 hu)
theorem namesAt_map {l : List Seg} (h : validB l = true) : ∀ js : List Nat, (∀ j ∈ js, j < l.length) → (namesAt l js).data.toList = js.map (byteOf l)
  | [], _ => rfl
  | j :: js, hj => by
    have h1 := namesAt_map h js (fun x hx => hj x (List.mem_cons_of_mem _ hx))
    have e : (namesAt l (j :: js)).data.toList = nmAt l j ++ (namesAt l js).data.toList := by simp [namesAt]
    rw [e, h1, (nmAt_one h (hj j List.mem_cons_self)).1]
    rfl

def comBytes (x y : ByteArray) : Nat := comLen x.data.toList y.data.toList
theorem comBytes_at {x y : ByteArray} {k : Nat} (h : comBytes x y = k + comLen (x.data.toList.drop k) (y.data.toList.drop k)) (hx : k < x.size) (hy : k < y.size) :
    (x[k] = y[k] → comBytes x y = (k + 1) + comLen (x.data.toList.drop (k + 1)) (y.data.toList.drop (k + 1))) ∧ (x[k] ≠ y[k] → comBytes x y = k) := by
  have e1 : x.data.toList.drop k = x[k] :: x.data.toList.drop (k + 1) := List.drop_eq_getElem_cons (by simpa using hx)
  have e2 : y.data.toList.drop k = y[k] :: y.data.toList.drop (k + 1) := List.drop_eq_getElem_cons (by simpa using hy)
  rw [e1, e2] at h
  simp only [comLen] at h
  refine ⟨fun he => ?_, fun he => ?_⟩
  · rw [if_pos he] at h; omega
  · rw [if_neg he] at h; omega

set_option maxRecDepth 100000 in
set_option maxHeartbeats 1000000 in
theorem l1Common_any (x y : ByteArray) (w : World) (hx : x.size ≤ 1048576) (_ : y.size ≤ 1048576) :
    Calls Tryz.prog 110 #[.string x, .string y] w fun e w' => e = .returned (.int .i64 (comBytes x y)) ∧ Below w.heap.size w w' := by
  go_enter Tryz.func110, Tryz.ntmps110
  go_wp2
  go_loopw [5] (fun i wr => ∃ k : Nat, k ≤ x.size ∧ k ≤ y.size ∧ i = .int .i64 k ∧ Hid (comBytes x y = k + comLen (x.data.toList.drop k) (y.data.toList.drop k)) ∧ Below w.heap.size w wr)
    (fun i _ => x.size - (intOf i).toNat)
  case atStart => exact ⟨0, Nat.zero_le _, Nat.zero_le _, rfl, (Nat.zero_add _).symm, Below.refl _ _⟩
  case round =>
    obtain ⟨k, hkx, hky, rfl, HK, hb⟩ := hrel
    have hk0 : (0 : Int) ≤ (k : Int) := Int.natCast_nonneg _
    by_cases hlx : k < x.size
    · have g1 : decide (k < x.size) = true := decide_eq_true hlx
      have hlx' : (k : Int) < (x.size : Int) := by omega
      by_cases hly : k < y.size
      · have g2 : decide (k < y.size) = true := decide_eq_true hly
        have hly' : (k : Int) < (y.size : Int) := by omega
        obtain ⟨ha, hbn⟩ := comBytes_at HK.out hlx hly
        by_cases he : x[k] = y[k]
        · have HA := Lib.hid (ha he)
          have ht : ((x[k].toNat : Int) == (y[k].toNat : Int)) = true := by rw [he]; simp
          clear ha hbn he HK
          go_wp2_with fail
          go_quiet (fail)
          go_wp2
          go_roundw
          case rel => exact ⟨k + 1, by omega, by omega, by go_num, HA, below_drewN hb _⟩
          case measure => simp [intOf]; omega
        · have HA := Lib.hid (hbn he)
          have ht : ((x[k].toNat : Int) == (y[k].toNat : Int)) = false := by
            rw [beq_eq_false_iff_ne]
            exact fun e => he (UInt8.toNat_inj.1 (by omega))
          clear ha hbn he HK
          go_wp2_with fail
          go_quiet (fail)
          go_wp2
          go_ret
          exact ⟨ret_int (by rw [HA.out]), below_drewN hb _⟩
      · have g2 : decide (k < y.size) = false := decide_eq_false hly
        have HA : Hid (comBytes x y = k) := by
          show _ = _
          rw [HK.out, List.drop_of_length_le (l := y.data.toList) (by simp; omega)]
          cases x.data.toList.drop k <;> simp [comLen]
        clear HK
        go_wp2_with fail
        go_quiet (fail)
        go_wp2
        go_ret
        exact ⟨ret_int (by rw [HA.out]), below_drewN hb _⟩
    · have g1 : decide (k < x.size) = false := decide_eq_false hlx
      have HA : Hid (comBytes x y = k) := by
        show _ = _
        rw [HK.out, List.drop_of_length_le (l := x.data.toList) (by simp; omega)]
        simp [comLen]
      clear HK
      go_wp2_with fail
      go_quiet (fail)
      go_wp2
      go_ret
      exact ⟨ret_int (by rw [HA.out]), below_drewN hb _⟩

end Go.Proofs.YteokbgfiokbojaaGreat

/- spec.CommonOf: the last name of the common beginning of two paths. -/
namespace Go.Proofs.YteokbgfiokbojaaGreat
open Go.RowKit

/-- The numbers of a found segment's path. -/
def pathIx (l : List Seg) (s : ByteArray) : List Nat := rp l (indexB l s).toNat
def comCount (l : List Seg) (s t : ByteArray) : Nat := comLen (pathIx l s) (pathIx l t)
def comStr (l : List Seg) (s t : ByteArray) : ByteArray := if indexB l s < 0 ∨ indexB l t < 0 then ⟨#[]⟩ else namesAt l [(pathIx l s).getD (comCount l s t - 1) 0]
def comOk (l : List Seg) (s t : ByteArray) : Bool := hasSeg l s && hasSeg l t

theorem pathStr_ix {l : List Seg} {s : ByteArray} (h : 0 ≤ indexB l s) : pathStr l s = namesAt l (pathIx l s) := if_neg (by omega)
theorem comCount_pos {l : List Seg} {s t : ByteArray} (h1 : 0 ≤ indexB l s) (h2 : 0 ≤ indexB l t) : 0 < comCount l s t := by
  have ok := (valid_all (index_valid h1)).1
  rcases indexB_bd l s with a1 | ⟨_, a1⟩
  · omega
  rcases indexB_bd l t with a2 | ⟨_, a2⟩
  · omega
  obtain ⟨A, hA⟩ := rp_head ok _ (show (indexB l s).toNat < l.length by omega)
  obtain ⟨B, hB⟩ := rp_head ok _ (show (indexB l t).toNat < l.length by omega)
  unfold comCount pathIx
  rw [hA, hB]
  simp [comLen]
theorem comBytes_ix {l : List Seg} {s t : ByteArray} (h1 : 0 ≤ indexB l s) (h2 : 0 ≤ indexB l t) : comBytes (pathStr l s) (pathStr l t) = comCount l s t := by
  have hv := index_valid h1
  have ok := (valid_all hv).1
  rcases indexB_bd l s with a1 | ⟨_, a1⟩
  · omega
  rcases indexB_bd l t with a2 | ⟨_, a2⟩
  · omega
  have b1 : ∀ j ∈ pathIx l s, j < l.length := fun j hj => by
    have := rp_le ok.down _ (show (indexB l s).toNat < l.length by omega) j hj
    omega
  have b2 : ∀ j ∈ pathIx l t, j < l.length := fun j hj => by
    have := rp_le ok.down _ (show (indexB l t).toNat < l.length by omega) j hj
    omega
  unfold comBytes comCount
  rw [pathStr_ix h1, pathStr_ix h2, namesAt_map hv _ b1, namesAt_map hv _ b2]
  exact comLen_map _ _ _ (fun a ha b hb he => byteOf_inj hv (b1 a ha) (b2 b hb) he)
theorem pathStr_size {l : List Seg} {s : ByteArray} (h1 : 0 ≤ indexB l s) : (pathStr l s).size = (pathIx l s).length ∧ (pathIx l s).length ≤ l.length := by
  have hv := index_valid h1
  have ok := (valid_all hv).1
  rcases indexB_bd l s with a1 | ⟨_, a1⟩
  · omega
  have b1 : ∀ j ∈ pathIx l s, j < l.length := fun j hj => by
    have := rp_le ok.down _ (show (indexB l s).toNat < l.length by omega) j hj
    omega
  refine ⟨?_, ?_⟩
  · have e := namesAt_map hv _ b1
    have e2 : (pathStr l s).size = (pathStr l s).data.toList.length := by simp
    rw [e2, pathStr_ix h1, e, List.length_map]
  · have := rootPath_len l ((indexB l s).toNat + 1) (indexB l s).toNat
    unfold pathIx rp
    omega
theorem comStr_cut {l : List Seg} {s t : ByteArray} (h1 : 0 ≤ indexB l s) (h2 : 0 ≤ indexB l t) (n : Nat) (hn : comCount l s t = n + 1) : (pathStr l s).extract n (n + 1) = comStr l s t := by
  have hv := index_valid h1
  have ok := (valid_all hv).1
  rcases indexB_bd l s with a1 | ⟨_, a1⟩
  · omega
  have b1 : ∀ j ∈ pathIx l s, j < l.length := fun j hj => by
    have := rp_le ok.down _ (show (indexB l s).toNat < l.length by omega) j hj
    omega
  have hle : n < (pathIx l s).length := by have := (comLen_le (pathIx l s) (pathIx l t)).1; unfold comCount at hn; omega
  have e1 : comStr l s t = namesAt l [(pathIx l s)[n]] := by
    unfold comStr
    rw [if_neg (by omega), hn]
    simp [List.getD, List.getElem?_eq_getElem hle]
  have hm : ∀ j ∈ [(pathIx l s)[n]], j < l.length := fun j hj => by
    rw [List.mem_singleton.1 hj]
    exact b1 _ (List.getElem_mem hle)
  have e2 := namesAt_map hv _ hm
  have e3 := namesAt_map hv _ b1
  rw [e1]
  apply ByteArray.ext
  apply Array.ext'
  rw [e2, pathStr_ix h1]
  have e4 : ((namesAt l (pathIx l s)).extract n (n + 1)).data.toList = (((namesAt l (pathIx l s)).data.toList).drop n).take 1 := by
    simp [ByteArray.data_extract]
  rw [e4, e3, ← List.map_drop, List.drop_eq_getElem_cons hle]
  rfl

set_option maxRecDepth 100000 in
set_option maxHeartbeats 1000000 in
theorem specCommon_any (A : Option Addr) (l : List Seg) (c : Nat) (s t : ByteArray) (w : World) (hw : Segs w w.heap.size A l) (hl : l.length ≤ 1048576) (hn : Short l) :
    Calls Tryz.prog 80 #[.slice A l.length c, .string s, .string t] w fun e w' => e = .returned (.tuple #[.string (comStr l s t), .bool (comOk l s t)]) ∧ Below w.heap.size w w' := by
  have HW : Hid (Segs w w.heap.size A l) := hw
  clear hw
  have HS : Hid (hasSeg l s = decide (0 ≤ indexB l s)) := rfl
  have HT : Hid (hasSeg l t = decide (0 ≤ indexB l t)) := rfl
  by_cases hs : 0 ≤ indexB l s
  · by_cases ht : 0 ≤ indexB l t
    · have h1 : hasSeg l s = true := decide_eq_true hs
      have h2 : hasSeg l t = true := decide_eq_true ht
      have HO : Hid (comOk l s t = true) := by
        show _ = _
        unfold comOk
        rw [h1, h2]
        rfl
      obtain ⟨n, hn1⟩ : ∃ n, comCount l s t = n + 1 := ⟨comCount l s t - 1, by have := comCount_pos hs ht; omega⟩
      have HC := Lib.hid (comStr_cut hs ht n hn1)
      have HB := Lib.hid ((comBytes_ix hs ht).trans hn1)
      have hp1 := pathStr_size hs
      have hp2 := pathStr_size ht
      have hz1 : (pathStr l s).size ≤ 1048576 := by omega
      have hz2 : (pathStr l t).size ≤ 1048576 := by omega
      have hle : n + 1 ≤ (pathStr l s).size := by
        have := (comLen_le (pathIx l s) (pathIx l t)).1
        unfold comCount at hn1
        omega
      clear hp1 hp2 hn1 hs ht HS HT
      go_enter Tryz.func80, Tryz.ntmps80
      go_wp2_with fail
      refine (specPath_any _ _ _ _ _ HW.out hl hn).mono ?_
      rw [h1]
      rintro e w1 ⟨rfl, hb1⟩
      go_wp2_with fail
      refine (specPath_any _ _ _ _ _ ((HW.out.below hb1).more hb1.size) hl hn).mono ?_
      rw [h2]
      rintro e w2 ⟨rfl, hb2⟩
      have B2 := hb1.trans (hb2.mono hb1.size)
      clear hb1 hb2 h1 h2
      go_wp2_with fail
      refine (l1Common_any _ _ _ hz1 hz2).mono ?_
      rw [HB.out]
      rintro e w3 ⟨rfl, hb3⟩
      have B3 := B2.trans (hb3.mono B2.size)
      clear hb3 B2
      have hlo : (0 : Int) ≤ (n : Int) := Int.natCast_nonneg _
      go_wp2
      go_ret2
      exact ⟨ret_two (by rw [← HC.out]) HO.out.symm, B3⟩
    · have h2 : hasSeg l t = false := decide_eq_false ht
      have HF : Hid (comStr l s t = ⟨#[]⟩ ∧ comOk l s t = false) := ⟨if_pos (.inr (by omega)), by unfold comOk; rw [h2, Bool.and_false]⟩
      clear hs ht HS HT
      go_enter Tryz.func80, Tryz.ntmps80
      go_wp2_with fail
      refine (specPath_any _ _ _ _ _ HW.out hl hn).mono ?_
      rintro e w1 ⟨rfl, hb1⟩
      go_wp2_with fail
      refine (specPath_any _ _ _ _ _ ((HW.out.below hb1).more hb1.size) hl hn).mono ?_
      rw [h2]
      rintro e w2 ⟨rfl, hb2⟩
      have B2 := hb1.trans (hb2.mono hb1.size)
      clear hb1 hb2 h2
      go_wp2
      all_goals go_ret2
      all_goals exact ⟨ret_two HF.out.1.symm HF.out.2.symm, B2⟩
  · have h1 : hasSeg l s = false := decide_eq_false hs
    have HF : Hid (comStr l s t = ⟨#[]⟩ ∧ comOk l s t = false) := ⟨if_pos (.inl (by omega)), by unfold comOk; rw [h1, Bool.false_and]⟩
    clear hs HS HT
    go_enter Tryz.func80, Tryz.ntmps80
    go_wp2_with fail
    refine (specPath_any _ _ _ _ _ HW.out hl hn).mono ?_
    rw [h1]
    rintro e w1 ⟨rfl, hb1⟩
    go_wp2_with fail
    refine (specPath_any _ _ _ _ _ ((HW.out.below hb1).more hb1.size) hl hn).mono ?_
    rintro e w2 ⟨rfl, hb2⟩
    have B2 := hb1.trans (hb2.mono hb1.size)
    clear hb1 hb2 h1
    go_wp2
    all_goals go_ret2
    all_goals exact ⟨ret_two HF.out.1.symm HF.out.2.symm, B2⟩

end Go.Proofs.YteokbgfiokbojaaGreat

/- What the loop of impl.CommonOf leaves, plain. -/
namespace Go.Proofs.YteokbgfiokbojaaGreat
open Go.RowKit

def lastNm (l : List Seg) (T : List Nat) : ByteArray := namesAt l T.getLast?.toList
theorem lastNm_snoc {l : List Seg} (T : List Nat) {v : Nat} (hv : v < l.length) : lastNm l (T ++ [v]) = l[v].name := by
  unfold lastNm
  rw [List.getLast?_concat]
  apply ByteArray.ext
  apply Array.ext'
  simp [namesAt, nmAt_of hv]
theorem com_last {l : List Seg} {s t : ByteArray} (hs : 0 ≤ indexB l s) (ht : 0 ≤ indexB l t) {T : List Nat} (hT : T <+: pathIx l s) (hc : comCount l s t = T.length) : comStr l s t = lastNm l T := by
  have h0 := comCount_pos hs ht
  unfold comStr lastNm
  rw [if_neg (by omega), hc]
  rcases List.eq_nil_or_concat T with h | ⟨A, v, h⟩
  · subst h; simp at hc; omega
  · rw [List.concat_eq_append] at h
    subst h
    obtain ⟨r, hr⟩ := hT
    rw [← hr]
    simp [List.getD]
end Go.Proofs.YteokbgfiokbojaaGreat
/- Segments that lie together, and over an address. No program. -/
namespace Go.Proofs.YteokbgfiokbojaaGreat
open Go.RowKit

theorem com_common {l : List Seg} {s t : ByteArray} (hs : 0 ≤ indexB l s) (ht : 0 ≤ indexB l t) : ∃ v, comStr l s t = namesAt l [v] ∧ v ∈ pathIx l s ∧ v ∈ pathIx l t := by
  have h0 := comCount_pos hs ht
  obtain ⟨v, h1, h2⟩ := comLen_get (pathIx l s) (pathIx l t) (comCount l s t - 1) (by unfold comCount at h0 ⊢; omega)
  refine ⟨v, ?_, List.mem_of_getElem? h1, List.mem_of_getElem? h2⟩
  unfold comStr
  rw [if_neg (by omega)]
  simp [List.getD, h1]
theorem index_lt {l : List Seg} {s : ByteArray} (h : 0 ≤ indexB l s) : (indexB l s).toNat < l.length := by
  rcases indexB_bd l s with a | ⟨_, a⟩ <;> omega
theorem index_nm {l : List Seg} {s : ByteArray} (h : 0 ≤ indexB l s) : namesAt l [(indexB l s).toNat] = s := by
  have hv := index_valid h
  have h1 : indexB l s = seek l s := if_pos hv
  obtain ⟨x, hx, hn⟩ := seek_name (l := l) (s := s) (j := (indexB l s).toNat) (by omega)
  have hlt := index_lt h
  rw [← List.nil_append [(indexB l s).toNat], namesAt_snoc [] hlt]
  rw [List.getElem?_eq_getElem hlt] at hx
  injection hx with hx
  rw [hx, hn]
  apply ByteArray.ext
  simp [namesAt]
theorem namesAt_one_inj {l : List Seg} (hv : validB l = true) {u v : Nat} (hu : u < l.length) (hv' : v < l.length) (h : namesAt l [u] = namesAt l [v]) : u = v := by
  have h1 := namesAt_map hv [u] (fun j hj => by rw [List.mem_singleton.1 hj]; exact hu)
  have h2 := namesAt_map hv [v] (fun j hj => by rw [List.mem_singleton.1 hj]; exact hv')
  rw [h, h2] at h1
  exact (byteOf_inj hv hv' hu (by simpa using h1)).symm
/-- The common name is the first one's: it lies on the other one's path. -/
theorem lie_left {l : List Seg} {s t : ByteArray} (hs : 0 ≤ indexB l s) (ht : 0 ≤ indexB l t) : comStr l s t = s ↔ (indexB l s).toNat ∈ pathIx l t := by
  have hv := index_valid hs
  have hd := (valid_all hv).1.down
  have hi := index_lt hs
  have hj := index_lt ht
  constructor
  · intro h
    obtain ⟨v, h1, h2, h3⟩ := com_common hs ht
    have hvl : v < l.length := Nat.lt_of_le_of_lt (rp_le hd _ hi v h2) hi
    have he := namesAt_one_inj hv hvl hi (by rw [← h1, h, index_nm hs])
    rw [← he]; exact h3
  · intro h
    have hp := rp_prefix hd _ hj _ h
    have hc := com_of hd hi hj (T := pathIx l s) (List.prefix_refl _) (fun v hv => hp.subset hv) (.inl rfl)
    have := com_last hs ht (T := pathIx l s) (List.prefix_refl _) hc
    rw [this]
    obtain ⟨A, hA⟩ := rp_last hd _ hi
    have e : pathIx l s = A ++ [(indexB l s).toNat] := hA
    rw [e]
    unfold lastNm
    rw [List.getLast?_concat]
    exact index_nm hs
theorem lie_right {l : List Seg} {s t : ByteArray} (hs : 0 ≤ indexB l s) (ht : 0 ≤ indexB l t) : comStr l s t = t ↔ (indexB l t).toNat ∈ pathIx l s := by
  have hv := index_valid hs
  have hd := (valid_all hv).1.down
  have hi := index_lt hs
  have hj := index_lt ht
  constructor
  · intro h
    obtain ⟨v, h1, h2, h3⟩ := com_common hs ht
    have hvl : v < l.length := Nat.lt_of_le_of_lt (rp_le hd _ hi v h2) hi
    have he := namesAt_one_inj hv hvl hj (by rw [← h1, h, index_nm ht])
    rw [← he]; exact h2
  · intro h
    have hp := rp_prefix hd _ hi _ h
    have hp' : pathIx l t <+: pathIx l s := hp
    have hend : pathIx l t = rp l (indexB l s).toNat ∨ ∃ x, pathIx l t ++ [x] <+: rp l (indexB l s).toNat ∧ x ∉ rp l (indexB l t).toNat := by
      obtain ⟨r, hr⟩ := hp'
      cases r with
      | nil => left; rw [List.append_nil] at hr; exact hr
      | cons x r =>
        right
        refine ⟨x, ⟨r, by rw [List.append_assoc]; exact hr⟩, fun hx => ?_⟩
        have ha := rp_asc hd _ hi
        have hr' : rp l (indexB l s).toNat = pathIx l t ++ x :: r := hr.symm
        rw [hr', List.pairwise_append] at ha
        have := ha.2.2 x hx x List.mem_cons_self
        omega
    have hc := com_of hd hi hj (T := pathIx l t) hp' (fun v hv => hv) hend
    have := com_last hs ht (T := pathIx l t) hp' hc
    rw [this]
    obtain ⟨A, hA⟩ := rp_last hd _ hj
    have e : pathIx l t = A ++ [(indexB l t).toNat] := hA
    rw [e]
    unfold lastNm
    rw [List.getLast?_concat]
    exact index_nm ht

/-- Two segments of which one is on the other one's path. -/
def lieB (l : List Seg) (s t : ByteArray) : Bool := comOk l s t && (decide ((indexB l s).toNat ∈ pathIx l t) || decide ((indexB l t).toNat ∈ pathIx l s))

end Go.Proofs.YteokbgfiokbojaaGreat
/- States, needs and what they load: no program. -/
namespace Go.Proofs.YteokbgfiokbojaaGreat
open Go.RowKit

def IsState (l : List Seg) (T : List Nat) : Prop := T = [] ∨ ∃ j, j < l.length ∧ T = rp l j
theorem IsState.lt {l : List Seg} (hd : Down l l.length) {T : List Nat} (h : IsState l T) : ∀ j ∈ T, j < l.length := by
  rcases h with rfl | ⟨i, hi, rfl⟩
  · intro j hj; cases hj
  · intro j hj
    have := rp_le hd i hi j hj
    omega
theorem IsState.asc {l : List Seg} (hd : Down l l.length) {T : List Nat} (h : IsState l T) : T.Pairwise (· < ·) := by
  rcases h with rfl | ⟨i, hi, rfl⟩
  · exact List.Pairwise.nil
  · exact rp_asc hd i hi
theorem seek_nm {l : List Seg} (hv : validB l = true) {i : Nat} (hi : i < l.length) : indexB l (namesAt l [i]) = (i : Int) := by
  have h1 : indexB l (namesAt l [i]) = seek l (namesAt l [i]) := if_pos hv
  have h2 : 0 ≤ indexB l (namesAt l [i]) := by
    rw [h1]
    have key : ∀ (k : Nat), k ≤ i → seek l (namesAt l [i]) = seekFrom (namesAt l [i]) (l.drop k) k ∨ 0 ≤ seek l (namesAt l [i]) := by
      intro k
      induction k with
      | zero => intro _; exact .inl rfl
      | succ k ih =>
        intro hk
        rcases ih (by omega) with h | h
        · rw [seekFrom_drop l _ k (by omega)] at h
          by_cases hs : sameB (l[k]'(by omega)).name (namesAt l [i]) = true
          · rw [if_pos hs] at h; right; omega
          · rw [if_neg hs] at h; exact .inl h
        · exact .inr h
    rcases key i (Nat.le_refl _) with h | h
    · rw [seekFrom_drop l _ i hi, if_pos (sameB_iff.2 ?_)] at h
      · omega
      · rw [(nmAt_one hv hi).2]
        show _ = (⟨([i].flatMap (nmAt l)).toArray⟩ : ByteArray)
        rw [List.flatMap_cons, (nmAt_one hv hi).1]
        rfl
    · exact h
  have h3 := index_nm h2
  have h4 := namesAt_one_inj hv (index_lt h2) hi h3
  omega

/-- The state behind a need for all of 'P'. -/
def needT (T P : List Nat) : List Nat := if (∀ x ∈ P, x ∈ T) then T else P
def lessT (T U : List Nat) : List Nat := T.filter (fun x => decide (x ∉ U))
def loadT (T P : List Nat) : List Nat := lessT (needT T P) T
theorem less_nil {T U : List Nat} : lessT T U = [] ↔ ∀ x ∈ T, x ∈ U := by
  unfold lessT
  rw [List.filter_eq_nil_iff]
  simp
theorem needT_state {l : List Seg} {T P : List Nat} (hT : IsState l T) (hP : IsState l P) : IsState l (needT T P) := by
  unfold needT
  split
  · exact hT
  · exact hP
theorem less_self (T : List Nat) : lessT T T = [] := less_nil.2 fun _ h => h

end Go.Proofs.YteokbgfiokbojaaGreat

/- Costs, needs one after the other, the cheapest need: no program. -/
namespace Go.Proofs.YteokbgfiokbojaaGreat
open Go.RowKit

/-- Where the segment that a byte names stands. -/
def bSeek (l : List Seg) (b : UInt8) : Int := seek l ⟨#[b]⟩
def namedOk (l : List Seg) (bs : List UInt8) : Bool := bs.all (fun b => decide (0 ≤ bSeek l b))
def namedJs (l : List Seg) (bs : List UInt8) : List Nat := bs.map (fun b => (bSeek l b).toNat)
theorem namedOk_snoc (l : List Seg) (bs : List UInt8) (b : UInt8) : namedOk l (bs ++ [b]) = (namedOk l bs && decide (0 ≤ bSeek l b)) := by
  unfold namedOk
  rw [List.all_append]
  simp
theorem namedJs_snoc (l : List Seg) (bs : List UInt8) (b : UInt8) : namedJs l (bs ++ [b]) = namedJs l bs ++ [(bSeek l b).toNat] := by
  unfold namedJs
  rw [List.map_append]
  rfl
theorem namedOk_bad {l : List Seg} {bs : List UInt8} {b : UInt8} (h : b ∈ bs) (hb : bSeek l b < 0) : namedOk l bs = false := by
  unfold namedOk
  rw [List.all_eq_false]
  exact ⟨b, h, by simp; omega⟩
theorem namedJs_lt {l : List Seg} {bs : List UInt8} (h : namedOk l bs = true) : ∀ j ∈ namedJs l bs, j < l.length := by
  intro j hj
  obtain ⟨b, hb, rfl⟩ := List.mem_map.1 hj
  have h1 := List.all_eq_true.1 h b hb
  have h2 : 0 ≤ bSeek l b := by simpa using h1
  rcases seek_bd l ⟨#[b]⟩ with h3 | ⟨_, h3⟩
  · unfold bSeek at h2; omega
  · unfold bSeek at *; omega
theorem bSeek_byte {l : List Seg} (hv : validB l = true) {i : Nat} (hi : i < l.length) : bSeek l (byteOf l i) = (i : Int) := by
  have h := seek_nm hv hi
  have h1 : namesAt l [i] = ⟨#[byteOf l i]⟩ := by
    show (⟨([i].flatMap (nmAt l)).toArray⟩ : ByteArray) = _
    rw [List.flatMap_cons, (nmAt_one hv hi).1]
    rfl
  rw [h1] at h
  have h2 : indexB l ⟨#[byteOf l i]⟩ = seek l ⟨#[byteOf l i]⟩ := if_pos hv
  unfold bSeek
  omega
theorem less_lt {l : List Seg} {T U : List Nat} (h : ∀ j ∈ T, j < l.length) : ∀ j ∈ lessT T U, j < l.length := fun j hj => h j (List.mem_filter.1 hj).1
theorem state_len {l : List Seg} {T : List Nat} (h : IsState l T) : T.length ≤ l.length := by
  rcases h with rfl | ⟨i, hi, rfl⟩
  · exact Nat.zero_le _
  · have := rootPath_len l (i + 1) i
    unfold rp
    omega
theorem less_len (T U : List Nat) : (lessT T U).length ≤ T.length := List.length_filter_le _ _
theorem load_lt {l : List Seg} (hd : Down l l.length) {T P : List Nat} (hT : IsState l T) (hP : IsState l P) : ∀ j ∈ loadT T P, j < l.length := less_lt ((needT_state hT hP).lt hd)
theorem load_len {l : List Seg} {T P : List Nat} (hT : IsState l T) (hP : IsState l P) : (loadT T P).length ≤ l.length := Nat.le_trans (less_len _ _) (state_len (needT_state hT hP))

end Go.Proofs.YteokbgfiokbojaaGreat
/- The model's side of loading: states and needs. -/
namespace Go.Proofs.YteokbgfiokbojaaGreat
open Go.RowKit

theorem names_size {l : List Seg} (hv : validB l = true) {P : List Nat} (hP : ∀ j ∈ P, j < l.length) : (namesAt l P).size = P.length := by
  have h1 := congrArg List.length (namesAt_map hv P hP)
  simpa using h1
end Go.Proofs.YteokbgfiokbojaaGreat

/- The model's NeedOf, DropsOf, CostOf, LoadCost. -/
namespace Go.Proofs.YteokbgfiokbojaaGreat
open Go.RowKit

theorem named_take {l : List Seg} (s : ByteArray) {k : Nat} (h : k < s.size) : namedOk l (s.data.toList.take (k + 1)) = (namedOk l (s.data.toList.take k) && decide (0 ≤ bSeek l s[k])) ∧ namedJs l (s.data.toList.take (k + 1)) = namedJs l (s.data.toList.take k) ++ [(bSeek l s[k]).toNat] := by
  have e : s.data.toList.take (k + 1) = s.data.toList.take k ++ [s[k]] := by
    rw [List.take_succ_eq_append_getElem (by simpa using h)]
    rfl
  rw [e, namedOk_snoc, namedJs_snoc]
  exact ⟨rfl, rfl⟩
theorem one_byte (s : ByteArray) {k : Nat} (h : k < s.size) : s.extract k (k + 1) = ⟨#[s[k]]⟩ := by
  apply ByteArray.ext
  apply Array.ext'
  have : s.data.toList.drop k = s[k] :: s.data.toList.drop (k + 1) := List.drop_eq_getElem_cons (by simpa using h)
  simp [ByteArray.data_extract, this]
theorem bSeek_bd (l : List Seg) (b : UInt8) : bSeek l b = -1 ∨ (0 ≤ bSeek l b ∧ bSeek l b < l.length) := seek_bd l _

end Go.Proofs.YteokbgfiokbojaaGreat
/- Runs: the needs of a trace one after the other, and what they load: no program. -/
namespace Go.Proofs.YteokbgfiokbojaaGreat
open Go.RowKit

/-- The needs of calls that a segment makes, each with whether it is a return. -/
def needsR (a : UInt8) : Forest → List (UInt8 × Bool)
  | .nil => []
  | .cons c k r => (c, false) :: (needsR c k ++ ((a, true) :: needsR a r))
theorem needsR_app (a : UInt8) : ∀ f g : Forest, needsR a (f.app g) = needsR a f ++ needsR a g
  | .nil, _ => rfl
  | .cons c k r, g => by
    show (c, false) :: (needsR c k ++ ((a, true) :: needsR a (r.app g))) = ((c, false) :: (needsR c k ++ ((a, true) :: needsR a r))) ++ needsR a g
    rw [needsR_app a r g]; simp
theorem needsR_one (a c : UInt8) (k : Forest) : needsR a (.cons c k .nil) = (c, false) :: (needsR c k ++ [(a, true)]) := rfl
theorem needsR_len (a : UInt8) : ∀ f : Forest, (needsR a f).length = 2 * f.size
  | .nil => rfl
  | .cons c k r => by
    show ((c, false) :: (needsR c k ++ ((a, true) :: needsR a r))).length = 2 * (k.size + r.size + 1)
    simp [needsR_len c k, needsR_len a r]; omega
theorem needsR_all {P : UInt8 → Bool} : ∀ (f : Forest) (a : UInt8), P a = true → f.all P → ∀ x ∈ needsR a f, P x.1 = true
  | .nil, _, _, _, x, hx => by cases hx
  | .cons c k r, a, ha, h, x, hx => by
    obtain ⟨hc, hk, hr⟩ := h
    rcases List.mem_cons.1 hx with rfl | hx
    · exact hc
    · rcases List.mem_append.1 hx with hx | hx
      · exact needsR_all k c hc hk x hx
      · rcases List.mem_cons.1 hx with rfl | hx
        · exact ha
        · exact needsR_all r a ha hr x hx

/-- Where the segment that a letter names stands. -/
def segIx (l : List Seg) (c : UInt8) : Nat := (indexB l ⟨#[c]⟩).toNat
theorem callP_ix {l : List Seg} {c : UInt8} (h : callP l c = true) : indexB l ⟨#[c]⟩ = (segIx l c : Int) ∧ segIx l c < l.length := by
  obtain ⟨j, h1, h2⟩ := callP_index h
  unfold segIx
  rw [h1, Int.toNat_natCast]
  exact ⟨rfl, h2⟩
theorem callP_root {l : List Seg} (hv : validB l = true) : callP l (rootB l) = true ∧ segIx l (rootB l) = 0 := by
  obtain ⟨s, h1, h2⟩ := root_name hv
  obtain ⟨h0, h3⟩ := List.getElem?_eq_some_iff.1 h1
  have h4 := name_index hv h0
  rw [h3, h2] at h4
  unfold callP segIx
  rw [h4]
  exact ⟨rfl, rfl⟩

/-- A step: the name, what is loaded, the state behind it. -/
structure Stp where
  nm : ByteArray
  ld : ByteArray
  st : ByteArray
def pathAt (l : List Seg) (c : UInt8) : List Nat := rp l (segIx l c)
def nextT (l : List Seg) (T : List Nat) (c : UInt8) : List Nat := needT T (pathAt l c)
def stepAt (l : List Seg) (T : List Nat) (c : UInt8) : Stp := ⟨⟨#[c]⟩, namesAt l (loadT T (pathAt l c)), namesAt l (nextT l T c)⟩
/-- The steps from a state on. -/
def runS (l : List Seg) : List Nat → List (UInt8 × Bool) → List (Stp × Bool)
  | _, [] => []
  | T, n :: ns => (stepAt l T n.1, n.2) :: runS l (nextT l T n.1) ns
def endT (l : List Seg) : List Nat → List (UInt8 × Bool) → List Nat
  | T, [] => T
  | T, n :: ns => endT l (nextT l T n.1) ns
theorem runS_app (l : List Seg) : ∀ (xs ys : List (UInt8 × Bool)) (T : List Nat), runS l T (xs ++ ys) = runS l T xs ++ runS l (endT l T xs) ys
  | [], _, _ => rfl
  | x :: xs, ys, T => by
    show (stepAt l T x.1, x.2) :: runS l (nextT l T x.1) (xs ++ ys) = (stepAt l T x.1, x.2) :: (runS l (nextT l T x.1) xs ++ runS l (endT l (nextT l T x.1) xs) ys)
    rw [runS_app l xs ys]
theorem endT_app (l : List Seg) : ∀ (xs ys : List (UInt8 × Bool)) (T : List Nat), endT l T (xs ++ ys) = endT l (endT l T xs) ys
  | [], _, _ => rfl
  | x :: xs, ys, T => endT_app l xs ys (nextT l T x.1)
theorem runS_len (l : List Seg) : ∀ (xs : List (UInt8 × Bool)) (T : List Nat), (runS l T xs).length = xs.length
  | [], _ => rfl
  | x :: xs, T => by
    show (runS l (nextT l T x.1) xs).length + 1 = xs.length + 1
    rw [runS_len l xs]
theorem runS_snoc (l : List Seg) (xs : List (UInt8 × Bool)) (T : List Nat) (n : UInt8 × Bool) : runS l T (xs ++ [n]) = runS l T xs ++ [(stepAt l (endT l T xs) n.1, n.2)] := runS_app l xs [n] T
theorem endT_snoc (l : List Seg) (xs : List (UInt8 × Bool)) (T : List Nat) (n : UInt8 × Bool) : endT l T (xs ++ [n]) = nextT l (endT l T xs) n.1 := endT_app l xs [n] T
theorem path_is {l : List Seg} {c : UInt8} (h : callP l c = true) : IsState l (pathAt l c) := .inr ⟨_, (callP_ix h).2, rfl⟩
theorem next_is {l : List Seg} {T : List Nat} {c : UInt8} (hT : IsState l T) (h : callP l c = true) : IsState l (nextT l T c) := needT_state hT (path_is h)
theorem endT_is {l : List Seg} : ∀ (xs : List (UInt8 × Bool)) {T : List Nat}, IsState l T → (∀ x ∈ xs, callP l x.1 = true) → IsState l (endT l T xs)
  | [], _, h, _ => h
  | x :: xs, _, h, hx => endT_is xs (next_is h (hx x List.mem_cons_self)) (fun y hy => hx y (List.mem_cons_of_mem _ hy))
/-- What a step's texts may be long. -/
theorem step_len {l : List Seg} (hv : validB l = true) {T : List Nat} {c : UInt8} (hT : IsState l T) (h : callP l c = true) : (stepAt l T c).nm.size = 1 ∧ (stepAt l T c).ld.size ≤ 8 ∧ (stepAt l T c).st.size ≤ 8 := by
  have h8 := (valid_all hv).2.1
  have hn := valid_names hv
  refine ⟨rfl, ?_, ?_⟩
  · have h1 := namesAt_len hn (loadT T (pathAt l c))
    have h2 := load_len hT (path_is h)
    show (namesAt l (loadT T (pathAt l c))).size ≤ 8
    omega
  · have h1 := namesAt_len hn (nextT l T c)
    have h2 := state_len (next_is hT h)
    show (namesAt l (nextT l T c)).size ≤ 8
    omega
theorem runS_texts {l : List Seg} (hv : validB l = true) : ∀ (xs : List (UInt8 × Bool)) {T : List Nat}, IsState l T → (∀ x ∈ xs, callP l x.1 = true) → ∀ s ∈ runS l T xs, s.1.nm.size = 1 ∧ s.1.ld.size ≤ 8 ∧ s.1.st.size ≤ 8
  | [], _, _, _, s, hs => by cases hs
  | x :: xs, T, hT, hx, s, hs => by
    have hc := hx x List.mem_cons_self
    rcases List.mem_cons.1 hs with rfl | hs
    · exact step_len hv hT hc
    · exact runS_texts hv xs (next_is hT hc) (fun y hy => hx y (List.mem_cons_of_mem _ hy)) s hs

/-- The run of a trace. -/
def needsOfF (l : List Seg) (f : Forest) : List (UInt8 × Bool) := (rootB l, false) :: needsR (rootB l) f
def runF (l : List Seg) (f : Forest) : List (Stp × Bool) := runS l [] (needsOfF l f)
theorem needsOfF_all {l : List Seg} {f : Forest} (hv : validB l = true) (h : f.all (callP l)) : ∀ x ∈ needsOfF l f, callP l x.1 = true := by
  intro x hx
  rcases List.mem_cons.1 hx with rfl | hx
  · exact (callP_root hv).1
  · exact needsR_all f _ (callP_root hv).1 h x hx
theorem rootPath_is {l : List Seg} (hv : validB l = true) : pathAt l (rootB l) = [0] ∧ nextT l [] (rootB l) = [0] ∧ loadT [] (pathAt l (rootB l)) = [0] := by
  have h0 : pathAt l (rootB l) = [0] := by
    unfold pathAt
    rw [(callP_root hv).2]
    have hd := (valid_all hv).1.down 0 (by have := (valid_all hv).2.2; omega)
    exact rp_root (by omega)
  refine ⟨h0, ?_, ?_⟩
  · unfold nextT
    rw [h0]
    rfl
  · rw [h0]
    rfl
theorem runF_eq {l : List Seg} (hv : validB l = true) (f : Forest) : runF l f = (⟨⟨#[rootB l]⟩, ⟨#[rootB l]⟩, ⟨#[rootB l]⟩⟩, false) :: runS l [0] (needsR (rootB l) f) := by
  obtain ⟨h0, h1, h2⟩ := rootPath_is hv
  have h3 : namesAt l [0] = ⟨#[rootB l]⟩ := by
    obtain ⟨s, h4, h5⟩ := root_name hv
    obtain ⟨hlt, h6⟩ := List.getElem?_eq_some_iff.1 h4
    have h7 := namesAt_snoc (l := l) [] hlt
    rw [List.nil_append] at h7
    rw [h7, h6, h5]
    rfl
  show (stepAt l [] (rootB l), false) :: runS l (nextT l [] (rootB l)) (needsR (rootB l) f) = _
  unfold stepAt
  rw [h1, h2, h3]
/-- All that is loaded. -/
def loadsB (ss : List Stp) : ByteArray := ⟨(ss.flatMap fun s => s.ld.data.toList).toArray⟩
theorem loadsB_snoc (ss : List Stp) (s : Stp) : loadsB (ss ++ [s]) = loadsB ss ++ s.ld := by
  apply ByteArray.ext
  apply Array.ext'
  unfold loadsB
  rw [ByteArray.data_append, Array.toList_append]
  simp
theorem loadsB_size (ss : List Stp) (h : ∀ s ∈ ss, s.ld.size ≤ 8) : (loadsB ss).size ≤ 8 * ss.length := by
  induction ss with
  | nil => exact Nat.zero_le _
  | cons s ss ih =>
    have h1 := ih (fun x hx => h x (List.mem_cons_of_mem _ hx))
    have h2 := h s List.mem_cons_self
    have h3 : (loadsB (s :: ss)).size = s.ld.size + (loadsB ss).size := by
      have h4 : ∀ b : ByteArray, b.size = b.data.toList.length := fun b => by simp
      rw [h4, h4 s.ld, h4 (loadsB ss)]
      unfold loadsB
      simp
    rw [h3, List.length_cons]
    omega
def keptB (rs : List (Stp × Bool)) : List Stp := (rs.filter (·.2)).map (·.1)
theorem keptB_snoc (rs : List (Stp × Bool)) (s : Stp) (b : Bool) : keptB (rs ++ [(s, b)]) = if b = true then keptB rs ++ [s] else keptB rs := by
  unfold keptB
  rw [List.filter_append]
  cases b <;> simp

end Go.Proofs.YteokbgfiokbojaaGreat
/- What a run tells, plain: loads, counts, the greatest cost, the busiest. -/
namespace Go.Proofs.YteokbgfiokbojaaGreat
open Go.RowKit

def backRes (l : List Seg) (t : ByteArray) : ByteArray := match traceB l t.data.toList with
  | none => ⟨#[]⟩
  | some f => loadsB (keptB (runF l f))
end Go.Proofs.YteokbgfiokbojaaGreat
/- Where a node lies: the program's own place, by the parents. -/
namespace Go.Proofs.YteokbgfiokbojaaGreat
open Go.RowKit

/-- What place reads of the nodes. -/
def Placed (w : World) (l : List Seg) (nb : Nat → Nat) : Prop := ∀ j, j < l.length → nb j < w.heap.size ∧ w.cell? ⟨nb j, 1, none⟩ = some (.int .i64 (sizeAt l j)) ∧ w.cell? ⟨nb j, 2, none⟩ = some (.pointer (parPtr l nb j))
theorem Placed.below {w w' : World} {l : List Seg} {nb : Nat → Nat} (h : Placed w l nb) (hb : Below w.heap.size w w') : Placed w' l nb := fun j hj => by
  obtain ⟨h1, h2, h3⟩ := h j hj
  exact ⟨Nat.lt_of_lt_of_le h1 hb.size, (hb.cell (p := ⟨nb j, 1, none⟩) h1).trans h2, (hb.cell (p := ⟨nb j, 2, none⟩) h1).trans h3⟩
end Go.Proofs.YteokbgfiokbojaaGreat
/- The program's rooms: where segments begin and end, the whole room, what is saved. -/
namespace Go.Proofs.YteokbgfiokbojaaGreat
open Go.RowKit

end Go.Proofs.YteokbgfiokbojaaGreat
/- The program's rooms: RoomOf, SavedRoom, Overlap. -/
namespace Go.Proofs.YteokbgfiokbojaaGreat
open Go.RowKit

end Go.Proofs.YteokbgfiokbojaaGreat
/- The program's LongestPath. -/
namespace Go.Proofs.YteokbgfiokbojaaGreat
open Go.RowKit Go.Shelf

theorem Nodes.below {w w' : World} {B g m k : Nat} {l : List Seg} {nb : Nat → Nat} {cv : Nat → Value} (h : Nodes w B g m k l nb cv) (hb : Below w.heap.size w w') : Nodes w' B g m k l nb cv := by
  obtain ⟨cs, hg, hcs, hci⟩ := h.row
  refine ⟨⟨cs, hg.below hb hg.lt, hcs, hci⟩, fun i t hi ht => ?_, fun i t hi hi2 ht => ?_, fun i hi => ?_, h.apart, h.apartC, h.notg, h.low⟩
  · have h1 := h.node i t hi ht
    exact h1.below hb h1.lt
  · have h1 := h.fresh i t hi hi2 ht
    exact h1.below hb h1.lt
  · exact own_keep (h.kids i hi) fun b hb' => hb.block b ((h.kids i hi).lt b hb').2

end Go.Proofs.YteokbgfiokbojaaGreat
/- impl.CommonOf where both are found. -/
namespace Go.Proofs.YteokbgfiokbojaaGreat
open Go.RowKit Go.Shelf
attribute [local go_sem] Oper.semAt_some

theorem row_grown {W W' : World} {b : Nat} {t : TypeId} {cs : Array Value} {row : Option Nat} (h : Row W b t cs) (hg : W.grownBy W' row) {B : Nat} (hr : ∀ r, row = some r → B ≤ r ∧ ∃ o : Obj, W.heap[r]? = some o ∧ o.isCells = false) : Row W' b t cs :=
  (hg.block b h.lt (fun he => by
    obtain ⟨_, o, ho, hc⟩ := hr b he.symm
    have h' : W.heap[b]? = some (.cells cs t (0, 0)) := h
    rw [h'] at ho
    injection ho with ho
    subst ho
    cases hc)).trans h
theorem keepsN_set {B : Nat} (W : World) (p : Addr) (v : Value) (hp : p.block < B) : KeepsN B W (W.setCell p v) :=
  ⟨by simp, fun k o hk ho _ => (Below.heap_setCell W p v k (by omega)).trans ho⟩
/-- What the loop keeps: the box of the answer, the box of the names. -/
structure Loop2 (w1 : World) (l : List Seg) (R : List Nat) (nm : ByteArray) (b2 : Nat) (T : List Nat) (W : World) : Prop where
  box : Row W w1.heap.size 9 #[.string (lastNm l T)]
  names : Row W b2 9 #[.string nm]
  below : Below w1.heap.size w1 W
  all : ∀ v ∈ T, v ∈ R
theorem Loop2.grown {w1 W W' : World} {l : List Seg} {R T : List Nat} {nm : ByteArray} {b2 B : Nat} {row : Option Nat} (h : Loop2 w1 l R nm b2 T W) (hg : W.grownBy W' row) (hB : w1.heap.size ≤ B) (hr : ∀ r, row = some r → B ≤ r ∧ ∃ o : Obj, W.heap[r]? = some o ∧ o.isCells = false) : Loop2 w1 l R nm b2 T W' :=
  ⟨row_grown h.box hg hr, row_grown h.names hg hr, h.below.grown hg h.below.size (fun k e => by have := (hr k e).1; omega), h.all⟩
theorem Loop2.drew {w1 W : World} {l : List Seg} {R T : List Nat} {nm : ByteArray} {b2 : Nat} (h : Loop2 w1 l R nm b2 T W) : Loop2 w1 l R nm b2 T W.drew := ⟨h.box, h.names, h.below.drew, h.all⟩
theorem Loop2.step {w1 W : World} {l : List Seg} {R T : List Nat} {nm a : ByteArray} {b2 : Nat} (h : Loop2 w1 l R nm b2 T W) (hb2 : w1.heap.size < b2) {v : Nat} (hv : v < l.length) (hR : v ∈ R) (ha : l[v].name = a) :
    Loop2 w1 l R nm b2 (T ++ [v]) (W.setCell ⟨w1.heap.size, 0, none⟩ (.string a)) := by
  refine ⟨?_, Row.far h.names (by show b2 ≠ w1.heap.size; omega) _, h.below.setCell (Nat.le_refl _) _, fun u hu => ?_⟩
  · have := Row.put h.box 0 (.string a)
    rw [lastNm_snoc T hv, ha]
    exact this
  · rcases List.mem_append.1 hu with hu | hu
    · exact h.all u hu
    · rw [List.mem_singleton.1 hu]; exact hR

end Go.Proofs.YteokbgfiokbojaaGreat
