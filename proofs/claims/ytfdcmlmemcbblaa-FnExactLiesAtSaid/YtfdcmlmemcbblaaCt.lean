/- spec.CommonOf: the last name of the common beginning of two paths. -/
import Derived.Test.YtfdcmlmemcbblaaCs
import Derived.BigQuiet
namespace Go.Proofs.Ytfdcmlmemcbblaa
open Go.RowKit

/-- The numbers of a found segment's path. -/
def pathIx (l : List Seg) (s : ByteArray) : List Nat := rp l (indexB l s).toNat
def comCount (l : List Seg) (s t : ByteArray) : Nat := comLen (pathIx l s) (pathIx l t)
def comStr (l : List Seg) (s t : ByteArray) : ByteArray := if indexB l s < 0 ∨ indexB l t < 0 then ⟨#[]⟩ else namesAt l [(pathIx l s).getD (comCount l s t - 1) 0]
def comOk (l : List Seg) (s t : ByteArray) : Bool := hasSeg l s && hasSeg l t

theorem pathStr_ix {l : List Seg} {s : ByteArray} (h : 0 ≤ indexB l s) : pathStr l s = namesAt l (pathIx l s) := if_neg (by omega)
theorem comCount_pos {l : List Seg} {s t : ByteArray} (h1 : 0 ≤ indexB l s) (h2 : 0 ≤ indexB l t) : 0 < comCount l s t := by
  have ok := (valid_all (index_valid h1)).1
  rcases indexB_bd l s with a1 | ⟨_, a1⟩
  · omega
  rcases indexB_bd l t with a2 | ⟨_, a2⟩
  · omega
  obtain ⟨A, hA⟩ := rp_head ok _ (show (indexB l s).toNat < l.length by omega)
  obtain ⟨B, hB⟩ := rp_head ok _ (show (indexB l t).toNat < l.length by omega)
  unfold comCount pathIx
  rw [hA, hB]
  simp [comLen]
theorem comBytes_ix {l : List Seg} {s t : ByteArray} (h1 : 0 ≤ indexB l s) (h2 : 0 ≤ indexB l t) : comBytes (pathStr l s) (pathStr l t) = comCount l s t := by
  have hv := index_valid h1
  have ok := (valid_all hv).1
  rcases indexB_bd l s with a1 | ⟨_, a1⟩
  · omega
  rcases indexB_bd l t with a2 | ⟨_, a2⟩
  · omega
  have b1 : ∀ j ∈ pathIx l s, j < l.length := fun j hj => by
    have := rp_le ok.down _ (show (indexB l s).toNat < l.length by omega) j hj
    omega
  have b2 : ∀ j ∈ pathIx l t, j < l.length := fun j hj => by
    have := rp_le ok.down _ (show (indexB l t).toNat < l.length by omega) j hj
    omega
  unfold comBytes comCount
  rw [pathStr_ix h1, pathStr_ix h2, namesAt_map hv _ b1, namesAt_map hv _ b2]
  exact comLen_map _ _ _ (fun a ha b hb he => byteOf_inj hv (b1 a ha) (b2 b hb) he)
theorem pathStr_size {l : List Seg} {s : ByteArray} (h1 : 0 ≤ indexB l s) : (pathStr l s).size = (pathIx l s).length ∧ (pathIx l s).length ≤ l.length := by
  have hv := index_valid h1
  have ok := (valid_all hv).1
  rcases indexB_bd l s with a1 | ⟨_, a1⟩
  · omega
  have b1 : ∀ j ∈ pathIx l s, j < l.length := fun j hj => by
    have := rp_le ok.down _ (show (indexB l s).toNat < l.length by omega) j hj
    omega
  refine ⟨?_, ?_⟩
  · have e := namesAt_map hv _ b1
    have e2 : (pathStr l s).size = (pathStr l s).data.toList.length := by simp
    rw [e2, pathStr_ix h1, e, List.length_map]
  · have := rootPath_len l ((indexB l s).toNat + 1) (indexB l s).toNat
    unfold pathIx rp
    omega
theorem comStr_cut {l : List Seg} {s t : ByteArray} (h1 : 0 ≤ indexB l s) (h2 : 0 ≤ indexB l t) (n : Nat) (hn : comCount l s t = n + 1) : (pathStr l s).extract n (n + 1) = comStr l s t := by
  have hv := index_valid h1
  have ok := (valid_all hv).1
  rcases indexB_bd l s with a1 | ⟨_, a1⟩
  · omega
  have b1 : ∀ j ∈ pathIx l s, j < l.length := fun j hj => by
    have := rp_le ok.down _ (show (indexB l s).toNat < l.length by omega) j hj
    omega
  have hle : n < (pathIx l s).length := by have := (comLen_le (pathIx l s) (pathIx l t)).1; unfold comCount at hn; omega
  have e1 : comStr l s t = namesAt l [(pathIx l s)[n]] := by
    unfold comStr
    rw [if_neg (by omega), hn]
    simp [List.getD, List.getElem?_eq_getElem hle]
  have hm : ∀ j ∈ [(pathIx l s)[n]], j < l.length := fun j hj => by
    rw [List.mem_singleton.1 hj]
    exact b1 _ (List.getElem_mem hle)
  have e2 := namesAt_map hv _ hm
  have e3 := namesAt_map hv _ b1
  rw [e1]
  apply ByteArray.ext
  apply Array.ext'
  rw [e2, pathStr_ix h1]
  have e4 : ((namesAt l (pathIx l s)).extract n (n + 1)).data.toList = (((namesAt l (pathIx l s)).data.toList).drop n).take 1 := by
    simp [ByteArray.data_extract]
  rw [e4, e3, ← List.map_drop, List.drop_eq_getElem_cons hle]
  rfl

set_option maxRecDepth 100000 in
set_option maxHeartbeats 1000000 in
theorem specCommon_any (A : Option Addr) (l : List Seg) (c : Nat) (s t : ByteArray) (w : World) (hw : Segs w w.heap.size A l) (hl : l.length ≤ 1048576) (hn : Short l) :
    Calls Try.prog 30 #[.slice A l.length c, .string s, .string t] w fun e w' => e = .returned (.tuple #[.string (comStr l s t), .bool (comOk l s t)]) ∧ Below w.heap.size w w' := by
  have HW : Hid (Segs w w.heap.size A l) := hw
  clear hw
  have HS : Hid (hasSeg l s = decide (0 ≤ indexB l s)) := rfl
  have HT : Hid (hasSeg l t = decide (0 ≤ indexB l t)) := rfl
  by_cases hs : 0 ≤ indexB l s
  · by_cases ht : 0 ≤ indexB l t
    · have h1 : hasSeg l s = true := decide_eq_true hs
      have h2 : hasSeg l t = true := decide_eq_true ht
      have HO : Hid (comOk l s t = true) := by
        show _ = _
        unfold comOk
        rw [h1, h2]
        rfl
      obtain ⟨n, hn1⟩ : ∃ n, comCount l s t = n + 1 := ⟨comCount l s t - 1, by have := comCount_pos hs ht; omega⟩
      have HC := Lib.hid (comStr_cut hs ht n hn1)
      have HB := Lib.hid ((comBytes_ix hs ht).trans hn1)
      have hp1 := pathStr_size hs
      have hp2 := pathStr_size ht
      have hz1 : (pathStr l s).size ≤ 1048576 := by omega
      have hz2 : (pathStr l t).size ≤ 1048576 := by omega
      have hle : n + 1 ≤ (pathStr l s).size := by
        have := (comLen_le (pathIx l s) (pathIx l t)).1
        unfold comCount at hn1
        omega
      clear hp1 hp2 hn1 hs ht HS HT
      go_enter Try.func30, Try.ntmps30
      go_wp2_with fail
      refine (specPath_any _ _ _ _ _ HW.out hl hn).mono ?_
      rw [h1]
      rintro e w1 ⟨rfl, hb1⟩
      go_wp2_with fail
      refine (specPath_any _ _ _ _ _ ((HW.out.below hb1).more hb1.size) hl hn).mono ?_
      rw [h2]
      rintro e w2 ⟨rfl, hb2⟩
      have B2 := hb1.trans (hb2.mono hb1.size)
      clear hb1 hb2 h1 h2
      go_wp2_with fail
      refine (l1Common_any _ _ _ hz1 hz2).mono ?_
      rw [HB.out]
      rintro e w3 ⟨rfl, hb3⟩
      have B3 := B2.trans (hb3.mono B2.size)
      clear hb3 B2
      have hlo : (0 : Int) ≤ (n : Int) := Int.natCast_nonneg _
      go_wp2
      go_ret2
      exact ⟨ret_two (by rw [← HC.out]) HO.out.symm, B3⟩
    · have h2 : hasSeg l t = false := decide_eq_false ht
      have HF : Hid (comStr l s t = ⟨#[]⟩ ∧ comOk l s t = false) := ⟨if_pos (.inr (by omega)), by unfold comOk; rw [h2, Bool.and_false]⟩
      clear hs ht HS HT
      go_enter Try.func30, Try.ntmps30
      go_wp2_with fail
      refine (specPath_any _ _ _ _ _ HW.out hl hn).mono ?_
      rintro e w1 ⟨rfl, hb1⟩
      go_wp2_with fail
      refine (specPath_any _ _ _ _ _ ((HW.out.below hb1).more hb1.size) hl hn).mono ?_
      rw [h2]
      rintro e w2 ⟨rfl, hb2⟩
      have B2 := hb1.trans (hb2.mono hb1.size)
      clear hb1 hb2 h2
      go_wp2
      all_goals go_ret2
      all_goals exact ⟨ret_two HF.out.1.symm HF.out.2.symm, B2⟩
  · have h1 : hasSeg l s = false := decide_eq_false hs
    have HF : Hid (comStr l s t = ⟨#[]⟩ ∧ comOk l s t = false) := ⟨if_pos (.inl (by omega)), by unfold comOk; rw [h1, Bool.false_and]⟩
    clear hs HS HT
    go_enter Try.func30, Try.ntmps30
    go_wp2_with fail
    refine (specPath_any _ _ _ _ _ HW.out hl hn).mono ?_
    rw [h1]
    rintro e w1 ⟨rfl, hb1⟩
    go_wp2_with fail
    refine (specPath_any _ _ _ _ _ ((HW.out.below hb1).more hb1.size) hl hn).mono ?_
    rintro e w2 ⟨rfl, hb2⟩
    have B2 := hb1.trans (hb2.mono hb1.size)
    clear hb1 hb2 h1
    go_wp2
    all_goals go_ret2
    all_goals exact ⟨ret_two HF.out.1.symm HF.out.2.symm, B2⟩

end Go.Proofs.Ytfdcmlmemcbblaa
