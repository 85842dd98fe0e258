/- Joined: Ec Eg Eu Eh. -/
import Derived.Test.YtcpiojliakgdlaaU21
import Derived.Test.YtcpiojliakgdlaaU16
import Derived.Test.YtcpiojliakgdlaaU26
import Derived.Test.YtcpiojliakgdlaaU07
import Derived.Test.YtcpiojliakgdlaaU08
/- The reference: loads and costs of a run in which segments stay. -/

namespace Go.Proofs.Ytcpiojliakgdlaa
open Go.RowKit

/-- What a trace needs, by indices. -/
def needIx10 (l : List Seg) (t : ByteArray) : List Nat := namedJs l (needsRes l t).data.toList
theorem needsB_all10 {P : UInt8 → Bool} : ∀ (f : Forest) (a : UInt8), P a = true → f.all P → ∀ b ∈ needsB a f, P b = true
  | .nil, _, _, _, b, hb => by cases hb
  | .cons c k r, a, ha, hf, b, hb => by
    obtain ⟨h1, h2, h3⟩ := hf
    have hb' : b ∈ c :: (needsB c k ++ (a :: needsB a r)) := hb
    rcases List.mem_cons.1 hb' with rfl | hb'
    · exact h1
    · rcases List.mem_append.1 hb' with hb' | hb'
      · exact needsB_all10 k c h1 h2 b hb'
      · rcases List.mem_cons.1 hb' with rfl | hb'
        · exact ha
        · exact needsB_all10 r a ha h3 b hb'
theorem callP_seek10 {l : List Seg} (hv : validB l = true) {b : UInt8} (h : callP l b = true) : 0 ≤ bSeek l b := by
  have h1 : 0 ≤ indexB l ⟨#[b]⟩ := of_decide_eq_true h
  have h2 : indexB l ⟨#[b]⟩ = seek l ⟨#[b]⟩ := if_pos hv
  unfold bSeek
  omega
theorem need_all10 {l : List Seg} {t : ByteArray} {f : Forest} (h : traceB l t.data.toList = some f) : needsRes l t = strOf (rootB l :: needsB (rootB l) f) ∧ (∀ b ∈ (needsRes l t).data.toList, 0 ≤ bSeek l b) ∧ (needsRes l t).size ≤ 161 := by
  obtain ⟨hv, -, -⟩ := traceB_some h
  have h1 : needsRes l t = strOf (rootB l :: needsB (rootB l) f) := by unfold needsRes; rw [h]; rfl
  have hr : callP l (rootB l) = true := by
    obtain ⟨s, h4, h5⟩ := root_name hv
    obtain ⟨hlt, h6⟩ := List.getElem?_eq_some_iff.1 h4
    exact callP_at hv hlt (h6 ▸ h5)
  refine ⟨h1, fun b hb => ?_, ?_⟩
  · rw [h1] at hb
    have hb' : b ∈ rootB l :: needsB (rootB l) f := hb
    rcases List.mem_cons.1 hb' with rfl | hb'
    · exact callP_seek10 hv hr
    · exact callP_seek10 hv (needsB_all10 f _ hr (traceB_all h) b hb')
  · rw [h1, str_size, List.length_cons, needsB_len]
    have := (traceB_size h).1
    omega
theorem needIx10_lt {l : List Seg} {t : ByteArray} {f : Forest} (h : traceB l t.data.toList = some f) : namedOk l (needsRes l t).data.toList = true ∧ (∀ j ∈ needIx10 l t, j < l.length) ∧ (needIx10 l t).length ≤ 161 := by
  obtain ⟨-, h1, h2⟩ := need_all10 h
  have h3 : namedOk l (needsRes l t).data.toList = true := List.all_eq_true.2 fun b hb => decide_eq_true (h1 b hb)
  refine ⟨h3, namedJs_lt h3, ?_⟩
  unfold needIx10 namedJs
  rw [List.length_map]
  have : (needsRes l t).data.toList.length = (needsRes l t).size := by simp
  omega

set_option maxRecDepth 100000 in
set_option maxHeartbeats 1000000 in
theorem l3Need_pin10 (l : List Seg) (S T P : List Nat) (w : World) (hv : validB l = true) (hT : IsPin10 l S T) (hP : IsPin10 l S P) :
    Calls Try.prog 66 #[.string (namesAt l T), .string (namesAt l P)] w fun e w' => e = .returned (.tuple #[.string (namesAt l (needT T P)), .string (namesAt l (loadT T P))]) ∧ Below w.heap.size w w' := by
  have hd := (valid_all hv).1.down
  have hlT := isPin10_lt hd hT
  have hlP := isPin10_lt hd hP
  have h8 := (valid_all hv).2.1
  have hsT := names_size hv hlT
  have hsP := names_size hv hlP
  have hzT := isPin10_len hT
  have hzP := isPin10_len hP
  obtain ⟨hf1, hf2⟩ := fork10 hd hT hP
  have HC : Hid (comBytes (namesAt l T) (namesAt l P) = comLen T P) := com_names hv hlT hlP
  have HCM := Lib.hid (fun W => l1Common_any (namesAt l T) (namesAt l P) W (by omega) (by omega))
  have hle := (comLen_le T P).2
  by_cases he : comLen T P = P.length
  · have hsub := hf1.2 he
    have HE : Hid (namesAt l (needT T P) = namesAt l T ∧ namesAt l (loadT T P) = ⟨#[]⟩) := by
      have h1 : needT T P = T := if_pos hsub
      refine ⟨by rw [h1], ?_⟩
      unfold loadT
      rw [h1, less_self]
      rfl
    have ht : ((comLen T P : Int) == ((namesAt l P).size : Int)) = true := by rw [beq_iff_eq]; omega
    generalize namesAt l T = sT at *
    generalize namesAt l P = sP at *
    generalize comLen T P = n at *
    clear hd hlT hlP h8 hsT hzT hzP hle he hsub hsP hf1 hf2
    go_enter Try.func66, Try.ntmps66
    go_wp2_with fail
    refine (HCM.out _).mono ?_
    rw [HC.out]
    rintro e w1 ⟨rfl, hb1⟩
    go_wp2
    go_ret2
    exact ⟨ret_pair HE.out.1.symm HE.out.2.symm, hb1⟩
  · have hsub : ¬ ∀ x ∈ P, x ∈ T := fun h => he (hf1.1 h)
    have HE : Hid (namesAt l (needT T P) = namesAt l P ∧ namesAt l (loadT T P) = (namesAt l P).extract (comLen T P) (namesAt l P).size) := by
      have h1 : needT T P = P := if_neg hsub
      refine ⟨by rw [h1], ?_⟩
      unfold loadT
      rw [h1, hf2, drop_names hv hlP]
    have ht : ((comLen T P : Int) == ((namesAt l P).size : Int)) = false := by rw [beq_eq_false_iff_ne]; omega
    have hb0 : (0 : Int) ≤ (comLen T P : Int) := Int.natCast_nonneg _
    have hb1 : (comLen T P : Int) ≤ ((namesAt l P).size : Int) := by omega
    have hb2 : ((namesAt l P).size : Int) ≤ 8 := by omega
    generalize namesAt l T = sT at *
    generalize namesAt l P = sP at *
    generalize comLen T P = n at *
    clear hd hlT hlP h8 hsT hzT hzP hle he hsub hsP hf1 hf2
    go_enter Try.func66, Try.ntmps66
    go_wp2_with fail
    refine (HCM.out _).mono ?_
    rw [HC.out]
    rintro e w1 ⟨rfl, hb1⟩
    go_wp2
    go_quiet (fail)
    go_wp2
    go_ret2
    exact ⟨ret_pair HE.out.1.symm HE.out.2.symm, below_drewN hb1 _⟩

theorem loads10_lt {l : List Seg} (hv : validB l = true) {T : List Nat} (hT : Pins10 l T) {js : List Nat} (hj : ∀ j ∈ js, j < l.length) : (∀ x ∈ loads10 l T js, x < l.length) ∧ (loads10 l T js).length ≤ 9 + 8 * js.length := by
  have h0 : 0 < l.length := by have := (valid_all hv).2.2; omega
  have h8 := (valid_all hv).2.1
  obtain ⟨h1, h2⟩ := loadP10_lt (valid_all hv).1.down (T := T) js (isPin10_nil l T) hj
  have h3 : T.length ≤ 8 := by
    rcases hT.len with h | h
    · omega
    · rw [h]; exact Nat.zero_le _
  unfold loads10
  refine ⟨fun x hx => ?_, ?_⟩
  · rcases List.mem_append.1 hx with h4 | h4
    · exact (hT.all h0).2 x h4
    · exact h1 x h4
  · have h5 : l.length * js.length ≤ 8 * js.length := Nat.mul_le_mul_right _ h8
    rw [List.length_append, List.length_cons]
    omega
theorem loads10_take {l : List Seg} {T js : List Nat} {k : Nat} (hk : k < js.length) : loads10 l T (js.take (k + 1)) = loads10 l T (js.take k) ++ loadT (heldP10 l T [] (js.take k)) (pathT10 l T js[k]) ∧ heldP10 l T [] (js.take (k + 1)) = needT (heldP10 l T [] (js.take k)) (pathT10 l T js[k]) := by
  rw [List.take_succ_eq_append_getElem hk]
  unfold loads10
  rw [loadP10_snoc, heldP10_snoc, List.append_assoc]
  exact ⟨rfl, rfl⟩

set_option maxRecDepth 100000 in
set_option maxHeartbeats 2000000 in
theorem l10Loads_any (A : Option Addr) (l : List Seg) (c : Nat) (nd : ByteArray) (T : List Nat) (w : World) (hw : Segs w w.heap.size A l) (hl : l.length ≤ 1048576) (hn : Short l) (hv : validB l = true) (hT : Pins10 l T) (hnd : ∀ b ∈ nd.data.toList, 0 ≤ bSeek l b) (hnz : nd.size ≤ 1000) :
    Calls Try.prog 107 #[.slice A l.length c, .string nd, .string (namesAt l T)] w fun e w' => e = .returned (.string (namesAt l (loads10 l T (namedJs l nd.data.toList)))) ∧ Below w.heap.size w w' := by
  have HW : Hid (Segs w w.heap.size A l) := hw
  have HV := Lib.hid hv
  have HT := Lib.hid hT
  have HD : Hid _ := (valid_all hv).1.down
  have h8 := (valid_all hv).2.1
  have h0 : 0 < l.length := by have := (valid_all hv).2.2; omega
  have hok : namedOk l nd.data.toList = true := List.all_eq_true.2 fun b hb => decide_eq_true (hnd b hb)
  have HJ := Lib.hid (namedJs_lt hok)
  have hjl : (namedJs l nd.data.toList).length = nd.size := by unfold namedJs; rw [List.length_map]; simp
  have HJK : Hid (∀ k (hk : k < nd.size), ∃ hk2 : k < (namedJs l nd.data.toList).length, indexB l (nd.extract k (k + 1)) = (((namedJs l nd.data.toList)[k]'hk2 : Nat) : Int)) := fun k hk => by
    have hk2 : k < (namedJs l nd.data.toList).length := by omega
    refine ⟨hk2, ?_⟩
    have e1 := one_byte nd hk
    have e2 : (namedJs l nd.data.toList)[k]'hk2 = (bSeek l nd[k]).toNat := List.getElem_map (fun b => (bSeek l b).toNat)
    have e3 : 0 ≤ bSeek l nd[k] := hnd _ (by
      have : nd[k] = nd.data.toList[k]'(by simpa using hk) := rfl
      rw [this]
      exact List.getElem_mem _)
    have e4 : indexB l ⟨#[nd[k]]⟩ = seek l ⟨#[nd[k]]⟩ := if_pos hv
    rw [e1, e2, e4]
    unfold bSeek at *
    omega
  have H0 : Hid (⟨#[rootB l]⟩ ++ namesAt l T = namesAt l (loads10 l T ((namedJs l nd.data.toList).take 0))) := by
    show _ = _
    rw [root_byte10 hv]
    have e1 : loads10 l T ((namedJs l nd.data.toList).take 0) = [0] ++ T := by
      show (0 :: T) ++ [] = _
      rw [List.append_nil]; rfl
    rw [e1, namesAt_append10, names_txt10 hv (js := [0]) (fun j hj => by rw [List.mem_singleton.1 hj]; exact h0)]
    rfl
  have HFIN : Hid (namesAt l (loads10 l T ((namedJs l nd.data.toList).take nd.size)) = namesAt l (loads10 l T (namedJs l nd.data.toList))) := by
    show _ = _
    rw [← hjl, List.take_length]
  have HTK := Lib.hid (fun k (hk : k < (namedJs l nd.data.toList).length) => loads10_take (l := l) (T := T) hk)
  have HLZ : Hid (∀ k, (namesAt l (loads10 l T ((namedJs l nd.data.toList).take k))).size ≤ 10000) := fun k => by
    obtain ⟨a1, a2⟩ := loads10_lt hv hT (js := (namedJs l nd.data.toList).take k) (fun j hj => HJ.out j (List.mem_of_mem_take hj))
    rw [names_size hv a1]
    rw [List.length_take] at a2
    omega
  have HHP : Hid (∀ k, IsPin10 l T (heldP10 l T [] ((namedJs l nd.data.toList).take k))) := fun k => heldP10_pin _ (isPin10_nil l T) (fun j hj => HJ.out j (List.mem_of_mem_take hj))
  have hpz : (namesAt l T).size ≤ 8 := by
    rw [names_size hv hT.lt]
    rcases hT.len with h | h
    · omega
    · rw [h]; exact Nat.zero_le _
  have HS0 : Hid (namesAt l (heldP10 l T [] ((namedJs l nd.data.toList).take 0)) = ⟨#[]⟩) := rfl
  have hb1 : (⟨#[rootB l]⟩ : ByteArray).size = 1 := rfl
  obtain ⟨b0, o0, rfl, hB0, c0⟩ := hw.root hv
  have HPA := Lib.hid (fun i W (h1 : Segs W W.heap.size (some ⟨b0, o0, none⟩) l) (h2 : i < l.length) => l10Path_any _ l c T i W h1 hl hv hT h2)
  clear hw hv hT hnd hok
  generalize namedJs l nd.data.toList = js at *
  generalize (⟨#[rootB l]⟩ : ByteArray) = br at *
  generalize namesAt l T = pt at *
  go_enter Try.func107, Try.ntmps107
  go_wp2
  obtain ⟨L0, hL0⟩ : ∃ L0, L0 = br ++ pt := ⟨_, rfl⟩
  have HL0 : Hid (L0 = namesAt l (loads10 l T (js.take 0))) := hL0.trans H0.out
  rw [← hL0]
  clear hL0 H0
  have HJL := Lib.hid hjl
  clear hjl
  go_loopw [7, 8, 20] (fun ov sv iv wr => ∃ k : Nat, k ≤ nd.size ∧ iv = .int .i64 k ∧ ov = .string (namesAt l (loads10 l T (js.take k))) ∧ sv = .string (namesAt l (heldP10 l T [] (js.take k))) ∧ Hid (Below w.heap.size w wr))
    (fun _ _ iv _ => nd.size - (intOf iv).toNat)
  case atStart => exact ⟨0, Nat.zero_le _, rfl, by rw [HL0.out], by rw [HS0.out], Below.refl _ _⟩
  case round =>
    obtain ⟨k, hk, rfl, rfl, rfl, HB⟩ := hrel
    have hk0 : (0 : Int) ≤ (k : Int) := Int.natCast_nonneg _
    by_cases hlt : k < nd.size
    · have hlt' : (k : Int) < (nd.size : Int) := by omega
      have hk1 : (k : Int) + 1 ≤ (nd.size : Int) := by omega
      obtain ⟨hk2, hix⟩ := HJK.out k hlt
      obtain ⟨t1, t2⟩ := HTK.out k hk2
      have hjk := HJ.out _ (List.getElem_mem hk2)
      have hlz := HLZ.out k
      have HP1 := HHP.out k
      have HPP := isPin10_path l T hjk
      have HN3 := Lib.hid (fun W => l3Need_pin10 l T _ _ W HV.out HP1 HPP)
      have HT1 : Hid (namesAt l (loads10 l T (js.take (k + 1))) = namesAt l (loads10 l T (js.take k)) ++ namesAt l (loadT (heldP10 l T [] (js.take k)) (pathT10 l T js[k]))) := by
        show _ = _
        rw [t1, namesAt_append10]
      have HT2 : Hid (namesAt l (heldP10 l T [] (js.take (k + 1))) = namesAt l (needT (heldP10 l T [] (js.take k)) (pathT10 l T js[k]))) := by
        show _ = _
        rw [t2]
      have hlz2 : (namesAt l (loadT (heldP10 l T [] (js.take k)) (pathT10 l T js[k]))).size ≤ 8 := by
        have h3 := isPin10_need HP1 HPP
        have h6 : (namesAt l (loadT (heldP10 l T [] (js.take k)) (pathT10 l T js[k]))).size = (lessT (needT (heldP10 l T [] (js.take k)) (pathT10 l T js[k])) (heldP10 l T [] (js.take k))).length := names_size HV.out (less_lt (isPin10_lt HD.out h3))
        have h4 := less_len (needT (heldP10 l T [] (js.take k)) (pathT10 l T js[k])) (heldP10 l T [] (js.take k))
        have h5 := isPin10_len h3
        omega
      clear t1 t2 HP1 HPP
      generalize namesAt l (needT (heldP10 l T [] (js.take k)) (pathT10 l T js[k])) = n1 at *
      generalize namesAt l (loadT (heldP10 l T [] (js.take k)) (pathT10 l T js[k])) = n2 at *
      generalize namesAt l (loads10 l T (js.take k)) = n3 at *
      generalize namesAt l (heldP10 l T [] (js.take k)) = n4 at *
      generalize js[k] = j at *
      go_wp2_with fail
      refine (l1Index_any _ l c (nd.extract k (k + 1)) _ ((HW.out.below HB.out).more HB.out.size) hl hn).mono ?_
      rw [hix]
      rintro e w2 ⟨rfl, hb2⟩
      have HB2 := Lib.hid (HB.out.trans (hb2.mono HB.out.size))
      clear hb2 HB hix
      go_wp2_with fail
      refine (HPA.out j _ ((HW.out.below HB2.out).more HB2.out.size) hjk).mono ?_
      rintro e w3 ⟨rfl, hb3⟩
      have HB3 := Lib.hid (HB2.out.trans (hb3.mono HB2.out.size))
      clear hb3 HB2
      generalize namesAt l (pathT10 l T j) = n5 at *
      go_wp2_with fail
      refine (HN3.out _).mono ?_
      rintro e w4 ⟨rfl, hb4⟩
      have HB4 := Lib.hid (HB3.out.trans (hb4.mono HB3.out.size))
      clear hb4 HB3
      go_wp2
      go_roundw
      case rel => exact ⟨k + 1, by omega, by go_num, by rw [HT1.out], by rw [HT2.out], HB4⟩
      case measure => simp [intOf]; omega
    · obtain rfl : k = nd.size := by omega
      rw [HFIN.out]
      go_wp2
      go_ret
      exact ⟨rfl, HB.out⟩

/-- All that is loaded, and whether there is such a run. -/
def plOk10 (l : List Seg) (t s : ByteArray) : Bool := (traceB l t.data.toList).isSome && pinOk10 l s
def plRes10 (l : List Seg) (t s : ByteArray) : ByteArray := if plOk10 l t s = true then namesAt l (loads10 l (pinT10 l s) (needIx10 l t)) else ⟨#[]⟩
def pcRes10 (l : List Seg) (t s : ByteArray) : Int := if plOk10 l t s = true then szs l (loads10 l (pinT10 l s) (needIx10 l t)) else -1
theorem plRes10_size {l : List Seg} {t s : ByteArray} : (plRes10 l t s).size ≤ 10000 := by
  unfold plRes10
  split
  · rename_i h
    unfold plOk10 at h
    rw [Bool.and_eq_true] at h
    obtain ⟨h1, h2⟩ := h
    obtain ⟨f, hf⟩ := Option.isSome_iff_exists.1 h1
    obtain ⟨hv, hp, -⟩ := pinOk10_pins h2
    obtain ⟨-, a, b⟩ := needIx10_lt hf
    obtain ⟨a1, a2⟩ := loads10_lt hv hp a
    rw [names_size hv a1]
    omega
  · exact Nat.zero_le _
theorem plRes10_cost {l : List Seg} {t s : ByteArray} (h : plOk10 l t s = true) : costB l (plRes10 l t s) = pcRes10 l t s := by
  have h' := h
  unfold plOk10 at h'
  rw [Bool.and_eq_true] at h'
  obtain ⟨h1, h2⟩ := h'
  obtain ⟨f, hf⟩ := Option.isSome_iff_exists.1 h1
  obtain ⟨hv, hp, -⟩ := pinOk10_pins h2
  obtain ⟨-, a, b⟩ := needIx10_lt hf
  obtain ⟨a1, a2⟩ := loads10_lt hv hp a
  unfold plRes10 pcRes10
  rw [if_pos h, if_pos h]
  exact costB_names hv a1

set_option maxRecDepth 100000 in
set_option maxHeartbeats 2000000 in
theorem specPinLoads_any (A : Option Addr) (l : List Seg) (c : Nat) (t s : ByteArray) (w : World) (hw : Segs w w.heap.size A l) (hl : l.length ≤ 1048576) (hn : Short l) (ht : t.size ≤ 1048576) (hs : s.size ≤ 1048576) :
    Calls Try.prog 51 #[.slice A l.length c, .string t, .string s] w fun e w' => e = .returned (.tuple #[.string (plRes10 l t s), .bool (plOk10 l t s)]) ∧ Below w.heap.size w w' := by
  have HW : Hid (Segs w w.heap.size A l) := hw
  have HND := Lib.hid (fun W h => specNeedsOf_any A l c t W h hl hn ht)
  have HPI := Lib.hid (fun W h => specPins_any A l c s W h hl hn hs)
  clear hw
  cases hR : traceB l t.data.toList with
  | none =>
    rw [hR] at HND
    have HF : Hid (plRes10 l t s = ⟨#[]⟩ ∧ plOk10 l t s = false) := by
      have h1 : plOk10 l t s = false := by unfold plOk10; rw [hR]; rfl
      exact ⟨by unfold plRes10; rw [if_neg (by rw [h1]; decide)], h1⟩
    rw [HF.out.1, HF.out.2]
    clear hR
    generalize needsRes l t = nd at *
    go_enter Try.func51, Try.ntmps51
    go_wp2_with fail
    refine (HND.out _ HW.out).mono ?_
    rintro e w1 ⟨rfl, hb1⟩
    go_wp2
    go_ret2
    exact ⟨rfl, hb1⟩
  | some f =>
    rw [hR] at HND
    obtain ⟨-, hna, hnz⟩ := need_all10 hR
    have hnz2 : (needsRes l t).size ≤ 1000 := by omega
    cases hp : pinOk10 l s with
    | false =>
      have HF : Hid (plRes10 l t s = ⟨#[]⟩ ∧ plOk10 l t s = false) := by
        have h1 : plOk10 l t s = false := by unfold plOk10; rw [hp, Bool.and_false]
        exact ⟨by unfold plRes10; rw [if_neg (by rw [h1]; decide)], h1⟩
      rw [HF.out.1, HF.out.2]
      rw [hp] at HPI
      clear hR hp hna hnz hnz2
      generalize needsRes l t = nd at *
      go_enter Try.func51, Try.ntmps51
      go_wp2_with fail
      refine (HND.out _ HW.out).mono ?_
      rintro e w1 ⟨rfl, hb1⟩
      go_wp2_with fail
      refine (HPI.out _ ((HW.out.below hb1).more hb1.size)).mono ?_
      rintro e w2 ⟨rfl, hb2⟩
      have B2 := hb1.trans (hb2.mono hb1.size)
      clear hb1 hb2
      go_wp2
      go_ret2
      exact ⟨rfl, B2⟩
    | true =>
      obtain ⟨hv, hpp, hpn⟩ := pinOk10_pins hp
      have HLO := Lib.hid (fun W h => l10Loads_any A l c (needsRes l t) (pinT10 l s) W h hl hn hv hpp hna hnz2)
      have HF : Hid (plRes10 l t s = namesAt l (loads10 l (pinT10 l s) (namedJs l (needsRes l t).data.toList)) ∧ plOk10 l t s = true) := by
        have h1 : plOk10 l t s = true := by unfold plOk10; rw [hp, hR]; rfl
        exact ⟨by unfold plRes10; rw [if_pos h1]; rfl, h1⟩
      rw [HF.out.1, HF.out.2]
      rw [hp] at HPI
      rw [hpn] at HLO
      clear hR hp hna hnz hnz2 HF hpp hpn hv
      generalize namesAt l (loads10 l (pinT10 l s) (namedJs l (needsRes l t).data.toList)) = res at *
      generalize needsRes l t = nd at *
      go_enter Try.func51, Try.ntmps51
      go_wp2_with fail
      refine (HND.out _ HW.out).mono ?_
      rintro e w1 ⟨rfl, hb1⟩
      go_wp2_with fail
      refine (HPI.out _ ((HW.out.below hb1).more hb1.size)).mono ?_
      rintro e w2 ⟨rfl, hb2⟩
      have B2 := hb1.trans (hb2.mono hb1.size)
      clear hb1 hb2
      go_wp2_with fail
      refine (HLO.out _ ((HW.out.below B2).more B2.size)).mono ?_
      rintro e w3 ⟨rfl, hb3⟩
      have B3 := B2.trans (hb3.mono B2.size)
      clear B2 hb3
      go_wp2
      go_ret2
      exact ⟨rfl, B3⟩

set_option maxRecDepth 100000 in
set_option maxHeartbeats 1000000 in
theorem specPinCost_any (A : Option Addr) (l : List Seg) (c : Nat) (t s : ByteArray) (w : World) (hw : Segs w w.heap.size A l) (hl : l.length ≤ 1048576) (hn : Short l) (ht : t.size ≤ 1048576) (hs : s.size ≤ 1048576) :
    Calls Try.prog 53 #[.slice A l.length c, .string t, .string s] w fun e w' => e = .returned (.int .i64 (pcRes10 l t s)) ∧ Below w.heap.size w w' := by
  have HW : Hid (Segs w w.heap.size A l) := hw
  have HPL := Lib.hid (fun W h => specPinLoads_any A l c t s W h hl hn ht hs)
  have hz := plRes10_size (l := l) (t := t) (s := s)
  have HCO := Lib.hid (fun W h => specCost_any A l c (plRes10 l t s) W h hl hn (by omega))
  clear hw
  cases hp : plOk10 l t s with
  | false =>
    have HF : Hid (pcRes10 l t s = -1) := if_neg (by rw [hp]; decide)
    rw [hp] at HPL
    rw [HF.out]
    clear hp hz HCO
    generalize plRes10 l t s = r at *
    go_enter Try.func53, Try.ntmps53
    go_wp2_with fail
    refine (HPL.out _ HW.out).mono ?_
    rintro e w1 ⟨rfl, hb1⟩
    go_wp2
    go_ret
    exact ⟨rfl, hb1⟩
  | true =>
    rw [plRes10_cost hp] at HCO
    rw [hp] at HPL
    clear hp hz
    generalize plRes10 l t s = r at *
    generalize pcRes10 l t s = x at *
    go_enter Try.func53, Try.ntmps53
    go_wp2_with fail
    refine (HPL.out _ HW.out).mono ?_
    rintro e w1 ⟨rfl, hb1⟩
    go_wp2_with fail
    refine (HCO.out _ ((HW.out.below hb1).more hb1.size)).mono ?_
    rintro e w2 ⟨rfl, hb2⟩
    have B2 := hb1.trans (hb2.mono hb1.size)
    clear hb1 hb2
    go_wp2
    go_ret
    exact ⟨rfl, B2⟩

/-- The room that a tree takes in which segments stay. -/
def prRes10 (l : List Seg) (s : ByteArray) : Int := if pinOk10 l s = true then room10 l (pinT10 l s) else -1

set_option maxRecDepth 100000 in
set_option maxHeartbeats 1000000 in
theorem specPinRoom_any (A : Option Addr) (l : List Seg) (c : Nat) (s : ByteArray) (w : World) (hw : Segs w w.heap.size A l) (hl : l.length ≤ 1048576) (hn : Short l) (hs : s.size ≤ 1048576) :
    Calls Try.prog 45 #[.slice A l.length c, .string s] w fun e w' => e = .returned (.int .i64 (prRes10 l s)) ∧ Below w.heap.size w w' := by
  have HW : Hid (Segs w w.heap.size A l) := hw
  have HPI := Lib.hid (fun W h => specPins_any A l c s W h hl hn hs)
  clear hw
  cases hp : pinOk10 l s with
  | false =>
    have HF : Hid (prRes10 l s = -1) := if_neg (by rw [hp]; decide)
    rw [hp] at HPI
    rw [HF.out]
    clear hp
    go_enter Try.func45, Try.ntmps45
    go_wp2_with fail
    refine (HPI.out _ HW.out).mono ?_
    rintro e w1 ⟨rfl, hb1⟩
    go_wp2
    go_ret
    exact ⟨rfl, hb1⟩
  | true =>
    have HF : Hid (prRes10 l s = room10 l (pinT10 l s)) := if_pos hp
    obtain ⟨hv, hpp, hpn⟩ := pinOk10_pins hp
    have HRO := Lib.hid (fun W h => l10Room_any A l c (pinT10 l s) W h hl hn hv hpp)
    rw [hpn] at HRO
    rw [hp] at HPI
    rw [HF.out]
    clear hp hv hpp hpn HF
    generalize room10 l (pinT10 l s) = x at *
    go_enter Try.func45, Try.ntmps45
    go_wp2_with fail
    refine (HPI.out _ HW.out).mono ?_
    rintro e w1 ⟨rfl, hb1⟩
    go_wp2_with fail
    refine (HRO.out _ ((HW.out.below hb1).more hb1.size)).mono ?_
    rintro e w2 ⟨rfl, hb2⟩
    have B2 := hb1.trans (hb2.mono hb1.size)
    clear hb1 hb2
    go_wp2
    go_ret
    exact ⟨rfl, B2⟩

end Go.Proofs.Ytcpiojliakgdlaa
/- The program's PinRoom. -/
namespace Go.Proofs.Ytcpiojliakgdlaa
open Go.RowKit

set_option maxRecDepth 100000 in
set_option maxHeartbeats 1000000 in
theorem pinRoom_any (A : Option Addr) (l : List Seg) (c : Nat) (s : ByteArray) (w : World) (hw : Segs w w.heap.size A l) (hl : l.length ≤ 1048576) (hlc : l.length ≤ c) (hcm : c ≤ 9223372036854775807) (hn : Short l) (hs : s.size ≤ 1048576) :
    Calls Try.prog 40 #[.slice A l.length c, .string s] w fun e w' => e = .returned (.int .i64 (prRes10 l s)) ∧ Below w.heap.size w w' := by
  have HW : Hid (Segs w w.heap.size A l) := hw
  clear hw
  cases hv : validB l with
  | false =>
    have HF : Hid (prRes10 l s = -1) := if_neg (by rw [pinOk10_bad s hv]; decide)
    have HFB := Lib.hid (fun W => findPins_bad s W hs)
    go_enter Try.func40, Try.ntmps40
    go_wp2_with fail
    refine (nodesOf_bad _ _ _ _ HW.out hl hlc hcm hn hv).mono ?_
    rintro e w1 ⟨rfl, hb1⟩
    clear hv
    go_wp2_with fail
    refine (HFB.out _).mono ?_
    rintro e w2 ⟨rfl, rfl⟩
    go_wp2
    go_ret
    exact ⟨ret_int HF.out.symm, hb1⟩
  | true =>
    have HFP := Lib.hid (fun B g nb cv W h => findPins_any B g l nb cv s W h hv hs)
    have HNO := Lib.hid (fun W h => nodesOf_any A l c W h hl hlc hcm hn hv)
    cases hp : pinOk10 l s with
    | false =>
      have HF : Hid (prRes10 l s = -1) := if_neg (by rw [hp]; decide)
      rw [hp] at HFP
      generalize (stay10 l s : Int) = y at *
      clear hv hn hp
      go_enter Try.func40, Try.ntmps40
      go_wp2_with fail
      refine (HNO.out _ HW.out).mono ?_
      rintro e w1 ⟨g, nb, cv, rfl, hN, hb1⟩
      have HN := Lib.hid hN
      clear hN
      go_wp2_with fail
      refine (HFP.out _ _ _ _ _ HN.out).mono ?_
      rintro e w2 ⟨rfl, hb2⟩
      have B2 := hb1.trans (hb2.mono hb1.size)
      clear hb1 hb2
      go_wp2
      go_ret
      exact ⟨ret_int HF.out.symm, B2⟩
    | true =>
      have HF : Hid (prRes10 l s = room10 l (pinT10 l s)) := if_pos hp
      have HS : Hid (stay10 l s = setF (memF (0 :: pinT10 l s))) := if_pos hp
      have HRW := Lib.hid (fun W h => roomWith_any A l c (pinT10 l s) W h hl hlc hcm hn hv (pinOk10_pins hp).2.1)
      rw [hp, HS.out] at HFP
      generalize (setF (memF (0 :: pinT10 l s)) : Int) = y at *
      clear hv hn hp HS
      go_enter Try.func40, Try.ntmps40
      go_wp2_with fail
      refine (HNO.out _ HW.out).mono ?_
      rintro e w1 ⟨g, nb, cv, rfl, hN, hb1⟩
      have HN := Lib.hid hN
      clear hN
      go_wp2_with fail
      refine (HFP.out _ _ _ _ _ HN.out).mono ?_
      rintro e w2 ⟨rfl, hb2⟩
      have B2 := hb1.trans (hb2.mono hb1.size)
      clear hb1 hb2
      go_wp2_with fail
      refine (HRW.out _ ((HW.out.below B2).more B2.size)).mono ?_
      rintro e w3 ⟨rfl, hb3⟩
      have B3 := B2.trans (hb3.mono B2.size)
      clear B2 hb3
      go_wp2
      go_ret
      exact ⟨ret_int HF.out.symm, B3⟩

end Go.Proofs.Ytcpiojliakgdlaa
/- The walk of the law FnExactPinRoom. -/
namespace Go.Proofs.Ytcpiojliakgdlaa
open Go.RowKit

set_option maxRecDepth 100000 in
set_option maxHeartbeats 400000 in
theorem lawPinRoom_any (A : Option Addr) (l : List Seg) (c : Nat) (s : ByteArray) (w : World) (hw : Segs w w.heap.size A l) (hl : l.length ≤ maxLen) (hn : Short l) (hsz : s.size ≤ maxLen) :
    Calls Try.prog 8 #[.slice A l.length c, .string s] w fun e w' => e = .returned (.bool true) ∧ Below w.heap.size w w' := by
  have HW : Hid (Segs w w.heap.size A l) := hw
  clear hw
  unfold maxLen at hsz
  by_cases hbigs : 1048576 < s.size
  · go_enter Try.func8, Try.ntmps8
    go_wp2
    go_ret
    exact ⟨rfl, Below.refl _ _⟩
  by_cases hs : sizeLeft l < 0
  · go_enter Try.func8, Try.ntmps8
    go_wp2_with fail
    refine (szSegmentS_any _ _ _ _ HW.out hl hn).mono ?_
    rintro e w1 ⟨rfl, hb1⟩
    go_wp2
    go_ret
    exact ⟨rfl, hb1⟩
  · have hlen := sizeLeft_len hs
    go_enter Try.func8, Try.ntmps8
    go_wp2_with fail
    refine (szSegmentS_any _ _ _ _ HW.out hl hn).mono ?_
    rintro e w1 ⟨rfl, hb1⟩
    have hs1 := (HW.out.below hb1).more hb1.size
    go_wp2_with fail
    refine (toSegmentS_any _ _ _ _ hs1 hlen).mono ?_
    rintro e w2 ⟨rfl, hb2, hx2⟩
    have B2 : Below w.heap.size w w2 := hb1.trans (hb2.mono hb1.size)
    clear hb2 hs1
    go_wp2_with fail
    refine (specPinRoom_any _ _ _ _ _ hx2 hlen hn (Nat.le_of_not_lt hbigs)).mono ?_
    rintro e w3 ⟨rfl, hb3⟩
    have B3 : Below w.heap.size w w3 := B2.trans (hb3.mono B2.size)
    clear hb3 hx2 B2
    have hs3 := (HW.out.below B3).more B3.size
    go_wp2_with fail
    refine (toSegmentS_any _ _ _ _ hs3 hlen).mono ?_
    rintro e w4 ⟨rfl, hb4, hx4⟩
    have B4 : Below w.heap.size w w4 := B3.trans (hb4.mono B3.size)
    clear hb4 hs3
    go_wp2_with fail
    refine (pinRoom_any _ _ _ _ _ hx4 hlen (Nat.le_refl _) (Nat.le_trans hlen (by decide)) hn (Nat.le_of_not_lt hbigs)).mono ?_
    rintro e w5 ⟨rfl, hb5⟩
    have B5 : Below w.heap.size w w5 := B4.trans (hb5.mono B4.size)
    have hx5 := (hx4.below hb5).more hb5.size
    clear hb5 hx4 B4
    have hs5 := (HW.out.below B5).more B5.size
    go_wp2_with fail
    refine (toSegmentS_any _ _ _ _ hs5 hlen).mono ?_
    rintro e w6 ⟨rfl, hb6, hx6⟩
    have B6 : Below w.heap.size w w6 := B5.trans (hb6.mono B5.size)
    have hx7 := (hx5.below hb6).more hb6.size
    clear hb6 hs5 hx5 B5
    go_wp2_with fail
    refine (eqSegmentS_same _ _ _ _ _ _ hx7 hx6 hlen).mono ?_
    rintro e w7 ⟨rfl, hb7⟩
    have B7 : Below w.heap.size w w7 := B6.trans (hb7.mono B6.size)
    clear hb7 hx6 hx7 B6
    go_wp2
    go_ret
    exact ⟨rfl, B7⟩

end Go.Proofs.Ytcpiojliakgdlaa
/- The program: a need for which some segments need not be loaded. -/
namespace Go.Proofs.Ytcpiojliakgdlaa
open Go.RowKit Go.Shelf
attribute [local go_sem] Oper.semAt_some

def fixI10 (x : Nat) : Nat := if x < 8 then x else 0
theorem fixI10_lt (x : Nat) : fixI10 x < 8 := by
  unfold fixI10
  split
  · next h => exact h
  · decide
theorem selIx_fix10 (f : Nat → Bool) : (selIx f 8).map fixI10 = selIx f 8 := by
  have h : ∀ x ∈ selIx f 8, fixI10 x = x := fun x hx => if_pos (List.mem_range.1 (List.mem_filter.1 hx).1)
  rw [List.map_congr_left h]
  exact List.map_id' _
theorem memF_sel10 (f : Nat → Bool) {j : Nat} (hj : j < 8) : memF (selIx f 8) j = f j := by
  unfold memF
  by_cases h : f j = true
  · rw [h]; exact decide_eq_true (selIx_mem10.2 ⟨hj, h⟩)
  · rw [Bool.not_eq_true] at h
    rw [h]
    exact decide_eq_false fun h2 => by
      have := (selIx_mem10.1 h2).2
      rw [h] at this
      cases this
/-- What is left of a need after some are gone over. -/
def leftF10 (p : Nat → Bool) (xs : List Nat) (j : Nat) : Bool := p j && !memF xs j
theorem leftF10_step (p : Nat → Bool) (xs : List Nat) {i : Nat} (hi : i < 8) : (bitCells (leftF10 p xs)).setIfInBounds i (.bool false) = bitCells (leftF10 p (xs ++ [i])) := by
  rw [bits_set _ hi]
  apply bits_congr
  intro j _
  unfold leftF10 memF
  by_cases e : j = i
  · rw [if_pos e, e]
    simp
  · rw [if_neg e]
    have : decide (j ∈ xs ++ [i]) = decide (j ∈ xs) := by
      rw [decide_eq_decide, List.mem_append, List.mem_singleton]
      exact ⟨fun h => h.elim id (fun h => absurd h e), .inl⟩
    rw [this]

set_option maxRecDepth 100000 in
set_option maxHeartbeats 4000000 in
theorem needWithout_any (p f : Nat → Bool) (w : World) :
    Calls Try.prog 147 #[bitsV p, .int .u64 (setF f : Int)] w fun e w' => e = .returned (bitsV fun j => p j && !f j) ∧ Below w.heap.size w w' := by
  have hfx : ∀ x, x < 8 → f x = true → fixI10 x = x := fun x h _ => if_pos h
  have HFIN : Hid (bitCells (leftF10 p ((selIx f 8).map fixI10)) = bitCells fun j => p j && !f j) := by
    show _ = _
    rw [selIx_fix10]
    apply bits_congr
    intro j hj
    unfold leftF10
    rw [memF_sel10 f hj]
  have H0 : Hid (bitCells (leftF10 p []) = bitCells p) := by
    show _ = _
    apply bits_congr
    intro j _
    unfold leftF10 memF
    simp
  refine (callsIn_wide (n := 20)).1 ?_
  refine callsIn_of_wp_marks Try.func147 rfl trivial ?_ rfl
  simp only [Try.ntmps147, List.size_toArray, List.length_cons, List.length_nil, Nat.reduceAdd, Nat.reduceSub, Array.replicate_succ, Array.replicate_zero, List.push_toArray, List.append_toArray, List.nil_append, List.cons_append]
  have hr0 : Row (((w.alloc (.cells (bitCells p) 142)).alloc (.cells (bitCells fun _ => false) 142)).alloc (.cells #[.int .u64 (setF f : Int)] 113)) w.heap.size 142 (bitCells p) := ((Row.new w _ _).alloc _).alloc _
  have hr1 : Row (((w.alloc (.cells (bitCells p) 142)).alloc (.cells (bitCells fun _ => false) 142)).alloc (.cells #[.int .u64 (setF f : Int)] 113)) (w.heap.size + 1) 142 (bitCells fun _ => false) := by
    have h1 := Row.new (w.alloc (.cells (bitCells p) 142)) 142 (bitCells fun _ => false)
    rw [World.size_alloc] at h1
    exact h1.alloc _
  have hr2 : Row (((w.alloc (.cells (bitCells p) 142)).alloc (.cells (bitCells fun _ => false) 142)).alloc (.cells #[.int .u64 (setF f : Int)] 113)) (w.heap.size + 2) 113 #[.int .u64 (setF f : Int)] := by
    have h1 := Row.new ((w.alloc (.cells (bitCells p) 142)).alloc (.cells (bitCells fun _ => false) 142)) 113 #[.int .u64 (setF f : Int)]
    rw [World.size_alloc, World.size_alloc] at h1
    exact h1
  have hlow : Below w.heap.size w (((w.alloc (.cells (bitCells p) 142)).alloc (.cells (bitCells fun _ => false) 142)).alloc (.cells #[.int .u64 (setF f : Int)] 113)) := (((Below.refl _ w).alloc (Nat.le_refl _) _).alloc (by simp) _).alloc (by simp; omega) _
  have hz : (((w.alloc (.cells (bitCells p) 142)).alloc (.cells (bitCells fun _ => false) 142)).alloc (.cells #[.int .u64 (setF f : Int)] 113)).heap.size = w.heap.size + 3 := by simp
  have hW3 : ∃ W3, W3 = (((w.alloc (.cells (bitCells p) 142)).alloc (.cells (bitCells fun _ => false) 142)).alloc (.cells #[.int .u64 (setF f : Int)] 113)) := ⟨_, rfl⟩
  obtain ⟨W3, hW3⟩ := hW3
  rw [← hW3] at hr0 hr1 hr2 hlow hz
  rw [← H0.out] at hr0
  unfold bitCells at hW3
  have HP0 := Lib.hid hr0
  have HP1 := Lib.hid hr1
  have HLOW := Lib.hid hlow
  unfold bitsV bitCells
  clear hr0 hr1 hlow
  gi_wp2_with fail
  refine ⟨trivial, ?_⟩
  gi_at_call 132
  refine (callsIn_wide.2 (indices10_any _ _)).mono ?_
  rintro e w5 ⟨rfl, rfl⟩
  gi_wp2
  simp only [Nat.add_assoc, Nat.reduceAdd]
  rw [← hW3]
  clear hW3
  have hmx : Try.prog.follows .mixedOrders = true := by kernel_rfl
  have hseq := indices1_seq w.heap.size (w.heap.size + 2) fixI10 f hfx 8 19 (w.heap.size + 2) W3 (by omega) ⟨.inr (Nat.le_refl _), hr2⟩ (Nat.le_refl _)
  refine wpIn_rangeFunc_M (by omega) (gf := 151) (lb := #[.pointer (some ⟨w.heap.size + 2, 0, none⟩)]) rfl (enters_of Try.func151 (by kernel_rfl) rfl) hseq (by omega) (by omega) (Below.refl _ _) (fun _ => rfl)
    (fun xs X => Row X w.heap.size 142 (bitCells (leftF10 p (xs.map fixI10))) ∧ Row X (w.heap.size + 1) 142 (bitCells fun _ => false) ∧ Below w.heap.size w X ∧ w.heap.size + 3 ≤ X.heap.size)
    (fun _ _ _ => False)
    (fun xs X Y hs hb => ⟨hs.1.below hb (by omega), hs.2.1.below hb (by omega), hs.2.2.1.trans (hb.mono (by omega)), Nat.le_trans hs.2.2.2 hb.size⟩)
    (fun _ _ _ _ hs _ => hs)
    ⟨HP0.out, HP1.out, HLOW.out, by omega⟩
    (fun x => { tmps := #[.agg #[.bool (p 0), .bool (p 1), .bool (p 2), .bool (p 3), .bool (p 4), .bool (p 5), .bool (p 6), .bool (p 7)], .int .u64 (setF f : Int), .pointer (some ⟨w.heap.size, 0, none⟩), undef, .pointer (some ⟨w.heap.size + 1, 0, none⟩), .int .i64 (fixI10 x : Nat), .int .u64 (setF f : Int), .func (.func 151) #[] #[.pointer (some ⟨w.heap.size + 2, 0, none⟩)], .int .i64 (fixI10 x : Nat), undef, undef, undef, undef], defers := [] }) ?assign ?body ?done ?stop
  case assign =>
    intro l2 x X K hK
    gi_wp2
    exact hK
  case body =>
    rintro l2 xs x X ⟨hm6, hb6, hlow6, hz6⟩ hlen hzX
    have hi8 := fixI10_lt x
    have HX : Hid ((xs ++ [x]).map fixI10 = xs.map fixI10 ++ [fixI10 x]) := by
      show _ = _
      rw [List.map_append]
      rfl
    have HM6 := Lib.hid hm6
    have hi' : ((fixI10 x : Nat) : Int) < 8 := by omega
    have hi0 : (0 : Int) ≤ ((fixI10 x : Nat) : Int) := Int.natCast_nonneg _
    generalize xs.map fixI10 = ys at *
    generalize fixI10 x = i at *
    have cI : X.cell? ⟨w.heap.size, i, none⟩ = some (.bool (leftF10 p ys i)) := by rw [HM6.out.cell, bits_at _ hi8]
    have zI : X.frozen? ⟨w.heap.size, i, none⟩ = false := HM6.out.free i
    have HEND : Hid (∀ u, postM W3.heap.size w.heap.size (w.heap.size + 2) (fun xs X => Row X w.heap.size 142 (bitCells (leftF10 p (xs.map fixI10))) ∧ Row X (w.heap.size + 1) 142 (bitCells fun _ => false) ∧ Below w.heap.size w X ∧ w.heap.size + 3 ≤ X.heap.size) (fun _ _ _ => False) (xs ++ [x]) X .normal u (X.setCell ⟨w.heap.size, i, none⟩ (.bool false))) := by
      intro u
      have hbz : Below w.heap.size X (X.setCell ⟨w.heap.size, i, none⟩ (.bool false)) := (Below.refl w.heap.size X).setCell (p := ⟨w.heap.size, i, none⟩) (Nat.le_refl w.heap.size) _
      refine ⟨?_, hbz, ?_, hb6.far (by show w.heap.size + 1 ≠ w.heap.size; omega) _, hlow6.trans hbz, by show _ ≤ (World.setCell _ _ _).heap.size; simp [World.setCell]; exact hz6⟩
      · rw [Nat.min_eq_right (by omega)]
        exact ⟨by show X.heap.size ≤ _; simp [World.setCell], fun q o hq ho => (Below.heap_setCell X _ _ q (by show q ≠ w.heap.size; omega)).trans ho⟩
      · rw [HX.out]
        have h1 := HM6.out.put i (.bool false)
        rw [leftF10_step p ys hi8] at h1
        exact h1
    clear HX hm6 hb6 hlow6 hseq hfx HP0 HP1 HLOW HFIN H0 hr2
    generalize leftF10 p ys i = bi at *
    gi_wp2
    exact HEND.out _
  case done =>
    rintro L ys X hL rfl ⟨hm6, hb6, hlow6, hz6⟩ hK
    rw [HFIN.out] at hm6
    obtain ⟨⟨c0, c1, c2, c3⟩, c4, c5, c6, c7⟩ := bits_cells hm6
    obtain ⟨⟨d0, d1, d2, d3⟩, d4, d5, d6, d7⟩ := bits_cells hb6
    have hfz := fun j => hb6.free j
    have z0 := hfz 0
    have z1 := hfz 1
    have z2 := hfz 2
    have z3 := hfz 3
    have z4 := hfz 4
    have z5 := hfz 5
    have z6 := hfz 6
    have z7 := hfz 7
    have HRow : Hid (Row (putBits X (w.heap.size + 1) fun j => p j && !f j) (w.heap.size + 1) 142 (bitCells fun j => p j && !f j)) := putBits_row hb6
    have HBel : Hid (Below w.heap.size w (putBits X (w.heap.size + 1) fun j => p j && !f j)) := putBits_below hlow6 (by omega)
    have HKK : Hid ((putBits X (w.heap.size + 1) fun j => p j && !f j).heap[L]? = some (.deferred (some []))) := (putBits_block X _ _ (by omega)).trans hK
    clear hfz hm6 hb6 hlow6 hK hseq hfx HP0 HP1 HLOW HFIN H0 hr2
    gi_wp2
    refine ⟨by simp, .inl ⟨_, _, rfl, run_takeDeferred HKK.out, ?_⟩⟩
    refine ⟨_, results_cell_row (p := 4) (ty := 142) rfl _ ((putBits X (w.heap.size + 1) fun j => p j && !f j).putObj L _) (w.heap.size + 1) 142 _ (0, 0) _ rfl (row_grown HRow.out (grownBy_putObj' _ L _) (B := 0) (fun r e => by cases e; exact ⟨Nat.zero_le _, _, HKK.out, rfl⟩)) Try.underlying142 rfl (by kernel_rfl), rfl, ?_⟩
    exact HBel.out.trans (put_low _ _ (by omega) (by have := HBel.out.size; omega))
  case stop =>
    rintro L c' pre X _ _ h _
    exact h.elim

end Go.Proofs.Ytcpiojliakgdlaa
