/- Joined: Gc Gf Xb Cb Kw Kz Lh. -/
import Derived.Test.YtcpiojliakgdlaaU10
import Derived.BigQuiet
import Derived.Test.YtcpiojliakgdlaaU07
import Derived.Maps.AppendAt
import Derived.Deep.AppendLies
import Derived.Test.YtcpiojliakgdlaaU06
import Derived.Test.YtcpiojliakgdlaaU09
import Derived.Test.YtcpiojliakgdlaaU01
/- The model's side of loading: states and needs. -/
namespace Go.Proofs.Ytcpiojliakgdlaa
open Go.RowKit

theorem ret_three {a b c d : ByteArray} {x y : Bool} (h : a = c) (k : b = d) (e : x = y) : Ending.returned (.tuple #[.string a, .string b, .bool x]) = .returned (.tuple #[.string c, .string d, .bool y]) := by rw [h, k, e]
theorem ret_pair {a b c d : ByteArray} (h : a = c) (k : b = d) : Ending.returned (.tuple #[.string a, .string b]) = .returned (.tuple #[.string c, .string d]) := by rw [h, k]
theorem str_empty {s : ByteArray} (h : s.size = 0) : s = ⟨#[]⟩ := by
  apply ByteArray.ext
  apply Array.eq_empty_of_size_eq_zero
  exact h
theorem toList_ne {s : ByteArray} (h : 0 < s.size) : s.toList ≠ [] := by
  rw [ByteArray.toList_eq]
  intro e
  have h2 : s.data.toList.length = s.size := by simp
  rw [e, List.length_nil] at h2
  omega

set_option maxRecDepth 100000 in
set_option maxHeartbeats 400000 in
theorem specState_any (A : Option Addr) (l : List Seg) (c : Nat) (s : ByteArray) (w : World) (hw : Segs w w.heap.size A l) (hl : l.length ≤ 1048576) (hn : Short l) (hs : s.size ≤ 1048576) :
    Calls Try.prog 36 #[.slice A l.length c, .string s] w fun e w' => e = .returned (.bool (stOk l s)) ∧ Below w.heap.size w w' := by
  have HW : Hid (Segs w w.heap.size A l) := hw
  clear hw
  by_cases h0 : s.size = 0
  · have HF := Lib.hid (stOk_empty (l := l) h0)
    obtain rfl := str_empty h0
    clear h0
    go_enter Try.func36, Try.ntmps36
    go_wp2_with fail
    refine (specTreeValid_any _ _ _ _ HW.out hl hn).mono ?_
    rintro e w1 ⟨rfl, hb1⟩
    go_wp2
    go_ret
    exact ⟨ret_bool HF.out.symm, hb1⟩
  · have hp : 0 < s.size := by omega
    have HF := Lib.hid (stOk_last (l := l) hp)
    have h1 : s.toList ≠ [] := toList_ne hp
    have h2 : (s.toList == []) = false := by simp [h1]
    have h3 : (s.size : Int) - 1 = ((s.size - 1 : Nat) : Int) := by omega
    go_enter Try.func36, Try.ntmps36
    go_wp2_with fail
    refine (specPath_any _ _ _ _ _ HW.out hl hn).mono ?_
    generalize pathStr l (s.extract (s.size - 1) s.size) = p at *
    generalize hasSeg l (s.extract (s.size - 1) s.size) = q at *
    rintro e w1 ⟨rfl, hb1⟩
    clear h1 h2 h3
    cases q with
    | false =>
      go_wp2
      go_ret
      exact ⟨ret_bool (by rw [HF.out]; rfl), hb1⟩
    | true =>
      have HB : Hid (sameB p s = (p.toList == s.toList)) := rfl
      generalize hx : (p.toList == s.toList) = x at *
      go_wp2
      go_ret
      exact ⟨ret_bool (by rw [HF.out, HB.out]; rfl), hb1⟩

/-- The path of a segment, and whether all is valid. -/
theorem needOk_comm (l : List Seg) (s t : ByteArray) : needOk l s t = (hasSeg l t && stOk l s) := by
  unfold needOk
  rw [Bool.and_comm]

set_option maxRecDepth 100000 in
set_option maxHeartbeats 400000 in
theorem l3Path_any (A : Option Addr) (l : List Seg) (c : Nat) (s t : ByteArray) (w : World) (hw : Segs w w.heap.size A l) (hl : l.length ≤ 1048576) (hn : Short l) (hs : s.size ≤ 1048576) :
    Calls Try.prog 65 #[.slice A l.length c, .string s, .string t] w fun e w' => e = .returned (.tuple #[.string (pathStr l t), .bool (needOk l s t)]) ∧ Below w.heap.size w w' := by
  have HW : Hid (Segs w w.heap.size A l) := hw
  have HF := Lib.hid (needOk_comm l s t)
  clear hw
  cases hq : hasSeg l t with
  | false =>
    go_enter Try.func65, Try.ntmps65
    go_wp2_with fail
    refine (specPath_any _ _ _ _ _ HW.out hl hn).mono ?_
    rw [hq]
    rintro e w1 ⟨rfl, hb1⟩
    have HQ := Lib.hid hq
    clear hq
    go_wp2
    go_ret2
    exact ⟨ret_two rfl (by rw [HF.out, HQ.out]; rfl), hb1⟩
  | true =>
    go_enter Try.func65, Try.ntmps65
    go_wp2_with fail
    refine (specPath_any _ _ _ _ _ HW.out hl hn).mono ?_
    rw [hq]
    rintro e w1 ⟨rfl, hb1⟩
    have HQ := Lib.hid hq
    clear hq
    go_wp2_with fail
    refine (specState_any _ _ _ _ _ ((HW.out.below hb1).more hb1.size) hl hn hs).mono ?_
    rintro e w2 ⟨rfl, hb2⟩
    have B2 := hb1.trans (hb2.mono hb1.size)
    clear hb1 hb2
    go_wp2
    go_ret2
    exact ⟨ret_two rfl (by rw [HF.out, HQ.out]; rfl), B2⟩

theorem drop_names {l : List Seg} (hv : validB l = true) {P : List Nat} (hP : ∀ j ∈ P, j < l.length) (n : Nat) : (namesAt l P).extract n (namesAt l P).size = namesAt l (P.drop n) := by
  apply ByteArray.ext
  apply Array.ext'
  have h1 := namesAt_map hv P hP
  have h2 := namesAt_map hv (P.drop n) (fun j hj => hP j (List.mem_of_mem_drop hj))
  rw [h2, List.map_drop, ← h1]
  simp [ByteArray.data_extract]
  exact List.take_of_length_le (by simp)
theorem names_size {l : List Seg} (hv : validB l = true) {P : List Nat} (hP : ∀ j ∈ P, j < l.length) : (namesAt l P).size = P.length := by
  have h1 := congrArg List.length (namesAt_map hv P hP)
  simpa using h1
theorem com_names {l : List Seg} (hv : validB l = true) {T P : List Nat} (hT : ∀ j ∈ T, j < l.length) (hP : ∀ j ∈ P, j < l.length) : comBytes (namesAt l T) (namesAt l P) = comLen T P := by
  unfold comBytes
  rw [namesAt_map hv T hT, namesAt_map hv P hP]
  exact comLen_map _ _ _ (fun a ha b hb he => byteOf_inj hv (hT a ha) (hP b hb) he)

set_option maxRecDepth 100000 in
set_option maxHeartbeats 1000000 in
theorem l3Need_any (l : List Seg) (T P : List Nat) (w : World) (hv : validB l = true) (hT : IsState l T) (hP : IsState l P) :
    Calls Try.prog 66 #[.string (namesAt l T), .string (namesAt l P)] w fun e w' => e = .returned (.tuple #[.string (namesAt l (needT T P)), .string (namesAt l (loadT T P))]) ∧ Below w.heap.size w w' := by
  have hd := (valid_all hv).1.down
  have hlT := hT.lt hd
  have hlP := hP.lt hd
  have h8 := (valid_all hv).2.1
  have hsT := names_size hv hlT
  have hsP := names_size hv hlP
  have hzT := state_len hT
  have hzP := state_len hP
  have HC : Hid (comBytes (namesAt l T) (namesAt l P) = comLen T P) := com_names hv hlT hlP
  have HCM := Lib.hid (fun W => l1Common_any (namesAt l T) (namesAt l P) W (by omega) (by omega))
  have hle := (comLen_le T P).2
  by_cases he : comLen T P = P.length
  · have hsub := (sub_iff hd hT hP).2 he
    have HE : Hid (namesAt l (needT T P) = namesAt l T ∧ namesAt l (loadT T P) = ⟨#[]⟩) := by
      have h1 : needT T P = T := if_pos hsub
      refine ⟨by rw [h1], ?_⟩
      unfold loadT
      rw [h1, less_self]
      rfl
    have ht : ((comLen T P : Int) == ((namesAt l P).size : Int)) = true := by rw [beq_iff_eq]; omega
    generalize namesAt l T = sT at *
    generalize namesAt l P = sP at *
    generalize comLen T P = n at *
    clear hd hlT hlP h8 hsT hzT hzP hle he hsub hsP
    go_enter Try.func66, Try.ntmps66
    go_wp2_with fail
    refine (HCM.out _).mono ?_
    rw [HC.out]
    rintro e w1 ⟨rfl, hb1⟩
    go_wp2
    go_ret2
    exact ⟨ret_pair HE.out.1.symm HE.out.2.symm, hb1⟩
  · have hsub : ¬ ∀ x ∈ P, x ∈ T := fun h => he ((sub_iff hd hT hP).1 h)
    have HE : Hid (namesAt l (needT T P) = namesAt l P ∧ namesAt l (loadT T P) = (namesAt l P).extract (comLen T P) (namesAt l P).size) := by
      have h1 : needT T P = P := if_neg hsub
      refine ⟨by rw [h1], ?_⟩
      unfold loadT
      rw [h1, less_drop hd hP hT, comLen_comm P T, drop_names hv hlP]
    have ht : ((comLen T P : Int) == ((namesAt l P).size : Int)) = false := by rw [beq_eq_false_iff_ne]; omega
    have hb0 : (0 : Int) ≤ (comLen T P : Int) := Int.natCast_nonneg _
    have hb1 : (comLen T P : Int) ≤ ((namesAt l P).size : Int) := by omega
    have hb2 : ((namesAt l P).size : Int) ≤ 8 := by omega
    generalize namesAt l T = sT at *
    generalize namesAt l P = sP at *
    generalize comLen T P = n at *
    clear hd hlT hlP h8 hsT hzT hzP hle he hsub hsP
    go_enter Try.func66, Try.ntmps66
    go_wp2_with fail
    refine (HCM.out _).mono ?_
    rw [HC.out]
    rintro e w1 ⟨rfl, hb1⟩
    go_wp2
    go_quiet (fail)
    go_wp2
    go_ret2
    exact ⟨ret_pair HE.out.1.symm HE.out.2.symm, below_drewN hb1 _⟩

end Go.Proofs.Ytcpiojliakgdlaa

/- The model's NeedOf, DropsOf, CostOf, LoadCost. -/
namespace Go.Proofs.Ytcpiojliakgdlaa
open Go.RowKit

theorem need_states {l : List Seg} {s t : ByteArray} (h : needOk l s t = true) : validB l = true ∧ IsState l (stT l s) ∧ namesAt l (stT l s) = s ∧ IsState l (pathIx l t) ∧ namesAt l (pathIx l t) = pathStr l t := by
  obtain ⟨h1, h2⟩ := needOk_parts h
  obtain ⟨a, b, c⟩ := stT_state h1
  exact ⟨a, b, c, path_state h2, (pathStr_ix h2).symm⟩

def afterStr (l : List Seg) (s t : ByteArray) : ByteArray := namesAt l (afterIx l s t)
def loadStr (l : List Seg) (s t : ByteArray) : ByteArray := namesAt l (loadIx l s t)
def dropStr (l : List Seg) (s t : ByteArray) : ByteArray := namesAt l (dropIx l s t)

set_option maxRecDepth 100000 in
set_option maxHeartbeats 400000 in
theorem specNeed_any (A : Option Addr) (l : List Seg) (c : Nat) (s t : ByteArray) (w : World) (hw : Segs w w.heap.size A l) (hl : l.length ≤ 1048576) (hn : Short l) (hs : s.size ≤ 1048576) :
    Calls Try.prog 14 #[.slice A l.length c, .string s, .string t] w fun e w' => e = .returned (.tuple #[.string (afterStr l s t), .string (loadStr l s t), .bool (needOk l s t)]) ∧ Below w.heap.size w w' := by
  have HW : Hid (Segs w w.heap.size A l) := hw
  clear hw
  cases hq : needOk l s t with
  | false =>
    have HE : Hid (afterStr l s t = ⟨#[]⟩ ∧ loadStr l s t = ⟨#[]⟩) := by
      unfold afterStr loadStr afterIx loadIx
      rw [if_neg (by rw [hq]; decide), if_neg (by rw [hq]; decide)]
      exact ⟨rfl, rfl⟩
    go_enter Try.func14, Try.ntmps14
    go_wp2_with fail
    refine (l3Path_any _ _ _ _ _ _ HW.out hl hn hs).mono ?_
    rw [hq]
    rintro e w1 ⟨rfl, hb1⟩
    clear hq
    go_wp2
    go_ret3
    exact ⟨ret_three HE.out.1.symm HE.out.2.symm rfl, hb1⟩
  | true =>
    obtain ⟨hv, hT, hTn, hP, hPn⟩ := need_states hq
    have HE : Hid (afterStr l s t = namesAt l (needT (stT l s) (pathIx l t)) ∧ loadStr l s t = namesAt l (loadT (stT l s) (pathIx l t))) := by
      unfold afterStr loadStr afterIx loadIx
      rw [if_pos hq, if_pos hq]
      exact ⟨rfl, rfl⟩
    have HC := Lib.hid (fun W => l3Need_any l (stT l s) (pathIx l t) W hv hT hP)
    rw [hTn, hPn] at HC
    clear hTn hPn hT hP hv
    go_enter Try.func14, Try.ntmps14
    go_wp2_with fail
    refine (l3Path_any _ _ _ _ _ _ HW.out hl hn hs).mono ?_
    rw [hq]
    rintro e w1 ⟨rfl, hb1⟩
    clear hq
    go_wp2_with fail
    refine (HC.out _).mono ?_
    rintro e w2 ⟨rfl, hb2⟩
    have B2 := hb1.trans (hb2.mono hb1.size)
    clear hb1 hb2
    go_wp2
    go_ret3
    exact ⟨ret_three HE.out.1.symm HE.out.2.symm rfl, B2⟩

set_option maxRecDepth 100000 in
set_option maxHeartbeats 1000000 in
theorem specDrops_any (A : Option Addr) (l : List Seg) (c : Nat) (s t : ByteArray) (w : World) (hw : Segs w w.heap.size A l) (hl : l.length ≤ 1048576) (hn : Short l) (hs : s.size ≤ 1048576) :
    Calls Try.prog 16 #[.slice A l.length c, .string s, .string t] w fun e w' => e = .returned (.tuple #[.string (dropStr l s t), .bool (needOk l s t)]) ∧ Below w.heap.size w w' := by
  have HW : Hid (Segs w w.heap.size A l) := hw
  clear hw
  cases hq : needOk l s t with
  | false =>
    have HE : Hid (dropStr l s t = ⟨#[]⟩) := by
      show dropStr l s t = _
      unfold dropStr dropIx
      rw [if_neg (by rw [hq]; decide)]
      rfl
    go_enter Try.func16, Try.ntmps16
    go_wp2_with fail
    refine (l3Path_any _ _ _ _ _ _ HW.out hl hn hs).mono ?_
    rw [hq]
    rintro e w1 ⟨rfl, hb1⟩
    clear hq
    go_wp2
    go_ret2
    exact ⟨ret_two HE.out.symm rfl, hb1⟩
  | true =>
    obtain ⟨hv, hT, hTn, hP, hPn⟩ := need_states hq
    have hd := (valid_all hv).1.down
    have hU := needT_state hT hP
    have h8 := (valid_all hv).2.1
    have hzT := state_len hT
    have hzU := state_len hU
    have hsT := names_size hv (hT.lt hd)
    have hsU := names_size hv (hU.lt hd)
    have hle := (comLen_le (stT l s) (needT (stT l s) (pathIx l t))).1
    have HE : Hid (dropStr l s t = (namesAt l (stT l s)).extract (comLen (stT l s) (needT (stT l s) (pathIx l t))) (namesAt l (stT l s)).size) := by
      show dropStr l s t = _
      unfold dropStr dropIx
      rw [if_pos hq]
      unfold dropT
      rw [less_drop hd hT hU, drop_names hv (hT.lt hd)]
    have HC := Lib.hid (fun W => l3Need_any l (stT l s) (pathIx l t) W hv hT hP)
    have HD := Lib.hid (fun W => l1Common_any (namesAt l (stT l s)) (namesAt l (needT (stT l s) (pathIx l t))) W (by omega) (by omega))
    rw [com_names hv (hT.lt hd) (hU.lt hd)] at HD
    have hb0 : (0 : Int) ≤ (comLen (stT l s) (needT (stT l s) (pathIx l t)) : Int) := Int.natCast_nonneg _
    have hb1 : (comLen (stT l s) (needT (stT l s) (pathIx l t)) : Int) ≤ ((namesAt l (stT l s)).size : Int) := by omega
    rw [hTn] at HC HD HE hb1
    rw [hPn] at HC
    clear hTn hPn hsT hsU hzT hzU h8 hU hd hle
    generalize comLen (stT l s) (needT (stT l s) (pathIx l t)) = n at *
    generalize namesAt l (needT (stT l s) (pathIx l t)) = sU at *
    clear hT hP hv
    go_enter Try.func16, Try.ntmps16
    go_wp2_with fail
    refine (l3Path_any _ _ _ _ _ _ HW.out hl hn hs).mono ?_
    rw [hq]
    rintro e w1 ⟨rfl, hb1⟩
    clear hq
    go_wp2_with fail
    refine (HC.out _).mono ?_
    rintro e w2 ⟨rfl, hb2⟩
    have B2 := hb1.trans (hb2.mono hb1.size)
    clear hb1 hb2
    go_wp2_with fail
    refine (HD.out _).mono ?_
    rintro e w3 ⟨rfl, hb3⟩
    have B3 := B2.trans (hb3.mono B2.size)
    clear B2 hb3
    go_wp2
    go_ret2
    exact ⟨ret_two HE.out.symm rfl, B3⟩

theorem named_take {l : List Seg} (s : ByteArray) {k : Nat} (h : k < s.size) : namedOk l (s.data.toList.take (k + 1)) = (namedOk l (s.data.toList.take k) && decide (0 ≤ bSeek l s[k])) ∧ namedJs l (s.data.toList.take (k + 1)) = namedJs l (s.data.toList.take k) ++ [(bSeek l s[k]).toNat] := by
  have e : s.data.toList.take (k + 1) = s.data.toList.take k ++ [s[k]] := by
    rw [List.take_succ_eq_append_getElem (by simpa using h)]
    rfl
  rw [e, namedOk_snoc, namedJs_snoc]
  exact ⟨rfl, rfl⟩
theorem one_byte (s : ByteArray) {k : Nat} (h : k < s.size) : s.extract k (k + 1) = ⟨#[s[k]]⟩ := by
  apply ByteArray.ext
  apply Array.ext'
  have : s.data.toList.drop k = s[k] :: s.data.toList.drop (k + 1) := List.drop_eq_getElem_cons (by simpa using h)
  simp [ByteArray.data_extract, this]
theorem bSeek_bd (l : List Seg) (b : UInt8) : bSeek l b = -1 ∨ (0 ≤ bSeek l b ∧ bSeek l b < l.length) := seek_bd l _

set_option maxRecDepth 100000 in
set_option maxHeartbeats 1000000 in
theorem specCost_any (A : Option Addr) (l : List Seg) (c : Nat) (s : ByteArray) (w : World) (hw : Segs w w.heap.size A l) (hl : l.length ≤ 1048576) (hn : Short l) (hs : s.size ≤ 1048576) :
    Calls Try.prog 28 #[.slice A l.length c, .string s] w fun e w' => e = .returned (.int .i64 (costB l s)) ∧ Below w.heap.size w w' := by
  have HW : Hid (Segs w w.heap.size A l) := hw
  clear hw
  cases hv : validB l with
  | false =>
    have HF : Hid (costB l s = -1) := if_neg (by rw [hv]; simp)
    have HI : Hid (∀ t, indexB l t = -1) := fun t => if_neg (by rw [hv]; decide)
    by_cases h0 : s.size = 0
    · go_enter Try.func28, Try.ntmps28
      go_wp2
      go_loopw [5, 10] (fun o i wr => o = .int .i64 0 ∧ i = .int .i64 0 ∧ Below w.heap.size w wr) (fun _ _ _ => 0)
      case atStart => exact ⟨rfl, rfl, Below.refl _ _⟩
      case round =>
        obtain ⟨rfl, rfl, hb⟩ := hrel
        go_wp2_with fail
        refine (specTreeValid_any _ _ _ _ ((HW.out.below hb).more hb.size) hl hn).mono ?_
        rw [hv]
        rintro e w1 ⟨rfl, hb1⟩
        have B1 := hb.trans (hb1.mono hb.size)
        clear hb hb1 hv
        go_wp2
        go_ret
        exact ⟨ret_int HF.out.symm, B1⟩
    · have hp : 0 < s.size := by omega
      clear h0
      go_enter Try.func28, Try.ntmps28
      go_wp2
      go_loopw [5, 10] (fun o i wr => o = .int .i64 0 ∧ i = .int .i64 0 ∧ Below w.heap.size w wr) (fun _ _ _ => 0)
      case atStart => exact ⟨rfl, rfl, Below.refl _ _⟩
      case round =>
        obtain ⟨rfl, rfl, hb⟩ := hrel
        go_wp2_with fail
        refine (l1Index_any _ _ _ _ _ ((HW.out.below hb).more hb.size) hl hn).mono ?_
        rw [HI.out]
        rintro e w1 ⟨rfl, hb1⟩
        have B1 := hb.trans (hb1.mono hb.size)
        clear hb hb1 hv
        go_wp2
        go_ret
        exact ⟨ret_int HF.out.symm, B1⟩
  | true =>
    have HV := Lib.hid hv
    have HI : Hid (∀ b, indexB l ⟨#[b]⟩ = bSeek l b) := fun b => if_pos hv
    clear hv
    go_enter Try.func28, Try.ntmps28
    go_wp2
    go_loopw [5, 10] (fun o i wr => ∃ k : Nat, k ≤ s.size ∧ i = .int .i64 k ∧ o = .int .i64 (szs l (namedJs l (s.data.toList.take k))) ∧ Hid (namedOk l (s.data.toList.take k) = true) ∧ Below w.heap.size w wr)
      (fun _ i _ => s.size - (intOf i).toNat)
    case atStart => exact ⟨0, Nat.zero_le _, rfl, rfl, rfl, Below.refl _ _⟩
    case round =>
      obtain ⟨k, hk, rfl, rfl, HK, hb⟩ := hrel
      have hk0 : (0 : Int) ≤ (k : Int) := Int.natCast_nonneg _
      by_cases hlt : k < s.size
      · have hlt' : (k : Int) < (s.size : Int) := by omega
        have h1 : (k : Int) + 1 ≤ (s.size : Int) := by omega
        obtain ⟨t1, t2⟩ := named_take (l := l) s hlt
        have HM : Hid (s[k] ∈ s.data.toList) := by
          show s.data.toList[k]'(by simpa using hlt) ∈ _
          exact List.getElem_mem _
        have HX := Lib.hid (one_byte s hlt)
        have HT1 := Lib.hid t1
        have HT2 := Lib.hid t2
        have hbd := bSeek_bd l s[k]
        clear t1 t2
        generalize s[k] = b at *
        go_wp2_with fail
        refine (l1Index_any _ _ _ _ _ ((HW.out.below hb).more hb.size) hl hn).mono ?_
        rw [HX.out, HI.out]
        rcases hbd with hbd | ⟨hb0, hb1⟩
        · have HF : Hid (costB l s = -1) := if_neg (fun h => by rw [namedOk_bad HM.out (by omega)] at h; cases h.2)
          rw [hbd]
          rintro e w1 ⟨rfl, hb1⟩
          have B1 := hb.trans (hb1.mono hb.size)
          clear hb hb1 hbd
          go_wp2
          go_ret
          exact ⟨ret_int HF.out.symm, B1⟩
        · obtain ⟨j, hj⟩ := Int.eq_ofNat_of_zero_le hb0
          have hjl : j < l.length := by omega
          have HK1 : Hid (namedOk l (s.data.toList.take (k + 1)) = true) := by
            show _ = _
            rw [HT1.out, HK.out, decide_eq_true hb0]
            rfl
          have HS : Hid (szs l (namedJs l (s.data.toList.take (k + 1))) = szs l (namedJs l (s.data.toList.take k)) + sizeAt l j) := by
            show _ = _
            rw [HT2.out, szs_snoc, hj, Int.toNat_natCast]
          have hsb := szs_bd HV.out _ (namedJs_lt HK.out)
          have hln : (namedJs l (s.data.toList.take k)).length ≤ k := by
            unfold namedJs
            rw [List.length_map, List.length_take]
            omega
          have hs0 : 0 ≤ szs l (namedJs l (s.data.toList.take k)) := by omega
          have hs1 : szs l (namedJs l (s.data.toList.take k)) ≤ 103809024 := by omega
          have hz := sizeAt_bd HV.out hjl
          obtain ⟨b', o', rfl, hB, hc⟩ := HW.out (by omega)
          obtain ⟨c0, c1, c2⟩ := hc j l[j] (List.getElem?_eq_getElem hjl)
          clear hc c0 c2 hsb hln
          rw [← hb.cell hB] at c1
          rw [← sizeAt_of hjl] at c1
          rw [hj]
          generalize szs l (namedJs l (s.data.toList.take k)) = S0 at *
          generalize sizeAt l j = z at *
          rintro e w1 ⟨rfl, hb1'⟩
          have B1 := hb.trans (hb1'.mono hb.size)
          have c1' : w1.cell? ⟨b', o' + j * 3 + 1, none⟩ = some (.int .i64 z) := (hb1'.cell (p := ⟨b', o' + j * 3 + 1, none⟩) (Nat.lt_of_lt_of_le hB hb.size)).trans c1
          have hj0 : (0 : Int) ≤ (j : Int) := Int.natCast_nonneg _
          have hj1 : (j : Int) < (l.length : Int) := by omega
          clear hb hb1' c1 hj HX hb0 hb1
          go_wp2
          go_roundw
          case rel => exact ⟨k + 1, by omega, by go_num, by rw [HS.out], HK1, B1⟩
          case measure => simp [intOf]; omega
      · obtain rfl : k = s.size := by omega
        have HF : Hid (costB l s = szs l (namedJs l (s.data.toList.take s.size))) := by
          have e : s.data.toList.take s.size = s.data.toList := List.take_of_length_le (by simp)
          have hk := HK.out
          show _ = _
          rw [e] at hk ⊢
          exact if_pos ⟨HV.out, hk⟩
        have HT : Hid (validB l = true) := HV.out
        go_wp2_with fail
        refine (specTreeValid_any _ _ _ _ ((HW.out.below hb).more hb.size) hl hn).mono ?_
        rw [HT.out]
        rintro e w1 ⟨rfl, hb1⟩
        have B1 := hb.trans (hb1.mono hb.size)
        clear hb hb1
        go_wp2
        go_ret
        exact ⟨ret_int HF.out.symm, B1⟩

theorem loadStr_lt {l : List Seg} {s t : ByteArray} (h : needOk l s t = true) : ∀ j ∈ loadIx l s t, j < l.length := by
  obtain ⟨hv, hT, _, hP, _⟩ := need_states h
  unfold loadIx
  rw [if_pos h]
  exact load_lt (valid_all hv).1.down hT hP
theorem loadStr_len {l : List Seg} {s t : ByteArray} : (loadStr l s t).size ≤ 8 := by
  unfold loadStr
  by_cases h : needOk l s t = true
  · obtain ⟨hv, hT, _, hP, _⟩ := need_states h
    rw [names_size hv (loadStr_lt h)]
    have h1 := (valid_all hv).2.1
    unfold loadIx
    rw [if_pos h]
    have := load_len hT hP
    omega
  · unfold loadIx
    rw [if_neg h]
    exact Nat.zero_le _
theorem loadCost_eq {l : List Seg} {s t : ByteArray} (h : needOk l s t = true) : costB l (loadStr l s t) = loadCostB l s t := by
  obtain ⟨hv, _⟩ := need_states h
  unfold loadCostB loadStr
  rw [if_pos h, costB_names hv (loadStr_lt h)]

set_option maxRecDepth 100000 in
set_option maxHeartbeats 400000 in
theorem specLoadCost_any (A : Option Addr) (l : List Seg) (c : Nat) (s t : ByteArray) (w : World) (hw : Segs w w.heap.size A l) (hl : l.length ≤ 1048576) (hn : Short l) (hs : s.size ≤ 1048576) :
    Calls Try.prog 18 #[.slice A l.length c, .string s, .string t] w fun e w' => e = .returned (.int .i64 (loadCostB l s t)) ∧ Below w.heap.size w w' := by
  have HW : Hid (Segs w w.heap.size A l) := hw
  clear hw
  cases hq : needOk l s t with
  | false =>
    have HE : Hid (loadCostB l s t = -1) := if_neg (by rw [hq]; decide)
    go_enter Try.func18, Try.ntmps18
    go_wp2_with fail
    refine (specNeed_any _ _ _ _ _ _ HW.out hl hn hs).mono ?_
    rw [hq]
    rintro e w1 ⟨rfl, hb1⟩
    clear hq
    go_wp2
    go_ret
    exact ⟨ret_int HE.out.symm, hb1⟩
  | true =>
    have HE := Lib.hid (loadCost_eq hq)
    have hz : (loadStr l s t).size ≤ 1048576 := Nat.le_trans loadStr_len (by decide)
    go_enter Try.func18, Try.ntmps18
    go_wp2_with fail
    refine (specNeed_any _ _ _ _ _ _ HW.out hl hn hs).mono ?_
    rw [hq]
    rintro e w1 ⟨rfl, hb1⟩
    clear hq
    go_wp2_with fail
    refine (specCost_any _ _ _ _ _ ((HW.out.below hb1).more hb1.size) hl hn hz).mono ?_
    rw [HE.out]
    rintro e w2 ⟨rfl, hb2⟩
    have B2 := hb1.trans (hb2.mono hb1.size)
    clear hb1 hb2
    go_wp2
    go_ret
    exact ⟨rfl, B2⟩

end Go.Proofs.Ytcpiojliakgdlaa
/- The model's NeedAll and CheapestNeed. -/
namespace Go.Proofs.Ytcpiojliakgdlaa
open Go.RowKit

end Go.Proofs.Ytcpiojliakgdlaa

/- The model's StatesOf: all states, as texts of the call's own. -/
namespace Go.Proofs.Ytcpiojliakgdlaa
open Go.RowKit

def stTexts (l : List Seg) (k : Nat) : List ByteArray := ⟨#[]⟩ :: (List.range k).map (fun i => namesAt l (rp l i))
theorem stTexts_succ (l : List Seg) (k : Nat) : stTexts l (k + 1) = stTexts l k ++ [namesAt l (rp l k)] := by
  unfold stTexts
  rw [List.range_succ, List.map_append]
  rfl
theorem stTexts_len (l : List Seg) (k : Nat) : (stTexts l k).length = k + 1 := by simp [stTexts]
/-- All states as texts; none of a list that is no tree. -/
def statesB (l : List Seg) : List ByteArray := if validB l = true then stTexts l l.length else []
def StatesPost (w : World) (l : List Seg) (e : Ending) (w' : World) : Prop :=
  ∃ v, e = .returned (.tuple #[v, .bool (validB l)]) ∧ OwnTexts w' w.heap.size v (statesB l) ∧ Below w.heap.size w w'
set_option maxRecDepth 100000 in
set_option maxHeartbeats 1000000 in
theorem specStates_any (A : Option Addr) (l : List Seg) (c : Nat) (w : World) (hw : Segs w w.heap.size A l) (hl : l.length ≤ 1048576) (hn : Short l) :
    Calls Try.prog 31 #[.slice A l.length c] w (StatesPost w l) := by
  have HW : Hid (Segs w w.heap.size A l) := hw
  clear hw
  cases hv : validB l with
  | false =>
    have HS : Hid (statesB l = [] ∧ validB l = false) := ⟨if_neg (by rw [hv]; decide), hv⟩
    go_enter Try.func31, Try.ntmps31
    go_wp2_with fail
    refine (specTreeValid_any _ _ _ _ HW.out hl hn).mono ?_
    rw [hv]
    rintro e w1 ⟨rfl, hb1⟩
    have HB := Lib.hid hb1
    clear hb1 hv
    go_wp2
    refine bodyPost_ret (v := .tuple #[.slice (some ⟨w1.heap.size, 0, none⟩) 0 0, .bool false]) (by simp [results, Try.results31, go_sem]) rfl ?_
    refine ⟨_, by rw [HS.out.2], by rw [HS.out.1]; exact OwnTexts.empty w1 HB.out.size, HB.out.alloc HB.out.size _⟩
  | true =>
    have h8 := (valid_all hv).2.1
    have HD : Hid (Down l l.length) := (valid_all hv).1.down
    have HO : Hid _ := valid_names hv
    have HS : Hid (statesB l = stTexts l l.length ∧ validB l = true) := ⟨if_pos hv, hv⟩
    obtain ⟨i0, hi0, hz0, hz1, hz2⟩ := info_parts info_str
    have I0 := Lib.hid hi0
    have Z0 := Lib.hid hz0
    have Z1 := Lib.hid hz1
    have Z2 := Lib.hid hz2
    clear hi0 hz0 hz1 hz2
    go_enter Try.func31, Try.ntmps31
    go_wp2_with fail
    refine (specTreeValid_any _ _ _ _ HW.out hl hn).mono ?_
    rw [hv]
    rintro e w1 ⟨rfl, hb1⟩
    have HB := Lib.hid hb1
    have HT0 := Lib.hid (OwnTexts.one w1 HB.out.size ⟨#[]⟩)
    clear hb1 hv
    go_wp2
    go_loopw [4, 13] (fun o i wr => ∃ k : Nat, k ≤ l.length ∧ i = .int .i64 k ∧ Hid (OwnTexts wr w.heap.size o (stTexts l k)) ∧ Hid (Below w.heap.size w wr))
      (fun _ i _ => l.length - (intOf i).toNat)
    case atStart => exact ⟨0, Nat.zero_le _, rfl, HT0, HB.out.alloc HB.out.size _⟩
    case round =>
      obtain ⟨k, hk, rfl, HT, HBr⟩ := hrel
      clear HT0
      have hk0 : (0 : Int) ≤ (k : Int) := Int.natCast_nonneg _
      have hlen := stTexts_len l k
      by_cases hlt : k < l.length
      · have hlt' : (k : Int) < (l.length : Int) := by omega
        have HP : Hid (pathOf l k = (rp l k).map fun j : Nat => (j : Int)) := rootPath_chain HD.out (k + 1) k hlt (by omega)
        have HL : Hid (∀ j ∈ rp l k, j < l.length) := rootPath_lt HD.out (k + 1) k hlt
        have HZ : Hid ((rp l k).length ≤ 1048577) := Nat.le_trans (rootPath_len l (k + 1) k) (by omega)
        have HN := Lib.hid (stTexts_succ l k)
        obtain ⟨g, cap, rfl⟩ := HT.out.form (by omega)
        rw [hlen]
        go_wp2_with fail
        refine (l1Path_any _ _ _ _ _ ((HW.out.below HBr.out).more HBr.out.size) hl hlt (HD.out.mono (by omega))).mono ?_
        rw [HP.out]
        rintro e w2 ⟨g2, cap2, rfl, hown2, hb2⟩
        rw [List.length_map] at hown2 ⊢
        have HO2 := Lib.hid hown2
        have HB2 := Lib.hid (HBr.out.trans (hb2.mono HBr.out.size))
        have HT2 := Lib.hid (HT.out.below hb2)
        clear hown2 hb2
        go_wp2_with fail
        refine (l1Names_any _ _ _ _ _ _ _ _ ((HW.out.below HB2.out).more HB2.out.size) hl HO.out HL.out HZ.out HO2.out).mono ?_
        rintro e w3 ⟨rfl, rfl⟩
        generalize namesAt l (rp l k) = nm at *
        have hT3 := HT2.out
        unfold OwnTexts at hT3
        rw [hlen] at hT3
        have HT3 := Lib.hid (hT3.alloc (.cells #[.string nm] 9))
        clear hT3
        go_wp2_with (at_builtin; refine wpList_append_own_at _ rfl _ _ 40 rfl w.heap.size 9 i0 (.string ByteArray.empty) 1 16 Try.underlying40 I0.out Z0.out Z1.out Z2.out rfl (by decide) _ _ _ rfl HT3.out ⟨w2.heap.size, 0, none⟩ 1 1 [.string nm] rfl rfl (cell_one_new _ _ _) (by simp [Value.oneCell']) (by unfold maxLen; omega) (by omega) (by have := HB2.out.size; simp; omega) ?_; intro v4 w4 hown4 hgrow _ _)
        have HB4 : Hid (Below w.heap.size w w4) := (HB2.out.alloc HB2.out.size _).grown hgrow (by have := HB2.out.size; simp; omega) (fun q hq => (World.ownsRow.lt HT3.out q hq).1)
        have HT4 : Hid (OwnTexts w4 w.heap.size v4 (stTexts l (k + 1))) := by
          show OwnTexts w4 w.heap.size v4 (stTexts l (k + 1))
          unfold OwnTexts
          rw [HN.out, List.length_append, hlen, List.map_append]
          exact hown4
        clear hown4 hgrow
        go_roundw
        case rel => exact ⟨k + 1, by omega, by go_num, HT4, HB4⟩
        case measure => simp [intOf]; omega
      · obtain rfl : k = l.length := by omega
        go_wp2
        refine bodyPost_ret (v := .tuple #[u4, .bool true]) (by simp [results, Try.results31, go_sem]) rfl ?_
        exact ⟨_, by rw [HS.out.2], by rw [HS.out.1]; exact HT.out, HBr.out⟩

end Go.Proofs.Ytcpiojliakgdlaa
/- Draws of chapter 4: a text many times; the draws of NeedsOf, TraceValid, Without. All over l1Good's contract. -/
namespace Go.Proofs.Ytcpiojliakgdlaa
open Go.RowKit

end Go.Proofs.Ytcpiojliakgdlaa
/- Draws of chapter 3: a state, and a text of names. -/
namespace Go.Proofs.Ytcpiojliakgdlaa
open Go.RowKit

theorem statesB_few {l : List Seg} (hv : validB l = true) : 1 ≤ (statesB l).length ∧ (statesB l).length ≤ 9 := by
  unfold statesB
  have h8 := (valid_all hv).2.1
  rw [if_pos hv]
  unfold stTexts
  simp
  omega
theorem statesB_short {l : List Seg} (hv : validB l = true) : ∀ x ∈ statesB l, x.size ≤ 9 := by
  intro x hx
  unfold statesB at hx
  rw [if_pos hv] at hx
  have h8 := (valid_all hv).2.1
  unfold stTexts at hx
  rcases List.mem_cons.1 hx with rfl | h
  · exact Nat.zero_le _
  · obtain ⟨i, hi, rfl⟩ := List.mem_map.1 h
    have hi' := List.mem_range.1 hi
    have h1 := namesAt_len (l := l) (fun s hs => by obtain ⟨c, h, -⟩ := nameOk_one (validB_names hv hs); rw [h]; exact Nat.le_refl _) (rp l i)
    have h2 : (rp l i).length ≤ i + 1 := rootPath_len l (i + 1) i
    omega
def oddStates : List ByteArray := [⟨#[66]⟩, ⟨#[66, 65]⟩, ⟨#[65, 65]⟩, ⟨#[65, 88]⟩, ⟨#[65, 66]⟩, ⟨#[65, 66, 67]⟩, ⟨#[]⟩]

set_option maxRecDepth 100000 in
set_option maxHeartbeats 2000000 in
theorem l3State_plain (b c P : Nat) (A : Option Addr) (l : List Seg) (w : World) (h9 : l.length ≤ 9) (hsh : Short l) (hr : Rd w b P) (hP : P ≤ 1000) (hw : Segs w w.heap.size A l) :
    Calls Try.prog 76 #[.pointer (some ⟨b, 0, none⟩), .slice A l.length c] w (TextDrawn b P 2 9 w) := by
  have HS := Lib.hid (specStates_any A l c w hw (by omega) hsh)
  have HR := Lib.hid hr
  have hf := fun h => statesB_few (l := l) h
  have HSB := Lib.hid (fun h => statesB_short (l := l) h)
  clear hw hsh hr
  unfold StatesPost at HS
  generalize statesB l = st at *
  cases hv : validB l with
  | false =>
    rw [hv] at HS
    clear hf HSB
    go_enter Try.func76, Try.ntmps76
    go_wp2_with fail
    refine Calls.mono HS.out ?_
    rintro e w1 ⟨v, rfl, -, hb⟩
    have HO1 : Hid (Only w w1 (· = b)) := (Only.refl w (· = b)).andBelow hb
    have HR1 : Hid (Rd w1 b P) := HR.out.below hb
    have HR2 := Lib.hid (HR1.out.alloc (.cells (oddStates.map Value.string).toArray 9))
    have HX := Lib.hid (texts_new w1 b 9 oddStates HR1.out.lt)
    clear hb HS HR
    go_wp2_with fail
    refine (of_any b P w1.heap.size 0 7 7 (· ∈ oddStates) _ HR2.out (by omega) (by omega) (by omega) HX.out).mono ?_
    rintro e w2 ⟨x, rfl, hx, ho, hr2⟩
    have HX2 : Hid (x.size ≤ 9) := by
      have h : ∀ x ∈ oddStates, x.size ≤ 9 := by decide
      exact h x hx
    have HO2 := Lib.hid (HO1.out.trans ho.fresh)
    have HR3 := Lib.hid hr2
    clear hx ho hr2 HX HR2 HO1 HR1
    go_wp2
    go_ret
    exact ⟨x, rfl, HX2.out, HO2.out, HR3.out.weak (by omega)⟩
  | true =>
    obtain ⟨hf1, hf2⟩ := hf hv
    have HSS := Lib.hid (HSB.out hv)
    rw [hv] at HS
    clear hf HSB hv
    go_enter Try.func76, Try.ntmps76
    go_wp2_with fail
    refine Calls.mono HS.out ?_
    rintro e w1 ⟨v, rfl, ho, hb⟩
    obtain ⟨g, cap, rfl⟩ := ho.form hf1
    have hgl := World.ownsRow.lt ho g rfl
    have HO1 : Hid (Only w w1 (· = b)) := (Only.refl w (· = b)).andBelow hb
    have HR1 : Hid (Rd w1 b P) := HR.out.below hb
    have hbw := HR.out.lt
    have HC : Hid (∀ i (s : ByteArray), st[i]? = some s → w1.cell? ⟨g, i, none⟩ = some (.string s)) := fun i s h => St.textsCell ho h
    have HG : Hid (g ≠ b ∧ g < w1.heap.size) := ⟨by omega, hgl.2⟩
    clear hb HS HR ho hgl hbw
    go_wp2_with fail
    refine (draw_any b P 12 _ HR1.out (by omega) (by omega) (by omega)).mono ?_
    rintro e w2 ⟨n, rfl, ⟨hn0, hn1⟩, ho2, hr2⟩
    have HO2 := Lib.hid (HO1.out.trans ho2)
    have HC2 : Hid (∀ i (s : ByteArray), st[i]? = some s → w2.cell? ⟨g, i, none⟩ = some (.string s)) := fun i s h => (only_cell ho2 HG.out.1 HG.out.2 i).trans (HC.out i s h)
    have HG2 : Hid (g ≠ b ∧ g < w2.heap.size) := ⟨HG.out.1, Nat.lt_of_lt_of_le HG.out.2 ho2.size⟩
    have HR2 := Lib.hid hr2
    clear ho2 hr2 HO1 HR1 HC HG hn1
    by_cases hp : 0 < n
    · go_wp2_with fail
      refine (draw_any b (P + 1) st.length _ HR2.out (by omega) (by omega) (by omega)).mono ?_
      rintro e w3 ⟨v, rfl, ⟨hv0, hv1⟩, ho3, hr3⟩
      obtain ⟨j, rfl⟩ := Int.eq_ofNat_of_zero_le hv0
      have hj : j < st.length := by have := hv1 (by omega); omega
      have hj' : (j : Int) < (st.length : Int) := by omega
      have hj0 : (0 : Int) ≤ (j : Int) := Int.natCast_nonneg _
      have HO3 := Lib.hid (HO2.out.trans ho3)
      have HR3 := Lib.hid hr3
      have cj := (only_cell ho3 HG2.out.1 HG2.out.2 j).trans (HC2.out j _ (List.getElem?_eq_getElem hj))
      have HX2 := Lib.hid (HSS.out _ (List.getElem_mem hj))
      clear ho3 hr3 hv0 hv1 HO2 HR2 HC2 HG2
      generalize st[j] = x at *
      go_wp2
      go_ret
      exact ⟨x, rfl, HX2.out, HO3.out, HR3.out.weak (by omega)⟩
    · have HR4 := Lib.hid (HR2.out.alloc (.cells (oddStates.map Value.string).toArray 9))
      have HX := Lib.hid (texts_new w2 b 9 oddStates HR2.out.lt)
      go_wp2_with fail
      refine (of_any b (P + 1) w2.heap.size 0 7 7 (· ∈ oddStates) _ HR4.out (by omega) (by omega) (by omega) HX.out).mono ?_
      rintro e w3 ⟨x, rfl, hx, ho, hr3⟩
      have HX2 : Hid (x.size ≤ 9) := by
        have h : ∀ x ∈ oddStates, x.size ≤ 9 := by decide
        exact h x hx
      have HO3 := Lib.hid (HO2.out.trans ho.fresh)
      have HR3 := Lib.hid hr3
      clear hx ho hr3 HX HR4 HO2 HR2
      go_wp2
      go_ret
      exact ⟨x, rfl, HX2.out, HO3.out, HR3.out.weak (by omega)⟩

end Go.Proofs.Ytcpiojliakgdlaa
/- Draws of chapter 3: NeedAll's, CostOf's, NeedOf's and CheapestNeed's. All over l1Good's contract. -/
namespace Go.Proofs.Ytcpiojliakgdlaa
open Go.RowKit

/-- What l3Some draws: a tree, a state, a name. -/
def SomeNeed3 (b : Nat) (w : World) (e : Ending) (w' : World) : Prop :=
  ∃ (A : Option Addr) (l : List Seg) (c : Nat) (x y : ByteArray), e = .returned (.tuple #[.slice A (List.length l) c, .string x, .string y]) ∧ TreeHas w' A l c ∧ x.size ≤ 9 ∧ y.size ≤ 2 ∧ Only w w' (· = b)

set_option maxRecDepth 100000 in
set_option maxHeartbeats 1000000 in
theorem l3Some_any (hgood : GoodSaid) (b : Nat) (w : World) (hr : Rd w b 0) :
    Calls Try.prog 59 #[.pointer (some ⟨b, 0, none⟩)] w (SomeNeed3 b w) := by
  have HP := Lib.hid (l1Some_plain b 0 w hr (Nat.zero_le _) (fun w h => hgood b 0 w (Nat.zero_le _) h))
  unfold SomePost at HP
  unfold SomeNeed3
  clear hgood hr
  go_enter Try.func59, Try.ntmps59
  go_wp2_with fail
  refine Calls.mono HP.out ?_
  rintro e w2 ⟨A, l, c, rfl, ⟨hs, hA⟩, hl, hnm, ho, hr2⟩
  have hsh : Short l := fun x hx => by have := hnm x hx; unfold maxLen; omega
  have HST := Lib.hid (l3State_plain b c (0 + 50) A l w2 hl.1 hsh hr2 (by omega) hs)
  unfold TextDrawn at HST
  have HS := Lib.hid hs
  have HA := Lib.hid hA
  have HL := Lib.hid hl
  have HH := Lib.hid hnm
  have HO2 := Lib.hid ho
  clear hs hA hl hnm ho hr2 HP hsh
  go_wp2_with fail
  refine Calls.mono HST.out ?_
  rintro e w3 ⟨x, rfl, hx9, ho3, hr3⟩
  have HS3 : Hid (Segs w3 w3.heap.size A l) := HS.out.farO ho3 HA.out
  have HO3 := Lib.hid (HO2.out.trans ho3)
  have HR3 := Lib.hid hr3
  have HX := Lib.hid hx9
  clear ho3 hx9 hr3 HST HO2 HS
  go_wp2_with fail
  refine (l1Any_any b (0 + 50 + 2) w3 HR3.out (by omega)).mono ?_
  rintro e w4 ⟨y, rfl, hy, ho4, -⟩
  have HT : Hid (TreeHas w4 A l c) := ⟨HS3.out.farO ho4 HA.out, HL.out, HH.out⟩
  have HO4 := Lib.hid (HO3.out.trans ho4)
  have HY := Lib.hid hy
  clear ho4 hy HO3 HS3 HR3
  go_wp2
  refine bodyPost_ret (v := .tuple #[.slice A l.length c, .string x, .string y]) (by simp [results, Try.results59, go_sem]) rfl ?_
  exact ⟨A, l, c, x, y, rfl, HT.out, HX.out, HY.out, HO4.out⟩

set_option maxRecDepth 100000 in
set_option maxHeartbeats 1000000 in
theorem drawNeedOf3 (hgood : GoodSaid) (A0 : Option Addr) (n c0 : Nat) (w : World) (hn : n ≤ c0) (hx : ∀ b, w.heap.size ≤ b → Bytes w b A0 n) :
    Calls Try.prog 12 #[.slice A0 n c0] w fun e w' => ∃ A l c x y, e = .returned (.tuple #[.slice A (List.length l) c, .string x, .string y]) ∧ TreeHas w' A l c ∧ x.size ≤ 9 ∧ y.size ≤ 2 ∧ Below w.heap.size w w' := by
  have HO := Lib.hid (l13Open_any A0 n c0 w hn hx)
  have HP := Lib.hid (fun b w h => l3Some_any hgood b w h)
  unfold SomeNeed3 at HP
  clear hx hgood
  go_enter Try.func12, Try.ntmps12
  go_wp2_with fail
  refine Calls.mono HO.out ?_
  rintro e w1 ⟨b, rfl, hbb, hr, hb1⟩
  have HB1 := Lib.hid hb1
  have HPP := Lib.hid (HP.out b w1 hr)
  clear hr hb1 HP HO
  go_wp2_with fail
  refine Calls.mono HPP.out ?_
  rintro e w2 ⟨A, l, c, x, y, rfl, hT, hx9, hy, ho⟩
  have HT := Lib.hid hT
  have HB2 := Lib.hid (only_below HB1.out hbb ho)
  have HX := Lib.hid hx9
  have HY := Lib.hid hy
  clear hT ho hx9 hy HPP HB1
  go_wp2
  refine bodyPost_ret (v := .tuple #[.slice A l.length c, .string x, .string y]) (by simp [results, Try.results12, go_sem]) rfl ?_
  exact ⟨A, l, c, x, y, rfl, HT.out, HX.out, HY.out, HB2.out⟩

end Go.Proofs.Ytcpiojliakgdlaa
/- All states, and the cheapest need: what the law FnStates asks; plain. -/
namespace Go.Proofs.Ytcpiojliakgdlaa
open Go.RowKit

theorem cut_at3 {l : List Seg} (hv : validB l = true) {js : List Nat} (hj : ∀ j ∈ js, j < l.length) {i : Nat} (hi : i < js.length) : (namesAt l js).extract i (i + 1) = namesAt l [js[i]] := by
  have hm : ∀ j ∈ [js[i]], j < l.length := fun j h => by
    rw [List.mem_singleton.1 h]
    exact hj _ (List.getElem_mem hi)
  apply ByteArray.ext
  apply Array.ext'
  rw [namesAt_map hv _ hm]
  have e4 : ((namesAt l js).extract i (i + 1)).data.toList = (((namesAt l js).data.toList).drop i).take 1 := by
    simp [ByteArray.data_extract]
  rw [e4, namesAt_map hv _ hj, ← List.map_drop, List.drop_eq_getElem_cons hi]
  rfl
end Go.Proofs.Ytcpiojliakgdlaa
/- soHas: one of a text's characters is another text. -/
namespace Go.Proofs.Ytcpiojliakgdlaa
open Go.RowKit

/-- One of the text's characters is 'c'. -/
def hasT (s c : ByteArray) : Bool := decide (∃ i, i < s.size ∧ s.extract i (i + 1) = c)

end Go.Proofs.Ytcpiojliakgdlaa
