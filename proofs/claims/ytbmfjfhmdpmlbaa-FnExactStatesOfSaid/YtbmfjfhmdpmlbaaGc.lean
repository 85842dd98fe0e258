/- The model's side of loading: states and needs. -/
import Derived.Test.YtbmfjfhmdpmlbaaGa
import Derived.Test.YtbmfjfhmdpmlbaaCs
import Derived.BigQuiet
namespace Go.Proofs.Ytbmfjfhmdpmlbaa
open Go.RowKit

theorem ret_three {a b c d : ByteArray} {x y : Bool} (h : a = c) (k : b = d) (e : x = y) : Ending.returned (.tuple #[.string a, .string b, .bool x]) = .returned (.tuple #[.string c, .string d, .bool y]) := by rw [h, k, e]
theorem ret_pair {a b c d : ByteArray} (h : a = c) (k : b = d) : Ending.returned (.tuple #[.string a, .string b]) = .returned (.tuple #[.string c, .string d]) := by rw [h, k]
theorem str_empty {s : ByteArray} (h : s.size = 0) : s = ⟨#[]⟩ := by
  apply ByteArray.ext
  apply Array.eq_empty_of_size_eq_zero
  exact h
theorem toList_ne {s : ByteArray} (h : 0 < s.size) : s.toList ≠ [] := by
  rw [ByteArray.toList_eq]
  intro e
  have h2 : s.data.toList.length = s.size := by simp
  rw [e, List.length_nil] at h2
  omega

set_option maxRecDepth 100000 in
set_option maxHeartbeats 400000 in
theorem specState_any (A : Option Addr) (l : List Seg) (c : Nat) (s : ByteArray) (w : World) (hw : Segs w w.heap.size A l) (hl : l.length ≤ 1048576) (hn : Short l) (hs : s.size ≤ 1048576) :
    Calls Try.prog 70 #[.slice A l.length c, .string s] w fun e w' => e = .returned (.bool (stOk l s)) ∧ Below w.heap.size w w' := by
  have HW : Hid (Segs w w.heap.size A l) := hw
  clear hw
  by_cases h0 : s.size = 0
  · have HF := Lib.hid (stOk_empty (l := l) h0)
    obtain rfl := str_empty h0
    clear h0
    go_enter Try.func70, Try.ntmps70
    go_wp2_with fail
    refine (specTreeValid_any _ _ _ _ HW.out hl hn).mono ?_
    rintro e w1 ⟨rfl, hb1⟩
    go_wp2
    go_ret
    exact ⟨ret_bool HF.out.symm, hb1⟩
  · have hp : 0 < s.size := by omega
    have HF := Lib.hid (stOk_last (l := l) hp)
    have h1 : s.toList ≠ [] := toList_ne hp
    have h2 : (s.toList == []) = false := by simp [h1]
    have h3 : (s.size : Int) - 1 = ((s.size - 1 : Nat) : Int) := by omega
    go_enter Try.func70, Try.ntmps70
    go_wp2_with fail
    refine (specPath_any _ _ _ _ _ HW.out hl hn).mono ?_
    generalize pathStr l (s.extract (s.size - 1) s.size) = p at *
    generalize hasSeg l (s.extract (s.size - 1) s.size) = q at *
    rintro e w1 ⟨rfl, hb1⟩
    clear h1 h2 h3
    cases q with
    | false =>
      go_wp2
      go_ret
      exact ⟨ret_bool (by rw [HF.out]; rfl), hb1⟩
    | true =>
      have HB : Hid (sameB p s = (p.toList == s.toList)) := rfl
      generalize hx : (p.toList == s.toList) = x at *
      go_wp2
      go_ret
      exact ⟨ret_bool (by rw [HF.out, HB.out]; rfl), hb1⟩

/-- The path of a segment, and whether all is valid. -/
theorem needOk_comm (l : List Seg) (s t : ByteArray) : needOk l s t = (hasSeg l t && stOk l s) := by
  unfold needOk
  rw [Bool.and_comm]

set_option maxRecDepth 100000 in
set_option maxHeartbeats 400000 in
theorem l3Path_any (A : Option Addr) (l : List Seg) (c : Nat) (s t : ByteArray) (w : World) (hw : Segs w w.heap.size A l) (hl : l.length ≤ 1048576) (hn : Short l) (hs : s.size ≤ 1048576) :
    Calls Try.prog 120 #[.slice A l.length c, .string s, .string t] w fun e w' => e = .returned (.tuple #[.string (pathStr l t), .bool (needOk l s t)]) ∧ Below w.heap.size w w' := by
  have HW : Hid (Segs w w.heap.size A l) := hw
  have HF := Lib.hid (needOk_comm l s t)
  clear hw
  cases hq : hasSeg l t with
  | false =>
    go_enter Try.func120, Try.ntmps120
    go_wp2_with fail
    refine (specPath_any _ _ _ _ _ HW.out hl hn).mono ?_
    rw [hq]
    rintro e w1 ⟨rfl, hb1⟩
    have HQ := Lib.hid hq
    clear hq
    go_wp2
    go_ret2
    exact ⟨ret_two rfl (by rw [HF.out, HQ.out]; rfl), hb1⟩
  | true =>
    go_enter Try.func120, Try.ntmps120
    go_wp2_with fail
    refine (specPath_any _ _ _ _ _ HW.out hl hn).mono ?_
    rw [hq]
    rintro e w1 ⟨rfl, hb1⟩
    have HQ := Lib.hid hq
    clear hq
    go_wp2_with fail
    refine (specState_any _ _ _ _ _ ((HW.out.below hb1).more hb1.size) hl hn hs).mono ?_
    rintro e w2 ⟨rfl, hb2⟩
    have B2 := hb1.trans (hb2.mono hb1.size)
    clear hb1 hb2
    go_wp2
    go_ret2
    exact ⟨ret_two rfl (by rw [HF.out, HQ.out]; rfl), B2⟩

theorem drop_names {l : List Seg} (hv : validB l = true) {P : List Nat} (hP : ∀ j ∈ P, j < l.length) (n : Nat) : (namesAt l P).extract n (namesAt l P).size = namesAt l (P.drop n) := by
  apply ByteArray.ext
  apply Array.ext'
  have h1 := namesAt_map hv P hP
  have h2 := namesAt_map hv (P.drop n) (fun j hj => hP j (List.mem_of_mem_drop hj))
  rw [h2, List.map_drop, ← h1]
  simp [ByteArray.data_extract]
  exact List.take_of_length_le (by simp)
theorem names_size {l : List Seg} (hv : validB l = true) {P : List Nat} (hP : ∀ j ∈ P, j < l.length) : (namesAt l P).size = P.length := by
  have h1 := congrArg List.length (namesAt_map hv P hP)
  simpa using h1
theorem com_names {l : List Seg} (hv : validB l = true) {T P : List Nat} (hT : ∀ j ∈ T, j < l.length) (hP : ∀ j ∈ P, j < l.length) : comBytes (namesAt l T) (namesAt l P) = comLen T P := by
  unfold comBytes
  rw [namesAt_map hv T hT, namesAt_map hv P hP]
  exact comLen_map _ _ _ (fun a ha b hb he => byteOf_inj hv (hT a ha) (hP b hb) he)

set_option maxRecDepth 100000 in
set_option maxHeartbeats 1000000 in
theorem l3Need_any (l : List Seg) (T P : List Nat) (w : World) (hv : validB l = true) (hT : IsState l T) (hP : IsState l P) :
    Calls Try.prog 121 #[.string (namesAt l T), .string (namesAt l P)] w fun e w' => e = .returned (.tuple #[.string (namesAt l (needT T P)), .string (namesAt l (loadT T P))]) ∧ Below w.heap.size w w' := by
  have hd := (valid_all hv).1.down
  have hlT := hT.lt hd
  have hlP := hP.lt hd
  have h8 := (valid_all hv).2.1
  have hsT := names_size hv hlT
  have hsP := names_size hv hlP
  have hzT := state_len hT
  have hzP := state_len hP
  have HC : Hid (comBytes (namesAt l T) (namesAt l P) = comLen T P) := com_names hv hlT hlP
  have HCM := Lib.hid (fun W => l1Common_any (namesAt l T) (namesAt l P) W (by omega) (by omega))
  have hle := (comLen_le T P).2
  by_cases he : comLen T P = P.length
  · have hsub := (sub_iff hd hT hP).2 he
    have HE : Hid (namesAt l (needT T P) = namesAt l T ∧ namesAt l (loadT T P) = ⟨#[]⟩) := by
      have h1 : needT T P = T := if_pos hsub
      refine ⟨by rw [h1], ?_⟩
      unfold loadT
      rw [h1, less_self]
      rfl
    have ht : ((comLen T P : Int) == ((namesAt l P).size : Int)) = true := by rw [beq_iff_eq]; omega
    generalize namesAt l T = sT at *
    generalize namesAt l P = sP at *
    generalize comLen T P = n at *
    clear hd hlT hlP h8 hsT hzT hzP hle he hsub hsP
    go_enter Try.func121, Try.ntmps121
    go_wp2_with fail
    refine (HCM.out _).mono ?_
    rw [HC.out]
    rintro e w1 ⟨rfl, hb1⟩
    go_wp2
    go_ret2
    exact ⟨ret_pair HE.out.1.symm HE.out.2.symm, hb1⟩
  · have hsub : ¬ ∀ x ∈ P, x ∈ T := fun h => he ((sub_iff hd hT hP).1 h)
    have HE : Hid (namesAt l (needT T P) = namesAt l P ∧ namesAt l (loadT T P) = (namesAt l P).extract (comLen T P) (namesAt l P).size) := by
      have h1 : needT T P = P := if_neg hsub
      refine ⟨by rw [h1], ?_⟩
      unfold loadT
      rw [h1, less_drop hd hP hT, comLen_comm P T, drop_names hv hlP]
    have ht : ((comLen T P : Int) == ((namesAt l P).size : Int)) = false := by rw [beq_eq_false_iff_ne]; omega
    have hb0 : (0 : Int) ≤ (comLen T P : Int) := Int.natCast_nonneg _
    have hb1 : (comLen T P : Int) ≤ ((namesAt l P).size : Int) := by omega
    have hb2 : ((namesAt l P).size : Int) ≤ 8 := by omega
    generalize namesAt l T = sT at *
    generalize namesAt l P = sP at *
    generalize comLen T P = n at *
    clear hd hlT hlP h8 hsT hzT hzP hle he hsub hsP
    go_enter Try.func121, Try.ntmps121
    go_wp2_with fail
    refine (HCM.out _).mono ?_
    rw [HC.out]
    rintro e w1 ⟨rfl, hb1⟩
    go_wp2
    go_quiet (fail)
    go_wp2
    go_ret2
    exact ⟨ret_pair HE.out.1.symm HE.out.2.symm, below_drewN hb1 _⟩

end Go.Proofs.Ytbmfjfhmdpmlbaa

/- The model's NeedOf, DropsOf, CostOf, LoadCost. -/
namespace Go.Proofs.Ytbmfjfhmdpmlbaa
open Go.RowKit

theorem need_states {l : List Seg} {s t : ByteArray} (h : needOk l s t = true) : validB l = true ∧ IsState l (stT l s) ∧ namesAt l (stT l s) = s ∧ IsState l (pathIx l t) ∧ namesAt l (pathIx l t) = pathStr l t := by
  obtain ⟨h1, h2⟩ := needOk_parts h
  obtain ⟨a, b, c⟩ := stT_state h1
  exact ⟨a, b, c, path_state h2, (pathStr_ix h2).symm⟩

def afterStr (l : List Seg) (s t : ByteArray) : ByteArray := namesAt l (afterIx l s t)
def loadStr (l : List Seg) (s t : ByteArray) : ByteArray := namesAt l (loadIx l s t)
def dropStr (l : List Seg) (s t : ByteArray) : ByteArray := namesAt l (dropIx l s t)

set_option maxRecDepth 100000 in
set_option maxHeartbeats 400000 in
theorem specNeed_any (A : Option Addr) (l : List Seg) (c : Nat) (s t : ByteArray) (w : World) (hw : Segs w w.heap.size A l) (hl : l.length ≤ 1048576) (hn : Short l) (hs : s.size ≤ 1048576) :
    Calls Try.prog 51 #[.slice A l.length c, .string s, .string t] w fun e w' => e = .returned (.tuple #[.string (afterStr l s t), .string (loadStr l s t), .bool (needOk l s t)]) ∧ Below w.heap.size w w' := by
  have HW : Hid (Segs w w.heap.size A l) := hw
  clear hw
  cases hq : needOk l s t with
  | false =>
    have HE : Hid (afterStr l s t = ⟨#[]⟩ ∧ loadStr l s t = ⟨#[]⟩) := by
      unfold afterStr loadStr afterIx loadIx
      rw [if_neg (by rw [hq]; decide), if_neg (by rw [hq]; decide)]
      exact ⟨rfl, rfl⟩
    go_enter Try.func51, Try.ntmps51
    go_wp2_with fail
    refine (l3Path_any _ _ _ _ _ _ HW.out hl hn hs).mono ?_
    rw [hq]
    rintro e w1 ⟨rfl, hb1⟩
    clear hq
    go_wp2
    go_ret3
    exact ⟨ret_three HE.out.1.symm HE.out.2.symm rfl, hb1⟩
  | true =>
    obtain ⟨hv, hT, hTn, hP, hPn⟩ := need_states hq
    have HE : Hid (afterStr l s t = namesAt l (needT (stT l s) (pathIx l t)) ∧ loadStr l s t = namesAt l (loadT (stT l s) (pathIx l t))) := by
      unfold afterStr loadStr afterIx loadIx
      rw [if_pos hq, if_pos hq]
      exact ⟨rfl, rfl⟩
    have HC := Lib.hid (fun W => l3Need_any l (stT l s) (pathIx l t) W hv hT hP)
    rw [hTn, hPn] at HC
    clear hTn hPn hT hP hv
    go_enter Try.func51, Try.ntmps51
    go_wp2_with fail
    refine (l3Path_any _ _ _ _ _ _ HW.out hl hn hs).mono ?_
    rw [hq]
    rintro e w1 ⟨rfl, hb1⟩
    clear hq
    go_wp2_with fail
    refine (HC.out _).mono ?_
    rintro e w2 ⟨rfl, hb2⟩
    have B2 := hb1.trans (hb2.mono hb1.size)
    clear hb1 hb2
    go_wp2
    go_ret3
    exact ⟨ret_three HE.out.1.symm HE.out.2.symm rfl, B2⟩

set_option maxRecDepth 100000 in
set_option maxHeartbeats 1000000 in
theorem specDrops_any (A : Option Addr) (l : List Seg) (c : Nat) (s t : ByteArray) (w : World) (hw : Segs w w.heap.size A l) (hl : l.length ≤ 1048576) (hn : Short l) (hs : s.size ≤ 1048576) :
    Calls Try.prog 53 #[.slice A l.length c, .string s, .string t] w fun e w' => e = .returned (.tuple #[.string (dropStr l s t), .bool (needOk l s t)]) ∧ Below w.heap.size w w' := by
  have HW : Hid (Segs w w.heap.size A l) := hw
  clear hw
  cases hq : needOk l s t with
  | false =>
    have HE : Hid (dropStr l s t = ⟨#[]⟩) := by
      show dropStr l s t = _
      unfold dropStr dropIx
      rw [if_neg (by rw [hq]; decide)]
      rfl
    go_enter Try.func53, Try.ntmps53
    go_wp2_with fail
    refine (l3Path_any _ _ _ _ _ _ HW.out hl hn hs).mono ?_
    rw [hq]
    rintro e w1 ⟨rfl, hb1⟩
    clear hq
    go_wp2
    go_ret2
    exact ⟨ret_two HE.out.symm rfl, hb1⟩
  | true =>
    obtain ⟨hv, hT, hTn, hP, hPn⟩ := need_states hq
    have hd := (valid_all hv).1.down
    have hU := needT_state hT hP
    have h8 := (valid_all hv).2.1
    have hzT := state_len hT
    have hzU := state_len hU
    have hsT := names_size hv (hT.lt hd)
    have hsU := names_size hv (hU.lt hd)
    have hle := (comLen_le (stT l s) (needT (stT l s) (pathIx l t))).1
    have HE : Hid (dropStr l s t = (namesAt l (stT l s)).extract (comLen (stT l s) (needT (stT l s) (pathIx l t))) (namesAt l (stT l s)).size) := by
      show dropStr l s t = _
      unfold dropStr dropIx
      rw [if_pos hq]
      unfold dropT
      rw [less_drop hd hT hU, drop_names hv (hT.lt hd)]
    have HC := Lib.hid (fun W => l3Need_any l (stT l s) (pathIx l t) W hv hT hP)
    have HD := Lib.hid (fun W => l1Common_any (namesAt l (stT l s)) (namesAt l (needT (stT l s) (pathIx l t))) W (by omega) (by omega))
    rw [com_names hv (hT.lt hd) (hU.lt hd)] at HD
    have hb0 : (0 : Int) ≤ (comLen (stT l s) (needT (stT l s) (pathIx l t)) : Int) := Int.natCast_nonneg _
    have hb1 : (comLen (stT l s) (needT (stT l s) (pathIx l t)) : Int) ≤ ((namesAt l (stT l s)).size : Int) := by omega
    rw [hTn] at HC HD HE hb1
    rw [hPn] at HC
    clear hTn hPn hsT hsU hzT hzU h8 hU hd hle
    generalize comLen (stT l s) (needT (stT l s) (pathIx l t)) = n at *
    generalize namesAt l (needT (stT l s) (pathIx l t)) = sU at *
    clear hT hP hv
    go_enter Try.func53, Try.ntmps53
    go_wp2_with fail
    refine (l3Path_any _ _ _ _ _ _ HW.out hl hn hs).mono ?_
    rw [hq]
    rintro e w1 ⟨rfl, hb1⟩
    clear hq
    go_wp2_with fail
    refine (HC.out _).mono ?_
    rintro e w2 ⟨rfl, hb2⟩
    have B2 := hb1.trans (hb2.mono hb1.size)
    clear hb1 hb2
    go_wp2_with fail
    refine (HD.out _).mono ?_
    rintro e w3 ⟨rfl, hb3⟩
    have B3 := B2.trans (hb3.mono B2.size)
    clear B2 hb3
    go_wp2
    go_ret2
    exact ⟨ret_two HE.out.symm rfl, B3⟩

theorem named_take {l : List Seg} (s : ByteArray) {k : Nat} (h : k < s.size) : namedOk l (s.data.toList.take (k + 1)) = (namedOk l (s.data.toList.take k) && decide (0 ≤ bSeek l s[k])) ∧ namedJs l (s.data.toList.take (k + 1)) = namedJs l (s.data.toList.take k) ++ [(bSeek l s[k]).toNat] := by
  have e : s.data.toList.take (k + 1) = s.data.toList.take k ++ [s[k]] := by
    rw [List.take_succ_eq_append_getElem (by simpa using h)]
    rfl
  rw [e, namedOk_snoc, namedJs_snoc]
  exact ⟨rfl, rfl⟩
theorem one_byte (s : ByteArray) {k : Nat} (h : k < s.size) : s.extract k (k + 1) = ⟨#[s[k]]⟩ := by
  apply ByteArray.ext
  apply Array.ext'
  have : s.data.toList.drop k = s[k] :: s.data.toList.drop (k + 1) := List.drop_eq_getElem_cons (by simpa using h)
  simp [ByteArray.data_extract, this]
theorem bSeek_bd (l : List Seg) (b : UInt8) : bSeek l b = -1 ∨ (0 ≤ bSeek l b ∧ bSeek l b < l.length) := seek_bd l _

set_option maxRecDepth 100000 in
set_option maxHeartbeats 1000000 in
theorem specCost_any (A : Option Addr) (l : List Seg) (c : Nat) (s : ByteArray) (w : World) (hw : Segs w w.heap.size A l) (hl : l.length ≤ 1048576) (hn : Short l) (hs : s.size ≤ 1048576) :
    Calls Try.prog 62 #[.slice A l.length c, .string s] w fun e w' => e = .returned (.int .i64 (costB l s)) ∧ Below w.heap.size w w' := by
  have HW : Hid (Segs w w.heap.size A l) := hw
  clear hw
  cases hv : validB l with
  | false =>
    have HF : Hid (costB l s = -1) := if_neg (by rw [hv]; simp)
    have HI : Hid (∀ t, indexB l t = -1) := fun t => if_neg (by rw [hv]; decide)
    by_cases h0 : s.size = 0
    · go_enter Try.func62, Try.ntmps62
      go_wp2
      go_loopw [5, 10] (fun o i wr => o = .int .i64 0 ∧ i = .int .i64 0 ∧ Below w.heap.size w wr) (fun _ _ _ => 0)
      case atStart => exact ⟨rfl, rfl, Below.refl _ _⟩
      case round =>
        obtain ⟨rfl, rfl, hb⟩ := hrel
        go_wp2_with fail
        refine (specTreeValid_any _ _ _ _ ((HW.out.below hb).more hb.size) hl hn).mono ?_
        rw [hv]
        rintro e w1 ⟨rfl, hb1⟩
        have B1 := hb.trans (hb1.mono hb.size)
        clear hb hb1 hv
        go_wp2
        go_ret
        exact ⟨ret_int HF.out.symm, B1⟩
    · have hp : 0 < s.size := by omega
      clear h0
      go_enter Try.func62, Try.ntmps62
      go_wp2
      go_loopw [5, 10] (fun o i wr => o = .int .i64 0 ∧ i = .int .i64 0 ∧ Below w.heap.size w wr) (fun _ _ _ => 0)
      case atStart => exact ⟨rfl, rfl, Below.refl _ _⟩
      case round =>
        obtain ⟨rfl, rfl, hb⟩ := hrel
        go_wp2_with fail
        refine (l1Index_any _ _ _ _ _ ((HW.out.below hb).more hb.size) hl hn).mono ?_
        rw [HI.out]
        rintro e w1 ⟨rfl, hb1⟩
        have B1 := hb.trans (hb1.mono hb.size)
        clear hb hb1 hv
        go_wp2
        go_ret
        exact ⟨ret_int HF.out.symm, B1⟩
  | true =>
    have HV := Lib.hid hv
    have HI : Hid (∀ b, indexB l ⟨#[b]⟩ = bSeek l b) := fun b => if_pos hv
    clear hv
    go_enter Try.func62, Try.ntmps62
    go_wp2
    go_loopw [5, 10] (fun o i wr => ∃ k : Nat, k ≤ s.size ∧ i = .int .i64 k ∧ o = .int .i64 (szs l (namedJs l (s.data.toList.take k))) ∧ Hid (namedOk l (s.data.toList.take k) = true) ∧ Below w.heap.size w wr)
      (fun _ i _ => s.size - (intOf i).toNat)
    case atStart => exact ⟨0, Nat.zero_le _, rfl, rfl, rfl, Below.refl _ _⟩
    case round =>
      obtain ⟨k, hk, rfl, rfl, HK, hb⟩ := hrel
      have hk0 : (0 : Int) ≤ (k : Int) := Int.natCast_nonneg _
      by_cases hlt : k < s.size
      · have hlt' : (k : Int) < (s.size : Int) := by omega
        have h1 : (k : Int) + 1 ≤ (s.size : Int) := by omega
        obtain ⟨t1, t2⟩ := named_take (l := l) s hlt
        have HM : Hid (s[k] ∈ s.data.toList) := by
          show s.data.toList[k]'(by simpa using hlt) ∈ _
          exact List.getElem_mem _
        have HX := Lib.hid (one_byte s hlt)
        have HT1 := Lib.hid t1
        have HT2 := Lib.hid t2
        have hbd := bSeek_bd l s[k]
        clear t1 t2
        generalize s[k] = b at *
        go_wp2_with fail
        refine (l1Index_any _ _ _ _ _ ((HW.out.below hb).more hb.size) hl hn).mono ?_
        rw [HX.out, HI.out]
        rcases hbd with hbd | ⟨hb0, hb1⟩
        · have HF : Hid (costB l s = -1) := if_neg (fun h => by rw [namedOk_bad HM.out (by omega)] at h; cases h.2)
          rw [hbd]
          rintro e w1 ⟨rfl, hb1⟩
          have B1 := hb.trans (hb1.mono hb.size)
          clear hb hb1 hbd
          go_wp2
          go_ret
          exact ⟨ret_int HF.out.symm, B1⟩
        · obtain ⟨j, hj⟩ := Int.eq_ofNat_of_zero_le hb0
          have hjl : j < l.length := by omega
          have HK1 : Hid (namedOk l (s.data.toList.take (k + 1)) = true) := by
            show _ = _
            rw [HT1.out, HK.out, decide_eq_true hb0]
            rfl
          have HS : Hid (szs l (namedJs l (s.data.toList.take (k + 1))) = szs l (namedJs l (s.data.toList.take k)) + sizeAt l j) := by
            show _ = _
            rw [HT2.out, szs_snoc, hj, Int.toNat_natCast]
          have hsb := szs_bd HV.out _ (namedJs_lt HK.out)
          have hln : (namedJs l (s.data.toList.take k)).length ≤ k := by
            unfold namedJs
            rw [List.length_map, List.length_take]
            omega
          have hs0 : 0 ≤ szs l (namedJs l (s.data.toList.take k)) := by omega
          have hs1 : szs l (namedJs l (s.data.toList.take k)) ≤ 103809024 := by omega
          have hz := sizeAt_bd HV.out hjl
          obtain ⟨b', o', rfl, hB, hc⟩ := HW.out (by omega)
          obtain ⟨c0, c1, c2⟩ := hc j l[j] (List.getElem?_eq_getElem hjl)
          clear hc c0 c2 hsb hln
          rw [← hb.cell hB] at c1
          rw [← sizeAt_of hjl] at c1
          rw [hj]
          generalize szs l (namedJs l (s.data.toList.take k)) = S0 at *
          generalize sizeAt l j = z at *
          rintro e w1 ⟨rfl, hb1'⟩
          have B1 := hb.trans (hb1'.mono hb.size)
          have c1' : w1.cell? ⟨b', o' + j * 3 + 1, none⟩ = some (.int .i64 z) := (hb1'.cell (p := ⟨b', o' + j * 3 + 1, none⟩) (Nat.lt_of_lt_of_le hB hb.size)).trans c1
          have hj0 : (0 : Int) ≤ (j : Int) := Int.natCast_nonneg _
          have hj1 : (j : Int) < (l.length : Int) := by omega
          clear hb hb1' c1 hj HX hb0 hb1
          go_wp2
          go_roundw
          case rel => exact ⟨k + 1, by omega, by go_num, by rw [HS.out], HK1, B1⟩
          case measure => simp [intOf]; omega
      · obtain rfl : k = s.size := by omega
        have HF : Hid (costB l s = szs l (namedJs l (s.data.toList.take s.size))) := by
          have e : s.data.toList.take s.size = s.data.toList := List.take_of_length_le (by simp)
          have hk := HK.out
          show _ = _
          rw [e] at hk ⊢
          exact if_pos ⟨HV.out, hk⟩
        have HT : Hid (validB l = true) := HV.out
        go_wp2_with fail
        refine (specTreeValid_any _ _ _ _ ((HW.out.below hb).more hb.size) hl hn).mono ?_
        rw [HT.out]
        rintro e w1 ⟨rfl, hb1⟩
        have B1 := hb.trans (hb1.mono hb.size)
        clear hb hb1
        go_wp2
        go_ret
        exact ⟨ret_int HF.out.symm, B1⟩

theorem loadStr_lt {l : List Seg} {s t : ByteArray} (h : needOk l s t = true) : ∀ j ∈ loadIx l s t, j < l.length := by
  obtain ⟨hv, hT, _, hP, _⟩ := need_states h
  unfold loadIx
  rw [if_pos h]
  exact load_lt (valid_all hv).1.down hT hP
theorem loadStr_len {l : List Seg} {s t : ByteArray} : (loadStr l s t).size ≤ 8 := by
  unfold loadStr
  by_cases h : needOk l s t = true
  · obtain ⟨hv, hT, _, hP, _⟩ := need_states h
    rw [names_size hv (loadStr_lt h)]
    have h1 := (valid_all hv).2.1
    unfold loadIx
    rw [if_pos h]
    have := load_len hT hP
    omega
  · unfold loadIx
    rw [if_neg h]
    exact Nat.zero_le _
theorem loadCost_eq {l : List Seg} {s t : ByteArray} (h : needOk l s t = true) : costB l (loadStr l s t) = loadCostB l s t := by
  obtain ⟨hv, _⟩ := need_states h
  unfold loadCostB loadStr
  rw [if_pos h, costB_names hv (loadStr_lt h)]

set_option maxRecDepth 100000 in
set_option maxHeartbeats 400000 in
theorem specLoadCost_any (A : Option Addr) (l : List Seg) (c : Nat) (s t : ByteArray) (w : World) (hw : Segs w w.heap.size A l) (hl : l.length ≤ 1048576) (hn : Short l) (hs : s.size ≤ 1048576) :
    Calls Try.prog 55 #[.slice A l.length c, .string s, .string t] w fun e w' => e = .returned (.int .i64 (loadCostB l s t)) ∧ Below w.heap.size w w' := by
  have HW : Hid (Segs w w.heap.size A l) := hw
  clear hw
  cases hq : needOk l s t with
  | false =>
    have HE : Hid (loadCostB l s t = -1) := if_neg (by rw [hq]; decide)
    go_enter Try.func55, Try.ntmps55
    go_wp2_with fail
    refine (specNeed_any _ _ _ _ _ _ HW.out hl hn hs).mono ?_
    rw [hq]
    rintro e w1 ⟨rfl, hb1⟩
    clear hq
    go_wp2
    go_ret
    exact ⟨ret_int HE.out.symm, hb1⟩
  | true =>
    have HE := Lib.hid (loadCost_eq hq)
    have hz : (loadStr l s t).size ≤ 1048576 := Nat.le_trans loadStr_len (by decide)
    go_enter Try.func55, Try.ntmps55
    go_wp2_with fail
    refine (specNeed_any _ _ _ _ _ _ HW.out hl hn hs).mono ?_
    rw [hq]
    rintro e w1 ⟨rfl, hb1⟩
    clear hq
    go_wp2_with fail
    refine (specCost_any _ _ _ _ _ ((HW.out.below hb1).more hb1.size) hl hn hz).mono ?_
    rw [HE.out]
    rintro e w2 ⟨rfl, hb2⟩
    have B2 := hb1.trans (hb2.mono hb1.size)
    clear hb1 hb2
    go_wp2
    go_ret
    exact ⟨rfl, B2⟩

end Go.Proofs.Ytbmfjfhmdpmlbaa
