/- Joined: Ch Po Cp Ep Cs Er Ga Cm Cq. -/
import Derived.Test.YtdbddockmdkmeaaDoorU05
import Derived.BigQuiet
import Derived.Lib.IndexAny
/- ChildrenOf: the program's and the model's. -/
namespace Go.Proofs.YtdbddockmdkmeaaDoor
open Go.RowKit Go.Shelf

def kidNames (l : List Seg) (i k : Nat) : ByteArray := ⟨((kidsOf l i k).flatMap (nmAt l)).toArray⟩
def kidsStr (l : List Seg) (s : ByteArray) : ByteArray := if indexB l s < 0 then ⟨#[]⟩ else kidNames l (indexB l s).toNat l.length
def hasSeg (l : List Seg) (s : ByteArray) : Bool := decide (0 ≤ indexB l s)
theorem index_valid {l : List Seg} {s : ByteArray} (h : 0 ≤ indexB l s) : validB l = true := by
  unfold indexB at h
  by_cases hv : validB l = true
  · exact hv
  · rw [if_neg hv] at h; omega

set_option maxRecDepth 100000 in
set_option maxHeartbeats 400000 in
theorem childrenOf_any (A : Option Addr) (l : List Seg) (c : Nat) (s : ByteArray) (w : World) (hw : Segs w w.heap.size A l) (hl : l.length ≤ 1048576) (hlc : l.length ≤ c) (hcm : c ≤ 9223372036854775807) (hn : Short l) :
    Calls Tryd.prog 30 #[.slice A l.length c, .string s] w fun e w' => e = .returned (.tuple #[.string (kidsStr l s), .bool (hasSeg l s)]) ∧ Below w.heap.size w w' := by
  have HW : Hid (Segs w w.heap.size A l) := hw
  clear hw
  cases hv : validB l with
  | false =>
    have HF : Hid (kidsStr l s = ⟨#[]⟩ ∧ hasSeg l s = false) := by
      have h1 : indexB l s = -1 := if_neg (by rw [hv]; decide)
      exact ⟨if_pos (by omega), decide_eq_false (by omega)⟩
    go_enter Tryd.func30, Tryd.ntmps30
    go_wp2_with fail
    refine (nodesOf_bad _ _ _ _ HW.out hl hlc hcm hn hv).mono ?_
    rintro e w1 ⟨rfl, hb1⟩
    go_wp2_with fail
    refine (findNode_nil _ _).mono ?_
    rintro e w2 ⟨rfl, rfl⟩
    go_wp2
    go_ret2
    exact ⟨ret_two HF.out.1.symm HF.out.2.symm, hb1⟩
  | true =>
    have HI : Hid (indexB l s = seek l s) := if_pos hv
    have HO : Hid _ := valid_names hv
    have HL : Hid _ := valid_all hv
    rcases seek_bd l s with hi | ⟨h0, hi⟩
    · have HF : Hid (kidsStr l s = ⟨#[]⟩ ∧ hasSeg l s = false) := ⟨if_pos (by have := HI.out; omega), decide_eq_false (by have := HI.out; omega)⟩
      have HP : Hid (∀ nb, foundPtr l nb s = none) := fun nb => if_pos (by omega)
      clear hi
      go_enter Tryd.func30, Tryd.ntmps30
      go_wp2_with fail
      refine (nodesOf_any _ _ _ _ HW.out hl hlc hcm hn hv).mono ?_
      rintro e w1 ⟨g, nb, cv, rfl, hN, hb1⟩
      have HN := Lib.hid hN
      clear hN
      go_wp2_with fail
      refine (findNode_any _ _ _ _ _ _ _ HN.out hl).mono ?_
      rw [HP.out nb]
      rintro e w2 ⟨rfl, rfl⟩
      go_wp2
      go_ret2
      exact ⟨ret_two HF.out.1.symm HF.out.2.symm, hb1⟩
    · obtain ⟨i, hk⟩ := Int.eq_ofNat_of_zero_le h0
      have hkl : i < l.length := by omega
      have HF : Hid (kidsStr l s = kidNames l i l.length ∧ hasSeg l s = true) := by
        refine ⟨?_, decide_eq_true (by have := HI.out; omega)⟩
        unfold kidsStr
        rw [HI.out, if_neg (by omega), hk, Int.toNat_natCast]
      have HP : Hid (∀ nb, foundPtr l nb s = some ⟨nb i, 0, none⟩) := fun nb => by
        unfold foundPtr
        rw [if_neg (by omega), hk, Int.toNat_natCast]
      have HL2 : Hid (l[i]? = some l[i]) := List.getElem?_eq_getElem hkl
      have hr : ∀ j ∈ kidsOf l i l.length, j < l.length := fun j hj => kidsOf_lt hj
      have HR := Lib.hid hr
      clear hk hi h0 hr
      generalize l[i] = x at *
      go_enter Tryd.func30, Tryd.ntmps30
      go_wp2_with fail
      refine (nodesOf_any _ _ _ _ HW.out hl hlc hcm hn hv).mono ?_
      rintro e w1 ⟨g, nb, cv, rfl, hN, hb1⟩
      have HN := Lib.hid hN
      clear hN
      go_wp2_with fail
      refine (findNode_any _ _ _ _ _ _ _ HN.out hl).mono ?_
      rw [HP.out nb]
      rintro e w2 ⟨rfl, rfl⟩
      have n3 : w1.cell? ⟨nb i, 3, none⟩ = some (cv i) := (HN.out.node i _ hkl HL2.out).cell 3
      have hkid := HN.out.kids i hkl
      have HK := Lib.hid hkid
      have hshape : ∃ A' n' c', cv i = .slice A' n' c' := by
        rcases hkid.2 with ⟨h, _⟩ | ⟨g', cap, _, h, _⟩
        · exact ⟨_, _, _, h⟩
        · exact ⟨_, _, _, h⟩
      obtain ⟨A', n', c', hcv⟩ := hshape
      have HCV := Lib.hid hcv
      clear hkid hcv
      rw [HCV.out] at n3
      go_wp2_with fail
      refine (values_any _ _ _ _).mono ?_
      rintro e w2 ⟨rfl, rfl⟩
      go_wp2_with fail
      have hlen8 : (kidsOf l i l.length).length ≤ 1000 := by have := kidsOf_len l i l.length; have := HL.out.2.1; omega
      have hseq := values_stops (l := l) 5 (by omega) w1.heap.size (w1.heap.size + 1) (.slice A' n' c') nb (ixOf l (kidsOf l i l.length) HR.out) (by rw [ixOf_len]; exact hlen8)
        (w1.alloc (.cells #[.slice A' n' c'] 52)) (by simp) (by simp) (by simp) (by
          rcases HK.out.2 with ⟨h1, h2⟩ | ⟨g', cap, cur, h1, h2, h3, h4, h5, h6, h7⟩
          · refine .inl ⟨HCV.out.symm.trans h1, ?_⟩
            apply List.eq_nil_of_length_eq_zero
            rw [ixOf_len]; exact h2
          · refine .inr ⟨g', 0, cap, by rw [ixOf_len]; exact HCV.out.symm.trans h1, Nat.lt_succ_of_lt (Array.getElem?_eq_some_iff.1 h3).1, fun j x hj => ?_⟩
            have e1 := ixOf_at hj
            have hrow : Row w1 g' 57 cur := h3
            rw [Nat.zero_add, (hrow.alloc _).cell, ← Array.getElem?_toList]
            have hjl : j < (kidsOf l i l.length).length := (List.getElem?_eq_some_iff.1 e1).1
            have e2 : (ptrsOf nb (kidsOf l i l.length))[j]? = some (ptrTo (nb x.1)) := by
              unfold ptrsOf
              rw [List.getElem?_map, e1]
              rfl
            rw [← h7, List.getElem?_take, if_pos (by omega)] at e2
            exact e2)
      have HSQ := Lib.hid hseq
      clear hseq
      refine (joinNames_any _ l nb (fun x => ?_) HO.out _ _ _ ?_ (enters_of Tryd.func109 (by kernel_rfl) rfl) (by rw [World.size_alloc]; exact HSQ.out)).mono ?_
      · exact ((HN.out.node x.1 _ x.2 (List.getElem?_eq_getElem x.2)).alloc _).cell 0
      · rw [ixOf_len]; exact hlen8
      · rintro e w3 ⟨⟨xs, rfl, rfl⟩, hb3⟩
        have hb4 : Below w.heap.size w w3 := (hb1.alloc hb1.size _).trans (hb3.mono (by rw [World.size_alloc]; have := hb1.size; omega))
        have HE : Hid (kidsStr l s = ⟨(nameBytes l (ixOf l (kidsOf l i l.length) HR.out)).toArray⟩) := by
          show _ = _
          rw [HF.out.1, nameBytes_ixOf]
          rfl
        clear hb3
        go_wp2
        go_ret2
        exact ⟨ret_two HE.out.symm HF.out.2.symm, hb4⟩

end Go.Proofs.YtdbddockmdkmeaaDoor
/- PathOf: the program's and the model's. -/
namespace Go.Proofs.YtdbddockmdkmeaaDoor
open Go.RowKit Go.Shelf

def namesAt (l : List Seg) (js : List Nat) : ByteArray := ⟨(js.flatMap (nmAt l)).toArray⟩
theorem namesAt_snoc {l : List Seg} (js : List Nat) {j : Nat} (hj : j < l.length) : namesAt l (js ++ [j]) = namesAt l js ++ l[j].name := by
  apply WideShapes.bytes_inj
  show _ = (namesAt l js ++ l[j].name).data.toList
  rw [ByteArray.data_append, Array.toList_append]
  show (js ++ [j]).flatMap (nmAt l) = js.flatMap (nmAt l) ++ _
  rw [List.flatMap_append, List.flatMap_cons, List.flatMap_nil, List.append_nil, nmAt_of hj]
theorem nmAt_len {l : List Seg} (h : ∀ s ∈ l, s.name.size ≤ 1) (j : Nat) : (nmAt l j).length ≤ 1 := by
  unfold nmAt
  cases hj : l[j]? with
  | none => exact Nat.zero_le _
  | some s =>
    have := h s (List.mem_of_getElem? hj)
    simpa using this
theorem namesAt_len {l : List Seg} (h : ∀ s ∈ l, s.name.size ≤ 1) : ∀ js : List Nat, (namesAt l js).size ≤ js.length
  | [] => Nat.le_refl 0
  | j :: js => by
    have h1 := namesAt_len h js
    have h2 := nmAt_len h j
    have e1 : ∀ is : List Nat, (namesAt l is).size = (is.flatMap (nmAt l)).length := fun is => by simp [namesAt, ByteArray.size]
    rw [e1] at h1 ⊢
    rw [List.flatMap_cons, List.length_append, List.length_cons]
    omega

set_option maxRecDepth 100000 in
set_option maxHeartbeats 400000 in
theorem l1Names_any (A : Option Addr) (l : List Seg) (c g cap base : Nat) (js : List Nat) (w : World) (hw : Segs w w.heap.size A l) (hl : l.length ≤ 1048576) (hone : ∀ s ∈ l, s.name.size ≤ 1) (hjs : ∀ j ∈ js, j < l.length) (hjl : js.length ≤ 1048577)
    (hown : w.ownsRow base 3 1 (.slice (some ⟨g, 0, none⟩) js.length cap) js.length ((js.map fun j : Nat => (j : Int)).map (Value.int .i64))) :
    Calls Tryd.prog 78 #[.slice A l.length c, .slice (some ⟨g, 0, none⟩) js.length cap] w fun e w' => e = .returned (.string (namesAt l js)) ∧ w = w' := by
  have HW : Hid (Segs w w.heap.size A l) := hw
  have HO := Lib.hid hown
  have HJ := Lib.hid hjs
  have H1 := Lib.hid hone
  clear hw hown hjs hone
  go_enter Tryd.func78, Tryd.ntmps78
  go_wp2
  go_loop [5, 10] (fun s i => ∃ (k : Nat), k ≤ js.length ∧ i = .int .i64 k ∧ s = .string (namesAt l (js.take k)))
    (fun _ i => js.length - (intOf i).toNat)
  case atStart => exact ⟨0, Nat.zero_le _, rfl, rfl⟩
  case round =>
    obtain ⟨k, hk, rfl, rfl⟩ := hrel
    by_cases hlt : k < js.length
    · have hj := HJ.out js[k] (List.getElem_mem hlt)
      have hc : w.cell? ⟨g, k, none⟩ = some (.int .i64 (js[k] : Int)) := by
        rw [HO.out.cellAt k (by omega)]
        simp [hlt]
      obtain ⟨b, o, rfl, hB, hc'⟩ := HW.out (by omega)
      obtain ⟨c0, c1, c2⟩ := hc' js[k] l[js[k]] (List.getElem?_eq_getElem hj)
      clear hc' c1 c2
      have HQ : Hid (namesAt l (js.take (k + 1)) = namesAt l (js.take k) ++ l[js[k]].name) := by
        show _ = _
        rw [List.take_succ_eq_append_getElem hlt, namesAt_snoc _ hj]
      have hlen : (namesAt l (js.take k)).size ≤ 1048577 := by
        have h1 := namesAt_len H1.out (js.take k)
        rw [List.length_take] at h1
        omega
      have hx1 := H1.out l[js[k]] (List.getElem_mem hj)
      have hj0 : (0 : Int) ≤ (js[k] : Int) := Int.natCast_nonneg _
      have hj1 : (js[k] : Int) < (l.length : Int) := by omega
      generalize l[js[k]] = x at *
      generalize js[k] = j at *
      go_wp2
      go_round
      case rel => exact ⟨k + 1, by omega, by go_num, by rw [HQ.out]⟩
      case measure => simp [intOf]; omega
    · obtain rfl : k = js.length := by omega
      have HE : Hid (namesAt l (js.take js.length) = namesAt l js) := by
        show _ = _
        rw [List.take_length]
      go_wp2
      go_ret
      exact ⟨by rw [← HE.out]; rfl, rfl⟩

def pathStr (l : List Seg) (s : ByteArray) : ByteArray := if indexB l s < 0 then ⟨#[]⟩ else namesAt l (rootPath l ((indexB l s).toNat + 1) (indexB l s).toNat)

end Go.Proofs.YtdbddockmdkmeaaDoor
/- Two paths from the root: what they have in common. No program. -/
namespace Go.Proofs.YtdbddockmdkmeaaDoor
open Go.RowKit

def rp (l : List Seg) (i : Nat) : List Nat := rootPath l (i + 1) i
theorem rootPath_fuel {l : List Seg} (hd : Down l l.length) : ∀ (f g i : Nat), i < l.length → i < f → i < g → rootPath l f i = rootPath l g i
  | 0, _, _, _, h, _ => absurd h (by omega)
  | _ + 1, 0, _, _, _, h => absurd h (by omega)
  | f + 1, g + 1, i, hi, hf, hg => by
    have h1 := hd i hi
    unfold rootPath
    by_cases hp : parAt l i < 0
    · rw [if_pos hp, if_pos hp]
    · rw [if_neg hp, if_neg hp, rootPath_fuel hd f g _ (by omega) (by omega) (by omega)]
theorem rp_root {l : List Seg} {i : Nat} (hp : parAt l i < 0) : rp l i = [i] := by
  unfold rp rootPath
  rw [if_pos hp]; rfl
theorem rp_step {l : List Seg} (hd : Down l l.length) {i p : Nat} (hi : i < l.length) (hp : parAt l i = (p : Int)) : rp l i = rp l p ++ [i] := by
  have h1 := hd i hi
  have h2 : rp l i = (if parAt l i < 0 then [] else rootPath l i (parAt l i).toNat) ++ [i] := rfl
  rw [h2, if_neg (by omega), hp, Int.toNat_natCast]
  unfold rp
  rw [rootPath_fuel hd i (p + 1) p (by omega) (by omega) (by omega)]
theorem par_cases {l : List Seg} (hd : Down l l.length) {i : Nat} (hi : i < l.length) : parAt l i < 0 ∨ ∃ p : Nat, parAt l i = (p : Int) ∧ p < i := by
  have h1 := hd i hi
  by_cases hp : parAt l i < 0
  · exact .inl hp
  · obtain ⟨p, hpe⟩ := Int.eq_ofNat_of_zero_le (show 0 ≤ parAt l i by omega)
    exact .inr ⟨p, hpe, by omega⟩
theorem rp_ind {l : List Seg} (hd : Down l l.length) {C : Nat → Prop} (h0 : ∀ i, i < l.length → parAt l i < 0 → C i) (h1 : ∀ i p, i < l.length → p < i → parAt l i = (p : Int) → C p → C i) : ∀ i, i < l.length → C i := by
  intro i
  induction i using Nat.strongRecOn with
  | ind i ih =>
    intro hi
    rcases par_cases hd hi with hp | ⟨p, hp, hpi⟩
    · exact h0 i hi hp
    · exact h1 i p hi hpi hp (ih p hpi (by omega))
theorem rp_last {l : List Seg} (hd : Down l l.length) (i : Nat) (hi : i < l.length) : ∃ A, rp l i = A ++ [i] := by
  rcases par_cases hd hi with hp | ⟨p, hp, _⟩
  · exact ⟨[], rp_root hp⟩
  · exact ⟨_, rp_step hd hi hp⟩
theorem rp_le {l : List Seg} (hd : Down l l.length) : ∀ i, i < l.length → ∀ v ∈ rp l i, v ≤ i :=
  rp_ind hd (fun i _ hp v hv => by rw [rp_root hp] at hv; simp at hv; omega) (fun i p hi hpi hp ih v hv => by
    rw [rp_step hd hi hp] at hv
    rcases List.mem_append.1 hv with h | h
    · have := ih v h; omega
    · simp at h; omega)
theorem rp_asc {l : List Seg} (hd : Down l l.length) : ∀ i, i < l.length → (rp l i).Pairwise (· < ·) :=
  rp_ind hd (fun i _ hp => by rw [rp_root hp]; exact List.pairwise_singleton _ _) (fun i p hi hpi hp ih => by
    rw [rp_step hd hi hp, List.pairwise_append]
    refine ⟨ih, List.pairwise_singleton _ _, fun a ha b hb => ?_⟩
    have := rp_le hd p (by omega) a ha
    simp at hb
    omega)
theorem rp_prefix {l : List Seg} (hd : Down l l.length) : ∀ i, i < l.length → ∀ v ∈ rp l i, rp l v <+: rp l i :=
  rp_ind hd (fun i _ hp v hv => by
    rw [rp_root hp] at hv
    simp at hv
    subst hv
    exact List.prefix_refl _) (fun i p hi hpi hp ih v hv => by
    have he := rp_step hd hi hp
    rw [he] at hv
    rcases List.mem_append.1 hv with h | h
    · rw [he]; exact (ih v h).trans (List.prefix_append _ _)
    · simp at h
      subst h
      exact List.prefix_refl _)
theorem par_nonneg {l : List Seg} (h : AllOk l l.length) {i : Nat} (hi : i < l.length) (h0 : 0 < i) : 0 ≤ parAt l i := by
  have h1 := h i hi
  rw [segOk_of hi] at h1
  simp only [Bool.and_eq_true] at h1
  have h2 := h1.2
  unfold parOk at h2
  rw [if_neg (by omega)] at h2
  exact (chain_mem (h.down.mono (Nat.le_of_lt hi)) i _ (by omega) _ (List.contains_iff_mem.1 h2)).1
theorem rp_head {l : List Seg} (h : AllOk l l.length) : ∀ i, i < l.length → ∃ A, rp l i = 0 :: A :=
  rp_ind h.down (fun i hi hp => by
    rcases Nat.eq_zero_or_pos i with rfl | h0
    · exact ⟨[], rp_root hp⟩
    · have := par_nonneg h hi h0; omega) (fun i p hi hpi hp ⟨A, hA⟩ => ⟨A ++ [i], by rw [rp_step h.down hi hp, hA]; rfl⟩)

def comLen {α : Type} [DecidableEq α] : List α → List α → Nat
  | a :: xs, b :: ys => if a = b then comLen xs ys + 1 else 0
  | _, _ => 0
theorem comLen_le {α : Type} [DecidableEq α] : ∀ (xs ys : List α), comLen xs ys ≤ xs.length ∧ comLen xs ys ≤ ys.length
  | [], _ => by simp [comLen]
  | _ :: _, [] => by simp [comLen]
  | a :: xs, b :: ys => by
    have h := comLen_le xs ys
    simp only [comLen, List.length_cons]
    split <;> omega

theorem snoc_unique {P A B : List Nat} {v : Nat} (hP : P.Pairwise (· < ·)) (hA : A ++ [v] <+: P) (hB : B ++ [v] <+: P) : A.length = B.length := by
  have hget : ∀ C, C ++ [v] <+: P → ∃ h : C.length < P.length, P[C.length] = v := fun C ⟨r, hr⟩ => by
    have hl : C.length < P.length := by rw [← hr]; simp
    refine ⟨hl, ?_⟩
    have : P[C.length]? = some v := by rw [← hr]; simp
    rw [List.getElem?_eq_getElem hl] at this
    injection this
  obtain ⟨ha, hva⟩ := hget A hA
  obtain ⟨hb, hvb⟩ := hget B hB
  have hp := List.pairwise_iff_getElem.1 hP
  rcases Nat.lt_trichotomy A.length B.length with h | h | h
  · have := hp _ _ ha hb h; omega
  · exact h
  · have := hp _ _ hb ha h; omega

end Go.Proofs.YtdbddockmdkmeaaDoor
/- Where segments lie. No program. -/
namespace Go.Proofs.YtdbddockmdkmeaaDoor
open Go.RowKit

def szs (l : List Seg) (js : List Nat) : Int := (js.map (sizeAt l)).sum
theorem szs_snoc (l : List Seg) (js : List Nat) (j : Nat) : szs l (js ++ [j]) = szs l js + sizeAt l j := by
  unfold szs
  rw [List.map_append, List.sum_append_int]
  simp
def endAt (l : List Seg) (i : Nat) : Int := szs l (rp l i)
def begAt (l : List Seg) (i : Nat) : Int := endAt l i - sizeAt l i
theorem endAt_beg (l : List Seg) (i : Nat) : endAt l i = begAt l i + sizeAt l i := by unfold begAt; omega
theorem begAt_root {l : List Seg} {i : Nat} (hp : parAt l i < 0) : begAt l i = 0 := by
  unfold begAt endAt
  rw [rp_root hp]
  simp [szs]
theorem begAt_step {l : List Seg} (hd : Down l l.length) {i p : Nat} (hi : i < l.length) (hp : parAt l i = (p : Int)) : begAt l i = endAt l p := by
  unfold begAt endAt
  rw [rp_step hd hi hp, szs_snoc]
  omega
theorem sizeAt_bd {l : List Seg} (h : validB l = true) {i : Nat} (hi : i < l.length) : 1 ≤ sizeAt l i ∧ sizeAt l i ≤ 99 := by
  rw [sizeAt_of hi]
  exact valid_size h hi
theorem place_bd {l : List Seg} (h : validB l = true) : ∀ i, i < l.length → 0 ≤ begAt l i ∧ begAt l i < endAt l i ∧ endAt l i ≤ 99 * ((i : Int) + 1) :=
  rp_ind (valid_all h).1.down (fun i hi hp => by
    have h1 := sizeAt_bd h hi
    have h2 := endAt_beg l i
    rw [begAt_root hp] at *
    omega) (fun i p hi hpi hp ih => by
    have h1 := sizeAt_bd h hi
    have h2 := endAt_beg l i
    rw [begAt_step (valid_all h).1.down hi hp] at *
    omega)
/-- Bounds that fit a machine's number. -/
theorem place_small {l : List Seg} (h : validB l = true) {i : Nat} (hi : i < l.length) : 0 ≤ begAt l i ∧ begAt l i < endAt l i ∧ endAt l i ≤ 792 := by
  have h1 := place_bd h i hi
  have h2 := (valid_all h).2.1
  omega

/-- The sizes of all of a list but one. -/
def szsNot (l : List Seg) (i : Nat) : List Nat → Int
  | [] => 0
  | j :: js => (if j = i then 0 else sizeAt l j) + szsNot l i js
theorem szsNot_append (l : List Seg) (i : Nat) : ∀ js ks, szsNot l i (js ++ ks) = szsNot l i js + szsNot l i ks
  | [], ks => by simp [szsNot]
  | j :: js, ks => by
    show (if j = i then 0 else sizeAt l j) + szsNot l i (js ++ ks) = (if j = i then 0 else sizeAt l j) + szsNot l i js + szsNot l i ks
    rw [szsNot_append l i js ks]
    omega
theorem szsNot_bd {l : List Seg} (h : validB l = true) (i : Nat) : ∀ js : List Nat, (∀ j ∈ js, j < l.length) → 0 ≤ szsNot l i js ∧ szsNot l i js ≤ 99 * (js.length : Int)
  | [], _ => by simp [szsNot]
  | j :: js, hj => by
    have h1 := szsNot_bd h i js (fun k hk => hj k (List.mem_cons_of_mem _ hk))
    have h2 := sizeAt_bd h (hj j List.mem_cons_self)
    unfold szsNot
    rw [List.length_cons]
    split <;> omega
theorem szsNot_far (l : List Seg) (i : Nat) : ∀ js : List Nat, (∀ j ∈ js, j ≠ i) → szsNot l i js = szs l js
  | [], _ => rfl
  | j :: js, hj => by
    have h1 := szsNot_far l i js (fun k hk => hj k (List.mem_cons_of_mem _ hk))
    unfold szsNot
    rw [if_neg (hj j List.mem_cons_self), h1]
    simp [szs]
theorem szsNot_rp {l : List Seg} (hd : Down l l.length) {i : Nat} (hi : i < l.length) : szsNot l i (rp l i) = begAt l i := by
  obtain ⟨A, hA⟩ := rp_last hd i hi
  have hlt : ∀ j ∈ A, j ≠ i := fun j hj => by
    have h1 := rp_asc hd i hi
    rw [hA, List.pairwise_append] at h1
    have := h1.2.2 j hj i (by simp)
    omega
  unfold begAt endAt
  rw [hA, szsNot_append, szsNot_far l i A hlt, szs_snoc]
  simp [szsNot]

/-- The greatest end of the first k. -/
def roomTo (l : List Seg) : Nat → Int
  | 0 => 0
  | k + 1 => max (roomTo l k) (endAt l k)
theorem roomTo_bd {l : List Seg} (h : validB l = true) : ∀ k, k ≤ l.length → 0 ≤ roomTo l k ∧ roomTo l k ≤ 792
  | 0, _ => by simp [roomTo]
  | k + 1, hk => by
    have h1 := roomTo_bd h k (by omega)
    have h2 := place_small h (show k < l.length by omega)
    unfold roomTo
    omega
theorem roomTo_le (l : List Seg) : ∀ k j, j < k → endAt l j ≤ roomTo l k
  | 0, _, h => absurd h (by omega)
  | k + 1, j, h => by
    unfold roomTo
    rcases Nat.lt_or_ge j k with h1 | h1
    · have := roomTo_le l k j h1; omega
    · obtain rfl : j = k := by omega
      omega
def roomB (l : List Seg) : Int := if validB l = true then roomTo l l.length else -1
def savedB (l : List Seg) : Int := if validB l = true then sumTo l l.length - roomTo l l.length else -1

/-- The first of the first k + 1 that ends last. -/
def lastIx (l : List Seg) : Nat → Nat
  | 0 => 0
  | k + 1 => if endAt l (lastIx l k) < endAt l (k + 1) then k + 1 else lastIx l k
theorem lastIx_le (l : List Seg) : ∀ k, lastIx l k ≤ k
  | 0 => Nat.le_refl 0
  | k + 1 => by
    have := lastIx_le l k
    unfold lastIx
    split <;> omega
theorem lastIx_room {l : List Seg} (h : validB l = true) : ∀ k, k < l.length → endAt l (lastIx l k) = roomTo l (k + 1)
  | 0, hk => by
    have h1 := place_small h hk
    show endAt l 0 = max 0 (endAt l 0)
    omega
  | k + 1, hk => by
    have h1 := lastIx_room h k (by omega)
    unfold lastIx
    rw [roomTo]
    split <;> omega
theorem lastIx_first {l : List Seg} : ∀ k j, j < lastIx l k → endAt l j < endAt l (lastIx l k)
  | 0, j, hj => absurd hj (by simp [lastIx])
  | k + 1, j, hj => by
    unfold lastIx at hj ⊢
    by_cases hc : endAt l (lastIx l k) < endAt l (k + 1)
    · rw [if_pos hc] at hj ⊢
      rcases Nat.lt_trichotomy j (lastIx l k) with h1 | h1 | h1
      · have := lastIx_first k j h1; omega
      · rw [h1]; exact hc
      · have : endAt l j ≤ endAt l (lastIx l k) := lastIx_max k j (by omega)
        omega
    · rw [if_neg hc] at hj ⊢
      exact lastIx_first k j hj
where lastIx_max : ∀ k j, j ≤ k → endAt l j ≤ endAt l (lastIx l k)
  | 0, j, hj => by
    obtain rfl : j = 0 := by omega
    exact Int.le_refl _
  | k + 1, j, hj => by
    unfold lastIx
    by_cases hc : endAt l (lastIx l k) < endAt l (k + 1)
    · rw [if_pos hc]
      rcases Nat.lt_or_ge j (k + 1) with h1 | h1
      · have := lastIx_max k j (by omega); omega
      · obtain rfl : j = k + 1 := by omega
        exact Int.le_refl _
    · rw [if_neg hc]
      rcases Nat.lt_or_ge j (k + 1) with h1 | h1
      · exact lastIx_max k j (by omega)
      · obtain rfl : j = k + 1 := by omega
        omega

def addrB (l : List Seg) (s : ByteArray) : Int := if indexB l s < 0 then -1 else begAt l (indexB l s).toNat
def endB (l : List Seg) (s : ByteArray) : Int := if indexB l s < 0 then -1 else endAt l (indexB l s).toNat
end Go.Proofs.YtdbddockmdkmeaaDoor
/- spec.CommonOf. -/
namespace Go.Proofs.YtdbddockmdkmeaaDoor
open Go.RowKit

def byteOf (l : List Seg) (v : Nat) : UInt8 := (nmAt l v).headD 0
theorem nmAt_one {l : List Seg} (h : validB l = true) {v : Nat} (hv : v < l.length) : nmAt l v = [byteOf l v] ∧ l[v].name = ⟨#[byteOf l v]⟩ := by
  obtain ⟨c, hc, _⟩ := nameOk_one ((valid_all h).1.name hv (List.getElem?_eq_getElem hv))
  unfold byteOf
  rw [nmAt_of hv, hc]
  exact ⟨rfl, rfl⟩
theorem byteOf_inj {l : List Seg} (h : validB l = true) {u v : Nat} (hu : u < l.length) (hv : v < l.length) (he : byteOf l u = byteOf l v) : u = v := by
  have key : ∀ a b : Nat, a < b → b < l.length → byteOf l a ≠ byteOf l b := fun a b hab hb e => by
    have h1 := (valid_all h).1 b hb
    rw [segOk_of hb] at h1
    simp only [Bool.and_eq_true, Bool.not_eq_true'] at h1
    have h2 := h1.1.1.2
    have h3 : takenB (l.take b) l[b].name = true := by
      unfold takenB
      refine List.any_eq_true.2 ⟨l[a]'(by omega), ?_, sameB_iff.2 ?_⟩
      · exact List.mem_take_iff_getElem.2 ⟨a, by omega, rfl⟩
      · rw [(nmAt_one h (show a < l.length by omega)).2, (nmAt_one h hb).2, e]
    rw [h3] at h2
    cases h2
  rcases Nat.lt_trichotomy u v with h1 | h1 | h1
  · exact absurd he (key u v h1 hv)
  · exact h1
  · exact absurd he.symm (key v u h1 hu)
theorem namesAt_map {l : List Seg} (h : validB l = true) : ∀ js : List Nat, (∀ j ∈ js, j < l.length) → (namesAt l js).data.toList = js.map (byteOf l)
  | [], _ => rfl
  | j :: js, hj => by
    have h1 := namesAt_map h js (fun x hx => hj x (List.mem_cons_of_mem _ hx))
    have e : (namesAt l (j :: js)).data.toList = nmAt l j ++ (namesAt l js).data.toList := by simp [namesAt]
    rw [e, h1, (nmAt_one h (hj j List.mem_cons_self)).1]
    rfl

end Go.Proofs.YtdbddockmdkmeaaDoor

/- spec.CommonOf: the last name of the common beginning of two paths. -/
namespace Go.Proofs.YtdbddockmdkmeaaDoor
open Go.RowKit

/-- The numbers of a found segment's path. -/
def pathIx (l : List Seg) (s : ByteArray) : List Nat := rp l (indexB l s).toNat
def comCount (l : List Seg) (s t : ByteArray) : Nat := comLen (pathIx l s) (pathIx l t)
def comStr (l : List Seg) (s t : ByteArray) : ByteArray := if indexB l s < 0 ∨ indexB l t < 0 then ⟨#[]⟩ else namesAt l [(pathIx l s).getD (comCount l s t - 1) 0]
theorem pathStr_ix {l : List Seg} {s : ByteArray} (h : 0 ≤ indexB l s) : pathStr l s = namesAt l (pathIx l s) := if_neg (by omega)
theorem comCount_pos {l : List Seg} {s t : ByteArray} (h1 : 0 ≤ indexB l s) (h2 : 0 ≤ indexB l t) : 0 < comCount l s t := by
  have ok := (valid_all (index_valid h1)).1
  rcases indexB_bd l s with a1 | ⟨_, a1⟩
  · omega
  rcases indexB_bd l t with a2 | ⟨_, a2⟩
  · omega
  obtain ⟨A, hA⟩ := rp_head ok _ (show (indexB l s).toNat < l.length by omega)
  obtain ⟨B, hB⟩ := rp_head ok _ (show (indexB l t).toNat < l.length by omega)
  unfold comCount pathIx
  rw [hA, hB]
  simp [comLen]
theorem pathStr_size {l : List Seg} {s : ByteArray} (h1 : 0 ≤ indexB l s) : (pathStr l s).size = (pathIx l s).length ∧ (pathIx l s).length ≤ l.length := by
  have hv := index_valid h1
  have ok := (valid_all hv).1
  rcases indexB_bd l s with a1 | ⟨_, a1⟩
  · omega
  have b1 : ∀ j ∈ pathIx l s, j < l.length := fun j hj => by
    have := rp_le ok.down _ (show (indexB l s).toNat < l.length by omega) j hj
    omega
  refine ⟨?_, ?_⟩
  · have e := namesAt_map hv _ b1
    have e2 : (pathStr l s).size = (pathStr l s).data.toList.length := by simp
    rw [e2, pathStr_ix h1, e, List.length_map]
  · have := rootPath_len l ((indexB l s).toNat + 1) (indexB l s).toNat
    unfold pathIx rp
    omega
end Go.Proofs.YtdbddockmdkmeaaDoor

/- What the loop of impl.CommonOf leaves, plain. -/
namespace Go.Proofs.YtdbddockmdkmeaaDoor
open Go.RowKit

def lastNm (l : List Seg) (T : List Nat) : ByteArray := namesAt l T.getLast?.toList
theorem lastNm_snoc {l : List Seg} (T : List Nat) {v : Nat} (hv : v < l.length) : lastNm l (T ++ [v]) = l[v].name := by
  unfold lastNm
  rw [List.getLast?_concat]
  apply ByteArray.ext
  apply Array.ext'
  simp [namesAt, nmAt_of hv]
end Go.Proofs.YtdbddockmdkmeaaDoor
/- Segments that lie together, and over an address. No program. -/
namespace Go.Proofs.YtdbddockmdkmeaaDoor
open Go.RowKit

theorem index_lt {l : List Seg} {s : ByteArray} (h : 0 ≤ indexB l s) : (indexB l s).toNat < l.length := by
  rcases indexB_bd l s with a | ⟨_, a⟩ <;> omega
theorem index_nm {l : List Seg} {s : ByteArray} (h : 0 ≤ indexB l s) : namesAt l [(indexB l s).toNat] = s := by
  have hv := index_valid h
  have h1 : indexB l s = seek l s := if_pos hv
  obtain ⟨x, hx, hn⟩ := seek_name (l := l) (s := s) (j := (indexB l s).toNat) (by omega)
  have hlt := index_lt h
  rw [← List.nil_append [(indexB l s).toNat], namesAt_snoc [] hlt]
  rw [List.getElem?_eq_getElem hlt] at hx
  injection hx with hx
  rw [hx, hn]
  apply ByteArray.ext
  simp [namesAt]
theorem namesAt_one_inj {l : List Seg} (hv : validB l = true) {u v : Nat} (hu : u < l.length) (hv' : v < l.length) (h : namesAt l [u] = namesAt l [v]) : u = v := by
  have h1 := namesAt_map hv [u] (fun j hj => by rw [List.mem_singleton.1 hj]; exact hu)
  have h2 := namesAt_map hv [v] (fun j hj => by rw [List.mem_singleton.1 hj]; exact hv')
  rw [h, h2] at h1
  exact (byteOf_inj hv hv' hu (by simpa using h1)).symm
/-- Whether a segment has an address. -/
def holdsB (l : List Seg) (a : Int) (i : Nat) : Bool := decide (begAt l i ≤ a) && decide (a < endAt l i)
/-- The path of the first segment that ends last. -/
def longStr (l : List Seg) : ByteArray := if validB l = true then namesAt l (rp l (lastIx l (l.length - 1))) else ⟨#[]⟩

end Go.Proofs.YtdbddockmdkmeaaDoor
/- States, needs and what they load: no program. -/
namespace Go.Proofs.YtdbddockmdkmeaaDoor
open Go.RowKit

def IsState (l : List Seg) (T : List Nat) : Prop := T = [] ∨ ∃ j, j < l.length ∧ T = rp l j
theorem IsState.lt {l : List Seg} (hd : Down l l.length) {T : List Nat} (h : IsState l T) : ∀ j ∈ T, j < l.length := by
  rcases h with rfl | ⟨i, hi, rfl⟩
  · intro j hj; cases hj
  · intro j hj
    have := rp_le hd i hi j hj
    omega
theorem seek_nm {l : List Seg} (hv : validB l = true) {i : Nat} (hi : i < l.length) : indexB l (namesAt l [i]) = (i : Int) := by
  have h1 : indexB l (namesAt l [i]) = seek l (namesAt l [i]) := if_pos hv
  have h2 : 0 ≤ indexB l (namesAt l [i]) := by
    rw [h1]
    have key : ∀ (k : Nat), k ≤ i → seek l (namesAt l [i]) = seekFrom (namesAt l [i]) (l.drop k) k ∨ 0 ≤ seek l (namesAt l [i]) := by
      intro k
      induction k with
      | zero => intro _; exact .inl rfl
      | succ k ih =>
        intro hk
        rcases ih (by omega) with h | h
        · rw [seekFrom_drop l _ k (by omega)] at h
          by_cases hs : sameB (l[k]'(by omega)).name (namesAt l [i]) = true
          · rw [if_pos hs] at h; right; omega
          · rw [if_neg hs] at h; exact .inl h
        · exact .inr h
    rcases key i (Nat.le_refl _) with h | h
    · rw [seekFrom_drop l _ i hi, if_pos (sameB_iff.2 ?_)] at h
      · omega
      · rw [(nmAt_one hv hi).2]
        show _ = (⟨([i].flatMap (nmAt l)).toArray⟩ : ByteArray)
        rw [List.flatMap_cons, (nmAt_one hv hi).1]
        rfl
    · exact h
  have h3 := index_nm h2
  have h4 := namesAt_one_inj hv (index_lt h2) hi h3
  omega

end Go.Proofs.YtdbddockmdkmeaaDoor

/- Costs, needs one after the other, the cheapest need: no program. -/
namespace Go.Proofs.YtdbddockmdkmeaaDoor
open Go.RowKit

end Go.Proofs.YtdbddockmdkmeaaDoor
/- impl.CommonOf where both are found. -/
namespace Go.Proofs.YtdbddockmdkmeaaDoor
open Go.RowKit Go.Shelf
attribute [local go_sem] Oper.semAt_some

theorem row_grown {W W' : World} {b : Nat} {t : TypeId} {cs : Array Value} {row : Option Nat} (h : Row W b t cs) (hg : W.grownBy W' row) {B : Nat} (hr : ∀ r, row = some r → B ≤ r ∧ ∃ o : Obj, W.heap[r]? = some o ∧ o.isCells = false) : Row W' b t cs :=
  (hg.block b h.lt (fun he => by
    obtain ⟨_, o, ho, hc⟩ := hr b he.symm
    have h' : W.heap[b]? = some (.cells cs t (0, 0)) := h
    rw [h'] at ho
    injection ho with ho
    subst ho
    cases hc)).trans h
/-- What the loop keeps: the box of the answer, the box of the names. -/
structure Loop2 (w1 : World) (l : List Seg) (R : List Nat) (nm : ByteArray) (b2 : Nat) (T : List Nat) (W : World) : Prop where
  box : Row W w1.heap.size 9 #[.string (lastNm l T)]
  names : Row W b2 9 #[.string nm]
  below : Below w1.heap.size w1 W
  all : ∀ v ∈ T, v ∈ R
theorem Loop2.grown {w1 W W' : World} {l : List Seg} {R T : List Nat} {nm : ByteArray} {b2 B : Nat} {row : Option Nat} (h : Loop2 w1 l R nm b2 T W) (hg : W.grownBy W' row) (hB : w1.heap.size ≤ B) (hr : ∀ r, row = some r → B ≤ r ∧ ∃ o : Obj, W.heap[r]? = some o ∧ o.isCells = false) : Loop2 w1 l R nm b2 T W' :=
  ⟨row_grown h.box hg hr, row_grown h.names hg hr, h.below.grown hg h.below.size (fun k e => by have := (hr k e).1; omega), h.all⟩
theorem Loop2.drew {w1 W : World} {l : List Seg} {R T : List Nat} {nm : ByteArray} {b2 : Nat} (h : Loop2 w1 l R nm b2 T W) : Loop2 w1 l R nm b2 T W.drew := ⟨h.box, h.names, h.below.drew, h.all⟩
theorem Loop2.step {w1 W : World} {l : List Seg} {R T : List Nat} {nm a : ByteArray} {b2 : Nat} (h : Loop2 w1 l R nm b2 T W) (hb2 : w1.heap.size < b2) {v : Nat} (hv : v < l.length) (hR : v ∈ R) (ha : l[v].name = a) :
    Loop2 w1 l R nm b2 (T ++ [v]) (W.setCell ⟨w1.heap.size, 0, none⟩ (.string a)) := by
  refine ⟨?_, Row.far h.names (by show b2 ≠ w1.heap.size; omega) _, h.below.setCell (Nat.le_refl _) _, fun u hu => ?_⟩
  · have := Row.put h.box 0 (.string a)
    rw [lastNm_snoc T hv, ha]
    exact this
  · rcases List.mem_append.1 hu with hu | hu
    · exact h.all u hu
    · rw [List.mem_singleton.1 hu]; exact hR

end Go.Proofs.YtdbddockmdkmeaaDoor
/- Two paths begin alike, as far as what they have in common: no program. -/
namespace Go.Proofs.YtdbddockmdkmeaaDoor
open Go.RowKit

theorem comLen_take {α : Type} [DecidableEq α] : ∀ (xs ys : List α), xs.take (comLen xs ys) = ys.take (comLen xs ys)
  | [], [] => rfl
  | [], _ :: _ => by simp [comLen]
  | _ :: _, [] => by simp [comLen]
  | a :: xs, b :: ys => by
    simp only [comLen]
    by_cases h : a = b
    · rw [if_pos h, h, List.take_succ_cons, List.take_succ_cons, comLen_take xs ys]
    · rw [if_neg h]; rfl
theorem comLen_next {α : Type} [DecidableEq α] : ∀ (xs ys : List α) (h1 : comLen xs ys < xs.length) (h2 : comLen xs ys < ys.length), xs[comLen xs ys]'h1 ≠ ys[comLen xs ys]'h2
  | [], _, h, _ => absurd h (by simp)
  | _ :: _, [], _, h => absurd h (by simp)
  | a :: xs, b :: ys, h1, h2 => by
    by_cases h : a = b
    · have e : comLen (a :: xs) (b :: ys) = comLen xs ys + 1 := by simp only [comLen]; rw [if_pos h]
      have h3 : comLen xs ys < xs.length := by rw [e] at h1; simpa using h1
      have h4 : comLen xs ys < ys.length := by rw [e] at h2; simpa using h2
      have := comLen_next xs ys h3 h4
      simp only [e, List.getElem_cons_succ]
      exact this
    · have e : comLen (a :: xs) (b :: ys) = 0 := by simp only [comLen]; rw [if_neg h]
      simp only [e, List.getElem_cons_zero]
      exact h

/-- What the laws ask of two paths and of what they have in common. -/
structure Alike (l : List Seg) (s t : ByteArray) : Prop where
  x : (pathStr l s).size = (pathIx l s).length
  y : (pathStr l t).size = (pathIx l t).length
  p : (pathStr l (comStr l s t)).size = comCount l s t
  px : (pathStr l s).data.toList.take (comCount l s t) = (pathStr l (comStr l s t)).data.toList
  py : (pathStr l t).data.toList.take (comCount l s t) = (pathStr l (comStr l s t)).data.toList
  next : ∀ (h1 : comCount l s t < (pathStr l s).size) (h2 : comCount l s t < (pathStr l t).size), (pathStr l s)[comCount l s t]'h1 ≠ (pathStr l t)[comCount l s t]'h2
  le : comCount l s t ≤ (pathStr l s).size ∧ comCount l s t ≤ (pathStr l t).size

theorem ix_lt {l : List Seg} {s : ByteArray} (h : 0 ≤ indexB l s) : ∀ j ∈ pathIx l s, j < l.length := fun j hj => by
  have ok := (valid_all (index_valid h)).1
  rcases indexB_bd l s with a1 | ⟨_, a1⟩
  · omega
  have := rp_le ok.down _ (show (indexB l s).toNat < l.length by omega) j hj
  omega
theorem com_at {l : List Seg} {s t : ByteArray} (hs : 0 ≤ indexB l s) (ht : 0 ≤ indexB l t) : ∃ v, v < l.length ∧ comStr l s t = namesAt l [v] ∧ rp l v = (pathIx l s).take (comCount l s t) := by
  have hv := index_valid hs
  have ok := (valid_all hv).1
  have hpos := comCount_pos hs ht
  have hle := (comLen_le (pathIx l s) (pathIx l t)).1
  obtain ⟨n, hn⟩ : ∃ n, comCount l s t = n + 1 := ⟨comCount l s t - 1, by omega⟩
  have hnl : n < (pathIx l s).length := by unfold comCount at hn; omega
  have hvl := ix_lt hs _ (List.getElem_mem hnl)
  refine ⟨(pathIx l s)[n], hvl, ?_, ?_⟩
  · unfold comStr
    rw [if_neg (by omega), hn]
    simp [List.getD, List.getElem?_eq_getElem hnl]
  · rcases indexB_bd l s with a1 | ⟨_, a1⟩
    · omega
    have hi : (indexB l s).toNat < l.length := by omega
    have h1 := rp_prefix ok.down _ hi _ (List.getElem_mem hnl : (pathIx l s)[n] ∈ rp l (indexB l s).toNat)
    obtain ⟨B, hB⟩ := rp_last ok.down _ hvl
    have h2 : (pathIx l s).take n ++ [(pathIx l s)[n]] = (pathIx l s).take (n + 1) := (List.take_append_getElem hnl)
    have h3 : (pathIx l s).take n ++ [(pathIx l s)[n]] <+: rp l (indexB l s).toNat := by
      rw [h2]
      exact List.take_prefix _ _
    have h4 : B ++ [(pathIx l s)[n]] <+: rp l (indexB l s).toNat := by rw [← hB]; exact h1
    have hlen := snoc_unique (rp_asc ok.down _ hi) h3 h4
    rw [hn, ← h2]
    have e : (pathIx l s).take n ++ [(pathIx l s)[n]] = B ++ [(pathIx l s)[n]] := by
      have g1 := List.prefix_iff_eq_take.1 h3
      have g2 := List.prefix_iff_eq_take.1 h4
      rw [g1, g2]
      congr 1
      simp only [List.length_append, hlen]
    rw [hB, e]

theorem alike {l : List Seg} {s t : ByteArray} (hs : 0 ≤ indexB l s) (ht : 0 ≤ indexB l t) : Alike l s t := by
  have hv := index_valid hs
  obtain ⟨v, hvl, hc, hrp⟩ := com_at hs ht
  have hix : indexB l (comStr l s t) = (v : Int) := by rw [hc]; exact seek_nm hv hvl
  have h0 : 0 ≤ indexB l (comStr l s t) := by omega
  have hp : pathIx l (comStr l s t) = (pathIx l s).take (comCount l s t) := by
    show rp l (indexB l (comStr l s t)).toNat = _
    rw [hix, Int.toNat_natCast, hrp]
  have bx := namesAt_map hv _ (ix_lt hs)
  have bt := namesAt_map hv _ (ix_lt ht)
  have bp := namesAt_map hv _ (ix_lt h0)
  rw [← pathStr_ix hs] at bx
  rw [← pathStr_ix ht] at bt
  rw [← pathStr_ix h0, hp] at bp
  have hl := comLen_le (pathIx l s) (pathIx l t)
  have zx := (pathStr_size hs).1
  have zt := (pathStr_size ht).1
  have zp := (pathStr_size h0).1
  refine ⟨zx, zt, ?_, ?_, ?_, fun h1 h2 he => ?_, by unfold comCount; omega⟩
  · rw [zp, hp, List.length_take]
    unfold comCount
    omega
  · rw [bx, bp, ← List.map_take]
  · rw [bt, bp, ← List.map_take]
    unfold comCount
    rw [comLen_take]
  · have g1 : comLen (pathIx l s) (pathIx l t) < (pathIx l s).length := by rw [← zx]; exact h1
    have g2 : comLen (pathIx l s) (pathIx l t) < (pathIx l t).length := by rw [← zt]; exact h2
    have e1 : (pathStr l s)[comCount l s t]'h1 = byteOf l ((pathIx l s)[comLen (pathIx l s) (pathIx l t)]'g1) := by
      have : (pathStr l s).data.toList[comCount l s t]? = some ((pathStr l s)[comCount l s t]'h1) := List.getElem?_eq_getElem (by simpa using h1)
      rw [bx, List.getElem?_map] at this
      unfold comCount at this ⊢
      rw [List.getElem?_eq_getElem g1] at this
      injection this with this
      exact this.symm
    have e2 : (pathStr l t)[comCount l s t]'h2 = byteOf l ((pathIx l t)[comLen (pathIx l s) (pathIx l t)]'g2) := by
      have : (pathStr l t).data.toList[comCount l s t]? = some ((pathStr l t)[comCount l s t]'h2) := List.getElem?_eq_getElem (by simpa using h2)
      rw [bt, List.getElem?_map] at this
      unfold comCount at this ⊢
      rw [List.getElem?_eq_getElem g2] at this
      injection this with this
      exact this.symm
    rw [e1, e2] at he
    exact comLen_next _ _ g1 g2 (byteOf_inj hv (ix_lt hs _ (List.getElem_mem g1)) (ix_lt ht _ (List.getElem_mem g2)) he)

end Go.Proofs.YtdbddockmdkmeaaDoor

/- A path, its children's paths, its ends; a name's size: no program. (For the law FnPathOf.) -/
namespace Go.Proofs.YtdbddockmdkmeaaDoor
open Go.RowKit

theorem namesAt_size {l : List Seg} (hv : validB l = true) (js : List Nat) (hj : ∀ j ∈ js, j < l.length) : (namesAt l js).size = js.length := by
  have e2 : (namesAt l js).size = (namesAt l js).data.toList.length := by simp
  rw [e2, namesAt_map hv _ hj, List.length_map]
theorem cut_at {l : List Seg} (hv : validB l = true) {js : List Nat} (hj : ∀ j ∈ js, j < l.length) {i : Nat} (hi : i < js.length) : (namesAt l js).extract i (i + 1) = namesAt l [js[i]] := by
  have hm : ∀ j ∈ [js[i]], j < l.length := fun j h => by
    rw [List.mem_singleton.1 h]
    exact hj _ (List.getElem_mem hi)
  apply ByteArray.ext
  apply Array.ext'
  rw [namesAt_map hv _ hm]
  have e4 : ((namesAt l js).extract i (i + 1)).data.toList = (((namesAt l js).data.toList).drop i).take 1 := by
    simp [ByteArray.data_extract]
  rw [e4, namesAt_map hv _ hj, ← List.map_drop, List.drop_eq_getElem_cons hi]
  rfl
theorem namesStr_at {l : List Seg} (hv : validB l = true) : namesStr l = namesAt l (List.range l.length) := by
  apply WideShapes.bytes_inj
  have h1 : namesStr l = seenOf l l.length := if_pos hv
  rw [h1, ← range_names l l.length (Nat.le_refl _)]
  rfl
theorem kidsStr_at {l : List Seg} {s : ByteArray} (h : 0 ≤ indexB l s) : kidsStr l s = namesAt l (kidsOf l (indexB l s).toNat l.length) := if_neg (by omega)
theorem names_size {l : List Seg} (hv : validB l = true) : (namesStr l).size = l.length := by
  rw [namesStr_at hv, namesAt_size hv _ (fun j hj => List.mem_range.1 hj), List.length_range]

/-- A call that gives 'v' over a tree and lets all be that is there. -/
def Gives (f : FuncId) (A : Option Addr) (l : List Seg) (args : Array Value) (v : Value) : Prop := ∀ w, Segs w w.heap.size A l → Calls Tryd.prog f args w fun e w' => e = .returned v ∧ Below w.heap.size w w'

end Go.Proofs.YtdbddockmdkmeaaDoor
