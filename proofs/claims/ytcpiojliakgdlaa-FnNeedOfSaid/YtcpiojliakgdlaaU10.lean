/- Joined: Po Cp Ep Cs Er Ga. -/
import Derived.Test.YtcpiojliakgdlaaU09
import Derived.BigQuiet
import Derived.Lib.IndexAny
/- PathOf: the program's and the model's. -/
namespace Go.Proofs.Ytcpiojliakgdlaa
open Go.RowKit Go.Shelf

def namesAt (l : List Seg) (js : List Nat) : ByteArray := ⟨(js.flatMap (nmAt l)).toArray⟩
theorem namesAt_snoc {l : List Seg} (js : List Nat) {j : Nat} (hj : j < l.length) : namesAt l (js ++ [j]) = namesAt l js ++ l[j].name := by
  apply WideShapes.bytes_inj
  show _ = (namesAt l js ++ l[j].name).data.toList
  rw [ByteArray.data_append, Array.toList_append]
  show (js ++ [j]).flatMap (nmAt l) = js.flatMap (nmAt l) ++ _
  rw [List.flatMap_append, List.flatMap_cons, List.flatMap_nil, List.append_nil, nmAt_of hj]
theorem nmAt_len {l : List Seg} (h : ∀ s ∈ l, s.name.size ≤ 1) (j : Nat) : (nmAt l j).length ≤ 1 := by
  unfold nmAt
  cases hj : l[j]? with
  | none => exact Nat.zero_le _
  | some s =>
    have := h s (List.mem_of_getElem? hj)
    simpa using this
theorem namesAt_len {l : List Seg} (h : ∀ s ∈ l, s.name.size ≤ 1) : ∀ js : List Nat, (namesAt l js).size ≤ js.length
  | [] => Nat.le_refl 0
  | j :: js => by
    have h1 := namesAt_len h js
    have h2 := nmAt_len h j
    have e1 : ∀ is : List Nat, (namesAt l is).size = (is.flatMap (nmAt l)).length := fun is => by simp [namesAt, ByteArray.size]
    rw [e1] at h1 ⊢
    rw [List.flatMap_cons, List.length_append, List.length_cons]
    omega

set_option maxRecDepth 100000 in
set_option maxHeartbeats 400000 in
theorem l1Names_any (A : Option Addr) (l : List Seg) (c g cap base : Nat) (js : List Nat) (w : World) (hw : Segs w w.heap.size A l) (hl : l.length ≤ 1048576) (hone : ∀ s ∈ l, s.name.size ≤ 1) (hjs : ∀ j ∈ js, j < l.length) (hjl : js.length ≤ 1048577)
    (hown : w.ownsRow base 3 1 (.slice (some ⟨g, 0, none⟩) js.length cap) js.length ((js.map fun j : Nat => (j : Int)).map (Value.int .i64))) :
    Calls Try.prog 84 #[.slice A l.length c, .slice (some ⟨g, 0, none⟩) js.length cap] w fun e w' => e = .returned (.string (namesAt l js)) ∧ w = w' := by
  have HW : Hid (Segs w w.heap.size A l) := hw
  have HO := Lib.hid hown
  have HJ := Lib.hid hjs
  have H1 := Lib.hid hone
  clear hw hown hjs hone
  go_enter Try.func84, Try.ntmps84
  go_wp2
  go_loop [5, 10] (fun s i => ∃ (k : Nat), k ≤ js.length ∧ i = .int .i64 k ∧ s = .string (namesAt l (js.take k)))
    (fun _ i => js.length - (intOf i).toNat)
  case atStart => exact ⟨0, Nat.zero_le _, rfl, rfl⟩
  case round =>
    obtain ⟨k, hk, rfl, rfl⟩ := hrel
    by_cases hlt : k < js.length
    · have hj := HJ.out js[k] (List.getElem_mem hlt)
      have hc : w.cell? ⟨g, k, none⟩ = some (.int .i64 (js[k] : Int)) := by
        rw [HO.out.cellAt k (by omega)]
        simp [hlt]
      obtain ⟨b, o, rfl, hB, hc'⟩ := HW.out (by omega)
      obtain ⟨c0, c1, c2⟩ := hc' js[k] l[js[k]] (List.getElem?_eq_getElem hj)
      clear hc' c1 c2
      have HQ : Hid (namesAt l (js.take (k + 1)) = namesAt l (js.take k) ++ l[js[k]].name) := by
        show _ = _
        rw [List.take_succ_eq_append_getElem hlt, namesAt_snoc _ hj]
      have hlen : (namesAt l (js.take k)).size ≤ 1048577 := by
        have h1 := namesAt_len H1.out (js.take k)
        rw [List.length_take] at h1
        omega
      have hx1 := H1.out l[js[k]] (List.getElem_mem hj)
      have hj0 : (0 : Int) ≤ (js[k] : Int) := Int.natCast_nonneg _
      have hj1 : (js[k] : Int) < (l.length : Int) := by omega
      generalize l[js[k]] = x at *
      generalize js[k] = j at *
      go_wp2
      go_round
      case rel => exact ⟨k + 1, by omega, by go_num, by rw [HQ.out]⟩
      case measure => simp [intOf]; omega
    · obtain rfl : k = js.length := by omega
      have HE : Hid (namesAt l (js.take js.length) = namesAt l js) := by
        show _ = _
        rw [List.take_length]
      go_wp2
      go_ret
      exact ⟨by rw [← HE.out]; rfl, rfl⟩

def pathStr (l : List Seg) (s : ByteArray) : ByteArray := if indexB l s < 0 then ⟨#[]⟩ else namesAt l (rootPath l ((indexB l s).toNat + 1) (indexB l s).toNat)

set_option maxRecDepth 100000 in
set_option maxHeartbeats 400000 in
theorem specPath_any (A : Option Addr) (l : List Seg) (c : Nat) (s : ByteArray) (w : World) (hw : Segs w w.heap.size A l) (hl : l.length ≤ 1048576) (hn : Short l) :
    Calls Try.prog 87 #[.slice A l.length c, .string s] w fun e w' => e = .returned (.tuple #[.string (pathStr l s), .bool (hasSeg l s)]) ∧ Below w.heap.size w w' := by
  have HW : Hid (Segs w w.heap.size A l) := hw
  clear hw
  rcases indexB_bd l s with hi | ⟨h0, hi⟩
  · have HF : Hid (pathStr l s = ⟨#[]⟩ ∧ hasSeg l s = false) := ⟨if_pos (by omega), decide_eq_false (by omega)⟩
    have HI := Lib.hid hi
    clear hi
    go_enter Try.func87, Try.ntmps87
    go_wp2_with fail
    refine (l1Index_any _ _ _ _ _ HW.out hl hn).mono ?_
    rw [HI.out]
    rintro e w1 ⟨rfl, hb1⟩
    go_wp2
    go_ret2
    exact ⟨ret_two HF.out.1.symm HF.out.2.symm, hb1⟩
  · have HO : Hid _ := valid_names (index_valid h0)
    have HD : Hid (Down l l.length) := (valid_all (index_valid h0)).1.down
    obtain ⟨i, hk⟩ := Int.eq_ofNat_of_zero_le h0
    have HI := Lib.hid hk
    have hil : i < l.length := by omega
    have HF : Hid (pathStr l s = namesAt l (rootPath l (i + 1) i) ∧ hasSeg l s = true) := by
      refine ⟨?_, decide_eq_true h0⟩
      unfold pathStr
      rw [if_neg (by omega), hk, Int.toNat_natCast]
    have HP : Hid (pathOf l i = (rootPath l (i + 1) i).map fun j : Nat => (j : Int)) := rootPath_chain HD.out (i + 1) i hil (by omega)
    have HL : Hid (∀ j ∈ rootPath l (i + 1) i, j < l.length) := rootPath_lt HD.out (i + 1) i hil
    have HZ : Hid ((rootPath l (i + 1) i).length ≤ 1048577) := Nat.le_trans (rootPath_len l (i + 1) i) (by omega)
    clear hk hi h0
    go_enter Try.func87, Try.ntmps87
    go_wp2_with fail
    refine (l1Index_any _ _ _ _ _ HW.out hl hn).mono ?_
    rw [HI.out]
    rintro e w1 ⟨rfl, hb1⟩
    go_wp2_with fail
    refine (l1Path_any _ _ _ _ _ ((HW.out.below hb1).more hb1.size) hl hil (HD.out.mono (by omega))).mono ?_
    rw [HP.out]
    rintro e w2 ⟨g, cap, rfl, hown, hb2⟩
    rw [List.length_map] at hown ⊢
    have HO2 := Lib.hid hown
    have B2 := hb1.trans (hb2.mono hb1.size)
    clear hown hb1 hb2
    go_wp2_with fail
    refine (l1Names_any _ _ _ _ _ _ _ _ ((HW.out.below B2).more B2.size) hl HO.out HL.out HZ.out HO2.out).mono ?_
    rintro e w3 ⟨rfl, rfl⟩
    go_wp2
    go_ret2
    exact ⟨ret_two HF.out.1.symm HF.out.2.symm, B2⟩

set_option maxRecDepth 100000 in
set_option maxHeartbeats 400000 in
theorem pathOf_any (A : Option Addr) (l : List Seg) (c : Nat) (s : ByteArray) (w : World) (hw : Segs w w.heap.size A l) (hl : l.length ≤ 1048576) (hlc : l.length ≤ c) (hcm : c ≤ 9223372036854775807) (hn : Short l) :
    Calls Try.prog 19 #[.slice A l.length c, .string s] w fun e w' => e = .returned (.tuple #[.string (pathStr l s), .bool (hasSeg l s)]) ∧ Below w.heap.size w w' := by
  have HW : Hid (Segs w w.heap.size A l) := hw
  clear hw
  cases hv : validB l with
  | false =>
    have HF : Hid (pathStr l s = ⟨#[]⟩ ∧ hasSeg l s = false) := by
      have h1 : indexB l s = -1 := if_neg (by rw [hv]; decide)
      exact ⟨if_pos (by omega), decide_eq_false (by omega)⟩
    go_enter Try.func19, Try.ntmps19
    go_wp2_with fail
    refine (nodesOf_bad _ _ _ _ HW.out hl hlc hcm hn hv).mono ?_
    rintro e w1 ⟨rfl, hb1⟩
    go_wp2_with fail
    refine (findNode_nil _ _).mono ?_
    rintro e w2 ⟨rfl, rfl⟩
    go_wp2
    go_ret2
    exact ⟨ret_two HF.out.1.symm HF.out.2.symm, hb1⟩
  | true =>
    have HI : Hid (indexB l s = seek l s) := if_pos hv
    have HO : Hid _ := valid_names hv
    have HL : Hid _ := valid_all hv
    rcases seek_bd l s with hi | ⟨h0, hi⟩
    · have HF : Hid (pathStr l s = ⟨#[]⟩ ∧ hasSeg l s = false) := ⟨if_pos (by have := HI.out; omega), decide_eq_false (by have := HI.out; omega)⟩
      have HP : Hid (∀ nb, foundPtr l nb s = none) := fun nb => if_pos (by omega)
      clear hi
      go_enter Try.func19, Try.ntmps19
      go_wp2_with fail
      refine (nodesOf_any _ _ _ _ HW.out hl hlc hcm hn hv).mono ?_
      rintro e w1 ⟨g, nb, cv, rfl, hN, hb1⟩
      have HN := Lib.hid hN
      clear hN
      go_wp2_with fail
      refine (findNode_any _ _ _ _ _ _ _ HN.out hl).mono ?_
      rw [HP.out nb]
      rintro e w2 ⟨rfl, rfl⟩
      go_wp2
      go_ret2
      exact ⟨ret_two HF.out.1.symm HF.out.2.symm, hb1⟩
    · obtain ⟨i, hk⟩ := Int.eq_ofNat_of_zero_le h0
      have hkl : i < l.length := by omega
      have HF : Hid (pathStr l s = namesAt l (rootPath l (i + 1) i) ∧ hasSeg l s = true) := by
        refine ⟨?_, decide_eq_true (by have := HI.out; omega)⟩
        unfold pathStr
        rw [HI.out, if_neg (by omega), hk, Int.toNat_natCast]
      have HP : Hid (∀ nb, foundPtr l nb s = some ⟨nb i, 0, none⟩) := fun nb => by
        unfold foundPtr
        rw [if_neg (by omega), hk, Int.toNat_natCast]
      have HR : Hid ((rootPath l (i + 1) i).length ≤ i + 1) := rootPath_len l (i + 1) i
      clear hk hi h0
      go_enter Try.func19, Try.ntmps19
      go_wp2_with fail
      refine (nodesOf_any _ _ _ _ HW.out hl hlc hcm hn hv).mono ?_
      rintro e w1 ⟨g, nb, cv, rfl, hN, hb1⟩
      have HN := Lib.hid hN
      clear hN
      go_wp2_with fail
      refine (findNode_any _ _ _ _ _ _ _ HN.out hl).mono ?_
      rw [HP.out nb]
      rintro e w2 ⟨rfl, rfl⟩
      go_wp2_with fail
      refine (path_any _ _).mono ?_
      rintro e w2 ⟨rfl, rfl⟩
      go_wp2_with fail
      have hrow : Row (w1.alloc (.cells #[.pointer (some ⟨nb i, 0, none⟩)] 72)) w1.heap.size 72 #[.pointer (some ⟨nb i, 0, none⟩)] := Row.new _ _ _
      have hlk : Linked (w1.alloc (.cells #[.pointer (some ⟨nb i, 0, none⟩)] 72)) (w1.alloc (.cells #[.pointer (some ⟨nb i, 0, none⟩)] 72)).heap.size l nb := fun j hj => by
        have h1 := (HN.out.node j _ hj (List.getElem?_eq_getElem hj)).alloc (.cells #[.pointer (some ⟨nb i, 0, none⟩)] 72)
        exact ⟨h1.lt, h1.cell 2⟩
      have hseq := path1_seq l nb (w1.alloc (.cells #[.pointer (some ⟨nb i, 0, none⟩)] 72)).heap.size ((w1.alloc (.cells #[.pointer (some ⟨nb i, 0, none⟩)] 72)).heap.size + 3) 1000 HL.out.1.down (i + 1) i (by omega) hkl 19 w1.heap.size _
        ⟨.inl (by simp), by decide, hrow⟩ hlk (Nat.le_refl _) (by have := HR.out; have := HL.out.2.1; omega) (by have := HL.out.2.1; omega)
      have HSQ := Lib.hid hseq
      clear hseq hlk hrow
      refine (joinNamesR_any _ l nb (fun x => ?_) HO.out _ _ 1000 (Nat.le_refl _) (enters_of Try.func115 (by kernel_rfl) rfl) HSQ.out).mono ?_
      · exact ((HN.out.node x.1 _ x.2 (List.getElem?_eq_getElem x.2)).alloc _).cell 0
      · rintro e w3 ⟨⟨xs, hxs, rfl⟩, hb3⟩
        have hb4 : Below w.heap.size w w3 := (hb1.alloc hb1.size _).trans (hb3.mono (by rw [World.size_alloc]; have := hb1.size; omega))
        have HE : Hid (pathStr l s = ⟨(nameBytes l xs).toArray⟩) := by
          show _ = _
          rw [HF.out.1]
          unfold namesAt
          rw [← hxs]
          have hm : ∀ ys : List (Ix l), nameBytes l ys = (ys.map (·.1)).flatMap (nmAt l) := fun ys => by
            induction ys with
            | nil => rfl
            | cons y ys ih =>
              show (l[y.1]'y.2).name.data.toList ++ nameBytes l ys = nmAt l y.1 ++ (ys.map (·.1)).flatMap (nmAt l)
              rw [ih, nmAt_of y.2]
          rw [hm]
        clear hb3 hxs
        go_wp2
        go_ret2
        exact ⟨ret_two HE.out.symm HF.out.2.symm, hb4⟩

end Go.Proofs.Ytcpiojliakgdlaa
/- Two paths from the root: what they have in common. No program. -/
namespace Go.Proofs.Ytcpiojliakgdlaa
open Go.RowKit

def rp (l : List Seg) (i : Nat) : List Nat := rootPath l (i + 1) i
theorem rootPath_fuel {l : List Seg} (hd : Down l l.length) : ∀ (f g i : Nat), i < l.length → i < f → i < g → rootPath l f i = rootPath l g i
  | 0, _, _, _, h, _ => absurd h (by omega)
  | _ + 1, 0, _, _, _, h => absurd h (by omega)
  | f + 1, g + 1, i, hi, hf, hg => by
    have h1 := hd i hi
    unfold rootPath
    by_cases hp : parAt l i < 0
    · rw [if_pos hp, if_pos hp]
    · rw [if_neg hp, if_neg hp, rootPath_fuel hd f g _ (by omega) (by omega) (by omega)]
theorem rp_root {l : List Seg} {i : Nat} (hp : parAt l i < 0) : rp l i = [i] := by
  unfold rp rootPath
  rw [if_pos hp]; rfl
theorem rp_step {l : List Seg} (hd : Down l l.length) {i p : Nat} (hi : i < l.length) (hp : parAt l i = (p : Int)) : rp l i = rp l p ++ [i] := by
  have h1 := hd i hi
  have h2 : rp l i = (if parAt l i < 0 then [] else rootPath l i (parAt l i).toNat) ++ [i] := rfl
  rw [h2, if_neg (by omega), hp, Int.toNat_natCast]
  unfold rp
  rw [rootPath_fuel hd i (p + 1) p (by omega) (by omega) (by omega)]
theorem par_cases {l : List Seg} (hd : Down l l.length) {i : Nat} (hi : i < l.length) : parAt l i < 0 ∨ ∃ p : Nat, parAt l i = (p : Int) ∧ p < i := by
  have h1 := hd i hi
  by_cases hp : parAt l i < 0
  · exact .inl hp
  · obtain ⟨p, hpe⟩ := Int.eq_ofNat_of_zero_le (show 0 ≤ parAt l i by omega)
    exact .inr ⟨p, hpe, by omega⟩
theorem rp_ind {l : List Seg} (hd : Down l l.length) {C : Nat → Prop} (h0 : ∀ i, i < l.length → parAt l i < 0 → C i) (h1 : ∀ i p, i < l.length → p < i → parAt l i = (p : Int) → C p → C i) : ∀ i, i < l.length → C i := by
  intro i
  induction i using Nat.strongRecOn with
  | ind i ih =>
    intro hi
    rcases par_cases hd hi with hp | ⟨p, hp, hpi⟩
    · exact h0 i hi hp
    · exact h1 i p hi hpi hp (ih p hpi (by omega))
theorem rp_last {l : List Seg} (hd : Down l l.length) (i : Nat) (hi : i < l.length) : ∃ A, rp l i = A ++ [i] := by
  rcases par_cases hd hi with hp | ⟨p, hp, _⟩
  · exact ⟨[], rp_root hp⟩
  · exact ⟨_, rp_step hd hi hp⟩
theorem rp_le {l : List Seg} (hd : Down l l.length) : ∀ i, i < l.length → ∀ v ∈ rp l i, v ≤ i :=
  rp_ind hd (fun i _ hp v hv => by rw [rp_root hp] at hv; simp at hv; omega) (fun i p hi hpi hp ih v hv => by
    rw [rp_step hd hi hp] at hv
    rcases List.mem_append.1 hv with h | h
    · have := ih v h; omega
    · simp at h; omega)
theorem rp_asc {l : List Seg} (hd : Down l l.length) : ∀ i, i < l.length → (rp l i).Pairwise (· < ·) :=
  rp_ind hd (fun i _ hp => by rw [rp_root hp]; exact List.pairwise_singleton _ _) (fun i p hi hpi hp ih => by
    rw [rp_step hd hi hp, List.pairwise_append]
    refine ⟨ih, List.pairwise_singleton _ _, fun a ha b hb => ?_⟩
    have := rp_le hd p (by omega) a ha
    simp at hb
    omega)
theorem rp_prefix {l : List Seg} (hd : Down l l.length) : ∀ i, i < l.length → ∀ v ∈ rp l i, rp l v <+: rp l i :=
  rp_ind hd (fun i _ hp v hv => by
    rw [rp_root hp] at hv
    simp at hv
    subst hv
    exact List.prefix_refl _) (fun i p hi hpi hp ih v hv => by
    have he := rp_step hd hi hp
    rw [he] at hv
    rcases List.mem_append.1 hv with h | h
    · rw [he]; exact (ih v h).trans (List.prefix_append _ _)
    · simp at h
      subst h
      exact List.prefix_refl _)
def comLen {α : Type} [DecidableEq α] : List α → List α → Nat
  | a :: xs, b :: ys => if a = b then comLen xs ys + 1 else 0
  | _, _ => 0
theorem comLen_map {α β : Type} [DecidableEq α] [DecidableEq β] (f : α → β) : ∀ (xs ys : List α), (∀ a ∈ xs, ∀ b ∈ ys, f a = f b → a = b) → comLen (xs.map f) (ys.map f) = comLen xs ys
  | [], _, _ => by simp [comLen]
  | _ :: _, [], _ => by simp [comLen]
  | a :: xs, b :: ys, h => by
    have h1 := comLen_map f xs ys (fun x hx y hy => h x (List.mem_cons_of_mem _ hx) y (List.mem_cons_of_mem _ hy))
    simp only [List.map_cons, comLen]
    by_cases he : a = b
    · rw [if_pos he, if_pos (by rw [he]), h1]
    · rw [if_neg he, if_neg (fun e => he (h a List.mem_cons_self b List.mem_cons_self e))]
theorem comLen_prefix {α : Type} [DecidableEq α] : ∀ (Q xs ys : List α), Q <+: xs → Q <+: ys → Q.length ≤ comLen xs ys
  | [], _, _, _, _ => Nat.zero_le _
  | q :: Q, xs, ys, ⟨A, hA⟩, ⟨B, hB⟩ => by
    subst hA hB
    simp only [List.cons_append, comLen, List.length_cons, if_true]
    have := comLen_prefix Q (Q ++ A) (Q ++ B) ⟨A, rfl⟩ ⟨B, rfl⟩
    omega
theorem comLen_get {α : Type} [DecidableEq α] : ∀ (xs ys : List α) (k : Nat), k < comLen xs ys → ∃ x, xs[k]? = some x ∧ ys[k]? = some x
  | [], _, _, h => by simp [comLen] at h
  | _ :: _, [], _, h => by simp [comLen] at h
  | a :: xs, b :: ys, k, h => by
    simp only [comLen] at h
    by_cases he : a = b
    · rw [if_pos he] at h
      cases k with
      | zero => exact ⟨a, rfl, by rw [he]; rfl⟩
      | succ k => exact comLen_get xs ys k (by omega)
    · rw [if_neg he] at h; omega
theorem comLen_le {α : Type} [DecidableEq α] : ∀ (xs ys : List α), comLen xs ys ≤ xs.length ∧ comLen xs ys ≤ ys.length
  | [], _ => by simp [comLen]
  | _ :: _, [] => by simp [comLen]
  | a :: xs, b :: ys => by
    have h := comLen_le xs ys
    simp only [comLen, List.length_cons]
    split <;> omega

theorem snoc_unique {P A B : List Nat} {v : Nat} (hP : P.Pairwise (· < ·)) (hA : A ++ [v] <+: P) (hB : B ++ [v] <+: P) : A.length = B.length := by
  have hget : ∀ C, C ++ [v] <+: P → ∃ h : C.length < P.length, P[C.length] = v := fun C ⟨r, hr⟩ => by
    have hl : C.length < P.length := by rw [← hr]; simp
    refine ⟨hl, ?_⟩
    have : P[C.length]? = some v := by rw [← hr]; simp
    rw [List.getElem?_eq_getElem hl] at this
    injection this
  obtain ⟨ha, hva⟩ := hget A hA
  obtain ⟨hb, hvb⟩ := hget B hB
  have hp := List.pairwise_iff_getElem.1 hP
  rcases Nat.lt_trichotomy A.length B.length with h | h | h
  · have := hp _ _ ha hb h; omega
  · exact h
  · have := hp _ _ hb ha h; omega

end Go.Proofs.Ytcpiojliakgdlaa
/- Where segments lie. No program. -/
namespace Go.Proofs.Ytcpiojliakgdlaa
open Go.RowKit

def szs (l : List Seg) (js : List Nat) : Int := (js.map (sizeAt l)).sum
theorem szs_snoc (l : List Seg) (js : List Nat) (j : Nat) : szs l (js ++ [j]) = szs l js + sizeAt l j := by
  unfold szs
  rw [List.map_append, List.sum_append_int]
  simp
def endAt (l : List Seg) (i : Nat) : Int := szs l (rp l i)
def begAt (l : List Seg) (i : Nat) : Int := endAt l i - sizeAt l i
theorem endAt_beg (l : List Seg) (i : Nat) : endAt l i = begAt l i + sizeAt l i := by unfold begAt; omega
theorem begAt_root {l : List Seg} {i : Nat} (hp : parAt l i < 0) : begAt l i = 0 := by
  unfold begAt endAt
  rw [rp_root hp]
  simp [szs]
theorem begAt_step {l : List Seg} (hd : Down l l.length) {i p : Nat} (hi : i < l.length) (hp : parAt l i = (p : Int)) : begAt l i = endAt l p := by
  unfold begAt endAt
  rw [rp_step hd hi hp, szs_snoc]
  omega
theorem sizeAt_bd {l : List Seg} (h : validB l = true) {i : Nat} (hi : i < l.length) : 1 ≤ sizeAt l i ∧ sizeAt l i ≤ 99 := by
  rw [sizeAt_of hi]
  exact valid_size h hi
theorem place_bd {l : List Seg} (h : validB l = true) : ∀ i, i < l.length → 0 ≤ begAt l i ∧ begAt l i < endAt l i ∧ endAt l i ≤ 99 * ((i : Int) + 1) :=
  rp_ind (valid_all h).1.down (fun i hi hp => by
    have h1 := sizeAt_bd h hi
    have h2 := endAt_beg l i
    rw [begAt_root hp] at *
    omega) (fun i p hi hpi hp ih => by
    have h1 := sizeAt_bd h hi
    have h2 := endAt_beg l i
    rw [begAt_step (valid_all h).1.down hi hp] at *
    omega)
/-- Bounds that fit a machine's number. -/
theorem place_small {l : List Seg} (h : validB l = true) {i : Nat} (hi : i < l.length) : 0 ≤ begAt l i ∧ begAt l i < endAt l i ∧ endAt l i ≤ 792 := by
  have h1 := place_bd h i hi
  have h2 := (valid_all h).2.1
  omega

def endB (l : List Seg) (s : ByteArray) : Int := if indexB l s < 0 then -1 else endAt l (indexB l s).toNat
end Go.Proofs.Ytcpiojliakgdlaa
/- spec.CommonOf. -/
namespace Go.Proofs.Ytcpiojliakgdlaa
open Go.RowKit

def byteOf (l : List Seg) (v : Nat) : UInt8 := (nmAt l v).headD 0
theorem nmAt_one {l : List Seg} (h : validB l = true) {v : Nat} (hv : v < l.length) : nmAt l v = [byteOf l v] ∧ l[v].name = ⟨#[byteOf l v]⟩ := by
  obtain ⟨c, hc, _⟩ := nameOk_one ((valid_all h).1.name hv (List.getElem?_eq_getElem hv))
  unfold byteOf
  rw [nmAt_of hv, hc]
  exact ⟨rfl, rfl⟩
theorem byteOf_inj {l : List Seg} (h : validB l = true) {u v : Nat} (hu : u < l.length) (hv : v < l.length) (he : byteOf l u = byteOf l v) : u = v := by
  have key : ∀ a b : Nat, a < b → b < l.length → byteOf l a ≠ byteOf l b := fun a b hab hb e => by
    have h1 := (valid_all h).1 b hb
    rw [segOk_of hb] at h1
    simp only [Bool.and_eq_true, Bool.not_eq_true'] at h1
    have h2 := h1.1.1.2
    have h3 : takenB (l.take b) l[b].name = true := by
      unfold takenB
      refine List.any_eq_true.2 ⟨l[a]'(by omega), ?_, sameB_iff.2 ?_⟩
      · exact List.mem_take_iff_getElem.2 ⟨a, by omega, rfl⟩
      · rw [(nmAt_one h (show a < l.length by omega)).2, (nmAt_one h hb).2, e]
    rw [h3] at h2
    cases h2
  rcases Nat.lt_trichotomy u v with h1 | h1 | h1
  · exact absurd he (key u v h1 hv)
  · exact h1
  · exact absurd he.symm (key v u h1 hu)
theorem namesAt_map {l : List Seg} (h : validB l = true) : ∀ js : List Nat, (∀ j ∈ js, j < l.length) → (namesAt l js).data.toList = js.map (byteOf l)
  | [], _ => rfl
  | j :: js, hj => by
    have h1 := namesAt_map h js (fun x hx => hj x (List.mem_cons_of_mem _ hx))
    have e : (namesAt l (j :: js)).data.toList = nmAt l j ++ (namesAt l js).data.toList := by simp [namesAt]
    rw [e, h1, (nmAt_one h (hj j List.mem_cons_self)).1]
    rfl

def comBytes (x y : ByteArray) : Nat := comLen x.data.toList y.data.toList
theorem comBytes_at {x y : ByteArray} {k : Nat} (h : comBytes x y = k + comLen (x.data.toList.drop k) (y.data.toList.drop k)) (hx : k < x.size) (hy : k < y.size) :
    (x[k] = y[k] → comBytes x y = (k + 1) + comLen (x.data.toList.drop (k + 1)) (y.data.toList.drop (k + 1))) ∧ (x[k] ≠ y[k] → comBytes x y = k) := by
  have e1 : x.data.toList.drop k = x[k] :: x.data.toList.drop (k + 1) := List.drop_eq_getElem_cons (by simpa using hx)
  have e2 : y.data.toList.drop k = y[k] :: y.data.toList.drop (k + 1) := List.drop_eq_getElem_cons (by simpa using hy)
  rw [e1, e2] at h
  simp only [comLen] at h
  refine ⟨fun he => ?_, fun he => ?_⟩
  · rw [if_pos he] at h; omega
  · rw [if_neg he] at h; omega

set_option maxRecDepth 100000 in
set_option maxHeartbeats 1000000 in
theorem l1Common_any (x y : ByteArray) (w : World) (hx : x.size ≤ 1048576) (_ : y.size ≤ 1048576) :
    Calls Try.prog 67 #[.string x, .string y] w fun e w' => e = .returned (.int .i64 (comBytes x y)) ∧ Below w.heap.size w w' := by
  go_enter Try.func67, Try.ntmps67
  go_wp2
  go_loopw [5] (fun i wr => ∃ k : Nat, k ≤ x.size ∧ k ≤ y.size ∧ i = .int .i64 k ∧ Hid (comBytes x y = k + comLen (x.data.toList.drop k) (y.data.toList.drop k)) ∧ Below w.heap.size w wr)
    (fun i _ => x.size - (intOf i).toNat)
  case atStart => exact ⟨0, Nat.zero_le _, Nat.zero_le _, rfl, (Nat.zero_add _).symm, Below.refl _ _⟩
  case round =>
    obtain ⟨k, hkx, hky, rfl, HK, hb⟩ := hrel
    have hk0 : (0 : Int) ≤ (k : Int) := Int.natCast_nonneg _
    by_cases hlx : k < x.size
    · have g1 : decide (k < x.size) = true := decide_eq_true hlx
      have hlx' : (k : Int) < (x.size : Int) := by omega
      by_cases hly : k < y.size
      · have g2 : decide (k < y.size) = true := decide_eq_true hly
        have hly' : (k : Int) < (y.size : Int) := by omega
        obtain ⟨ha, hbn⟩ := comBytes_at HK.out hlx hly
        by_cases he : x[k] = y[k]
        · have HA := Lib.hid (ha he)
          have ht : ((x[k].toNat : Int) == (y[k].toNat : Int)) = true := by rw [he]; simp
          clear ha hbn he HK
          go_wp2_with fail
          go_quiet (fail)
          go_wp2
          go_roundw
          case rel => exact ⟨k + 1, by omega, by omega, by go_num, HA, below_drewN hb _⟩
          case measure => simp [intOf]; omega
        · have HA := Lib.hid (hbn he)
          have ht : ((x[k].toNat : Int) == (y[k].toNat : Int)) = false := by
            rw [beq_eq_false_iff_ne]
            exact fun e => he (UInt8.toNat_inj.1 (by omega))
          clear ha hbn he HK
          go_wp2_with fail
          go_quiet (fail)
          go_wp2
          go_ret
          exact ⟨ret_int (by rw [HA.out]), below_drewN hb _⟩
      · have g2 : decide (k < y.size) = false := decide_eq_false hly
        have HA : Hid (comBytes x y = k) := by
          show _ = _
          rw [HK.out, List.drop_of_length_le (l := y.data.toList) (by simp; omega)]
          cases x.data.toList.drop k <;> simp [comLen]
        clear HK
        go_wp2_with fail
        go_quiet (fail)
        go_wp2
        go_ret
        exact ⟨ret_int (by rw [HA.out]), below_drewN hb _⟩
    · have g1 : decide (k < x.size) = false := decide_eq_false hlx
      have HA : Hid (comBytes x y = k) := by
        show _ = _
        rw [HK.out, List.drop_of_length_le (l := x.data.toList) (by simp; omega)]
        simp [comLen]
      clear HK
      go_wp2_with fail
      go_quiet (fail)
      go_wp2
      go_ret
      exact ⟨ret_int (by rw [HA.out]), below_drewN hb _⟩

end Go.Proofs.Ytcpiojliakgdlaa

/- spec.CommonOf: the last name of the common beginning of two paths. -/
namespace Go.Proofs.Ytcpiojliakgdlaa
open Go.RowKit

/-- The numbers of a found segment's path. -/
def pathIx (l : List Seg) (s : ByteArray) : List Nat := rp l (indexB l s).toNat
theorem pathStr_ix {l : List Seg} {s : ByteArray} (h : 0 ≤ indexB l s) : pathStr l s = namesAt l (pathIx l s) := if_neg (by omega)
end Go.Proofs.Ytcpiojliakgdlaa

/- What the loop of impl.CommonOf leaves, plain. -/
namespace Go.Proofs.Ytcpiojliakgdlaa
open Go.RowKit

def lastNm (l : List Seg) (T : List Nat) : ByteArray := namesAt l T.getLast?.toList
theorem lastNm_snoc {l : List Seg} (T : List Nat) {v : Nat} (hv : v < l.length) : lastNm l (T ++ [v]) = l[v].name := by
  unfold lastNm
  rw [List.getLast?_concat]
  apply ByteArray.ext
  apply Array.ext'
  simp [namesAt, nmAt_of hv]
end Go.Proofs.Ytcpiojliakgdlaa
/- Segments that lie together, and over an address. No program. -/
namespace Go.Proofs.Ytcpiojliakgdlaa
open Go.RowKit

theorem index_lt {l : List Seg} {s : ByteArray} (h : 0 ≤ indexB l s) : (indexB l s).toNat < l.length := by
  rcases indexB_bd l s with a | ⟨_, a⟩ <;> omega
theorem index_nm {l : List Seg} {s : ByteArray} (h : 0 ≤ indexB l s) : namesAt l [(indexB l s).toNat] = s := by
  have hv := index_valid h
  have h1 : indexB l s = seek l s := if_pos hv
  obtain ⟨x, hx, hn⟩ := seek_name (l := l) (s := s) (j := (indexB l s).toNat) (by omega)
  have hlt := index_lt h
  rw [← List.nil_append [(indexB l s).toNat], namesAt_snoc [] hlt]
  rw [List.getElem?_eq_getElem hlt] at hx
  injection hx with hx
  rw [hx, hn]
  apply ByteArray.ext
  simp [namesAt]
theorem namesAt_one_inj {l : List Seg} (hv : validB l = true) {u v : Nat} (hu : u < l.length) (hv' : v < l.length) (h : namesAt l [u] = namesAt l [v]) : u = v := by
  have h1 := namesAt_map hv [u] (fun j hj => by rw [List.mem_singleton.1 hj]; exact hu)
  have h2 := namesAt_map hv [v] (fun j hj => by rw [List.mem_singleton.1 hj]; exact hv')
  rw [h, h2] at h1
  exact (byteOf_inj hv hv' hu (by simpa using h1)).symm
end Go.Proofs.Ytcpiojliakgdlaa
/- States, needs and what they load: no program. -/
namespace Go.Proofs.Ytcpiojliakgdlaa
open Go.RowKit

/-- All states of a tree: none is loaded, or a path. -/
def statesIx (l : List Seg) : List (List Nat) := [] :: (List.range l.length).map (rp l)
def IsState (l : List Seg) (T : List Nat) : Prop := T = [] ∨ ∃ j, j < l.length ∧ T = rp l j
theorem mem_states {l : List Seg} {T : List Nat} : T ∈ statesIx l ↔ IsState l T := by
  unfold statesIx IsState
  rw [List.mem_cons, List.mem_map]
  constructor
  · rintro (h | ⟨j, hj, h⟩)
    · exact .inl h
    · exact .inr ⟨j, List.mem_range.1 hj, h.symm⟩
  · rintro (h | ⟨j, hj, h⟩)
    · exact .inl h
    · exact .inr ⟨j, List.mem_range.2 hj, h.symm⟩
theorem IsState.lt {l : List Seg} (hd : Down l l.length) {T : List Nat} (h : IsState l T) : ∀ j ∈ T, j < l.length := by
  rcases h with rfl | ⟨i, hi, rfl⟩
  · intro j hj; cases hj
  · intro j hj
    have := rp_le hd i hi j hj
    omega
theorem IsState.asc {l : List Seg} (hd : Down l l.length) {T : List Nat} (h : IsState l T) : T.Pairwise (· < ·) := by
  rcases h with rfl | ⟨i, hi, rfl⟩
  · exact List.Pairwise.nil
  · exact rp_asc hd i hi
theorem names_inj {l : List Seg} (hv : validB l = true) {T U : List Nat} (hT : ∀ j ∈ T, j < l.length) (hU : ∀ j ∈ U, j < l.length) (h : namesAt l T = namesAt l U) : T = U := by
  have h1 := namesAt_map hv T hT
  have h2 := namesAt_map hv U hU
  rw [h, h2] at h1
  clear h h2
  induction T generalizing U with
  | nil =>
    cases U with
    | nil => rfl
    | cons u U => cases h1
  | cons t T ih =>
    cases U with
    | nil => cases h1
    | cons u U =>
      simp only [List.map_cons, List.cons.injEq] at h1
      have e1 := byteOf_inj hv (hU u List.mem_cons_self) (hT t List.mem_cons_self) h1.1
      rw [e1, ih (fun j hj => hT j (List.mem_cons_of_mem _ hj)) (fun j hj => hU j (List.mem_cons_of_mem _ hj)) h1.2]

/-- The state that a text tells. -/
def stIx (l : List Seg) (s : ByteArray) : Option (List Nat) := if validB l = true then (statesIx l).find? (fun T => sameB (namesAt l T) s) else none
theorem stIx_some {l : List Seg} {s : ByteArray} {T : List Nat} (h : stIx l s = some T) : validB l = true ∧ IsState l T ∧ namesAt l T = s := by
  unfold stIx at h
  by_cases hv : validB l = true
  · rw [if_pos hv] at h
    exact ⟨hv, mem_states.1 (List.mem_of_find?_eq_some h), sameB_iff.1 (List.find?_some (p := fun T => sameB (namesAt l T) s) h)⟩
  · rw [if_neg hv] at h; cases h
theorem stIx_of {l : List Seg} {T : List Nat} (hv : validB l = true) (hT : IsState l T) : stIx l (namesAt l T) = some T := by
  have hd := (valid_all hv).1.down
  cases h : stIx l (namesAt l T) with
  | none =>
    unfold stIx at h
    rw [if_pos hv] at h
    exact absurd (sameB_iff.2 rfl) (List.find?_eq_none.1 h T (mem_states.2 hT))
  | some U =>
    obtain ⟨_, h2, h3⟩ := stIx_some h
    rw [names_inj hv (h2.lt hd) (hT.lt hd) h3]
theorem stIx_bad {l : List Seg} (s : ByteArray) (h : validB l = false) : stIx l s = none := if_neg (by rw [h]; decide)
def stOk (l : List Seg) (s : ByteArray) : Bool := (stIx l s).isSome
theorem stOk_bad {l : List Seg} (s : ByteArray) (h : validB l = false) : stOk l s = false := by unfold stOk; rw [stIx_bad s h]; rfl
theorem stOk_empty {l : List Seg} {s : ByteArray} (hs : s.size = 0) : stOk l s = validB l := by
  obtain rfl : s = ⟨#[]⟩ := by
    apply ByteArray.ext
    apply Array.eq_empty_of_size_eq_zero
    exact hs
  cases hv : validB l with
  | false => exact stOk_bad _ hv
  | true =>
    have h := stIx_of hv (.inl rfl : IsState l [])
    unfold stOk
    rw [show (⟨#[]⟩ : ByteArray) = namesAt l [] from rfl, h]
    rfl
theorem seek_nm {l : List Seg} (hv : validB l = true) {i : Nat} (hi : i < l.length) : indexB l (namesAt l [i]) = (i : Int) := by
  have h1 : indexB l (namesAt l [i]) = seek l (namesAt l [i]) := if_pos hv
  have h2 : 0 ≤ indexB l (namesAt l [i]) := by
    rw [h1]
    have key : ∀ (k : Nat), k ≤ i → seek l (namesAt l [i]) = seekFrom (namesAt l [i]) (l.drop k) k ∨ 0 ≤ seek l (namesAt l [i]) := by
      intro k
      induction k with
      | zero => intro _; exact .inl rfl
      | succ k ih =>
        intro hk
        rcases ih (by omega) with h | h
        · rw [seekFrom_drop l _ k (by omega)] at h
          by_cases hs : sameB (l[k]'(by omega)).name (namesAt l [i]) = true
          · rw [if_pos hs] at h; right; omega
          · rw [if_neg hs] at h; exact .inl h
        · exact .inr h
    rcases key i (Nat.le_refl _) with h | h
    · rw [seekFrom_drop l _ i hi, if_pos (sameB_iff.2 ?_)] at h
      · omega
      · rw [(nmAt_one hv hi).2]
        show _ = (⟨([i].flatMap (nmAt l)).toArray⟩ : ByteArray)
        rw [List.flatMap_cons, (nmAt_one hv hi).1]
        rfl
    · exact h
  have h3 := index_nm h2
  have h4 := namesAt_one_inj hv (index_lt h2) hi h3
  omega

/-- A state of a text of one byte or more is the path of its last segment. -/
theorem stIx_last {l : List Seg} {s : ByteArray} {T : List Nat} (h : stIx l s = some T) (hs : 0 < s.size) : 0 ≤ indexB l (s.extract (s.size - 1) s.size) ∧ T = pathIx l (s.extract (s.size - 1) s.size) := by
  obtain ⟨hv, hT, hn⟩ := stIx_some h
  have hd := (valid_all hv).1.down
  rcases hT with rfl | ⟨i, hi, rfl⟩
  · rw [← hn] at hs
    exact (Nat.lt_irrefl 0 hs).elim
  · obtain ⟨A, hA⟩ := rp_last hd i hi
    have hlt : ∀ j ∈ rp l i, j < l.length := fun j hj => by have := rp_le hd i hi j hj; omega
    have e : s.extract (s.size - 1) s.size = namesAt l [i] := by
      apply ByteArray.ext
      apply Array.ext'
      have h1 := namesAt_map hv _ hlt
      have h2 := namesAt_map hv [i] (fun j hj => by rw [List.mem_singleton.1 hj]; exact hi)
      rw [h2, ← hn]
      have e4 : ∀ (x : ByteArray), (x.extract (x.size - 1) x.size).data.toList = x.data.toList.drop (x.size - 1) := fun x => by
        simp [ByteArray.data_extract]
        exact List.take_of_length_le (by simp)
      rw [e4, h1, hA]
      have e5 : (namesAt l (A ++ [i])).size = A.length + 1 := by
        have : (namesAt l (A ++ [i])).size = (namesAt l (A ++ [i])).data.toList.length := by simp
        rw [this, ← hA, h1, hA]
        simp
      rw [e5]
      simp
    rw [e, seek_nm hv hi]
    refine ⟨by omega, ?_⟩
    unfold pathIx
    rw [seek_nm hv hi, Int.toNat_natCast]
theorem stOk_last {l : List Seg} {s : ByteArray} (hs : 0 < s.size) : stOk l s = (hasSeg l (s.extract (s.size - 1) s.size) && sameB (pathStr l (s.extract (s.size - 1) s.size)) s) := by
  cases h : stIx l s with
  | some T =>
    obtain ⟨h1, h2⟩ := stIx_last h hs
    obtain ⟨hv, _, hn⟩ := stIx_some h
    have e1 : stOk l s = true := by unfold stOk; rw [h]; rfl
    have e2 : hasSeg l (s.extract (s.size - 1) s.size) = true := decide_eq_true h1
    have e3 : sameB (pathStr l (s.extract (s.size - 1) s.size)) s = true := by
      apply sameB_iff.2
      rw [pathStr_ix h1, ← h2]
      exact hn
    rw [e1, e2, e3]
    rfl
  | none =>
    have e1 : stOk l s = false := by unfold stOk; rw [h]; rfl
    rw [e1]
    symm
    rw [Bool.and_eq_false_iff]
    by_cases h0 : 0 ≤ indexB l (s.extract (s.size - 1) s.size)
    · right
      cases h3 : sameB (pathStr l (s.extract (s.size - 1) s.size)) s with
      | false => rfl
      | true =>
        have h4 := sameB_iff.1 h3
        have h5 := stIx_of (index_valid h0) (.inr ⟨_, index_lt h0, rfl⟩ : IsState l (pathIx l (s.extract (s.size - 1) s.size)))
        rw [← pathStr_ix h0, h4, h] at h5
        cases h5
    · exact .inl (decide_eq_false h0)

/-- The state behind a need for all of 'P'. -/
def needT (T P : List Nat) : List Nat := if (∀ x ∈ P, x ∈ T) then T else P
def lessT (T U : List Nat) : List Nat := T.filter (fun x => decide (x ∉ U))
def loadT (T P : List Nat) : List Nat := lessT (needT T P) T
def dropT (T P : List Nat) : List Nat := lessT T (needT T P)

theorem comLen_comm {α : Type} [DecidableEq α] : ∀ xs ys : List α, comLen xs ys = comLen ys xs
  | [], [] => rfl
  | [], _ :: _ => by simp [comLen]
  | _ :: _, [] => by simp [comLen]
  | a :: xs, b :: ys => by
    simp only [comLen]
    by_cases h : a = b
    · rw [if_pos h, if_pos h.symm, comLen_comm xs ys]
    · rw [if_neg h, if_neg (fun e => h e.symm)]
theorem com_mem {l : List Seg} (hd : Down l l.length) {T U : List Nat} (hT : IsState l T) (hU : IsState l U) {k : Nat} (hk : k < T.length) : T[k] ∈ U ↔ k < comLen T U := by
  constructor
  · intro hm
    rcases hT with rfl | ⟨i, hi, rfl⟩
    · exact absurd hk (by simp)
    · rcases hU with rfl | ⟨j, hj, rfl⟩
      · cases hm
      · have hmi : (rp l i)[k] ∈ rp l i := List.getElem_mem hk
        have hx : (rp l i)[k] < l.length := by have := rp_le hd i hi _ hmi; omega
        have h1 := rp_prefix hd i hi _ hmi
        have h2 := rp_prefix hd j hj _ hm
        obtain ⟨A, hA⟩ := rp_last hd _ hx
        have h3 := comLen_prefix _ _ _ h1 h2
        rw [hA] at h1 h3
        have h4 : (rp l i).take k ++ [(rp l i)[k]] <+: rp l i := by
          rw [← List.take_succ_eq_append_getElem hk]
          exact List.take_prefix _ _
        have h5 := snoc_unique (rp_asc hd i hi) h1 h4
        rw [List.length_take] at h5
        rw [List.length_append, List.length_singleton] at h3
        omega
  · intro h
    obtain ⟨x, h1, h2⟩ := comLen_get T U k h
    rw [List.getElem?_eq_getElem hk] at h1
    injection h1 with h1
    rw [h1]
    exact List.mem_of_getElem? h2
theorem less_drop {l : List Seg} (hd : Down l l.length) {T U : List Nat} (hT : IsState l T) (hU : IsState l U) : lessT T U = T.drop (comLen T U) := by
  unfold lessT
  conv => lhs; rw [← List.take_append_drop (comLen T U) T]
  rw [List.filter_append]
  have h1 : (T.take (comLen T U)).filter (fun x => decide (x ∉ U)) = [] := by
    apply List.filter_eq_nil_iff.2
    intro x hx
    obtain ⟨k, hk, rfl⟩ := List.mem_iff_getElem.1 hx
    have hk2 : k < T.length := by rw [List.length_take] at hk; omega
    have hk3 : k < comLen T U := by rw [List.length_take] at hk; omega
    have := (com_mem hd hT hU hk2).2 hk3
    rw [List.getElem_take]
    simpa using this
  have h2 : (T.drop (comLen T U)).filter (fun x => decide (x ∉ U)) = T.drop (comLen T U) := by
    apply List.filter_eq_self.2
    intro x hx
    obtain ⟨k, hk, rfl⟩ := List.mem_iff_getElem.1 hx
    rw [List.length_drop] at hk
    have hk2 : comLen T U + k < T.length := by omega
    rw [List.getElem_drop]
    have : ¬ T[comLen T U + k] ∈ U := fun h => by have := (com_mem hd hT hU hk2).1 h; omega
    simpa using this
  rw [h1, h2, List.nil_append]
theorem sub_iff {l : List Seg} (hd : Down l l.length) {T P : List Nat} (hT : IsState l T) (hP : IsState l P) : (∀ x ∈ P, x ∈ T) ↔ comLen T P = P.length := by
  rw [comLen_comm]
  have hle := (comLen_le P T).1
  constructor
  · intro h
    apply Nat.le_antisymm hle
    apply Nat.le_of_not_lt
    intro hlt
    have := (com_mem hd hP hT hlt).1 (h _ (List.getElem_mem hlt))
    omega
  · intro h x hx
    obtain ⟨k, hk, rfl⟩ := List.mem_iff_getElem.1 hx
    exact (com_mem hd hP hT hk).2 (by omega)
theorem less_nil {T U : List Nat} : lessT T U = [] ↔ ∀ x ∈ T, x ∈ U := by
  unfold lessT
  rw [List.filter_eq_nil_iff]
  simp
theorem needT_state {l : List Seg} {T P : List Nat} (hT : IsState l T) (hP : IsState l P) : IsState l (needT T P) := by
  unfold needT
  split
  · exact hT
  · exact hP
theorem less_self (T : List Nat) : lessT T T = [] := less_nil.2 fun _ h => h

end Go.Proofs.Ytcpiojliakgdlaa

/- Costs, needs one after the other, the cheapest need: no program. -/
namespace Go.Proofs.Ytcpiojliakgdlaa
open Go.RowKit

/-- Where the segment that a byte names stands. -/
def bSeek (l : List Seg) (b : UInt8) : Int := seek l ⟨#[b]⟩
def namedOk (l : List Seg) (bs : List UInt8) : Bool := bs.all (fun b => decide (0 ≤ bSeek l b))
def namedJs (l : List Seg) (bs : List UInt8) : List Nat := bs.map (fun b => (bSeek l b).toNat)
theorem namedOk_snoc (l : List Seg) (bs : List UInt8) (b : UInt8) : namedOk l (bs ++ [b]) = (namedOk l bs && decide (0 ≤ bSeek l b)) := by
  unfold namedOk
  rw [List.all_append]
  simp
theorem namedJs_snoc (l : List Seg) (bs : List UInt8) (b : UInt8) : namedJs l (bs ++ [b]) = namedJs l bs ++ [(bSeek l b).toNat] := by
  unfold namedJs
  rw [List.map_append]
  rfl
theorem namedOk_bad {l : List Seg} {bs : List UInt8} {b : UInt8} (h : b ∈ bs) (hb : bSeek l b < 0) : namedOk l bs = false := by
  unfold namedOk
  rw [List.all_eq_false]
  exact ⟨b, h, by simp; omega⟩
theorem namedJs_lt {l : List Seg} {bs : List UInt8} (h : namedOk l bs = true) : ∀ j ∈ namedJs l bs, j < l.length := by
  intro j hj
  obtain ⟨b, hb, rfl⟩ := List.mem_map.1 hj
  have h1 := List.all_eq_true.1 h b hb
  have h2 : 0 ≤ bSeek l b := by simpa using h1
  rcases seek_bd l ⟨#[b]⟩ with h3 | ⟨_, h3⟩
  · unfold bSeek at h2; omega
  · unfold bSeek at *; omega
theorem bSeek_byte {l : List Seg} (hv : validB l = true) {i : Nat} (hi : i < l.length) : bSeek l (byteOf l i) = (i : Int) := by
  have h := seek_nm hv hi
  have h1 : namesAt l [i] = ⟨#[byteOf l i]⟩ := by
    show (⟨([i].flatMap (nmAt l)).toArray⟩ : ByteArray) = _
    rw [List.flatMap_cons, (nmAt_one hv hi).1]
    rfl
  rw [h1] at h
  have h2 : indexB l ⟨#[byteOf l i]⟩ = seek l ⟨#[byteOf l i]⟩ := if_pos hv
  unfold bSeek
  omega
theorem named_names {l : List Seg} (hv : validB l = true) : ∀ js : List Nat, (∀ j ∈ js, j < l.length) → namedOk l (namesAt l js).data.toList = true ∧ namedJs l (namesAt l js).data.toList = js := by
  intro js hj
  rw [namesAt_map hv js hj]
  induction js with
  | nil => exact ⟨rfl, rfl⟩
  | cons j js ih =>
    obtain ⟨h1, h2⟩ := ih (fun x hx => hj x (List.mem_cons_of_mem _ hx))
    have h3 := bSeek_byte hv (hj j List.mem_cons_self)
    unfold namedOk at h1 ⊢
    unfold namedJs at h2 ⊢
    rw [List.map_cons, List.all_cons, List.map_cons, h1, h2, h3]
    simp

theorem szs_bd {l : List Seg} (h : validB l = true) : ∀ js : List Nat, (∀ j ∈ js, j < l.length) → (js.length : Int) ≤ szs l js ∧ szs l js ≤ 99 * (js.length : Int)
  | [], _ => by simp [szs]
  | j :: js, hj => by
    have h1 := szs_bd h js (fun x hx => hj x (List.mem_cons_of_mem _ hx))
    have h2 := sizeAt_bd h (hj j List.mem_cons_self)
    have h3 : szs l (j :: js) = sizeAt l j + szs l js := rfl
    rw [h3, List.length_cons]
    omega

def costB (l : List Seg) (s : ByteArray) : Int := if validB l = true ∧ namedOk l s.data.toList = true then szs l (namedJs l s.data.toList) else -1
theorem costB_names {l : List Seg} (hv : validB l = true) {js : List Nat} (hj : ∀ j ∈ js, j < l.length) : costB l (namesAt l js) = szs l js := by
  obtain ⟨h1, h2⟩ := named_names hv js hj
  unfold costB
  rw [if_pos ⟨hv, h1⟩, h2]

def stT (l : List Seg) (s : ByteArray) : List Nat := (stIx l s).getD []
theorem stT_of {l : List Seg} {s : ByteArray} (h : stOk l s = true) : stIx l s = some (stT l s) := by
  unfold stOk at h
  unfold stT
  cases hx : stIx l s with
  | none => rw [hx] at h; cases h
  | some T => rfl
theorem stT_state {l : List Seg} {s : ByteArray} (h : stOk l s = true) : validB l = true ∧ IsState l (stT l s) ∧ namesAt l (stT l s) = s := stIx_some (stT_of h)
theorem stT_names {l : List Seg} {T : List Nat} (hv : validB l = true) (hT : IsState l T) : stOk l (namesAt l T) = true ∧ stT l (namesAt l T) = T := by
  have h := stIx_of hv hT
  unfold stOk stT
  rw [h]
  exact ⟨rfl, rfl⟩

def needOk (l : List Seg) (s t : ByteArray) : Bool := stOk l s && hasSeg l t
def afterIx (l : List Seg) (s t : ByteArray) : List Nat := if needOk l s t = true then needT (stT l s) (pathIx l t) else []
def loadIx (l : List Seg) (s t : ByteArray) : List Nat := if needOk l s t = true then loadT (stT l s) (pathIx l t) else []
def dropIx (l : List Seg) (s t : ByteArray) : List Nat := if needOk l s t = true then dropT (stT l s) (pathIx l t) else []
def loadCostB (l : List Seg) (s t : ByteArray) : Int := if needOk l s t = true then szs l (loadIx l s t) else -1
theorem needOk_parts {l : List Seg} {s t : ByteArray} (h : needOk l s t = true) : stOk l s = true ∧ 0 ≤ indexB l t := by
  unfold needOk at h
  rw [Bool.and_eq_true] at h
  exact ⟨h.1, of_decide_eq_true h.2⟩
theorem path_state {l : List Seg} {t : ByteArray} (h : 0 ≤ indexB l t) : IsState l (pathIx l t) := .inr ⟨_, index_lt h, rfl⟩
theorem less_lt {l : List Seg} {T U : List Nat} (h : ∀ j ∈ T, j < l.length) : ∀ j ∈ lessT T U, j < l.length := fun j hj => h j (List.mem_filter.1 hj).1
theorem state_len {l : List Seg} {T : List Nat} (h : IsState l T) : T.length ≤ l.length := by
  rcases h with rfl | ⟨i, hi, rfl⟩
  · exact Nat.zero_le _
  · have := rootPath_len l (i + 1) i
    unfold rp
    omega
theorem less_len (T U : List Nat) : (lessT T U).length ≤ T.length := List.length_filter_le _ _
theorem load_lt {l : List Seg} (hd : Down l l.length) {T P : List Nat} (hT : IsState l T) (hP : IsState l P) : ∀ j ∈ loadT T P, j < l.length := less_lt ((needT_state hT hP).lt hd)
theorem load_len {l : List Seg} {T P : List Nat} (hT : IsState l T) (hP : IsState l P) : (loadT T P).length ≤ l.length := Nat.le_trans (less_len _ _) (state_len (needT_state hT hP))

end Go.Proofs.Ytcpiojliakgdlaa
