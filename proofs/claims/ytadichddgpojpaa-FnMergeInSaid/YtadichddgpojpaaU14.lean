/- Joined: Cs Er Pe Qc Vd Cm Qb. -/
import Derived.Test.YtadichddgpojpaaU07
import Derived.BigQuiet
import Derived.Lib.IndexAny
import Derived.Test.YtadichddgpojpaaU13
import Derived.Test.YtadichddgpojpaaU08
import Derived.Maps.OwnIn
import Derived.LaidEqlPtr
/- spec.CommonOf. -/
namespace Go.Proofs.Ytadichddgpojpaa
open Go.RowKit

def byteOf (l : List Seg) (v : Nat) : UInt8 := (nmAt l v).headD 0
theorem nmAt_one {l : List Seg} (h : validB l = true) {v : Nat} (hv : v < l.length) : nmAt l v = [byteOf l v] ∧ l[v].name = ⟨#[byteOf l v]⟩ := by
  obtain ⟨c, hc, _⟩ := nameOk_one ((valid_all h).1.name hv (List.getElem?_eq_getElem hv))
  unfold byteOf
  rw [nmAt_of hv, hc]
  exact ⟨rfl, rfl⟩
theorem byteOf_inj {l : List Seg} (h : validB l = true) {u v : Nat} (hu : u < l.length) (hv : v < l.length) (he : byteOf l u = byteOf l v) : u = v := by
  have key : ∀ a b : Nat, a < b → b < l.length → byteOf l a ≠ byteOf l b := fun a b hab hb e => by
    have h1 := (valid_all h).1 b hb
    rw [segOk_of hb] at h1
    simp only [Bool.and_eq_true, Bool.not_eq_true'] at h1
    have h2 := h1.1.1.2
    have h3 : takenB (l.take b) l[b].name = true := by
      unfold takenB
      refine List.any_eq_true.2 ⟨l[a]'(by omega), ?_, sameB_iff.2 ?_⟩
      · exact List.mem_take_iff_getElem.2 ⟨a, by omega, rfl⟩
      · rw [(nmAt_one h (show a < l.length by omega)).2, (nmAt_one h hb).2, e]
    rw [h3] at h2
    cases h2
  rcases Nat.lt_trichotomy u v with h1 | h1 | h1
  · exact absurd he (key u v h1 hv)
  · exact h1
  · exact absurd he.symm (key v u h1 hu)
theorem namesAt_map {l : List Seg} (h : validB l = true) : ∀ js : List Nat, (∀ j ∈ js, j < l.length) → (namesAt l js).data.toList = js.map (byteOf l)
  | [], _ => rfl
  | j :: js, hj => by
    have h1 := namesAt_map h js (fun x hx => hj x (List.mem_cons_of_mem _ hx))
    have e : (namesAt l (j :: js)).data.toList = nmAt l j ++ (namesAt l js).data.toList := by simp [namesAt]
    rw [e, h1, (nmAt_one h (hj j List.mem_cons_self)).1]
    rfl

theorem comLen_drop (x y : List UInt8) : ∀ k, k ≤ comLen x y → comLen x y = k + comLen (x.drop k) (y.drop k)
  | 0, _ => by simp
  | k + 1, hk => by
    have h1 := comLen_drop x y k (by omega)
    obtain ⟨z, hx, hy⟩ := comLen_get x y k (by omega)
    have hxl := (List.getElem?_eq_some_iff.1 hx).1
    have hyl := (List.getElem?_eq_some_iff.1 hy).1
    have ex : x[k] = z := by rw [List.getElem?_eq_getElem hxl] at hx; injection hx
    have ey : y[k] = z := by rw [List.getElem?_eq_getElem hyl] at hy; injection hy
    rw [List.drop_eq_getElem_cons hxl, List.drop_eq_getElem_cons hyl, ex, ey] at h1
    simp only [comLen, if_true] at h1
    omega

def comBytes (x y : ByteArray) : Nat := comLen x.data.toList y.data.toList
theorem comBytes_at {x y : ByteArray} {k : Nat} (h : comBytes x y = k + comLen (x.data.toList.drop k) (y.data.toList.drop k)) (hx : k < x.size) (hy : k < y.size) :
    (x[k] = y[k] → comBytes x y = (k + 1) + comLen (x.data.toList.drop (k + 1)) (y.data.toList.drop (k + 1))) ∧ (x[k] ≠ y[k] → comBytes x y = k) := by
  have e1 : x.data.toList.drop k = x[k] :: x.data.toList.drop (k + 1) := List.drop_eq_getElem_cons (by simpa using hx)
  have e2 : y.data.toList.drop k = y[k] :: y.data.toList.drop (k + 1) := List.drop_eq_getElem_cons (by simpa using hy)
  rw [e1, e2] at h
  simp only [comLen] at h
  refine ⟨fun he => ?_, fun he => ?_⟩
  · rw [if_pos he] at h; omega
  · rw [if_neg he] at h; omega

end Go.Proofs.Ytadichddgpojpaa

/- spec.CommonOf: the last name of the common beginning of two paths. -/
namespace Go.Proofs.Ytadichddgpojpaa
open Go.RowKit

/-- The numbers of a found segment's path. -/
def pathIx (l : List Seg) (s : ByteArray) : List Nat := rp l (indexB l s).toNat
def comCount (l : List Seg) (s t : ByteArray) : Nat := comLen (pathIx l s) (pathIx l t)
def comStr (l : List Seg) (s t : ByteArray) : ByteArray := if indexB l s < 0 ∨ indexB l t < 0 then ⟨#[]⟩ else namesAt l [(pathIx l s).getD (comCount l s t - 1) 0]
def comOk (l : List Seg) (s t : ByteArray) : Bool := hasSeg l s && hasSeg l t

theorem pathStr_ix {l : List Seg} {s : ByteArray} (h : 0 ≤ indexB l s) : pathStr l s = namesAt l (pathIx l s) := if_neg (by omega)
theorem comCount_pos {l : List Seg} {s t : ByteArray} (h1 : 0 ≤ indexB l s) (h2 : 0 ≤ indexB l t) : 0 < comCount l s t := by
  have ok := (valid_all (index_valid h1)).1
  rcases indexB_bd l s with a1 | ⟨_, a1⟩
  · omega
  rcases indexB_bd l t with a2 | ⟨_, a2⟩
  · omega
  obtain ⟨A, hA⟩ := rp_head ok _ (show (indexB l s).toNat < l.length by omega)
  obtain ⟨B, hB⟩ := rp_head ok _ (show (indexB l t).toNat < l.length by omega)
  unfold comCount pathIx
  rw [hA, hB]
  simp [comLen]
theorem comBytes_ix {l : List Seg} {s t : ByteArray} (h1 : 0 ≤ indexB l s) (h2 : 0 ≤ indexB l t) : comBytes (pathStr l s) (pathStr l t) = comCount l s t := by
  have hv := index_valid h1
  have ok := (valid_all hv).1
  rcases indexB_bd l s with a1 | ⟨_, a1⟩
  · omega
  rcases indexB_bd l t with a2 | ⟨_, a2⟩
  · omega
  have b1 : ∀ j ∈ pathIx l s, j < l.length := fun j hj => by
    have := rp_le ok.down _ (show (indexB l s).toNat < l.length by omega) j hj
    omega
  have b2 : ∀ j ∈ pathIx l t, j < l.length := fun j hj => by
    have := rp_le ok.down _ (show (indexB l t).toNat < l.length by omega) j hj
    omega
  unfold comBytes comCount
  rw [pathStr_ix h1, pathStr_ix h2, namesAt_map hv _ b1, namesAt_map hv _ b2]
  exact comLen_map _ _ _ (fun a ha b hb he => byteOf_inj hv (b1 a ha) (b2 b hb) he)
theorem pathStr_size {l : List Seg} {s : ByteArray} (h1 : 0 ≤ indexB l s) : (pathStr l s).size = (pathIx l s).length ∧ (pathIx l s).length ≤ l.length := by
  have hv := index_valid h1
  have ok := (valid_all hv).1
  rcases indexB_bd l s with a1 | ⟨_, a1⟩
  · omega
  have b1 : ∀ j ∈ pathIx l s, j < l.length := fun j hj => by
    have := rp_le ok.down _ (show (indexB l s).toNat < l.length by omega) j hj
    omega
  refine ⟨?_, ?_⟩
  · have e := namesAt_map hv _ b1
    have e2 : (pathStr l s).size = (pathStr l s).data.toList.length := by simp
    rw [e2, pathStr_ix h1, e, List.length_map]
  · have := rootPath_len l ((indexB l s).toNat + 1) (indexB l s).toNat
    unfold pathIx rp
    omega
theorem comStr_cut {l : List Seg} {s t : ByteArray} (h1 : 0 ≤ indexB l s) (h2 : 0 ≤ indexB l t) (n : Nat) (hn : comCount l s t = n + 1) : (pathStr l s).extract n (n + 1) = comStr l s t := by
  have hv := index_valid h1
  have ok := (valid_all hv).1
  rcases indexB_bd l s with a1 | ⟨_, a1⟩
  · omega
  have b1 : ∀ j ∈ pathIx l s, j < l.length := fun j hj => by
    have := rp_le ok.down _ (show (indexB l s).toNat < l.length by omega) j hj
    omega
  have hle : n < (pathIx l s).length := by have := (comLen_le (pathIx l s) (pathIx l t)).1; unfold comCount at hn; omega
  have e1 : comStr l s t = namesAt l [(pathIx l s)[n]] := by
    unfold comStr
    rw [if_neg (by omega), hn]
    simp [List.getD, List.getElem?_eq_getElem hle]
  have hm : ∀ j ∈ [(pathIx l s)[n]], j < l.length := fun j hj => by
    rw [List.mem_singleton.1 hj]
    exact b1 _ (List.getElem_mem hle)
  have e2 := namesAt_map hv _ hm
  have e3 := namesAt_map hv _ b1
  rw [e1]
  apply ByteArray.ext
  apply Array.ext'
  rw [e2, pathStr_ix h1]
  have e4 : ((namesAt l (pathIx l s)).extract n (n + 1)).data.toList = (((namesAt l (pathIx l s)).data.toList).drop n).take 1 := by
    simp [ByteArray.data_extract]
  rw [e4, e3, ← List.map_drop, List.drop_eq_getElem_cons hle]
  rfl

end Go.Proofs.Ytadichddgpojpaa

/- What the loop of impl.CommonOf leaves, plain. -/
namespace Go.Proofs.Ytadichddgpojpaa
open Go.RowKit

def lastNm (l : List Seg) (T : List Nat) : ByteArray := namesAt l T.getLast?.toList
theorem lastNm_snoc {l : List Seg} (T : List Nat) {v : Nat} (hv : v < l.length) : lastNm l (T ++ [v]) = l[v].name := by
  unfold lastNm
  rw [List.getLast?_concat]
  apply ByteArray.ext
  apply Array.ext'
  simp [namesAt, nmAt_of hv]
theorem com_last {l : List Seg} {s t : ByteArray} (hs : 0 ≤ indexB l s) (ht : 0 ≤ indexB l t) {T : List Nat} (hT : T <+: pathIx l s) (hc : comCount l s t = T.length) : comStr l s t = lastNm l T := by
  have h0 := comCount_pos hs ht
  unfold comStr lastNm
  rw [if_neg (by omega), hc]
  rcases List.eq_nil_or_concat T with h | ⟨A, v, h⟩
  · subst h; simp at hc; omega
  · rw [List.concat_eq_append] at h
    subst h
    obtain ⟨r, hr⟩ := hT
    rw [← hr]
    simp [List.getD]
theorem com_end {l : List Seg} {s t : ByteArray} (hs : 0 ≤ indexB l s) (ht : 0 ≤ indexB l t) {T : List Nat} (hT : T <+: pathIx l s) (hall : ∀ v ∈ T, v ∈ pathIx l t) (hend : T = pathIx l s ∨ ∃ x, T ++ [x] <+: pathIx l s ∧ x ∉ pathIx l t) : comStr l s t = lastNm l T := by
  have hv := index_valid hs
  rcases indexB_bd l s with a1 | ⟨_, a1⟩
  · omega
  rcases indexB_bd l t with a2 | ⟨_, a2⟩
  · omega
  exact com_last hs ht hT (com_of (valid_all hv).1.down (by omega) (by omega) hT hall hend)

/-- A name among a path's names. -/
theorem has_name {l : List Seg} (h : validB l = true) {js : List Nat} (hj : ∀ j ∈ js, j < l.length) {v : Nat} (hv : v < l.length) :
    decide (0 ≤ Lib.indexByte (namesAt l js).data.toList (byteOf l v)) = decide (v ∈ js) := by
  rw [← Lib.contains_iff_indexByte, namesAt_map h js hj]
  by_cases hm : v ∈ js
  · rw [decide_eq_true hm]
    simp only [List.contains_eq_mem, List.mem_map, decide_eq_true_eq]
    exact ⟨v, hm, rfl⟩
  · rw [decide_eq_false hm]
    simp only [List.contains_eq_mem, List.mem_map, decide_eq_false_iff_not]
    rintro ⟨u, hu, he⟩
    exact hm (byteOf_inj h (hj u hu) hv he ▸ hu)

end Go.Proofs.Ytadichddgpojpaa
/- Segments that lie together, and over an address. No program. -/
namespace Go.Proofs.Ytadichddgpojpaa
open Go.RowKit

theorem com_common {l : List Seg} {s t : ByteArray} (hs : 0 ≤ indexB l s) (ht : 0 ≤ indexB l t) : ∃ v, comStr l s t = namesAt l [v] ∧ v ∈ pathIx l s ∧ v ∈ pathIx l t := by
  have h0 := comCount_pos hs ht
  obtain ⟨v, h1, h2⟩ := comLen_get (pathIx l s) (pathIx l t) (comCount l s t - 1) (by unfold comCount at h0 ⊢; omega)
  refine ⟨v, ?_, List.mem_of_getElem? h1, List.mem_of_getElem? h2⟩
  unfold comStr
  rw [if_neg (by omega)]
  simp [List.getD, h1]
theorem index_lt {l : List Seg} {s : ByteArray} (h : 0 ≤ indexB l s) : (indexB l s).toNat < l.length := by
  rcases indexB_bd l s with a | ⟨_, a⟩ <;> omega
theorem index_nm {l : List Seg} {s : ByteArray} (h : 0 ≤ indexB l s) : namesAt l [(indexB l s).toNat] = s := by
  have hv := index_valid h
  have h1 : indexB l s = seek l s := if_pos hv
  obtain ⟨x, hx, hn⟩ := seek_name (l := l) (s := s) (j := (indexB l s).toNat) (by omega)
  have hlt := index_lt h
  rw [← List.nil_append [(indexB l s).toNat], namesAt_snoc [] hlt]
  rw [List.getElem?_eq_getElem hlt] at hx
  injection hx with hx
  rw [hx, hn]
  apply ByteArray.ext
  simp [namesAt]
theorem namesAt_one_inj {l : List Seg} (hv : validB l = true) {u v : Nat} (hu : u < l.length) (hv' : v < l.length) (h : namesAt l [u] = namesAt l [v]) : u = v := by
  have h1 := namesAt_map hv [u] (fun j hj => by rw [List.mem_singleton.1 hj]; exact hu)
  have h2 := namesAt_map hv [v] (fun j hj => by rw [List.mem_singleton.1 hj]; exact hv')
  rw [h, h2] at h1
  exact (byteOf_inj hv hv' hu (by simpa using h1)).symm
/-- The common name is the first one's: it lies on the other one's path. -/
theorem lie_left {l : List Seg} {s t : ByteArray} (hs : 0 ≤ indexB l s) (ht : 0 ≤ indexB l t) : comStr l s t = s ↔ (indexB l s).toNat ∈ pathIx l t := by
  have hv := index_valid hs
  have hd := (valid_all hv).1.down
  have hi := index_lt hs
  have hj := index_lt ht
  constructor
  · intro h
    obtain ⟨v, h1, h2, h3⟩ := com_common hs ht
    have hvl : v < l.length := Nat.lt_of_le_of_lt (rp_le hd _ hi v h2) hi
    have he := namesAt_one_inj hv hvl hi (by rw [← h1, h, index_nm hs])
    rw [← he]; exact h3
  · intro h
    have hp := rp_prefix hd _ hj _ h
    have hc := com_of hd hi hj (T := pathIx l s) (List.prefix_refl _) (fun v hv => hp.subset hv) (.inl rfl)
    have := com_last hs ht (T := pathIx l s) (List.prefix_refl _) hc
    rw [this]
    obtain ⟨A, hA⟩ := rp_last hd _ hi
    have e : pathIx l s = A ++ [(indexB l s).toNat] := hA
    rw [e]
    unfold lastNm
    rw [List.getLast?_concat]
    exact index_nm hs
theorem lie_right {l : List Seg} {s t : ByteArray} (hs : 0 ≤ indexB l s) (ht : 0 ≤ indexB l t) : comStr l s t = t ↔ (indexB l t).toNat ∈ pathIx l s := by
  have hv := index_valid hs
  have hd := (valid_all hv).1.down
  have hi := index_lt hs
  have hj := index_lt ht
  constructor
  · intro h
    obtain ⟨v, h1, h2, h3⟩ := com_common hs ht
    have hvl : v < l.length := Nat.lt_of_le_of_lt (rp_le hd _ hi v h2) hi
    have he := namesAt_one_inj hv hvl hj (by rw [← h1, h, index_nm ht])
    rw [← he]; exact h2
  · intro h
    have hp := rp_prefix hd _ hi _ h
    have hp' : pathIx l t <+: pathIx l s := hp
    have hend : pathIx l t = rp l (indexB l s).toNat ∨ ∃ x, pathIx l t ++ [x] <+: rp l (indexB l s).toNat ∧ x ∉ rp l (indexB l t).toNat := by
      obtain ⟨r, hr⟩ := hp'
      cases r with
      | nil => left; rw [List.append_nil] at hr; exact hr
      | cons x r =>
        right
        refine ⟨x, ⟨r, by rw [List.append_assoc]; exact hr⟩, fun hx => ?_⟩
        have ha := rp_asc hd _ hi
        have hr' : rp l (indexB l s).toNat = pathIx l t ++ x :: r := hr.symm
        rw [hr', List.pairwise_append] at ha
        have := ha.2.2 x hx x List.mem_cons_self
        omega
    have hc := com_of hd hi hj (T := pathIx l t) hp' (fun v hv => hv) hend
    have := com_last hs ht (T := pathIx l t) hp' hc
    rw [this]
    obtain ⟨A, hA⟩ := rp_last hd _ hj
    have e : pathIx l t = A ++ [(indexB l t).toNat] := hA
    rw [e]
    unfold lastNm
    rw [List.getLast?_concat]
    exact index_nm ht

/-- Two segments of which one is on the other one's path. -/
def lieB (l : List Seg) (s t : ByteArray) : Bool := comOk l s t && (decide ((indexB l s).toNat ∈ pathIx l t) || decide ((indexB l t).toNat ∈ pathIx l s))

/-- Whether a segment has an address. -/
def holdsB (l : List Seg) (a : Int) (i : Nat) : Bool := decide (begAt l i ≤ a) && decide (a < endAt l i)
def overIx (l : List Seg) (a : Int) (k : Nat) : List Nat := (List.range k).filter (holdsB l a)
theorem overIx_succ (l : List Seg) (a : Int) (k : Nat) : overIx l a (k + 1) = overIx l a k ++ if holdsB l a k = true then [k] else [] := by
  unfold overIx
  rw [List.range_succ, List.filter_append]
  by_cases h : holdsB l a k = true <;> simp [h]
theorem overIx_lt {l : List Seg} {a : Int} {k j : Nat} (h : j ∈ overIx l a k) : j < k := List.mem_range.1 (List.mem_filter.1 h).1
theorem overIx_len (l : List Seg) (a : Int) (k : Nat) : (overIx l a k).length ≤ k := by
  have := List.length_filter_le (holdsB l a) (List.range k)
  simpa [overIx] using this
theorem over_some {l : List Seg} (h : validB l = true) {a : Int} (ha : 0 ≤ a) : ∀ i, i < l.length → a < endAt l i → ∃ j, j < l.length ∧ holdsB l a j = true :=
  rp_ind (valid_all h).1.down (fun i hi hp he => ⟨i, hi, by unfold holdsB; rw [begAt_root hp, decide_eq_true ha, decide_eq_true he]; rfl⟩) (fun i p hi hpi hp ih he => by
    by_cases hb : begAt l i ≤ a
    · exact ⟨i, hi, by unfold holdsB; rw [decide_eq_true hb, decide_eq_true he]; rfl⟩
    · rw [begAt_step (valid_all h).1.down hi hp] at hb
      exact ih (by omega))
theorem over_iff {l : List Seg} (h : validB l = true) (a : Int) : overIx l a l.length ≠ [] ↔ (0 ≤ a ∧ a < roomTo l l.length) := by
  constructor
  · intro hne
    obtain ⟨j, hj⟩ := List.exists_mem_of_ne_nil _ hne
    have hl := overIx_lt hj
    have h2 := (List.mem_filter.1 hj).2
    unfold holdsB at h2
    simp only [Bool.and_eq_true, decide_eq_true_eq] at h2
    have h3 := place_small h hl
    have h4 := roomTo_le l l.length j hl
    omega
  · rintro ⟨h1, h2⟩
    have h0 := (valid_all h).2.2
    have h3 := lastIx_room h (l.length - 1) (by omega)
    have h4 := lastIx_le l (l.length - 1)
    rw [show l.length - 1 + 1 = l.length by omega] at h3
    obtain ⟨j, hj, hh⟩ := over_some h h1 (lastIx l (l.length - 1)) (by omega) (by omega)
    exact List.ne_nil_of_mem (List.mem_filter.2 ⟨List.mem_range.2 hj, hh⟩)
def overStr (l : List Seg) (a : Int) : ByteArray := if validB l = true then namesAt l (overIx l a l.length) else ⟨#[]⟩
def overOk (l : List Seg) (a : Int) : Bool := validB l && decide (0 ≤ a) && decide (a < roomTo l l.length)
theorem overStr_no {l : List Seg} {a : Int} (h : overOk l a = false) : overStr l a = ⟨#[]⟩ := by
  unfold overStr
  by_cases hv : validB l = true
  · rw [if_pos hv]
    have : overIx l a l.length = [] := by
      apply Classical.byContradiction
      intro hne
      have := (over_iff hv a).1 hne
      unfold overOk at h
      rw [hv, decide_eq_true this.1, decide_eq_true this.2] at h
      cases h
    rw [this]
    rfl
  · rw [if_neg hv]
theorem overStr_size {l : List Seg} (hv : validB l = true) (a : Int) : decide (0 < (overStr l a).size) = overOk l a := by
  have h1 : (overStr l a).size = (overIx l a l.length).length := by
    unfold overStr
    rw [if_pos hv]
    have := namesAt_map hv (overIx l a l.length) (fun j hj => overIx_lt hj)
    have e : (namesAt l (overIx l a l.length)).size = (namesAt l (overIx l a l.length)).data.toList.length := by simp
    rw [e, this, List.length_map]
  have h2 := over_iff hv a
  rw [h1]
  unfold overOk
  rw [hv, Bool.true_and]
  by_cases hn : overIx l a l.length = []
  · rw [hn]
    have : ¬ (0 ≤ a ∧ a < roomTo l l.length) := fun h => (h2.2 h) hn
    by_cases h3 : 0 ≤ a
    · rw [decide_eq_true h3, decide_eq_false (p := a < _) (fun h => this ⟨h3, h⟩)]; rfl
    · rw [decide_eq_false h3]; rfl
  · have h3 := h2.1 hn
    rw [decide_eq_true h3.1, decide_eq_true h3.2, decide_eq_true (List.length_pos_iff.2 hn)]
    rfl

/-- The path of the first segment that ends last. -/
def longStr (l : List Seg) : ByteArray := if validB l = true then namesAt l (rp l (lastIx l (l.length - 1))) else ⟨#[]⟩

end Go.Proofs.Ytadichddgpojpaa
/- The program's rooms: RoomOf, SavedRoom, Overlap. -/
namespace Go.Proofs.Ytadichddgpojpaa
open Go.RowKit

set_option maxRecDepth 100000 in
set_option maxHeartbeats 400000 in
theorem roomOf_any (A : Option Addr) (l : List Seg) (c : Nat) (w : World) (hw : Segs w w.heap.size A l) (hl : l.length ≤ 1048576) (hlc : l.length ≤ c) (hcm : c ≤ 9223372036854775807) (hn : Short l) :
    Calls Try.prog 20 #[.slice A l.length c] w fun e w' => e = .returned (.int .i64 (roomB l)) ∧ Below w.heap.size w w' := by
  have HW : Hid (Segs w w.heap.size A l) := hw
  clear hw
  have hnil := fun (W : World) (a : Option Addr) (n c : Nat) => Lib.run_eql_slice_nil (P := Try.prog) W 54 56 a n c 0 0 Try.underlying54
  cases hv : validB l with
  | false =>
    have HF : Hid (roomB l = -1) := if_neg (by rw [hv]; decide)
    go_enter Try.func20, Try.ntmps20
    go_wp2_with fail
    refine (nodesOf_bad _ _ _ _ HW.out hl hlc hcm hn hv).mono ?_
    rintro e w1 ⟨rfl, hb1⟩
    go_wp2
    go_ret
    exact ⟨ret_int HF.out.symm, hb1⟩
  | true =>
    have h0 := (valid_all hv).2.2
    have hle := lastIx_le l (l.length - 1)
    have HL : Hid (lastIx l (l.length - 1) < l.length) := show _ < _ by omega
    have HF : Hid (roomB l = endAt l (lastIx l (l.length - 1))) := by
      have h1 : roomB l = roomTo l l.length := if_pos hv
      have h2 := lastIx_room hv (l.length - 1) (by omega)
      rw [show l.length - 1 + 1 = l.length by omega] at h2
      exact h1.trans h2.symm
    have HV := Lib.hid hv
    clear hv hle
    have hfld := run_end
    go_enter Try.func20, Try.ntmps20
    go_wp2_with fail
    refine (nodesOf_any _ _ _ _ HW.out hl hlc hcm hn HV.out).mono ?_
    rintro e w1 ⟨g, nb, cv, rfl, hN, hb1⟩
    have HN := Lib.hid hN
    clear hN
    go_wp2_with fail
    refine (fold_any _ _ _ _ _ _ HN.out HV.out).mono ?_
    rintro e w2 ⟨rfl, hb2⟩
    have B2 := hb1.trans (hb2.mono hb1.size)
    go_wp2_with fail
    refine (place_any l nb HV.out _ HL.out _ (HN.out.placed.below hb2)).mono ?_
    rintro e w3 ⟨rfl, hb3⟩
    have B3 := B2.trans (hb3.mono B2.size)
    clear hb1 hb2 B2 hb3
    go_wp2
    go_ret
    exact ⟨ret_int HF.out.symm, B3⟩

/-- What is behind findTwo where the tree is valid. -/
def TwoPost (w : World) (l : List Seg) (s t : ByteArray) (e : Ending) (w' : World) : Prop :=
  ∃ g nb cv, e = .returned (.tuple #[.pointer (foundPtr l nb s), .pointer (foundPtr l nb t)]) ∧ Nodes w' w.heap.size g l.length l.length l nb cv ∧ Below w.heap.size w w'

end Go.Proofs.Ytadichddgpojpaa
/- The program's LongestPath. -/
namespace Go.Proofs.Ytadichddgpojpaa
open Go.RowKit Go.Shelf

theorem Nodes.below {w w' : World} {B g m k : Nat} {l : List Seg} {nb : Nat → Nat} {cv : Nat → Value} (h : Nodes w B g m k l nb cv) (hb : Below w.heap.size w w') : Nodes w' B g m k l nb cv := by
  obtain ⟨cs, hg, hcs, hci⟩ := h.row
  refine ⟨⟨cs, hg.below hb hg.lt, hcs, hci⟩, fun i t hi ht => ?_, fun i t hi hi2 ht => ?_, fun i hi => ?_, h.apart, h.apartC, h.notg, h.low⟩
  · have h1 := h.node i t hi ht
    exact h1.below hb h1.lt
  · have h1 := h.fresh i t hi hi2 ht
    exact h1.below hb h1.lt
  · exact own_keep (h.kids i hi) fun b hb' => hb.block b ((h.kids i hi).lt b hb').2

theorem nameBytes_map (l : List Seg) : ∀ ys : List (Ix l), nameBytes l ys = (ys.map (·.1)).flatMap (nmAt l)
  | [] => rfl
  | y :: ys => by
    show (l[y.1]'y.2).name.data.toList ++ nameBytes l ys = nmAt l y.1 ++ (ys.map (·.1)).flatMap (nmAt l)
    rw [nameBytes_map l ys, nmAt_of y.2]

end Go.Proofs.Ytadichddgpojpaa
/- Chapter 9: nodes in memory whose children are moved. -/
namespace Go.Proofs.Ytadichddgpojpaa
open Go.RowKit

def ptr9 (nb : Nat → Nat) (x : Int) : Option Addr := if x < 0 then none else some ⟨nb x.toNat, 0, none⟩
theorem ptr9_neg {nb : Nat → Nat} {x : Int} (h : x < 0) : ptr9 nb x = none := if_pos h
theorem ptr9_nat (nb : Nat → Nat) (k : Nat) : ptr9 nb (k : Int) = some ⟨nb k, 0, none⟩ := by
  unfold ptr9
  rw [if_neg (by omega), Int.toNat_natCast]

/-- Nodes in memory: names, sizes, parents and children are given. -/
structure Mem9 (w : World) (B n : Nat) (nm : Nat → ByteArray) (sz pp : Nat → Int) (kd : Nat → List Nat) (nb : Nat → Nat) (cv : Nat → Value) : Prop where
  node : ∀ i, i < n → Row w (nb i) 59 (nodeCells (nm i) (sz i) (ptr9 nb (pp i)) (cv i))
  kids : ∀ i, i < n → w.ownsRow B 56 1 (cv i) (kd i).length (ptrsOf nb (kd i))
  apart : ∀ i j, i < n → j < n → i ≠ j → nb i ≠ nb j
  apartC : ∀ i j, i < n → j < n → i ≠ j → (cv i).ownBlock = none ∨ (cv i).ownBlock ≠ (cv j).ownBlock
  low : ∀ i, i < n → B ≤ nb i
/-- The row of all nodes: only its first cell is read again. -/
structure Top9 (w : World) (B g n : Nat) (nb : Nat → Nat) (cv : Nat → Value) : Prop where
  row : ∃ cs, Row w g 56 cs ∧ cs[0]? = some (ptrTo (nb 0))
  notg : ∀ i, i < n → (cv i).ownBlock ≠ some g
  low : B ≤ g

theorem Nodes.mem9 {w : World} {B g : Nat} {l : List Seg} {nb : Nat → Nat} {cv : Nat → Value} (h : Nodes w B g l.length l.length l nb cv) : Mem9 w B l.length (nmAt9 l) (sizeAt l) (parAt l) (kids9 (parAt l) l.length) nb cv := by
  refine ⟨fun i hi => ?_, fun i hi => h.kids i hi, h.apart, h.apartC, h.low.2⟩
  rw [nmAt9_of hi, sizeAt_of hi]
  exact h.node i _ hi (List.getElem?_eq_getElem hi)
theorem Nodes.top9 {w : World} {B g : Nat} {l : List Seg} {nb : Nat → Nat} {cv : Nat → Value} (h : Nodes w B g l.length l.length l nb cv) (h0 : 0 < l.length) : Top9 w B g l.length nb cv := by
  obtain ⟨cs, h1, _, h2⟩ := h.row
  exact ⟨⟨cs, h1, h2 0 h0⟩, h.notg, h.low.1⟩

variable {w w' : World} {B g n : Nat} {nm : Nat → ByteArray} {sz pp : Nat → Int} {kd : Nat → List Nat} {nb : Nat → Nat} {cv : Nat → Value}
theorem Mem9.below (h : Mem9 w B n nm sz pp kd nb cv) (hb : Below w.heap.size w w') : Mem9 w' B n nm sz pp kd nb cv :=
  ⟨fun i hi => (h.node i hi).below hb (h.node i hi).lt, fun i hi => own_keep (h.kids i hi) fun k hk => hb.block k ((h.kids i hi).lt k hk).2, h.apart, h.apartC, h.low⟩
theorem Top9.below (h : Top9 w B g n nb cv) (hb : Below w.heap.size w w') : Top9 w' B g n nb cv := by
  obtain ⟨cs, h1, h2⟩ := h.row
  exact ⟨⟨cs, h1.below hb h1.lt, h2⟩, h.notg, h.low⟩
theorem Mem9.ne_kid (h : Mem9 w B n nm sz pp kd nb cv) {i j : Nat} (hi : i < n) (hj : j < n) : (cv i).ownBlock ≠ some (nb j) := own_ne (h.kids i hi) (h.node j hj) (by decide)
theorem Mem9.ne_row (h : Mem9 w B n nm sz pp kd nb cv) {cs : Array Value} (hg : Row w g 56 cs) {i : Nat} (hi : i < n) : nb i ≠ g := fun e => by
  have h1 := h.node i hi
  unfold Row at h1 hg
  rw [e, hg] at h1
  injection h1 with h1
  injection h1 with _ h2
  exact absurd h2 (by decide)

/-- Another size. -/
theorem Mem9.size (h : Mem9 w B n nm sz pp kd nb cv) {i : Nat} (hi : i < n) (x : Int) : Mem9 (w.setCell ⟨nb i, 1, none⟩ (.int .i64 x)) B n nm (resizeZ9 sz i x) pp kd nb cv := by
  refine ⟨fun j hj => ?_, fun j hj => own_set (h.kids j hj) (h.node i hi) (by decide) 1 _, h.apart, h.apartC, h.low⟩
  unfold resizeZ9
  by_cases hji : j = i
  · subst hji
    rw [if_pos rfl]
    exact (h.node j hj).put 1 _
  · rw [if_neg hji]
    exact (h.node j hj).far (p := ⟨nb i, 1, none⟩) (h.apart j i hj hi hji) _
/-- Another parent. -/
theorem Mem9.parent (h : Mem9 w B n nm sz pp kd nb cv) {i q : Nat} (hi : i < n) : Mem9 (w.setCell ⟨nb i, 2, none⟩ (.pointer (some ⟨nb q, 0, none⟩))) B n nm sz (fun j => if j = i then (q : Int) else pp j) kd nb cv := by
  refine ⟨fun j hj => ?_, fun j hj => own_set (h.kids j hj) (h.node i hi) (by decide) 2 _, h.apart, h.apartC, h.low⟩
  by_cases hji : j = i
  · subst hji
    simp only [if_pos]
    rw [ptr9_nat]
    exact (h.node j hj).put 2 _
  · simp only [if_neg hji]
    exact (h.node j hj).far (p := ⟨nb i, 2, none⟩) (h.apart j i hj hi hji) _
theorem Top9.set (h : Top9 w B g n nb cv) {t : TypeId} {cs : Array Value} {b : Nat} (hr : Row w b t cs) (ht : t ≠ 56) (i : Nat) (u : Value) : Top9 (w.setCell ⟨b, i, none⟩ u) B g n nb cv := by
  obtain ⟨cs', h1, h2⟩ := h.row
  refine ⟨⟨cs', h1.far (p := ⟨b, i, none⟩) (fun e => ?_) _, h2⟩, h.notg, h.low⟩
  have e' : g = b := e
  subst e'
  unfold Row at h1 hr
  rw [hr] at h1
  injection h1 with h1
  injection h1 with _ h3
  exact ht h3

/-- Other children. -/
theorem Mem9.kidsPut (h : Mem9 w B n nm sz pp kd nb cv) {p : Nat} (hp : p < n) {v : Value} {L : List Nat} (hv : w'.ownsRow B 56 1 v L.length (ptrsOf nb L))
    (ho : Only w w' (fun k => some k = (cv p).ownBlock)) (hat : v.ownBlock = none ∨ v.ownBlock = (cv p).ownBlock ∨ ∃ g, v.ownBlock = some g ∧ w.heap.size ≤ g) :
    Mem9 (w'.setCell ⟨nb p, 3, none⟩ v) B n nm sz pp (upd kd p L) nb (upd cv p v) := by
  have hnode : ∀ j, j < n → Row w' (nb j) 59 (nodeCells (nm j) (sz j) (ptr9 nb (pp j)) (cv j)) := fun j hj => ho.row (h.node j hj) (fun e => h.ne_kid hp hj e.symm)
  have hlts : ∀ i, i < n → ∀ b, (cv i).ownBlock = some b → b < w.heap.size := fun i hi b hb => ((h.kids i hi).lt b hb).2
  have hap : ∀ j, j < n → j ≠ p → v.ownBlock = none ∨ v.ownBlock ≠ (cv j).ownBlock := fun j hj hjp => by
    rcases hat with h1 | h1 | ⟨b, h1, h2⟩
    · exact .inl h1
    · rw [h1]; exact h.apartC p j hp hj (Ne.symm hjp)
    · right
      rw [h1]
      intro he
      have := hlts j hj b he.symm
      omega
  refine ⟨fun j hj => ?_, fun j hj => ?_, h.apart, fun i j hi hj hne => ?_, h.low⟩
  · by_cases hjp : j = p
    · subst hjp
      rw [upd_same]
      exact (hnode j hj).put 3 v
    · rw [upd_ne _ _ hjp]
      exact (hnode j hj).far (p := ⟨nb p, 3, none⟩) (h.apart j p hj hp hjp) _
  · by_cases hjp : j = p
    · subst hjp
      rw [upd_same, upd_same]
      exact own_set hv (hnode j hj) (by decide) 3 _
    · rw [upd_ne _ _ hjp, upd_ne _ _ hjp]
      refine own_set (own_keep (h.kids j hj) fun b hb => ho.block b (hlts j hj b hb) ?_) (hnode p hp) (by decide) 3 _
      intro e
      rcases h.apartC j p hj hp hjp with h2 | h2
      · rw [hb] at h2; cases h2
      · exact h2 (by rw [hb, e])
  · by_cases hip : i = p
    · subst hip
      rw [upd_same, upd_ne _ _ (Ne.symm hne)]
      exact hap j hj (Ne.symm hne)
    · rw [upd_ne _ _ hip]
      by_cases hjp : j = p
      · subst hjp
        rw [upd_same]
        rcases hap i hi hip with h2 | h2
        · rw [h2]
          cases (cv i).ownBlock with
          | none => exact .inl rfl
          | some b => exact .inr (by simp)
        · exact .inr (Ne.symm h2)
      · rw [upd_ne _ _ hjp]
        exact h.apartC i j hi hj hne
theorem Top9.kidsPut (h : Top9 w B g n nb cv) (hM : Mem9 w B n nm sz pp kd nb cv) {p : Nat} (hp : p < n) {v : Value}
    (ho : Only w w' (fun k => some k = (cv p).ownBlock)) (hat : v.ownBlock = none ∨ v.ownBlock = (cv p).ownBlock ∨ ∃ g, v.ownBlock = some g ∧ w.heap.size ≤ g) :
    Top9 (w'.setCell ⟨nb p, 3, none⟩ v) B g n nb (upd cv p v) := by
  obtain ⟨cs, h1, h2⟩ := h.row
  refine ⟨⟨cs, (ho.row h1 (fun e => h.notg p hp e.symm)).far (p := ⟨nb p, 3, none⟩) (fun e => hM.ne_row h1 hp (Eq.symm e)) _, h2⟩, fun i hi => ?_, h.low⟩
  by_cases hip : i = p
  · subst hip
    rw [upd_same]
    rcases hat with h3 | h3 | ⟨b, h3, h4⟩
    · rw [h3]; simp
    · rw [h3]; exact h.notg i hi
    · rw [h3]
      intro e
      injection e with e
      have := h1.lt
      omega
  · rw [upd_ne _ _ hip]
    exact h.notg i hi

end Go.Proofs.Ytadichddgpojpaa
/- impl.CommonOf where both are found. -/
namespace Go.Proofs.Ytadichddgpojpaa
open Go.RowKit Go.Shelf
attribute [local go_sem] Oper.semAt_some

theorem row_grown {W W' : World} {b : Nat} {t : TypeId} {cs : Array Value} {row : Option Nat} (h : Row W b t cs) (hg : W.grownBy W' row) {B : Nat} (hr : ∀ r, row = some r → B ≤ r ∧ ∃ o : Obj, W.heap[r]? = some o ∧ o.isCells = false) : Row W' b t cs :=
  (hg.block b h.lt (fun he => by
    obtain ⟨_, o, ho, hc⟩ := hr b he.symm
    have h' : W.heap[b]? = some (.cells cs t (0, 0)) := h
    rw [h'] at ho
    injection ho with ho
    subst ho
    cases hc)).trans h
theorem keepsN_set {B : Nat} (W : World) (p : Addr) (v : Value) (hp : p.block < B) : KeepsN B W (W.setCell p v) :=
  ⟨by simp, fun k o hk ho _ => (Below.heap_setCell W p v k (by omega)).trans ho⟩
theorem keepsN_drew (B : Nat) (W : World) : KeepsN B W W.drew := ⟨Nat.le_refl _, fun _ _ _ h _ => h⟩

/-- What the loop keeps: the box of the answer, the box of the names. -/
structure Loop2 (w1 : World) (l : List Seg) (R : List Nat) (nm : ByteArray) (b2 : Nat) (T : List Nat) (W : World) : Prop where
  box : Row W w1.heap.size 9 #[.string (lastNm l T)]
  names : Row W b2 9 #[.string nm]
  below : Below w1.heap.size w1 W
  all : ∀ v ∈ T, v ∈ R
theorem Loop2.grown {w1 W W' : World} {l : List Seg} {R T : List Nat} {nm : ByteArray} {b2 B : Nat} {row : Option Nat} (h : Loop2 w1 l R nm b2 T W) (hg : W.grownBy W' row) (hB : w1.heap.size ≤ B) (hr : ∀ r, row = some r → B ≤ r ∧ ∃ o : Obj, W.heap[r]? = some o ∧ o.isCells = false) : Loop2 w1 l R nm b2 T W' :=
  ⟨row_grown h.box hg hr, row_grown h.names hg hr, h.below.grown hg h.below.size (fun k e => by have := (hr k e).1; omega), h.all⟩
theorem Loop2.drew {w1 W : World} {l : List Seg} {R T : List Nat} {nm : ByteArray} {b2 : Nat} (h : Loop2 w1 l R nm b2 T W) : Loop2 w1 l R nm b2 T W.drew := ⟨h.box, h.names, h.below.drew, h.all⟩
theorem Loop2.step {w1 W : World} {l : List Seg} {R T : List Nat} {nm a : ByteArray} {b2 : Nat} (h : Loop2 w1 l R nm b2 T W) (hb2 : w1.heap.size < b2) {v : Nat} (hv : v < l.length) (hR : v ∈ R) (ha : l[v].name = a) :
    Loop2 w1 l R nm b2 (T ++ [v]) (W.setCell ⟨w1.heap.size, 0, none⟩ (.string a)) := by
  refine ⟨?_, Row.far h.names (by show b2 ≠ w1.heap.size; omega) _, h.below.setCell (Nat.le_refl _) _, fun u hu => ?_⟩
  · have := Row.put h.box 0 (.string a)
    rw [lastNm_snoc T hv, ha]
    exact this
  · rcases List.mem_append.1 hu with hu | hu
    · exact h.all u hu
    · rw [List.mem_singleton.1 hu]; exact hR

end Go.Proofs.Ytadichddgpojpaa
/- A path gathered into a slice, and what is in it: the program's LieTogether. -/
namespace Go.Proofs.Ytadichddgpojpaa
open Go.RowKit Go.Shelf
attribute [local go_sem] Oper.semAt_some

theorem own_grown {W W' : World} {base n : Nat} {e : TypeId} {v : Value} {xs : List Value} {row : Option Nat} (h : W.ownsRow base e 1 v n xs) (hg : W.grownBy W' row) (hr : ∀ r, row = some r → ∃ o : Obj, W.heap[r]? = some o ∧ o.isCells = false) : W'.ownsRow base e 1 v n xs :=
  own_keep h fun g hb => hg.block g ((h.lt g hb).2) (fun he => by
    obtain ⟨o, ho, hc⟩ := hr g he.symm
    rcases h.2 with ⟨rfl, _⟩ | ⟨g', cap, cur, rfl, _, hh, _⟩
    · simp [Value.ownBlock] at hb
    · have : g' = g := by simpa [Value.ownBlock] using hb
      subst this
      rw [hh] at ho
      injection ho with ho
      subst ho
      cases hc)

/-- What is firm stays. -/
def Steady (W W' : World) : Prop := ∀ (k : Nat) (o : Obj), W.heap[k]? = some o → Firm o → W'.heap[k]? = some o

/-- One node's pointer is put behind those that were gathered: only a row of two cells or more is written in place. -/
theorem run_append_firm (w : World) (ty base n : Nat) (v : Value) (xs : List Value) (hown : w.ownsRow base 56 1 v n xs) (h0 : n = 0 → v = .slice none 0 0) (ad : Addr) (u : Value)
    (hnews : ∀ j y, [u][j]? = some y → w.cell? (ad.add j) = some y) (h1 : ∀ y ∈ [u], y.oneCell' = true) (hn : n ≤ 1000) (hbase : base ≤ w.heap.size) :
    ∃ g cap w', (Builtin.append_ #[54, 54] ty #[v, .slice (some ad) 1 1]).run Try.prog w = .ok (.slice (some ⟨g, 0, none⟩) (n + 1) cap) w' ∧
      w'.ownsRow base 56 1 (.slice (some ⟨g, 0, none⟩) (n + 1) cap) (n + 1) (xs ++ [u]) ∧ w.grownBy w' v.ownBlock ∧ Steady w w' := by
  obtain ⟨i0, hi, hz0, hz1, hz2⟩ := info_parts info_ptr
  obtain ⟨v', w', hr, h2, h3, -, -⟩ := run_append_own_at (P := Try.prog) w base 54 ty 56 i0 (.pointer none) 1 8 Try.underlying54 hi hz0 hz1 hz2 rfl (by decide) v n xs hown ad 1 1 [u] rfl hnews h1 (by unfold maxLen; omega) (by omega) hbase
  obtain ⟨g, cap, rfl⟩ := own_form h2 (by omega)
  refine ⟨g, cap, w', hr, h2, h3, ?_⟩
  rcases hown.2 with ⟨rfl, rfl⟩ | ⟨g', cap', cur, rfl, hbg, hg, hnc, hcm, hcs, htake⟩
  · have hr2 := run_append_nil (P := Try.prog) w 54 ty 56 i0 (.pointer none) Try.underlying54 hi hz0 ad 1 1 [u] (by rw [hz1]; rfl) hnews (by decide) (by decide) (by rw [hz2]; decide)
    rw [hr] at hr2
    injection hr2 with _ hw
    subst hw
    exact fun k o hk _ => (Below.heap_alloc w.drew _ k (Array.getElem?_eq_some_iff.1 hk).1).trans hk
  · by_cases hc : n + 1 ≤ cap'
    · refine fun k o hk hf => (h3.block k (Array.getElem?_eq_some_iff.1 hk).1 (fun he => ?_)).trans hk
      have he' : k = g' := by simpa [Value.ownBlock] using he
      subst he'
      rw [hg] at hk
      injection hk with hk
      have := (hf cur _ _ hk.symm).2.resolve_right (by decide)
      have hn1 : 0 < n := Nat.pos_of_ne_zero fun e => by have := h0 e; cases this
      omega
    · obtain ⟨v2, w2, hr2, -, hg2⟩ := run_append_arg_grows (P := Try.prog) w 54 ty 56 i0 (.pointer none) 1 8 Try.underlying54 hi hz0 hz1 hz2 rfl (by decide) ⟨g', 0, none⟩ n cap' xs hown.1
        (fun j y hj => by
          have h5 : w.cell? ⟨g', 0 + j, none⟩ = some y := by
            rw [Nat.zero_add, hown.cellAt j (by have := (List.getElem?_eq_some_iff.1 hj).1; have := hown.1; omega)]
            exact hj
          rw [WideShapes.add_plain]
          exact h5) ad 1 1 [u] rfl hnews (by omega) (by unfold maxLen; omega) (by omega)
      rw [hr] at hr2
      injection hr2 with _ hw
      subst hw
      exact fun k o hk _ => (hg2.block k (Array.getElem?_eq_some_iff.1 hk).1 (fun he => by cases he)).trans hk

theorem wpListIn_append_firm {F : Fence} {nF : Nat} {w : World} {ops : Array Oper} {rest : List Oper} {o : Oper} {a : Act} {Q : Exit → Act → World → Prop} (hgd : o.guard = none) (s x : Operand)
    (ho : o.op = .call { callee := .builtin .append, args := #[s, x], argTypes := #[54, 54] })
    (base n : Nat) (v : Value) (xs : List Value) (hs : a.eval s = v) (hown : w.ownsRow base 56 1 v n xs) (h0 : n = 0 → v = .slice none 0 0) (ad : Addr) (u : Value) (hx : a.eval x = .slice (some ad) 1 1)
    (hnews : ∀ j y, [u][j]? = some y → w.cell? (ad.add j) = some y) (h1 : ∀ y ∈ [u], y.oneCell' = true) (hn : n ≤ 1000) (hbase : base ≤ w.heap.size)
    (h : ∀ g cap w', w'.ownsRow base 56 1 (.slice (some ⟨g, 0, none⟩) (n + 1) cap) (n + 1) (xs ++ [u]) → w.grownBy w' v.ownBlock → Steady w w' → wpListIn F nF Try.prog ops Q rest (a.put o.dst (.slice (some ⟨g, 0, none⟩) (n + 1) cap)) w') :
    wpListIn F nF Try.prog ops Q (o :: rest) a w := by
  refine wpListIn_plain hgd fun K hK => ?_
  obtain ⟨g, cap, w', hr, h2, h3, h4⟩ := run_append_firm w o.type base n v xs hown h0 ad u hnews h1 hn hbase
  unfold Oper.wpIn
  refine ⟨by simp [Oper.about, ho, resolve, Target.leads, Sem.run_pure], ?_⟩
  rw [Oper.semAt_plain F _ _ (by rw [ho]; intro c hc'; cases hc')]
  simp [execOp, ho, resolve, invoke, builtin, hs, hx, hr, Result.andThen]
  exact hK _ _ (h g cap w' h2 h3 h4)

/-- What was gathered: the box holds a slice of the call's own. -/
structure Gath (w : World) (nb : Nat → Nat) (T : List Nat) (W : World) : Prop where
  ex : ∃ v, Row W w.heap.size 54 #[v] ∧ W.ownsRow (w.heap.size + 1) 56 1 v T.length (ptrsOf nb T) ∧ (T.length = 0 → v = .slice none 0 0)
  below : Below w.heap.size w W
theorem Gath.grown {w W W' : World} {nb : Nat → Nat} {T : List Nat} {B : Nat} {row : Option Nat} (h : Gath w nb T W) (hg : W.grownBy W' row) (hB : w.heap.size ≤ B) (hr : ∀ r, row = some r → B ≤ r ∧ ∃ o : Obj, W.heap[r]? = some o ∧ o.isCells = false) : Gath w nb T W' := by
  obtain ⟨⟨v, h1, h2, h3⟩, hb⟩ := h
  exact ⟨⟨v, row_grown h1 hg hr, own_grown h2 hg (fun r e => (hr r e).2), h3⟩, hb.grown hg hb.size (fun k e => by have := (hr k e).1; omega)⟩

/-- What Index says. -/
def FoundAt (js : List Nat) (i : Nat) (w : World) (e : Ending) (w' : World) : Prop := ∃ r : Int, e = .returned (.int .i64 r) ∧ (0 ≤ r ↔ i ∈ js) ∧ (0 ≤ r → js[r.toNat]? = some i) ∧ w = w'

set_option maxRecDepth 100000 in
set_option maxHeartbeats 1000000 in
theorem index_any (g cap base : Nat) (js : List Nat) (nb : Nat → Nat) (i : Nat) (w : World) (hown : w.ownsRow base 56 1 (.slice (some ⟨g, 0, none⟩) js.length cap) js.length (ptrsOf nb js)) (hjl : js.length ≤ 1000)
    (hnode : ∀ j, j = i ∨ j ∈ js → ∃ c, Row w (nb j) 59 c) (hinj : ∀ j ∈ js, nb i = nb j → i = j) :
    Calls Try.prog 93 #[.slice (some ⟨g, 0, none⟩) js.length cap, .pointer (some ⟨nb i, 0, none⟩)] w (FoundAt js i w) := by
  have HO := Lib.hid hown
  have HN := Lib.hid hnode
  have HI := Lib.hid hinj
  obtain ⟨i0, hi0, hsz0⟩ := Option.map_eq_some_iff.1 (show (Try.prog.info? 59).map (fun i => i.size) = some 4 by kernel_rfl)
  have I0 := Lib.hid hi0
  have I1 := Lib.hid hsz0
  clear hown hnode hinj hi0 hsz0
  go_enter Try.func93, Try.ntmps93
  go_wp2
  go_loop [8] (fun c => ∃ k : Nat, k ≤ js.length ∧ c = .int .i64 k ∧ Hid (∀ m, m < k → js[m]? ≠ some i)) (fun c => js.length - (intOf c).toNat)
  case atStart => exact ⟨0, Nat.zero_le _, rfl, fun m hm => absurd hm (by omega)⟩
  case round =>
    obtain ⟨k, hk, rfl, HM⟩ := hrel
    by_cases hlt : k < js.length
    · have hc : w.cell? ⟨g, k, none⟩ = some (.pointer (some ⟨nb js[k], 0, none⟩)) := by
        rw [HO.out.cellAt k (by omega)]
        simp [ptrsOf, ptrTo, hlt]
      have HK : Hid (js[k]? = some js[k]) := List.getElem?_eq_getElem hlt
      have HMem : Hid (js[k] ∈ js) := List.getElem_mem hlt
      generalize js[k] = j at *
      by_cases hij : i = j
      · subst hij
        have hq := fun W : World => run_eql_ptr_same (P := Try.prog) W ⟨nb i, 0, none⟩ Try.underlying56 I0.out
        go_wp2
        go_ret
        exact ⟨k, rfl, ⟨fun _ => HMem.out, fun _ => by omega⟩, fun _ => HK.out, rfl⟩
      · obtain ⟨c1, r1⟩ := HN.out i (.inl rfl)
        obtain ⟨c2, r2⟩ := HN.out j (.inr HMem.out)
        have hne : nb i ≠ nb j := fun e => hij (HI.out j HMem.out e)
        have hq := run_eql_ptr_other (P := Try.prog) w (a := ⟨nb i, 0, none⟩) (b := ⟨nb j, 0, none⟩) Try.underlying56 I0.out (by rw [I1.out]; decide) (fun e => hne (by injection e)) r1 r2
        have HM1 : Hid (∀ m, m < k + 1 → js[m]? ≠ some i) := fun m hm => by
          rcases Nat.lt_or_ge m k with h1 | h1
          · exact HM.out m h1
          · obtain rfl : m = k := by omega
            rw [HK.out]
            intro e
            injection e with e
            exact hij e.symm
        clear r1 r2 hij hne
        go_wp2
        go_round
        case rel => exact ⟨k + 1, by omega, by go_num, HM1⟩
        case measure => simp [intOf]; omega
    · obtain rfl : k = js.length := by omega
      go_wp2
      go_ret
      refine ⟨-1, rfl, ⟨fun h => absurd h (by decide), fun h => ?_⟩, fun h => absurd h (by decide), rfl⟩
      obtain ⟨m, hm, he⟩ := List.getElem_of_mem h
      exact absurd (by rw [List.getElem?_eq_getElem hm, he]) (HM.out m hm)

end Go.Proofs.Ytadichddgpojpaa
