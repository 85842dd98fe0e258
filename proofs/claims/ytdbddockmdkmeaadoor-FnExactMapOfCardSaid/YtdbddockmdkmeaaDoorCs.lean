/- spec.CommonOf. -/
import Derived.Test.YtdbddockmdkmeaaDoorCp
import Derived.BigQuiet
import Derived.Lib.IndexAny
namespace Go.Proofs.YtdbddockmdkmeaaDoor
open Go.RowKit

def byteOf (l : List Seg) (v : Nat) : UInt8 := (nmAt l v).headD 0
theorem nmAt_one {l : List Seg} (h : validB l = true) {v : Nat} (hv : v < l.length) : nmAt l v = [byteOf l v] ∧ l[v].name = ⟨#[byteOf l v]⟩ := by
  obtain ⟨c, hc, _⟩ := nameOk_one ((valid_all h).1.name hv (List.getElem?_eq_getElem hv))
  unfold byteOf
  rw [nmAt_of hv, hc]
  exact ⟨rfl, rfl⟩
theorem byteOf_inj {l : List Seg} (h : validB l = true) {u v : Nat} (hu : u < l.length) (hv : v < l.length) (he : byteOf l u = byteOf l v) : u = v := by
  have key : ∀ a b : Nat, a < b → b < l.length → byteOf l a ≠ byteOf l b := fun a b hab hb e => by
    have h1 := (valid_all h).1 b hb
    rw [segOk_of hb] at h1
    simp only [Bool.and_eq_true, Bool.not_eq_true'] at h1
    have h2 := h1.1.1.2
    have h3 : takenB (l.take b) l[b].name = true := by
      unfold takenB
      refine List.any_eq_true.2 ⟨l[a]'(by omega), ?_, sameB_iff.2 ?_⟩
      · exact List.mem_take_iff_getElem.2 ⟨a, by omega, rfl⟩
      · rw [(nmAt_one h (show a < l.length by omega)).2, (nmAt_one h hb).2, e]
    rw [h3] at h2
    cases h2
  rcases Nat.lt_trichotomy u v with h1 | h1 | h1
  · exact absurd he (key u v h1 hv)
  · exact h1
  · exact absurd he.symm (key v u h1 hu)
theorem namesAt_map {l : List Seg} (h : validB l = true) : ∀ js : List Nat, (∀ j ∈ js, j < l.length) → (namesAt l js).data.toList = js.map (byteOf l)
  | [], _ => rfl
  | j :: js, hj => by
    have h1 := namesAt_map h js (fun x hx => hj x (List.mem_cons_of_mem _ hx))
    have e : (namesAt l (j :: js)).data.toList = nmAt l j ++ (namesAt l js).data.toList := by simp [namesAt]
    rw [e, h1, (nmAt_one h (hj j List.mem_cons_self)).1]
    rfl

theorem comLen_drop (x y : List UInt8) : ∀ k, k ≤ comLen x y → comLen x y = k + comLen (x.drop k) (y.drop k)
  | 0, _ => by simp
  | k + 1, hk => by
    have h1 := comLen_drop x y k (by omega)
    obtain ⟨z, hx, hy⟩ := comLen_get x y k (by omega)
    have hxl := (List.getElem?_eq_some_iff.1 hx).1
    have hyl := (List.getElem?_eq_some_iff.1 hy).1
    have ex : x[k] = z := by rw [List.getElem?_eq_getElem hxl] at hx; injection hx
    have ey : y[k] = z := by rw [List.getElem?_eq_getElem hyl] at hy; injection hy
    rw [List.drop_eq_getElem_cons hxl, List.drop_eq_getElem_cons hyl, ex, ey] at h1
    simp only [comLen, if_true] at h1
    omega

def comBytes (x y : ByteArray) : Nat := comLen x.data.toList y.data.toList
theorem comBytes_at {x y : ByteArray} {k : Nat} (h : comBytes x y = k + comLen (x.data.toList.drop k) (y.data.toList.drop k)) (hx : k < x.size) (hy : k < y.size) :
    (x[k] = y[k] → comBytes x y = (k + 1) + comLen (x.data.toList.drop (k + 1)) (y.data.toList.drop (k + 1))) ∧ (x[k] ≠ y[k] → comBytes x y = k) := by
  have e1 : x.data.toList.drop k = x[k] :: x.data.toList.drop (k + 1) := List.drop_eq_getElem_cons (by simpa using hx)
  have e2 : y.data.toList.drop k = y[k] :: y.data.toList.drop (k + 1) := List.drop_eq_getElem_cons (by simpa using hy)
  rw [e1, e2] at h
  simp only [comLen] at h
  refine ⟨fun he => ?_, fun he => ?_⟩
  · rw [if_pos he] at h; omega
  · rw [if_neg he] at h; omega

end Go.Proofs.YtdbddockmdkmeaaDoor

/- spec.CommonOf: the last name of the common beginning of two paths. -/
namespace Go.Proofs.YtdbddockmdkmeaaDoor
open Go.RowKit

/-- The numbers of a found segment's path. -/
def pathIx (l : List Seg) (s : ByteArray) : List Nat := rp l (indexB l s).toNat
def comCount (l : List Seg) (s t : ByteArray) : Nat := comLen (pathIx l s) (pathIx l t)
def comStr (l : List Seg) (s t : ByteArray) : ByteArray := if indexB l s < 0 ∨ indexB l t < 0 then ⟨#[]⟩ else namesAt l [(pathIx l s).getD (comCount l s t - 1) 0]
def comOk (l : List Seg) (s t : ByteArray) : Bool := hasSeg l s && hasSeg l t

theorem pathStr_ix {l : List Seg} {s : ByteArray} (h : 0 ≤ indexB l s) : pathStr l s = namesAt l (pathIx l s) := if_neg (by omega)
theorem comCount_pos {l : List Seg} {s t : ByteArray} (h1 : 0 ≤ indexB l s) (h2 : 0 ≤ indexB l t) : 0 < comCount l s t := by
  have ok := (valid_all (index_valid h1)).1
  rcases indexB_bd l s with a1 | ⟨_, a1⟩
  · omega
  rcases indexB_bd l t with a2 | ⟨_, a2⟩
  · omega
  obtain ⟨A, hA⟩ := rp_head ok _ (show (indexB l s).toNat < l.length by omega)
  obtain ⟨B, hB⟩ := rp_head ok _ (show (indexB l t).toNat < l.length by omega)
  unfold comCount pathIx
  rw [hA, hB]
  simp [comLen]
theorem comBytes_ix {l : List Seg} {s t : ByteArray} (h1 : 0 ≤ indexB l s) (h2 : 0 ≤ indexB l t) : comBytes (pathStr l s) (pathStr l t) = comCount l s t := by
  have hv := index_valid h1
  have ok := (valid_all hv).1
  rcases indexB_bd l s with a1 | ⟨_, a1⟩
  · omega
  rcases indexB_bd l t with a2 | ⟨_, a2⟩
  · omega
  have b1 : ∀ j ∈ pathIx l s, j < l.length := fun j hj => by
    have := rp_le ok.down _ (show (indexB l s).toNat < l.length by omega) j hj
    omega
  have b2 : ∀ j ∈ pathIx l t, j < l.length := fun j hj => by
    have := rp_le ok.down _ (show (indexB l t).toNat < l.length by omega) j hj
    omega
  unfold comBytes comCount
  rw [pathStr_ix h1, pathStr_ix h2, namesAt_map hv _ b1, namesAt_map hv _ b2]
  exact comLen_map _ _ _ (fun a ha b hb he => byteOf_inj hv (b1 a ha) (b2 b hb) he)
theorem pathStr_size {l : List Seg} {s : ByteArray} (h1 : 0 ≤ indexB l s) : (pathStr l s).size = (pathIx l s).length ∧ (pathIx l s).length ≤ l.length := by
  have hv := index_valid h1
  have ok := (valid_all hv).1
  rcases indexB_bd l s with a1 | ⟨_, a1⟩
  · omega
  have b1 : ∀ j ∈ pathIx l s, j < l.length := fun j hj => by
    have := rp_le ok.down _ (show (indexB l s).toNat < l.length by omega) j hj
    omega
  refine ⟨?_, ?_⟩
  · have e := namesAt_map hv _ b1
    have e2 : (pathStr l s).size = (pathStr l s).data.toList.length := by simp
    rw [e2, pathStr_ix h1, e, List.length_map]
  · have := rootPath_len l ((indexB l s).toNat + 1) (indexB l s).toNat
    unfold pathIx rp
    omega
theorem comStr_cut {l : List Seg} {s t : ByteArray} (h1 : 0 ≤ indexB l s) (h2 : 0 ≤ indexB l t) (n : Nat) (hn : comCount l s t = n + 1) : (pathStr l s).extract n (n + 1) = comStr l s t := by
  have hv := index_valid h1
  have ok := (valid_all hv).1
  rcases indexB_bd l s with a1 | ⟨_, a1⟩
  · omega
  have b1 : ∀ j ∈ pathIx l s, j < l.length := fun j hj => by
    have := rp_le ok.down _ (show (indexB l s).toNat < l.length by omega) j hj
    omega
  have hle : n < (pathIx l s).length := by have := (comLen_le (pathIx l s) (pathIx l t)).1; unfold comCount at hn; omega
  have e1 : comStr l s t = namesAt l [(pathIx l s)[n]] := by
    unfold comStr
    rw [if_neg (by omega), hn]
    simp [List.getD, List.getElem?_eq_getElem hle]
  have hm : ∀ j ∈ [(pathIx l s)[n]], j < l.length := fun j hj => by
    rw [List.mem_singleton.1 hj]
    exact b1 _ (List.getElem_mem hle)
  have e2 := namesAt_map hv _ hm
  have e3 := namesAt_map hv _ b1
  rw [e1]
  apply ByteArray.ext
  apply Array.ext'
  rw [e2, pathStr_ix h1]
  have e4 : ((namesAt l (pathIx l s)).extract n (n + 1)).data.toList = (((namesAt l (pathIx l s)).data.toList).drop n).take 1 := by
    simp [ByteArray.data_extract]
  rw [e4, e3, ← List.map_drop, List.drop_eq_getElem_cons hle]
  rfl

end Go.Proofs.YtdbddockmdkmeaaDoor

/- What the loop of impl.CommonOf leaves, plain. -/
namespace Go.Proofs.YtdbddockmdkmeaaDoor
open Go.RowKit

def lastNm (l : List Seg) (T : List Nat) : ByteArray := namesAt l T.getLast?.toList
theorem lastNm_snoc {l : List Seg} (T : List Nat) {v : Nat} (hv : v < l.length) : lastNm l (T ++ [v]) = l[v].name := by
  unfold lastNm
  rw [List.getLast?_concat]
  apply ByteArray.ext
  apply Array.ext'
  simp [namesAt, nmAt_of hv]
theorem com_last {l : List Seg} {s t : ByteArray} (hs : 0 ≤ indexB l s) (ht : 0 ≤ indexB l t) {T : List Nat} (hT : T <+: pathIx l s) (hc : comCount l s t = T.length) : comStr l s t = lastNm l T := by
  have h0 := comCount_pos hs ht
  unfold comStr lastNm
  rw [if_neg (by omega), hc]
  rcases List.eq_nil_or_concat T with h | ⟨A, v, h⟩
  · subst h; simp at hc; omega
  · rw [List.concat_eq_append] at h
    subst h
    obtain ⟨r, hr⟩ := hT
    rw [← hr]
    simp [List.getD]
theorem com_end {l : List Seg} {s t : ByteArray} (hs : 0 ≤ indexB l s) (ht : 0 ≤ indexB l t) {T : List Nat} (hT : T <+: pathIx l s) (hall : ∀ v ∈ T, v ∈ pathIx l t) (hend : T = pathIx l s ∨ ∃ x, T ++ [x] <+: pathIx l s ∧ x ∉ pathIx l t) : comStr l s t = lastNm l T := by
  have hv := index_valid hs
  rcases indexB_bd l s with a1 | ⟨_, a1⟩
  · omega
  rcases indexB_bd l t with a2 | ⟨_, a2⟩
  · omega
  exact com_last hs ht hT (com_of (valid_all hv).1.down (by omega) (by omega) hT hall hend)

/-- A name among a path's names. -/
theorem has_name {l : List Seg} (h : validB l = true) {js : List Nat} (hj : ∀ j ∈ js, j < l.length) {v : Nat} (hv : v < l.length) :
    decide (0 ≤ Lib.indexByte (namesAt l js).data.toList (byteOf l v)) = decide (v ∈ js) := by
  rw [← Lib.contains_iff_indexByte, namesAt_map h js hj]
  by_cases hm : v ∈ js
  · rw [decide_eq_true hm]
    simp only [List.contains_eq_mem, List.mem_map, decide_eq_true_eq]
    exact ⟨v, hm, rfl⟩
  · rw [decide_eq_false hm]
    simp only [List.contains_eq_mem, List.mem_map, decide_eq_false_iff_not]
    rintro ⟨u, hu, he⟩
    exact hm (byteOf_inj h (hj u hu) hv he ▸ hu)

end Go.Proofs.YtdbddockmdkmeaaDoor
