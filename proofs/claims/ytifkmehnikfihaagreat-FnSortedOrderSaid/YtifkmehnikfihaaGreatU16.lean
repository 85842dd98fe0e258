/- Joined: Cs Di Fg. -/
import Derived.Test.YtifkmehnikfihaaGreatU15
import Derived.BigQuiet
import Derived.Lib.IndexAny
import Derived.Test.YtifkmehnikfihaaGreatU10
import Derived.Test.YtifkmehnikfihaaGreatU13
import Derived.Test.YtifkmehnikfihaaGreatU14
import Derived.Lib.Bytealg
import Derived.Test.YtifkmehnikfihaaGreatU09
import Derived.Test.YtifkmehnikfihaaGreatU02
/- spec.CommonOf. -/
namespace Go.Proofs.YtifkmehnikfihaaGreat
open Go.RowKit

def byteOf (l : List Seg) (v : Nat) : UInt8 := (nmAt l v).headD 0
theorem nmAt_one {l : List Seg} (h : validB l = true) {v : Nat} (hv : v < l.length) : nmAt l v = [byteOf l v] ∧ l[v].name = ⟨#[byteOf l v]⟩ := by
  obtain ⟨c, hc, _⟩ := nameOk_one ((valid_all h).1.name hv (List.getElem?_eq_getElem hv))
  unfold byteOf
  rw [nmAt_of hv, hc]
  exact ⟨rfl, rfl⟩
theorem byteOf_inj {l : List Seg} (h : validB l = true) {u v : Nat} (hu : u < l.length) (hv : v < l.length) (he : byteOf l u = byteOf l v) : u = v := by
  have key : ∀ a b : Nat, a < b → b < l.length → byteOf l a ≠ byteOf l b := fun a b hab hb e => by
    have h1 := (valid_all h).1 b hb
    rw [segOk_of hb] at h1
    simp only [Bool.and_eq_true, Bool.not_eq_true'] at h1
    have h2 := h1.1.1.2
    have h3 : takenB (l.take b) l[b].name = true := by
      unfold takenB
      refine List.any_eq_true.2 ⟨l[a]'(by omega), ?_, sameB_iff.2 ?_⟩
      · exact List.mem_take_iff_getElem.2 ⟨a, by omega, rfl⟩
      · rw [(nmAt_one h (show a < l.length by omega)).2, (nmAt_one h hb).2, e]
    rw [h3] at h2
    cases h2
  rcases Nat.lt_trichotomy u v with h1 | h1 | h1
  · exact absurd he (key u v h1 hv)
  · exact h1
  · exact absurd he.symm (key v u h1 hu)
theorem namesAt_map {l : List Seg} (h : validB l = true) : ∀ js : List Nat, (∀ j ∈ js, j < l.length) → (namesAt l js).data.toList = js.map (byteOf l)
  | [], _ => rfl
  | j :: js, hj => by
    have h1 := namesAt_map h js (fun x hx => hj x (List.mem_cons_of_mem _ hx))
    have e : (namesAt l (j :: js)).data.toList = nmAt l j ++ (namesAt l js).data.toList := by simp [namesAt]
    rw [e, h1, (nmAt_one h (hj j List.mem_cons_self)).1]
    rfl

theorem comLen_drop (x y : List UInt8) : ∀ k, k ≤ comLen x y → comLen x y = k + comLen (x.drop k) (y.drop k)
  | 0, _ => by simp
  | k + 1, hk => by
    have h1 := comLen_drop x y k (by omega)
    obtain ⟨z, hx, hy⟩ := comLen_get x y k (by omega)
    have hxl := (List.getElem?_eq_some_iff.1 hx).1
    have hyl := (List.getElem?_eq_some_iff.1 hy).1
    have ex : x[k] = z := by rw [List.getElem?_eq_getElem hxl] at hx; injection hx
    have ey : y[k] = z := by rw [List.getElem?_eq_getElem hyl] at hy; injection hy
    rw [List.drop_eq_getElem_cons hxl, List.drop_eq_getElem_cons hyl, ex, ey] at h1
    simp only [comLen, if_true] at h1
    omega

def comBytes (x y : ByteArray) : Nat := comLen x.data.toList y.data.toList
theorem comBytes_at {x y : ByteArray} {k : Nat} (h : comBytes x y = k + comLen (x.data.toList.drop k) (y.data.toList.drop k)) (hx : k < x.size) (hy : k < y.size) :
    (x[k] = y[k] → comBytes x y = (k + 1) + comLen (x.data.toList.drop (k + 1)) (y.data.toList.drop (k + 1))) ∧ (x[k] ≠ y[k] → comBytes x y = k) := by
  have e1 : x.data.toList.drop k = x[k] :: x.data.toList.drop (k + 1) := List.drop_eq_getElem_cons (by simpa using hx)
  have e2 : y.data.toList.drop k = y[k] :: y.data.toList.drop (k + 1) := List.drop_eq_getElem_cons (by simpa using hy)
  rw [e1, e2] at h
  simp only [comLen] at h
  refine ⟨fun he => ?_, fun he => ?_⟩
  · rw [if_pos he] at h; omega
  · rw [if_neg he] at h; omega

set_option maxRecDepth 100000 in
set_option maxHeartbeats 1000000 in
theorem l1Common_any (x y : ByteArray) (w : World) (hx : x.size ≤ 1048576) (_ : y.size ≤ 1048576) :
    Calls Tryz.prog 218 #[.string x, .string y] w fun e w' => e = .returned (.int .i64 (comBytes x y)) ∧ Below w.heap.size w w' := by
  go_enter Tryz.func218, Tryz.ntmps218
  go_wp2
  go_loopw [5] (fun i wr => ∃ k : Nat, k ≤ x.size ∧ k ≤ y.size ∧ i = .int .i64 k ∧ Hid (comBytes x y = k + comLen (x.data.toList.drop k) (y.data.toList.drop k)) ∧ Below w.heap.size w wr)
    (fun i _ => x.size - (intOf i).toNat)
  case atStart => exact ⟨0, Nat.zero_le _, Nat.zero_le _, rfl, (Nat.zero_add _).symm, Below.refl _ _⟩
  case round =>
    obtain ⟨k, hkx, hky, rfl, HK, hb⟩ := hrel
    have hk0 : (0 : Int) ≤ (k : Int) := Int.natCast_nonneg _
    by_cases hlx : k < x.size
    · have g1 : decide (k < x.size) = true := decide_eq_true hlx
      have hlx' : (k : Int) < (x.size : Int) := by omega
      by_cases hly : k < y.size
      · have g2 : decide (k < y.size) = true := decide_eq_true hly
        have hly' : (k : Int) < (y.size : Int) := by omega
        obtain ⟨ha, hbn⟩ := comBytes_at HK.out hlx hly
        by_cases he : x[k] = y[k]
        · have HA := Lib.hid (ha he)
          have ht : ((x[k].toNat : Int) == (y[k].toNat : Int)) = true := by rw [he]; simp
          clear ha hbn he HK
          go_wp2_with fail
          go_quiet (fail)
          go_wp2
          go_roundw
          case rel => exact ⟨k + 1, by omega, by omega, by go_num, HA, below_drewN hb _⟩
          case measure => simp [intOf]; omega
        · have HA := Lib.hid (hbn he)
          have ht : ((x[k].toNat : Int) == (y[k].toNat : Int)) = false := by
            rw [beq_eq_false_iff_ne]
            exact fun e => he (UInt8.toNat_inj.1 (by omega))
          clear ha hbn he HK
          go_wp2_with fail
          go_quiet (fail)
          go_wp2
          go_ret
          exact ⟨ret_int (by rw [HA.out]), below_drewN hb _⟩
      · have g2 : decide (k < y.size) = false := decide_eq_false hly
        have HA : Hid (comBytes x y = k) := by
          show _ = _
          rw [HK.out, List.drop_of_length_le (l := y.data.toList) (by simp; omega)]
          cases x.data.toList.drop k <;> simp [comLen]
        clear HK
        go_wp2_with fail
        go_quiet (fail)
        go_wp2
        go_ret
        exact ⟨ret_int (by rw [HA.out]), below_drewN hb _⟩
    · have g1 : decide (k < x.size) = false := decide_eq_false hlx
      have HA : Hid (comBytes x y = k) := by
        show _ = _
        rw [HK.out, List.drop_of_length_le (l := x.data.toList) (by simp; omega)]
        simp [comLen]
      clear HK
      go_wp2_with fail
      go_quiet (fail)
      go_wp2
      go_ret
      exact ⟨ret_int (by rw [HA.out]), below_drewN hb _⟩

end Go.Proofs.YtifkmehnikfihaaGreat

/- spec.CommonOf: the last name of the common beginning of two paths. -/
namespace Go.Proofs.YtifkmehnikfihaaGreat
open Go.RowKit

/-- The numbers of a found segment's path. -/
def pathIx (l : List Seg) (s : ByteArray) : List Nat := rp l (indexB l s).toNat
def comCount (l : List Seg) (s t : ByteArray) : Nat := comLen (pathIx l s) (pathIx l t)
def comStr (l : List Seg) (s t : ByteArray) : ByteArray := if indexB l s < 0 ∨ indexB l t < 0 then ⟨#[]⟩ else namesAt l [(pathIx l s).getD (comCount l s t - 1) 0]
def comOk (l : List Seg) (s t : ByteArray) : Bool := hasSeg l s && hasSeg l t

theorem pathStr_ix {l : List Seg} {s : ByteArray} (h : 0 ≤ indexB l s) : pathStr l s = namesAt l (pathIx l s) := if_neg (by omega)
theorem comCount_pos {l : List Seg} {s t : ByteArray} (h1 : 0 ≤ indexB l s) (h2 : 0 ≤ indexB l t) : 0 < comCount l s t := by
  have ok := (valid_all (index_valid h1)).1
  rcases indexB_bd l s with a1 | ⟨_, a1⟩
  · omega
  rcases indexB_bd l t with a2 | ⟨_, a2⟩
  · omega
  obtain ⟨A, hA⟩ := rp_head ok _ (show (indexB l s).toNat < l.length by omega)
  obtain ⟨B, hB⟩ := rp_head ok _ (show (indexB l t).toNat < l.length by omega)
  unfold comCount pathIx
  rw [hA, hB]
  simp [comLen]
theorem comBytes_ix {l : List Seg} {s t : ByteArray} (h1 : 0 ≤ indexB l s) (h2 : 0 ≤ indexB l t) : comBytes (pathStr l s) (pathStr l t) = comCount l s t := by
  have hv := index_valid h1
  have ok := (valid_all hv).1
  rcases indexB_bd l s with a1 | ⟨_, a1⟩
  · omega
  rcases indexB_bd l t with a2 | ⟨_, a2⟩
  · omega
  have b1 : ∀ j ∈ pathIx l s, j < l.length := fun j hj => by
    have := rp_le ok.down _ (show (indexB l s).toNat < l.length by omega) j hj
    omega
  have b2 : ∀ j ∈ pathIx l t, j < l.length := fun j hj => by
    have := rp_le ok.down _ (show (indexB l t).toNat < l.length by omega) j hj
    omega
  unfold comBytes comCount
  rw [pathStr_ix h1, pathStr_ix h2, namesAt_map hv _ b1, namesAt_map hv _ b2]
  exact comLen_map _ _ _ (fun a ha b hb he => byteOf_inj hv (b1 a ha) (b2 b hb) he)
theorem pathStr_size {l : List Seg} {s : ByteArray} (h1 : 0 ≤ indexB l s) : (pathStr l s).size = (pathIx l s).length ∧ (pathIx l s).length ≤ l.length := by
  have hv := index_valid h1
  have ok := (valid_all hv).1
  rcases indexB_bd l s with a1 | ⟨_, a1⟩
  · omega
  have b1 : ∀ j ∈ pathIx l s, j < l.length := fun j hj => by
    have := rp_le ok.down _ (show (indexB l s).toNat < l.length by omega) j hj
    omega
  refine ⟨?_, ?_⟩
  · have e := namesAt_map hv _ b1
    have e2 : (pathStr l s).size = (pathStr l s).data.toList.length := by simp
    rw [e2, pathStr_ix h1, e, List.length_map]
  · have := rootPath_len l ((indexB l s).toNat + 1) (indexB l s).toNat
    unfold pathIx rp
    omega
theorem comStr_cut {l : List Seg} {s t : ByteArray} (h1 : 0 ≤ indexB l s) (h2 : 0 ≤ indexB l t) (n : Nat) (hn : comCount l s t = n + 1) : (pathStr l s).extract n (n + 1) = comStr l s t := by
  have hv := index_valid h1
  have ok := (valid_all hv).1
  rcases indexB_bd l s with a1 | ⟨_, a1⟩
  · omega
  have b1 : ∀ j ∈ pathIx l s, j < l.length := fun j hj => by
    have := rp_le ok.down _ (show (indexB l s).toNat < l.length by omega) j hj
    omega
  have hle : n < (pathIx l s).length := by have := (comLen_le (pathIx l s) (pathIx l t)).1; unfold comCount at hn; omega
  have e1 : comStr l s t = namesAt l [(pathIx l s)[n]] := by
    unfold comStr
    rw [if_neg (by omega), hn]
    simp [List.getD, List.getElem?_eq_getElem hle]
  have hm : ∀ j ∈ [(pathIx l s)[n]], j < l.length := fun j hj => by
    rw [List.mem_singleton.1 hj]
    exact b1 _ (List.getElem_mem hle)
  have e2 := namesAt_map hv _ hm
  have e3 := namesAt_map hv _ b1
  rw [e1]
  apply ByteArray.ext
  apply Array.ext'
  rw [e2, pathStr_ix h1]
  have e4 : ((namesAt l (pathIx l s)).extract n (n + 1)).data.toList = (((namesAt l (pathIx l s)).data.toList).drop n).take 1 := by
    simp [ByteArray.data_extract]
  rw [e4, e3, ← List.map_drop, List.drop_eq_getElem_cons hle]
  rfl

end Go.Proofs.YtifkmehnikfihaaGreat

/- What the loop of impl.CommonOf leaves, plain. -/
namespace Go.Proofs.YtifkmehnikfihaaGreat
open Go.RowKit

def lastNm (l : List Seg) (T : List Nat) : ByteArray := namesAt l T.getLast?.toList
theorem lastNm_snoc {l : List Seg} (T : List Nat) {v : Nat} (hv : v < l.length) : lastNm l (T ++ [v]) = l[v].name := by
  unfold lastNm
  rw [List.getLast?_concat]
  apply ByteArray.ext
  apply Array.ext'
  simp [namesAt, nmAt_of hv]
theorem com_last {l : List Seg} {s t : ByteArray} (hs : 0 ≤ indexB l s) (ht : 0 ≤ indexB l t) {T : List Nat} (hT : T <+: pathIx l s) (hc : comCount l s t = T.length) : comStr l s t = lastNm l T := by
  have h0 := comCount_pos hs ht
  unfold comStr lastNm
  rw [if_neg (by omega), hc]
  rcases List.eq_nil_or_concat T with h | ⟨A, v, h⟩
  · subst h; simp at hc; omega
  · rw [List.concat_eq_append] at h
    subst h
    obtain ⟨r, hr⟩ := hT
    rw [← hr]
    simp [List.getD]
theorem com_end {l : List Seg} {s t : ByteArray} (hs : 0 ≤ indexB l s) (ht : 0 ≤ indexB l t) {T : List Nat} (hT : T <+: pathIx l s) (hall : ∀ v ∈ T, v ∈ pathIx l t) (hend : T = pathIx l s ∨ ∃ x, T ++ [x] <+: pathIx l s ∧ x ∉ pathIx l t) : comStr l s t = lastNm l T := by
  have hv := index_valid hs
  rcases indexB_bd l s with a1 | ⟨_, a1⟩
  · omega
  rcases indexB_bd l t with a2 | ⟨_, a2⟩
  · omega
  exact com_last hs ht hT (com_of (valid_all hv).1.down (by omega) (by omega) hT hall hend)

/-- A name among a path's names. -/
theorem has_name {l : List Seg} (h : validB l = true) {js : List Nat} (hj : ∀ j ∈ js, j < l.length) {v : Nat} (hv : v < l.length) :
    decide (0 ≤ Lib.indexByte (namesAt l js).data.toList (byteOf l v)) = decide (v ∈ js) := by
  rw [← Lib.contains_iff_indexByte, namesAt_map h js hj]
  by_cases hm : v ∈ js
  · rw [decide_eq_true hm]
    simp only [List.contains_eq_mem, List.mem_map, decide_eq_true_eq]
    exact ⟨v, hm, rfl⟩
  · rw [decide_eq_false hm]
    simp only [List.contains_eq_mem, List.mem_map, decide_eq_false_iff_not]
    rintro ⟨u, hu, he⟩
    exact hm (byteOf_inj h (hj u hu) hv he ▸ hu)

end Go.Proofs.YtifkmehnikfihaaGreat
/- The sorted order, plain: by the segment that is called, and of one segment as they stood. -/
namespace Go.Proofs.YtifkmehnikfihaaGreat
open Go.RowKit

/-- Who is called outermost. -/
def headsB : Forest → List UInt8
  | .nil => []
  | .cons c _ r => c :: headsB r
theorem headsB_app : ∀ f g : Forest, headsB (f.app g) = headsB f ++ headsB g
  | .nil, _ => rfl
  | .cons c k r, g => by
    show c :: headsB (r.app g) = (c :: headsB r) ++ headsB g
    rw [headsB_app r g]; rfl
theorem headsB_len : ∀ f : Forest, (headsB f).length = f.len
  | .nil => rfl
  | .cons c k r => by
    show (c :: headsB r).length = r.len + 1
    rw [List.length_cons, headsB_len r]
theorem headsB_all {P : UInt8 → Bool} : ∀ f : Forest, f.all P → ∀ c ∈ headsB f, P c = true
  | .nil, _, c, h => by cases h
  | .cons a k r, hf, c, h => by
    rcases List.mem_cons.1 h with rfl | h
    · exact hf.1
    · exact headsB_all r hf.2.2 c h
theorem headsB_tops : ∀ (f : Forest) (i : Nat), (topsB f)[i]? = none ∧ (headsB f)[i]? = none ∨ ∃ c x, (topsB f)[i]? = some (c :: x) ∧ (headsB f)[i]? = some c
  | .nil, _ => .inl ⟨rfl, rfl⟩
  | .cons c _ _, 0 => .inr ⟨c, _, rfl, rfl⟩
  | .cons _ _ r, i + 1 => headsB_tops r i

theorem names_list {l : List Seg} (hv : validB l = true) : (namesStr l).data.toList = (List.range l.length).map (byteOf l) := by
  have h1 : namesStr l = seenOf l l.length := if_pos hv
  rw [h1, ← range_names l l.length (Nat.le_refl _)]
  have : ∀ js : List Nat, (∀ j ∈ js, j < l.length) → js.flatMap (nmAt l) = js.map (byteOf l) := by
    intro js
    induction js with
    | nil => intro _; rfl
    | cons j js ih =>
      intro h
      rw [List.flatMap_cons, List.map_cons, ih fun x hx => h x (List.mem_cons_of_mem _ hx), (nmAt_one hv (h j List.mem_cons_self)).1]
      rfl
  exact this _ fun j hj => List.mem_range.1 hj
theorem indexByte_at : ∀ (xs : List UInt8) (t : Nat) (h : t < xs.length), (∀ j (hj : j < t), xs[j] ≠ xs[t]) → Lib.indexByte xs xs[t] = (t : Int)
  | [], t, h, _ => absurd h (by simp)
  | x :: xs, 0, _, _ => by
    show (if x == x then (0 : Int) else _) = 0
    rw [if_pos (beq_self_eq_true x)]
  | x :: xs, t + 1, h, hd => by
    have h0 : x ≠ xs[t]'(by simpa using h) := hd 0 (by omega)
    have ih := indexByte_at xs t (by simpa using h) fun j hj => hd (j + 1) (by omega)
    show (if x == xs[t]'_ then (0 : Int) else if Lib.indexByte xs (xs[t]'_) == -1 then -1 else Lib.indexByte xs (xs[t]'_) + 1) = _
    rw [if_neg (by simpa using h0), ih, if_neg (by rw [beq_iff_eq]; omega)]
    omega
/-- Where a name stands among all. -/
def placeOf (l : List Seg) (c : UInt8) : Int := Lib.indexByte (namesStr l).data.toList c
theorem placeOf_at {l : List Seg} (hv : validB l = true) {t : Nat} (ht : t < l.length) : placeOf l (byteOf l t) = (t : Int) := by
  unfold placeOf
  rw [names_list hv]
  have hl : t < ((List.range l.length).map (byteOf l)).length := by simpa using ht
  have h1 := indexByte_at ((List.range l.length).map (byteOf l)) t hl fun j hj => by
    rw [List.getElem_map, List.getElem_map, List.getElem_range, List.getElem_range]
    intro e
    have := byteOf_inj hv (by omega) ht e
    omega
  rw [List.getElem_map, List.getElem_range] at h1
  exact h1
theorem callP_byte11 {l : List Seg} (hv : validB l = true) {c : UInt8} (h : callP l c = true) : ∃ t, t < l.length ∧ byteOf l t = c := by
  rw [callP_taken hv] at h
  obtain ⟨s, hs, e⟩ := List.any_eq_true.1 h
  obtain ⟨t, ht, rfl⟩ := List.getElem_of_mem hs
  refine ⟨t, ht, ?_⟩
  have h1 := (nmAt_one hv ht).2
  have h2 := sameB_iff.1 e
  rw [h1] at h2
  injection h2 with h2
  injection h2 with h2
  injection h2

/-- Two lists in one strict order with the same members are the same. -/
theorem eq_of_strict {R : Nat → Nat → Prop} (irr : ∀ a, ¬ R a a) (tr : ∀ a b c, R a b → R b c → R a c) : ∀ (xs ys : List Nat), xs.Pairwise R → ys.Pairwise R → (∀ a, a ∈ xs ↔ a ∈ ys) → xs = ys
  | [], [], _, _, _ => rfl
  | [], b :: ys, _, _, h => absurd ((h b).2 List.mem_cons_self) (by simp)
  | a :: xs, [], _, _, h => absurd ((h a).1 List.mem_cons_self) (by simp)
  | a :: xs, b :: ys, hx, hy, h => by
    rw [List.pairwise_cons] at hx hy
    have hab : a = b := by
      rcases List.mem_cons.1 ((h a).1 List.mem_cons_self) with e | h1
      · exact e
      · rcases List.mem_cons.1 ((h b).2 List.mem_cons_self) with e | h2
        · exact e.symm
        · exact absurd (tr a b a (hx.1 b h2) (hy.1 a h1)) (irr a)
    subst hab
    rw [eq_of_strict irr tr xs ys hx.2 hy.2 fun c => ?_]
    constructor
    · intro hc
      rcases List.mem_cons.1 ((h c).1 (List.mem_cons_of_mem _ hc)) with e | h1
      · subst e; exact absurd (hx.1 _ hc) (irr _)
      · exact h1
    · intro hc
      rcases List.mem_cons.1 ((h c).2 (List.mem_cons_of_mem _ hc)) with e | h1
      · subst e; exact absurd (hy.1 _ hc) (irr _)
      · exact h1

/-- The calls of one segment, by their numbers. -/
def groupB (l : List Seg) (cs : List UInt8) (t : Nat) : List Nat := (List.range cs.length).filter fun i => cs.getD i 0 == byteOf l t
/-- The sorted order, as the reference puts it together. -/
def sortNat (l : List Seg) (cs : List UInt8) : List Nat := (List.range l.length).flatMap (groupB l cs)
def keyOf (l : List Seg) (cs : List UInt8) (i : Nat) : Int := placeOf l (cs.getD i 0)
theorem groupB_mem {l : List Seg} {cs : List UInt8} {t i : Nat} : i ∈ groupB l cs t ↔ i < cs.length ∧ cs.getD i 0 = byteOf l t := by
  unfold groupB
  rw [List.mem_filter, List.mem_range, beq_iff_eq]
theorem sortNat_mem {l : List Seg} {cs : List UInt8} (hv : validB l = true) (hc : ∀ c ∈ cs, callP l c = true) (i : Nat) : i ∈ sortNat l cs ↔ i < cs.length := by
  unfold sortNat
  rw [List.mem_flatMap]
  constructor
  · rintro ⟨t, _, h⟩
    exact (groupB_mem.1 h).1
  · intro hi
    have h1 : cs.getD i 0 ∈ cs := by
      rw [getD_in cs i 0 hi]; exact List.getElem_mem hi
    obtain ⟨t, ht, e⟩ := callP_byte11 hv (hc _ h1)
    exact ⟨t, List.mem_range.2 ht, groupB_mem.2 ⟨hi, e.symm⟩⟩
theorem range_lt (n : Nat) : (List.range n).Pairwise (· < ·) := by
  rw [List.pairwise_iff_getElem]
  intro i j hi hj hij
  rw [List.getElem_range, List.getElem_range]; exact hij
theorem sortNat_sorted {l : List Seg} {cs : List UInt8} (hv : validB l = true) : (sortNat l cs).Pairwise (Ahead (keyOf l cs)) := by
  unfold sortNat
  rw [List.pairwise_flatMap]
  refine ⟨fun t ht => ?_, ?_⟩
  · have ht' := List.mem_range.1 ht
    have h1 : (groupB l cs t).Pairwise (· < ·) := (range_lt _).sublist List.filter_sublist
    refine List.Pairwise.imp_of_mem (fun {a b} ha hb hab => ?_) h1
    refine .inr ⟨?_, hab⟩
    unfold keyOf
    rw [(groupB_mem.1 ha).2, (groupB_mem.1 hb).2]
  · refine List.Pairwise.imp_of_mem (fun {s t} hs ht hst => ?_) (range_lt l.length)
    intro a ha b hb
    refine .inl ?_
    unfold keyOf
    rw [(groupB_mem.1 ha).2, (groupB_mem.1 hb).2, placeOf_at hv (List.mem_range.1 hs), placeOf_at hv (List.mem_range.1 ht)]
    omega
/-- What the sort leaves is that order. -/
theorem sorted_is {l : List Seg} {cs : List UInt8} (hv : validB l = true) (hc : ∀ c ∈ cs, callP l c = true) {d : Nat → Nat} (hs : Sorted11 (keyOf l cs) d 0 cs.length) (hd : ∀ k, k < cs.length → d k < cs.length) : (List.range cs.length).map d = sortNat l cs := by
  have hp : ((List.range cs.length).map d).Pairwise (Ahead (keyOf l cs)) := by
    rw [List.pairwise_iff_getElem]
    intro i j hi hj hij
    rw [List.getElem_map, List.getElem_map, List.getElem_range, List.getElem_range]
    exact hs i j (Nat.zero_le _) hij (by simpa using hj)
  refine eq_of_strict (fun a h => h.irrefl) (fun a b c h k => h.trans k) _ _ hp (sortNat_sorted hv) fun a => ?_
  rw [sortNat_mem hv hc]
  constructor
  · intro ha
    obtain ⟨k, hk, e⟩ := List.mem_map.1 ha
    rw [← e]; exact hd k (List.mem_range.1 hk)
  · intro ha
    -- as many different numbers below n as there are
    have hn : (((List.range cs.length).map d).map (fun (x : Nat) => (x : Int))).Nodup := by
      rw [List.Nodup, List.pairwise_map]
      exact hp.imp fun {x y} h e => by
        have : x = y := by omega
        subst this; exact h.irrefl
    have h1 := all_of_nodup cs.length _ hn (fun x hx => by
      obtain ⟨y, hy, e⟩ := List.mem_map.1 hx
      obtain ⟨k, hk, e2⟩ := List.mem_map.1 hy
      have := hd k (List.mem_range.1 hk)
      omega) (by simp) a ha
    obtain ⟨y, hy, e⟩ := List.mem_map.1 h1
    have : y = a := by omega
    rw [← this]; exact hy
def sortRes (l : List Seg) (t : ByteArray) : List Int := match traceB l t.data.toList with
  | none => []
  | some f => (sortNat l (headsB f)).map fun (i : Nat) => (i : Int)

end Go.Proofs.YtifkmehnikfihaaGreat
/- The reference's calls in memory. -/
namespace Go.Proofs.YtifkmehnikfihaaGreat
open Go.RowKit

/-- The reference's calls 'f' lie in block 'g' from cell 'o' on. -/
def SCells (w : World) (S : Nat → Prop) : Forest → Nat → Nat → Prop
  | .nil, _, _ => True
  | .cons c k r, g, o => w.cell? ⟨g, o, none⟩ = some (.string ⟨#[c]⟩) ∧ (∃ A cap, w.cell? ⟨g, o + 1, none⟩ = some (.slice A k.len cap) ∧ (k.isNil = false → ∃ h, A = some ⟨h, 0, none⟩ ∧ S h ∧ SCells w S k h 0)) ∧ SCells w S r g (o + 2)
def IsKids (w : World) (S : Nat → Prop) (k : Forest) (v : Value) : Prop :=
  ∃ A cap, v = .slice A k.len cap ∧ (k.isNil = false → ∃ h, A = some ⟨h, 0, none⟩ ∧ S h ∧ SCells w S k h 0)
theorem SCells.keep {w w' : World} {S S' : Nat → Prop} (hS : ∀ q, S q → S' q ∧ w'.heap[q]? = w.heap[q]?) : ∀ (f : Forest) (g o : Nat), w'.heap[g]? = w.heap[g]? → SCells w S f g o → SCells w' S' f g o
  | .nil, _, _, _, _ => trivial
  | .cons c k r, g, o, hg, h => by
    obtain ⟨hc, ⟨A, cap, hv, hk⟩, hr⟩ := h
    refine ⟨(cell_same hg o).trans hc, ⟨A, cap, (cell_same hg _).trans hv, fun hn => ?_⟩, SCells.keep hS r g (o + 2) hg hr⟩
    obtain ⟨q, e, hs, hk⟩ := hk hn
    exact ⟨q, e, (hS q hs).1, SCells.keep hS k q 0 (hS q hs).2 hk⟩
theorem IsKids.keep {w w' : World} {S S' : Nat → Prop} (hS : ∀ q, S q → S' q ∧ w'.heap[q]? = w.heap[q]?) {k : Forest} {v : Value} (h : IsKids w S k v) : IsKids w' S' k v := by
  obtain ⟨A, cap, hv, hk⟩ := h
  refine ⟨A, cap, hv, fun hn => ?_⟩
  obtain ⟨q, e, hs, hk⟩ := hk hn
  exact ⟨q, e, (hS q hs).1, SCells.keep hS k q 0 (hS q hs).2 hk⟩

def SVals (w : World) (S : Nat → Prop) : Forest → List Value → Prop
  | .nil, xs => xs = []
  | .cons c k r, xs => ∃ v vs, xs = .string ⟨#[c]⟩ :: v :: vs ∧ IsKids w S k v ∧ SVals w S r vs
theorem SVals.keep {w w' : World} {S S' : Nat → Prop} (hS : ∀ q, S q → S' q ∧ w'.heap[q]? = w.heap[q]?) : ∀ (f : Forest) (xs : List Value), SVals w S f xs → SVals w' S' f xs
  | .nil, _, h => h
  | .cons c k r, xs, h => by
    obtain ⟨v, vs, e, hc, hr⟩ := h
    exact ⟨v, vs, e, hc.keep hS, SVals.keep hS r vs hr⟩
theorem SVals.snoc {w : World} {S : Nat → Prop} {c : UInt8} {k : Forest} {v : Value} (hc : IsKids w S k v) : ∀ (f : Forest) (xs : List Value), SVals w S f xs → SVals w S (f.app (.cons c k .nil)) (xs ++ [.string ⟨#[c]⟩, v])
  | .nil, xs, h => by
    have h' : xs = [] := h
    subst h'
    exact ⟨v, [], rfl, hc, rfl⟩
  | .cons c' k' r, xs, h => by
    obtain ⟨v', vs, e, hc', hr⟩ := h
    subst e
    exact ⟨v', vs ++ [.string ⟨#[c]⟩, v], rfl, hc', SVals.snoc hc r vs hr⟩
theorem SVals.len {w : World} {S : Nat → Prop} : ∀ (f : Forest) (xs : List Value), SVals w S f xs → xs.length = f.len * 2
  | .nil, xs, h => by
    have h' : xs = [] := h
    subst h'; rfl
  | .cons c k r, xs, h => by
    obtain ⟨v, vs, e, _, hr⟩ := h
    subst e
    show vs.length + 1 + 1 = (r.len + 1) * 2
    rw [SVals.len r vs hr]; omega
theorem SVals.cells {w : World} {S : Nat → Prop} {g : Nat} : ∀ (f : Forest) (xs : List Value) (o : Nat), SVals w S f xs → (∀ i, i < xs.length → w.cell? ⟨g, o + i, none⟩ = xs[i]?) → SCells w S f g o
  | .nil, _, _, _, _ => trivial
  | .cons c k r, xs, o, h, hx => by
    obtain ⟨v, vs, e, ⟨A, cap, hv, hk⟩, hr⟩ := h
    subst e
    refine ⟨hx 0 (by simp), ⟨A, cap, ?_, hk⟩, SVals.cells r vs (o + 2) hr fun i hi => ?_⟩
    · rw [← hv]; exact hx 1 (by simp)
    · have := hx (i + 2) (by simp; omega)
      rw [show o + 2 + i = o + (i + 2) by omega, this]
      simp

/-- A slice of the reference's calls, of the reader's own. -/
def OwnS (w : World) (B : Nat) (v : Value) (f : Forest) : Prop :=
  ∃ xs, w.ownsRow B 210 2 v f.len xs ∧ SVals w (fun q => B ≤ q ∧ q < w.heap.size ∧ v.ownBlock ≠ some q) f xs
theorem OwnS.lt {w : World} {B : Nat} {v : Value} {f : Forest} (h : OwnS w B v f) : ∀ x, v.ownBlock = some x → B ≤ x ∧ x < w.heap.size := by
  obtain ⟨xs, hown, _⟩ := h
  exact fun x e => hown.lt x e
theorem OwnS.form {w : World} {B : Nat} {v : Value} {f : Forest} (h : OwnS w B v f) : ∃ A cap, v = .slice A f.len cap := by
  obtain ⟨xs, hown, _⟩ := h
  rcases hown.2 with ⟨rfl, h0⟩ | ⟨g, cap, cur, rfl, hg, hh, r⟩
  · exact ⟨none, 0, by rw [h0]⟩
  · exact ⟨_, cap, rfl⟩
theorem OwnS.kids {w : World} {B : Nat} {v : Value} {f : Forest} (h : OwnS w B v f) : IsKids w (fun q => B ≤ q ∧ q < w.heap.size) f v := by
  obtain ⟨xs, hown, hv⟩ := h
  have hx := SVals.len f xs hv
  rcases hown.2 with ⟨rfl, h0⟩ | ⟨g, cap, cur, rfl, hg, hh, r⟩
  · refine ⟨none, 0, by rw [h0], fun hn => ?_⟩
    rw [Forest.isNil_len, h0] at hn
    cases hn
  · refine ⟨_, cap, rfl, fun hn => ⟨g, rfl, ⟨hg, (Array.getElem?_eq_some_iff.1 hh).1⟩, ?_⟩⟩
    refine SVals.cells f xs 0 (SVals.keep (fun q h => ⟨⟨h.1, h.2.1⟩, rfl⟩) f xs hv) fun i hi => ?_
    rw [Nat.zero_add]
    exact World.ownsRow.cellAt hown i (by omega)
theorem OwnS.far {w w' : World} {B : Nat} {v : Value} {f : Forest} (h : OwnS w B v f) (hz : w.heap.size ≤ w'.heap.size) (hk : ∀ q, B ≤ q → q < w.heap.size → w'.heap[q]? = w.heap[q]?) : OwnS w' B v f := by
  obtain ⟨xs, hown, hv⟩ := h
  refine ⟨xs, ⟨hown.1, ?_⟩, SVals.keep (fun q h => ⟨⟨h.1, by omega, h.2.2⟩, hk q h.1 h.2.1⟩) f xs hv⟩
  rcases hown.2 with h0 | ⟨g', cap, cur, rfl, hg, hh, r⟩
  · exact .inl h0
  · exact .inr ⟨g', cap, cur, rfl, hg, (hk g' hg (Array.getElem?_eq_some_iff.1 hh).1).trans hh, r⟩
theorem OwnS.only {w w' : World} {B b : Nat} {v : Value} {f : Forest} (h : OwnS w B v f) (ho : Only w w' (· = b)) (hb : b < B) : OwnS w' B v f :=
  h.far ho.size fun q h1 h2 => ho.block q h2 (by omega)
theorem OwnS.empty (w : World) {B : Nat} (hB : B ≤ w.heap.size) : OwnS (w.alloc (.cells #[] 210)) B (.slice (some ⟨w.heap.size, 0, none⟩) 0 0) .nil :=
  ⟨[], World.ownsRow_lit (base := B) (e := 210) (size := 2) w #[] 0 hB (by simp [maxLen]) rfl, rfl⟩
theorem OwnS.more {w W w' : World} {B : Nat} {v v' u : Value} {f k : Forest} {c : UInt8} {xs : List Value} (hv : SVals w (fun q => B ≤ q ∧ q < w.heap.size ∧ v.ownBlock ≠ some q) f xs)
    (hu : IsKids w (fun q => B ≤ q ∧ q < w.heap.size ∧ v.ownBlock ≠ some q) k u)
    (hW : Below w.heap.size w W) (hg : W.grownBy w' v.ownBlock) (hown' : w'.ownsRow B 210 2 v' (f.len + 1) (xs ++ [.string ⟨#[c]⟩, u])) (hat : v'.ownBlock = v.ownBlock ∨ v'.ownBlock = some W.heap.size) :
    OwnS w' B v' (f.app (.cons c k .nil)) := by
  have hs := hW.size
  have hs2 := hg.size
  have keep : ∀ q, q < w.heap.size → v.ownBlock ≠ some q → w'.heap[q]? = w.heap[q]? := fun q h1 h2 => (hg.block q (by omega) (fun e => h2 e.symm)).trans (hW.block q h1)
  have ne : ∀ q, q < w.heap.size → v.ownBlock ≠ some q → v'.ownBlock ≠ some q := fun q h1 h2 => by
    rcases hat with e | e
    · rw [e]; exact h2
    · rw [e]; intro he; injection he with he; omega
  exact ⟨xs ++ [.string ⟨#[c]⟩, u], by rw [Forest.app_len]; exact hown', SVals.snoc (hu.keep fun q h => ⟨⟨h.1, by omega, ne q h.2.1 h.2.2⟩, keep q h.2.1 h.2.2⟩) f xs (SVals.keep (fun q h => ⟨⟨h.1, by omega, ne q h.2.1 h.2.2⟩, keep q h.2.1 h.2.2⟩) f xs hv)⟩

/-- The same, all of it below block 'N'. -/
def OwnN (w : World) (B N : Nat) (v : Value) (f : Forest) : Prop :=
  N ≤ w.heap.size ∧ (∀ x, v.ownBlock = some x → x < N) ∧ ∃ xs, w.ownsRow B 210 2 v f.len xs ∧ SVals w (fun q => B ≤ q ∧ q < N ∧ v.ownBlock ≠ some q) f xs
theorem OwnS.toN {w : World} {B : Nat} {v : Value} {f : Forest} (h : OwnS w B v f) : OwnN w B w.heap.size v f := by
  have hl := h.lt
  obtain ⟨xs, hown, hv⟩ := h
  exact ⟨Nat.le_refl _, fun x e => (hl x e).2, xs, hown, hv⟩
theorem OwnN.lt {w : World} {B N : Nat} {v : Value} {f : Forest} (h : OwnN w B N v f) : ∀ x, v.ownBlock = some x → B ≤ x ∧ x < N := by
  obtain ⟨_, hN, xs, hown, _⟩ := h
  exact fun x e => ⟨(hown.lt x e).1, hN x e⟩
theorem OwnN.far {w w' : World} {B N : Nat} {v : Value} {f : Forest} (h : OwnN w B N v f) (hz : w.heap.size ≤ w'.heap.size) (hk : ∀ q, B ≤ q → q < N → w'.heap[q]? = w.heap[q]?) : OwnN w' B N v f := by
  obtain ⟨h1, hN, xs, hown, hv⟩ := h
  refine ⟨by omega, hN, xs, ⟨hown.1, ?_⟩, SVals.keep (fun q h => ⟨h, hk q h.1 h.2.1⟩) f xs hv⟩
  rcases hown.2 with h0 | ⟨g', cap, cur, rfl, hg, hh, r⟩
  · exact .inl h0
  · exact .inr ⟨g', cap, cur, rfl, hg, (hk g' hg (hN g' rfl)).trans hh, r⟩
theorem OwnN.below {w w' : World} {B N : Nat} {v : Value} {f : Forest} (h : OwnN w B N v f) (hb : Below w.heap.size w w') : OwnN w' B N v f := h.far hb.size fun q _ h2 => hb.block q (by have := h.1; omega)
theorem OwnN.same {w w' : World} {B N : Nat} {v : Value} {f : Forest} (h : OwnN w B N v f) (hh : w'.heap = w.heap) : OwnN w' B N v f := h.far (by rw [hh]; exact Nat.le_refl _) fun q _ _ => by rw [hh]
theorem OwnN.only {w w' : World} {B N b : Nat} {v : Value} {f : Forest} (h : OwnN w B N v f) (ho : Only w w' (· = b)) (hb : b < B) : OwnN w' B N v f :=
  h.far ho.size fun q h1 h2 => ho.block q (by have := h.1; omega) (by omega)
theorem OwnN.setRow {w : World} {B N b : Nat} {v : Value} {f : Forest} (h : OwnN w B N v f) (hb : b < B) (i : Nat) (u : Value) : OwnN (w.setCell ⟨b, i, none⟩ u) B N v f :=
  h.far (by simp [World.setCell]) fun q h1 _ => Below.heap_setCell w ⟨b, i, none⟩ u q (by show q ≠ b; omega)
theorem OwnN.setAt {w : World} {B N X : Nat} {v : Value} {f : Forest} (h : OwnN w B N v f) (hX : N ≤ X) (i : Nat) (u : Value) : OwnN (w.setCell ⟨X, i, none⟩ u) B N v f :=
  h.far (by simp [World.setCell]) fun q _ h2 => Below.heap_setCell w ⟨X, i, none⟩ u q (by show q ≠ X; omega)
theorem OwnN.form {w : World} {B N : Nat} {v : Value} {f : Forest} (h : OwnN w B N v f) : ∃ xs, w.ownsRow B 210 2 v f.len xs ∧ SVals w (fun q => B ≤ q ∧ q < w.heap.size ∧ v.ownBlock ≠ some q) f xs := by
  obtain ⟨h1, _, xs, hown, hv⟩ := h
  exact ⟨xs, hown, SVals.keep (fun q h => ⟨⟨h.1, by omega, h.2.2⟩, rfl⟩) f xs hv⟩

theorem own_form2 {w : World} {base : Nat} {e : TypeId} {v : Value} {n : Nat} {xs : List Value} (h : w.ownsRow base e 2 v n xs) (hn : 0 < n) : ∃ g cap, v = .slice (some ⟨g, 0, none⟩) n cap := by
  rcases h.2 with ⟨rfl, h0⟩ | ⟨g, cap, cur, rfl, hg, hh, r⟩
  · omega
  · exact ⟨g, cap, rfl⟩

theorem info_l4 : (Tryz.prog.info? 210).map (fun i => (i.zero, i.size, i.bytes)) = some (some (.agg #[.string ByteArray.empty, .slice none 0 0]), 2, 40) := by kernel_rfl

/-- The reference's reader. -/
def rdCells (t : ByteArray) (a : Int) (bad : Bool) (tv : Value) (dp : Int) : Array Value := #[.string t, .int .i64 a, .bool bad, tv, .int .i64 dp]

/-- What is read so far. -/
def SRel (w : World) (b : Nat) (t : ByteArray) (k₀ : Nat) (tv : Value) (dp : Int) (P : UInt8 → Bool) (d : Nat) (v : Value) (wr : World) : Prop :=
  Only w wr (· = b) ∧ ((∃ (F : Forest) (k : Nat), k ≤ t.size ∧ F.len ≤ k ∧ OwnS wr w.heap.size v F ∧ Row wr b 239 (rdCells t k false tv dp) ∧ calls P d (t.data.toList.drop k₀) = ahead F (calls P d (t.data.toList.drop k))) ∨
    (∃ (a : Int) (A : Option Addr) (n cap : Nat), v = .slice A n cap ∧ 0 ≤ a ∧ a ≤ (t.size : Int) + 1 + (d : Int) ∧ Row wr b 239 (rdCells t a true tv dp) ∧ calls P d (t.data.toList.drop k₀) = none))
/-- One call is read, its cells in block 'X'. -/
def SMid (w : World) (b : Nat) (t : ByteArray) (k₀ : Nat) (tv : Value) (dp : Int) (P : UInt8 → Bool) (d kp N : Nat) (c : UInt8) (F : Forest) (v xp : Value) (wr : World) : Prop :=
  ∃ (X : Nat) (kv : Value), xp = .pointer (some ⟨X, 0, none⟩) ∧ Row wr X 210 #[.string ⟨#[c]⟩, kv] ∧ Only w wr (· = b) ∧ OwnN wr w.heap.size N v F ∧
    ((∃ (kf : Forest) (k : Nat), k ≤ t.size ∧ F.len + 1 ≤ k ∧ kp < k ∧ Row wr b 239 (rdCells t k false tv dp) ∧ IsKids wr (fun q => w.heap.size ≤ q ∧ q < wr.heap.size ∧ v.ownBlock ≠ some q) kf kv ∧ calls P d (t.data.toList.drop k₀) = ahead (F.app (.cons c kf .nil)) (calls P d (t.data.toList.drop k))) ∨
    (∃ (a : Int) (A : Option Addr) (n cap : Nat), kv = .slice A n cap ∧ 0 ≤ a ∧ a ≤ (t.size : Int) + 1 + (d : Int) ∧ Row wr b 239 (rdCells t a true tv dp) ∧ calls P d (t.data.toList.drop k₀) = none))
/-- What the reference's reader has done. -/
def SPost (w : World) (b : Nat) (t : ByteArray) (k₀ : Nat) (tv : Value) (dp : Int) (P : UInt8 → Bool) (d : Nat) (e : Ending) (w' : World) : Prop :=
  ∃ v, e = .returned v ∧ Only w w' (· = b) ∧ ((∃ (F : Forest) (k : Nat), k ≤ t.size ∧ OwnS w' w.heap.size v F ∧ Row w' b 239 (rdCells t k false tv dp) ∧ calls P d (t.data.toList.drop k₀) = some (F, t.data.toList.drop k)) ∨
    (∃ (a : Int) (A : Option Addr) (n cap : Nat), v = .slice A n cap ∧ 0 ≤ a ∧ a ≤ (t.size : Int) + 1 + (d : Int) ∧ Row w' b 239 (rdCells t a true tv dp) ∧ calls P d (t.data.toList.drop k₀) = none))

/-- How much is left. -/
def leftS (t : ByteArray) (b : Nat) (w : World) : Nat := match w.cell? ⟨b, 2, none⟩, w.cell? ⟨b, 1, none⟩ with
  | some (.bool false), some i => t.size + 1 - (intOf i).toNat
  | _, _ => 0
theorem leftS_good {t : ByteArray} {b : Nat} {w : World} {k : Nat} {tv : Value} {dp : Int} (h : Row w b 239 (rdCells t k false tv dp)) : leftS t b w = t.size + 1 - k := by
  unfold leftS
  rw [h.cell 2, h.cell 1]
  show t.size + 1 - ((k : Int)).toNat = _
  rw [Int.toNat_natCast]
theorem leftS_bad {t : ByteArray} {b : Nat} {w : World} {a : Int} {tv : Value} {dp : Int} (h : Row w b 239 (rdCells t a true tv dp)) : leftS t b w = 0 := by
  unfold leftS
  rw [h.cell 2, h.cell 1]
  rfl

end Go.Proofs.YtifkmehnikfihaaGreat
