/- Joined: Vq Vm Vr. -/
import Derived.Test.YtadichddgpojpaaU17
import Derived.Test.YtadichddgpojpaaU18
import Derived.Test.YtadichddgpojpaaU13
import Derived.Test.YtadichddgpojpaaU12
/- Chapter 9, plain: a segment merged into its parent, and one moved up. -/
namespace Go.Proofs.Ytadichddgpojpaa

/-- A merged tree: all but the one. -/
theorem anc9_merge {ps : Nat → Int} {n i p : Nat} (ht : Tree9 ps n) (hi : i < n) (h0 : 0 < i) (hp : ps i = (p : Int)) : ∀ m a, a ≤ m → a < n → (Anc9 (mergeP ps i p) 0 a ↔ a ≠ i) := by
  have hf := ht.fall
  have hpi := hf i hi
  intro m
  induction m with
  | zero =>
    intro a h1 _
    have : a = 0 := by omega
    subst this
    exact ⟨fun _ => by omega, fun _ => .refl⟩
  | succ m ih =>
    intro a h1 h2
    constructor
    · rintro h rfl
      cases h with
      | refl => omega
      | @step _ k hk _ =>
        unfold mergeP at hk
        rw [if_pos rfl] at hk
        omega
    · intro hne
      by_cases ha0 : a = 0
      · subst ha0; exact .refl
      · obtain ⟨q, h3, h4, _⟩ := ht.up a (by omega) h2
        by_cases hq : q = i
        · subst hq
          refine .step (k := p) ?_ ((ih p (by omega) (by omega)).2 (by omega))
          unfold mergeP
          rw [if_neg hne, if_pos h3]
        · refine .step (k := q) ?_ ((ih q (by omega) (by omega)).2 hq)
          unfold mergeP
          rw [if_neg hne, if_neg (by omega), h3]
theorem anc9_move {ps : Nat → Int} {n i p q : Nat} (ht : Tree9 ps n) (hi : i < n) (hp : ps i = (p : Int)) (hq : ps p = (q : Int)) : ∀ m a, a ≤ m → a < n → Anc9 (moveP ps i q) 0 a := by
  have hf := ht.fall
  have hpi := hf i hi
  have hqp := hf p (by omega)
  intro m
  induction m with
  | zero =>
    intro a h1 _
    have : a = 0 := by omega
    subst this
    exact .refl
  | succ m ih =>
    intro a h1 h2
    by_cases ha0 : a = 0
    · subst ha0; exact .refl
    · obtain ⟨k, h3, h4, _⟩ := ht.up a (by omega) h2
      by_cases hai : a = i
      · subst hai
        refine .step (k := q) ?_ (ih q (by omega) (by omega))
        unfold moveP
        rw [if_pos rfl]
      · refine .step (k := k) ?_ (ih k (by omega) (by omega))
        unfold moveP
        rw [if_neg hai, h3]
theorem sum9_upd {f : Nat → Int} {p : Nat} {d : Int} : ∀ n, ((List.range n).map (fun k => if k = p then f p + d else f k)).sum = ((List.range n).map f).sum + if p < n then d else 0
  | 0 => by simp
  | n + 1 => by
    rw [List.range_succ, List.map_append, List.sum_append, List.map_append, List.sum_append, sum9_upd n]
    simp only [List.map_cons, List.map_nil, List.sum_cons, List.sum_nil]
    by_cases h : n = p
    · subst h
      rw [if_pos rfl, if_neg (by omega), if_pos (by omega)]
      omega
    · rw [if_neg h]
      by_cases h2 : p < n
      · rw [if_pos h2, if_pos (by omega)]; omega
      · rw [if_neg h2, if_neg (by omega)]; omega

/-- What MergeIn is about. -/
structure Merge9 (l : List Seg) (s : ByteArray) (i p : Nat) : Prop where
  valid : validB l = true
  ix : indexB l s = (i : Int)
  lt : i < l.length
  pos : 0 < i
  par : parAt l i = (p : Int)
  plt : p < i
theorem merge9_at {l : List Seg} {s : ByteArray} (h : 0 < indexB l s) : ∃ p, Merge9 l s (ix9 l s) p ∧ up9 l s = p := by
  obtain ⟨hv, hi⟩ := index9_valid (s := s) (l := l) (by omega)
  have h1 : indexB l s = ((ix9 l s : Nat) : Int) := by unfold ix9; omega
  obtain ⟨p, h2, h3, _⟩ := (tree9_of hv).up (ix9 l s) (by omega) hi
  refine ⟨p, ⟨hv, h1, hi, by omega, h2, h3⟩, ?_⟩
  unfold up9
  rw [h2]
  rfl
theorem Merge9.cut {l : List Seg} {s : ByteArray} {i p : Nat} (h : Merge9 l s i p) :
    Cut9 (made9 l (mergeZ9 (sizeAt l) p i) (mergeP (parAt l) i p) 0) (nmAt9 l) (mergeZ9 (sizeAt l) p i) (mergeP (parAt l) i p) l.length 0 (sub9 (mergeP (parAt l) i p) l.length 0) :=
  made9_cut (mergeP_fall (tree9_of h.valid).fall h.lt h.par) (by have := h.lt; omega)
theorem Merge9.mem {l : List Seg} {s : ByteArray} {i p : Nat} (h : Merge9 l s i p) {a : Nat} : a ∈ sub9 (mergeP (parAt l) i p) l.length 0 ↔ a < l.length ∧ a ≠ i := by
  rw [h.cut.mem]
  constructor
  · rintro ⟨h1, h2⟩; exact ⟨h1, (anc9_merge (tree9_of h.valid) h.lt h.pos h.par a a (Nat.le_refl _) h1).1 h2⟩
  · rintro ⟨h1, h2⟩; exact ⟨h1, (anc9_merge (tree9_of h.valid) h.lt h.pos h.par a a (Nat.le_refl _) h1).2 h2⟩
theorem Merge9.sums {l : List Seg} {s : ByteArray} {i p : Nat} (h : Merge9 l s i p) {f : Nat → Int} :
    ((sub9 (mergeP (parAt l) i p) l.length 0).map f).sum + f i = ((List.range l.length).map f).sum := by
  have hnd := h.cut.nodup
  have h1 : (sub9 (mergeP (parAt l) i p) l.length 0 ++ [i]).Nodup := List.nodup_append.2 ⟨hnd, by simp, fun x hx y hy e => by
    have h2 := (h.mem.1 hx).2
    rw [List.mem_singleton] at hy
    omega⟩
  have h2 := sum9_perm (f := f) h1 List.nodup_range fun x => by
    rw [List.mem_append, h.mem, List.mem_singleton, List.mem_range]
    constructor
    · rintro (h3 | h3)
      · exact h3.1
      · rw [h3]; exact h.lt
    · intro h3
      by_cases h4 : x = i
      · exact .inr h4
      · exact .inl ⟨h3, h4⟩
  rw [List.map_append, List.sum_append] at h2
  simpa using h2
theorem Merge9.len {l : List Seg} {s : ByteArray} {i p : Nat} (h : Merge9 l s i p) : (made9 l (mergeZ9 (sizeAt l) p i) (mergeP (parAt l) i p) 0).length + 1 = l.length := by
  have h1 := h.sums (f := fun _ => 1)
  have hc : ∀ L : List Nat, (L.map fun _ => (1 : Int)).sum = (L.length : Int) := by
    intro L
    induction L with
    | nil => rfl
    | cons a L ih => simp only [List.map_cons, List.sum_cons, ih, List.length_cons]; omega
  rw [hc, hc, List.length_range] at h1
  rw [h.cut.len]
  omega
theorem Merge9.total {l : List Seg} {s : ByteArray} {i p : Nat} (h : Merge9 l s i p) :
    sumTo (made9 l (mergeZ9 (sizeAt l) p i) (mergeP (parAt l) i p) 0) (made9 l (mergeZ9 (sizeAt l) p i) (mergeP (parAt l) i p) 0).length = sumTo l l.length := by
  rw [h.cut.sum]
  have h1 := h.sums (f := mergeZ9 (sizeAt l) p i)
  have h2 := sum9_upd (f := sizeAt l) (p := p) (d := sizeAt l i) l.length
  have h3 := range9_sum (l := l) l.length (Nat.le_refl _)
  rw [if_pos (by have := h.lt; have := h.plt; omega)] at h2
  have h4 : mergeZ9 (sizeAt l) p i i = sizeAt l i := if_neg (by have := h.plt; omega)
  have h5 : (fun k => if k = p then sizeAt l p + sizeAt l i else sizeAt l k) = mergeZ9 (sizeAt l) p i := rfl
  rw [h5] at h2
  omega
/-- Where segments of a merged tree end. -/
theorem Merge9.ends {l : List Seg} {s : ByteArray} {i p : Nat} (h : Merge9 l s i p) : ∀ m a k, a ≤ m → (sub9 (mergeP (parAt l) i p) l.length 0)[k]? = some a →
    (a < p → endAt (made9 l (mergeZ9 (sizeAt l) p i) (mergeP (parAt l) i p) 0) k = endAt l a) ∧
    (a = p → endAt (made9 l (mergeZ9 (sizeAt l) p i) (mergeP (parAt l) i p) 0) k = endAt l i) ∧
    endAt l a ≤ endAt (made9 l (mergeZ9 (sizeAt l) p i) (mergeP (parAt l) i p) 0) k := by
  have hc := h.cut
  have hv := h.valid
  have hpl := h.plt
  have hil := h.lt
  have hf := (tree9_of hv).fall
  have hi0 : 1 ≤ sizeAt l i := (sizeAt_bd hv hil).1
  obtain ⟨p2, e1, e2, e3⟩ := endS9 hv hil (by omega)
  have hp2 : p2 = p := by have := h.par; omega
  subst hp2
  intro m
  induction m with
  | zero =>
    intro a k ha hk
    have ha0 : a = 0 := by omega
    subst ha0
    have hk0 : k = 0 := nodup9_at hc.nodup hk hc.root
    subst hk0
    have h1 := hc.end0
    have h2 := end09 hv
    rw [h1]
    by_cases hp0 : p2 = 0
    · subst hp0
      have h3 : mergeZ9 (sizeAt l) 0 i 0 = sizeAt l 0 + sizeAt l i := if_pos rfl
      rw [h3]
      refine ⟨fun h => by omega, fun _ => by omega, by omega⟩
    · have h3 : mergeZ9 (sizeAt l) p2 i 0 = sizeAt l 0 := if_neg (by omega)
      rw [h3]
      exact ⟨fun _ => h2.symm, fun h => by omega, by omega⟩
  | succ m ih =>
    intro a k ham hk
    by_cases ha0 : a = 0
    · exact ih a k (by omega) hk
    · obtain ⟨haw, hai⟩ := h.mem.1 (List.mem_of_getElem? hk)
      obtain ⟨q, k2, h1, h2, h3, h4⟩ := hc.endS hk ha0
      obtain ⟨q0, g1, g2, g3⟩ := endS9 hv haw ha0
      by_cases hqi : q0 = i
      · subst hqi
        have hq : q = p2 := by
          unfold mergeP at h1
          rw [if_neg hai, if_pos g1] at h1
          omega
        subst hq
        obtain ⟨_, j2, _⟩ := ih q k2 (by omega) h2
        have h5 : mergeZ9 (sizeAt l) q q0 a = sizeAt l a := if_neg (by omega)
        rw [h5] at h4
        have := j2 rfl
        exact ⟨fun _ => by omega, fun _ => by omega, by omega⟩
      · have hq : q = q0 := by
          unfold mergeP at h1
          rw [if_neg hai, if_neg (by omega)] at h1
          omega
        subst hq
        obtain ⟨j1, j2, j3⟩ := ih q k2 (by omega) h2
        by_cases hap : a = p2
        · subst hap
          have h5 : mergeZ9 (sizeAt l) a i a = sizeAt l a + sizeAt l i := if_pos rfl
          rw [h5] at h4
          have := j1 g2
          exact ⟨fun h => by omega, fun _ => by omega, by omega⟩
        · have h5 : mergeZ9 (sizeAt l) p2 i a = sizeAt l a := if_neg hap
          rw [h5] at h4
          refine ⟨fun h => ?_, fun h => absurd h hap, by omega⟩
          have := j1 (by omega)
          omega
theorem Merge9.room {l : List Seg} {s : ByteArray} {i p : Nat} (h : Merge9 l s i p) :
    roomTo l l.length ≤ roomTo (made9 l (mergeZ9 (sizeAt l) p i) (mergeP (parAt l) i p) 0) (made9 l (mergeZ9 (sizeAt l) p i) (mergeP (parAt l) i p) 0).length := by
  have hr : ∀ k, (made9 l (mergeZ9 (sizeAt l) p i) (mergeP (parAt l) i p) 0).length = k → 0 ≤ roomTo (made9 l (mergeZ9 (sizeAt l) p i) (mergeP (parAt l) i p) 0) k := by
    intro k _
    induction k with
    | zero => exact Int.le_refl _
    | succ k ih =>
      unfold roomTo
      have : ∀ k, 0 ≤ roomTo (made9 l (mergeZ9 (sizeAt l) p i) (mergeP (parAt l) i p) 0) k := by
        intro k
        induction k with
        | zero => exact Int.le_refl _
        | succ k ih => unfold roomTo; omega
      have := this k
      omega
  refine roomTo9_le _ (hr _ rfl) fun j hj => ?_
  by_cases hji : j = i
  · subst hji
    have hpm : p ∈ sub9 (mergeP (parAt l) j p) l.length 0 := h.mem.2 ⟨by have := h.plt; omega, by have := h.plt; omega⟩
    have hk := get9_idxOf hpm
    have hlt := (List.getElem?_eq_some_iff.1 hk).1
    obtain ⟨_, h2, _⟩ := h.ends p p _ (Nat.le_refl _) hk
    rw [← h2 rfl]
    exact roomTo_le _ _ _ (by rw [h.cut.len]; exact hlt)
  · have hpm : j ∈ sub9 (mergeP (parAt l) i p) l.length 0 := h.mem.2 ⟨hj, hji⟩
    have hk := get9_idxOf hpm
    have hlt := (List.getElem?_eq_some_iff.1 hk).1
    obtain ⟨_, _, h3⟩ := h.ends j j _ (Nat.le_refl _) hk
    exact Int.le_trans h3 (roomTo_le _ _ _ (by rw [h.cut.len]; exact hlt))
theorem Merge9.made {l : List Seg} {s : ByteArray} {i p : Nat} (h : Merge9 l s i p) (h9 : sizeAt l i + sizeAt l p ≤ 99) : validB (made9 l (mergeZ9 (sizeAt l) p i) (mergeP (parAt l) i p) 0) = true := by
  refine h.cut.valid h.valid (mergeP_fall (tree9_of h.valid).fall h.lt h.par) (by have := h.lt; omega) fun a ha => ?_
  obtain ⟨h1, h2⟩ := h.mem.1 ha
  have h3 := sizeAt_bd h.valid h1
  have h4 := sizeAt_bd h.valid h.lt
  have h5 := sizeAt_bd h.valid (show p < l.length by have := h.lt; have := h.plt; omega)
  unfold sizeOk mergeZ9
  split
  · simp; omega
  · simp; omega
/-- What MoveUp is about. -/
structure Move9 (l : List Seg) (s : ByteArray) (i p q : Nat) : Prop where
  valid : validB l = true
  ix : indexB l s = (i : Int)
  lt : i < l.length
  par : parAt l i = (p : Int)
  plt : p < i
  up : parAt l p = (q : Int)
  qlt : q < p
theorem move9_at {l : List Seg} {s : ByteArray} (h : moveOk l s = true) : ∃ p q, Move9 l s (ix9 l s) p q ∧ up9 l s = p ∧ parAt l (up9 l s) = (q : Int) := by
  unfold moveOk at h
  rw [Bool.and_eq_true, Bool.not_eq_true', decide_eq_true_eq, decide_eq_false_iff_not] at h
  obtain ⟨p, hm, hu⟩ := merge9_at h.1
  have hp0 : p ≠ 0 := by rintro rfl; have := hm.par; omega
  obtain ⟨q, h2, h3, _⟩ := (tree9_of hm.valid).up p (by omega) (by have := hm.lt; have := hm.plt; omega)
  exact ⟨p, q, ⟨hm.valid, hm.ix, hm.lt, hm.par, hm.plt, h2, h3⟩, hu, by rw [hu]; exact h2⟩
theorem Move9.fall {l : List Seg} {s : ByteArray} {i p q : Nat} (h : Move9 l s i p q) : Fall9 (moveP (parAt l) i q) l.length := moveP_fall (tree9_of h.valid).fall h.lt h.par h.up
theorem Move9.cut {l : List Seg} {s : ByteArray} {i p q : Nat} (h : Move9 l s i p q) :
    Cut9 (made9 l (sizeAt l) (moveP (parAt l) i q) 0) (nmAt9 l) (sizeAt l) (moveP (parAt l) i q) l.length 0 (sub9 (moveP (parAt l) i q) l.length 0) :=
  made9_cut h.fall (by have := h.lt; omega)
theorem Move9.mem {l : List Seg} {s : ByteArray} {i p q : Nat} (h : Move9 l s i p q) {a : Nat} : a ∈ sub9 (moveP (parAt l) i q) l.length 0 ↔ a < l.length := by
  rw [h.cut.mem]
  exact ⟨fun h => h.1, fun ha => ⟨ha, anc9_move (tree9_of h.valid) h.lt h.par h.up a a (Nat.le_refl _) ha⟩⟩
theorem Move9.len {l : List Seg} {s : ByteArray} {i p q : Nat} (h : Move9 l s i p q) : (made9 l (sizeAt l) (moveP (parAt l) i q) 0).length = l.length := by
  have h1 := sum9_perm (f := fun _ => 1) h.cut.nodup (List.nodup_range (n := l.length)) fun x => by rw [h.mem, List.mem_range]
  have hc : ∀ L : List Nat, (L.map fun _ => (1 : Int)).sum = (L.length : Int) := by
    intro L
    induction L with
    | nil => rfl
    | cons a L ih => simp only [List.map_cons, List.sum_cons, ih, List.length_cons]; omega
  rw [hc, hc, List.length_range] at h1
  rw [h.cut.len]
  omega
theorem Move9.made {l : List Seg} {s : ByteArray} {i p q : Nat} (h : Move9 l s i p q) : validB (made9 l (sizeAt l) (moveP (parAt l) i q) 0) = true :=
  h.cut.valid h.valid h.fall (by have := h.lt; omega) fun a ha => (seg9_ok h.valid (h.mem.1 ha)).2
theorem Move9.ends {l : List Seg} {s : ByteArray} {i p q : Nat} (h : Move9 l s i p q) : ∀ m a k, a ≤ m → (sub9 (moveP (parAt l) i q) l.length 0)[k]? = some a →
    endAt (made9 l (sizeAt l) (moveP (parAt l) i q) 0) k ≤ endAt l a := by
  have hc := h.cut
  have hv := h.valid
  have hpl := h.plt
  have hql := h.qlt
  intro m
  induction m with
  | zero =>
    intro a k ha hk
    have ha0 : a = 0 := by omega
    subst ha0
    have hk0 : k = 0 := nodup9_at hc.nodup hk hc.root
    subst hk0
    rw [hc.end0, end09 hv]
    exact Int.le_refl _
  | succ m ih =>
    intro a k ham hk
    by_cases ha0 : a = 0
    · exact ih a k (by omega) hk
    · have haw := h.mem.1 (List.mem_of_getElem? hk)
      obtain ⟨x, k2, h1, h2, h3, h4⟩ := hc.endS hk ha0
      obtain ⟨q0, g1, g2, g3⟩ := endS9 hv haw ha0
      have hx : x < a := by have := h.fall a haw; omega
      have j := ih x k2 (by omega) h2
      by_cases hai : a = i
      · subst hai
        have hxq : x = q := by
          unfold moveP at h1
          rw [if_pos rfl] at h1
          omega
        subst hxq
        have hpq : q0 = p := by have := h.par; omega
        subst hpq
        obtain ⟨q1, f1, f2, f3⟩ := endS9 hv (show q0 < l.length by omega) (by omega)
        have : q1 = x := by have := h.up; omega
        subst this
        have := (sizeAt_bd hv (show q0 < l.length by omega)).1
        omega
      · have hxq : x = q0 := by
          unfold moveP at h1
          rw [if_neg hai] at h1
          omega
        subst hxq
        omega
theorem Move9.room {l : List Seg} {s : ByteArray} {i p q : Nat} (h : Move9 l s i p q) :
    roomTo (made9 l (sizeAt l) (moveP (parAt l) i q) 0) (made9 l (sizeAt l) (moveP (parAt l) i q) 0).length ≤ roomTo l l.length := by
  have hr : ∀ k, 0 ≤ roomTo l k := by
    intro k
    induction k with
    | zero => exact Int.le_refl _
    | succ k ih => unfold roomTo; omega
  refine roomTo9_le _ (hr _) fun k hk => ?_
  rw [h.cut.len] at hk
  have hk' : (sub9 (moveP (parAt l) i q) l.length 0)[k]? = some (sub9 (moveP (parAt l) i q) l.length 0)[k] := List.getElem?_eq_getElem hk
  have ha := h.mem.1 (List.getElem_mem hk)
  generalize (sub9 (moveP (parAt l) i q) l.length 0)[k] = a at hk' ha
  exact Int.le_trans (h.ends a a k (Nat.le_refl _) hk') (roomTo_le _ _ _ ha)

/-- A name and where it stands. -/
theorem seekFrom9_found {s : ByteArray} : ∀ (l : List Seg) (k : Nat), (∃ x ∈ l, x.name = s) → (k : Int) ≤ seekFrom s l k
  | [], k, h => by simp at h
  | x :: l, k, h => by
    unfold seekFrom
    by_cases hx : sameB x.name s = true
    · rw [if_pos hx]; omega
    · rw [if_neg hx]
      obtain ⟨y, hy, hn⟩ := h
      rcases List.mem_cons.1 hy with rfl | hy
      · exact absurd (sameB_iff.2 hn) hx
      · have := seekFrom9_found l (k + 1) ⟨y, hy, hn⟩
        omega
theorem index9_name {l : List Seg} (hv : validB l = true) {k : Nat} (hk : k < l.length) : indexB l (nmAt9 l k) = (k : Int) := by
  unfold indexB
  rw [if_pos hv]
  have h1 := seekFrom9_found l 0 ⟨l[k], List.getElem_mem hk, (nmAt9_of hk).symm⟩
  have h2 := seek_bd l (nmAt9 l k)
  have h3 : 0 ≤ seek l (nmAt9 l k) := h1
  obtain ⟨j, hj⟩ := Int.eq_ofNat_of_zero_le h3
  obtain ⟨x, hx, hn⟩ := seek_name hj
  have hjl := (List.getElem?_eq_some_iff.1 hx).1
  rw [hj]
  by_cases hjk : j = k
  · rw [hjk]
  · have h4 := taken9 hv hjl hk hjk
    have h5 : nmAt9 l j = nmAt9 l k := by
      rw [nmAt9_of hjl]
      rw [List.getElem?_eq_getElem hjl] at hx
      injection hx with hx
      rw [hx, hn]
    rw [sameB_iff.2 h5] at h4
    cases h4
theorem Cut9.name {l' : List Seg} {nm : Nat → ByteArray} {sz ps : Nat → Int} {n r : Nat} {W : List Nat} (h : Cut9 l' nm sz ps n r W) {k a : Nat} (ha : W[k]? = some a) : nmAt9 l' k = nm a := by
  have hk : k < l'.length := by rw [h.len]; exact (List.getElem?_eq_some_iff.1 ha).1
  have h1 := h.get k a ha
  rw [List.getElem?_eq_getElem hk] at h1
  injection h1 with h1
  rw [nmAt9_of hk, h1]
theorem size9_name {l : List Seg} (hv : validB l = true) {k : Nat} (hk : k < l.length) : sizeB l (nmAt9 l k) = sizeAt l k := by
  unfold sizeB
  rw [index9_name hv hk, if_neg (by omega), Int.toNat_natCast]

end Go.Proofs.Ytadichddgpojpaa
/- Chapter 9, plain: what the program makes is what is asked. -/
namespace Go.Proofs.Ytadichddgpojpaa
open Go.RowKit

theorem neg9 {l : List Seg} {s : ByteArray} (h : indexB l s < 0) : subOk l s = false ∧ subL l s = [] ∧ pruneOk l s = false ∧ pruneL l s = [] ∧ mergeOk l s = false ∧ mergeL l s = [] ∧ moveOk l s = false ∧ moveL l s = [] ∧ (∀ x, resizeOk l s x = false) ∧ ∀ x, resizeL l s x = [] := by
  have h1 : subOk l s = false := decide_eq_false (by omega)
  have h2 : pruneOk l s = false := decide_eq_false (by omega)
  have h3 : mergeOk l s = false := by unfold mergeOk; rw [decide_eq_false (by omega), Bool.false_and]
  have h4 : moveOk l s = false := by unfold moveOk; rw [decide_eq_false (by omega), Bool.false_and]
  have h5 : ∀ x, resizeOk l s x = false := fun x => by unfold resizeOk; rw [decide_eq_false (by omega), Bool.false_and]
  exact ⟨h1, if_neg (by rw [h1]; decide), h2, if_neg (by rw [h2]; decide), h3, if_neg (by rw [h3]; decide), h4, if_neg (by rw [h4]; decide), h5, fun x => if_neg (by rw [h5]; decide)⟩
theorem off9 {l : List Seg} {s : ByteArray} : (pruneOk l s = false → pruneL l s = []) ∧ (mergeOk l s = false → mergeL l s = []) ∧ (moveOk l s = false → moveL l s = []) ∧ ∀ x, resizeOk l s x = false → resizeL l s x = [] :=
  ⟨fun h => if_neg (by rw [h]; decide), fun h => if_neg (by rw [h]; decide), fun h => if_neg (by rw [h]; decide), fun _ h => if_neg (by rw [h]; decide)⟩
theorem bad9 {l : List Seg} {s : ByteArray} (h : validB l = false) : indexB l s < 0 := by
  have : indexB l s = -1 := if_neg (by rw [h]; decide)
  omega

/-- What stands in memory for a tree. -/
structure At9 (w : World) (B g : Nat) (l : List Seg) (nb : Nat → Nat) (cv : Nat → Value) : Prop where
  valid : validB l = true
  mem : Mem9 w B l.length (nmAt9 l) (sizeAt l) (parAt l) (kids9 (parAt l) l.length) nb cv
  top : Top9 w B g l.length nb cv
  few : l.length ≤ 8
  pos : 0 < l.length
theorem Nodes.at9 {w : World} {B g : Nat} {l : List Seg} {nb : Nat → Nat} {cv : Nat → Value} (h : Nodes w B g l.length l.length l nb cv) (hv : validB l = true) : At9 w B g l nb cv :=
  ⟨hv, h.mem9, h.top9 (valid_all hv).2.2, (valid_all hv).2.1, (valid_all hv).2.2⟩
variable {w : World} {B g : Nat} {l : List Seg} {nb : Nat → Nat} {cv : Nat → Value}
theorem At9.fall (h : At9 w B g l nb cv) : Fall9 (parAt l) l.length := (tree9_of h.valid).fall
theorem At9.small (h : At9 w B g l nb cv) : ∀ i, i < l.length → parAt l i < (l.length : Int) := fun i hi => by have := h.fall i hi; omega

theorem sub9_made (hv : validB l = true) {i : Nat} (hi : i < l.length) : cuts9 (nmAt9 l) (sizeAt l) (parAt l) (sub9 (parAt l) l.length i) = made9 l (sizeAt l) (parAt l) i :=
  (made9_eq (tree9_of hv).fall hi (fun _ _ _ => rfl) ((tree9_of hv).fall i hi)).symm

theorem prune9_made (hv : validB l = true) {i p : Nat} (hi : i < l.length) (h0 : 0 < i) : cuts9 (nmAt9 l) (sizeAt l) (paren9 (parAt l) [] p) (sub9 (pruneP (parAt l) i) l.length 0) = made9 l (sizeAt l) (pruneP (parAt l) i) 0 := by
  have hf := (tree9_of hv).fall
  have hf' : Fall9 (pruneP (parAt l) i) l.length := pruneP_fall hf
  have e : paren9 (parAt l) [] p = parAt l := by funext j; unfold paren9; rw [if_neg (by simp)]
  rw [e]
  refine (made9_eq hf' (by omega) (fun j hj hj0 => ?_) (hf 0 (by omega))).symm
  obtain ⟨h1, h2⟩ := (in_sub9 hf' (by omega)).1 hj
  have h3 := ((anc9_prune hf h0 h1).1 h2).2
  have h4 : j ≠ i := by rintro rfl; exact h3 .refl
  unfold pruneP
  rw [if_neg h4]
theorem prune9_kids {i p : Nat} {K1 K2 : List Nat} (hp : parAt l i = (p : Int)) (h : kids9 (parAt l) l.length p = K1 ++ i :: K2) : ∀ j, upd (kids9 (parAt l) l.length) p (K1 ++ [] ++ K2) j = kids9 (pruneP (parAt l) i) l.length j := fun j => by
  by_cases hj : j = p
  · subst hj
    rw [upd_same, kids9_prune hp h]
  · rw [upd_ne _ _ hj, kids9_prune' (by omega)]

theorem merge9_made (hv : validB l = true) {s : ByteArray} {i p : Nat} (h : Merge9 l s i p) (sz : Nat → Int) : cuts9 (nmAt9 l) sz (paren9 (parAt l) (kids9 (parAt l) l.length i) p) (sub9 (mergeP (parAt l) i p) l.length 0) = made9 l sz (mergeP (parAt l) i p) 0 := by
  have ht := tree9_of hv
  have hf := ht.fall
  have hf' : Fall9 (mergeP (parAt l) i p) l.length := mergeP_fall hf h.lt h.par
  have h0 := h.pos
  have hl := h.lt
  refine (made9_eq hf' (by omega) (fun j hj hj0 => ?_) ?_).symm
  · obtain ⟨h1, h2⟩ := h.mem.1 hj
    unfold paren9 mergeP
    rw [if_neg h2]
    by_cases h3 : parAt l j = (i : Int)
    · rw [if_pos (mem_kids9.2 ⟨h1, h3⟩), if_pos h3]
    · rw [if_neg (fun hm => h3 (mem_kids9.1 hm).2), if_neg h3]
  · unfold paren9
    rw [if_neg (fun hm => by have h5 := (mem_kids9.1 hm).2; have := ht.root; omega)]
    exact hf 0 (by omega)
theorem merge9_kids (hv : validB l = true) {s : ByteArray} {i p : Nat} (h : Merge9 l s i p) {K1 K2 : List Nat} (hk : kids9 (parAt l) l.length p = K1 ++ i :: K2) :
    ∀ j, j ∈ sub9 (mergeP (parAt l) i p) l.length 0 → upd (kids9 (parAt l) l.length) p (K1 ++ kids9 (parAt l) l.length i ++ K2) j = kids9 (mergeP (parAt l) i p) l.length j := fun j hj => by
  obtain ⟨h1, h2⟩ := h.mem.1 hj
  by_cases hjp : j = p
  · subst hjp
    rw [upd_same, kids9_merge (tree9_of hv) h.lt h.par hk]
  · rw [upd_ne _ _ hjp, kids9_merge' h.par hjp h2]
theorem merge9_small (hv : validB l = true) {s : ByteArray} {i p : Nat} (h : Merge9 l s i p) : ∀ j, j < l.length → paren9 (parAt l) (kids9 (parAt l) l.length i) p j < (l.length : Int) := fun j hj => by
  have := (tree9_of hv).fall j hj
  have := h.plt
  have := h.lt
  unfold paren9
  split <;> omega

theorem move9_made (hv : validB l = true) {s : ByteArray} {i p q : Nat} (h : Move9 l s i p q) : cuts9 (nmAt9 l) (sizeAt l) (paren9 (paren9 (parAt l) [] p) [p, i] q) (sub9 (moveP (parAt l) i q) l.length 0) = made9 l (sizeAt l) (moveP (parAt l) i q) 0 := by
  have ht := tree9_of hv
  have hf := ht.fall
  have h1 := h.lt
  have h2 := h.plt
  have h3 := h.qlt
  refine (made9_eq h.fall (by omega) (fun j hj hj0 => ?_) ?_).symm
  · unfold paren9 moveP
    by_cases hji : j = i
    · rw [if_pos (by simp [hji]), if_pos hji]
    · rw [if_neg hji]
      by_cases hjp : j = p
      · subst hjp
        rw [if_pos (by simp)]
        exact h.up.symm
      · rw [if_neg (by simp; exact ⟨hjp, hji⟩), if_neg (by simp)]
  · unfold paren9
    rw [if_neg (by simp; omega), if_neg (by simp)]
    exact hf 0 (by omega)
theorem move9_kids (hv : validB l = true) {s : ByteArray} {i p q : Nat} (h : Move9 l s i p q) {K1 K2 J1 J2 : List Nat} (hk : kids9 (parAt l) l.length p = K1 ++ i :: K2) (hj : kids9 (parAt l) l.length q = J1 ++ p :: J2) :
    ∀ j, upd (upd (kids9 (parAt l) l.length) p (K1 ++ [] ++ K2)) q (J1 ++ [p, i] ++ J2) j = kids9 (moveP (parAt l) i q) l.length j := fun j => by
  have h3 := h.qlt
  by_cases hjq : j = q
  · subst hjq
    rw [upd_same, kids9_move2 (tree9_of hv) h.lt h.par h.up hj]
  · rw [upd_ne _ _ hjq]
    by_cases hjp : j = p
    · subst hjp
      rw [upd_same, kids9_move1 (tree9_of hv).fall h.lt h.par h.up hk]
    · rw [upd_ne _ _ hjp, kids9_move' h.par hjp hjq]
theorem move9_small (hv : validB l = true) {s : ByteArray} {i p q : Nat} (h : Move9 l s i p q) : ∀ j, j < l.length → paren9 (paren9 (parAt l) [] p) [p, i] q j < (l.length : Int) := fun j hj => by
  have := (tree9_of hv).fall j hj
  have := h.plt
  have := h.lt
  have := h.qlt
  unfold paren9
  split
  · omega
  · split <;> omega
theorem kids9_nodup (ps : Nat → Int) (n i : Nat) : (kids9 ps n i).Nodup := (kids9_sorted ps n i).imp fun h => Nat.ne_of_lt h

theorem subL_len (l : List Seg) (s : ByteArray) : (subL l s).length ≤ 200 := by
  unfold subL
  split
  · next h =>
    obtain ⟨hv, hi⟩ := index9_valid (of_decide_eq_true h)
    have := made9_len (sz := sizeAt l) (tree9_of hv).fall hi
    have := (valid_all hv).2.1
    omega
  · exact Nat.zero_le _
theorem pruneL_len (l : List Seg) (s : ByteArray) : (pruneL l s).length ≤ 200 := by
  unfold pruneL
  split
  · next h =>
    have h1 : 0 < indexB l s := of_decide_eq_true h
    obtain ⟨hv, hi⟩ := index9_valid (l := l) (s := s) (by omega)
    have := made9_len (l := l) (sz := sizeAt l) (r := 0) (pruneP_fall (i := ix9 l s) (tree9_of hv).fall) (by omega)
    have := (valid_all hv).2.1
    omega
  · exact Nat.zero_le _
theorem mergeL_len (l : List Seg) (s : ByteArray) : (mergeL l s).length ≤ 200 := by
  unfold mergeL
  split
  · next h =>
    have h1 : 0 < indexB l s := of_decide_eq_true (Bool.and_eq_true_iff.1 h).1
    obtain ⟨p, hm, hu⟩ := merge9_at h1
    rw [hu]
    have := hm.len
    have := (valid_all hm.valid).2.1
    omega
  · exact Nat.zero_le _
theorem moveL_len (l : List Seg) (s : ByteArray) : (moveL l s).length ≤ 200 := by
  unfold moveL
  split
  · next h =>
    obtain ⟨p, q, hm, hu, hq⟩ := move9_at h
    rw [hq]
    have := hm.len
    have := (valid_all hm.valid).2.1
    omega
  · exact Nat.zero_le _

end Go.Proofs.Ytadichddgpojpaa
/- Chapter 9: the reference's functions that change a tree: parents, SubTree, Prune. -/
namespace Go.Proofs.Ytadichddgpojpaa
open Go.RowKit

/-- append of one number to numbers of the call's own. -/
theorem wp_append_int9 {ops : Array Oper} {rest : List Oper} {o : Oper} {a : Act} {Q : Exit → Act → World → Prop} (hgd : o.guard = none) (S X : Operand)
    (ho : o.op = Op.call { callee := Callee.builtin Builtin.append, args := #[S, X], argTypes := #[63, 63] })
    (B : Nat) (v : Value) (ts : List Int) (p : Int) (W : World) (hs : a.eval S = v) (hown : Si.OwnInts W B v ts) (htl : ts.length ≤ 1000) (hB : B ≤ W.heap.size)
    (g : Nat) (hx : a.eval X = .slice (some ⟨g, 0, none⟩) 1 1) (hg : g = W.heap.size)
    (h : ∀ v' w', Si.OwnInts w' B v' (ts ++ [p]) → Below B W w' → (∀ k, k < W.heap.size → v.ownBlock ≠ some k → w'.heap[k]? = W.heap[k]?) → wpList Try.prog ops Q rest (a.put o.dst v') w') :
    wpList Try.prog ops Q (o :: rest) a (W.alloc (.cells #[.int .i64 p] 3)) := by
  subst hg
  obtain ⟨i0, hi, hz0, hz1, hz2⟩ := info_parts info_int
  refine wpList_append_own _ hgd S X 63 ho B 3 i0 (.int .i64 0) 1 8 Try.underlying63 hi hz0 hz1 hz2 rfl (by decide) v ts.length (ts.map (Value.int .i64)) hs (hown.alloc (.cells #[.int .i64 p] 3)) ⟨W.heap.size, 0, none⟩ 1 1 [.int .i64 p] hx rfl
    (World.news_of_block (cs := #[.int .i64 p]) (t := 3) (fr := (0, 0)) (heap_alloc_new W _)) (by simp [Value.oneCell']) (by unfold maxLen; omega) (by omega) (by simp; omega) ?_
  intro v' w' hown' hgrow _
  refine h v' w' ?_ ?_ ?_
  · show w'.ownsRow B _ 1 v' (ts ++ [p]).length ((ts ++ [p]).map (Value.int .i64))
    rw [List.length_append, List.map_append]
    exact hown'
  · exact ((Below.refl B W).alloc hB _).grown hgrow (by simp; omega) (fun k e => (World.ownsRow.lt hown k e).1)
  · intro k hk hne
    exact (hgrow.block k (by simp; omega) (fun e => hne e.symm)).trans (Below.heap_alloc W _ k hk)

def row9 (f : Nat → Int) (k : Nat) : List Int := (List.range k).map f
theorem row9_succ (f : Nat → Int) (k : Nat) : row9 f (k + 1) = row9 f k ++ [f k] := by
  unfold row9
  rw [List.range_succ, List.map_append]
  rfl
theorem row9_len (f : Nat → Int) (k : Nat) : (row9 f k).length = k := by unfold row9; rw [List.length_map, List.length_range]
theorem row9_get (f : Nat → Int) {k n : Nat} (h : k < n) : (row9 f n)[k]? = some (f k) := by
  unfold row9
  rw [List.getElem?_map, List.getElem?_range h]
  rfl

set_option maxRecDepth 100000 in
set_option maxHeartbeats 4000000 in
theorem l9Parents_any (A : Option Addr) (l : List Seg) (c : Nat) (w : World) (hw : Segs w w.heap.size A l) (hl : l.length ≤ 1000) :
    Calls Try.prog 65 #[.slice A l.length c] w fun e w' => ∃ A' c', e = .returned (.slice A' l.length c') ∧ Si.OwnInts w' w.heap.size (.slice A' l.length c') (row9 (parAt l) l.length) ∧ Below w.heap.size w w' := by
  have HW : Hid (Segs w w.heap.size A l) := hw
  have HB0 : Hid (Below w.heap.size w (w.alloc (.cells #[] 3))) := (Below.refl _ w).alloc (Nat.le_refl _) _
  have HO0 := Lib.hid (Si.OwnInts.empty (B := w.heap.size) w (Nat.le_refl _))
  have HS := Lib.hid (fun k => row9_succ (parAt l) k)
  have HL := Lib.hid (fun k => row9_len (parAt l) k)
  clear hw
  go_enter Try.func65, Try.ntmps65
  go_wp2
  go_loopw [3, 9] (fun ov iv wr => ∃ (k : Nat) (A' : Option Addr) (C' : Nat), iv = .int .i64 k ∧ k ≤ l.length ∧ ov = .slice A' k C' ∧ Hid (Si.OwnInts wr w.heap.size (.slice A' k C') (row9 (parAt l) k)) ∧ Hid (Below w.heap.size w wr))
    (fun _ iv _ => l.length - (intOf iv).toNat)
  case atStart => exact ⟨0, _, 0, rfl, Nat.zero_le _, rfl, HO0, HB0⟩
  case round =>
    clear HO0 HB0
    obtain ⟨k, A', C', rfl, hk, rfl, HO, HB⟩ := hrel
    have hk0 : (0 : Int) ≤ (k : Int) := Int.natCast_nonneg _
    by_cases hlt : k < l.length
    · have hlt' : (k : Int) < (l.length : Int) := by omega
      obtain ⟨b, o, rfl, hB, hc⟩ := HW.out (by omega)
      obtain ⟨c0, c1, c2⟩ := hc k l[k] (List.getElem?_eq_getElem hlt)
      clear hc
      rw [← HB.out.cell hB] at c0 c1 c2
      have HSK := Lib.hid (HS.out k)
      rw [parAt_of (List.getElem?_eq_getElem hlt)] at HSK
      have HLK := Lib.hid (HL.out k)
      have HO1 := Lib.hid (HO.out.alloc (.cells #[.string l[k].name, .int .i64 l[k].size, .int .i64 l[k].par] 36))
      have HB1 := Lib.hid (HB.out.alloc HB.out.size (.cells #[.string l[k].name, .int .i64 l[k].size, .int .i64 l[k].par] 36))
      generalize l[k].name = nm at *
      generalize l[k].size = sz at *
      generalize l[k].par = pr at *
      go_wp2_with (at_builtin; go_loud (refine wp_append_int9 rfl (.tmp 13) (.tmp 16) rfl w.heap.size (.slice A' k C') (row9 (parAt l) k) pr _ rfl HO1.out (by rw [HLK.out]; omega) HB1.out.size (wr.heap.size + 1) rfl (by simp) ?_); intro v3 w3 ho3 hb3 _; have HO3 := Lib.hid ho3; have HB3 := Lib.hid (HB1.out.trans hb3); clear ho3 hb3)
      rw [← HSK.out] at HO3
      obtain ⟨A3, C3, rfl, -⟩ := Si.intsForm HO3.out
      have hl3 : (row9 (parAt l) (k + 1)).length = k + 1 := row9_len _ _
      rw [hl3] at HO3 ⊢
      go_wp2
      go_roundw
      case rel => exact ⟨k + 1, A3, C3, by go_num, by omega, rfl, HO3, HB3⟩
      case measure => simp [intOf]; omega
    · obtain rfl : k = l.length := by omega
      go_wp2
      go_ret
      exact ⟨_, _, rfl, HO.out, HB.out⟩

/-- What l9Build is asked of by all. -/
theorem build9_call {ls : List Seg} {A : Option Addr} {c cp : Nat} {Ap : Option Addr} {ps : Nat → Int} {r : Nat} {w : World} {B g : Nat} (hf : Fall9 ps ls.length) (hl : ls.length ≤ 100) (hr : r < ls.length) (hs : Segs w w.heap.size A ls) (hi : Si.Ints w w.heap.size Ap (row9 ps ls.length))
    (ho : OwnTree w B (.slice (some ⟨g, 0, none⟩) 0 0) []) (hA : Aw9 (.slice (some ⟨g, 0, none⟩) 0 0) A) (hAp : Aw9 (.slice (some ⟨g, 0, none⟩) 0 0) Ap) (hB : B ≤ w.heap.size) :
    Calls Try.prog 55 #[.slice (some ⟨g, 0, none⟩) 0 0, .slice A ls.length c, .slice Ap ls.length cp, .int .i64 r, .int .i64 (-1)] w fun e w' => ∃ v', e = .returned v' ∧ OwnTree w' B v' (made9 ls (sizeAt ls) ps r) ∧ Below B w w' := by
  have h := l9Build_any ls A Ap c cp (row9 ps ls.length) ps hf (by omega) (row9_len _ _) (fun k hk => row9_get ps hk) ls.length B r (-1) (.slice (some ⟨g, 0, none⟩) 0 0) [] w (by omega) hr ho (by have := sub9_len hf hr; simp; omega) hs hi hA hAp hB
  refine h.mono ?_
  rintro e w' ⟨v', h1, h2, h3, -, -⟩
  exact ⟨v', h1, h2, h3⟩
theorem aw9_old {w : World} {A : Option Addr} {l : List Seg} {g : Nat} (h : Segs w w.heap.size A l) (h0 : 0 < l.length) (hg : w.heap.size ≤ g) : Aw9 (.slice (some ⟨g, 0, none⟩) 0 0) A := fun a ha e => by
  obtain ⟨b, o, hb, hlt, _⟩ := h h0
  rw [hb] at ha
  injection ha with ha
  subst ha
  injection e with e
  have : g = b := e
  omega

set_option maxRecDepth 100000 in
set_option maxHeartbeats 4000000 in
theorem specSubTree_any (A : Option Addr) (l : List Seg) (c : Nat) (s : ByteArray) (w : World) (hw : Segs w w.heap.size A l) (hl : l.length ≤ 1048576) (hn : Short l) (_hs : s.size ≤ 1048576) :
    Calls Try.prog 29 #[.slice A l.length c, .string s] w (TreeAns w (subL l s) (subOk l s)) := by
  have HW : Hid (Segs w w.heap.size A l) := hw
  clear hw
  unfold TreeAns
  by_cases hneg : indexB l s < 0
  · have HF : Hid (subL l s = [] ∧ subOk l s = false) := ⟨(neg9 hneg).2.1, (neg9 hneg).1⟩
    rw [HF.out.1, HF.out.2]
    go_enter Try.func29, Try.ntmps29
    go_wp2_with fail
    refine (l1Index_any _ _ _ _ _ HW.out hl hn).mono ?_
    rintro e w1 ⟨rfl, hb1⟩
    have HB1 := Lib.hid (hb1.alloc hb1.size (.cells #[] 36))
    have HO1 := Lib.hid (OwnTree.empty (B := w.heap.size) w1 hb1.size)
    clear hb1
    generalize indexB l s = q at *
    go_wp2
    go_ret2
    exact ⟨_, rfl, HO1.out, HB1.out⟩
  · obtain ⟨hv, hi⟩ := index9_valid (l := l) (s := s) (by omega)
    have HI : Hid (indexB l s = ((ix9 l s : Nat) : Int)) := by show _ = _; unfold ix9; omega
    have HF : Hid (subOk l s = true) := decide_eq_true (by omega)
    have HR : Hid (subL l s = made9 l (sizeAt l) (parAt l) (ix9 l s)) := by show _ = _; unfold subL; rw [if_pos HF.out]
    have HFA := Lib.hid (tree9_of hv).fall
    have hl8 := (valid_all hv).2.1
    rw [HR.out, HF.out]
    clear hneg hv
    generalize ix9 l s = i at *
    go_enter Try.func29, Try.ntmps29
    go_wp2_with fail
    refine (l1Index_any _ _ _ _ _ HW.out hl hn).mono ?_
    rw [HI.out]
    rintro e w1 ⟨rfl, hb1⟩
    have HW1 := Lib.hid ((HW.out.below hb1).more hb1.size)
    have HB1 := Lib.hid hb1
    clear hb1
    go_wp2_with fail
    have hw2 : Segs (w1.alloc (.cells #[] 36)) (w1.alloc (.cells #[] 36)).heap.size A l := (HW1.out.below ((Below.refl _ w1).alloc (Nat.le_refl _) _)).more (by simp)
    have HO2 := Lib.hid (OwnTree.empty (B := w1.heap.size) w1 (Nat.le_refl _))
    have HB2 : Hid (Below w1.heap.size w1 (w1.alloc (.cells #[] 36))) := (Below.refl _ w1).alloc (Nat.le_refl _) _
    have HAW := Lib.hid (aw9_old (g := w1.heap.size) HW1.out (by omega) (Nat.le_refl _))
    have hz : w1.heap.size < (w1.alloc (.cells #[] 36)).heap.size := by simp
    have HZ := Lib.hid hz
    refine (l9Parents_any A l c _ hw2 (by omega)).mono ?_
    clear hw2 hz
    rintro e w3 ⟨A3, c3, rfl, ho3, hb3⟩
    have HI3 := Lib.hid (Si.intsOf ho3)
    have HO3 := Lib.hid (treeBelow HO2.out hb3)
    have HB3 : Hid (Below w1.heap.size w1 w3) := HB2.out.trans (hb3.mono (Nat.le_of_lt HZ.out))
    have HAP : Hid (Aw9 (.slice (some ⟨w1.heap.size, 0, none⟩) 0 0) A3) := fun a ha e => by
      have h1 := (World.ownsRow.lt ho3 a.block (by rw [ha]; rfl)).1
      have h2 := HZ.out
      injection e with e
      have h3 : w1.heap.size = a.block := e
      omega
    have HW3 := Lib.hid ((HW1.out.below HB3.out).more HB3.out.size)
    clear ho3 hb3
    go_wp2_with fail
    refine (build9_call HFA.out (by omega) hi HW3.out HI3.out HO3.out HAW.out HAP.out HB3.out.size).mono ?_
    rintro e w4 ⟨v, rfl, ho4, hb4⟩
    have HO4 := Lib.hid (treeLow ho4 HB1.out.size)
    have HB4 : Hid (Below w.heap.size w w4) := HB1.out.trans ((HB3.out.trans hb4).mono HB1.out.size)
    clear ho4 hb4
    go_wp2
    go_ret2
    exact ⟨_, rfl, HO4.out, HB4.out⟩

end Go.Proofs.Ytadichddgpojpaa
