/- Joined: Vp Vq Vx Pc. -/
import Derived.Test.YtcpiojliakgdlaaGreatDoorU12
/- Chapter 9, plain: what is built is a tree; where its segments end, and its sums. -/
namespace Go.Proofs.YtcpiojliakgdlaaGreatDoor

/-- From one to the next in a row: each next one's parent is the one ahead of it or above that. -/
def Nxt9 (ps : Nat → Int) (x y : Nat) : Prop := ∃ p : Nat, ps y = (p : Int) ∧ Anc9 ps p x
def link9 (R : Nat → Nat → Prop) : Nat → List Nat → Prop
  | _, [] => True
  | x, y :: L => R x y ∧ link9 R y L
def last9 : Nat → List Nat → Nat
  | x, [] => x
  | _, y :: L => last9 y L
theorem link9_append {R : Nat → Nat → Prop} : ∀ (A B : List Nat) (x : Nat), link9 R x A → link9 R (last9 x A) B → link9 R x (A ++ B)
  | [], _, _, _, h => h
  | _ :: A, B, _, h1, h2 => ⟨h1.1, link9_append A B _ h1.2 h2⟩
theorem last9_append : ∀ (A B : List Nat) (x : Nat), last9 x (A ++ B) = last9 (last9 x A) B
  | [], _, _ => rfl
  | _ :: A, B, _ => last9_append A B _
theorem link9_get {R : Nat → Nat → Prop} : ∀ (L : List Nat) (x k : Nat) (a b : Nat), link9 R x L → (x :: L)[k]? = some a → (x :: L)[k + 1]? = some b → R a b
  | [], x, k, a, b, _, _, h => by simp at h
  | y :: L, x, 0, a, b, h, h1, h2 => by
    simp at h1 h2
    subst h1 h2
    exact h.1
  | y :: L, x, k + 1, a, b, h, h1, h2 => link9_get L y k a b h.2 (by simpa using h1) (by simpa using h2)
theorem sub9_link {ps : Nat → Int} {n : Nat} (hf : Fall9 ps n) : ∀ (f i : Nat), n ≤ f + i → i < n →
    ∃ L, sub9 ps n i = i :: L ∧ link9 (Nxt9 ps) i L ∧ Anc9 ps i (last9 i L)
  | 0, i, h, hi => by omega
  | f + 1, i, h, hi => by
    refine ⟨_, sub9_eq hf hi, ?_⟩
    have key : ∀ (ks : List Nat), (∀ k ∈ ks, k < n ∧ ps k = (i : Int)) → ∀ x, Anc9 ps i x → link9 (Nxt9 ps) x ((ks.map (sub9 ps n)).flatten) ∧ Anc9 ps i (last9 x ((ks.map (sub9 ps n)).flatten)) := by
      intro ks
      induction ks with
      | nil => exact fun _ x hx => ⟨trivial, hx⟩
      | cons k ks ih =>
        intro hks x hx
        obtain ⟨hkn, hkp⟩ := hks k List.mem_cons_self
        have hlt := hf k hkn
        obtain ⟨L, e, h1, h2⟩ := sub9_link hf f k (by omega) hkn
        have h3 : Anc9 ps i (last9 k L) := (Anc9.step hkp .refl).trans h2
        obtain ⟨h4, h5⟩ := ih (fun k' hk' => hks k' (List.mem_cons_of_mem _ hk')) _ h3
        simp only [List.map_cons, List.flatten_cons]
        rw [e]
        refine ⟨link9_append (k :: L) _ x ⟨⟨i, hkp, hx⟩, h1⟩ h4, ?_⟩
        rw [last9_append]
        exact h5
    exact key _ (fun k hk => mem_kids9.1 hk) i .refl

/-- What is built is a tree. -/
theorem nxt9_at {ps : Nat → Int} {n r : Nat} (hf : Fall9 ps n) (hr : r < n) {k a b : Nat} (ha : (sub9 ps n r)[k]? = some a) (hb : (sub9 ps n r)[k + 1]? = some b) : Nxt9 ps a b := by
  obtain ⟨L, e, h1, _⟩ := sub9_link hf n r (by omega) hr
  rw [e] at ha hb
  exact link9_get L r k a b h1 ha hb

theorem idxOf9_get {W : List Nat} (hn : W.Nodup) {k a : Nat} (h : W[k]? = some a) : W.idxOf a = k := by
  have hk := (List.getElem?_eq_some_iff.1 h).1
  have e : W = W.take k ++ a :: W.drop (k + 1) := by
    have h2 := (List.getElem?_eq_some_iff.1 h).2
    rw [← h2, ← List.drop_eq_getElem_cons hk, List.take_append_drop]
  have hn' := hn
  rw [e] at hn'
  have := idxOf_mid9 hn'
  rw [← e, List.length_take] at this
  omega
theorem get9_idxOf {W : List Nat} {a : Nat} (h : a ∈ W) : W[W.idxOf a]? = some a := by
  have := List.idxOf_lt_length_of_mem h
  rw [List.getElem?_eq_getElem this, List.getElem_idxOf]

/-- The row of a tree that is built, and its parents in the row. -/
structure Cut9 (l' : List Seg) (nm : Nat → ByteArray) (sz ps : Nat → Int) (n r : Nat) (W : List Nat) : Prop where
  len : l'.length = W.length
  nodup : W.Nodup
  get : ∀ k a, W[k]? = some a → l'[k]? = some (⟨nm a, sz a, parAt l' k⟩ : Seg)
  root : W[0]? = some r
  mem : ∀ a, a ∈ W ↔ a < n ∧ Anc9 ps r a
  rootP : parAt l' 0 = -1
  up : ∀ k a, W[k]? = some a → a ≠ r → ∃ p m : Nat, ps a = (p : Int) ∧ W[m]? = some p ∧ parAt l' k = (m : Int) ∧ m < k
  next : ∀ k a b, W[k]? = some a → W[k + 1]? = some b → Nxt9 ps a b

theorem nodup9_at {W : List Nat} (h : W.Nodup) {i j a : Nat} (hi : W[i]? = some a) (hj : W[j]? = some a) : i = j := by
  rw [← idxOf9_get h hi, ← idxOf9_get h hj]

/-- A row of nodes in the order of a tree: the parent of each stands ahead of it. -/
theorem ahead9 {ps : Nat → Int} {n r : Nat} (hf : Fall9 ps n) (hr : r < n) : ∀ k a, (sub9 ps n r)[k]? = some a → ∀ b, Anc9 ps r b → Anc9 ps b a → ∃ m : Nat, (sub9 ps n r)[m]? = some b ∧ m ≤ k
  | 0, a, ha, b, hrb, hba => by
    rw [sub9_eq hf hr] at ha
    simp at ha
    subst ha
    have h1 := hba.le hf hr
    have h2 := hrb.le hf (by omega)
    have : r = b := by omega
    subst this
    exact ⟨0, by rw [sub9_eq hf hr]; rfl, Nat.le_refl _⟩
  | k + 1, a, ha, b, hrb, hba => by
    have hk := (List.getElem?_eq_some_iff.1 ha).1
    obtain ⟨x, hx⟩ : ∃ x, (sub9 ps n r)[k]? = some x := ⟨_, List.getElem?_eq_getElem (by omega)⟩
    obtain ⟨p, hp, hpx⟩ := nxt9_at hf hr hx ha
    cases hba with
    | refl => exact ⟨k + 1, ha, Nat.le_refl _⟩
    | @step _ q hq hbq =>
      have : q = p := by omega
      subst this
      obtain ⟨m, h1, h2⟩ := ahead9 hf hr k x hx b hrb (hbq.trans hpx)
      exact ⟨m, h1, by omega⟩

theorem made9_cut {l : List Seg} {sz ps : Nat → Int} {r : Nat} (hf : Fall9 ps l.length) (hr : r < l.length) :
    Cut9 (made9 l sz ps r) (nmAt9 l) sz ps l.length r (sub9 ps l.length r) := by
  have hnd := sub9_nodup hf l.length r (by omega) hr
  have hpp : (fun j => if j = r then (-1 : Int) else ps j) r < (r : Int) := by simp; omega
  have e := made9_eq (sz := sz) (pp := fun j => if j = r then (-1 : Int) else ps j) hf hr (fun j _ hj => if_neg hj) hpp
  have hget : ∀ k a, (sub9 ps l.length r)[k]? = some a → (made9 l sz ps r)[k]? = some (cut9 (nmAt9 l) sz (fun j => if j = r then (-1 : Int) else ps j) (sub9 ps l.length r) a) := fun k a h => by
    rw [e]; unfold cuts9; rw [List.getElem?_map, h]; rfl
  have hr0 : (sub9 ps l.length r)[0]? = some r := by rw [sub9_eq hf hr]; rfl
  have hpar : ∀ k a, (sub9 ps l.length r)[k]? = some a → parAt (made9 l sz ps r) k = (cut9 (nmAt9 l) sz (fun j => if j = r then (-1 : Int) else ps j) (sub9 ps l.length r) a).par := fun k a h => parAt_of (hget k a h)
  refine ⟨by rw [e, cuts9_len], hnd, fun k a h => ?_, hr0, fun a => in_sub9 hf hr, ?_, fun k a h ha => ?_, fun k a b ha hb => nxt9_at hf hr ha hb⟩
  · rw [hget k a h, hpar k a h]
    rfl
  · rw [hpar 0 r hr0]
    unfold cut9
    simp
  · have hk := (List.getElem?_eq_some_iff.1 h).1
    obtain ⟨han, haa⟩ := (in_sub9 hf hr).1 (List.mem_of_getElem? h)
    cases haa with
    | refl => exact absurd rfl ha
    | @step _ p hp hrp =>
      have hpa := hf a han
      have hpm : p ∈ sub9 ps l.length r := (in_sub9 hf hr).2 ⟨by omega, hrp⟩
      obtain ⟨m, hm, hmk⟩ := ahead9 hf hr k a h p hrp (.step hp .refl)
      have hmk' : m ≠ k := by
        rintro rfl
        rw [h] at hm
        injection hm with hm
        omega
      refine ⟨p, m, hp, hm, ?_, by omega⟩
      rw [hpar k a h]
      unfold cut9
      simp only [if_neg ha, hp]
      rw [if_neg (by omega), Int.toNat_natCast, if_pos hpm, idxOf9_get hnd hm]

/-- From a chain of nodes to a chain in the row. -/
theorem Cut9.anc {l' : List Seg} {nm : Nat → ByteArray} {sz ps : Nat → Int} {n r : Nat} {W : List Nat} (h : Cut9 l' nm sz ps n r W) {p m : Nat} (hp : W[m]? = some p) (hrp : Anc9 ps r p) (hf : Fall9 ps n) :
    ∀ (q k a : Nat), a ≤ q → W[k]? = some a → Anc9 ps p a → Anc9 (parAt l') m k := by
  intro q
  induction q with
  | zero =>
    intro k a hq hk ha
    have han := ((h.mem a).1 (List.mem_of_getElem? hk)).1
    have hle := ha.le hf han
    have : a = p := by omega
    subst this
    rw [nodup9_at h.nodup hp hk]
    exact .refl
  | succ q ih =>
    intro k a hq hk ha
    have han := ((h.mem a).1 (List.mem_of_getElem? hk)).1
    cases ha with
    | refl =>
      rw [nodup9_at h.nodup hp hk]
      exact .refl
    | @step _ x hx hpx =>
      have hxa := hf a han
      have har : a ≠ r := by
        rintro rfl
        have h1 := hrp.le hf (by have := hpx.le hf (by omega); omega)
        have h2 := hpx.le hf (by omega)
        omega
      obtain ⟨p', m', h1, h2, h3, h4⟩ := h.up k a hk har
      have : p' = x := by omega
      subst this
      exact .step h3 (ih m' p' (by omega) h2 hpx)

theorem chain_of_anc9 {l : List Seg} {n : Nat} (hd : Down l n) {m : Nat} : ∀ (f k : Nat), k < f → k < n → Anc9 (parAt l) m k → (m : Int) ∈ chain l f (k : Int)
  | 0, k, h, _, _ => by omega
  | f + 1, k, hkf, hkn, ha => by
    unfold chain
    rw [if_neg (by omega)]
    cases ha with
    | refl => exact List.mem_cons_self
    | @step _ x hx hmx =>
      have := hd k hkn
      refine List.mem_cons_of_mem _ ?_
      rw [Int.toNat_natCast, hx]
      exact chain_of_anc9 hd f x (by omega) (by omega) hmx

theorem taken9 {l : List Seg} (hv : validB l = true) {i j : Nat} (hi : i < l.length) (hj : j < l.length) (hne : i ≠ j) : sameB (nmAt9 l i) (nmAt9 l j) = false := by
  have key : ∀ i j, i < j → j < l.length → sameB (nmAt9 l i) (nmAt9 l j) = false := by
    intro i j hij hj
    have hs := (valid_all hv).1 j hj
    unfold segOk at hs
    rw [List.getElem?_eq_getElem hj] at hs
    simp only [Bool.and_eq_true] at hs
    have ht := hs.1.1.2
    rw [nmAt9_of hj, nmAt9_of (by omega)]
    cases hb : sameB l[i].name l[j].name with
    | false => rfl
    | true =>
      have : takenB (l.take j) l[j].name = true := by
        unfold takenB
        refine List.any_eq_true.2 ⟨l[i], ?_, hb⟩
        rw [List.mem_take_iff_getElem]
        exact ⟨i, by omega, rfl⟩
      rw [this] at ht
      cases ht
  rcases Nat.lt_or_ge i j with h | h
  · exact key i j h hj
  · have := key j i (by omega) hi
    cases hb : sameB (nmAt9 l i) (nmAt9 l j) with
    | false => rfl
    | true =>
      have h1 := sameB_iff.1 hb
      rw [sameB_iff.2 h1.symm] at this
      cases this
theorem seg9_ok {l : List Seg} (hv : validB l = true) {i : Nat} (hi : i < l.length) : nameOk (nmAt9 l i) = true ∧ sizeOk (sizeAt l i) = true := by
  have hs := (valid_all hv).1 i hi
  unfold segOk at hs
  rw [List.getElem?_eq_getElem hi] at hs
  simp only [Bool.and_eq_true] at hs
  rw [nmAt9_of hi, sizeAt_of hi]
  exact ⟨hs.1.1.1, hs.1.2⟩

/-- A tree that is built is valid. -/
theorem Cut9.valid {l l' : List Seg} {sz ps : Nat → Int} {r : Nat} {W : List Nat} (h : Cut9 l' (nmAt9 l) sz ps l.length r W) (hv : validB l = true) (hf : Fall9 ps l.length) (hr : r < l.length)
    (hz : ∀ a, a ∈ W → sizeOk (sz a) = true) : validB l' = true := by
  have hlen : W.length ≤ l.length := nodup9_len h.nodup fun x hx => ((h.mem x).1 hx).1
  have hW : ∀ k, k < W.length → ∃ a, W[k]? = some a ∧ a < l.length := fun k hk => ⟨W[k], List.getElem?_eq_getElem hk, ((h.mem _).1 (List.getElem_mem hk)).1⟩
  have hdown : Down l' l'.length := fun k hk => by
    rw [h.len] at hk
    obtain ⟨a, ha, _⟩ := hW k hk
    by_cases har : a = r
    · subst har
      have : k = 0 := nodup9_at h.nodup ha h.root
      subst this
      rw [h.rootP]
      omega
    · obtain ⟨p, m, h1, h2, h3, h4⟩ := h.up k a ha har
      rw [h3]
      omega
  have h0 : 0 < W.length := (List.getElem?_eq_some_iff.1 h.root).1
  have hall : AllOk l' l'.length := fun k hk => by
    have hk' := hk
    rw [h.len] at hk'
    obtain ⟨a, ha, han⟩ := hW k hk'
    unfold segOk
    rw [h.get k a ha]
    dsimp only
    simp only [Bool.and_eq_true]
    obtain ⟨s1, s2⟩ := seg9_ok hv han
    refine ⟨⟨⟨s1, ?_⟩, hz a (List.mem_of_getElem? ha)⟩, ?_⟩
    · rw [Bool.not_eq_true']
      cases ht : takenB (l'.take k) (nmAt9 l a) with
      | false => rfl
      | true =>
        exfalso
        unfold takenB at ht
        obtain ⟨s, hs, he⟩ := List.any_eq_true.1 ht
        obtain ⟨i, hi, hse⟩ := List.mem_take_iff_getElem.1 hs
        obtain ⟨b, hb, hbn⟩ := hW i (by omega)
        have h5 := h.get i b hb
        rw [List.getElem?_eq_getElem (by omega), hse] at h5
        injection h5 with h5
        rw [h5] at he
        have hne : b ≠ a := by
          rintro rfl
          have := nodup9_at h.nodup hb ha
          omega
        have := taken9 hv hbn han hne
        rw [this] at he
        cases he
    · unfold parOk
      by_cases hk0 : k = 0
      · rw [if_pos hk0]
        subst hk0
        rw [h.rootP]
        rfl
      · rw [if_neg hk0]
        obtain ⟨j, rfl⟩ : ∃ j, k = j + 1 := ⟨k - 1, by omega⟩
        obtain ⟨x, hx, hxn⟩ := hW j (by omega)
        obtain ⟨p, hp, hpx⟩ := h.next j x a hx ha
        have har : a ≠ r := by
          rintro rfl
          have := nodup9_at h.nodup ha h.root
          omega
        obtain ⟨p', m, h1, h2, h3, h4⟩ := h.up (j + 1) a ha har
        have : p' = p := by omega
        subst this
        have hrp : Anc9 ps r p' := ((h.mem p').1 (List.mem_of_getElem? h2)).2
        have h6 := h.anc h2 hrp hf x j x (Nat.le_refl _) hx hpx
        refine List.contains_iff_mem.2 ?_
        rw [h3, show ((j + 1 : Nat) : Int) - 1 = (j : Int) by omega]
        exact chain_of_anc9 hdown (j + 1) j (by omega) (by omega) h6
  rw [validB_all hall, h.len, decide_eq_true (by omega : 1 ≤ W.length), decide_eq_true (by have := (valid_all hv).2.1; omega : W.length ≤ 8)]
  rfl
theorem Cut9.down {l' : List Seg} {nm : Nat → ByteArray} {sz ps : Nat → Int} {n r : Nat} {W : List Nat} (h : Cut9 l' nm sz ps n r W) : Down l' l'.length := fun k hk => by
  rw [h.len] at hk
  have ha : W[k]? = some W[k] := List.getElem?_eq_getElem hk
  generalize W[k] = a at ha
  by_cases har : a = r
  · subst har
    have : k = 0 := nodup9_at h.nodup ha h.root
    subst this
    rw [h.rootP]
    omega
  · obtain ⟨p, m, h1, h2, h3, h4⟩ := h.up k a ha har
    rw [h3]
    omega
theorem Cut9.size {l' : List Seg} {nm : Nat → ByteArray} {sz ps : Nat → Int} {n r : Nat} {W : List Nat} (h : Cut9 l' nm sz ps n r W) {k a : Nat} (ha : W[k]? = some a) : sizeAt l' k = sz a := by
  have hk : k < l'.length := by rw [h.len]; exact (List.getElem?_eq_some_iff.1 ha).1
  have h1 := h.get k a ha
  rw [List.getElem?_eq_getElem hk] at h1
  injection h1 with h1
  rw [sizeAt_of hk, h1]
/-- Where the root of what is built ends, and where others do. -/
theorem Cut9.end0 {l' : List Seg} {nm : Nat → ByteArray} {sz ps : Nat → Int} {n r : Nat} {W : List Nat} (h : Cut9 l' nm sz ps n r W) : endAt l' 0 = sz r := by
  rw [endAt_beg, begAt_root (by rw [h.rootP]; omega), h.size h.root]
  omega
theorem Cut9.endS {l' : List Seg} {nm : Nat → ByteArray} {sz ps : Nat → Int} {n r : Nat} {W : List Nat} (h : Cut9 l' nm sz ps n r W) {k a : Nat} (ha : W[k]? = some a) (har : a ≠ r) :
    ∃ p m : Nat, ps a = (p : Int) ∧ W[m]? = some p ∧ m < k ∧ endAt l' k = endAt l' m + sz a := by
  obtain ⟨p, m, h1, h2, h3, h4⟩ := h.up k a ha har
  refine ⟨p, m, h1, h2, h4, ?_⟩
  have hk : k < l'.length := by rw [h.len]; exact (List.getElem?_eq_some_iff.1 ha).1
  rw [endAt_beg, begAt_step h.down hk h3, h.size ha]
theorem endS9 {l : List Seg} (hv : validB l = true) {a : Nat} (ha : a < l.length) (h0 : a ≠ 0) : ∃ p : Nat, parAt l a = (p : Int) ∧ p < a ∧ endAt l a = endAt l p + sizeAt l a := by
  obtain ⟨p, h1, h2, _⟩ := (tree9_of hv).up a (by omega) ha
  refine ⟨p, h1, h2, ?_⟩
  rw [endAt_beg, begAt_step (valid_all hv).1.down ha h1]
theorem end09 {l : List Seg} (hv : validB l = true) : endAt l 0 = sizeAt l 0 := by
  rw [endAt_beg, begAt_root ((tree9_of hv).root)]
  omega

/-- A set of nodes without doubles has the sum that it has in order. -/
theorem sum9_perm {f : Nat → Int} : ∀ {A B : List Nat}, A.Nodup → B.Nodup → (∀ x, x ∈ A ↔ x ∈ B) → (A.map f).sum = (B.map f).sum
  | [], [], _, _, _ => rfl
  | [], b :: B, _, _, h => by have := (h b).2 List.mem_cons_self; simp at this
  | a :: A, B, hA, hB, h => by
    obtain ⟨P, Q, rfl⟩ := List.append_of_mem ((h a).1 List.mem_cons_self)
    obtain ⟨h1, h2⟩ := List.nodup_cons.1 hA
    have h3 := List.nodup_append.1 hB
    obtain ⟨h4, h5⟩ := List.nodup_cons.1 h3.2.1
    have h6 : a ∉ P := fun hm => h3.2.2 a hm a List.mem_cons_self rfl
    have ih := sum9_perm (f := f) (A := A) (B := P ++ Q) h2 (List.nodup_append.2 ⟨h3.1, h5, fun x hx y hy => h3.2.2 x hx y (List.mem_cons_of_mem _ hy)⟩) fun x => by
      have hx := h x
      constructor
      · intro hm
        have hne : x ≠ a := by rintro rfl; exact h1 hm
        have := hx.1 (List.mem_cons_of_mem _ hm)
        rcases List.mem_append.1 this with h7 | h7
        · exact List.mem_append.2 (.inl h7)
        · rcases List.mem_cons.1 h7 with h8 | h8
          · exact absurd h8 hne
          · exact List.mem_append.2 (.inr h8)
      · intro hm
        have hne : x ≠ a := by
          rintro rfl
          rcases List.mem_append.1 hm with h7 | h7
          · exact h6 h7
          · exact h4 h7
        have h7 : x ∈ P ++ a :: Q := by
          rcases List.mem_append.1 hm with h7 | h7
          · exact List.mem_append.2 (.inl h7)
          · exact List.mem_append.2 (.inr (List.mem_cons_of_mem _ h7))
        rcases List.mem_cons.1 (hx.2 h7) with h8 | h8
        · exact absurd h8 hne
        · exact h8
    simp only [List.map_cons, List.sum_cons, List.map_append, List.sum_append] at ih ⊢
    omega
theorem range9_sum {l : List Seg} : ∀ k, k ≤ l.length → ((List.range k).map (sizeAt l)).sum = sumTo l k
  | 0, _ => by simp [sumTo]
  | k + 1, hk => by
    rw [List.range_succ, List.map_append, List.sum_append, range9_sum k (by omega), sumTo_succ (by omega), ← sizeAt_of (show k < l.length by omega)]
    simp
theorem Cut9.sum {l' : List Seg} {nm : Nat → ByteArray} {sz ps : Nat → Int} {n r : Nat} {W : List Nat} (h : Cut9 l' nm sz ps n r W) : sumTo l' l'.length = (W.map sz).sum := by
  rw [← range9_sum l'.length (Nat.le_refl _)]
  congr 1
  apply List.ext_getElem?
  intro k
  by_cases hk : k < W.length
  · rw [List.getElem?_map, List.getElem?_map, List.getElem?_range (by rw [h.len]; exact hk), List.getElem?_eq_getElem hk]
    show some _ = some _
    rw [h.size (List.getElem?_eq_getElem hk)]
  · rw [List.getElem?_eq_none (by rw [List.length_map, List.length_range, h.len]; omega), List.getElem?_eq_none (by rw [List.length_map]; omega)]

theorem roomTo9_le {l : List Seg} {X : Int} : ∀ k, 0 ≤ X → (∀ j, j < k → endAt l j ≤ X) → roomTo l k ≤ X
  | 0, h, _ => h
  | k + 1, h, hk => by
    have h1 := roomTo9_le (l := l) k h fun j hj => hk j (by omega)
    have h2 := hk k (by omega)
    unfold roomTo
    omega

end Go.Proofs.YtcpiojliakgdlaaGreatDoor
/- Chapter 9, plain: a segment merged into its parent, and one moved up. -/
namespace Go.Proofs.YtcpiojliakgdlaaGreatDoor

/-- A merged tree: all but the one. -/
theorem anc9_merge {ps : Nat → Int} {n i p : Nat} (ht : Tree9 ps n) (hi : i < n) (h0 : 0 < i) (hp : ps i = (p : Int)) : ∀ m a, a ≤ m → a < n → (Anc9 (mergeP ps i p) 0 a ↔ a ≠ i) := by
  have hf := ht.fall
  have hpi := hf i hi
  intro m
  induction m with
  | zero =>
    intro a h1 _
    have : a = 0 := by omega
    subst this
    exact ⟨fun _ => by omega, fun _ => .refl⟩
  | succ m ih =>
    intro a h1 h2
    constructor
    · rintro h rfl
      cases h with
      | refl => omega
      | @step _ k hk _ =>
        unfold mergeP at hk
        rw [if_pos rfl] at hk
        omega
    · intro hne
      by_cases ha0 : a = 0
      · subst ha0; exact .refl
      · obtain ⟨q, h3, h4, _⟩ := ht.up a (by omega) h2
        by_cases hq : q = i
        · subst hq
          refine .step (k := p) ?_ ((ih p (by omega) (by omega)).2 (by omega))
          unfold mergeP
          rw [if_neg hne, if_pos h3]
        · refine .step (k := q) ?_ ((ih q (by omega) (by omega)).2 hq)
          unfold mergeP
          rw [if_neg hne, if_neg (by omega), h3]
theorem anc9_move {ps : Nat → Int} {n i p q : Nat} (ht : Tree9 ps n) (hi : i < n) (hp : ps i = (p : Int)) (hq : ps p = (q : Int)) : ∀ m a, a ≤ m → a < n → Anc9 (moveP ps i q) 0 a := by
  have hf := ht.fall
  have hpi := hf i hi
  have hqp := hf p (by omega)
  intro m
  induction m with
  | zero =>
    intro a h1 _
    have : a = 0 := by omega
    subst this
    exact .refl
  | succ m ih =>
    intro a h1 h2
    by_cases ha0 : a = 0
    · subst ha0; exact .refl
    · obtain ⟨k, h3, h4, _⟩ := ht.up a (by omega) h2
      by_cases hai : a = i
      · subst hai
        refine .step (k := q) ?_ (ih q (by omega) (by omega))
        unfold moveP
        rw [if_pos rfl]
      · refine .step (k := k) ?_ (ih k (by omega) (by omega))
        unfold moveP
        rw [if_neg hai, h3]
theorem sum9_upd {f : Nat → Int} {p : Nat} {d : Int} : ∀ n, ((List.range n).map (fun k => if k = p then f p + d else f k)).sum = ((List.range n).map f).sum + if p < n then d else 0
  | 0 => by simp
  | n + 1 => by
    rw [List.range_succ, List.map_append, List.sum_append, List.map_append, List.sum_append, sum9_upd n]
    simp only [List.map_cons, List.map_nil, List.sum_cons, List.sum_nil]
    by_cases h : n = p
    · subst h
      rw [if_pos rfl, if_neg (by omega), if_pos (by omega)]
      omega
    · rw [if_neg h]
      by_cases h2 : p < n
      · rw [if_pos h2, if_pos (by omega)]; omega
      · rw [if_neg h2, if_neg (by omega)]; omega

/-- What MergeIn is about. -/
structure Merge9 (l : List Seg) (s : ByteArray) (i p : Nat) : Prop where
  valid : validB l = true
  ix : indexB l s = (i : Int)
  lt : i < l.length
  pos : 0 < i
  par : parAt l i = (p : Int)
  plt : p < i
theorem Merge9.cut {l : List Seg} {s : ByteArray} {i p : Nat} (h : Merge9 l s i p) :
    Cut9 (made9 l (mergeZ9 (sizeAt l) p i) (mergeP (parAt l) i p) 0) (nmAt9 l) (mergeZ9 (sizeAt l) p i) (mergeP (parAt l) i p) l.length 0 (sub9 (mergeP (parAt l) i p) l.length 0) :=
  made9_cut (mergeP_fall (tree9_of h.valid).fall h.lt h.par) (by have := h.lt; omega)
theorem Merge9.mem {l : List Seg} {s : ByteArray} {i p : Nat} (h : Merge9 l s i p) {a : Nat} : a ∈ sub9 (mergeP (parAt l) i p) l.length 0 ↔ a < l.length ∧ a ≠ i := by
  rw [h.cut.mem]
  constructor
  · rintro ⟨h1, h2⟩; exact ⟨h1, (anc9_merge (tree9_of h.valid) h.lt h.pos h.par a a (Nat.le_refl _) h1).1 h2⟩
  · rintro ⟨h1, h2⟩; exact ⟨h1, (anc9_merge (tree9_of h.valid) h.lt h.pos h.par a a (Nat.le_refl _) h1).2 h2⟩
theorem Merge9.sums {l : List Seg} {s : ByteArray} {i p : Nat} (h : Merge9 l s i p) {f : Nat → Int} :
    ((sub9 (mergeP (parAt l) i p) l.length 0).map f).sum + f i = ((List.range l.length).map f).sum := by
  have hnd := h.cut.nodup
  have h1 : (sub9 (mergeP (parAt l) i p) l.length 0 ++ [i]).Nodup := List.nodup_append.2 ⟨hnd, by simp, fun x hx y hy e => by
    have h2 := (h.mem.1 hx).2
    rw [List.mem_singleton] at hy
    omega⟩
  have h2 := sum9_perm (f := f) h1 List.nodup_range fun x => by
    rw [List.mem_append, h.mem, List.mem_singleton, List.mem_range]
    constructor
    · rintro (h3 | h3)
      · exact h3.1
      · rw [h3]; exact h.lt
    · intro h3
      by_cases h4 : x = i
      · exact .inr h4
      · exact .inl ⟨h3, h4⟩
  rw [List.map_append, List.sum_append] at h2
  simpa using h2
theorem Merge9.len {l : List Seg} {s : ByteArray} {i p : Nat} (h : Merge9 l s i p) : (made9 l (mergeZ9 (sizeAt l) p i) (mergeP (parAt l) i p) 0).length + 1 = l.length := by
  have h1 := h.sums (f := fun _ => 1)
  have hc : ∀ L : List Nat, (L.map fun _ => (1 : Int)).sum = (L.length : Int) := by
    intro L
    induction L with
    | nil => rfl
    | cons a L ih => simp only [List.map_cons, List.sum_cons, ih, List.length_cons]; omega
  rw [hc, hc, List.length_range] at h1
  rw [h.cut.len]
  omega
theorem Merge9.total {l : List Seg} {s : ByteArray} {i p : Nat} (h : Merge9 l s i p) :
    sumTo (made9 l (mergeZ9 (sizeAt l) p i) (mergeP (parAt l) i p) 0) (made9 l (mergeZ9 (sizeAt l) p i) (mergeP (parAt l) i p) 0).length = sumTo l l.length := by
  rw [h.cut.sum]
  have h1 := h.sums (f := mergeZ9 (sizeAt l) p i)
  have h2 := sum9_upd (f := sizeAt l) (p := p) (d := sizeAt l i) l.length
  have h3 := range9_sum (l := l) l.length (Nat.le_refl _)
  rw [if_pos (by have := h.lt; have := h.plt; omega)] at h2
  have h4 : mergeZ9 (sizeAt l) p i i = sizeAt l i := if_neg (by have := h.plt; omega)
  have h5 : (fun k => if k = p then sizeAt l p + sizeAt l i else sizeAt l k) = mergeZ9 (sizeAt l) p i := rfl
  rw [h5] at h2
  omega
/-- Where segments of a merged tree end. -/
theorem Merge9.ends {l : List Seg} {s : ByteArray} {i p : Nat} (h : Merge9 l s i p) : ∀ m a k, a ≤ m → (sub9 (mergeP (parAt l) i p) l.length 0)[k]? = some a →
    (a < p → endAt (made9 l (mergeZ9 (sizeAt l) p i) (mergeP (parAt l) i p) 0) k = endAt l a) ∧
    (a = p → endAt (made9 l (mergeZ9 (sizeAt l) p i) (mergeP (parAt l) i p) 0) k = endAt l i) ∧
    endAt l a ≤ endAt (made9 l (mergeZ9 (sizeAt l) p i) (mergeP (parAt l) i p) 0) k := by
  have hc := h.cut
  have hv := h.valid
  have hpl := h.plt
  have hil := h.lt
  have hf := (tree9_of hv).fall
  have hi0 : 1 ≤ sizeAt l i := (sizeAt_bd hv hil).1
  obtain ⟨p2, e1, e2, e3⟩ := endS9 hv hil (by omega)
  have hp2 : p2 = p := by have := h.par; omega
  subst hp2
  intro m
  induction m with
  | zero =>
    intro a k ha hk
    have ha0 : a = 0 := by omega
    subst ha0
    have hk0 : k = 0 := nodup9_at hc.nodup hk hc.root
    subst hk0
    have h1 := hc.end0
    have h2 := end09 hv
    rw [h1]
    by_cases hp0 : p2 = 0
    · subst hp0
      have h3 : mergeZ9 (sizeAt l) 0 i 0 = sizeAt l 0 + sizeAt l i := if_pos rfl
      rw [h3]
      refine ⟨fun h => by omega, fun _ => by omega, by omega⟩
    · have h3 : mergeZ9 (sizeAt l) p2 i 0 = sizeAt l 0 := if_neg (by omega)
      rw [h3]
      exact ⟨fun _ => h2.symm, fun h => by omega, by omega⟩
  | succ m ih =>
    intro a k ham hk
    by_cases ha0 : a = 0
    · exact ih a k (by omega) hk
    · obtain ⟨haw, hai⟩ := h.mem.1 (List.mem_of_getElem? hk)
      obtain ⟨q, k2, h1, h2, h3, h4⟩ := hc.endS hk ha0
      obtain ⟨q0, g1, g2, g3⟩ := endS9 hv haw ha0
      by_cases hqi : q0 = i
      · subst hqi
        have hq : q = p2 := by
          unfold mergeP at h1
          rw [if_neg hai, if_pos g1] at h1
          omega
        subst hq
        obtain ⟨_, j2, _⟩ := ih q k2 (by omega) h2
        have h5 : mergeZ9 (sizeAt l) q q0 a = sizeAt l a := if_neg (by omega)
        rw [h5] at h4
        have := j2 rfl
        exact ⟨fun _ => by omega, fun _ => by omega, by omega⟩
      · have hq : q = q0 := by
          unfold mergeP at h1
          rw [if_neg hai, if_neg (by omega)] at h1
          omega
        subst hq
        obtain ⟨j1, j2, j3⟩ := ih q k2 (by omega) h2
        by_cases hap : a = p2
        · subst hap
          have h5 : mergeZ9 (sizeAt l) a i a = sizeAt l a + sizeAt l i := if_pos rfl
          rw [h5] at h4
          have := j1 g2
          exact ⟨fun h => by omega, fun _ => by omega, by omega⟩
        · have h5 : mergeZ9 (sizeAt l) p2 i a = sizeAt l a := if_neg hap
          rw [h5] at h4
          refine ⟨fun h => ?_, fun h => absurd h hap, by omega⟩
          have := j1 (by omega)
          omega
theorem Merge9.room {l : List Seg} {s : ByteArray} {i p : Nat} (h : Merge9 l s i p) :
    roomTo l l.length ≤ roomTo (made9 l (mergeZ9 (sizeAt l) p i) (mergeP (parAt l) i p) 0) (made9 l (mergeZ9 (sizeAt l) p i) (mergeP (parAt l) i p) 0).length := by
  have hr : ∀ k, (made9 l (mergeZ9 (sizeAt l) p i) (mergeP (parAt l) i p) 0).length = k → 0 ≤ roomTo (made9 l (mergeZ9 (sizeAt l) p i) (mergeP (parAt l) i p) 0) k := by
    intro k _
    induction k with
    | zero => exact Int.le_refl _
    | succ k ih =>
      unfold roomTo
      have : ∀ k, 0 ≤ roomTo (made9 l (mergeZ9 (sizeAt l) p i) (mergeP (parAt l) i p) 0) k := by
        intro k
        induction k with
        | zero => exact Int.le_refl _
        | succ k ih => unfold roomTo; omega
      have := this k
      omega
  refine roomTo9_le _ (hr _ rfl) fun j hj => ?_
  by_cases hji : j = i
  · subst hji
    have hpm : p ∈ sub9 (mergeP (parAt l) j p) l.length 0 := h.mem.2 ⟨by have := h.plt; omega, by have := h.plt; omega⟩
    have hk := get9_idxOf hpm
    have hlt := (List.getElem?_eq_some_iff.1 hk).1
    obtain ⟨_, h2, _⟩ := h.ends p p _ (Nat.le_refl _) hk
    rw [← h2 rfl]
    exact roomTo_le _ _ _ (by rw [h.cut.len]; exact hlt)
  · have hpm : j ∈ sub9 (mergeP (parAt l) i p) l.length 0 := h.mem.2 ⟨hj, hji⟩
    have hk := get9_idxOf hpm
    have hlt := (List.getElem?_eq_some_iff.1 hk).1
    obtain ⟨_, _, h3⟩ := h.ends j j _ (Nat.le_refl _) hk
    exact Int.le_trans h3 (roomTo_le _ _ _ (by rw [h.cut.len]; exact hlt))
theorem Merge9.made {l : List Seg} {s : ByteArray} {i p : Nat} (h : Merge9 l s i p) (h9 : sizeAt l i + sizeAt l p ≤ 99) : validB (made9 l (mergeZ9 (sizeAt l) p i) (mergeP (parAt l) i p) 0) = true := by
  refine h.cut.valid h.valid (mergeP_fall (tree9_of h.valid).fall h.lt h.par) (by have := h.lt; omega) fun a ha => ?_
  obtain ⟨h1, h2⟩ := h.mem.1 ha
  have h3 := sizeAt_bd h.valid h1
  have h4 := sizeAt_bd h.valid h.lt
  have h5 := sizeAt_bd h.valid (show p < l.length by have := h.lt; have := h.plt; omega)
  unfold sizeOk mergeZ9
  split
  · simp; omega
  · simp; omega
/-- What MoveUp is about. -/
structure Move9 (l : List Seg) (s : ByteArray) (i p q : Nat) : Prop where
  valid : validB l = true
  ix : indexB l s = (i : Int)
  lt : i < l.length
  par : parAt l i = (p : Int)
  plt : p < i
  up : parAt l p = (q : Int)
  qlt : q < p
theorem Move9.fall {l : List Seg} {s : ByteArray} {i p q : Nat} (h : Move9 l s i p q) : Fall9 (moveP (parAt l) i q) l.length := moveP_fall (tree9_of h.valid).fall h.lt h.par h.up
theorem Move9.cut {l : List Seg} {s : ByteArray} {i p q : Nat} (h : Move9 l s i p q) :
    Cut9 (made9 l (sizeAt l) (moveP (parAt l) i q) 0) (nmAt9 l) (sizeAt l) (moveP (parAt l) i q) l.length 0 (sub9 (moveP (parAt l) i q) l.length 0) :=
  made9_cut h.fall (by have := h.lt; omega)
theorem Move9.mem {l : List Seg} {s : ByteArray} {i p q : Nat} (h : Move9 l s i p q) {a : Nat} : a ∈ sub9 (moveP (parAt l) i q) l.length 0 ↔ a < l.length := by
  rw [h.cut.mem]
  exact ⟨fun h => h.1, fun ha => ⟨ha, anc9_move (tree9_of h.valid) h.lt h.par h.up a a (Nat.le_refl _) ha⟩⟩
theorem Move9.len {l : List Seg} {s : ByteArray} {i p q : Nat} (h : Move9 l s i p q) : (made9 l (sizeAt l) (moveP (parAt l) i q) 0).length = l.length := by
  have h1 := sum9_perm (f := fun _ => 1) h.cut.nodup (List.nodup_range (n := l.length)) fun x => by rw [h.mem, List.mem_range]
  have hc : ∀ L : List Nat, (L.map fun _ => (1 : Int)).sum = (L.length : Int) := by
    intro L
    induction L with
    | nil => rfl
    | cons a L ih => simp only [List.map_cons, List.sum_cons, ih, List.length_cons]; omega
  rw [hc, hc, List.length_range] at h1
  rw [h.cut.len]
  omega
theorem Move9.made {l : List Seg} {s : ByteArray} {i p q : Nat} (h : Move9 l s i p q) : validB (made9 l (sizeAt l) (moveP (parAt l) i q) 0) = true :=
  h.cut.valid h.valid h.fall (by have := h.lt; omega) fun a ha => (seg9_ok h.valid (h.mem.1 ha)).2
theorem Move9.ends {l : List Seg} {s : ByteArray} {i p q : Nat} (h : Move9 l s i p q) : ∀ m a k, a ≤ m → (sub9 (moveP (parAt l) i q) l.length 0)[k]? = some a →
    endAt (made9 l (sizeAt l) (moveP (parAt l) i q) 0) k ≤ endAt l a := by
  have hc := h.cut
  have hv := h.valid
  have hpl := h.plt
  have hql := h.qlt
  intro m
  induction m with
  | zero =>
    intro a k ha hk
    have ha0 : a = 0 := by omega
    subst ha0
    have hk0 : k = 0 := nodup9_at hc.nodup hk hc.root
    subst hk0
    rw [hc.end0, end09 hv]
    exact Int.le_refl _
  | succ m ih =>
    intro a k ham hk
    by_cases ha0 : a = 0
    · exact ih a k (by omega) hk
    · have haw := h.mem.1 (List.mem_of_getElem? hk)
      obtain ⟨x, k2, h1, h2, h3, h4⟩ := hc.endS hk ha0
      obtain ⟨q0, g1, g2, g3⟩ := endS9 hv haw ha0
      have hx : x < a := by have := h.fall a haw; omega
      have j := ih x k2 (by omega) h2
      by_cases hai : a = i
      · subst hai
        have hxq : x = q := by
          unfold moveP at h1
          rw [if_pos rfl] at h1
          omega
        subst hxq
        have hpq : q0 = p := by have := h.par; omega
        subst hpq
        obtain ⟨q1, f1, f2, f3⟩ := endS9 hv (show q0 < l.length by omega) (by omega)
        have : q1 = x := by have := h.up; omega
        subst this
        have := (sizeAt_bd hv (show q0 < l.length by omega)).1
        omega
      · have hxq : x = q0 := by
          unfold moveP at h1
          rw [if_neg hai] at h1
          omega
        subst hxq
        omega
theorem Move9.room {l : List Seg} {s : ByteArray} {i p q : Nat} (h : Move9 l s i p q) :
    roomTo (made9 l (sizeAt l) (moveP (parAt l) i q) 0) (made9 l (sizeAt l) (moveP (parAt l) i q) 0).length ≤ roomTo l l.length := by
  have hr : ∀ k, 0 ≤ roomTo l k := by
    intro k
    induction k with
    | zero => exact Int.le_refl _
    | succ k ih => unfold roomTo; omega
  refine roomTo9_le _ (hr _) fun k hk => ?_
  rw [h.cut.len] at hk
  have hk' : (sub9 (moveP (parAt l) i q) l.length 0)[k]? = some (sub9 (moveP (parAt l) i q) l.length 0)[k] := List.getElem?_eq_getElem hk
  have ha := h.mem.1 (List.getElem_mem hk)
  generalize (sub9 (moveP (parAt l) i q) l.length 0)[k] = a at hk' ha
  exact Int.le_trans (h.ends a a k (Nat.le_refl _) hk') (roomTo_le _ _ _ ha)

theorem Cut9.name {l' : List Seg} {nm : Nat → ByteArray} {sz ps : Nat → Int} {n r : Nat} {W : List Nat} (h : Cut9 l' nm sz ps n r W) {k a : Nat} (ha : W[k]? = some a) : nmAt9 l' k = nm a := by
  have hk : k < l'.length := by rw [h.len]; exact (List.getElem?_eq_some_iff.1 ha).1
  have h1 := h.get k a ha
  rw [List.getElem?_eq_getElem hk] at h1
  injection h1 with h1
  rw [nmAt9_of hk, h1]
end Go.Proofs.YtcpiojliakgdlaaGreatDoor
/- Chapter 9: what is cut off and what is left: where they end, their rooms and totals (plain). -/
namespace Go.Proofs.YtcpiojliakgdlaaGreatDoor
open Go.RowKit

theorem roomTo9_pos {l : List Seg} : ∀ k, 0 ≤ roomTo l k
  | 0 => Int.le_refl _
  | k + 1 => by
    have := roomTo9_pos (l := l) k
    unfold roomTo
    omega
/-- The names of what is built are the tree's. -/
theorem Cut9.short {l l' : List Seg} {sz ps : Nat → Int} {r : Nat} {W : List Nat} (h : Cut9 l' (nmAt9 l) sz ps l.length r W) (hn : ∀ s ∈ l, s.name.size ≤ 8) : ∀ s ∈ l', s.name.size ≤ 8 := fun s hs => by
  obtain ⟨k, hk⟩ := List.mem_iff_getElem?.1 hs
  have hkl : k < W.length := by rw [← h.len]; exact (List.getElem?_eq_some_iff.1 hk).1
  have hg := h.get k W[k] (List.getElem?_eq_getElem hkl)
  have ha := ((h.mem _).1 (List.getElem_mem hkl)).1
  rw [hk] at hg
  injection hg with hg
  rw [hg]
  show (nmAt9 l W[k]).size ≤ 8
  rw [nmAt9_of ha]
  exact hn _ (List.getElem_mem ha)

/-- What the law of Prune says of a segment cut off. -/
structure SubSays (l : List Seg) (s : ByteArray) : Prop where
  short : ∀ x ∈ subL l s, x.name.size ≤ 8
  len : (subL l s).length ≤ l.length
  room : roomB (subL l s) + addrB l s ≤ roomB l
  rb : -1 ≤ roomB (subL l s) ∧ roomB (subL l s) ≤ 792
  ab : -1 ≤ addrB l s ∧ addrB l s ≤ 792
  first : ∃ z, (subL l s)[0]? = some (⟨s, z, -1⟩ : Seg)
theorem nameIx9 {l : List Seg} {s : ByteArray} (h : 0 ≤ indexB l s) : nmAt9 l (ix9 l s) = s := by
  obtain ⟨hv, hi⟩ := index9_valid h
  have h1 : indexB l s = seek l s := if_pos hv
  have h2 : seek l s = ((ix9 l s : Nat) : Int) := by unfold ix9; omega
  obtain ⟨x, hx, hn⟩ := seek_name h2
  rw [nmAt9_of hi]
  rw [List.getElem?_eq_getElem hi] at hx
  injection hx with hx
  rw [hx]
  exact hn
/-- What the law of Prune says of what is left. -/
structure PruneSays (l : List Seg) (s : ByteArray) : Prop where
  sub : subOk l s = true
  short : ∀ x ∈ pruneL l s, x.name.size ≤ 8
  len : (pruneL l s).length + (subL l s).length = l.length
  total : totalB (pruneL l s) + totalB (subL l s) = totalB l
  t1 : -1 ≤ totalB (pruneL l s) ∧ totalB (pruneL l s) ≤ 792
  t2 : -1 ≤ totalB (subL l s) ∧ totalB (subL l s) ≤ 792
  room : roomB l = max (roomB (pruneL l s)) (roomB (subL l s) + addrB l s)
end Go.Proofs.YtcpiojliakgdlaaGreatDoor
/- Where a node lies: the program's own place, by the parents. -/
namespace Go.Proofs.YtcpiojliakgdlaaGreatDoor
open Go.RowKit

/-- What place reads of the nodes. -/
def Placed (w : World) (l : List Seg) (nb : Nat → Nat) : Prop := ∀ j, j < l.length → nb j < w.heap.size ∧ w.cell? ⟨nb j, 1, none⟩ = some (.int .i64 (sizeAt l j)) ∧ w.cell? ⟨nb j, 2, none⟩ = some (.pointer (parPtr l nb j))
theorem Placed.below {w w' : World} {l : List Seg} {nb : Nat → Nat} (h : Placed w l nb) (hb : Below w.heap.size w w') : Placed w' l nb := fun j hj => by
  obtain ⟨h1, h2, h3⟩ := h j hj
  exact ⟨Nat.lt_of_lt_of_le h1 hb.size, (hb.cell (p := ⟨nb j, 1, none⟩) h1).trans h2, (hb.cell (p := ⟨nb j, 2, none⟩) h1).trans h3⟩
theorem Nodes.placed {w : World} {B g : Nat} {l : List Seg} {nb : Nat → Nat} {cv : Nat → Value} (h : Nodes w B g l.length l.length l nb cv) : Placed w l nb := fun j hj => by
  have h1 := h.node j _ hj (List.getElem?_eq_getElem hj)
  refine ⟨h1.lt, ?_, h1.cell 2⟩
  rw [sizeAt_of hj]
  exact h1.cell 1

theorem run_end (a b : Int) (w : World) : (Instr.field 47 (.agg #[.int .i64 a, .int .i64 b]) 1).run Tryz.prog w = .ok (.int .i64 b) w := by kernel_rfl

set_option maxRecDepth 100000 in
set_option maxHeartbeats 400000 in
theorem place_any (l : List Seg) (nb : Nat → Nat) (hv : validB l = true) : ∀ i, i < l.length → ∀ w, Placed w l nb →
    Calls Tryz.prog 42 #[.pointer (some ⟨nb i, 0, none⟩)] w fun e w' => e = .returned (.agg #[.int .i64 (begAt l i), .int .i64 (endAt l i)]) ∧ Below w.heap.size w w' := by
  refine rp_ind (valid_all hv).1.down (fun i hi hp w hw => ?_) (fun i p hi hpi hp ih w hw => ?_)
  · obtain ⟨h1, c1, c2⟩ := hw i hi
    have hpp : parPtr l nb i = none := if_pos hp
    have HB : Hid (begAt l i = 0 ∧ endAt l i = sizeAt l i) := by
      have a := begAt_root hp
      have b := endAt_beg l i
      exact ⟨a, by omega⟩
    obtain ⟨z1, z2⟩ := sizeAt_bd hv hi
    rw [hpp] at c2
    clear hw hpp hp
    rw [HB.out.1, HB.out.2]
    generalize sizeAt l i = sz at *
    go_enter Tryz.func42, Tryz.ntmps42
    go_wp2
    refine bodyPost_ret (v := .agg #[.int .i64 0, .int .i64 sz]) (by simp [results, Tryz.results42, go_sem]) rfl ⟨rfl, ?_⟩
    repeat (first | exact Below.refl _ _ | refine Below.setCell ?_ (by simp) _ | refine Below.alloc ?_ (by simp; try omega) _)
  · obtain ⟨h1, c1, c2⟩ := hw i hi
    have hd := (valid_all hv).1.down i hi
    have hpp : parPtr l nb i = some ⟨nb p, 0, none⟩ := by
      unfold parPtr
      rw [if_neg (by omega), hp, Int.toNat_natCast]
    have HB : Hid (begAt l i = endAt l p ∧ endAt l i = endAt l p + sizeAt l i) := by
      have a := begAt_step (valid_all hv).1.down hi hp
      have b := endAt_beg l i
      exact ⟨a, by omega⟩
    obtain ⟨z1, z2⟩ := sizeAt_bd hv hi
    obtain ⟨e1, e2, e3⟩ := place_small hv (show p < l.length by omega)
    have e0 : 0 ≤ endAt l p := by omega
    rw [hpp] at c2
    have HW := Lib.hid hw
    have HI := Lib.hid ih
    clear hw hpp hp ih hd e1 e2
    rw [HB.out.1, HB.out.2]
    clear HB
    have hz0 : w.heap.size < w.heap.size + 1 := Nat.lt_succ_self _
    have hf1 := run_end
    go_enter Tryz.func42, Tryz.ntmps42
    go_wp2_with fail
    refine (HI.out _ (HW.out.below ((Below.refl _ _).alloc (Nat.le_refl _) _))).mono ?_
    rintro e w1 ⟨rfl, hb1⟩
    have hb : Below w.heap.size w w1 := ((Below.refl _ w).alloc (Nat.le_refl _) _).trans (hb1.mono (by simp))
    rw [← hb.cell (p := ⟨nb i, 1, none⟩) h1] at c1
    rw [← hb.cell (p := ⟨nb i, 2, none⟩) h1] at c2
    have hr : Row w1 w.heap.size 47 #[.int .i64 0, .int .i64 0] := (Row.new w _ _).below hb1 (by simp)
    have r0 := hr.cell 0
    have r1 := hr.cell 1
    have f0 := hr.free 0
    have f1 := hr.free 1
    have hz := hr.lt
    have H := Lib.hid hb
    clear hb hb1 hr HW HI
    go_wp2
    refine bodyPost_ret (v := .agg #[.int .i64 (endAt l p), .int .i64 (endAt l p + sizeAt l i)]) (by simp [results, Tryz.results42, go_sem, r0, r1]) rfl ⟨rfl, ?_⟩
    repeat (first | exact H.out | refine Below.setCell ?_ (by simp) _ | refine Below.alloc ?_ (by simp; try omega) _)

end Go.Proofs.YtcpiojliakgdlaaGreatDoor
