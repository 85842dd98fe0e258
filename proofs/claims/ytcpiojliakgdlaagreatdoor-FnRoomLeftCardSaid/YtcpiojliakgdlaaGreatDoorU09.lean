/- Joined: Vb. -/
import Derived.Test.YtcpiojliakgdlaaGreatDoorU01
/- Chapter 9, plain: children by parents, what is below a node in order, the tree that is built of it. -/
namespace Go.Proofs.YtcpiojliakgdlaaGreatDoor

theorem sorted9_ext : ∀ {L M : List Nat}, L.Pairwise (· < ·) → M.Pairwise (· < ·) → (∀ x, x ∈ L ↔ x ∈ M) → L = M
  | [], [], _, _, _ => rfl
  | [], b :: M, _, _, h => by have := (h b).2 List.mem_cons_self; simp at this
  | a :: L, [], _, _, h => by have := (h a).1 List.mem_cons_self; simp at this
  | a :: L, b :: M, hL, hM, h => by
    obtain ⟨h1, h2⟩ := List.pairwise_cons.1 hL
    obtain ⟨h3, h4⟩ := List.pairwise_cons.1 hM
    have e : a = b := by
      rcases List.mem_cons.1 ((h a).1 List.mem_cons_self) with e | e
      · exact e
      · rcases List.mem_cons.1 ((h b).2 List.mem_cons_self) with e' | e'
        · exact e'.symm
        · have := h3 a e
          have := h1 b e'
          omega
    subst e
    rw [sorted9_ext h2 h4 fun x => ?_]
    have hx := h x
    constructor
    · intro hm
      have hlt := h1 x hm
      rcases List.mem_cons.1 (hx.1 (List.mem_cons_of_mem _ hm)) with e | e
      · omega
      · exact e
    · intro hm
      have hlt := h3 x hm
      rcases List.mem_cons.1 (hx.2 (List.mem_cons_of_mem _ hm)) with e | e
      · omega
      · exact e

/-- The children of a node, by the parents. -/
def kids9 (ps : Nat → Int) (n i : Nat) : List Nat := (List.range n).filter (fun j => decide (ps j = (i : Int)))
theorem mem_kids9 {ps : Nat → Int} {n i j : Nat} : j ∈ kids9 ps n i ↔ j < n ∧ ps j = (i : Int) := by
  unfold kids9
  rw [List.mem_filter, List.mem_range, decide_eq_true_iff]
theorem kids9_sorted (ps : Nat → Int) (n i : Nat) : (kids9 ps n i).Pairwise (· < ·) := List.Pairwise.filter _ List.pairwise_lt_range
theorem kids9_len (ps : Nat → Int) (n i : Nat) : (kids9 ps n i).length ≤ n := by
  have := List.length_filter_le (fun j => decide (ps j = (i : Int))) (List.range n)
  simpa [kids9] using this

/-- Parents stand ahead of their children. -/
def Fall9 (ps : Nat → Int) (n : Nat) : Prop := ∀ j, j < n → ps j < (j : Int)

/-- What is below a node, in order: by steps. -/
def pre9 (ps : Nat → Int) (n : Nat) : Nat → Nat → List Nat
  | 0, _ => []
  | f + 1, i => i :: ((kids9 ps n i).map (pre9 ps n f)).flatten
theorem pre9_fuel {ps : Nat → Int} {n : Nat} (hf : Fall9 ps n) : ∀ (f g i : Nat), n ≤ f + i → n ≤ g + i → i < n → pre9 ps n f i = pre9 ps n g i
  | 0, _, i, h, _, hi => by omega
  | _ + 1, 0, i, _, h, hi => by omega
  | f + 1, g + 1, i, h1, h2, hi => by
    unfold pre9
    congr 2
    refine List.map_congr_left fun j hj => ?_
    obtain ⟨hjn, hjp⟩ := mem_kids9.1 hj
    have := hf j hjn
    exact pre9_fuel hf f g j (by omega) (by omega) hjn
def sub9 (ps : Nat → Int) (n i : Nat) : List Nat := pre9 ps n (n - i) i
theorem sub9_eq {ps : Nat → Int} {n i : Nat} (hf : Fall9 ps n) (hi : i < n) : sub9 ps n i = i :: ((kids9 ps n i).map (sub9 ps n)).flatten := by
  unfold sub9
  obtain ⟨f, hfu⟩ : ∃ f, n - i = f + 1 := ⟨n - i - 1, by omega⟩
  rw [hfu]
  show i :: _ = _
  congr 2
  refine List.map_congr_left fun j hj => ?_
  obtain ⟨hjn, hjp⟩ := mem_kids9.1 hj
  have := hf j hjn
  exact pre9_fuel hf f (n - j) j (by omega) (by omega) hjn

/-- A node is another one or lies below it. -/
inductive Anc9 (ps : Nat → Int) (i : Nat) : Nat → Prop
  | refl : Anc9 ps i i
  | step {j k : Nat} (h : ps j = (k : Int)) (hk : Anc9 ps i k) : Anc9 ps i j
theorem Anc9.le {ps : Nat → Int} {n i j : Nat} (hf : Fall9 ps n) (h : Anc9 ps i j) : j < n → i ≤ j := by
  induction h with
  | refl => exact fun _ => Nat.le_refl _
  | step hp _ ih =>
    intro hj
    have := hf _ hj
    have := ih (by omega)
    omega
theorem Anc9.trans {ps : Nat → Int} {i j k : Nat} (h1 : Anc9 ps i j) (h2 : Anc9 ps j k) : Anc9 ps i k := by
  induction h2 with
  | refl => exact h1
  | step hp _ ih => exact .step hp ih
/-- What is above one node is a chain. -/
theorem Anc9.line {ps : Nat → Int} {a b j : Nat} (h1 : Anc9 ps a j) (h2 : Anc9 ps b j) : Anc9 ps a b ∨ Anc9 ps b a := by
  induction h1 with
  | refl => exact .inr h2
  | @step j k hp hk ih =>
    cases h2 with
    | refl => exact .inl (.step hp hk)
    | @step _ k' hp' hk' =>
      have : k = k' := by omega
      subst this
      exact ih hk'
theorem mem_sub9 {ps : Nat → Int} {n : Nat} (hf : Fall9 ps n) : ∀ (f i : Nat), n ≤ f + i → i < n → ∀ j, j ∈ sub9 ps n i ↔ j < n ∧ Anc9 ps i j
  | 0, i, h, hi, _ => by omega
  | f + 1, i, h, hi, j => by
    rw [sub9_eq hf hi, List.mem_cons, List.mem_flatten]
    constructor
    · rintro (rfl | ⟨L, hL, hj⟩)
      · exact ⟨hi, .refl⟩
      · obtain ⟨k, hk, rfl⟩ := List.mem_map.1 hL
        obtain ⟨hkn, hkp⟩ := mem_kids9.1 hk
        have := hf k hkn
        obtain ⟨h1, h2⟩ := (mem_sub9 hf f k (by omega) hkn j).1 hj
        exact ⟨h1, (Anc9.step hkp .refl).trans h2⟩
    · rintro ⟨hjn, ha⟩
      have key : ∀ j, Anc9 ps i j → j < n → j = i ∨ ∃ k, ps k = (i : Int) ∧ k < n ∧ Anc9 ps k j := by
        intro j ha
        induction ha with
        | refl => exact fun _ => .inl rfl
        | @step j k hp hk ih =>
          intro hj
          have := hf j hj
          rcases ih (by omega) with rfl | ⟨m, h1, h2, h3⟩
          · exact .inr ⟨j, hp, hj, .refl⟩
          · exact .inr ⟨m, h1, h2, .step hp h3⟩
      rcases key j ha hjn with rfl | ⟨k, h1, h2, h3⟩
      · exact .inl rfl
      · right
        have := hf k h2
        exact ⟨_, List.mem_map.2 ⟨k, mem_kids9.2 ⟨h2, h1⟩, rfl⟩, (mem_sub9 hf f k (by omega) h2 j).2 ⟨hjn, h3⟩⟩
theorem in_sub9 {ps : Nat → Int} {n i j : Nat} (hf : Fall9 ps n) (hi : i < n) : j ∈ sub9 ps n i ↔ j < n ∧ Anc9 ps i j := mem_sub9 hf n i (by omega) hi j
theorem sub9_nodup {ps : Nat → Int} {n : Nat} (hf : Fall9 ps n) : ∀ (f i : Nat), n ≤ f + i → i < n → (sub9 ps n i).Nodup
  | 0, i, h, hi => by omega
  | f + 1, i, h, hi => by
    rw [sub9_eq hf hi, List.nodup_cons, List.mem_flatten]
    refine ⟨?_, ?_⟩
    · rintro ⟨L, hL, hj⟩
      obtain ⟨k, hk, rfl⟩ := List.mem_map.1 hL
      obtain ⟨hkn, hkp⟩ := mem_kids9.1 hk
      have := hf k hkn
      have := ((in_sub9 hf hkn).1 hj).2.le hf hi
      omega
    · unfold List.Nodup
      rw [List.pairwise_flatten]
      refine ⟨fun L hL => ?_, ?_⟩
      · obtain ⟨k, hk, rfl⟩ := List.mem_map.1 hL
        obtain ⟨hkn, hkp⟩ := mem_kids9.1 hk
        have := hf k hkn
        exact sub9_nodup hf f k (by omega) hkn
      · rw [List.pairwise_map]
        refine List.Pairwise.imp_of_mem (fun {a b} ha hb hab => ?_) (kids9_sorted ps n i)
        obtain ⟨han, hap⟩ := mem_kids9.1 ha
        obtain ⟨hbn, hbp⟩ := mem_kids9.1 hb
        intro x hx y hy hxy
        subst hxy
        have h1 := ((in_sub9 hf han).1 hx).2
        have h2 := ((in_sub9 hf hbn).1 hy).2
        have h3 : ∀ a b, ps a = (i : Int) → ps b = (i : Int) → a < n → b < n → a ≠ b → ¬ Anc9 ps a b := by
          intro a b hap hbp han hbn hne h
          have := hf a han
          have := hf b hbn
          cases h with
          | refl => exact hne rfl
          | @step _ k hp hk =>
            have := hk.le hf (by omega)
            omega
        rcases h1.line h2 with h | h
        · exact h3 a b hap hbp han hbn (by omega) h
        · exact h3 b a hbp hap hbn han (by omega) h

/-- The reference's build. -/
def build9 (nm : Nat → ByteArray) (sz : Nat → Int) (ps : Nat → Int) (n : Nat) : Nat → Nat → Int → List Seg → List Seg
  | 0, _, _, out => out
  | f + 1, i, p, out => (kids9 ps n i).foldl (fun o j => build9 nm sz ps n f j out.length o) (out ++ [⟨nm i, sz i, p⟩])

/-- A segment of what is built: its parent stands where it stands in the row. -/
def cut9 (nm : Nat → ByteArray) (sz : Nat → Int) (pp : Nat → Int) (W : List Nat) (j : Nat) : Seg := ⟨nm j, sz j, if pp j < 0 then -1 else if (pp j).toNat ∈ W then (W.idxOf (pp j).toNat : Nat) else -1⟩

theorem idxOf_mid9 {A B : List Nat} {x : Nat} (h : (A ++ x :: B).Nodup) : (A ++ x :: B).idxOf x = A.length := by
  have h1 : x ∉ A := fun hm => by
    have := (List.nodup_append.1 h).2.2 x hm x List.mem_cons_self
    exact this rfl
  rw [List.idxOf_append, if_neg h1, List.idxOf_cons_self]
  omega

theorem build9_fold {nm : Nat → ByteArray} {sz ps : Nat → Int} {n : Nat} {f : Nat} {q : Int} {g : Nat → Seg} :
    ∀ (ks : List Nat) (o : List Seg) (Q : List Nat),
      (∀ k ∈ ks, ∀ (o : List Seg) (Q1 Q2 : List Nat), Q ++ (ks.map (sub9 ps n)).flatten = Q1 ++ sub9 ps n k ++ Q2 → o.length = Q1.length → build9 nm sz ps n f k q o = o ++ (sub9 ps n k).map g) →
      o.length = Q.length → ks.foldl (fun o j => build9 nm sz ps n f j q o) o = o ++ ((ks.map (sub9 ps n)).flatten).map g
  | [], o, Q, _, _ => by simp
  | k :: ks, o, Q, h, hl => by
    simp only [List.foldl_cons, List.map_cons, List.flatten_cons, List.map_append]
    rw [h k List.mem_cons_self o Q ((ks.map (sub9 ps n)).flatten) (by simp) hl]
    rw [build9_fold ks _ (Q ++ sub9 ps n k) (fun k' hk' o Q1 Q2 he hl' => h k' (List.mem_cons_of_mem _ hk') o Q1 Q2 (by rw [← he]; simp) hl') (by simp [hl])]
    simp

theorem build9_eq {nm : Nat → ByteArray} {sz ps pp : Nat → Int} {n r : Nat} {p0 : Int} (hf : Fall9 ps n) (hr : r < n) (hpp : ∀ j, j ∈ sub9 ps n r → j ≠ r → pp j = ps j) (hp0 : cut9 nm sz pp (sub9 ps n r) r = ⟨nm r, sz r, p0⟩) :
    ∀ (f i : Nat), n ≤ f + i → i < n → ∀ (p : Int) (o : List Seg) (Q1 Q2 : List Nat), Anc9 ps r i → sub9 ps n r = Q1 ++ sub9 ps n i ++ Q2 → o.length = Q1.length → cut9 nm sz pp (sub9 ps n r) i = ⟨nm i, sz i, p⟩ →
      build9 nm sz ps n f i p o = o ++ (sub9 ps n i).map (cut9 nm sz pp (sub9 ps n r))
  | 0, i, h, hi, _, _, _, _, _, _, _, _ => by omega
  | f + 1, i, h, hi, p, o, Q1, Q2, hri, he, hl, hc => by
    have hnd := sub9_nodup hf n r (by omega) hr
    unfold build9
    have hs := sub9_eq hf hi
    have hix : (sub9 ps n r).idxOf i = Q1.length := by
      rw [hs] at he
      have he' : sub9 ps n r = Q1 ++ i :: (((kids9 ps n i).map (sub9 ps n)).flatten ++ Q2) := by rw [he]; simp
      rw [he'] at hnd ⊢
      exact idxOf_mid9 hnd
    refine (build9_fold (nm := nm) (sz := sz) (ps := ps) (n := n) (f := f) (q := (o.length : Int)) (g := cut9 nm sz pp (sub9 ps n r)) (kids9 ps n i) (o ++ [(⟨nm i, sz i, p⟩ : Seg)]) (Q1 ++ [i]) ?_ (by simp [hl])).trans ?_
    rotate_left
    · rw [hs]
      simp [hc]
    · intro k hk o' A1 A2 hA hl'
      obtain ⟨hkn, hkp⟩ := mem_kids9.1 hk
      have hlt := hf k hkn
      have hrk : Anc9 ps r k := .step hkp hri
      have hkr : k ≠ r := by have := hri.le hf hi; omega
      have hik : i ∈ sub9 ps n r := (in_sub9 hf hr).2 ⟨hi, hri⟩
      have hkm : k ∈ sub9 ps n r := (in_sub9 hf hr).2 ⟨hkn, hrk⟩
      refine build9_eq hf hr hpp hp0 f k (by omega) hkn _ o' A1 (A2 ++ Q2) hrk ?_ hl' ?_
      · rw [he, hs, ← List.append_assoc, ← hA]
        simp
      · unfold cut9
        rw [hpp k hkm hkr, hkp, if_neg (by omega), Int.toNat_natCast, if_pos hik, hix, hl]

theorem build9_all {nm : Nat → ByteArray} {sz ps pp : Nat → Int} {n r : Nat} (hf : Fall9 ps n) (hr : r < n) (hpp : ∀ j, j ∈ sub9 ps n r → j ≠ r → pp j = ps j) (hp0 : pp r < (r : Int)) :
    build9 nm sz ps n n r (-1) [] = (sub9 ps n r).map (cut9 nm sz pp (sub9 ps n r)) := by
  have hc : cut9 nm sz pp (sub9 ps n r) r = ⟨nm r, sz r, -1⟩ := by
    unfold cut9
    by_cases h : pp r < 0
    · rw [if_pos h]
    · rw [if_neg h, if_neg]
      intro hm
      obtain ⟨h1, h2⟩ := (in_sub9 hf hr).1 hm
      have := h2.le hf h1
      omega
  have := build9_eq hf hr hpp hc n r (by omega) hr (-1) [] [] [] .refl (by simp) rfl hc
  simpa using this

/-- The parents of a tree: the first is the root, and each other's is the one ahead or above it. -/
structure Tree9 (ps : Nat → Int) (n : Nat) : Prop where
  root : ps 0 < 0
  up : ∀ j, 0 < j → j < n → ∃ p : Nat, ps j = (p : Int) ∧ p < j ∧ Anc9 ps p (j - 1)
theorem Tree9.fall {ps : Nat → Int} {n : Nat} (h : Tree9 ps n) : Fall9 ps n := fun j hj => by
  by_cases h0 : j = 0
  · subst h0
    have := h.root
    omega
  · obtain ⟨p, h1, h2, _⟩ := h.up j (by omega) hj
    omega
/-- What is below a node stands ahead of the next child of its parent. -/
theorem Tree9.ahead {ps : Nat → Int} {n : Nat} (h : Tree9 ps n) {i s p : Nat} (hi : ps i = (p : Int)) (hs : ps s = (p : Int)) (his : i < s) (hsn : s < n) : ∀ k, k < n → Anc9 ps i k → k < s := by
  have hf := h.fall
  have key : ∀ m k, k = s + m → k < n → ¬ Anc9 ps i k := by
    intro m
    induction m with
    | zero =>
      intro k hks hk ha
      cases ha with
      | refl => omega
      | @step _ q hp hq =>
        have hks' : k = s := hks
        rw [hks'] at hp
        have h1 := hf i (by omega)
        have h2 := hf s hsn
        have h3 := hq.le hf (by omega)
        omega
    | succ m ih =>
      rintro k rfl hk ha
      cases ha with
      | refl => omega
      | @step _ q hp hq =>
        obtain ⟨p', h1, h2, h3⟩ := h.up (s + (m + 1)) (by omega) hk
        have : q = p' := by omega
        subst this
        exact ih (s + m) rfl (by omega) (hq.trans (by simpa using h3))
  intro k hk ha
  rcases Nat.lt_or_ge k s with h1 | h1
  · exact h1
  · exact absurd ha (key (k - s) k (by omega) hk)
theorem Tree9.all {ps : Nat → Int} {n : Nat} (h : Tree9 ps n) : ∀ (m k : Nat), k ≤ m → k < n → Anc9 ps 0 k
  | m, 0, _, _ => .refl
  | 0, k + 1, hk, _ => by omega
  | m + 1, k + 1, hk, hn => by
    obtain ⟨p, h1, h2, _⟩ := h.up (k + 1) (by omega) hn
    exact .step h1 (Tree9.all h m p (by omega) (by omega))
theorem sub9_sorted {ps : Nat → Int} {n : Nat} (h : Tree9 ps n) : ∀ (f i : Nat), n ≤ f + i → i < n → (sub9 ps n i).Pairwise (· < ·)
  | 0, i, h, hi => by omega
  | f + 1, i, hfi, hi => by
    have hf := h.fall
    rw [sub9_eq hf hi, List.pairwise_cons]
    refine ⟨?_, ?_⟩
    · intro j hj
      obtain ⟨L, hL, hj⟩ := List.mem_flatten.1 hj
      obtain ⟨k, hk, rfl⟩ := List.mem_map.1 hL
      obtain ⟨hkn, hkp⟩ := mem_kids9.1 hk
      have := hf k hkn
      obtain ⟨h1, h2⟩ := (in_sub9 hf hkn).1 hj
      have := h2.le hf h1
      omega
    · rw [List.pairwise_flatten]
      refine ⟨fun L hL => ?_, ?_⟩
      · obtain ⟨k, hk, rfl⟩ := List.mem_map.1 hL
        obtain ⟨hkn, hkp⟩ := mem_kids9.1 hk
        have := hf k hkn
        exact sub9_sorted h f k (by omega) hkn
      · rw [List.pairwise_map]
        refine List.Pairwise.imp_of_mem (fun {a b} ha hb hab => ?_) (kids9_sorted ps n i)
        obtain ⟨han, hap⟩ := mem_kids9.1 ha
        obtain ⟨hbn, hbp⟩ := mem_kids9.1 hb
        intro x hx y hy
        obtain ⟨hxn, hxa⟩ := (in_sub9 hf han).1 hx
        obtain ⟨hyn, hya⟩ := (in_sub9 hf hbn).1 hy
        have h1 := h.ahead hap hbp hab hbn x hxn hxa
        have h2 := hya.le hf hyn
        omega
theorem sub9_root {ps : Nat → Int} {n : Nat} (h : Tree9 ps n) (hn : 0 < n) : sub9 ps n 0 = List.range n := by
  refine sorted9_ext (sub9_sorted h n 0 (by omega) hn) List.pairwise_lt_range fun x => ?_
  rw [in_sub9 h.fall hn, List.mem_range]
  exact ⟨fun h => h.1, fun hx => ⟨hx, h.all x x (Nat.le_refl _) hx⟩⟩
theorem idxOf_range9 {n k : Nat} (h : k < n) : (List.range n).idxOf k = k := by
  have h1 : (List.range n).Nodup := List.nodup_range
  have h2 : List.range n = List.range k ++ k :: (List.range' (k + 1) (n - k - 1)) := by
    rw [List.range_eq_range', List.range_eq_range', show n = k + (1 + (n - k - 1)) by omega, ← List.range'_append_1, Nat.zero_add, show k + (1 + (n - k - 1)) - k - 1 = n - k - 1 by omega, ← List.range'_append_1]
    rfl
  rw [h2] at h1 ⊢
  rw [idxOf_mid9 h1, List.length_range]

def pruneP (ps : Nat → Int) (i j : Nat) : Int := if j = i then -2 else ps j
def mergeP (ps : Nat → Int) (i : Nat) (p : Int) (j : Nat) : Int := if j = i then -2 else if ps j = (i : Int) then p else ps j
def moveP (ps : Nat → Int) (i : Nat) (q : Int) (j : Nat) : Int := if j = i then q else ps j

theorem mergeP_fall {ps : Nat → Int} {n i p : Nat} (h : Fall9 ps n) (hi : i < n) (hp : ps i = (p : Int)) : Fall9 (mergeP ps i p) n := fun j hj => by
  unfold mergeP
  have h1 := h j hj
  have h2 := h i hi
  split
  · omega
  · split
    · omega
    · exact h1
theorem moveP_fall {ps : Nat → Int} {n i p : Nat} {q : Int} (h : Fall9 ps n) (hi : i < n) (hp : ps i = (p : Int)) (hq : ps p = q) : Fall9 (moveP ps i q) n := fun j hj => by
  unfold moveP
  have h2 := h i hi
  have h3 := h p (by omega)
  split
  · omega
  · exact h j hj
end Go.Proofs.YtcpiojliakgdlaaGreatDoor
