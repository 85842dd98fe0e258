/- What a trace tells, plain: needs, chains, texts, calls that are left. -/
import Derived.Test.YtfhdbbdehploeaaFe
namespace Go.Proofs.Ytfhdbbdehploeaa
open Go.RowKit

/-- What is needed behind a caller: each call, what is needed within it, and the caller again. -/
def needsB (a : UInt8) : Forest → List UInt8
  | .nil => []
  | .cons c k r => c :: (needsB c k ++ (a :: needsB a r))
theorem needsB_app (a : UInt8) : ∀ f g : Forest, needsB a (f.app g) = needsB a f ++ needsB a g
  | .nil, _ => rfl
  | .cons c k r, g => by
    show c :: (needsB c k ++ (a :: needsB a (r.app g))) = (c :: (needsB c k ++ (a :: needsB a r))) ++ needsB a g
    rw [needsB_app a r g]; simp
theorem needsB_one (a c : UInt8) (k : Forest) : needsB a (.cons c k .nil) = c :: (needsB c k ++ [a]) := rfl
theorem needsB_len (a : UInt8) : ∀ f : Forest, (needsB a f).length = 2 * f.size
  | .nil => rfl
  | .cons c k r => by
    show (c :: (needsB c k ++ (a :: needsB a r))).length = 2 * (k.size + r.size + 1)
    simp [needsB_len c k, needsB_len a r]; omega

/-- Who is active at each call, behind some that are active before. -/
def chainsB (a : List UInt8) : Forest → List (List UInt8)
  | .nil => []
  | .cons c k r => (a ++ [c]) :: (chainsB (a ++ [c]) k ++ chainsB a r)
theorem chainsB_app (a : List UInt8) : ∀ f g : Forest, chainsB a (f.app g) = chainsB a f ++ chainsB a g
  | .nil, _ => rfl
  | .cons c k r, g => by
    show (a ++ [c]) :: (chainsB (a ++ [c]) k ++ chainsB a (r.app g)) = ((a ++ [c]) :: (chainsB (a ++ [c]) k ++ chainsB a r)) ++ chainsB a g
    rw [chainsB_app a r g]; simp
theorem chainsB_one (a : List UInt8) (c : UInt8) (k : Forest) : chainsB a (.cons c k .nil) = (a ++ [c]) :: chainsB (a ++ [c]) k := by
  show (a ++ [c]) :: (chainsB (a ++ [c]) k ++ []) = _
  rw [List.append_nil]
theorem chainsB_len : ∀ (f : Forest) (a : List UInt8), (chainsB a f).length = f.size
  | .nil, _ => rfl
  | .cons c k r, a => by
    show ((a ++ [c]) :: (chainsB (a ++ [c]) k ++ chainsB a r)).length = k.size + r.size + 1
    simp [chainsB_len k, chainsB_len r]
theorem chainsB_pre (p : List UInt8) : ∀ (f : Forest) (a : List UInt8), chainsB (p ++ a) f = (chainsB a f).map (p ++ ·)
  | .nil, _ => rfl
  | .cons c k r, a => by
    show (p ++ a ++ [c]) :: (chainsB (p ++ a ++ [c]) k ++ chainsB (p ++ a) r) = ((a ++ [c]) :: (chainsB (a ++ [c]) k ++ chainsB a r)).map (p ++ ·)
    rw [List.append_assoc, chainsB_pre p k, chainsB_pre p r]; simp
/-- How long a chain may be. -/
theorem chainsB_bound : ∀ (f : Forest) (a : List UInt8), ∀ x ∈ chainsB a f, x.length ≤ a.length + f.deep ∧ a.length < x.length
  | .nil, _, x, h => by cases h
  | .cons c k r, a, x, h => by
    have h' : x ∈ (a ++ [c]) :: (chainsB (a ++ [c]) k ++ chainsB a r) := h
    show x.length ≤ a.length + max (k.deep + 1) r.deep ∧ _
    rcases List.mem_cons.1 h' with rfl | h'
    · simp; omega
    · rcases List.mem_append.1 h' with h' | h'
      · have := chainsB_bound k _ x h'
        simp at this; omega
      · have := chainsB_bound r _ x h'
        omega

/-- The text of calls. -/
def textB : Forest → List UInt8
  | .nil => []
  | .cons c k r => c :: ((if k.isNil = true then [] else 40 :: (textB k ++ [41])) ++ textB r)
def textOne (c : UInt8) (k : Forest) : List UInt8 := c :: (if k.isNil = true then [] else 40 :: (textB k ++ [41]))
theorem textB_cons (c : UInt8) (k r : Forest) : textB (.cons c k r) = textOne c k ++ textB r := rfl
theorem textB_app : ∀ f g : Forest, textB (f.app g) = textB f ++ textB g
  | .nil, _ => rfl
  | .cons c k r, g => by
    show textOne c k ++ textB (r.app g) = (textOne c k ++ textB r) ++ textB g
    rw [textB_app r g, List.append_assoc]
theorem textB_one (c : UInt8) (k : Forest) : textB (.cons c k .nil) = textOne c k := by
  show textOne c k ++ [] = _
  rw [List.append_nil]
theorem textB_len : ∀ f : Forest, (textB f).length ≤ 3 * f.size
  | .nil => Nat.le_refl 0
  | .cons c k r => by
    have h1 := textB_len k
    have h2 := textB_len r
    show (c :: ((if k.isNil = true then [] else 40 :: (textB k ++ [41])) ++ textB r)).length ≤ 3 * (k.size + r.size + 1)
    split <;> simp <;> omega

/-- The calls without those of a segment. -/
def lessB (n : ByteArray) : Forest → Forest
  | .nil => .nil
  | .cons c k r => if (⟨#[c]⟩ : ByteArray) = n then lessB n r else .cons c (lessB n k) (lessB n r)
theorem lessB_app (n : ByteArray) : ∀ f g : Forest, lessB n (f.app g) = (lessB n f).app (lessB n g)
  | .nil, _ => rfl
  | .cons c k r, g => by
    show (if _ then lessB n (r.app g) else .cons c (lessB n k) (lessB n (r.app g))) = Forest.app (if _ then _ else _) _
    rw [lessB_app n r g]
    split <;> rfl
theorem lessB_yes {n : ByteArray} {c : UInt8} (k : Forest) (h : (⟨#[c]⟩ : ByteArray) = n) : lessB n (.cons c k .nil) = .nil := by
  show (if _ then Forest.nil else _) = _
  rw [if_pos h]
theorem lessB_no {n : ByteArray} {c : UInt8} (k : Forest) (h : ¬ (⟨#[c]⟩ : ByteArray) = n) : lessB n (.cons c k .nil) = .cons c (lessB n k) .nil := by
  show (if _ then Forest.nil else _) = _
  rw [if_neg h]; rfl
theorem lessB_size (n : ByteArray) : ∀ f : Forest, (lessB n f).size ≤ f.size
  | .nil => Nat.le_refl 0
  | .cons c k r => by
    have h1 := lessB_size n k
    have h2 := lessB_size n r
    show Forest.size (if _ then _ else _) ≤ k.size + r.size + 1
    split
    · omega
    · show (lessB n k).size + (lessB n r).size + 1 ≤ _; omega
theorem lessB_len (n : ByteArray) : ∀ f : Forest, (lessB n f).len ≤ f.len
  | .nil => Nat.le_refl 0
  | .cons c k r => by
    have h2 := lessB_len n r
    show Forest.len (if _ then _ else _) ≤ r.len + 1
    split
    · omega
    · show (lessB n r).len + 1 ≤ _; omega

/-- How many calls are read out of a text: no more than it has bytes. -/
theorem rd_size (P : UInt8 → Bool) : ∀ (n d : Nat) (s : List UInt8) f r, rd P n d s = some (f, r) → f.size + r.length ≤ s.length ∧ f.deep ≤ d
  | 0, _, _, _, _, e => by cases e
  | n + 1, d, [], f, r, e => by
    injection e with e
    injection e with e1 e2
    subst e1 e2
    exact ⟨Nat.le_refl _, Nat.zero_le _⟩
  | n + 1, d, c :: s, f, r, e => by
    unfold rd at e
    split at e
    · injection e with e
      injection e with e1 e2
      subst e1 e2
      exact ⟨Nat.le_of_eq (Nat.zero_add _), Nat.zero_le _⟩
    · unfold thenBy at e
      split at e
      · cases e
      · next k r1 h2 =>
        split at e
        · cases e
        · next f' r2 h4 =>
          injection e with e
          injection e with e1 e2
          subst e1 e2
          have h5 := rd_size P n d r1 _ _ h4
          have h6 : k.size + r1.length ≤ s.length ∧ k.deep + 1 ≤ d := by
            unfold callBy at h2
            split at h2
            · cases h2
            · next d' =>
              split at h2
              · unfold innerBy at h2
                split at h2
                · injection h2 with h2
                  injection h2 with h2 h3
                  subst h2 h3
                  exact ⟨Nat.le_refl _, by show 0 + 1 ≤ d' + 1; omega⟩
                · next x u =>
                  split at h2
                  · unfold closed at h2
                    split at h2
                    · cases h2
                    · cases h2
                    · cases h2
                    · next c' k' f'' x' r'' h7 =>
                      split at h2
                      · injection h2 with h2
                        injection h2 with h2 h3
                        subst h2 h3
                        have h8 := rd_size P n d' u _ _ h7
                        simp at h8 ⊢
                        omega
                      · cases h2
                  · injection h2 with h2
                    injection h2 with h2 h3
                    subst h2 h3
                    exact ⟨by show 0 + _ ≤ _; omega, by show 0 + 1 ≤ d' + 1; omega⟩
              · cases h2
          refine ⟨?_, ?_⟩
          · show k.size + f'.size + 1 + r2.length ≤ s.length + 1
            omega
          · show max (k.deep + 1) f'.deep ≤ d
            omega
theorem calls_size {P : UInt8 → Bool} {d : Nat} {s : List UInt8} {f : Forest} {r : List UInt8} (h : calls P d s = some (f, r)) : f.size + r.length ≤ s.length ∧ f.deep ≤ d := rd_size P _ d s f r h
theorem whole_some {g : Got} {f : Forest} (h : whole g = some f) : g = some (f, []) := by
  unfold whole at h
  split at h
  · injection h with h; subst h; rfl
  · cases h
theorem traceB_some {l : List Seg} {t : List UInt8} {f : Forest} (h : traceB l t = some f) : validB l = true ∧ t.length ≤ 80 ∧ calls (callP l) 8 t = some (f, []) := by
  rw [traceB_eq] at h
  split at h
  · next h1 =>
    simp only [Bool.and_eq_true, decide_eq_true_eq] at h1
    exact ⟨h1.1, h1.2, whole_some h⟩
  · cases h
theorem traceB_size {l : List Seg} {t : List UInt8} {f : Forest} (h : traceB l t = some f) : f.size ≤ 80 ∧ f.deep ≤ 8 := by
  obtain ⟨_, h2, h3⟩ := traceB_some h
  have := calls_size h3
  simp at this
  omega

def strOf (x : List UInt8) : ByteArray := ⟨x.toArray⟩
theorem bytes_cat (x y : List UInt8) : (⟨x.toArray⟩ : ByteArray) ++ ⟨y.toArray⟩ = ⟨(x ++ y).toArray⟩ := by
  apply ByteArray.ext
  simp [ByteArray.data_append]
theorem bytes_cat3 (x y z : List UInt8) : (⟨x.toArray⟩ : ByteArray) ++ ⟨y.toArray⟩ ++ ⟨z.toArray⟩ = ⟨(x ++ y ++ z).toArray⟩ := by
  apply ByteArray.ext
  simp [ByteArray.data_append]
theorem bytes_size (x : List UInt8) : (⟨x.toArray⟩ : ByteArray).size = x.length := by simp [ByteArray.size]
theorem Forest.app_size : ∀ f g : Forest, (f.app g).size = f.size + g.size
  | .nil, g => by show g.size = 0 + g.size; omega
  | .cons c k r, g => by show k.size + (r.app g).size + 1 = k.size + r.size + 1 + g.size; rw [Forest.app_size r]; omega

theorem Forest.deep_app : ∀ (pre : Forest) (c : UInt8) (k r : Forest), k.deep + 1 ≤ (pre.app (.cons c k r)).deep
  | .nil, _, k, r => by show k.deep + 1 ≤ max (k.deep + 1) r.deep; omega
  | .cons _ k' p, c, k, r => by
    have := Forest.deep_app p c k r
    show _ ≤ max (k'.deep + 1) (p.app (.cons c k r)).deep
    omega
/-- The root's letter. -/
def rootB (l : List Seg) : UInt8 := match l with
  | s :: _ => s.name.data.toList.headD 0
  | [] => 0
theorem root_name {l : List Seg} (hv : validB l = true) : ∃ s, l[0]? = some s ∧ s.name = ⟨#[rootB l]⟩ := by
  have h1 : 1 ≤ l.length := by
    unfold validB at hv
    simp only [Bool.and_eq_true, decide_eq_true_eq] at hv
    exact hv.1.1
  cases l with
  | nil => simp at h1
  | cons s r =>
    obtain ⟨d, hd, _, _⟩ := nameOk_one (validB_names hv (s := s) (by simp))
    refine ⟨s, rfl, ?_⟩
    show s.name = ⟨#[s.name.data.toList.headD 0]⟩
    rw [hd]; rfl
/-- The root's name in memory. -/
theorem Segs.root {w : World} {B : Nat} {A : Option Addr} {l : List Seg} (h : Segs w B A l) (hv : validB l = true) : ∃ b o, A = some ⟨b, o, none⟩ ∧ b < B ∧ w.cell? ⟨b, o, none⟩ = some (.string ⟨#[rootB l]⟩) := by
  obtain ⟨s, hs, hn⟩ := root_name hv
  obtain ⟨b, o, e, hB, hc⟩ := h (List.getElem?_eq_some_iff.1 hs).1
  have := (hc 0 s hs).1
  rw [hn] at this
  simp only [Nat.zero_mul, Nat.add_zero] at this
  exact ⟨b, o, e, hB, this⟩

/-- What a trace needs. -/
def needsRes (l : List Seg) (t : ByteArray) : ByteArray := match traceB l t.data.toList with
  | none => ⟨#[]⟩
  | some f => ⟨(rootB l :: needsB (rootB l) f).toArray⟩

end Go.Proofs.Ytfhdbbdehploeaa
