/- The text of a tree is that of its segments beside each other; and read again, it is that tree. Plain. -/
import Derived.Test.YtdbddockmdkmeaaDoorZg
namespace Go.Proofs.YtdbddockmdkmeaaDoor

namespace Rs
/-- Where those stand that have none of them above. -/
def tops : Rs → Nat → List Nat
  | .nil, _ => []
  | .cons _ _ k r, s => s :: r.tops (s + 1 + k.count)
theorem tops_in {l : List Seg} : ∀ (F : Rs) (p : Int) (s q : Nat), At l F p s → q < s → (List.range' s F.count).filter (fun j => decide (parAt l j = (q : Int))) = if (q : Int) = p then F.tops s else []
  | .nil, p, s, q, _, _ => by simp [count, tops]
  | .cons c n k r, p, s, q, h, hq => by
    have h1 := tops_in k s (s + 1) q h.kids (by omega)
    have h2 := tops_in r p (s + 1 + k.count) q h.rest (by omega)
    have e : List.range' s (Rs.cons c n k r).count = s :: (List.range' (s + 1) k.count ++ List.range' (s + 1 + k.count) r.count) := by
      rw [show (Rs.cons c n k r).count = (k.count + r.count) + 1 by simp only [count]; omega, List.range'_succ, List.range'_append_1]
    rw [if_neg (by omega)] at h1
    rw [e, List.filter_cons, List.filter_append, h1, h2, h.par]
    by_cases hp : (q : Int) = p
    · rw [if_pos hp, if_pos hp, if_pos (by simp [hp])]; rfl
    · rw [if_neg hp, if_neg hp, if_neg (by simpa using fun e => hp e.symm)]; rfl
/-- None that stands behind has its parent among them. -/
def Closed (l : List Seg) (F : Rs) (s : Nat) : Prop := ∀ j, s + F.count ≤ j → j < l.length → ∀ x : Nat, s ≤ x → x < s + F.count → parAt l j ≠ (x : Int)
theorem par_of {l : List Seg} : ∀ (F : Rs) (p : Int) (s : Nat), At l F p s → ∀ j, s ≤ j → j < s + F.count → parAt l j = p ∨ (s : Int) ≤ parAt l j
  | .nil, _, _, _, j, h1, h2 => by simp [count] at h2; omega
  | .cons c n k r, p, s, h, j, h1, h2 => by
    simp only [count] at h2
    by_cases hj : j = s
    · subst hj; exact .inl h.par
    · by_cases hk : j < s + 1 + k.count
      · rcases par_of k s (s + 1) h.kids j (by omega) hk with e | e
        · right; omega
        · right; omega
      · rcases par_of r p (s + 1 + k.count) h.rest j (by omega) (by omega) with e | e
        · exact .inl e
        · right; omega
theorem Closed.kids {l : List Seg} {c : UInt8} {n : Nat} {k r : Rs} {p : Int} {s : Nat} (h : Closed l (.cons c n k r) s) (ha : At l (.cons c n k r) p s) (hp : p < s) : Closed l k (s + 1) := fun j h1 h2 x h3 h4 e => by
  by_cases hj : j < s + (Rs.cons c n k r).count
  · simp only [count] at hj
    rcases par_of r p (s + 1 + k.count) ha.rest j h1 (by omega) with e2 | e2 <;> omega
  · exact h j (by omega) h2 x (by omega) (by simp only [count]; omega) e
theorem Closed.rest {l : List Seg} {c : UInt8} {n : Nat} {k r : Rs} {s : Nat} (h : Closed l (.cons c n k r) s) : Closed l r (s + 1 + k.count) := fun j h1 h2 x h3 h4 e =>
  h j (by simp only [count]; omega) h2 x (by omega) (by simp only [count]; omega) e
theorem kids_tops {l : List Seg} (hd : Down l l.length) {c : UInt8} {n : Nat} {k r : Rs} {p : Int} {s : Nat} (ha : At l (.cons c n k r) p s) (hp : p < s) (hc : Closed l (.cons c n k r) s) (hl : s + (Rs.cons c n k r).count ≤ l.length) :
    kidsOf l s l.length = k.tops (s + 1) := by
  have hk := hc.kids ha hp
  simp only [count] at hl
  have h1 := tops_in k s (s + 1) s ha.kids (by omega)
  rw [if_pos rfl] at h1
  unfold kidsOf
  have e : List.range l.length = List.range' 0 (s + 1) ++ (List.range' (s + 1) k.count ++ List.range' (s + 1 + k.count) (l.length - (s + 1 + k.count))) := by
    rw [List.range_eq_range', List.range'_append_1]
    have := List.range'_append_1 (s := 0) (m := s + 1) (n := k.count + (l.length - (s + 1 + k.count)))
    rw [Nat.zero_add] at this
    rw [this]
    congr 1
    omega
  rw [e, List.filter_append, List.filter_append, h1]
  have z1 : (List.range' 0 (s + 1)).filter (fun j => decide (parAt l j = (s : Int))) = [] := by
    rw [List.filter_eq_nil_iff]
    intro j hj
    have hj2 := (List.mem_range'_1.1 hj).2
    have := hd j (by omega)
    simp
    omega
  have z2 : (List.range' (s + 1 + k.count) (l.length - (s + 1 + k.count))).filter (fun j => decide (parAt l j = (s : Int))) = [] := by
    rw [List.filter_eq_nil_iff]
    intro j hj
    have hj2 := List.mem_range'_1.1 hj
    have hne : parAt l j ≠ (s : Int) := by
      by_cases hjr : j < s + (Rs.cons c n k r).count
      · simp only [count] at hjr
        rcases par_of r p (s + 1 + k.count) ha.rest j (by omega) (by omega) with e2 | e2 <;> omega
      · exact hc j (by omega) (by omega) s (Nat.le_refl _) (by simp only [count]; omega)
    simpa using hne
  rw [z1, z2]
  simp
/-- What is written behind one. -/
def tail : Rs → List UInt8
  | .nil => []
  | .cons c n k r => 44 :: (Rs.cons c n k r).text
/-- What is written of those below one. -/
def paren : Rs → List UInt8
  | .nil => []
  | .cons c n k r => 40 :: ((Rs.cons c n k r).text ++ [41])
theorem text_cons (c : UInt8) (n : Nat) (k r : Rs) : (Rs.cons c n k r).text = c :: (Lib.itoa n ++ k.paren ++ r.tail) := by
  cases k <;> cases r <;> simp [text, paren, tail]
theorem join_tail : ∀ (xs : List (List UInt8)), (xs.flatMap fun y => (44 : UInt8) :: y) = if xs = [] then [] else 44 :: joinC xs
  | [] => rfl
  | x :: r => by simp [joinC]
theorem text_of {l : List Seg} (hd : Down l l.length) : ∀ (F : Rs) (p : Int) (s f : Nat), At l F p s → p < s → Closed l F s → s + F.count ≤ l.length → F.count ≤ f → joinC ((F.tops s).map (textT l f)) = F.text
  | .nil, _, _, _, _, _, _, _, _ => rfl
  | .cons c n k r, p, s, 0, _, _, _, _, hf => by simp only [count] at hf; omega
  | .cons c n k r, p, s, f + 1, ha, hp, hc, hl, hf => by
    have hl2 := hl
    have hf2 := hf
    simp only [count] at hl2 hf2
    have ek := text_of hd k s (s + 1) f ha.kids (by omega) (hc.kids ha hp) (by omega) (by omega)
    have er := text_of hd r p (s + 1 + k.count) (f + 1) ha.rest (by omega) hc.rest (by omega) (by omega)
    have hkt := kids_tops hd ha hp hc hl
    have et : textT l (f + 1) s = c :: (Lib.itoa n ++ k.paren) := by
      rw [textT_succ, hkt, ek]
      have e1 : nameB l s = [c] := by unfold nameB; rw [ha.head]
      have e2 : sizeAt l s = n := by unfold sizeAt; rw [ha.head]
      rw [e1, e2]
      cases k with
      | nil => simp [tops, paren]
      | cons c1 n1 k1 r1 => simp [tops, paren]
    show joinC (((s :: r.tops (s + 1 + k.count))).map (textT l (f + 1))) = _
    rw [List.map_cons, joinC, et, join_tail, er, text_cons]
    cases r with
    | nil => simp [tops, tail]
    | cons c1 n1 k1 r1 => simp [tops, tail]
/-- A whole tree's text. -/
theorem text_whole {c : UInt8} {n : Nat} {k : Rs} {l : List Seg} (e : l = (Rs.cons c n k .nil).segs (-1) 0) (hv : validB l = true) : textT l l.length 0 = (Rs.cons c n k .nil).text := by
  have hd := AllOk.down (valid_all hv).1
  have hlen : l.length = (Rs.cons c n k .nil).count := by rw [e, segs_len]
  have ha : At l (.cons c n k .nil) (-1) 0 := by rw [e]; exact at_self _ _
  have h := text_of hd (.cons c n k .nil) (-1) 0 l.length ha (by omega) (fun j h1 h2 => by omega) (by omega) (by omega)
  rw [← h]
  simp [tops, joinC]
end Rs

end Go.Proofs.YtdbddockmdkmeaaDoor
