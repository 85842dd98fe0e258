/- Trees as what is written: a segment, what hangs below it, what stands behind it. Plain. -/
import Derived.Test.YtdbddockmdkmeaaDoorMu
import Derived.Test.YtdbddockmdkmeaaDoorRq
namespace Go.Proofs.YtdbddockmdkmeaaDoor

/-- Segments beside each other, each with those below it. -/
inductive Rs where
  | nil : Rs
  | cons (c : UInt8) (n : Nat) (kids rest : Rs) : Rs
namespace Rs
def count : Rs → Nat
  | .nil => 0
  | .cons _ _ k r => 1 + k.count + r.count
/-- Their segments, below 'p', the first one of them number 's'. -/
def segs : Rs → Int → Nat → List Seg
  | .nil, _, _ => []
  | .cons c n k r, p, s => ⟨⟨#[c]⟩, n, p⟩ :: (k.segs s (s + 1) ++ r.segs p (s + 1 + k.count))
theorem segs_len : ∀ (F : Rs) (p : Int) (s : Nat), (F.segs p s).length = F.count
  | .nil, _, _ => rfl
  | .cons c n k r, p, s => by
    show (_ :: (k.segs s (s + 1) ++ r.segs p (s + 1 + k.count))).length = 1 + k.count + r.count
    rw [List.length_cons, List.length_append, segs_len k, segs_len r]
    omega
/-- Their text. -/
def text : Rs → List UInt8
  | .nil => []
  | .cons c n k r => c :: (Lib.itoa n ++ (match k with
      | .nil => []
      | .cons _ _ _ _ => 40 :: (k.text ++ [41])) ++ (match r with
      | .nil => []
      | .cons _ _ _ _ => 44 :: r.text))
/-- One more behind them. -/
def snoc : Rs → UInt8 → Nat → Rs
  | .nil, c, n => .cons c n .nil .nil
  | .cons c' n' k r, c, n => .cons c' n' k (r.snoc c n)
theorem segs_snoc : ∀ (F : Rs) (c : UInt8) (n : Nat) (p : Int) (s : Nat), (F.snoc c n).segs p s = F.segs p s ++ [⟨⟨#[c]⟩, n, p⟩]
  | .nil, _, _, _, _ => rfl
  | .cons c' n' k r, c, n, p, s => by
    show _ :: (k.segs s (s + 1) ++ (r.snoc c n).segs p (s + 1 + k.count)) = _ :: (k.segs s (s + 1) ++ r.segs p (s + 1 + k.count)) ++ [_]
    rw [segs_snoc r]
    simp
/-- The last one, those above it, down from 's'. -/
def last : Rs → Nat → List Nat
  | .nil, _ => []
  | .cons _ _ k .nil, s => s :: k.last (s + 1)
  | .cons _ _ k (.cons c n k' r), s => (Rs.cons c n k' r).last (s + 1 + k.count)
/-- A segment below one of those can be put behind. -/
theorem put : ∀ (F : Rs) (p : Int) (s : Nat) (x : Nat) (c : UInt8) (n : Nat), x ∈ F.last s → ∃ G : Rs, G.segs p s = F.segs p s ++ [⟨⟨#[c]⟩, n, (x : Int)⟩]
  | .nil, _, _, _, _, _, h => by simp [last] at h
  | .cons c' n' k .nil, p, s, x, c, n, h => by
    unfold last at h
    rcases List.mem_cons.1 h with h | h
    · subst h
      refine ⟨.cons c' n' (k.snoc c n) .nil, ?_⟩
      show _ :: ((k.snoc c n).segs x (x + 1) ++ []) = (_ :: (k.segs x (x + 1) ++ [])) ++ [_]
      rw [segs_snoc]
      simp
    · obtain ⟨G, hG⟩ := put k s (s + 1) x c n h
      refine ⟨.cons c' n' G .nil, ?_⟩
      show _ :: (G.segs s (s + 1) ++ []) = (_ :: (k.segs s (s + 1) ++ [])) ++ [_]
      rw [hG]
      simp
  | .cons c' n' k (.cons c2 n2 k2 r2), p, s, x, c, n, h => by
    unfold last at h
    obtain ⟨G, hG⟩ := put (.cons c2 n2 k2 r2) p (s + 1 + k.count) x c n h
    refine ⟨.cons c' n' k G, ?_⟩
    show _ :: (k.segs s (s + 1) ++ G.segs p (s + 1 + k.count)) = (_ :: (k.segs s (s + 1) ++ (Rs.cons c2 n2 k2 r2).segs p (s + 1 + k.count))) ++ [_]
    rw [hG]
    simp
theorem put_one (c' : UInt8) (n' : Nat) (k : Rs) (p : Int) (s x : Nat) (c : UInt8) (n : Nat) (h : x ∈ (Rs.cons c' n' k .nil).last s) :
    ∃ k' : Rs, (Rs.cons c' n' k' .nil).segs p s = (Rs.cons c' n' k .nil).segs p s ++ [⟨⟨#[c]⟩, n, (x : Int)⟩] := by
  unfold last at h
  rcases List.mem_cons.1 h with h | h
  · subst h
    refine ⟨k.snoc c n, ?_⟩
    show _ :: ((k.snoc c n).segs x (x + 1) ++ []) = (_ :: (k.segs x (x + 1) ++ [])) ++ [_]
    rw [segs_snoc]
    simp
  · obtain ⟨G, hG⟩ := put k s (s + 1) x c n h
    refine ⟨G, ?_⟩
    show _ :: (G.segs s (s + 1) ++ []) = (_ :: (k.segs s (s + 1) ++ [])) ++ [_]
    rw [hG]
    simp
theorem last_in : ∀ (F : Rs) (s : Nat), F ≠ .nil → s + F.count - 1 ∈ F.last s
  | .nil, _, h => absurd rfl h
  | .cons c n .nil .nil, s, _ => by simp [last, count]
  | .cons c n (.cons c1 n1 k1 r1) .nil, s, _ => by
    have ih := last_in (.cons c1 n1 k1 r1) (s + 1) (by simp)
    unfold last
    refine List.mem_cons_of_mem _ ?_
    have e : s + (Rs.cons c n (.cons c1 n1 k1 r1) .nil).count - 1 = s + 1 + (Rs.cons c1 n1 k1 r1).count - 1 := by simp only [count]; omega
    rw [e]
    exact ih
  | .cons c n k (.cons c1 n1 k1 r1), s, _ => by
    have ih := last_in (.cons c1 n1 k1 r1) (s + 1 + k.count) (by simp)
    unfold last
    have e : s + (Rs.cons c n k (.cons c1 n1 k1 r1)).count - 1 = s + 1 + k.count + (Rs.cons c1 n1 k1 r1).count - 1 := by simp only [count]; omega
    rw [e]
    exact ih
/-- They lie in a list from 's' on. -/
def At (l : List Seg) (F : Rs) (p : Int) (s : Nat) : Prop := ∀ j, j < F.count → l[s + j]? = (F.segs p s)[j]?
theorem At.kids {l : List Seg} {c : UInt8} {n : Nat} {k r : Rs} {p : Int} {s : Nat} (h : At l (.cons c n k r) p s) : At l k s (s + 1) := fun j hj => by
  have h1 := h (j + 1) (by simp only [count]; omega)
  have e : (Rs.cons c n k r).segs p s = ⟨⟨#[c]⟩, n, p⟩ :: (k.segs s (s + 1) ++ r.segs p (s + 1 + k.count)) := rfl
  rw [e, List.getElem?_cons_succ, List.getElem?_append_left (by rw [segs_len]; exact hj)] at h1
  rw [show s + 1 + j = s + (j + 1) by omega]
  exact h1
theorem At.rest {l : List Seg} {c : UInt8} {n : Nat} {k r : Rs} {p : Int} {s : Nat} (h : At l (.cons c n k r) p s) : At l r p (s + 1 + k.count) := fun j hj => by
  have h1 := h (k.count + j + 1) (by simp only [count]; omega)
  have e : (Rs.cons c n k r).segs p s = ⟨⟨#[c]⟩, n, p⟩ :: (k.segs s (s + 1) ++ r.segs p (s + 1 + k.count)) := rfl
  rw [e, List.getElem?_cons_succ, List.getElem?_append_right (by rw [segs_len]; omega), segs_len, show k.count + j - k.count = j by omega] at h1
  rw [show s + 1 + k.count + j = s + (k.count + j + 1) by omega]
  exact h1
theorem At.head {l : List Seg} {c : UInt8} {n : Nat} {k r : Rs} {p : Int} {s : Nat} (h : At l (.cons c n k r) p s) : l[s]? = some ⟨⟨#[c]⟩, n, p⟩ := by
  have h1 := h 0 (by simp only [count]; omega)
  exact h1
theorem At.par {l : List Seg} {c : UInt8} {n : Nat} {k r : Rs} {p : Int} {s : Nat} (h : At l (.cons c n k r) p s) : parAt l s = p := by
  unfold parAt
  rw [h.head]
theorem last_par {l : List Seg} : ∀ (F : Rs) (p : Int) (s : Nat), At l F p s → ∀ x ∈ F.last s, parAt l x = p ∨ ∃ y ∈ F.last s, parAt l x = (y : Int)
  | .nil, _, _, _, x, hx => by simp [last] at hx
  | .cons c n k .nil, p, s, h, x, hx => by
    unfold last at hx ⊢
    rcases List.mem_cons.1 hx with hx | hx
    · subst hx; exact .inl h.par
    · right
      rcases last_par k s (s + 1) h.kids x hx with h1 | ⟨y, hy, h1⟩
      · exact ⟨s, by simp, h1⟩
      · exact ⟨y, List.mem_cons_of_mem _ hy, h1⟩
  | .cons c n k (.cons c1 n1 k1 r1), p, s, h, x, hx => by
    unfold last at hx ⊢
    exact last_par (.cons c1 n1 k1 r1) p (s + 1 + k.count) h.rest x hx
theorem chain_last {l : List Seg} {F : Rs} (h : At l F (-1) 0) : ∀ (f : Nat) (x : Nat), x ∈ F.last 0 → ∀ y ∈ chain l f (x : Int), ∃ z ∈ F.last 0, y = (z : Int)
  | 0, _, _, y, hy => by simp [chain] at hy
  | f + 1, x, hx, y, hy => by
    unfold chain at hy
    rw [if_neg (by omega)] at hy
    rcases List.mem_cons.1 hy with hy | hy
    · exact ⟨x, hx, hy⟩
    · rw [Int.toNat_natCast] at hy
      rcases last_par F (-1) 0 h x hx with h1 | ⟨z, hz, h1⟩
      · rw [h1] at hy
        cases f with
        | zero => simp [chain] at hy
        | succ f => simp [chain] at hy
      · rw [h1] at hy
        exact chain_last h f z hz y hy
theorem at_self (F : Rs) (p : Int) : At (F.segs p 0) F p 0 := fun j _ => by rw [Nat.zero_add]
/-- A valid tree is one such segment. -/
theorem decode {l : List Seg} (h : AllOk l l.length) : ∀ m, 1 ≤ m → m ≤ l.length → ∃ c n k, l.take m = (Rs.cons c n k .nil).segs (-1) 0
  | 0, h0, _ => absurd h0 (by decide)
  | 1, _, hm => by
    have h1 := h 0 hm
    unfold segOk at h1
    rw [List.getElem?_eq_getElem hm] at h1
    simp only [Bool.and_eq_true] at h1
    obtain ⟨c, e, _, _⟩ := nameOk_one h1.1.1.1
    have hs := h1.1.2
    unfold sizeOk at hs
    rw [Bool.and_eq_true, decide_eq_true_iff, decide_eq_true_iff] at hs
    have hp := h1.2
    unfold parOk parAt at hp
    rw [if_pos rfl, List.getElem?_eq_getElem hm] at hp
    have hp2 : l[0].par = -1 := by simpa using hp
    obtain ⟨n, hn⟩ := Int.eq_ofNat_of_zero_le (show 0 ≤ l[0].size by omega)
    refine ⟨c, n, .nil, ?_⟩
    cases l with
    | nil => simp at hm
    | cons a r =>
      obtain ⟨an, asz, ap⟩ := a
      simp only [List.getElem_cons_zero] at e hn hp2
      subst e hn hp2
      rfl
  | m + 2, _, hm => by
    obtain ⟨c, n, k, hF⟩ := decode h (m + 1) (by omega) (by omega)
    have h1 := h (m + 1) (by omega)
    unfold segOk at h1
    rw [List.getElem?_eq_getElem (show m + 1 < l.length by omega)] at h1
    simp only [Bool.and_eq_true] at h1
    obtain ⟨c2, e, _, _⟩ := nameOk_one h1.1.1.1
    have hs := h1.1.2
    unfold sizeOk at hs
    rw [Bool.and_eq_true, decide_eq_true_iff, decide_eq_true_iff] at hs
    have hp := h1.2
    unfold parOk at hp
    rw [if_neg (by omega)] at hp
    have hp2 : parAt l (m + 1) ∈ chain l (m + 1) (((m + 1 : Nat) : Int) - 1) := by simpa using hp
    have hl : (l.take (m + 1)).length = m + 1 := by rw [List.length_take]; omega
    have hd : Down (l.take (m + 1)) (l.take (m + 1)).length := fun j hj => by
      have h2 := h.down j (by omega)
      have h3 := parAt_pre (List.take_prefix (m + 1) l) (i := j) hj
      rw [← h3]; exact h2
    rw [chain_pre hd (List.take_prefix (m + 1) l) (m + 1) _ (by rw [hl]; omega)] at hp2
    have hat : At (l.take (m + 1)) (.cons c n k .nil) (-1) 0 := by rw [hF]; exact at_self _ _
    have hin := last_in (.cons c n k .nil) 0 (by simp)
    have hcnt : (Rs.cons c n k .nil).count = m + 1 := by rw [← segs_len (.cons c n k .nil) (-1) 0, ← hF, hl]
    rw [hcnt] at hin
    have e1 : (((m + 1 : Nat) : Int) - 1) = ((0 + (m + 1) - 1 : Nat) : Int) := by omega
    rw [e1] at hp2
    obtain ⟨x, hx, hxe⟩ := chain_last hat _ _ hin _ hp2
    obtain ⟨n2, hn2⟩ := Int.eq_ofNat_of_zero_le (show 0 ≤ l[m + 1].size by omega)
    obtain ⟨k', hk'⟩ := put_one c n k (-1) 0 x c2 n2 hx
    refine ⟨c, n, k', ?_⟩
    have hpx : l[m + 1].par = (x : Int) := by
      rw [← hxe]
      unfold parAt
      rw [List.getElem?_eq_getElem (show m + 1 < l.length by omega)]
    rw [List.take_succ_eq_append_getElem (show m + 1 < l.length by omega), hF, hk']
    congr 1
    generalize l[m + 1] = a at *
    obtain ⟨an, asz, ap⟩ := a
    simp only at e hn2 hpx
    subst e hn2 hpx
    rfl
end Rs

end Go.Proofs.YtdbddockmdkmeaaDoor
