/- A tree that was read has its parents in place; the two readings' answers. Plain. -/
import Derived.Test.YtfdcmlmemcbblaaRr
namespace Go.Proofs.Ytfdcmlmemcbblaa

theorem parAt_pre {l m : List Seg} (h : l <+: m) {i : Nat} (hi : i < l.length) : parAt m i = parAt l i := by
  obtain ⟨r, rfl⟩ := h
  unfold parAt
  rw [List.getElem?_append_left hi]
theorem Down.pre {l m : List Seg} {k : Nat} (h : Down l k) (hp : l <+: m) (hk : k ≤ l.length) : Down m k := fun j hj => by
  rw [parAt_pre hp (by omega)]
  exact h j hj
theorem chain_pre {l m : List Seg} (hd : Down l l.length) (hp : l <+: m) : ∀ (f : Nat) (i : Int), i < l.length → chain m f i = chain l f i
  | 0, _, _ => rfl
  | f + 1, i, hi => by
    unfold chain
    by_cases h : i < 0
    · rw [if_pos h, if_pos h]
    · have hj : i.toNat < l.length := by omega
      rw [if_neg h, if_neg h, parAt_pre hp hj, chain_pre hd hp f _ (by have := hd _ hj; omega)]
theorem chain_up {l : List Seg} (hd : Down l l.length) : ∀ (f : Nat) (i : Int), i < l.length → i < f → ∀ x ∈ chain l f i, 0 ≤ parAt l x.toNat → parAt l x.toNat ∈ chain l f i
  | 0, _, _, _, x, hx, _ => by cases hx
  | f + 1, i, hi, hf, x, hx, hp => by
    unfold chain at hx ⊢
    by_cases h : i < 0
    · rw [if_pos h] at hx; cases hx
    · rw [if_neg h] at hx ⊢
      have hj : i.toNat < l.length := by omega
      have hlo := hd _ hj
      rcases List.mem_cons.1 hx with rfl | hx
      · refine List.mem_cons_of_mem _ ?_
        cases f with
        | zero => omega
        | succ f =>
          unfold chain
          rw [if_neg (by omega)]
          exact List.mem_cons_self
      · exact List.mem_cons_of_mem _ (chain_up hd f _ (by omega) (by omega) x hx hp)

/-- A number on the way from the last segment up. -/
def OnLast (l : List Seg) (p : Int) : Prop := p ∈ chain l l.length ((l.length : Int) - 1)
theorem okSnoc {tr : List Seg} (h : AllOk tr tr.length) {s : Seg} (h1 : nameOk s.name = true) (h2 : takenB tr s.name = false) (h3 : sizeOk s.size = true) (hp : (tr = [] ∧ s.par = -1) ∨ (tr ≠ [] ∧ OnLast tr s.par)) : AllOk (tr ++ [s]) (tr ++ [s]).length := by
  intro j hj
  rw [List.length_append] at hj
  by_cases hl : j < tr.length
  · have h0 := h j hl
    rw [segOk_of hl] at h0
    rw [segOk_of (by rw [List.length_append]; omega), List.getElem_append_left hl, List.take_append_of_le_length (by omega)]
    have e : parOk (tr ++ [s]) j = parOk tr j := by
      unfold parOk
      by_cases h00 : j = 0
      · rw [if_pos h00, if_pos h00, parAt_pre (List.prefix_append _ _) (by omega)]
      · rw [if_neg h00, if_neg h00, parAt_pre (List.prefix_append _ _) hl, chain_pre h.down (List.prefix_append _ _) _ _ (by omega)]
    rw [e]
    exact h0
  · have : j = tr.length := by simp at hj; omega
    subst this
    rw [segOk_of (by simp)]
    have e : parOk (tr ++ [s]) tr.length = true := by
      have ep : parAt (tr ++ [s]) tr.length = s.par := by unfold parAt; simp
      unfold parOk
      rcases hp with ⟨rfl, hp⟩ | ⟨hne, hp⟩
      · rw [List.length_nil, if_pos rfl]
        rw [List.length_nil] at ep
        rw [ep, hp]
        rfl
      · have h0 : 0 < tr.length := List.length_pos_iff.2 hne
        rw [if_neg (by omega), ep, chain_pre h.down (List.prefix_append _ _) _ _ (by omega)]
        unfold OnLast at hp
        simpa using hp
    rw [e]
    simp [h1, h2, h3]
theorem onLast_snoc (tr : List Seg) (s : Seg) : OnLast (tr ++ [s]) tr.length := by
  unfold OnLast
  have : ((tr ++ [s]).length : Int) - 1 = tr.length := by simp
  rw [this, List.length_append]
  show _ ∈ chain _ (tr.length + 1) _
  unfold chain
  rw [if_neg (by omega)]
  exact List.mem_cons_self
theorem onLast_par {l : List Seg} (h : AllOk l l.length) {x : Nat} (ho : OnLast l x) (hp : 0 ≤ parAt l x) : OnLast l (parAt l x) :=
  chain_up h.down l.length ((l.length : Int) - 1) (by omega) (by omega) x ho hp

theorem kids_par {iS : List UInt8 → List Seg → Option Read} {own : Nat}
    (H : ∀ (r : List UInt8) (tr : List Seg) (r' : List UInt8) (t' : List Seg), iS r tr = some (r', t') → AllOk tr tr.length → OnLast tr own → AllOk t' t'.length ∧ OnLast t' own ∧ tr <+: t') :
    ∀ (g : Nat) (r : List UInt8) (tr : List Seg) (r' : List UInt8) (t' : List Seg), iKids iS g r tr = some (r', t') → AllOk tr tr.length → OnLast tr own → AllOk t' t'.length ∧ OnLast t' own ∧ tr <+: t'
  | 0, _, _, _, _, h, _, _ => by cases h
  | g + 1, [], _, _, _, h, _, _ => by unfold iKids at h; cases h
  | g + 1, c :: r, tr, r', t', h, ha, ho => by
    unfold iKids at h
    by_cases h44 : c = 44
    · simp only [if_pos h44] at h
      cases he : iS r tr with
      | none => rw [he] at h; cases h
      | some x =>
        obtain ⟨r2, t2⟩ := x
        rw [he] at h
        obtain ⟨a, b, c'⟩ := H r tr r2 t2 he ha ho
        obtain ⟨a2, b2, c2⟩ := kids_par H g r2 t2 r' t' h a b
        exact ⟨a2, b2, c'.trans c2⟩
    · simp only [if_neg h44] at h
      by_cases h41 : c = 41
      · simp only [if_pos h41] at h
        cases h
        exact ⟨ha, ho, List.prefix_rfl⟩
      · simp only [if_neg h41] at h
        cases h

theorem seg_par : ∀ (f : Nat) (r : List UInt8) (p : Int) (tr : List Seg) (r' : List UInt8) (t' : List Seg), iSeg f r p tr = some (r', t') → AllOk tr tr.length → ((tr = [] ∧ p = -1) ∨ (tr ≠ [] ∧ 0 ≤ p ∧ OnLast tr p)) →
    AllOk t' t'.length ∧ (0 ≤ p → OnLast t' p) ∧ tr <+: t' ∧ tr.length < t'.length
  | 0, _, _, _, _, _, h, _, _ => by cases h
  | f + 1, [], _, _, _, _, h, _, _ => by unfold iSeg at h; cases h
  | f + 1, c :: r, p, tr, r', t', h, ha, hp => by
    unfold iSeg at h
    by_cases hn : (nameOk ⟨#[c]⟩ && !takenB tr ⟨#[c]⟩) = true
    · simp only [if_pos hn] at h
      rw [Bool.and_eq_true, Bool.not_eq_true'] at hn
      cases hz : iSize r 0 with
      | none => rw [hz] at h; cases h
      | some x =>
        obtain ⟨n, r2⟩ := x
        rw [hz] at h
        obtain ⟨_, _, _, z4⟩ := (size_both r).1 n r2 hz
        have h1 : AllOk (tr ++ [⟨⟨#[c]⟩, n, p⟩]) (tr ++ [(⟨⟨#[c]⟩, n, p⟩ : Seg)]).length := okSnoc ha hn.1 hn.2 z4 (Or.elim hp (fun x => Or.inl x) (fun x => Or.inr (And.intro x.1 x.2.2)))
        have h2 := onLast_snoc tr ⟨⟨#[c]⟩, n, p⟩
        have ep : ∀ m : List Seg, tr ++ [⟨⟨#[c]⟩, n, p⟩] <+: m → parAt m tr.length = p := fun m hm => by
          rw [parAt_pre hm (by simp)]
          unfold parAt
          simp
        have fin : ∀ m : List Seg, AllOk m m.length → OnLast m tr.length → tr ++ [⟨⟨#[c]⟩, n, p⟩] <+: m → AllOk m m.length ∧ (0 ≤ p → OnLast m p) ∧ tr <+: m ∧ tr.length < m.length := fun m a b e =>
          ⟨a, fun h0 => by have := onLast_par a b (by rw [ep m e]; exact h0); rwa [ep m e] at this, (List.prefix_append _ _).trans e, by have := e.length_le; rw [List.length_append] at this; simp at this; omega⟩
        cases r2 with
        | nil => cases h; exact fin _ h1 h2 List.prefix_rfl
        | cons d r3 =>
          by_cases h40 : d = 40
          · simp only [if_pos h40] at h
            have hsg : ∀ (r : List UInt8) (u : List Seg) (r' : List UInt8) (t' : List Seg), iSeg f r tr.length u = some (r', t') → AllOk u u.length → OnLast u tr.length → AllOk t' t'.length ∧ OnLast t' tr.length ∧ u <+: t' := fun r u r' t' e a b => by
              have hne : u ≠ [] := fun e => by subst e; cases b
              obtain ⟨q1, q2, q3, _⟩ := seg_par f r tr.length u r' t' e a (.inr ⟨hne, by omega, b⟩)
              exact ⟨q1, q2 (by omega), q3⟩
            cases he : iSeg f r3 tr.length (tr ++ [⟨⟨#[c]⟩, n, p⟩]) with
            | none => rw [he] at h; cases h
            | some y =>
              obtain ⟨r4, t4⟩ := y
              rw [he] at h
              obtain ⟨a4, b4, c4⟩ := hsg _ _ _ _ he h1 h2
              obtain ⟨a5, b5, c5⟩ := kids_par (iS := fun a b => iSeg f a tr.length b) hsg _ _ _ _ _ h a4 b4
              exact fin _ a5 b5 (c4.trans c5)
          · simp only [if_neg h40] at h
            cases h
            exact fin _ h1 h2 List.prefix_rfl
    · simp only [if_neg hn] at h
      cases h

theorem fine_ok {l : List Seg} (h : validB l = true) : Fine l := fun j hj => by
  unfold validB at h
  rw [Bool.and_eq_true, allB_iff] at h
  have := h.2 j hj
  rw [segOk_of hj] at this
  simp only [Bool.and_eq_true, Bool.not_eq_true'] at this
  exact ⟨this.1.1.1, this.1.1.2, this.1.2⟩

/-- A text's tree. -/
def parsed (t : List UInt8) : Option (List Seg) := match iSeg 10 t (-1) [] with
  | some ([], tr) => some tr
  | _ => none
theorem parsed_some {t : List UInt8} {tr : List Seg} (h : parsed t = some tr) : sSeg 10 ⟨t, false, []⟩ (-1) = ⟨[], false, tr⟩ ∧ validB tr = true := by
  unfold parsed at h
  split at h
  · next u he =>
    cases h
    have h0 : AllOk ([] : List Seg) ([] : List Seg).length := fun j hj => absurd hj (by simp)
    have hb := (seg_both 10 t (-1) [] (fun j hj => absurd hj (by simp)) (by simp)).1 [] tr he
    obtain ⟨q1, _, _, q4⟩ := seg_par 10 t (-1) [] [] tr he h0 (.inl ⟨rfl, rfl⟩)
    have h8 := hb.2.1.len
    refine ⟨hb.1, ?_⟩
    rw [validB_all q1]
    simp at q4 ⊢
    omega
  · cases h
theorem parsed_none {t : List UInt8} (h : parsed t = none) : ((sSeg 10 ⟨t, false, []⟩ (-1)).bad || !(sSeg 10 ⟨t, false, []⟩ (-1)).rest.isEmpty || !validB (sSeg 10 ⟨t, false, []⟩ (-1)).tree) = true := by
  have hb := seg_both 10 t (-1) [] (fun j hj => absurd hj (by simp)) (by simp)
  cases he : iSeg 10 t (-1) [] with
  | none =>
    rcases hb.2 he with x | x
    · rw [x]; rfl
    · cases hv : validB (sSeg 10 ⟨t, false, []⟩ (-1)).tree with
      | true => exact absurd (fine_ok hv) x
      | false => simp
  | some y =>
    obtain ⟨r, tr⟩ := y
    have e := (hb.1 r tr he).1
    unfold parsed at h
    rw [he] at h
    cases r with
    | nil => cases h
    | cons c r => rw [e]; simp

end Go.Proofs.Ytfdcmlmemcbblaa
