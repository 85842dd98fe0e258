/- The two ways to read a tree meet: plain. -/
import Derived.Test.YtfdcmlmemcbblaaRq
namespace Go.Proofs.Ytfdcmlmemcbblaa

/-- The reference will not take it. -/
def Lost (s : SSt) : Prop := s.bad = true ∨ ¬ Fine s.tree
theorem Lost.grows {s t : SSt} (h : Lost s) (g : Grows s t) : Lost t := h.elim (fun x => .inl (g.2 x)) (fun x => .inr fun y => x (y.pre g.1))
/-- One place of the recursion: what both say. -/
def Both (i : Option Read) (s : SSt) (r : List UInt8) (tr : List Seg) : Prop :=
  (∀ r' t', i = some (r', t') → s = ⟨r', false, t'⟩ ∧ Fine t' ∧ tr <+: t' ∧ r'.length ≤ r.length) ∧ (i = none → Lost s)
theorem Both.lost {s : SSt} {r : List UInt8} {tr : List Seg} (h : Lost s) : Both none s r tr := ⟨fun _ _ e => (by cases e), fun _ => h⟩
theorem Both.got {r r' : List UInt8} {tr t' : List Seg} (hf : Fine t') (hp : tr <+: t') (hl : r'.length ≤ r.length) : Both (some (r', t')) ⟨r', false, t'⟩ r tr :=
  ⟨fun _ _ e => by cases e; exact ⟨rfl, hf, hp, hl⟩, fun e => by cases e⟩

theorem kids_both {f : Nat} {iS : List UInt8 → List Seg → Option Read} {sS : SSt → SSt} (hg : ∀ s, Grows s (sS s))
    (H : ∀ (r : List UInt8) (tr : List Seg), Fine tr → 10 ≤ f + tr.length → Both (iS r tr) (sS ⟨r, false, tr⟩) r tr) :
    ∀ (g : Nat) (r : List UInt8) (tr : List Seg), Fine tr → 10 ≤ f + tr.length → r.length < g → Both (iKids iS g r tr) (sKids sS g ⟨r, false, tr⟩) r tr
  | 0, r, tr, _, _, h => absurd h (by omega)
  | g + 1, [], tr, _, _, _ => by
    unfold iKids sKids
    exact .lost (.inl rfl)
  | g + 1, c :: r, tr, hF, hl, hr => by
    unfold iKids sKids
    rw [List.length_cons] at hr
    by_cases h44 : c = 44
    · simp only [if_pos h44]
      have h1 := H r tr hF hl
      cases he : iS r tr with
      | none =>
        rw [he] at h1
        exact .lost ((h1.2 rfl).grows (sKids_grows hg g _))
      | some x =>
        obtain ⟨r2, t2⟩ := x
        rw [he] at h1
        obtain ⟨e2, hF2, hp2, hr2⟩ := h1.1 r2 t2 rfl
        rw [e2]
        have hpl := hp2.length_le
        have h2 := kids_both hg H g r2 t2 hF2 (by omega) (by omega)
        refine ⟨fun r' t' e => ?_, h2.2⟩
        obtain ⟨a, b, c', d⟩ := h2.1 r' t' e
        exact ⟨a, b, hp2.trans c', by rw [List.length_cons]; omega⟩
    · simp only [if_neg h44]
      by_cases h41 : c = 41
      · simp only [if_pos h41]
        exact .got hF List.prefix_rfl (by simp)
      · simp only [if_neg h41]
        exact .lost (.inl rfl)

theorem sSeg_open (f : Nat) (c : UInt8) (r : List UInt8) (tr : List Seg) (p : Int) (hl : tr.length ≤ 8) :
    sSeg (f + 1) ⟨c :: r, false, tr⟩ p = match r.drop (digs r).length with
      | [] => ⟨[], !numOk (digs r), tr ++ [⟨⟨#[c]⟩, numB (digs r), p⟩]⟩
      | d :: r3 => if d = 40 then (fun s2 => sKids (fun x => sSeg f x tr.length) (s2.rest.length + 1) s2) (sSeg f ⟨r3, !numOk (digs r), tr ++ [⟨⟨#[c]⟩, numB (digs r), p⟩]⟩ tr.length)
        else ⟨d :: r3, !numOk (digs r), tr ++ [⟨⟨#[c]⟩, numB (digs r), p⟩]⟩ := by
  conv => lhs; unfold sSeg
  rw [if_neg (by simp; omega)]
  rfl
theorem sSeg_first (f : Nat) (c : UInt8) (r : List UInt8) (tr : List Seg) (p : Int) (hl : tr.length ≤ 8) :
    (tr ++ [⟨⟨#[c]⟩, numB (digs r), p⟩]) <+: (sSeg (f + 1) ⟨c :: r, false, tr⟩ p).tree ∧ (numOk (digs r) = false → (sSeg (f + 1) ⟨c :: r, false, tr⟩ p).bad = true) := by
  rw [sSeg_open f c r tr p hl]
  split
  · exact ⟨List.prefix_rfl, fun h => by simp [h]⟩
  · next d r3 _ =>
    split
    · have h1 := sSeg_grows f ⟨r3, !numOk (digs r), tr ++ [⟨⟨#[c]⟩, numB (digs r), p⟩]⟩ tr.length
      have h2 := sKids_grows (seg := fun x => sSeg f x tr.length) (fun x => sSeg_grows f x _) ((sSeg f ⟨r3, !numOk (digs r), tr ++ [⟨⟨#[c]⟩, numB (digs r), p⟩]⟩ tr.length).rest.length + 1) (sSeg f ⟨r3, !numOk (digs r), tr ++ [⟨⟨#[c]⟩, numB (digs r), p⟩]⟩ tr.length)
      have h3 := h1.trans h2
      exact ⟨h3.1, fun h => h3.2 (by simp [h])⟩
    · exact ⟨List.prefix_rfl, fun h => by simp [h]⟩

theorem seg_both : ∀ (f : Nat) (r : List UInt8) (p : Int) (tr : List Seg), Fine tr → 10 ≤ f + tr.length → Both (iSeg f r p tr) (sSeg f ⟨r, false, tr⟩ p) r tr
  | 0, _, _, tr, hF, hl => by have := hF.len; omega
  | f + 1, [], p, tr, hF, _ => by
    have h8 := hF.len
    refine .lost (.inl ?_)
    unfold sSeg
    rw [if_neg (by simp; omega)]
  | f + 1, c :: r, p, tr, hF, hl => by
    have h8 := hF.len
    obtain ⟨hT, hB⟩ := sSeg_first f c r tr p h8
    have hS := size_both r
    unfold iSeg
    by_cases hn : (nameOk ⟨#[c]⟩ && !takenB tr ⟨#[c]⟩) = true
    · simp only [if_pos hn]
      rw [Bool.and_eq_true, Bool.not_eq_true'] at hn
      cases hz : iSize r 0 with
      | none =>
        rcases hS.2 hz with h | h
        · exact .lost (.inl (hB h))
        · refine .lost (.inr fun hf => ?_)
          have := (hf.pre hT).last.2.2
          simp only [] at this
          rw [h] at this
          cases this
      | some x =>
        obtain ⟨n, r2⟩ := x
        obtain ⟨z1, z2, z3, z4⟩ := hS.1 n r2 hz
        have hF1 : Fine (tr ++ [⟨⟨#[c]⟩, n, p⟩]) := hF.snoc hn.1 hn.2 z4
        have hr2 : r2.length ≤ r.length := by rw [← z3, List.length_drop]; omega
        rw [sSeg_open f c r tr p h8, z1, z2, z3]
        cases r2 with
        | nil => exact .got hF1 (List.prefix_append _ _) (by simp)
        | cons d r3 =>
          rw [List.length_cons] at hr2
          by_cases h40 : d = 40
          · simp only [if_pos h40, Bool.not_true]
            have h1 := seg_both f r3 tr.length (tr ++ [⟨⟨#[c]⟩, n, p⟩]) hF1 (by rw [List.length_append]; simp; omega)
            cases he : iSeg f r3 tr.length (tr ++ [⟨⟨#[c]⟩, n, p⟩]) with
            | none =>
              rw [he] at h1
              exact .lost ((h1.2 rfl).grows (sKids_grows (fun x => sSeg_grows f x _) _ _))
            | some y =>
              obtain ⟨r4, t4⟩ := y
              rw [he] at h1
              obtain ⟨e4, hF4, hp4, hr4⟩ := h1.1 r4 t4 rfl
              rw [e4]
              have hpl := hp4.length_le
              rw [List.length_append] at hpl
              simp only [List.length_cons, List.length_nil] at hpl
              have h2 := kids_both (f := f) (iS := fun a b => iSeg f a tr.length b) (sS := fun x => sSeg f x tr.length) (fun x => sSeg_grows f x _)
                (fun a b hb hc => seg_both f a tr.length b hb hc) (r4.length + 1) r4 t4 hF4 (by omega) (by omega)
              refine ⟨fun r' t' e => ?_, h2.2⟩
              obtain ⟨a, b, c', d'⟩ := h2.1 r' t' e
              exact ⟨a, b, ((List.prefix_append _ _).trans hp4).trans c', by rw [List.length_cons]; omega⟩
          · simp only [if_neg h40, Bool.not_true]
            exact .got hF1 (List.prefix_append _ _) (by simp; omega)
    · simp only [if_neg hn]
      refine .lost (.inr fun hf => ?_)
      have := (hf.pre hT).last
      simp only [] at this
      exact hn (by rw [this.1, this.2.1]; rfl)

end Go.Proofs.Ytfdcmlmemcbblaa
