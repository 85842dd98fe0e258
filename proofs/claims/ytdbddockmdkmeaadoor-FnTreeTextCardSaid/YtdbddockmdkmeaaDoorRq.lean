/- The program's way and the reference's to read a tree give the same tree: plain. -/
import Derived.Test.YtdbddockmdkmeaaDoorRp
namespace Go.Proofs.YtdbddockmdkmeaaDoor

theorem digs_cons {c : UInt8} {r : List UInt8} : digs (c :: r) = if isDig c then c :: (r.take 2).takeWhile isDig else [] := by
  unfold digs
  rw [List.take_succ_cons, List.takeWhile_cons]
theorem isDig_iff {c : UInt8} : isDig c = true ↔ 48 ≤ c.toNat ∧ c.toNat ≤ 57 := by unfold isDig; simp
theorem size_both (r : List UInt8) : (∀ n r2, iSize r 0 = some (n, r2) → numOk (digs r) = true ∧ numB (digs r) = n ∧ r.drop (digs r).length = r2 ∧ sizeOk n = true) ∧
    (iSize r 0 = none → numOk (digs r) = false ∨ sizeOk (numB (digs r)) = false) := by
  cases r with
  | nil => exact ⟨fun n r2 h => (by simp [iSize] at h), fun _ => .inl rfl⟩
  | cons c r =>
    rw [digs_cons]
    by_cases hc : isDig c = true
    · rw [if_pos hc]
      have hd := isDig_iff.1 hc
      by_cases h0 : c = 48
      · subst h0
        refine ⟨fun n r2 h => (by simp [iSize, hc] at h), fun _ => ?_⟩
        cases hw : (r.take 2).takeWhile isDig with
        | nil => exact .inr (by decide)
        | cons x y => exact .inl (by simp [numOk])
      · have h48 : c.toNat ≠ 48 := fun e => h0 (UInt8.toNat_inj.1 e)
        have hr1 : 1 ≤ 10 * 0 + (c.toNat - 48) ∧ 10 * 0 + (c.toNat - 48) ≤ 99 := by omega
        have hnum : ∀ y, numOk (c :: y) = true := fun y => by simp [numOk, h0]
        have e1 : iSize (c :: r) 0 = iSize r (c.toNat - 48) := by
          rw [iSize, if_pos hc, if_pos hr1]
          congr 1
          omega
        rw [e1]
        cases r with
        | nil =>
          refine ⟨fun n r2 h => ?_, fun h => ?_⟩
          · rw [iSize, if_neg (by omega)] at h
            simp only [Option.some.injEq, Prod.mk.injEq] at h
            obtain ⟨rfl, rfl⟩ := h
            refine ⟨hnum _, ?_, by simp, by simp [sizeOk]; omega⟩
            simp [numB, hnum, valB]
          · rw [iSize, if_neg (by omega)] at h; cases h
        | cons d r =>
          by_cases hdd : isDig d = true
          · have hd2 := isDig_iff.1 hdd
            have e2 : iSize (d :: r) (c.toNat - 48) = iSize r (10 * (c.toNat - 48) + (d.toNat - 48)) := by
              rw [iSize, if_pos hdd, if_pos (by omega)]
            rw [e2, List.take_succ_cons, List.takeWhile_cons, if_pos hdd]
            cases r with
            | nil =>
              refine ⟨fun n r2 h => ?_, fun h => ?_⟩
              · rw [iSize, if_neg (by omega)] at h
                simp only [Option.some.injEq, Prod.mk.injEq] at h
                obtain ⟨rfl, rfl⟩ := h
                refine ⟨hnum _, ?_, by simp, by simp [sizeOk]; omega⟩
                simp [numB, hnum, valB]
                omega
              · rw [iSize, if_neg (by omega)] at h; cases h
            | cons e r =>
              by_cases he : isDig e = true
              · have he2 := isDig_iff.1 he
                rw [iSize, if_pos he, if_neg (by omega), List.take_succ_cons, List.takeWhile_cons, if_pos he]
                refine ⟨fun n r2 h => (by cases h), fun _ => .inr ?_⟩
                simp [numB, hnum, valB, sizeOk]
                omega
              · have he2 : isDig e = false := by simpa using he
                rw [List.take_succ_cons, List.takeWhile_cons, if_neg he]
                refine ⟨fun n r2 h => ?_, fun h => ?_⟩
                · rw [iSize, if_neg he, if_neg (by omega)] at h
                  simp only [Option.some.injEq, Prod.mk.injEq] at h
                  obtain ⟨rfl, rfl⟩ := h
                  refine ⟨hnum _, ?_, by simp, by simp [sizeOk]; omega⟩
                  simp [numB, hnum, valB]
                  omega
                · rw [iSize, if_neg he, if_neg (by omega)] at h; cases h
          · rw [List.take_succ_cons, List.takeWhile_cons, if_neg hdd]
            refine ⟨fun n r2 h => ?_, fun h => ?_⟩
            · rw [iSize, if_neg hdd, if_neg (by omega)] at h
              simp only [Option.some.injEq, Prod.mk.injEq] at h
              obtain ⟨rfl, rfl⟩ := h
              refine ⟨hnum _, ?_, by simp, by simp [sizeOk]; omega⟩
              simp [numB, hnum, valB]
            · rw [iSize, if_neg hdd, if_neg (by omega)] at h; cases h
    · rw [if_neg hc]
      refine ⟨fun n r2 h => ?_, fun _ => .inl rfl⟩
      rw [iSize, if_neg hc, if_pos rfl] at h
      cases h

/-- A mark stays; a tree only grows. -/
def Grows (s t : SSt) : Prop := s.tree <+: t.tree ∧ (s.bad = true → t.bad = true)
theorem Grows.refl (s : SSt) : Grows s s := ⟨List.prefix_rfl, id⟩
theorem Grows.trans {s t u : SSt} (h : Grows s t) (k : Grows t u) : Grows s u := ⟨h.1.trans k.1, fun x => k.2 (h.2 x)⟩
theorem sKids_grows {seg : SSt → SSt} (h : ∀ s, Grows s (seg s)) : ∀ (g : Nat) (s : SSt), Grows s (sKids seg g s)
  | 0, s => ⟨List.prefix_rfl, fun _ => rfl⟩
  | g + 1, s => by
    unfold sKids
    split
    · exact ⟨List.prefix_rfl, fun _ => rfl⟩
    · next c r _ =>
      split
      · exact (h ⟨r, s.bad, s.tree⟩).trans (sKids_grows h g _)
      · split
        · exact Grows.refl s
        · next hb =>
          split
          · exact ⟨List.prefix_rfl, fun x => absurd x hb⟩
          · exact ⟨List.prefix_rfl, fun _ => rfl⟩
theorem sSeg_grows : ∀ (f : Nat) (s : SSt) (p : Int), Grows s (sSeg f s p)
  | 0, s, p => ⟨List.prefix_rfl, fun _ => rfl⟩
  | f + 1, s, p => by
    unfold sSeg
    split
    · exact ⟨List.prefix_rfl, fun _ => rfl⟩
    · next hb =>
      have hs : s.bad = true → False := fun x => hb (by simp [x])
      split
      · exact ⟨List.prefix_rfl, fun _ => rfl⟩
      · next c r _ =>
        split
        · exact ⟨List.prefix_append _ _, fun x => (hs x).elim⟩
        · next d r3 _ =>
          split
          · have h1 := sSeg_grows f ⟨r3, !numOk (digs r), s.tree ++ [⟨⟨#[c]⟩, numB (digs r), p⟩]⟩ s.tree.length
            have h2 := sKids_grows (seg := fun x => sSeg f x s.tree.length) (fun x => sSeg_grows f x _) ((sSeg f ⟨r3, !numOk (digs r), s.tree ++ [⟨⟨#[c]⟩, numB (digs r), p⟩]⟩ s.tree.length).rest.length + 1) (sSeg f ⟨r3, !numOk (digs r), s.tree ++ [⟨⟨#[c]⟩, numB (digs r), p⟩]⟩ s.tree.length)
            exact ⟨((List.prefix_append _ _).trans h1.1).trans h2.1, fun x => (hs x).elim⟩
          · exact ⟨List.prefix_append _ _, fun x => (hs x).elim⟩

end Go.Proofs.YtdbddockmdkmeaaDoor

/- The two ways to read a tree meet: plain. -/
namespace Go.Proofs.YtdbddockmdkmeaaDoor

/-- The reference will not take it. -/
def Lost (s : SSt) : Prop := s.bad = true ∨ ¬ Fine s.tree
theorem Lost.grows {s t : SSt} (h : Lost s) (g : Grows s t) : Lost t := h.elim (fun x => .inl (g.2 x)) (fun x => .inr fun y => x (y.pre g.1))
/-- One place of the recursion: what both say. -/
def Both (i : Option Read) (s : SSt) (r : List UInt8) (tr : List Seg) : Prop :=
  (∀ r' t', i = some (r', t') → s = ⟨r', false, t'⟩ ∧ Fine t' ∧ tr <+: t' ∧ r'.length ≤ r.length) ∧ (i = none → Lost s)
theorem Both.lost {s : SSt} {r : List UInt8} {tr : List Seg} (h : Lost s) : Both none s r tr := ⟨fun _ _ e => (by cases e), fun _ => h⟩
theorem Both.got {r r' : List UInt8} {tr t' : List Seg} (hf : Fine t') (hp : tr <+: t') (hl : r'.length ≤ r.length) : Both (some (r', t')) ⟨r', false, t'⟩ r tr :=
  ⟨fun _ _ e => by cases e; exact ⟨rfl, hf, hp, hl⟩, fun e => by cases e⟩

theorem kids_both {f : Nat} {iS : List UInt8 → List Seg → Option Read} {sS : SSt → SSt} (hg : ∀ s, Grows s (sS s))
    (H : ∀ (r : List UInt8) (tr : List Seg), Fine tr → 10 ≤ f + tr.length → Both (iS r tr) (sS ⟨r, false, tr⟩) r tr) :
    ∀ (g : Nat) (r : List UInt8) (tr : List Seg), Fine tr → 10 ≤ f + tr.length → r.length < g → Both (iKids iS g r tr) (sKids sS g ⟨r, false, tr⟩) r tr
  | 0, r, tr, _, _, h => absurd h (by omega)
  | g + 1, [], tr, _, _, _ => by
    unfold iKids sKids
    exact .lost (.inl rfl)
  | g + 1, c :: r, tr, hF, hl, hr => by
    unfold iKids sKids
    rw [List.length_cons] at hr
    by_cases h44 : c = 44
    · simp only [if_pos h44]
      have h1 := H r tr hF hl
      cases he : iS r tr with
      | none =>
        rw [he] at h1
        exact .lost ((h1.2 rfl).grows (sKids_grows hg g _))
      | some x =>
        obtain ⟨r2, t2⟩ := x
        rw [he] at h1
        obtain ⟨e2, hF2, hp2, hr2⟩ := h1.1 r2 t2 rfl
        rw [e2]
        have hpl := hp2.length_le
        have h2 := kids_both hg H g r2 t2 hF2 (by omega) (by omega)
        refine ⟨fun r' t' e => ?_, h2.2⟩
        obtain ⟨a, b, c', d⟩ := h2.1 r' t' e
        exact ⟨a, b, hp2.trans c', by rw [List.length_cons]; omega⟩
    · simp only [if_neg h44]
      by_cases h41 : c = 41
      · simp only [if_pos h41]
        exact .got hF List.prefix_rfl (by simp)
      · simp only [if_neg h41]
        exact .lost (.inl rfl)

theorem sSeg_open (f : Nat) (c : UInt8) (r : List UInt8) (tr : List Seg) (p : Int) (hl : tr.length ≤ 8) :
    sSeg (f + 1) ⟨c :: r, false, tr⟩ p = match r.drop (digs r).length with
      | [] => ⟨[], !numOk (digs r), tr ++ [⟨⟨#[c]⟩, numB (digs r), p⟩]⟩
      | d :: r3 => if d = 40 then (fun s2 => sKids (fun x => sSeg f x tr.length) (s2.rest.length + 1) s2) (sSeg f ⟨r3, !numOk (digs r), tr ++ [⟨⟨#[c]⟩, numB (digs r), p⟩]⟩ tr.length)
        else ⟨d :: r3, !numOk (digs r), tr ++ [⟨⟨#[c]⟩, numB (digs r), p⟩]⟩ := by
  conv => lhs; unfold sSeg
  rw [if_neg (by simp; omega)]
  rfl
theorem sSeg_first (f : Nat) (c : UInt8) (r : List UInt8) (tr : List Seg) (p : Int) (hl : tr.length ≤ 8) :
    (tr ++ [⟨⟨#[c]⟩, numB (digs r), p⟩]) <+: (sSeg (f + 1) ⟨c :: r, false, tr⟩ p).tree ∧ (numOk (digs r) = false → (sSeg (f + 1) ⟨c :: r, false, tr⟩ p).bad = true) := by
  rw [sSeg_open f c r tr p hl]
  split
  · exact ⟨List.prefix_rfl, fun h => by simp [h]⟩
  · next d r3 _ =>
    split
    · have h1 := sSeg_grows f ⟨r3, !numOk (digs r), tr ++ [⟨⟨#[c]⟩, numB (digs r), p⟩]⟩ tr.length
      have h2 := sKids_grows (seg := fun x => sSeg f x tr.length) (fun x => sSeg_grows f x _) ((sSeg f ⟨r3, !numOk (digs r), tr ++ [⟨⟨#[c]⟩, numB (digs r), p⟩]⟩ tr.length).rest.length + 1) (sSeg f ⟨r3, !numOk (digs r), tr ++ [⟨⟨#[c]⟩, numB (digs r), p⟩]⟩ tr.length)
      have h3 := h1.trans h2
      exact ⟨h3.1, fun h => h3.2 (by simp [h])⟩
    · exact ⟨List.prefix_rfl, fun h => by simp [h]⟩

theorem seg_both : ∀ (f : Nat) (r : List UInt8) (p : Int) (tr : List Seg), Fine tr → 10 ≤ f + tr.length → Both (iSeg f r p tr) (sSeg f ⟨r, false, tr⟩ p) r tr
  | 0, _, _, tr, hF, hl => by have := hF.len; omega
  | f + 1, [], p, tr, hF, _ => by
    have h8 := hF.len
    refine .lost (.inl ?_)
    unfold sSeg
    rw [if_neg (by simp; omega)]
  | f + 1, c :: r, p, tr, hF, hl => by
    have h8 := hF.len
    obtain ⟨hT, hB⟩ := sSeg_first f c r tr p h8
    have hS := size_both r
    unfold iSeg
    by_cases hn : (nameOk ⟨#[c]⟩ && !takenB tr ⟨#[c]⟩) = true
    · simp only [if_pos hn]
      rw [Bool.and_eq_true, Bool.not_eq_true'] at hn
      cases hz : iSize r 0 with
      | none =>
        rcases hS.2 hz with h | h
        · exact .lost (.inl (hB h))
        · refine .lost (.inr fun hf => ?_)
          have := (hf.pre hT).last.2.2
          simp only [] at this
          rw [h] at this
          cases this
      | some x =>
        obtain ⟨n, r2⟩ := x
        obtain ⟨z1, z2, z3, z4⟩ := hS.1 n r2 hz
        have hF1 : Fine (tr ++ [⟨⟨#[c]⟩, n, p⟩]) := hF.snoc hn.1 hn.2 z4
        have hr2 : r2.length ≤ r.length := by rw [← z3, List.length_drop]; omega
        rw [sSeg_open f c r tr p h8, z1, z2, z3]
        cases r2 with
        | nil => exact .got hF1 (List.prefix_append _ _) (by simp)
        | cons d r3 =>
          rw [List.length_cons] at hr2
          by_cases h40 : d = 40
          · simp only [if_pos h40, Bool.not_true]
            have h1 := seg_both f r3 tr.length (tr ++ [⟨⟨#[c]⟩, n, p⟩]) hF1 (by rw [List.length_append]; simp; omega)
            cases he : iSeg f r3 tr.length (tr ++ [⟨⟨#[c]⟩, n, p⟩]) with
            | none =>
              rw [he] at h1
              exact .lost ((h1.2 rfl).grows (sKids_grows (fun x => sSeg_grows f x _) _ _))
            | some y =>
              obtain ⟨r4, t4⟩ := y
              rw [he] at h1
              obtain ⟨e4, hF4, hp4, hr4⟩ := h1.1 r4 t4 rfl
              rw [e4]
              have hpl := hp4.length_le
              rw [List.length_append] at hpl
              simp only [List.length_cons, List.length_nil] at hpl
              have h2 := kids_both (f := f) (iS := fun a b => iSeg f a tr.length b) (sS := fun x => sSeg f x tr.length) (fun x => sSeg_grows f x _)
                (fun a b hb hc => seg_both f a tr.length b hb hc) (r4.length + 1) r4 t4 hF4 (by omega) (by omega)
              refine ⟨fun r' t' e => ?_, h2.2⟩
              obtain ⟨a, b, c', d'⟩ := h2.1 r' t' e
              exact ⟨a, b, ((List.prefix_append _ _).trans hp4).trans c', by rw [List.length_cons]; omega⟩
          · simp only [if_neg h40, Bool.not_true]
            exact .got hF1 (List.prefix_append _ _) (by simp; omega)
    · simp only [if_neg hn]
      refine .lost (.inr fun hf => ?_)
      have := (hf.pre hT).last
      simp only [] at this
      exact hn (by rw [this.1, this.2.1]; rfl)

end Go.Proofs.YtdbddockmdkmeaaDoor

/- A tree that was read has its parents in place; the two readings' answers. Plain. -/
namespace Go.Proofs.YtdbddockmdkmeaaDoor

theorem parAt_pre {l m : List Seg} (h : l <+: m) {i : Nat} (hi : i < l.length) : parAt m i = parAt l i := by
  obtain ⟨r, rfl⟩ := h
  unfold parAt
  rw [List.getElem?_append_left hi]
theorem Down.pre {l m : List Seg} {k : Nat} (h : Down l k) (hp : l <+: m) (hk : k ≤ l.length) : Down m k := fun j hj => by
  rw [parAt_pre hp (by omega)]
  exact h j hj
theorem chain_pre {l m : List Seg} (hd : Down l l.length) (hp : l <+: m) : ∀ (f : Nat) (i : Int), i < l.length → chain m f i = chain l f i
  | 0, _, _ => rfl
  | f + 1, i, hi => by
    unfold chain
    by_cases h : i < 0
    · rw [if_pos h, if_pos h]
    · have hj : i.toNat < l.length := by omega
      rw [if_neg h, if_neg h, parAt_pre hp hj, chain_pre hd hp f _ (by have := hd _ hj; omega)]
theorem chain_up {l : List Seg} (hd : Down l l.length) : ∀ (f : Nat) (i : Int), i < l.length → i < f → ∀ x ∈ chain l f i, 0 ≤ parAt l x.toNat → parAt l x.toNat ∈ chain l f i
  | 0, _, _, _, x, hx, _ => by cases hx
  | f + 1, i, hi, hf, x, hx, hp => by
    unfold chain at hx ⊢
    by_cases h : i < 0
    · rw [if_pos h] at hx; cases hx
    · rw [if_neg h] at hx ⊢
      have hj : i.toNat < l.length := by omega
      have hlo := hd _ hj
      rcases List.mem_cons.1 hx with rfl | hx
      · refine List.mem_cons_of_mem _ ?_
        cases f with
        | zero => omega
        | succ f =>
          unfold chain
          rw [if_neg (by omega)]
          exact List.mem_cons_self
      · exact List.mem_cons_of_mem _ (chain_up hd f _ (by omega) (by omega) x hx hp)

/-- A number on the way from the last segment up. -/
def OnLast (l : List Seg) (p : Int) : Prop := p ∈ chain l l.length ((l.length : Int) - 1)
theorem okSnoc {tr : List Seg} (h : AllOk tr tr.length) {s : Seg} (h1 : nameOk s.name = true) (h2 : takenB tr s.name = false) (h3 : sizeOk s.size = true) (hp : (tr = [] ∧ s.par = -1) ∨ (tr ≠ [] ∧ OnLast tr s.par)) : AllOk (tr ++ [s]) (tr ++ [s]).length := by
  intro j hj
  rw [List.length_append] at hj
  by_cases hl : j < tr.length
  · have h0 := h j hl
    rw [segOk_of hl] at h0
    rw [segOk_of (by rw [List.length_append]; omega), List.getElem_append_left hl, List.take_append_of_le_length (by omega)]
    have e : parOk (tr ++ [s]) j = parOk tr j := by
      unfold parOk
      by_cases h00 : j = 0
      · rw [if_pos h00, if_pos h00, parAt_pre (List.prefix_append _ _) (by omega)]
      · rw [if_neg h00, if_neg h00, parAt_pre (List.prefix_append _ _) hl, chain_pre h.down (List.prefix_append _ _) _ _ (by omega)]
    rw [e]
    exact h0
  · have : j = tr.length := by simp at hj; omega
    subst this
    rw [segOk_of (by simp)]
    have e : parOk (tr ++ [s]) tr.length = true := by
      have ep : parAt (tr ++ [s]) tr.length = s.par := by unfold parAt; simp
      unfold parOk
      rcases hp with ⟨rfl, hp⟩ | ⟨hne, hp⟩
      · rw [List.length_nil, if_pos rfl]
        rw [List.length_nil] at ep
        rw [ep, hp]
        rfl
      · have h0 : 0 < tr.length := List.length_pos_iff.2 hne
        rw [if_neg (by omega), ep, chain_pre h.down (List.prefix_append _ _) _ _ (by omega)]
        unfold OnLast at hp
        simpa using hp
    rw [e]
    simp [h1, h2, h3]
theorem onLast_snoc (tr : List Seg) (s : Seg) : OnLast (tr ++ [s]) tr.length := by
  unfold OnLast
  have : ((tr ++ [s]).length : Int) - 1 = tr.length := by simp
  rw [this, List.length_append]
  show _ ∈ chain _ (tr.length + 1) _
  unfold chain
  rw [if_neg (by omega)]
  exact List.mem_cons_self
theorem onLast_par {l : List Seg} (h : AllOk l l.length) {x : Nat} (ho : OnLast l x) (hp : 0 ≤ parAt l x) : OnLast l (parAt l x) :=
  chain_up h.down l.length ((l.length : Int) - 1) (by omega) (by omega) x ho hp

theorem kids_par {iS : List UInt8 → List Seg → Option Read} {own : Nat}
    (H : ∀ (r : List UInt8) (tr : List Seg) (r' : List UInt8) (t' : List Seg), iS r tr = some (r', t') → AllOk tr tr.length → OnLast tr own → AllOk t' t'.length ∧ OnLast t' own ∧ tr <+: t') :
    ∀ (g : Nat) (r : List UInt8) (tr : List Seg) (r' : List UInt8) (t' : List Seg), iKids iS g r tr = some (r', t') → AllOk tr tr.length → OnLast tr own → AllOk t' t'.length ∧ OnLast t' own ∧ tr <+: t'
  | 0, _, _, _, _, h, _, _ => by cases h
  | g + 1, [], _, _, _, h, _, _ => by unfold iKids at h; cases h
  | g + 1, c :: r, tr, r', t', h, ha, ho => by
    unfold iKids at h
    by_cases h44 : c = 44
    · simp only [if_pos h44] at h
      cases he : iS r tr with
      | none => rw [he] at h; cases h
      | some x =>
        obtain ⟨r2, t2⟩ := x
        rw [he] at h
        obtain ⟨a, b, c'⟩ := H r tr r2 t2 he ha ho
        obtain ⟨a2, b2, c2⟩ := kids_par H g r2 t2 r' t' h a b
        exact ⟨a2, b2, c'.trans c2⟩
    · simp only [if_neg h44] at h
      by_cases h41 : c = 41
      · simp only [if_pos h41] at h
        cases h
        exact ⟨ha, ho, List.prefix_rfl⟩
      · simp only [if_neg h41] at h
        cases h

theorem seg_par : ∀ (f : Nat) (r : List UInt8) (p : Int) (tr : List Seg) (r' : List UInt8) (t' : List Seg), iSeg f r p tr = some (r', t') → AllOk tr tr.length → ((tr = [] ∧ p = -1) ∨ (tr ≠ [] ∧ 0 ≤ p ∧ OnLast tr p)) →
    AllOk t' t'.length ∧ (0 ≤ p → OnLast t' p) ∧ tr <+: t' ∧ tr.length < t'.length
  | 0, _, _, _, _, _, h, _, _ => by cases h
  | f + 1, [], _, _, _, _, h, _, _ => by unfold iSeg at h; cases h
  | f + 1, c :: r, p, tr, r', t', h, ha, hp => by
    unfold iSeg at h
    by_cases hn : (nameOk ⟨#[c]⟩ && !takenB tr ⟨#[c]⟩) = true
    · simp only [if_pos hn] at h
      rw [Bool.and_eq_true, Bool.not_eq_true'] at hn
      cases hz : iSize r 0 with
      | none => rw [hz] at h; cases h
      | some x =>
        obtain ⟨n, r2⟩ := x
        rw [hz] at h
        obtain ⟨_, _, _, z4⟩ := (size_both r).1 n r2 hz
        have h1 : AllOk (tr ++ [⟨⟨#[c]⟩, n, p⟩]) (tr ++ [(⟨⟨#[c]⟩, n, p⟩ : Seg)]).length := okSnoc ha hn.1 hn.2 z4 (Or.elim hp (fun x => Or.inl x) (fun x => Or.inr (And.intro x.1 x.2.2)))
        have h2 := onLast_snoc tr ⟨⟨#[c]⟩, n, p⟩
        have ep : ∀ m : List Seg, tr ++ [⟨⟨#[c]⟩, n, p⟩] <+: m → parAt m tr.length = p := fun m hm => by
          rw [parAt_pre hm (by simp)]
          unfold parAt
          simp
        have fin : ∀ m : List Seg, AllOk m m.length → OnLast m tr.length → tr ++ [⟨⟨#[c]⟩, n, p⟩] <+: m → AllOk m m.length ∧ (0 ≤ p → OnLast m p) ∧ tr <+: m ∧ tr.length < m.length := fun m a b e =>
          ⟨a, fun h0 => by have := onLast_par a b (by rw [ep m e]; exact h0); rwa [ep m e] at this, (List.prefix_append _ _).trans e, by have := e.length_le; rw [List.length_append] at this; simp at this; omega⟩
        cases r2 with
        | nil => cases h; exact fin _ h1 h2 List.prefix_rfl
        | cons d r3 =>
          by_cases h40 : d = 40
          · simp only [if_pos h40] at h
            have hsg : ∀ (r : List UInt8) (u : List Seg) (r' : List UInt8) (t' : List Seg), iSeg f r tr.length u = some (r', t') → AllOk u u.length → OnLast u tr.length → AllOk t' t'.length ∧ OnLast t' tr.length ∧ u <+: t' := fun r u r' t' e a b => by
              have hne : u ≠ [] := fun e => by subst e; cases b
              obtain ⟨q1, q2, q3, _⟩ := seg_par f r tr.length u r' t' e a (.inr ⟨hne, by omega, b⟩)
              exact ⟨q1, q2 (by omega), q3⟩
            cases he : iSeg f r3 tr.length (tr ++ [⟨⟨#[c]⟩, n, p⟩]) with
            | none => rw [he] at h; cases h
            | some y =>
              obtain ⟨r4, t4⟩ := y
              rw [he] at h
              obtain ⟨a4, b4, c4⟩ := hsg _ _ _ _ he h1 h2
              obtain ⟨a5, b5, c5⟩ := kids_par (iS := fun a b => iSeg f a tr.length b) hsg _ _ _ _ _ h a4 b4
              exact fin _ a5 b5 (c4.trans c5)
          · simp only [if_neg h40] at h
            cases h
            exact fin _ h1 h2 List.prefix_rfl
    · simp only [if_neg hn] at h
      cases h

theorem fine_ok {l : List Seg} (h : validB l = true) : Fine l := fun j hj => by
  unfold validB at h
  rw [Bool.and_eq_true, allB_iff] at h
  have := h.2 j hj
  rw [segOk_of hj] at this
  simp only [Bool.and_eq_true, Bool.not_eq_true'] at this
  exact ⟨this.1.1.1, this.1.1.2, this.1.2⟩

/-- A text's tree. -/
def parsed (t : List UInt8) : Option (List Seg) := match iSeg 10 t (-1) [] with
  | some ([], tr) => some tr
  | _ => none
theorem parsed_some {t : List UInt8} {tr : List Seg} (h : parsed t = some tr) : sSeg 10 ⟨t, false, []⟩ (-1) = ⟨[], false, tr⟩ ∧ validB tr = true := by
  unfold parsed at h
  split at h
  · next u he =>
    cases h
    have h0 : AllOk ([] : List Seg) ([] : List Seg).length := fun j hj => absurd hj (by simp)
    have hb := (seg_both 10 t (-1) [] (fun j hj => absurd hj (by simp)) (by simp)).1 [] tr he
    obtain ⟨q1, _, _, q4⟩ := seg_par 10 t (-1) [] [] tr he h0 (.inl ⟨rfl, rfl⟩)
    have h8 := hb.2.1.len
    refine ⟨hb.1, ?_⟩
    rw [validB_all q1]
    simp at q4 ⊢
    omega
  · cases h
theorem parsed_none {t : List UInt8} (h : parsed t = none) : ((sSeg 10 ⟨t, false, []⟩ (-1)).bad || !(sSeg 10 ⟨t, false, []⟩ (-1)).rest.isEmpty || !validB (sSeg 10 ⟨t, false, []⟩ (-1)).tree) = true := by
  have hb := seg_both 10 t (-1) [] (fun j hj => absurd hj (by simp)) (by simp)
  cases he : iSeg 10 t (-1) [] with
  | none =>
    rcases hb.2 he with x | x
    · rw [x]; rfl
    · cases hv : validB (sSeg 10 ⟨t, false, []⟩ (-1)).tree with
      | true => exact absurd (fine_ok hv) x
      | false => simp
  | some y =>
    obtain ⟨r, tr⟩ := y
    have e := (hb.1 r tr he).1
    unfold parsed at h
    rw [he] at h
    cases r with
    | nil => cases h
    | cons c r => rw [e]; simp

end Go.Proofs.YtdbddockmdkmeaaDoor
