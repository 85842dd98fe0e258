/- The program's way and the reference's to read a tree give the same tree: plain. -/
import Derived.Test.YtfdcmlmemcbblaaRp
namespace Go.Proofs.Ytfdcmlmemcbblaa

theorem digs_cons {c : UInt8} {r : List UInt8} : digs (c :: r) = if isDig c then c :: (r.take 2).takeWhile isDig else [] := by
  unfold digs
  rw [List.take_succ_cons, List.takeWhile_cons]
theorem isDig_iff {c : UInt8} : isDig c = true ↔ 48 ≤ c.toNat ∧ c.toNat ≤ 57 := by unfold isDig; simp
theorem size_both (r : List UInt8) : (∀ n r2, iSize r 0 = some (n, r2) → numOk (digs r) = true ∧ numB (digs r) = n ∧ r.drop (digs r).length = r2 ∧ sizeOk n = true) ∧
    (iSize r 0 = none → numOk (digs r) = false ∨ sizeOk (numB (digs r)) = false) := by
  cases r with
  | nil => exact ⟨fun n r2 h => (by simp [iSize] at h), fun _ => .inl rfl⟩
  | cons c r =>
    rw [digs_cons]
    by_cases hc : isDig c = true
    · rw [if_pos hc]
      have hd := isDig_iff.1 hc
      by_cases h0 : c = 48
      · subst h0
        refine ⟨fun n r2 h => (by simp [iSize, hc] at h), fun _ => ?_⟩
        cases hw : (r.take 2).takeWhile isDig with
        | nil => exact .inr (by decide)
        | cons x y => exact .inl (by simp [numOk])
      · have h48 : c.toNat ≠ 48 := fun e => h0 (UInt8.toNat_inj.1 e)
        have hr1 : 1 ≤ 10 * 0 + (c.toNat - 48) ∧ 10 * 0 + (c.toNat - 48) ≤ 99 := by omega
        have hnum : ∀ y, numOk (c :: y) = true := fun y => by simp [numOk, h0]
        have e1 : iSize (c :: r) 0 = iSize r (c.toNat - 48) := by
          rw [iSize, if_pos hc, if_pos hr1]
          congr 1
          omega
        rw [e1]
        cases r with
        | nil =>
          refine ⟨fun n r2 h => ?_, fun h => ?_⟩
          · rw [iSize, if_neg (by omega)] at h
            simp only [Option.some.injEq, Prod.mk.injEq] at h
            obtain ⟨rfl, rfl⟩ := h
            refine ⟨hnum _, ?_, by simp, by simp [sizeOk]; omega⟩
            simp [numB, hnum, valB]
          · rw [iSize, if_neg (by omega)] at h; cases h
        | cons d r =>
          by_cases hdd : isDig d = true
          · have hd2 := isDig_iff.1 hdd
            have e2 : iSize (d :: r) (c.toNat - 48) = iSize r (10 * (c.toNat - 48) + (d.toNat - 48)) := by
              rw [iSize, if_pos hdd, if_pos (by omega)]
            rw [e2, List.take_succ_cons, List.takeWhile_cons, if_pos hdd]
            cases r with
            | nil =>
              refine ⟨fun n r2 h => ?_, fun h => ?_⟩
              · rw [iSize, if_neg (by omega)] at h
                simp only [Option.some.injEq, Prod.mk.injEq] at h
                obtain ⟨rfl, rfl⟩ := h
                refine ⟨hnum _, ?_, by simp, by simp [sizeOk]; omega⟩
                simp [numB, hnum, valB]
                omega
              · rw [iSize, if_neg (by omega)] at h; cases h
            | cons e r =>
              by_cases he : isDig e = true
              · have he2 := isDig_iff.1 he
                rw [iSize, if_pos he, if_neg (by omega), List.take_succ_cons, List.takeWhile_cons, if_pos he]
                refine ⟨fun n r2 h => (by cases h), fun _ => .inr ?_⟩
                simp [numB, hnum, valB, sizeOk]
                omega
              · have he2 : isDig e = false := by simpa using he
                rw [List.take_succ_cons, List.takeWhile_cons, if_neg he]
                refine ⟨fun n r2 h => ?_, fun h => ?_⟩
                · rw [iSize, if_neg he, if_neg (by omega)] at h
                  simp only [Option.some.injEq, Prod.mk.injEq] at h
                  obtain ⟨rfl, rfl⟩ := h
                  refine ⟨hnum _, ?_, by simp, by simp [sizeOk]; omega⟩
                  simp [numB, hnum, valB]
                  omega
                · rw [iSize, if_neg he, if_neg (by omega)] at h; cases h
          · rw [List.take_succ_cons, List.takeWhile_cons, if_neg hdd]
            refine ⟨fun n r2 h => ?_, fun h => ?_⟩
            · rw [iSize, if_neg hdd, if_neg (by omega)] at h
              simp only [Option.some.injEq, Prod.mk.injEq] at h
              obtain ⟨rfl, rfl⟩ := h
              refine ⟨hnum _, ?_, by simp, by simp [sizeOk]; omega⟩
              simp [numB, hnum, valB]
            · rw [iSize, if_neg hdd, if_neg (by omega)] at h; cases h
    · rw [if_neg hc]
      refine ⟨fun n r2 h => ?_, fun _ => .inl rfl⟩
      rw [iSize, if_neg hc, if_pos rfl] at h
      cases h

/-- A mark stays; a tree only grows. -/
def Grows (s t : SSt) : Prop := s.tree <+: t.tree ∧ (s.bad = true → t.bad = true)
theorem Grows.refl (s : SSt) : Grows s s := ⟨List.prefix_rfl, id⟩
theorem Grows.trans {s t u : SSt} (h : Grows s t) (k : Grows t u) : Grows s u := ⟨h.1.trans k.1, fun x => k.2 (h.2 x)⟩
theorem sKids_grows {seg : SSt → SSt} (h : ∀ s, Grows s (seg s)) : ∀ (g : Nat) (s : SSt), Grows s (sKids seg g s)
  | 0, s => ⟨List.prefix_rfl, fun _ => rfl⟩
  | g + 1, s => by
    unfold sKids
    split
    · exact ⟨List.prefix_rfl, fun _ => rfl⟩
    · next c r _ =>
      split
      · exact (h ⟨r, s.bad, s.tree⟩).trans (sKids_grows h g _)
      · split
        · exact Grows.refl s
        · next hb =>
          split
          · exact ⟨List.prefix_rfl, fun x => absurd x hb⟩
          · exact ⟨List.prefix_rfl, fun _ => rfl⟩
theorem sSeg_grows : ∀ (f : Nat) (s : SSt) (p : Int), Grows s (sSeg f s p)
  | 0, s, p => ⟨List.prefix_rfl, fun _ => rfl⟩
  | f + 1, s, p => by
    unfold sSeg
    split
    · exact ⟨List.prefix_rfl, fun _ => rfl⟩
    · next hb =>
      have hs : s.bad = true → False := fun x => hb (by simp [x])
      split
      · exact ⟨List.prefix_rfl, fun _ => rfl⟩
      · next c r _ =>
        split
        · exact ⟨List.prefix_append _ _, fun x => (hs x).elim⟩
        · next d r3 _ =>
          split
          · have h1 := sSeg_grows f ⟨r3, !numOk (digs r), s.tree ++ [⟨⟨#[c]⟩, numB (digs r), p⟩]⟩ s.tree.length
            have h2 := sKids_grows (seg := fun x => sSeg f x s.tree.length) (fun x => sSeg_grows f x _) ((sSeg f ⟨r3, !numOk (digs r), s.tree ++ [⟨⟨#[c]⟩, numB (digs r), p⟩]⟩ s.tree.length).rest.length + 1) (sSeg f ⟨r3, !numOk (digs r), s.tree ++ [⟨⟨#[c]⟩, numB (digs r), p⟩]⟩ s.tree.length)
            exact ⟨((List.prefix_append _ _).trans h1.1).trans h2.1, fun x => (hs x).elim⟩
          · exact ⟨List.prefix_append _ _, fun x => (hs x).elim⟩

end Go.Proofs.Ytfdcmlmemcbblaa
