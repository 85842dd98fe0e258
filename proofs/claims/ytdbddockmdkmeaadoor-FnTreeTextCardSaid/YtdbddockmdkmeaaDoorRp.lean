/- The text of a tree read, plain: the program's way (a failure ends the reading) and the reference's (a mark 'bad'); both give the same tree. -/
import Derived.Test.YtdbddockmdkmeaaDoorTv
namespace Go.Proofs.YtdbddockmdkmeaaDoor

def isDig (c : UInt8) : Bool := decide (48 ≤ c.toNat) && decide (c.toNat ≤ 57)
/-- The program reads a size. -/
def iSize : List UInt8 → Nat → Option (Nat × List UInt8)
  | [], n => if n = 0 then none else some (n, [])
  | c :: r, n => if isDig c then (if 1 ≤ 10 * n + (c.toNat - 48) ∧ 10 * n + (c.toNat - 48) ≤ 99 then iSize r (10 * n + (c.toNat - 48)) else none) else if n = 0 then none else some (n, c :: r)
abbrev Read := List UInt8 × List Seg
def iKids (seg : List UInt8 → List Seg → Option Read) : Nat → List UInt8 → List Seg → Option Read
  | 0, _, _ => none
  | g + 1, r, tr => match r with
    | [] => none
    | c :: r' => if c = 44 then (match seg r' tr with
        | none => none
        | some (r2, t2) => iKids seg g r2 t2) else if c = 41 then some (r', tr) else none
/-- The program reads a segment and all below it. -/
def iSeg : Nat → List UInt8 → Int → List Seg → Option Read
  | 0, _, _, _ => none
  | _ + 1, [], _, _ => none
  | f + 1, c :: r, p, tr => if nameOk ⟨#[c]⟩ && !takenB tr ⟨#[c]⟩ then (match iSize r 0 with
      | none => none
      | some (n, r2) => match r2 with
        | [] => some ([], tr ++ [⟨⟨#[c]⟩, n, p⟩])
        | d :: r3 => if d = 40 then (match iSeg f r3 tr.length (tr ++ [⟨⟨#[c]⟩, n, p⟩]) with
            | none => none
            | some (r4, t4) => iKids (fun a b => iSeg f a tr.length b) (r4.length + 1) r4 t4) else some (d :: r3, tr ++ [⟨⟨#[c]⟩, n, p⟩])) else none

/-- The digits that the reference takes, and their number. -/
def digs (r : List UInt8) : List UInt8 := (r.take 3).takeWhile isDig
def valB : List UInt8 → Nat → Nat
  | [], n => n
  | c :: r, n => valB r (n * 10 + (c.toNat - 48))
def numOk : List UInt8 → Bool
  | [] => false
  | c :: r => !(decide (c = 48) && decide (0 < r.length))
def numB (d : List UInt8) : Nat := if numOk d then valB d 0 else 0
structure SSt where
  rest : List UInt8
  bad : Bool
  tree : List Seg
def sKids (seg : SSt → SSt) : Nat → SSt → SSt
  | 0, s => { s with bad := true }
  | g + 1, s => match s.rest with
    | [] => { s with bad := true }
    | c :: r => if c = 44 then sKids seg g (seg ⟨r, s.bad, s.tree⟩) else if s.bad then s else if c = 41 then ⟨r, false, s.tree⟩ else { s with bad := true }
def sSeg : Nat → SSt → Int → SSt
  | 0, s, _ => { s with bad := true }
  | f + 1, s, p => if s.bad || decide (8 < s.tree.length) then { s with bad := true } else match s.rest with
    | [] => { s with bad := true }
    | c :: r => match r.drop (digs r).length with
      | [] => ⟨[], !numOk (digs r), s.tree ++ [⟨⟨#[c]⟩, numB (digs r), p⟩]⟩
      | d :: r3 => if d = 40 then (fun s2 => sKids (fun x => sSeg f x s.tree.length) (s2.rest.length + 1) s2) (sSeg f ⟨r3, !numOk (digs r), s.tree ++ [⟨⟨#[c]⟩, numB (digs r), p⟩]⟩ s.tree.length)
        else ⟨d :: r3, !numOk (digs r), s.tree ++ [⟨⟨#[c]⟩, numB (digs r), p⟩]⟩

/-- Names and sizes are as they must be. -/
def Fine (l : List Seg) : Prop := ∀ j : Nat, ∀ h : j < l.length, nameOk l[j].name = true ∧ takenB (l.take j) l[j].name = false ∧ sizeOk l[j].size = true
theorem Fine.pre {l k : List Seg} (h : Fine k) (hp : l <+: k) : Fine l := by
  obtain ⟨r, rfl⟩ := hp
  intro j hj
  have := h j (by rw [List.length_append]; omega)
  rw [List.getElem_append_left hj, List.take_append_of_le_length (by omega)] at this
  exact this
theorem Fine.snoc {l : List Seg} (h : Fine l) {s : Seg} (h1 : nameOk s.name = true) (h2 : takenB l s.name = false) (h3 : sizeOk s.size = true) : Fine (l ++ [s]) := by
  intro j hj
  rw [List.length_append] at hj
  by_cases hl : j < l.length
  · rw [List.getElem_append_left hl, List.take_append_of_le_length (by omega)]
    exact h j hl
  · have : j = l.length := by simp at hj; omega
    subst this
    simp [h1, h2, h3]
theorem Fine.last {l : List Seg} {s : Seg} (h : Fine (l ++ [s])) : nameOk s.name = true ∧ takenB l s.name = false ∧ sizeOk s.size = true := by
  have := h l.length (by simp)
  simpa using this
theorem len_below : ∀ (n : Nat) (l : List Nat), l.Nodup → (∀ x ∈ l, x < n) → l.length ≤ n
  | 0, l, _, h => by
    cases l with
    | nil => exact Nat.le_refl _
    | cons x l => exact absurd (h x List.mem_cons_self) (by omega)
  | n + 1, l, hd, h => by
    by_cases hm : n ∈ l
    · have h1 := len_below n (l.erase n) (hd.erase n) (fun x hx => by
        have h2 := h x (List.mem_of_mem_erase hx)
        have h3 : x ≠ n := fun e => by subst e; exact (List.Nodup.not_mem_erase hd) hx
        omega)
      rw [List.length_erase_of_mem hm] at h1
      omega
    · have h1 := len_below n l hd (fun x hx => by
        have h2 := h x hx
        have h3 : x ≠ n := fun e => hm (e ▸ hx)
        omega)
      omega
theorem Fine.len {l : List Seg} (h : Fine l) : l.length ≤ 8 := by
  have e : (l.map fun s => (s.name.data.toList.headD 0).toNat - 65).length = l.length := List.length_map ..
  rw [← e]
  refine len_below 8 _ ?_ ?_
  · rw [List.nodup_iff_pairwise_ne, List.pairwise_iff_getElem]
    intro i j hi hj hij he
    simp only [List.length_map] at hi hj
    simp only [List.getElem_map] at he
    obtain ⟨c, hc, c1, c2⟩ := nameOk_one (h i hi).1
    obtain ⟨d, hd, d1, d2⟩ := nameOk_one (h j hj).1
    have h2 := (h j hj).2.1
    rw [hc, hd] at he
    simp only [List.headD_cons] at he
    have hcd : c = d := UInt8.toNat_inj.1 (by omega)
    have h3 : takenB (l.take j) l[j].name = true := by
      unfold takenB
      refine List.any_eq_true.2 ⟨l[i], List.mem_take_iff_getElem.2 ⟨i, by omega, rfl⟩, sameB_iff.2 ?_⟩
      rw [hc, hd, hcd]
    rw [h3] at h2
    cases h2
  · intro x hx
    obtain ⟨s, hs, rfl⟩ := List.mem_map.1 hx
    obtain ⟨i, hi, rfl⟩ := List.getElem_of_mem hs
    obtain ⟨c, hc, c1, c2⟩ := nameOk_one (h i hi).1
    rw [hc]
    simp only [List.headD_cons]
    omega

end Go.Proofs.YtdbddockmdkmeaaDoor
