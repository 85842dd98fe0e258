/- Joined: Hy. -/
import Derived.Test.YtdbddockmdkmeaaDoorU02
import Derived.Test.YtdbddockmdkmeaaDoorU05
import Derived.Test.YtdbddockmdkmeaaDoorU06
/- The text of numbers tells them, and a text that is one is that of what is read. Plain. -/
namespace Go.Proofs.YtdbddockmdkmeaaDoor
open Go.RowKit

def join12 : List (List UInt8) → List UInt8
  | [] => []
  | x :: r => x ++ r.flatMap fun y => 32 :: y
theorem fmtB_join (xs : List Int) : fmtB xs = join12 (xs.map Lib.itoa) := by
  cases xs with
  | nil => rfl
  | cons x r => simp [fmtB, join12, List.flatMap_map]
theorem join12_cons2 (p q : List UInt8) (ps : List (List UInt8)) : join12 (p :: q :: ps) = p ++ 32 :: join12 (q :: ps) := by
  simp [join12]
theorem join_split : ∀ x : List UInt8, join12 (split12 x) = x
  | [] => rfl
  | c :: r => by
    have ih := join_split r
    rw [split12_cons]
    cases hs : split12 r with
    | nil => exact absurd hs (split12_ne r)
    | cons p ps =>
      rw [hs] at ih
      by_cases hc : c = 32
      · rw [if_pos hc, join12_cons2, ih, hc]
        rfl
      · rw [if_neg hc]
        show join12 ((([c] : List UInt8) ++ p) :: ps) = c :: r
        rw [← ih]
        simp [join12]
theorem split_plain : ∀ p : List UInt8, 32 ∉ p → split12 p = [p]
  | [], _ => rfl
  | c :: r, h => by
    have h1 : c ≠ 32 := fun e => h (by simp [e])
    have ih := split_plain r fun e => h (List.mem_cons_of_mem _ e)
    rw [split12_cons, if_neg h1, ih]
    rfl
theorem split_app : ∀ (p r : List UInt8), 32 ∉ p → split12 (p ++ 32 :: r) = p :: split12 r
  | [], r, _ => by
    show split12 (32 :: r) = _
    rw [split12_cons, if_pos rfl]
  | c :: p, r, h => by
    have h1 : c ≠ 32 := fun e => h (by simp [e])
    have ih := split_app p r fun e => h (List.mem_cons_of_mem _ e)
    show split12 (c :: (p ++ 32 :: r)) = _
    rw [split12_cons, if_neg h1, ih]
    rfl
theorem split_join : ∀ ps : List (List UInt8), ps ≠ [] → (∀ p ∈ ps, 32 ∉ p) → split12 (join12 ps) = ps
  | [], h, _ => absurd rfl h
  | [p], _, h => by
    have e : join12 [p] = p := by simp [join12]
    rw [e]
    exact split_plain p (h p (by simp))
  | p :: q :: ps, _, h => by
    rw [join12_cons2, split_app _ _ (h p (by simp)), split_join (q :: ps) (by simp) fun x hx => h x (List.mem_cons_of_mem _ hx)]
theorem dig_ne12 {c : UInt8} (h : dig12 c = true) : c ≠ 32 ∧ c ≠ 45 := by
  have h1 := dig12_iff.1 h
  constructor
  · intro e; rw [e] at h1; exact absurd h1.1 (by decide)
  · intro e; rw [e] at h1; exact absurd h1.1 (by decide)
theorem itoa_no32 (n : Int) : 32 ∉ Lib.itoa n := by
  have hd : ∀ u, (32 : UInt8) ∉ Lib.decDigits u := fun u hm => (dig_ne12 (List.all_eq_true.1 (dec_said u).1 _ hm)).1 rfl
  unfold Lib.itoa
  split
  · intro h
    rcases List.mem_cons.1 h with h | h
    · exact absurd h (by decide)
    · exact hd _ h
  · exact hd _
theorem dec_inj {u v : Nat} (h : Lib.decDigits u = Lib.decDigits v) : u = v := by
  rw [← (dec_said u).2.1, ← (dec_said v).2.1, h]
theorem dec_no45 {u : Nat} {r : List UInt8} (h : 45 :: r = Lib.decDigits u) : False := by
  have h1 := List.all_eq_true.1 (dec_said u).1 45 (by rw [← h]; simp)
  exact (dig_ne12 h1).2 rfl
theorem itoa_inj {x y : Int} (h : Lib.itoa x = Lib.itoa y) : x = y := by
  unfold Lib.itoa at h
  by_cases hx : x < 0
  · by_cases hy : y < 0
    · rw [if_pos hx, if_pos hy] at h
      injection h with _ h
      have := dec_inj h
      omega
    · rw [if_pos hx, if_neg hy] at h
      exact (dec_no45 h).elim
  · by_cases hy : y < 0
    · rw [if_neg hx, if_pos hy] at h
      exact (dec_no45 h.symm).elim
    · rw [if_neg hx, if_neg hy] at h
      have := dec_inj h
      omega
theorem itoa_dash (x : Int) : Lib.itoa x ≠ [45] := by
  intro h
  unfold Lib.itoa at h
  split at h
  · injection h with _ h
    exact dec_ne12 _ h
  · exact dec_no45 h.symm
theorem map_itoa_inj : ∀ {xs ys : List Int}, xs.map Lib.itoa = ys.map Lib.itoa → xs = ys
  | [], [], _ => rfl
  | [], _ :: _, h => by simp at h
  | _ :: _, [], h => by simp at h
  | a :: xs, b :: ys, h => by
    rw [List.map_cons, List.map_cons] at h
    injection h with h1 h2
    rw [itoa_inj h1, map_itoa_inj h2]
theorem split_fmt {xs : List Int} (h : xs ≠ []) : split12 (fmtB xs) = xs.map Lib.itoa := by
  rw [fmtB_join]
  exact split_join _ (by simpa using h) fun p hp => by
    obtain ⟨n, _, rfl⟩ := List.mem_map.1 hp
    exact itoa_no32 n
theorem txt12_inj {x y : List UInt8} (h : txt12 x = txt12 y) : x = y := by
  have := congrArg (fun b => b.data.toList) h
  simpa [txt12] using this
theorem split_45 : split12 [45] = [[45]] := by decide
/-- Two lists have the same text exactly if they are the same. -/
theorem fmt_inj {xs ys : List Int} : fmtRes xs = fmtRes ys ↔ xs = ys := by
  refine ⟨fun h => ?_, fun h => by rw [h]⟩
  have h := txt12_inj h
  by_cases hx : xs = []
  · by_cases hy : ys = []
    · rw [hx, hy]
    · rw [if_pos hx, if_neg hy] at h
      have h2 := split_fmt hy
      rw [← h, split_45] at h2
      cases ys with
      | nil => exact absurd rfl hy
      | cons y r =>
        rw [List.map_cons] at h2
        injection h2 with h2 _
        exact absurd h2.symm (itoa_dash y)
  · by_cases hy : ys = []
    · rw [if_neg hx, if_pos hy] at h
      have h2 := split_fmt hx
      rw [h, split_45] at h2
      cases xs with
      | nil => exact absurd rfl hx
      | cons y r =>
        rw [List.map_cons] at h2
        injection h2 with h2 _
        exact absurd h2.symm (itoa_dash y)
    · rw [if_neg hx, if_neg hy] at h
      have h2 := split_fmt hx
      rw [h, split_fmt hy] at h2
      exact (map_itoa_inj h2).symm
theorem vals_itoa : ∀ {ps : List ByteArray}, allOk12 ps = true → (vals12 ps).map Lib.itoa = ps.map (·.data.toList)
  | [], _ => rfl
  | p :: ps, h => by
    unfold allOk12 at h
    rw [List.all_cons, Bool.and_eq_true] at h
    have ih := vals_itoa (ps := ps) h.2
    have e : Lib.itoa (val12 p.data.toList : Int) = p.data.toList := by
      unfold Lib.itoa
      rw [if_neg (by omega), Int.toNat_natCast]
      exact dec_ok h.1
    show Lib.itoa (val12 p.data.toList : Int) :: (vals12 ps).map Lib.itoa = _
    rw [e, ih]
    rfl
/-- A text that is read is that of what was read. -/
theorem nums_text {t : ByteArray} (h : numsOk12 t = true) : fmtRes (numsRes12 t) = t := by
  by_cases hd : t = ⟨#[45]⟩
  · have e : numsRes12 t = [] := if_pos hd
    rw [e, hd]
    rfl
  · have h1 : allOk12 (cutRes t 32) = true := by
      unfold numsOk12 at h
      rw [if_neg hd] at h
      exact h
    have e : numsRes12 t = vals12 (cutRes t 32) := by
      unfold numsRes12
      rw [if_neg hd, if_pos h1]
    have hn : vals12 (cutRes t 32) ≠ [] := by
      intro e2
      have h2 := cutRes_split t
      unfold vals12 at e2
      rw [List.map_eq_nil_iff.1 e2] at h2
      exact split12_ne _ h2.symm
    rw [e]
    unfold fmtRes
    rw [if_neg hn, fmtB_join, vals_itoa h1, cutRes_split, join_split]
    rfl

end Go.Proofs.YtdbddockmdkmeaaDoor
