/- The pieces of a text between spaces, plain: by the first space, again and again. -/
import Derived.Test.YtdbddockmdkmeaaDoorMm
import Derived.Test.YtdbddockmdkmeaaDoorMj
import Derived.Lib.Bytealg
namespace Go.Proofs.YtdbddockmdkmeaaDoor
open Go.RowKit

/-- Signs put ahead of the first piece. -/
def ahead12 (y : List UInt8) : List (List UInt8) → List (List UInt8)
  | [] => [y]
  | p :: ps => (y ++ p) :: ps
/-- The pieces of signs. -/
def split12 : List UInt8 → List (List UInt8)
  | [] => [[]]
  | c :: r => if c = 32 then [] :: split12 r else ahead12 [c] (split12 r)
theorem split12_cons (c : UInt8) (r : List UInt8) : split12 (c :: r) = if c = 32 then [] :: split12 r else ahead12 [c] (split12 r) := rfl
theorem index12_cons (b : UInt8) (l : List UInt8) (c : UInt8) : Lib.indexByte (b :: l) c = if b == c then 0 else if Lib.indexByte l c == -1 then -1 else Lib.indexByte l c + 1 := rfl
theorem split12_ne (x : List UInt8) : split12 x ≠ [] := by
  cases x with
  | nil => simp [split12]
  | cons c r =>
    rw [split12_cons]
    split
    · simp
    · cases split12 r <;> simp [ahead12]
theorem ahead12_app (x y : List UInt8) (ps : List (List UInt8)) (h : ps ≠ []) : ahead12 x (ahead12 y ps) = ahead12 (x ++ y) ps := by
  cases ps with
  | nil => exact absurd rfl h
  | cons p r => simp [ahead12]
theorem ahead12_nil {ps : List (List UInt8)} (h : ps ≠ []) : ahead12 [] ps = ps := by
  cases ps with
  | nil => exact absurd rfl h
  | cons p r => simp [ahead12]
/-- By the first space. -/
theorem split_first : ∀ x : List UInt8, split12 x = if Lib.indexByte x 32 < 0 then [x] else x.take (Lib.indexByte x 32).toNat :: split12 (x.drop ((Lib.indexByte x 32).toNat + 1))
  | [] => rfl
  | c :: r => by
    have ih := split_first r
    have hg := Lib.indexByte_ge r 32
    rw [split12_cons, index12_cons]
    by_cases hc : c = 32
    · subst hc
      simp
    · have hb : (c == 32) = false := by rw [beq_eq_false_iff_ne]; exact hc
      rw [if_neg hc, hb]
      simp only [Bool.false_eq_true, if_false]
      by_cases hn : Lib.indexByte r 32 < 0
      · have e : (Lib.indexByte r 32 == -1) = true := by
          have : Lib.indexByte r 32 = -1 := by omega
          rw [this]; rfl
        rw [if_pos hn] at ih
        rw [e, ih]
        rfl
      · have e : (Lib.indexByte r 32 == -1) = false := by rw [beq_eq_false_iff_ne]; omega
        rw [if_neg hn] at ih
        rw [e, ih]
        simp only [Bool.false_eq_true, if_false]
        rw [if_neg (by omega)]
        obtain ⟨k, hk⟩ := Int.eq_ofNat_of_zero_le (show 0 ≤ Lib.indexByte r 32 by omega)
        rw [hk]
        simp only [Int.toNat_natCast]
        have e2 : ((k : Int) + 1).toNat = k + 1 := by omega
        rw [e2]
        simp [ahead12]
theorem index_le : ∀ (x : List UInt8), Lib.indexByte x 32 < x.length
  | [] => by decide
  | c :: r => by
    have ih := index_le r
    rw [index12_cons, List.length_cons]
    split
    · omega
    · split <;> omega
theorem ext12 (s : ByteArray) (a b : Nat) : (s.extract a b).data.toList = (s.data.toList.take b).drop a := by rw [List.drop_take]; simp
/-- The reference's pieces are those. -/
theorem cut_split (s : ByteArray) : ∀ i, i ≤ s.size → split12 s.data.toList = (cutSt s 32 i).1.map (·.data.toList) ++ ahead12 ((s.data.toList.take i).drop (cutSt s 32 i).2) (split12 (s.data.toList.drop i))
  | 0, _ => by
    show _ = [] ++ ahead12 ((s.data.toList.take 0).drop 0) (split12 (s.data.toList.drop 0))
    simp only [List.take_zero, List.drop_zero, List.drop_nil, List.nil_append]
    rw [ahead12_nil (split12_ne _)]
  | i + 1, hi => by
    have ih := cut_split s i (by omega)
    have hlt : i < s.data.toList.length := by
      have : s.data.toList.length = s.size := rfl
      omega
    have hd : s.data.toList.drop i = s.data.toList[i] :: s.data.toList.drop (i + 1) := List.drop_eq_getElem_cons hlt
    have hat : s.data.toList.getD i 0 = s.data.toList[i] := by rw [List.getD_eq_getElem?_getD, List.getElem?_eq_getElem hlt]; rfl
    have hst := (cutSt_le s 32 i).1
    rw [hd] at ih
    rw [ih]
    show _ = (if (i == s.size || s.data.toList.getD i 0 == 32) = true then ((cutSt s 32 i).1 ++ [s.extract (cutSt s 32 i).2 i], i + 1) else cutSt s 32 i).1.map (·.data.toList) ++ ahead12 ((s.data.toList.take (i + 1)).drop (if (i == s.size || s.data.toList.getD i 0 == 32) = true then ((cutSt s 32 i).1 ++ [s.extract (cutSt s 32 i).2 i], i + 1) else cutSt s 32 i).2) (split12 (s.data.toList.drop (i + 1)))
    have hz : (i == s.size) = false := by rw [beq_eq_false_iff_ne]; omega
    rw [hz, Bool.false_or, hat]
    by_cases hc : s.data.toList[i] = 32
    · have e : (s.data.toList[i] == 32) = true := by rw [hc]; rfl
      rw [if_pos e, split12_cons, if_pos hc]
      have e2 : (s.data.toList.take (i + 1)).drop (i + 1) = [] := List.drop_eq_nil_of_le (by rw [List.length_take]; omega)
      show _ = List.map (·.data.toList) ((cutSt s 32 i).1 ++ [s.extract (cutSt s 32 i).2 i]) ++ ahead12 ((s.data.toList.take (i + 1)).drop (i + 1)) _
      rw [e2, ahead12_nil (split12_ne _), List.map_append, List.append_assoc]
      congr 1
      show ahead12 _ ([] :: _) = [(s.extract (cutSt s 32 i).2 i).data.toList] ++ _
      rw [ext12]
      simp [ahead12]
    · have e : (s.data.toList[i] == 32) = false := by rw [beq_eq_false_iff_ne]; exact hc
      rw [if_neg (by rw [e]; decide)]
      rw [split12_cons, if_neg hc, ahead12_app _ _ _ (split12_ne _)]
      congr 2
      rw [List.take_succ_eq_append_getElem hlt, List.drop_append_of_le_length (by rw [List.length_take]; omega)]
theorem cutRes_split (s : ByteArray) : (cutRes s 32).map (·.data.toList) = split12 s.data.toList := by
  have h := cut_split s s.size (Nat.le_refl _)
  have hl : s.data.toList.length = s.size := rfl
  have e0 : s.data.toList.drop s.size = [] := List.drop_eq_nil_of_le (by omega)
  rw [e0] at h
  rw [h]
  unfold cutRes
  show (if (s.size == s.size || s.data.toList.getD s.size 0 == 32) = true then ((cutSt s 32 s.size).1 ++ [s.extract (cutSt s 32 s.size).2 s.size], s.size + 1) else cutSt s 32 s.size).1.map (·.data.toList) = _
  rw [if_pos (by simp), List.map_append]
  congr 1
  show [(s.extract (cutSt s 32 s.size).2 s.size).data.toList] = ahead12 _ [[]]
  rw [ext12]
  simp [ahead12]
theorem bytes_inj12 {a b : ByteArray} (h : a.data.toList = b.data.toList) : a = b := by
  apply ByteArray.ext
  exact Array.toList_inj.1 h
theorem map_inj12 : ∀ {xs ys : List ByteArray}, xs.map (·.data.toList) = ys.map (·.data.toList) → xs = ys
  | [], [], _ => rfl
  | [], _ :: _, h => by simp at h
  | _ :: _, [], h => by simp at h
  | a :: xs, b :: ys, h => by
    rw [List.map_cons, List.map_cons] at h
    injection h with h1 h2
    rw [bytes_inj12 h1, map_inj12 h2]
/-- By the first space, for the reference's pieces. -/
theorem cutRes_none {s : ByteArray} (h : Lib.indexByte s.data.toList 32 < 0) : cutRes s 32 = [s] := by
  refine map_inj12 ?_
  rw [cutRes_split, split_first, if_pos h]
  rfl
theorem cutRes_some {s : ByteArray} {i : Nat} (h : Lib.indexByte s.data.toList 32 = (i : Int)) : cutRes s 32 = s.extract 0 i :: cutRes (s.extract (i + 1) s.size) 32 := by
  refine map_inj12 ?_
  have hi := index_le s.data.toList
  have hl : s.data.toList.length = s.size := rfl
  have e : s.data.toList.take s.size = s.data.toList := List.take_of_length_le (by omega)
  rw [cutRes_split, split_first, if_neg (by omega), h, Int.toNat_natCast, List.map_cons, cutRes_split, ext12, ext12, List.drop_zero, e]

end Go.Proofs.YtdbddockmdkmeaaDoor
