/- Chapter 9: a trace in which one segment stands for another: plain. -/
import Derived.Test.YtadichddgpojpaaDoorCs
import Derived.Test.YtadichddgpojpaaDoorFa
import Derived.Lib.Replace
import Derived.Lib.ReplaceLaws
import Derived.Lib.SplitLaws
import Derived.Lib.IndexBytes
namespace Go.Proofs.YtadichddgpojpaaDoor
open Go.RowKit

def sw9 (c d u : UInt8) : UInt8 := if u = c then d else u
theorem repl9_one (c d : UInt8) : ∀ s : List UInt8, Lib.replaceK [c] [d] (Lib.count s [c]) s = s.map (sw9 c d)
  | [] => by
    have h : Lib.count [] [c] = 0 := by rw [Lib.count_one]; rfl
    rw [h]
    rfl
  | b :: s => by
    have ih := repl9_one c d s
    rw [Lib.count_one] at ih ⊢
    by_cases hb : b = c
    · subst hb
      have hi : Lib.index (b :: s) [b] = ((0 : Nat) : Int) := by
        rw [Lib.index_one]
        unfold Lib.indexByte
        simp
      rw [show (b :: s).count b = s.count b + 1 by simp, Lib.replaceK_hit _ _ _ _ _ hi]
      show [] ++ [d] ++ Lib.replaceK [b] [d] (s.count b) s = _
      rw [ih]
      simp [sw9]
    · have hc : (b :: s).count c = s.count c := by simp [hb]
      rw [hc]
      cases hk : s.count c with
      | zero =>
        rw [hk] at ih
        have ih' : s = s.map (sw9 c d) := ih
        show b :: s = sw9 c d b :: s.map (sw9 c d)
        rw [← ih']
        simp [sw9, hb]
      | succ k =>
        rw [hk] at ih
        obtain ⟨i, hi⟩ := Lib.index_of_count (s := s) (old := [c]) (by rw [Lib.count_one]; omega)
        have hi2 : Lib.index (b :: s) [c] = ((i + 1 : Nat) : Int) := by
          rw [Lib.index_one] at hi ⊢
          have hbc : (b == c) = false := by simp [hb]
          have hne : (Lib.indexByte s c == -1) = false := by
            rw [beq_eq_false_iff_ne]
            omega
          unfold Lib.indexByte
          rw [hbc, hne, hi]
          simp
        rw [Lib.replaceK_hit _ _ _ _ _ hi] at ih
        rw [Lib.replaceK_hit _ _ _ _ _ hi2]
        show b :: (s.take i ++ [d] ++ Lib.replaceK [c] [d] k (s.drop (i + 1))) = sw9 c d b :: s.map (sw9 c d)
        have ih2 : s.take i ++ [d] ++ Lib.replaceK [c] [d] k (s.drop (i + 1)) = s.map (sw9 c d) := ih
        rw [ih2]
        simp [sw9, hb]
theorem sw9_same (c u : UInt8) : sw9 c c u = u := by
  unfold sw9
  split
  · exact (by assumption : u = c).symm
  · rfl
theorem replAll9 (c d : UInt8) (s : List UInt8) : Lib.replaceAll s [c] [d] = s.map (sw9 c d) := by
  unfold Lib.replaceAll Lib.replace
  by_cases h : c = d
  · subst h
    rw [if_pos (by simp)]
    have : s.map (sw9 c c) = s := by
      rw [show sw9 c c = id from funext fun u => sw9_same c u, List.map_id]
    rw [this]
  · rw [if_neg (by simp [h])]
    have hn : Lib.replaceNum s [c] (-1) = Lib.count s [c] := if_pos (.inl (by decide))
    rw [hn]
    exact repl9_one c d s

def hd9 (s : ByteArray) : UInt8 := s.data.toList.headD 0
def namesOk9 (l : List Seg) (t s x : ByteArray) : Bool := (traceB l t.data.toList).isSome && decide (0 ≤ indexB l s) && decide (0 ≤ indexB l x)
def bytes9 (xs : List UInt8) : ByteArray := ⟨xs.toArray⟩
def namesIn9 (l : List Seg) (t s x : ByteArray) : ByteArray := if namesOk9 l t s x = true then bytes9 (t.data.toList.map (sw9 (hd9 s) (hd9 x))) else ⟨#[]⟩
theorem namesIn9_off {l : List Seg} {t s x : ByteArray} (h : namesOk9 l t s x = false) : namesIn9 l t s x = ⟨#[]⟩ := if_neg (by rw [h]; decide)
theorem one9 {l : List Seg} {s : ByteArray} (h : 0 ≤ indexB l s) : s = ⟨#[hd9 s]⟩ := by
  unfold indexB at h
  by_cases hv : validB l = true
  · rw [if_pos hv] at h
    obtain ⟨j, hj⟩ := Int.eq_ofNat_of_zero_le h
    obtain ⟨x, hx, hn⟩ := seek_name hj
    have hjl := (List.getElem?_eq_some_iff.1 hx).1
    have h1 := (nmAt_one hv hjl).2
    rw [List.getElem?_eq_getElem hjl] at hx
    injection hx with hx
    rw [hx, hn] at h1
    rw [h1]
    rfl
  · rw [if_neg hv] at h
    omega
theorem bytes9_app (xs ys : List UInt8) : bytes9 (xs ++ ys) = bytes9 xs ++ bytes9 ys := by
  apply ByteArray.ext
  rw [ByteArray.data_append]
  unfold bytes9
  apply Array.ext'
  simp
theorem bytes9_self (t : ByteArray) : bytes9 t.data.toList = t := by
  apply ByteArray.ext
  unfold bytes9
  simp
theorem cut9_one (t : ByteArray) (k : Nat) (hk : k < t.data.toList.length) : t.extract k (k + 1) = ⟨#[t.data.toList[k]]⟩ := by
  apply ByteArray.ext
  apply Array.ext'
  have e4 : (t.extract k (k + 1)).data.toList = (t.data.toList.drop k).take 1 := by
    simp [ByteArray.data_extract]
  rw [e4, List.drop_eq_getElem_cons hk]
  rfl
theorem size9 (t : ByteArray) : t.size = t.data.toList.length := by simp

/-- What the reference writes, byte by byte. -/
theorem step9 (t s x : ByteArray) (hs : s = ⟨#[hd9 s]⟩) (hx : x = ⟨#[hd9 x]⟩) (k : Nat) (hk : k < t.size) :
    (((t.extract k (k + 1)).toList == s.toList) = true ∧ bytes9 ((t.data.toList.take k).map (sw9 (hd9 s) (hd9 x))) ++ x = bytes9 ((t.data.toList.take (k + 1)).map (sw9 (hd9 s) (hd9 x)))) ∨
    (((t.extract k (k + 1)).toList == s.toList) = false ∧ bytes9 ((t.data.toList.take k).map (sw9 (hd9 s) (hd9 x))) ++ t.extract k (k + 1) = bytes9 ((t.data.toList.take (k + 1)).map (sw9 (hd9 s) (hd9 x)))) := by
  rw [size9] at hk
  rw [cut9_one t k hk, List.take_succ_eq_append_getElem hk, List.map_append, bytes9_app]
  generalize hd9 s = c at *
  generalize hd9 x = d at *
  subst hs hx
  generalize t.data.toList[k] = u
  by_cases hu : u = c
  · subst hu
    refine .inl ⟨by simp, ?_⟩
    congr 1
    simp [sw9, bytes9]
  · refine .inr ⟨?_, ?_⟩
    · rw [beq_eq_false_iff_ne]
      intro e
      have e2 : (⟨#[u]⟩ : ByteArray).toList = [u] := ByteArray.toList_eq _
      have e3 : (⟨#[c]⟩ : ByteArray).toList = [c] := ByteArray.toList_eq _
      rw [e2, e3] at e
      injection e with e
      exact hu e
    · congr 1
      simp [sw9, bytes9, hu]

end Go.Proofs.YtadichddgpojpaaDoor
