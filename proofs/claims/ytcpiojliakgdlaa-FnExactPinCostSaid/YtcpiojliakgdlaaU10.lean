/- Joined: Ea Fa. -/
import Derived.Test.YtcpiojliakgdlaaU06
import Derived.Test.YtcpiojliakgdlaaU09
import Derived.Test.YtcpiojliakgdlaaU07
import Derived.Test.YtcpiojliakgdlaaU03
/- What stays: pins, their room, their loads. No program. -/
namespace Go.Proofs.Ytcpiojliakgdlaa
open Go.RowKit

/-- Pins: some segments but the root, each once, in the order of the tree. -/
def Pins10 (l : List Seg) (T : List Nat) : Prop := T.Pairwise (· < ·) ∧ ∀ j ∈ T, 0 < j ∧ j < l.length
theorem Pins10.lt {l : List Seg} {T : List Nat} (h : Pins10 l T) : ∀ j ∈ T, j < l.length := fun j hj => (h.2 j hj).2
theorem Pins10.all {l : List Seg} {T : List Nat} (h : Pins10 l T) (hn : 0 < l.length) : (0 :: T).Pairwise (· < ·) ∧ ∀ j ∈ 0 :: T, j < l.length := by
  refine ⟨List.pairwise_cons.2 ⟨fun j hj => (h.2 j hj).1, h.1⟩, fun j hj => ?_⟩
  rcases List.mem_cons.1 hj with rfl | hj
  · exact hn
  · exact h.lt j hj
theorem Pins10.nil {l : List Seg} : Pins10 l [] := ⟨List.Pairwise.nil, fun _ h => by cases h⟩
theorem asc_len10 : ∀ {T : List Nat} {a n : Nat}, T.Pairwise (· < ·) → (∀ j ∈ T, a ≤ j ∧ j < n) → T.length ≤ n - a
  | [], _, _, _, _ => Nat.zero_le _
  | t :: T, a, n, h, hj => by
    obtain ⟨h1, h2⟩ := List.pairwise_cons.1 h
    have h3 := asc_len10 (a := t + 1) h2 (fun j hm => ⟨h1 j hm, (hj j (List.mem_cons_of_mem _ hm)).2⟩)
    have h4 := hj t List.mem_cons_self
    rw [List.length_cons]
    omega
theorem Pins10.len {l : List Seg} {T : List Nat} (h : Pins10 l T) : T.length + 1 ≤ l.length ∨ T = [] := by
  cases hT : T with
  | nil => exact .inr rfl
  | cons t U =>
    have h1 := asc_len10 (a := 1) h.1 (fun j hj => ⟨(h.2 j hj).1, (h.2 j hj).2⟩)
    have h2 := (h.2 t (by rw [hT]; exact List.mem_cons_self)).2
    rw [hT] at h1
    left
    omega

/-- Which segments are among some names, and their names in the order of the tree. -/
def inS10 (l : List Seg) (bs : List UInt8) (i : Nat) : Bool := decide (byteOf l i ∈ bs)
def sortS10 (l : List Seg) (bs : List UInt8) : ByteArray := namesAt l (selIx (inS10 l bs) l.length)
def pinT10 (l : List Seg) (s : ByteArray) : List Nat := selIx (inS10 l s.data.toList) l.length
def pinOk10 (l : List Seg) (s : ByteArray) : Bool := validB l && (sameB (sortS10 l s.data.toList) s && !inS10 l s.data.toList 0)
theorem pinOk10_bad {l : List Seg} (s : ByteArray) (h : validB l = false) : pinOk10 l s = false := by unfold pinOk10; rw [h]; rfl
theorem selIx_same10 {f g : Nat → Bool} {n : Nat} (h : ∀ i, i < n → f i = g i) : selIx f n = selIx g n := by
  unfold selIx
  exact List.filter_congr fun i hi => h i (List.mem_range.1 hi)
theorem selIx_asc10 (f : Nat → Bool) (n : Nat) : (selIx f n).Pairwise (· < ·) := by
  unfold selIx
  exact List.Pairwise.filter _ List.pairwise_lt_range
theorem selIx_mem10 {f : Nat → Bool} {n j : Nat} : j ∈ selIx f n ↔ j < n ∧ f j = true := by
  unfold selIx
  rw [List.mem_filter, List.mem_range]
theorem pinOk10_pins {l : List Seg} {s : ByteArray} (h : pinOk10 l s = true) : validB l = true ∧ Pins10 l (pinT10 l s) ∧ namesAt l (pinT10 l s) = s := by
  unfold pinOk10 at h
  rw [Bool.and_eq_true, Bool.and_eq_true] at h
  obtain ⟨hv, h1, h2⟩ := h
  refine ⟨hv, ⟨selIx_asc10 _ _, fun j hj => ?_⟩, sameB_iff.1 h1⟩
  obtain ⟨hj1, hj2⟩ := selIx_mem10.1 hj
  refine ⟨?_, hj1⟩
  rcases Nat.eq_zero_or_pos j with rfl | hp
  · rw [hj2] at h2
    cases h2
  · exact hp
theorem inS10_names {l : List Seg} (hv : validB l = true) {T : List Nat} (hT : ∀ j ∈ T, j < l.length) {i : Nat} (hi : i < l.length) : inS10 l (namesAt l T).data.toList i = decide (i ∈ T) := by
  unfold inS10
  rw [namesAt_map hv T hT, decide_eq_decide, List.mem_map]
  constructor
  · rintro ⟨j, hj, he⟩
    rw [← byteOf_inj hv (hT j hj) hi he]
    exact hj
  · intro h
    exact ⟨i, h, rfl⟩
theorem pins_of10 {l : List Seg} (hv : validB l = true) {T : List Nat} (hT : Pins10 l T) : pinOk10 l (namesAt l T) = true ∧ pinT10 l (namesAt l T) = T := by
  have h0 : 0 < l.length := by have := (valid_all hv).2.2; omega
  have h1 : pinT10 l (namesAt l T) = T := by
    unfold pinT10
    rw [selIx_same10 (fun i hi => inS10_names hv hT.lt hi)]
    exact sel_mem hT.1 hT.lt
  refine ⟨?_, h1⟩
  unfold pinOk10
  rw [hv, inS10_names hv hT.lt h0]
  have h2 : sortS10 l (namesAt l T).data.toList = namesAt l T := by
    show namesAt l (pinT10 l (namesAt l T)) = _
    rw [h1]
  rw [sameB_iff.2 h2, decide_eq_false (fun h => Nat.lt_irrefl 0 (hT.2 0 h).1)]
  rfl
/-- What the program keeps of the segments that a text names. -/
def kept10 (js : List Nat) (j : Nat) : Bool := (memF js j || decide (j = 0)) && !decide (j = 0)
theorem pins_impl10 {l : List Seg} (hv : validB l = true) (s : ByteArray) : (namedOk l s.data.toList && sameB (namesAt l (selIx (kept10 (namedJs l s.data.toList)) l.length)) s) = pinOk10 l s := by
  have h0 : 0 < l.length := by have := (valid_all hv).2.2; omega
  rw [Bool.eq_iff_iff, Bool.and_eq_true]
  constructor
  · rintro ⟨h1, h2⟩
    have h3 := sameB_iff.1 h2
    have h4 : Pins10 l (selIx (kept10 (namedJs l s.data.toList)) l.length) := by
      refine ⟨selIx_asc10 _ _, fun j hj => ?_⟩
      obtain ⟨hj1, hj2⟩ := selIx_mem10.1 hj
      refine ⟨?_, hj1⟩
      rcases Nat.eq_zero_or_pos j with rfl | hp
      · unfold kept10 at hj2
        simp at hj2
      · exact hp
    have h5 := (pins_of10 hv h4).1
    rwa [h3] at h5
  · intro h
    obtain ⟨_, h1, h2⟩ := pinOk10_pins h
    obtain ⟨h3, h4⟩ := named_names hv _ h1.lt
    rw [h2] at h3 h4
    refine ⟨h3, sameB_iff.2 ?_⟩
    rw [h4]
    have h5 : selIx (kept10 (pinT10 l s)) l.length = pinT10 l s := by
      rw [selIx_same10 (g := fun j => decide (j ∈ pinT10 l s)) (fun i _ => ?_)]
      · exact sel_mem h1.1 h1.lt
      · unfold kept10 memF
        by_cases h0 : i = 0
        · subst h0
          rw [decide_eq_false (fun h => Nat.lt_irrefl 0 (h1.2 0 h).1)]
          rfl
        · rw [decide_eq_false h0]
          simp
    rw [h5, h2]
theorem pin_set10 {l : List Seg} {s : ByteArray} (h : pinOk10 l s = true) : namedJs l s.data.toList = pinT10 l s := by
  obtain ⟨hv, h1, h2⟩ := pinOk10_pins h
  have h3 := (named_names hv _ h1.lt).2
  rwa [h2] at h3

/-- The segments of a path that do not stay. -/
def outT10 (T P : List Nat) : List Nat := P.filter (fun j => decide (j ∉ 0 :: T))
def deep10 (l : List Seg) (T : List Nat) : Nat → Int
  | 0 => 0
  | k + 1 => max (deep10 l T k) (szs l (outT10 T (rp l k)))
def room10 (l : List Seg) (T : List Nat) : Int := sizeAt l 0 + szs l T + deep10 l T l.length
theorem szs_pos10 {l : List Seg} (hv : validB l = true) {js : List Nat} (hj : ∀ j ∈ js, j < l.length) : 0 ≤ szs l js ∧ szs l js ≤ 99 * (js.length : Int) := by
  have h1 := szs_bd hv js hj
  omega
theorem outT10_mem {T P : List Nat} {j : Nat} : j ∈ outT10 T P ↔ j ∈ P ∧ j ∉ 0 :: T := by
  unfold outT10
  rw [List.mem_filter, decide_eq_true_iff]
theorem outT10_lt {l : List Seg} (hd : Down l l.length) (T : List Nat) {i : Nat} (hi : i < l.length) : ∀ j ∈ outT10 T (rp l i), j < l.length := fun j hj => by
  have := rp_le hd i hi j (outT10_mem.1 hj).1
  omega
theorem outT10_len {l : List Seg} (T : List Nat) {i : Nat} (hi : i < l.length) : (outT10 T (rp l i)).length ≤ l.length := by
  have h1 : (outT10 T (rp l i)).length ≤ (rp l i).length := List.length_filter_le _ _
  have h2 := rootPath_len l (i + 1) i
  have h3 : (rp l i).length = (rootPath l (i + 1) i).length := rfl
  omega
theorem deep10_bd {l : List Seg} (hv : validB l = true) (T : List Nat) : ∀ k, k ≤ l.length → 0 ≤ deep10 l T k ∧ deep10 l T k ≤ 792
  | 0, _ => by simp [deep10]
  | k + 1, hk => by
    have h1 := deep10_bd hv T k (by omega)
    have h2 := szs_pos10 hv (outT10_lt (valid_all hv).1.down T (show k < l.length by omega))
    have h3 := outT10_len T (show k < l.length by omega)
    have h4 := (valid_all hv).2.1
    unfold deep10
    omega
theorem room10_bd {l : List Seg} (hv : validB l = true) {T : List Nat} (hT : Pins10 l T) : 0 ≤ szs l T ∧ szs l T ≤ 792 ∧ 0 ≤ room10 l T ∧ room10 l T ≤ 2000 := by
  have h1 := deep10_bd hv T l.length (Nat.le_refl _)
  have h2 := szs_pos10 hv hT.lt
  have h3 := (valid_all hv).2.1
  have h4 := sizeAt_bd hv (show 0 < l.length by have := (valid_all hv).2.2; omega)
  have h5 : T.length ≤ l.length := by
    rcases hT.len with h | h
    · omega
    · rw [h]; exact Nat.zero_le _
  unfold room10
  omega

/-- A size for each segment: none for what stays. -/
def szZ10 (l : List Seg) (S : Nat → Bool) (j : Nat) : Int := if S j = true then 0 else sizeAt l j
def enZ10 (l : List Seg) (sz : Nat → Int) (i : Nat) : Int := ((rp l i).map sz).sum
theorem enZ10_root {l : List Seg} {sz : Nat → Int} {i : Nat} (hp : parAt l i < 0) : enZ10 l sz i = sz i := by
  unfold enZ10
  rw [rp_root hp]
  simp
theorem enZ10_step {l : List Seg} {sz : Nat → Int} (hd : Down l l.length) {i p : Nat} (hi : i < l.length) (hp : parAt l i = (p : Int)) : enZ10 l sz i = enZ10 l sz p + sz i := by
  unfold enZ10
  rw [rp_step hd hi hp, List.map_append, List.sum_append_int]
  simp
theorem enZ10_bd {l : List Seg} {sz : Nat → Int} (hv : validB l = true) (hs : ∀ j, j < l.length → 0 ≤ sz j ∧ sz j ≤ 99) : ∀ i, i < l.length → 0 ≤ enZ10 l sz i ∧ enZ10 l sz i ≤ 99 * ((i : Int) + 1) :=
  rp_ind (valid_all hv).1.down (fun i hi hp => by
    have h1 := hs i hi
    rw [enZ10_root hp]
    omega) (fun i p hi hpi hp ih => by
    have h1 := hs i hi
    rw [enZ10_step (valid_all hv).1.down hi hp]
    omega)
theorem enZ10_small {l : List Seg} {sz : Nat → Int} (hv : validB l = true) (hs : ∀ j, j < l.length → 0 ≤ sz j ∧ sz j ≤ 99) {i : Nat} (hi : i < l.length) : 0 ≤ enZ10 l sz i ∧ enZ10 l sz i ≤ 792 := by
  have h1 := enZ10_bd hv hs i hi
  have h2 := (valid_all hv).2.1
  omega
def lastZ10 (l : List Seg) (sz : Nat → Int) : Nat → Nat
  | 0 => 0
  | k + 1 => if enZ10 l sz (lastZ10 l sz k) < enZ10 l sz (k + 1) then k + 1 else lastZ10 l sz k
theorem lastZ10_le (l : List Seg) (sz : Nat → Int) : ∀ k, lastZ10 l sz k ≤ k
  | 0 => Nat.le_refl 0
  | k + 1 => by
    have := lastZ10_le l sz k
    unfold lastZ10
    split <;> omega
theorem enZ10_out {l : List Seg} (T : List Nat) (i : Nat) : enZ10 l (szZ10 l (memF (0 :: T))) i = szs l (outT10 T (rp l i)) := by
  unfold enZ10 szs outT10
  generalize rp l i = P
  induction P with
  | nil => rfl
  | cons j P ih =>
    rw [List.map_cons, List.sum_cons, ih, List.filter_cons]
    unfold szZ10 memF
    by_cases h : j ∈ 0 :: T
    · rw [if_pos (decide_eq_true h), if_neg (by rw [decide_eq_true_iff]; exact fun h2 => h2 h)]
      omega
    · rw [if_neg (by rw [decide_eq_true_iff]; exact h), if_pos (decide_eq_true h), List.map_cons, List.sum_cons]
theorem szZ10_bd {l : List Seg} (hv : validB l = true) (S : Nat → Bool) : ∀ j, j < l.length → 0 ≤ szZ10 l S j ∧ szZ10 l S j ≤ 99 := fun j hj => by
  have h1 := sizeAt_bd hv hj
  unfold szZ10
  split <;> omega
theorem lastZ10_room {l : List Seg} (hv : validB l = true) (T : List Nat) : ∀ k, k < l.length → enZ10 l (szZ10 l (memF (0 :: T))) (lastZ10 l (szZ10 l (memF (0 :: T))) k) = deep10 l T (k + 1)
  | 0, hk => by
    have h1 := enZ10_small hv (szZ10_bd hv (memF (0 :: T))) hk
    have h2 := enZ10_out (l := l) T 0
    show enZ10 l _ 0 = max 0 (szs l (outT10 T (rp l 0)))
    omega
  | k + 1, hk => by
    have h1 := lastZ10_room hv T k (by omega)
    have h2 := enZ10_out (l := l) T (k + 1)
    have h3 : deep10 l T (k + 1 + 1) = max (deep10 l T (k + 1)) (szs l (outT10 T (rp l (k + 1)))) := rfl
    unfold lastZ10
    split <;> omega

/-- More pins never take less room. -/
theorem out_step10 (l : List Seg) (T : List Nat) (x : Nat) (hx : 0 ≤ sizeAt l x) : ∀ P : List Nat, P.Pairwise (· < ·) → szs l (outT10 T P) ≤ szs l (outT10 (T ++ [x]) P) + sizeAt l x ∧ (x ∉ P → outT10 (T ++ [x]) P = outT10 T P)
  | [], _ => ⟨by show (0 : Int) ≤ 0 + _; omega, fun _ => rfl⟩
  | j :: P, hp => by
    obtain ⟨h1, h2⟩ := List.pairwise_cons.1 hp
    obtain ⟨h3, h4⟩ := out_step10 l T x hx P h2
    have hc : ∀ U, outT10 U (j :: P) = if j ∉ 0 :: U then j :: outT10 U P else outT10 U P := fun U => by
      unfold outT10
      rw [List.filter_cons]
      by_cases h : j ∉ 0 :: U
      · rw [if_pos h, if_pos (decide_eq_true h)]
      · rw [if_neg h, if_neg (by rw [decide_eq_true_iff]; exact h)]
    have hs : ∀ U, szs l (j :: U) = sizeAt l j + szs l U := fun U => rfl
    by_cases e : j = x
    · subst e
      have hn : j ∉ P := fun h => Nat.lt_irrefl j (h1 j h)
      refine ⟨?_, fun h => absurd List.mem_cons_self h⟩
      rw [hc (T ++ [j]), if_neg (by simp), h4 hn, hc T]
      split
      · rw [hs]; omega
      · omega
    · have hm : j ∉ 0 :: (T ++ [x]) ↔ j ∉ 0 :: T := by simp [e]
      refine ⟨?_, fun h => ?_⟩
      · rw [hc, hc]
        by_cases h : j ∉ 0 :: T
        · rw [if_pos h, if_pos (hm.2 h), hs, hs]; omega
        · rw [if_neg h, if_neg (fun h5 => h (hm.1 h5))]; exact h3
      · rw [hc, hc, h4 (fun h5 => h (List.mem_cons_of_mem _ h5))]
        by_cases h : j ∉ 0 :: T
        · rw [if_pos h, if_pos (hm.2 h)]
        · rw [if_neg h, if_neg (fun h5 => h (hm.1 h5))]
theorem deep_step10 {l : List Seg} (hd : Down l l.length) (T : List Nat) (x : Nat) (hx : 0 ≤ sizeAt l x) : ∀ k, k ≤ l.length → deep10 l T k ≤ deep10 l (T ++ [x]) k + sizeAt l x
  | 0, _ => by show (0 : Int) ≤ 0 + _; omega
  | k + 1, hk => by
    have h1 := deep_step10 hd T x hx k (by omega)
    have h2 := (out_step10 l T x hx (rp l k) (rp_asc hd k (by omega))).1
    unfold deep10
    omega
theorem room10_mono {l : List Seg} (hv : validB l = true) (T : List Nat) {x : Nat} (hx : x < l.length) : room10 l T ≤ room10 l (T ++ [x]) := by
  have h1 := deep_step10 (valid_all hv).1.down T x (by have := sizeAt_bd hv hx; omega) l.length (Nat.le_refl _)
  have h2 := szs_snoc l T x
  unfold room10
  omega

/-- All pins that begin with some and go on with others, in their order. -/
def allR10 (fits : List Nat → Bool) : List Nat → List Nat → List (List Nat)
  | _, [] => []
  | T, x :: xs => ((if fits (T ++ [x]) = true then [T ++ [x]] else []) ++ allR10 fits (T ++ [x]) xs) ++ allR10 fits T xs
def all10 (fits : List Nat → Bool) (T xs : List Nat) : List (List Nat) := (if fits T = true then [T] else []) ++ allR10 fits T xs
theorem allR10_cons (fits : List Nat → Bool) (T : List Nat) (x : Nat) (xs : List Nat) : allR10 fits T (x :: xs) = all10 fits (T ++ [x]) xs ++ allR10 fits T xs := rfl
theorem allR10_len (fits : List Nat → Bool) : ∀ (xs T : List Nat), (allR10 fits T xs).length + 1 ≤ 2 ^ xs.length
  | [], _ => Nat.le_refl 1
  | x :: xs, T => by
    have h1 := allR10_len fits xs (T ++ [x])
    have h2 := allR10_len fits xs T
    rw [allR10_cons, all10, List.length_append, List.length_append, List.length_cons, Nat.pow_succ]
    have h3 : (if fits (T ++ [x]) = true then [T ++ [x]] else []).length ≤ 1 := by split <;> simp
    omega
theorem all10_len (fits : List Nat → Bool) (xs T : List Nat) : (all10 fits T xs).length ≤ 2 ^ xs.length := by
  have h1 := allR10_len fits xs T
  have h3 : (if fits T = true then [T] else []).length ≤ 1 := by split <;> simp
  rw [all10, List.length_append]
  omega
theorem allR10_mem {fits : List Nat → Bool} : ∀ (xs T U : List Nat), U ∈ allR10 fits T xs → fits U = true ∧ ∃ V, V.Sublist xs ∧ U = T ++ V
  | [], _, _, h => by cases h
  | x :: xs, T, U, h => by
    rw [allR10_cons, all10] at h
    rcases List.mem_append.1 h with h | h
    · rcases List.mem_append.1 h with h | h
      · by_cases hf : fits (T ++ [x]) = true
        · rw [if_pos hf, List.mem_singleton] at h
          subst h
          exact ⟨hf, [x], List.singleton_sublist.2 List.mem_cons_self, rfl⟩
        · rw [if_neg hf] at h; cases h
      · obtain ⟨h1, V, h2, h3⟩ := allR10_mem xs _ U h
        exact ⟨h1, x :: V, h2.cons_cons x, by rw [h3]; simp⟩
    · obtain ⟨h1, V, h2, h3⟩ := allR10_mem xs _ U h
      exact ⟨h1, V, h2.cons x, h3⟩
theorem all10_mem {fits : List Nat → Bool} {xs T U : List Nat} (h : U ∈ all10 fits T xs) : fits U = true ∧ ∃ V, V.Sublist xs ∧ U = T ++ V := by
  rcases List.mem_append.1 h with h | h
  · by_cases hf : fits T = true
    · rw [if_pos hf, List.mem_singleton] at h
      subst h
      exact ⟨hf, [], List.nil_sublist _, by simp⟩
    · rw [if_neg hf] at h; cases h
  · exact allR10_mem xs T U h
/-- All segments but the root, by their indices. -/
def rest10 (n : Nat) : List Nat := (List.range (n - 1)).map (· + 1)
theorem rest10_asc (n : Nat) : (rest10 n).Pairwise (· < ·) ∧ ∀ j ∈ rest10 n, 0 < j ∧ j < n := by
  unfold rest10
  refine ⟨?_, fun j hj => ?_⟩
  · rw [List.pairwise_map]
    exact List.pairwise_lt_range.imp (by intro a b h; omega)
  · obtain ⟨y, hy, rfl⟩ := List.mem_map.1 hj
    have := List.mem_range.1 hy
    omega
/-- All pins that fit in a room. -/
def fits10 (l : List Seg) (room : Int) (T : List Nat) : Bool := decide (room10 l T ≤ room)
def pinsAll10 (l : List Seg) (room : Int) : List (List Nat) := all10 (fits10 l room) [] (rest10 l.length)
theorem pinsAll10_pins {l : List Seg} {room : Int} {U : List Nat} (h : U ∈ pinsAll10 l room) : Pins10 l U ∧ room10 l U ≤ room := by
  obtain ⟨h1, V, h2, rfl⟩ := all10_mem h
  obtain ⟨h3, h4⟩ := rest10_asc l.length
  exact ⟨⟨List.Pairwise.sublist h2 h3, fun j hj => h4 j (h2.subset hj)⟩, of_decide_eq_true h1⟩
theorem pinsAll10_len {l : List Seg} (hv : validB l = true) (room : Int) : (pinsAll10 l room).length ≤ 128 := by
  have h1 := all10_len (fits10 l room) (rest10 l.length) []
  have h2 := (valid_all hv).2.1
  have h3 : (rest10 l.length).length = l.length - 1 := by unfold rest10; simp
  rw [h3] at h1
  have h4 : 2 ^ (l.length - 1) ≤ 2 ^ 7 := Nat.pow_le_pow_right (by decide) (by omega)
  unfold pinsAll10
  omega

/-- The need for a segment where some stay: its path without them. -/
def pathT10 (l : List Seg) (T : List Nat) (j : Nat) : List Nat := outT10 T (rp l j)
def heldP10 (l : List Seg) (T : List Nat) : List Nat → List Nat → List Nat
  | H, [] => H
  | H, j :: js => heldP10 l T (needT H (pathT10 l T j)) js
def loadP10 (l : List Seg) (T : List Nat) : List Nat → List Nat → List Nat
  | _, [] => []
  | H, j :: js => loadT H (pathT10 l T j) ++ loadP10 l T (needT H (pathT10 l T j)) js
theorem heldP10_snoc (l : List Seg) (T : List Nat) : ∀ (js H : List Nat) (j : Nat), heldP10 l T H (js ++ [j]) = needT (heldP10 l T H js) (pathT10 l T j)
  | [], _, _ => rfl
  | k :: js, H, j => heldP10_snoc l T js (needT H (pathT10 l T k)) j
theorem loadP10_snoc (l : List Seg) (T : List Nat) : ∀ (js H : List Nat) (j : Nat), loadP10 l T H (js ++ [j]) = loadP10 l T H js ++ loadT (heldP10 l T H js) (pathT10 l T j)
  | [], H, j => by simp [loadP10, heldP10]
  | k :: js, H, j => by
    show loadT H (pathT10 l T k) ++ loadP10 l T (needT H (pathT10 l T k)) (js ++ [j]) = loadT H (pathT10 l T k) ++ loadP10 l T (needT H (pathT10 l T k)) js ++ loadT (heldP10 l T (needT H (pathT10 l T k)) js) (pathT10 l T j)
    rw [loadP10_snoc l T js _ j, List.append_assoc]
/-- A state where some stay. -/
def IsPin10 (l : List Seg) (T H : List Nat) : Prop := ∃ P, IsState l P ∧ H = outT10 T P
theorem isPin10_nil (l : List Seg) (T : List Nat) : IsPin10 l T [] := ⟨[], .inl rfl, rfl⟩
theorem isPin10_path (l : List Seg) (T : List Nat) {j : Nat} (h : j < l.length) : IsPin10 l T (pathT10 l T j) := ⟨_, .inr ⟨j, h, rfl⟩, rfl⟩
theorem isPin10_need {l : List Seg} {T H P : List Nat} (h1 : IsPin10 l T H) (h2 : IsPin10 l T P) : IsPin10 l T (needT H P) := by
  unfold needT
  split
  · exact h1
  · exact h2
theorem isPin10_lt {l : List Seg} (hd : Down l l.length) {T H : List Nat} (h : IsPin10 l T H) : ∀ j ∈ H, j < l.length := by
  obtain ⟨P, hP, rfl⟩ := h
  exact fun j hj => hP.lt hd j (outT10_mem.1 hj).1
theorem isPin10_asc {l : List Seg} (hd : Down l l.length) {T H : List Nat} (h : IsPin10 l T H) : H.Pairwise (· < ·) := by
  obtain ⟨P, hP, rfl⟩ := h
  exact (hP.asc hd).filter _
theorem isPin10_len {l : List Seg} {T H : List Nat} (h : IsPin10 l T H) : H.length ≤ l.length := by
  obtain ⟨P, hP, rfl⟩ := h
  exact Nat.le_trans (List.length_filter_le _ _) (state_len hP)
theorem heldP10_pin {l : List Seg} {T : List Nat} : ∀ (js : List Nat) {H : List Nat}, IsPin10 l T H → (∀ j ∈ js, j < l.length) → IsPin10 l T (heldP10 l T H js)
  | [], _, h, _ => h
  | j :: js, _, h, hj => heldP10_pin js (isPin10_need h (isPin10_path l T (hj j List.mem_cons_self))) (fun x hx => hj x (List.mem_cons_of_mem _ hx))
theorem loadP10_lt {l : List Seg} (hd : Down l l.length) {T : List Nat} : ∀ (js : List Nat) {H : List Nat}, IsPin10 l T H → (∀ j ∈ js, j < l.length) → (∀ x ∈ loadP10 l T H js, x < l.length) ∧ (loadP10 l T H js).length ≤ l.length * js.length
  | [], _, _, _ => ⟨(fun x hx => by cases hx), Nat.zero_le _⟩
  | j :: js, H, h, hj => by
    have hP := isPin10_path l T (hj j List.mem_cons_self)
    have hN := isPin10_need h hP
    have h1 := loadP10_lt hd js hN (fun x hx => hj x (List.mem_cons_of_mem _ hx))
    have h2 : ∀ x ∈ loadT H (pathT10 l T j), x < l.length := less_lt (isPin10_lt hd hN)
    have h3 : (loadT H (pathT10 l T j)).length ≤ l.length := Nat.le_trans (less_len _ _) (isPin10_len hN)
    have e : loadP10 l T H (j :: js) = loadT H (pathT10 l T j) ++ loadP10 l T (needT H (pathT10 l T j)) js := rfl
    rw [e]
    refine ⟨fun x hx => ?_, ?_⟩
    · rcases List.mem_append.1 hx with h4 | h4
      · exact h2 x h4
      · exact h1.1 x h4
    · rw [List.length_append, List.length_cons, Nat.mul_succ]
      omega
/-- All that is loaded: what stays, then what is needed. -/
def loads10 (l : List Seg) (T js : List Nat) : List Nat := (0 :: T) ++ loadP10 l T [] js

theorem comLen_take10 {α : Type} [DecidableEq α] : ∀ (xs ys : List α), xs.take (comLen xs ys) = ys.take (comLen xs ys)
  | [], [] => rfl
  | [], _ :: _ => by simp [comLen]
  | _ :: _, [] => by simp [comLen]
  | a :: xs, b :: ys => by
    simp only [comLen]
    by_cases h : a = b
    · rw [if_pos h, h, List.take_succ_cons, List.take_succ_cons, comLen_take10 xs ys]
    · rw [if_neg h]; rfl
theorem namesAt_append10 (l : List Seg) (xs ys : List Nat) : namesAt l (xs ++ ys) = namesAt l xs ++ namesAt l ys := by
  apply WideShapes.bytes_inj
  show _ = (namesAt l xs ++ namesAt l ys).data.toList
  rw [ByteArray.data_append, Array.toList_append]
  show (xs ++ ys).flatMap (nmAt l) = xs.flatMap (nmAt l) ++ ys.flatMap (nmAt l)
  rw [List.flatMap_append]
/-- Two states fork: what they share is where they begin. -/
theorem comLen_fork10 : ∀ (C Y Z : List Nat), (∀ y ∈ Y, y ∉ Z) → comLen (C ++ Y) (C ++ Z) = C.length
  | [], [], _, _ => by simp [comLen]
  | [], _ :: _, [], _ => by simp [comLen]
  | [], y :: Y, z :: Z, h => by
    show (if y = z then _ else 0) = 0
    rw [if_neg (fun (e : y = z) => h y List.mem_cons_self (by rw [e]; exact List.mem_cons_self))]
  | c :: C, Y, Z, h => by
    show (if c = c then comLen (C ++ Y) (C ++ Z) + 1 else 0) = C.length + 1
    rw [if_pos rfl, comLen_fork10 C Y Z h]
theorem fork10 {l : List Seg} (hd : Down l l.length) {T A B : List Nat} (hA : IsPin10 l T A) (hB : IsPin10 l T B) : ((∀ x ∈ B, x ∈ A) ↔ comLen A B = B.length) ∧ lessT B A = B.drop (comLen A B) := by
  obtain ⟨P, hP, rfl⟩ := hA
  obtain ⟨Q, hQ, rfl⟩ := hB
  have hk1 := (comLen_le P Q).1
  have hk2 := (comLen_le P Q).2
  have e1 : P = Q.take (comLen P Q) ++ P.drop (comLen P Q) := by
    conv => lhs; rw [← List.take_append_drop (comLen P Q) P]
    rw [comLen_take10 P Q]
  have e2 : Q = Q.take (comLen P Q) ++ Q.drop (comLen P Q) := (List.take_append_drop _ _).symm
  have hZ : ∀ z ∈ Q.drop (comLen P Q), z ∉ P := fun z hz hzP => by
    obtain ⟨k, hk, rfl⟩ := List.mem_iff_getElem.1 hz
    rw [List.length_drop] at hk
    rw [List.getElem_drop] at hzP
    have h1 := (com_mem hd hQ hP (k := comLen P Q + k) (by omega)).1 hzP
    rw [comLen_comm Q P] at h1
    omega
  have hY : ∀ y ∈ P.drop (comLen P Q), y ∉ Q := fun y hy hyQ => by
    obtain ⟨k, hk, rfl⟩ := List.mem_iff_getElem.1 hy
    rw [List.length_drop] at hk
    rw [List.getElem_drop] at hyQ
    have h1 := (com_mem hd hP hQ (k := comLen P Q + k) (by omega)).1 hyQ
    omega
  have hCP : ∀ c ∈ Q.take (comLen P Q), c ∈ P := fun c hc => by rw [e1]; exact List.mem_append.2 (.inl hc)
  generalize Q.take (comLen P Q) = C at *
  generalize P.drop (comLen P Q) = Y at *
  generalize Q.drop (comLen P Q) = Z at *
  have f1 : outT10 T P = outT10 T C ++ outT10 T Y := by unfold outT10; rw [e1, List.filter_append]
  have f2 : outT10 T Q = outT10 T C ++ outT10 T Z := by unfold outT10; rw [e2, List.filter_append]
  have hZ2 : ∀ z ∈ outT10 T Z, z ∉ outT10 T P := fun z hz h => hZ z (outT10_mem.1 hz).1 (outT10_mem.1 h).1
  have h3 : comLen (outT10 T P) (outT10 T Q) = (outT10 T C).length := by
    rw [f1, f2]
    exact comLen_fork10 _ _ _ fun y hy hz => by
      have h4 := (outT10_mem.1 hy).1
      have h5 := (outT10_mem.1 hz).1
      exact hY y h4 (by rw [e2]; exact List.mem_append.2 (.inr h5))
  have hCA : ∀ c ∈ outT10 T C, c ∈ outT10 T P := fun c hc => outT10_mem.2 ⟨hCP c (outT10_mem.1 hc).1, (outT10_mem.1 hc).2⟩
  rw [h3]
  refine ⟨?_, ?_⟩
  · rw [f2, List.length_append]
    constructor
    · intro h
      cases hz : outT10 T Z with
      | nil => simp
      | cons z Z2 =>
        exact absurd (h z (List.mem_append.2 (.inr (by rw [hz]; exact List.mem_cons_self)))) (hZ2 z (by rw [hz]; exact List.mem_cons_self))
    · intro h x hx
      have hz : outT10 T Z = [] := List.eq_nil_of_length_eq_zero (by omega)
      rw [hz, List.append_nil] at hx
      exact hCA x hx
  · rw [f2, List.drop_left]
    unfold lessT
    rw [List.filter_append]
    have g1 : (outT10 T C).filter (fun x => decide (x ∉ outT10 T P)) = [] := List.filter_eq_nil_iff.2 fun x hx => by
      have := hCA x hx
      simpa using this
    have g2 : (outT10 T Z).filter (fun x => decide (x ∉ outT10 T P)) = outT10 T Z := List.filter_eq_self.2 fun x hx => by
      have := hZ2 x hx
      simpa using this
    rw [g1, g2]
    rfl

end Go.Proofs.Ytcpiojliakgdlaa
/- Traces, plain: the calls of a trace, how they are read, and what they tell. -/
namespace Go.Proofs.Ytcpiojliakgdlaa
open Go.RowKit

/-- Calls one behind the other: the first one's segment, the calls within it, and those behind it. -/
inductive Forest where
  | nil
  | cons (c : UInt8) (k r : Forest)

namespace Forest
def len : Forest → Nat
  | nil => 0
  | cons _ _ r => r.len + 1
def isNil : Forest → Bool
  | nil => true
  | cons _ _ _ => false
def app : Forest → Forest → Forest
  | nil, g => g
  | cons c k r, g => cons c k (r.app g)
theorem app_nil : ∀ f : Forest, f.app nil = f
  | nil => rfl
  | cons c k r => by show cons c k (r.app nil) = _; rw [app_nil r]
theorem app_assoc : ∀ f g h : Forest, (f.app g).app h = f.app (g.app h)
  | nil, _, _ => rfl
  | cons c k r, g, h => by show cons c k ((r.app g).app h) = _; rw [app_assoc r]; rfl
theorem app_len : ∀ f g : Forest, (f.app g).len = f.len + g.len
  | nil, g => by show g.len = 0 + g.len; omega
  | cons c k r, g => by show (r.app g).len + 1 = r.len + 1 + g.len; rw [app_len r]; omega
theorem isNil_len (f : Forest) : f.isNil = decide (f.len = 0) := by cases f <;> simp [isNil, len]
theorem snoc_isNil (f : Forest) (c : UInt8) (k : Forest) : (f.app (cons c k nil)).isNil = false := by cases f <;> rfl
/-- How many calls there are in all. -/
def size : Forest → Nat
  | nil => 0
  | cons _ k r => k.size + r.size + 1
theorem len_size : ∀ f : Forest, f.len ≤ f.size
  | nil => Nat.le_refl 0
  | cons _ k r => by have := len_size r; show r.len + 1 ≤ k.size + r.size + 1; omega
/-- How many lie within each other. -/
def deep : Forest → Nat
  | nil => 0
  | cons _ k r => max (k.deep + 1) r.deep
end Forest

/-- What was read, and the rest. -/
abbrev Got := Option (Forest × List UInt8)

/-- A closing parenthesis behind at least one call. -/
def closed : Got → Got
  | none => none
  | some (.nil, _) => none
  | some (.cons _ _ _, []) => none
  | some (.cons c k f, x :: r) => if x = 41 then some (.cons c k f, r) else none
/-- What comes behind a name. -/
def innerBy (rd : Nat → List UInt8 → Got) (d : Nat) : List UInt8 → Got
  | [] => some (.nil, [])
  | c :: r => if c = 40 then closed (rd d r) else some (.nil, c :: r)
def callBy (P : UInt8 → Bool) (rd : Nat → List UInt8 → Got) : Nat → UInt8 → List UInt8 → Got
  | 0, _, _ => none
  | d + 1, c, r => if P c = true then innerBy rd d r else none
/-- The calls behind a call. -/
def thenBy (c : UInt8) (more : List UInt8 → Got) : Got → Got
  | none => none
  | some (k, r) => match more r with
    | none => none
    | some (f, r2) => some (.cons c k f, r2)
/-- Calls up to the end or to a closing parenthesis, with so many levels left. -/
def rd (P : UInt8 → Bool) : Nat → Nat → List UInt8 → Got
  | 0, _, _ => none
  | _ + 1, _, [] => some (.nil, [])
  | n + 1, d, c :: r => if c = 41 then some (.nil, c :: r) else thenBy c (fun s => rd P n d s) (callBy P (fun e s => rd P n e s) d c r)

/-- No longer than it was. -/
def Less (g : Got) (n : Nat) : Prop := ∀ f r, g = some (f, r) → r.length ≤ n
theorem closed_less {g : Got} {n : Nat} (h : Less g (n + 1)) : Less (closed g) n := by
  intro f r e
  unfold closed at e
  split at e
  · cases e
  · cases e
  · cases e
  · next c k f' x r' =>
    split at e
    · injection e with e
      injection e with e1 e2
      subst e2
      have := h _ _ rfl
      simp at this
      omega
    · cases e
theorem Less.mono {g : Got} {n m : Nat} (h : Less g n) (hm : n ≤ m) : Less g m := fun f r e => Nat.le_trans (h f r e) hm
theorem innerBy_less {rd : Nat → List UInt8 → Got} {d : Nat} {s : List UInt8} (h : ∀ e r, r.length < s.length → Less (rd e r) r.length) : Less (innerBy rd d s) s.length := by
  unfold innerBy
  split
  · intro f r e
    injection e with e
    injection e with e1 e2
    subst e2
    exact Nat.le_refl _
  · next c r =>
    split
    · exact closed_less (((h d r (by simp)).mono (by simp; omega)))
    · intro f r' e
      injection e with e
      injection e with e1 e2
      subst e2
      exact Nat.le_refl _
theorem callBy_less {P : UInt8 → Bool} {rd : Nat → List UInt8 → Got} {d : Nat} {c : UInt8} {s : List UInt8} (h : ∀ e r, r.length < s.length → Less (rd e r) r.length) : Less (callBy P rd d c s) s.length := by
  unfold callBy
  split
  · intro f r e; cases e
  · split
    · exact innerBy_less h
    · intro f r e; cases e
theorem rd_less (P : UInt8 → Bool) : ∀ (n d : Nat) (s : List UInt8), Less (rd P n d s) s.length
  | 0, _, _ => fun f r e => by cases e
  | n + 1, d, [] => fun f r e => by
    injection e with e
    injection e with e1 e2
    subst e2
    exact Nat.le_refl _
  | n + 1, d, c :: s => fun f r e => by
    unfold rd at e
    split at e
    · injection e with e
      injection e with e1 e2
      subst e2
      exact Nat.le_refl _
    · have h1 : Less (callBy P (fun e s => rd P n e s) d c s) s.length := callBy_less fun e r _ => rd_less P n e r
      unfold thenBy at e
      split at e
      · cases e
      · next k r1 h2 =>
        have h3 := h1 _ _ h2
        split at e
        · cases e
        · next f' r2 h4 =>
          injection e with e
          injection e with e1 e2
          subst e2
          have := rd_less P n d r1 _ _ h4
          simp
          omega

theorem innerBy_congr {rd rd' : Nat → List UInt8 → Got} {d : Nat} {s : List UInt8} (h : ∀ e r, r.length < s.length → rd e r = rd' e r) : innerBy rd d s = innerBy rd' d s := by
  unfold innerBy
  split
  · rfl
  · next c r => rw [h d r (by simp)]
theorem callBy_congr {P : UInt8 → Bool} {rd rd' : Nat → List UInt8 → Got} {d : Nat} {c : UInt8} {s : List UInt8} (h : ∀ e r, r.length < s.length → rd e r = rd' e r) : callBy P rd d c s = callBy P rd' d c s := by
  unfold callBy
  split
  · rfl
  · rw [innerBy_congr h]
theorem thenBy_congr {c : UInt8} {m m' : List UInt8 → Got} {g : Got} {n : Nat} (hg : Less g n) (h : ∀ s, s.length ≤ n → m s = m' s) : thenBy c m g = thenBy c m' g := by
  unfold thenBy
  split
  · rfl
  · next k r => rw [h r (hg _ _ rfl)]
theorem rd_fuel (P : UInt8 → Bool) : ∀ (n m d : Nat) (s : List UInt8), s.length < n → s.length < m → rd P n d s = rd P m d s
  | 0, _, _, _, h, _ => absurd h (by omega)
  | _, 0, _, _, _, h => absurd h (by omega)
  | n + 1, m + 1, d, [], _, _ => rfl
  | n + 1, m + 1, d, c :: s, h, h' => by
    have hn : s.length < n := by simp at h; omega
    have hm : s.length < m := by simp at h'; omega
    show (if c = 41 then _ else _) = (if c = 41 then _ else _)
    split
    · rfl
    · have e1 : callBy P (fun e s => rd P n e s) d c s = callBy P (fun e s => rd P m e s) d c s := callBy_congr fun e r hr => rd_fuel P n m e r (by omega) (by omega)
      rw [← e1]
      exact thenBy_congr (callBy_less fun e r _ => rd_less P n e r) fun r hr => rd_fuel P n m d r (by omega) (by omega)

/-- The same without a bound on the steps. -/
def calls (P : UInt8 → Bool) (d : Nat) (s : List UInt8) : Got := rd P (s.length + 1) d s
def callA (P : UInt8 → Bool) (d : Nat) (c : UInt8) (r : List UInt8) : Got := callBy P (calls P) d c r
theorem calls_less (P : UInt8 → Bool) (d : Nat) (s : List UInt8) : Less (calls P d s) s.length := rd_less P _ d s
theorem callA_less (P : UInt8 → Bool) (d : Nat) (c : UInt8) (s : List UInt8) : Less (callA P d c s) s.length := callBy_less fun e r _ => calls_less P e r
theorem calls_nil (P : UInt8 → Bool) (d : Nat) : calls P d [] = some (.nil, []) := rfl
theorem calls_close (P : UInt8 → Bool) (d : Nat) (r : List UInt8) : calls P d (41 :: r) = some (.nil, 41 :: r) := rfl
theorem calls_cons (P : UInt8 → Bool) (d : Nat) {c : UInt8} (r : List UInt8) (h : c ≠ 41) : calls P d (c :: r) = thenBy c (calls P d) (callA P d c r) := by
  show (if c = 41 then _ else _) = _
  rw [if_neg h]
  have e1 : callBy P (fun e s => rd P (r.length + 1) e s) d c r = callA P d c r := callBy_congr fun e s hs => rd_fuel P _ _ e s (by omega) (by omega)
  show thenBy c _ (callBy P (fun e s => rd P (r.length + 1) e s) d c r) = _
  rw [e1]
  exact thenBy_congr (callA_less P d c r) fun s hs => rd_fuel P _ _ d s (by simp; omega) (by omega)
theorem callA_zero (P : UInt8 → Bool) (c : UInt8) (r : List UInt8) : callA P 0 c r = none := rfl
theorem callA_no {P : UInt8 → Bool} {d : Nat} {c : UInt8} {r : List UInt8} (h : P c = false) : callA P d c r = none := by
  unfold callA callBy
  split
  · rfl
  · rw [if_neg (by rw [h]; decide)]
theorem callA_leaf {P : UInt8 → Bool} {d : Nat} {c : UInt8} {r : List UInt8} (h : P c = true) (hr : ∀ x u, r = x :: u → x ≠ 40) : callA P (d + 1) c r = some (.nil, r) := by
  unfold callA callBy
  dsimp only
  rw [if_pos h]
  unfold innerBy
  split
  · rfl
  · next x u => rw [if_neg (hr x u rfl)]
theorem callA_open {P : UInt8 → Bool} {d : Nat} {c : UInt8} {r : List UInt8} (h : P c = true) : callA P (d + 1) c (40 :: r) = closed (calls P d r) := by
  unfold callA callBy
  dsimp only
  rw [if_pos h]
  rfl

/-- Calls ahead of what is read. -/
def ahead (f : Forest) : Got → Got
  | none => none
  | some (g, r) => some (f.app g, r)
theorem ahead_nil (g : Got) : ahead .nil g = g := by cases g <;> rfl
theorem ahead_ahead (f f' : Forest) (g : Got) : ahead f (ahead f' g) = ahead (f.app f') g := by
  cases g with
  | none => rfl
  | some x => show some (f.app (f'.app x.1), x.2) = _; rw [← Forest.app_assoc]; rfl
theorem thenBy_ahead (c : UInt8) (k : Forest) (r : List UInt8) (more : List UInt8 → Got) : thenBy c more (some (k, r)) = ahead (.cons c k .nil) (more r) := by
  unfold thenBy ahead
  dsimp only
  cases more r <;> rfl
/-- One more call is read: what is behind it. -/
theorem calls_step {P : UInt8 → Bool} {d : Nat} {c : UInt8} {r r1 : List UInt8} {k : Forest} (f : Forest) (hc : c ≠ 41) (h : callA P d c r = some (k, r1)) : ahead f (calls P d (c :: r)) = ahead (f.app (.cons c k .nil)) (calls P d r1) := by
  rw [calls_cons P d r hc, h, thenBy_ahead, ahead_ahead]
theorem calls_fail {P : UInt8 → Bool} {d : Nat} {c : UInt8} {r : List UInt8} (f : Forest) (hc : c ≠ 41) (h : callA P d c r = none) : ahead f (calls P d (c :: r)) = none := by
  rw [calls_cons P d r hc, h]; rfl

/-- The rest behind calls is empty or begins with a closing parenthesis. -/
theorem rd_rest (P : UInt8 → Bool) : ∀ (n d : Nat) (s : List UInt8) f r, rd P n d s = some (f, r) → r = [] ∨ ∃ u, r = 41 :: u
  | 0, _, _, _, _, e => by cases e
  | n + 1, d, [], f, r, e => by
    injection e with e
    injection e with e1 e2
    exact .inl e2.symm
  | n + 1, d, c :: s, f, r, e => by
    unfold rd at e
    split at e
    · next h =>
      injection e with e
      injection e with e1 e2
      subst h
      exact .inr ⟨s, e2.symm⟩
    · unfold thenBy at e
      split at e
      · cases e
      · next k r1 h2 =>
        split at e
        · cases e
        · next f' r2 h4 =>
          injection e with e
          injection e with e1 e2
          subst e2
          exact rd_rest P n d r1 _ _ h4
theorem calls_rest {P : UInt8 → Bool} {d : Nat} {s : List UInt8} {f : Forest} {r : List UInt8} (h : calls P d s = some (f, r)) : r = [] ∨ ∃ u, r = 41 :: u := rd_rest P _ d s f r h

/-- Which letters name a segment of a valid tree. -/
def callP (l : List Seg) (c : UInt8) : Bool := decide (0 ≤ indexB l ⟨#[c]⟩)
/-- The calls of a trace within a tree, if a text is one. -/
def traceB (l : List Seg) (t : List UInt8) : Option Forest :=
  if (validB l && decide (t.length ≤ 80)) = true then (match calls (callP l) 8 t with
    | some (f, []) => some f
    | _ => none) else none

theorem seekFrom_has (s : ByteArray) : ∀ (l : List Seg) (k : Nat), decide (0 ≤ seekFrom s l k) = takenB l s
  | [], k => by unfold seekFrom takenB; simp
  | x :: l, k => by
    have ih := seekFrom_has s l (k + 1)
    unfold seekFrom takenB
    rw [List.any_cons]
    by_cases h : sameB x.name s = true
    · rw [if_pos h, h, Bool.true_or]; exact decide_eq_true (by omega)
    · rw [if_neg h, Bool.eq_false_iff.2 h, Bool.false_or]
      exact ih
theorem callP_taken {l : List Seg} (hv : validB l = true) (c : UInt8) : callP l c = takenB l ⟨#[c]⟩ := by
  unfold callP indexB
  rw [if_pos hv]
  exact seekFrom_has _ l 0
theorem callP_bad {l : List Seg} (hv : validB l = false) (c : UInt8) : callP l c = false := by
  unfold callP indexB
  rw [if_neg (by rw [hv]; decide)]
  rfl
theorem validB_names {l : List Seg} (hv : validB l = true) {s : Seg} (hs : s ∈ l) : nameOk s.name = true := by
  unfold validB at hv
  simp only [Bool.and_eq_true, decide_eq_true_eq] at hv
  have h := allB_iff.1 hv.2
  have : l.take l.length = l := List.take_length
  exact mem_take_name h (by rw [this]; exact hs)
theorem callP_letter {l : List Seg} {c : UInt8} (h : callP l c = true) : 65 ≤ c.toNat ∧ c.toNat ≤ 72 := by
  cases hv : validB l with
  | false => rw [callP_bad hv] at h; cases h
  | true =>
    rw [callP_taken hv] at h
    unfold takenB at h
    obtain ⟨s, hs, he⟩ := List.any_eq_true.1 h
    obtain ⟨d, hd, h1, h2⟩ := nameOk_one (validB_names hv hs)
    have := sameB_iff.1 he
    rw [hd] at this
    injection this with this
    have h3 : [d] = [c] := congrArg Array.toList this
    injection h3 with h3
    subst h3
    exact ⟨h1, h2⟩
theorem callP_shut (l : List Seg) : callP l 41 = false := by
  cases h : callP l 41 with
  | false => rfl
  | true => have := (callP_letter h).1; revert this; decide

end Go.Proofs.Ytcpiojliakgdlaa
