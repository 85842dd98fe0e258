/- Joined: Ya. -/
import Derived.Test.YtcaegpjbdcopoaaU12
import Derived.Test.YtcaegpjbdcopoaaU15
import Derived.Test.YtcaegpjbdcopoaaU17
/- Runs: the needs of a trace one after the other, and what they load: no program. -/
namespace Go.Proofs.Ytcaegpjbdcopoaa
open Go.RowKit

/-- The needs of calls that a segment makes, each with whether it is a return. -/
def needsR (a : UInt8) : Forest → List (UInt8 × Bool)
  | .nil => []
  | .cons c k r => (c, false) :: (needsR c k ++ ((a, true) :: needsR a r))
theorem needsR_app (a : UInt8) : ∀ f g : Forest, needsR a (f.app g) = needsR a f ++ needsR a g
  | .nil, _ => rfl
  | .cons c k r, g => by
    show (c, false) :: (needsR c k ++ ((a, true) :: needsR a (r.app g))) = ((c, false) :: (needsR c k ++ ((a, true) :: needsR a r))) ++ needsR a g
    rw [needsR_app a r g]; simp
theorem needsR_one (a c : UInt8) (k : Forest) : needsR a (.cons c k .nil) = (c, false) :: (needsR c k ++ [(a, true)]) := rfl
theorem needsR_len (a : UInt8) : ∀ f : Forest, (needsR a f).length = 2 * f.size
  | .nil => rfl
  | .cons c k r => by
    show ((c, false) :: (needsR c k ++ ((a, true) :: needsR a r))).length = 2 * (k.size + r.size + 1)
    simp [needsR_len c k, needsR_len a r]; omega
theorem needsR_all {P : UInt8 → Bool} : ∀ (f : Forest) (a : UInt8), P a = true → f.all P → ∀ x ∈ needsR a f, P x.1 = true
  | .nil, _, _, _, x, hx => by cases hx
  | .cons c k r, a, ha, h, x, hx => by
    obtain ⟨hc, hk, hr⟩ := h
    rcases List.mem_cons.1 hx with rfl | hx
    · exact hc
    · rcases List.mem_append.1 hx with hx | hx
      · exact needsR_all k c hc hk x hx
      · rcases List.mem_cons.1 hx with rfl | hx
        · exact ha
        · exact needsR_all r a ha hr x hx

theorem Forest.all_app {P : UInt8 → Bool} : ∀ {f g : Forest}, (f.app g).all P ↔ f.all P ∧ g.all P
  | .nil, g => ⟨fun h => ⟨trivial, h⟩, fun h => h.2⟩
  | .cons c k r, g => by
    have ih := @Forest.all_app P r g
    show (P c = true ∧ k.all P ∧ (r.app g).all P) ↔ (P c = true ∧ k.all P ∧ r.all P) ∧ g.all P
    rw [ih]
    constructor
    · rintro ⟨h1, h2, h3, h4⟩; exact ⟨⟨h1, h2, h3⟩, h4⟩
    · rintro ⟨⟨h1, h2, h3⟩, h4⟩; exact ⟨h1, h2, h3, h4⟩

/-- Where the segment that a letter names stands. -/
def segIx (l : List Seg) (c : UInt8) : Nat := (indexB l ⟨#[c]⟩).toNat
theorem callP_ix {l : List Seg} {c : UInt8} (h : callP l c = true) : indexB l ⟨#[c]⟩ = (segIx l c : Int) ∧ segIx l c < l.length := by
  obtain ⟨j, h1, h2⟩ := callP_index h
  unfold segIx
  rw [h1, Int.toNat_natCast]
  exact ⟨rfl, h2⟩
theorem callP_root {l : List Seg} (hv : validB l = true) : callP l (rootB l) = true ∧ segIx l (rootB l) = 0 := by
  obtain ⟨s, h1, h2⟩ := root_name hv
  obtain ⟨h0, h3⟩ := List.getElem?_eq_some_iff.1 h1
  have h4 := name_index hv h0
  rw [h3, h2] at h4
  unfold callP segIx
  rw [h4]
  exact ⟨rfl, rfl⟩

/-- A step: the name, what is loaded, the state behind it. -/
structure Stp where
  nm : ByteArray
  ld : ByteArray
  st : ByteArray
def pathAt (l : List Seg) (c : UInt8) : List Nat := rp l (segIx l c)
def nextT (l : List Seg) (T : List Nat) (c : UInt8) : List Nat := needT T (pathAt l c)
def stepAt (l : List Seg) (T : List Nat) (c : UInt8) : Stp := ⟨⟨#[c]⟩, namesAt l (loadT T (pathAt l c)), namesAt l (nextT l T c)⟩
/-- The steps from a state on. -/
def runS (l : List Seg) : List Nat → List (UInt8 × Bool) → List (Stp × Bool)
  | _, [] => []
  | T, n :: ns => (stepAt l T n.1, n.2) :: runS l (nextT l T n.1) ns
def endT (l : List Seg) : List Nat → List (UInt8 × Bool) → List Nat
  | T, [] => T
  | T, n :: ns => endT l (nextT l T n.1) ns
theorem runS_app (l : List Seg) : ∀ (xs ys : List (UInt8 × Bool)) (T : List Nat), runS l T (xs ++ ys) = runS l T xs ++ runS l (endT l T xs) ys
  | [], _, _ => rfl
  | x :: xs, ys, T => by
    show (stepAt l T x.1, x.2) :: runS l (nextT l T x.1) (xs ++ ys) = (stepAt l T x.1, x.2) :: (runS l (nextT l T x.1) xs ++ runS l (endT l (nextT l T x.1) xs) ys)
    rw [runS_app l xs ys]
theorem endT_app (l : List Seg) : ∀ (xs ys : List (UInt8 × Bool)) (T : List Nat), endT l T (xs ++ ys) = endT l (endT l T xs) ys
  | [], _, _ => rfl
  | x :: xs, ys, T => endT_app l xs ys (nextT l T x.1)
theorem runS_len (l : List Seg) : ∀ (xs : List (UInt8 × Bool)) (T : List Nat), (runS l T xs).length = xs.length
  | [], _ => rfl
  | x :: xs, T => by
    show (runS l (nextT l T x.1) xs).length + 1 = xs.length + 1
    rw [runS_len l xs]
theorem runS_snoc (l : List Seg) (xs : List (UInt8 × Bool)) (T : List Nat) (n : UInt8 × Bool) : runS l T (xs ++ [n]) = runS l T xs ++ [(stepAt l (endT l T xs) n.1, n.2)] := runS_app l xs [n] T
theorem endT_snoc (l : List Seg) (xs : List (UInt8 × Bool)) (T : List Nat) (n : UInt8 × Bool) : endT l T (xs ++ [n]) = nextT l (endT l T xs) n.1 := endT_app l xs [n] T
theorem path_is {l : List Seg} {c : UInt8} (h : callP l c = true) : IsState l (pathAt l c) := .inr ⟨_, (callP_ix h).2, rfl⟩
theorem next_is {l : List Seg} {T : List Nat} {c : UInt8} (hT : IsState l T) (h : callP l c = true) : IsState l (nextT l T c) := needT_state hT (path_is h)
theorem endT_is {l : List Seg} : ∀ (xs : List (UInt8 × Bool)) {T : List Nat}, IsState l T → (∀ x ∈ xs, callP l x.1 = true) → IsState l (endT l T xs)
  | [], _, h, _ => h
  | x :: xs, _, h, hx => endT_is xs (next_is h (hx x List.mem_cons_self)) (fun y hy => hx y (List.mem_cons_of_mem _ hy))
theorem path_str {l : List Seg} {c : UInt8} (h : callP l c = true) : pathStr l ⟨#[c]⟩ = namesAt l (pathAt l c) ∧ hasSeg l ⟨#[c]⟩ = true := by
  have h0 := (callP_ix h).1
  have h1 : 0 ≤ indexB l ⟨#[c]⟩ := by omega
  refine ⟨?_, decide_eq_true h1⟩
  rw [pathStr_ix h1]
  rfl
/-- What a step's texts may be long. -/
theorem step_len {l : List Seg} (hv : validB l = true) {T : List Nat} {c : UInt8} (hT : IsState l T) (h : callP l c = true) : (stepAt l T c).nm.size = 1 ∧ (stepAt l T c).ld.size ≤ 8 ∧ (stepAt l T c).st.size ≤ 8 := by
  have h8 := (valid_all hv).2.1
  have hn := valid_names hv
  refine ⟨rfl, ?_, ?_⟩
  · have h1 := namesAt_len hn (loadT T (pathAt l c))
    have h2 := load_len hT (path_is h)
    show (namesAt l (loadT T (pathAt l c))).size ≤ 8
    omega
  · have h1 := namesAt_len hn (nextT l T c)
    have h2 := state_len (next_is hT h)
    show (namesAt l (nextT l T c)).size ≤ 8
    omega
theorem runS_texts {l : List Seg} (hv : validB l = true) : ∀ (xs : List (UInt8 × Bool)) {T : List Nat}, IsState l T → (∀ x ∈ xs, callP l x.1 = true) → ∀ s ∈ runS l T xs, s.1.nm.size = 1 ∧ s.1.ld.size ≤ 8 ∧ s.1.st.size ≤ 8
  | [], _, _, _, s, hs => by cases hs
  | x :: xs, T, hT, hx, s, hs => by
    have hc := hx x List.mem_cons_self
    rcases List.mem_cons.1 hs with rfl | hs
    · exact step_len hv hT hc
    · exact runS_texts hv xs (next_is hT hc) (fun y hy => hx y (List.mem_cons_of_mem _ hy)) s hs

/-- The run of a trace. -/
def needsOfF (l : List Seg) (f : Forest) : List (UInt8 × Bool) := (rootB l, false) :: needsR (rootB l) f
def runF (l : List Seg) (f : Forest) : List (Stp × Bool) := runS l [] (needsOfF l f)
theorem needsOfF_all {l : List Seg} {f : Forest} (hv : validB l = true) (h : f.all (callP l)) : ∀ x ∈ needsOfF l f, callP l x.1 = true := by
  intro x hx
  rcases List.mem_cons.1 hx with rfl | hx
  · exact (callP_root hv).1
  · exact needsR_all f _ (callP_root hv).1 h x hx
theorem rootPath_is {l : List Seg} (hv : validB l = true) : pathAt l (rootB l) = [0] ∧ nextT l [] (rootB l) = [0] ∧ loadT [] (pathAt l (rootB l)) = [0] := by
  have h0 : pathAt l (rootB l) = [0] := by
    unfold pathAt
    rw [(callP_root hv).2]
    have hd := (valid_all hv).1.down 0 (by have := (valid_all hv).2.2; omega)
    exact rp_root (by omega)
  refine ⟨h0, ?_, ?_⟩
  · unfold nextT
    rw [h0]
    rfl
  · rw [h0]
    rfl
theorem runF_eq {l : List Seg} (hv : validB l = true) (f : Forest) : runF l f = (⟨⟨#[rootB l]⟩, ⟨#[rootB l]⟩, ⟨#[rootB l]⟩⟩, false) :: runS l [0] (needsR (rootB l) f) := by
  obtain ⟨h0, h1, h2⟩ := rootPath_is hv
  have h3 : namesAt l [0] = ⟨#[rootB l]⟩ := by
    obtain ⟨s, h4, h5⟩ := root_name hv
    obtain ⟨hlt, h6⟩ := List.getElem?_eq_some_iff.1 h4
    have h7 := namesAt_snoc (l := l) [] hlt
    rw [List.nil_append] at h7
    rw [h7, h6, h5]
    rfl
  show (stepAt l [] (rootB l), false) :: runS l (nextT l [] (rootB l)) (needsR (rootB l) f) = _
  unfold stepAt
  rw [h1, h2, h3]
theorem root_is {l : List Seg} (hv : validB l = true) : IsState l [0] := by
  rw [← (rootPath_is hv).1]
  exact path_is (callP_root hv).1
/-- The last step's state is that behind the steps. -/
theorem runS_last (l : List Seg) : ∀ (xs : List (UInt8 × Bool)) (T : List Nat), xs ≠ [] → ∃ A s b, runS l T xs = A ++ [(s, b)] ∧ s.st = namesAt l (endT l T xs)
  | [], _, h => absurd rfl h
  | [x], T, _ => ⟨[], stepAt l T x.1, x.2, rfl, rfl⟩
  | x :: y :: xs, T, _ => by
    obtain ⟨A, s, b, h1, h2⟩ := runS_last l (y :: xs) (nextT l T x.1) (by simp)
    exact ⟨(stepAt l T x.1, x.2) :: A, s, b, by show _ :: runS l (nextT l T x.1) (y :: xs) = _; rw [h1]; rfl, h2⟩

/-- All that is loaded. -/
def loadsB (ss : List Stp) : ByteArray := ⟨(ss.flatMap fun s => s.ld.data.toList).toArray⟩
theorem loadsB_snoc (ss : List Stp) (s : Stp) : loadsB (ss ++ [s]) = loadsB ss ++ s.ld := by
  apply ByteArray.ext
  apply Array.ext'
  unfold loadsB
  rw [ByteArray.data_append, Array.toList_append]
  simp
theorem loadsB_size (ss : List Stp) (h : ∀ s ∈ ss, s.ld.size ≤ 8) : (loadsB ss).size ≤ 8 * ss.length := by
  induction ss with
  | nil => exact Nat.zero_le _
  | cons s ss ih =>
    have h1 := ih (fun x hx => h x (List.mem_cons_of_mem _ hx))
    have h2 := h s List.mem_cons_self
    have h3 : (loadsB (s :: ss)).size = s.ld.size + (loadsB ss).size := by
      have h4 : ∀ b : ByteArray, b.size = b.data.toList.length := fun b => by simp
      rw [h4, h4 s.ld, h4 (loadsB ss)]
      unfold loadsB
      simp
    rw [h3, List.length_cons]
    omega
def keptB (rs : List (Stp × Bool)) : List Stp := (rs.filter (·.2)).map (·.1)
theorem keptB_snoc (rs : List (Stp × Bool)) (s : Stp) (b : Bool) : keptB (rs ++ [(s, b)]) = if b = true then keptB rs ++ [s] else keptB rs := by
  unfold keptB
  rw [List.filter_append]
  cases b <;> simp

end Go.Proofs.Ytcaegpjbdcopoaa
