/- Joined: Jr Ch Po Cp Cs Di. -/
import Derived.Test.YtifkmehnikfihaaU16
import Derived.Test.YtifkmehnikfihaaU14
import Derived.BigQuiet
import Derived.Lib.IndexAny
import Derived.Test.YtifkmehnikfihaaU22
import Derived.Test.YtifkmehnikfihaaU24
import Derived.Lib.Bytealg
/- impl.joinNames and impl.PathOf over paths. -/
namespace Go.Proofs.Ytifkmehnikfihaa
open Go.RowKit Go.Shelf
attribute [local go_sem] Oper.semAt_some

theorem keptN_from {w w' : World} {b B Bl : Nat} (h : Lib.OthersKept 5 (some b) w w') (hb : Below Bl w w') (hB : b < B) : KeepsN B w w' :=
  ⟨hb.size, fun k o hk ho hn => h k o ho (fun he => by injection he with he; omega) (fun c fz he => (hn c _ fz he).1 rfl)⟩

set_option maxRecDepth 100000 in
set_option maxHeartbeats 2000000 in
theorem joinNamesR_any {gf : Nat} {lb : Array Value} (w : World) (l : List Seg) (nb : Nat → Nat) (hnode : ∀ x : Ix l, w.cell? ⟨nb x.1, 0, none⟩ = some (.string (l[x.1]'x.2).name)) (hone : ∀ s ∈ l, s.name.size ≤ 1)
    (S Sp : List (Ix l) → Prop) (N : Nat) (hN : N ≤ 1000) (heg : ∀ args w, (callFunc gf args).run Try.prog w = .ok (.enter gf args) w)
    (hseq : SeqR 19 gf lb (fun x : Ix l => #[.pointer (some ⟨nb x.1, 0, none⟩)]) w.heap.size (w.heap.size + 3) S Sp N w) :
    Calls Try.prog 50 #[.func (.func gf) #[] lb] w fun e w' => (∃ xs, S xs ∧ e = .returned (.string ⟨(nameBytes l xs).toArray⟩)) ∧ Below w.heap.size w w' := by
  refine (callsIn_wide (n := 20)).1 ?_
  refine callsIn_of_wp_marks Try.func50 rfl trivial ?_ rfl
  simp only [Try.ntmps50, List.size_toArray, List.length_cons, List.length_nil, Nat.reduceAdd, Nat.reduceSub, Array.replicate_succ, Array.replicate_zero, List.push_toArray, List.append_toArray, List.nil_append, List.cons_append]
  gi_wp2
  have hB0 : Below w.heap.size w (w.alloc (.cells #[.pointer none, .slice none 0 0] 56)) := (Below.refl _ w).alloc (Nat.le_refl _) _
  have hI0 : Lib.IsBuilderF 56 5 w.heap.size w.heap.size [] (w.alloc (.cells #[.pointer none, .slice none 0 0] 56)) := Lib.IsBuilderF.of (Lib.fresh_isBuilder _ _ w)
  refine wpIn_rangeFunc_R (by omega) (gf := gf) (lb := lb) rfl heg hseq (by simp) (by simp) hB0 (fun _ => rfl)
    (fun pre W => Lib.IsBuilderF 56 5 w.heap.size w.heap.size (Lib.byteCells (nameBytes l pre)) W ∧ Below w.heap.size w W)
    (fun _ _ _ => False)
    (OwnFrom.and (isB_own _ _ _ _ _ (fun pre => Lib.byteCells (nameBytes l pre))) (ownFrom_below (Nat.le_refl _) (by simp)))
    (fun _ _ _ _ _ hs _ _ => hs)
    ⟨hI0, hB0⟩
    (fun x => { tmps := #[.func (.func gf) #[] lb, undef, .string ⟨#[]⟩, .pointer (some ⟨w.heap.size, 0, none⟩), .pointer (some ⟨nb x.1, 0, none⟩), .func (.func gf) #[] lb, .pointer (some ⟨nb x.1, 0, none⟩), undef, undef, undef, undef, undef, undef], defers := [] }) ?assign ?body ?done ?stop
  case assign =>
    intro l x W K hK
    gi_wp2
    exact hK
  case body =>
    rintro l' pre x W ⟨hI, hB⟩ hlen _
    have hlt := World.block_lt_of_cell? w _ (hnode x)
    have nk : W.cell? ⟨nb x.1, 0, none⟩ = some (.string (l[x.1]'x.2).name) := (hB.cell (p := ⟨nb x.1, 0, none⟩) hlt).trans (hnode x)
    have HN : Hid _ := nameBytes_snoc l pre x
    have hl1 : (Lib.byteCells (nameBytes l pre)).length + (l[x.1]'x.2).name.size ≤ 140737488355328 := by
      have h1 := nameBytes_len hone pre
      have h2 := hone _ (List.getElem_mem x.2)
      have h3 : (Lib.byteCells (nameBytes l pre)).length = (nameBytes l pre).length := by simp [Lib.byteCells]
      omega
    generalize (l[x.1]'x.2).name = nm at *
    gi_wp2_with (refine ⟨trivial, ?_⟩; gi_at_call 49; refine (CallsIn.inRound l' (callsIn_wide.2 (writeString_any w.heap.size w.heap.size _ nm _ hI hl1 hB.size))).mono ?_; rintro e W1 ⟨rfl, hI1, hb1, hk1⟩)
    refine ⟨keptN_from hk1 hb1 (by simp), hb1, ?_, hB.trans hb1⟩
    rw [HN.out]
    have : Lib.byteCells (nameBytes l pre ++ nm.data.toList) = Lib.byteCells (nameBytes l pre) ++ Lib.strCells nm := by simp [Lib.byteCells, Lib.strCells]
    rw [this]
    exact hI1
  case done =>
    rintro D ys W hD hS ⟨hI, hB⟩ hK
    gi_wp2_with (refine ⟨trivial, ?_⟩; gi_at_call 27; refine (callsIn_wide.2 (Try.Builder_String_any_k w.heap.size w.heap.size _ _ hI hB.size)).mono ?_; rintro e W1 ⟨rfl, hI1, hb1, hk1⟩)
    have hbne : D ≠ w.heap.size := by simp at hD; omega
    have hK1 : W1.heap[D]? = some (.deferred (some [])) := hk1 D _ hK (fun he => hbne (by injection he)) (fun c fz he => by cases he)
    refine ⟨by simp, .inl ⟨_, _, rfl, run_takeDeferred hK1, ?_⟩⟩
    exact ⟨_, results_tmp rfl _ _ _, ⟨ys, hS, rfl⟩, (hB.trans hb1).trans (belowK_b (w := w) (Nat.le_refl _) W1 D _ _ (by simp at hD; omega) hK1 rfl rfl)⟩
  case stop =>
    rintro D c pre W _ _ h _
    exact h.elim

end Go.Proofs.Ytifkmehnikfihaa
/- ChildrenOf: the program's and the model's. -/
namespace Go.Proofs.Ytifkmehnikfihaa
open Go.RowKit Go.Shelf

def kidNames (l : List Seg) (i k : Nat) : ByteArray := ⟨((kidsOf l i k).flatMap (nmAt l)).toArray⟩
theorem kidNames_zero (l : List Seg) (i : Nat) : kidNames l i 0 = ⟨#[]⟩ := rfl
theorem kidNames_yes {l : List Seg} {i k : Nat} (hk : k < l.length) (h : parAt l k = (i : Int)) : kidNames l i (k + 1) = kidNames l i k ++ l[k].name := by
  apply WideShapes.bytes_inj
  show _ = (kidNames l i k ++ l[k].name).data.toList
  rw [ByteArray.data_append, Array.toList_append]
  show (kidsOf l i (k + 1)).flatMap (nmAt l) = (kidsOf l i k).flatMap (nmAt l) ++ _
  rw [kidsOf_succ, if_pos h, List.flatMap_append, List.flatMap_cons, List.flatMap_nil, List.append_nil, nmAt_of hk]
theorem kidNames_no {l : List Seg} {i k : Nat} (h : parAt l k ≠ (i : Int)) : kidNames l i (k + 1) = kidNames l i k := by
  unfold kidNames
  rw [kidsOf_succ, if_neg h, List.append_nil]
theorem kidNames_len {l : List Seg} (h : ∀ s ∈ l, s.name.size ≤ 1) (i : Nat) : ∀ k, k ≤ l.length → (kidNames l i k).size ≤ k
  | 0, _ => Nat.zero_le _
  | k + 1, hk => by
    have h1 := kidNames_len h i k (by omega)
    by_cases hp : parAt l k = (i : Int)
    · rw [kidNames_yes (by omega) hp, ByteArray.size_append]
      have := h _ (List.getElem_mem (show k < l.length by omega))
      omega
    · rw [kidNames_no hp]; omega

def kidsStr (l : List Seg) (s : ByteArray) : ByteArray := if indexB l s < 0 then ⟨#[]⟩ else kidNames l (indexB l s).toNat l.length
def hasSeg (l : List Seg) (s : ByteArray) : Bool := decide (0 ≤ indexB l s)
theorem index_valid {l : List Seg} {s : ByteArray} (h : 0 ≤ indexB l s) : validB l = true := by
  unfold indexB at h
  by_cases hv : validB l = true
  · exact hv
  · rw [if_neg hv] at h; omega

end Go.Proofs.Ytifkmehnikfihaa
/- PathOf: the program's and the model's. -/
namespace Go.Proofs.Ytifkmehnikfihaa
open Go.RowKit Go.Shelf

def namesAt (l : List Seg) (js : List Nat) : ByteArray := ⟨(js.flatMap (nmAt l)).toArray⟩
theorem namesAt_snoc {l : List Seg} (js : List Nat) {j : Nat} (hj : j < l.length) : namesAt l (js ++ [j]) = namesAt l js ++ l[j].name := by
  apply WideShapes.bytes_inj
  show _ = (namesAt l js ++ l[j].name).data.toList
  rw [ByteArray.data_append, Array.toList_append]
  show (js ++ [j]).flatMap (nmAt l) = js.flatMap (nmAt l) ++ _
  rw [List.flatMap_append, List.flatMap_cons, List.flatMap_nil, List.append_nil, nmAt_of hj]
theorem nmAt_len {l : List Seg} (h : ∀ s ∈ l, s.name.size ≤ 1) (j : Nat) : (nmAt l j).length ≤ 1 := by
  unfold nmAt
  cases hj : l[j]? with
  | none => exact Nat.zero_le _
  | some s =>
    have := h s (List.mem_of_getElem? hj)
    simpa using this
theorem namesAt_len {l : List Seg} (h : ∀ s ∈ l, s.name.size ≤ 1) : ∀ js : List Nat, (namesAt l js).size ≤ js.length
  | [] => Nat.le_refl 0
  | j :: js => by
    have h1 := namesAt_len h js
    have h2 := nmAt_len h j
    have e1 : ∀ is : List Nat, (namesAt l is).size = (is.flatMap (nmAt l)).length := fun is => by simp [namesAt, ByteArray.size]
    rw [e1] at h1 ⊢
    rw [List.flatMap_cons, List.length_append, List.length_cons]
    omega

def pathStr (l : List Seg) (s : ByteArray) : ByteArray := if indexB l s < 0 then ⟨#[]⟩ else namesAt l (rootPath l ((indexB l s).toNat + 1) (indexB l s).toNat)

end Go.Proofs.Ytifkmehnikfihaa
/- Two paths from the root: what they have in common. No program. -/
namespace Go.Proofs.Ytifkmehnikfihaa
open Go.RowKit

def rp (l : List Seg) (i : Nat) : List Nat := rootPath l (i + 1) i
theorem rootPath_fuel {l : List Seg} (hd : Down l l.length) : ∀ (f g i : Nat), i < l.length → i < f → i < g → rootPath l f i = rootPath l g i
  | 0, _, _, _, h, _ => absurd h (by omega)
  | _ + 1, 0, _, _, _, h => absurd h (by omega)
  | f + 1, g + 1, i, hi, hf, hg => by
    have h1 := hd i hi
    unfold rootPath
    by_cases hp : parAt l i < 0
    · rw [if_pos hp, if_pos hp]
    · rw [if_neg hp, if_neg hp, rootPath_fuel hd f g _ (by omega) (by omega) (by omega)]
theorem rp_root {l : List Seg} {i : Nat} (hp : parAt l i < 0) : rp l i = [i] := by
  unfold rp rootPath
  rw [if_pos hp]; rfl
theorem rp_step {l : List Seg} (hd : Down l l.length) {i p : Nat} (hi : i < l.length) (hp : parAt l i = (p : Int)) : rp l i = rp l p ++ [i] := by
  have h1 := hd i hi
  have h2 : rp l i = (if parAt l i < 0 then [] else rootPath l i (parAt l i).toNat) ++ [i] := rfl
  rw [h2, if_neg (by omega), hp, Int.toNat_natCast]
  unfold rp
  rw [rootPath_fuel hd i (p + 1) p (by omega) (by omega) (by omega)]
theorem par_cases {l : List Seg} (hd : Down l l.length) {i : Nat} (hi : i < l.length) : parAt l i < 0 ∨ ∃ p : Nat, parAt l i = (p : Int) ∧ p < i := by
  have h1 := hd i hi
  by_cases hp : parAt l i < 0
  · exact .inl hp
  · obtain ⟨p, hpe⟩ := Int.eq_ofNat_of_zero_le (show 0 ≤ parAt l i by omega)
    exact .inr ⟨p, hpe, by omega⟩
theorem rp_ind {l : List Seg} (hd : Down l l.length) {C : Nat → Prop} (h0 : ∀ i, i < l.length → parAt l i < 0 → C i) (h1 : ∀ i p, i < l.length → p < i → parAt l i = (p : Int) → C p → C i) : ∀ i, i < l.length → C i := by
  intro i
  induction i using Nat.strongRecOn with
  | ind i ih =>
    intro hi
    rcases par_cases hd hi with hp | ⟨p, hp, hpi⟩
    · exact h0 i hi hp
    · exact h1 i p hi hpi hp (ih p hpi (by omega))
theorem rp_last {l : List Seg} (hd : Down l l.length) (i : Nat) (hi : i < l.length) : ∃ A, rp l i = A ++ [i] := by
  rcases par_cases hd hi with hp | ⟨p, hp, _⟩
  · exact ⟨[], rp_root hp⟩
  · exact ⟨_, rp_step hd hi hp⟩
theorem rp_le {l : List Seg} (hd : Down l l.length) : ∀ i, i < l.length → ∀ v ∈ rp l i, v ≤ i :=
  rp_ind hd (fun i _ hp v hv => by rw [rp_root hp] at hv; simp at hv; omega) (fun i p hi hpi hp ih v hv => by
    rw [rp_step hd hi hp] at hv
    rcases List.mem_append.1 hv with h | h
    · have := ih v h; omega
    · simp at h; omega)
theorem rp_asc {l : List Seg} (hd : Down l l.length) : ∀ i, i < l.length → (rp l i).Pairwise (· < ·) :=
  rp_ind hd (fun i _ hp => by rw [rp_root hp]; exact List.pairwise_singleton _ _) (fun i p hi hpi hp ih => by
    rw [rp_step hd hi hp, List.pairwise_append]
    refine ⟨ih, List.pairwise_singleton _ _, fun a ha b hb => ?_⟩
    have := rp_le hd p (by omega) a ha
    simp at hb
    omega)
theorem rp_prefix {l : List Seg} (hd : Down l l.length) : ∀ i, i < l.length → ∀ v ∈ rp l i, rp l v <+: rp l i :=
  rp_ind hd (fun i _ hp v hv => by
    rw [rp_root hp] at hv
    simp at hv
    subst hv
    exact List.prefix_refl _) (fun i p hi hpi hp ih v hv => by
    have he := rp_step hd hi hp
    rw [he] at hv
    rcases List.mem_append.1 hv with h | h
    · rw [he]; exact (ih v h).trans (List.prefix_append _ _)
    · simp at h
      subst h
      exact List.prefix_refl _)
theorem par_nonneg {l : List Seg} (h : AllOk l l.length) {i : Nat} (hi : i < l.length) (h0 : 0 < i) : 0 ≤ parAt l i := by
  have h1 := h i hi
  rw [segOk_of hi] at h1
  simp only [Bool.and_eq_true] at h1
  have h2 := h1.2
  unfold parOk at h2
  rw [if_neg (by omega)] at h2
  exact (chain_mem (h.down.mono (Nat.le_of_lt hi)) i _ (by omega) _ (List.contains_iff_mem.1 h2)).1
theorem rp_head {l : List Seg} (h : AllOk l l.length) : ∀ i, i < l.length → ∃ A, rp l i = 0 :: A :=
  rp_ind h.down (fun i hi hp => by
    rcases Nat.eq_zero_or_pos i with rfl | h0
    · exact ⟨[], rp_root hp⟩
    · have := par_nonneg h hi h0; omega) (fun i p hi hpi hp ⟨A, hA⟩ => ⟨A ++ [i], by rw [rp_step h.down hi hp, hA]; rfl⟩)

def comLen {α : Type} [DecidableEq α] : List α → List α → Nat
  | a :: xs, b :: ys => if a = b then comLen xs ys + 1 else 0
  | _, _ => 0
theorem comLen_map {α β : Type} [DecidableEq α] [DecidableEq β] (f : α → β) : ∀ (xs ys : List α), (∀ a ∈ xs, ∀ b ∈ ys, f a = f b → a = b) → comLen (xs.map f) (ys.map f) = comLen xs ys
  | [], _, _ => by simp [comLen]
  | _ :: _, [], _ => by simp [comLen]
  | a :: xs, b :: ys, h => by
    have h1 := comLen_map f xs ys (fun x hx y hy => h x (List.mem_cons_of_mem _ hx) y (List.mem_cons_of_mem _ hy))
    simp only [List.map_cons, comLen]
    by_cases he : a = b
    · rw [if_pos he, if_pos (by rw [he]), h1]
    · rw [if_neg he, if_neg (fun e => he (h a List.mem_cons_self b List.mem_cons_self e))]
theorem comLen_prefix {α : Type} [DecidableEq α] : ∀ (Q xs ys : List α), Q <+: xs → Q <+: ys → Q.length ≤ comLen xs ys
  | [], _, _, _, _ => Nat.zero_le _
  | q :: Q, xs, ys, ⟨A, hA⟩, ⟨B, hB⟩ => by
    subst hA hB
    simp only [List.cons_append, comLen, List.length_cons, if_true]
    have := comLen_prefix Q (Q ++ A) (Q ++ B) ⟨A, rfl⟩ ⟨B, rfl⟩
    omega
theorem comLen_get {α : Type} [DecidableEq α] : ∀ (xs ys : List α) (k : Nat), k < comLen xs ys → ∃ x, xs[k]? = some x ∧ ys[k]? = some x
  | [], _, _, h => by simp [comLen] at h
  | _ :: _, [], _, h => by simp [comLen] at h
  | a :: xs, b :: ys, k, h => by
    simp only [comLen] at h
    by_cases he : a = b
    · rw [if_pos he] at h
      cases k with
      | zero => exact ⟨a, rfl, by rw [he]; rfl⟩
      | succ k => exact comLen_get xs ys k (by omega)
    · rw [if_neg he] at h; omega
theorem comLen_le {α : Type} [DecidableEq α] : ∀ (xs ys : List α), comLen xs ys ≤ xs.length ∧ comLen xs ys ≤ ys.length
  | [], _ => by simp [comLen]
  | _ :: _, [] => by simp [comLen]
  | a :: xs, b :: ys => by
    have h := comLen_le xs ys
    simp only [comLen, List.length_cons]
    split <;> omega

theorem snoc_unique {P A B : List Nat} {v : Nat} (hP : P.Pairwise (· < ·)) (hA : A ++ [v] <+: P) (hB : B ++ [v] <+: P) : A.length = B.length := by
  have hget : ∀ C, C ++ [v] <+: P → ∃ h : C.length < P.length, P[C.length] = v := fun C ⟨r, hr⟩ => by
    have hl : C.length < P.length := by rw [← hr]; simp
    refine ⟨hl, ?_⟩
    have : P[C.length]? = some v := by rw [← hr]; simp
    rw [List.getElem?_eq_getElem hl] at this
    injection this
  obtain ⟨ha, hva⟩ := hget A hA
  obtain ⟨hb, hvb⟩ := hget B hB
  have hp := List.pairwise_iff_getElem.1 hP
  rcases Nat.lt_trichotomy A.length B.length with h | h | h
  · have := hp _ _ ha hb h; omega
  · exact h
  · have := hp _ _ hb ha h; omega

/-- A beginning 'T' of the path of i, all on the path of j, behind which the path ends or leaves: it is what the two have in common. -/
theorem com_of {l : List Seg} (hd : Down l l.length) {i j : Nat} (hi : i < l.length) (hj : j < l.length) {T : List Nat} (hT : T <+: rp l i) (hall : ∀ v ∈ T, v ∈ rp l j)
    (hend : T = rp l i ∨ ∃ x, T ++ [x] <+: rp l i ∧ x ∉ rp l j) : comLen (rp l i) (rp l j) = T.length := by
  apply Nat.le_antisymm
  · apply Nat.le_of_not_lt
    intro hlt
    rcases hend with h | ⟨x, ⟨r, hr⟩, hx⟩
    · have := (comLen_le (rp l i) (rp l j)).1
      rw [h] at hlt; omega
    · obtain ⟨y, h1, h2⟩ := comLen_get _ _ _ hlt
      have h3 : (rp l i)[T.length]? = some x := by rw [← hr]; simp
      rw [h3] at h1
      injection h1 with h1
      subst h1
      exact hx (List.mem_of_getElem? h2)
  · rcases List.eq_nil_or_concat T with h | ⟨A, v, h⟩
    · rw [h]; exact Nat.zero_le _
    · rw [List.concat_eq_append] at h
      subst h
      have hv : v ∈ rp l j := hall v (by simp)
      obtain ⟨r, hr⟩ := hT
      have hvi : v ∈ rp l i := by rw [← hr]; simp
      have hvl : v < l.length := by have := rp_le hd i hi v hvi; omega
      obtain ⟨B, hB⟩ := rp_last hd v hvl
      have h1 := rp_prefix hd i hi v hvi
      have h2 := rp_prefix hd j hj v hv
      rw [hB] at h1 h2
      have hlen := snoc_unique (rp_asc hd i hi) ⟨r, hr⟩ h1
      have := comLen_prefix (B ++ [v]) _ _ h1 h2
      simp at this ⊢
      omega

end Go.Proofs.Ytifkmehnikfihaa
/- spec.CommonOf. -/
namespace Go.Proofs.Ytifkmehnikfihaa
open Go.RowKit

def byteOf (l : List Seg) (v : Nat) : UInt8 := (nmAt l v).headD 0
theorem nmAt_one {l : List Seg} (h : validB l = true) {v : Nat} (hv : v < l.length) : nmAt l v = [byteOf l v] ∧ l[v].name = ⟨#[byteOf l v]⟩ := by
  obtain ⟨c, hc, _⟩ := nameOk_one ((valid_all h).1.name hv (List.getElem?_eq_getElem hv))
  unfold byteOf
  rw [nmAt_of hv, hc]
  exact ⟨rfl, rfl⟩
theorem byteOf_inj {l : List Seg} (h : validB l = true) {u v : Nat} (hu : u < l.length) (hv : v < l.length) (he : byteOf l u = byteOf l v) : u = v := by
  have key : ∀ a b : Nat, a < b → b < l.length → byteOf l a ≠ byteOf l b := fun a b hab hb e => by
    have h1 := (valid_all h).1 b hb
    rw [segOk_of hb] at h1
    simp only [Bool.and_eq_true, Bool.not_eq_true'] at h1
    have h2 := h1.1.1.2
    have h3 : takenB (l.take b) l[b].name = true := by
      unfold takenB
      refine List.any_eq_true.2 ⟨l[a]'(by omega), ?_, sameB_iff.2 ?_⟩
      · exact List.mem_take_iff_getElem.2 ⟨a, by omega, rfl⟩
      · rw [(nmAt_one h (show a < l.length by omega)).2, (nmAt_one h hb).2, e]
    rw [h3] at h2
    cases h2
  rcases Nat.lt_trichotomy u v with h1 | h1 | h1
  · exact absurd he (key u v h1 hv)
  · exact h1
  · exact absurd he.symm (key v u h1 hu)
theorem namesAt_map {l : List Seg} (h : validB l = true) : ∀ js : List Nat, (∀ j ∈ js, j < l.length) → (namesAt l js).data.toList = js.map (byteOf l)
  | [], _ => rfl
  | j :: js, hj => by
    have h1 := namesAt_map h js (fun x hx => hj x (List.mem_cons_of_mem _ hx))
    have e : (namesAt l (j :: js)).data.toList = nmAt l j ++ (namesAt l js).data.toList := by simp [namesAt]
    rw [e, h1, (nmAt_one h (hj j List.mem_cons_self)).1]
    rfl

theorem comLen_drop (x y : List UInt8) : ∀ k, k ≤ comLen x y → comLen x y = k + comLen (x.drop k) (y.drop k)
  | 0, _ => by simp
  | k + 1, hk => by
    have h1 := comLen_drop x y k (by omega)
    obtain ⟨z, hx, hy⟩ := comLen_get x y k (by omega)
    have hxl := (List.getElem?_eq_some_iff.1 hx).1
    have hyl := (List.getElem?_eq_some_iff.1 hy).1
    have ex : x[k] = z := by rw [List.getElem?_eq_getElem hxl] at hx; injection hx
    have ey : y[k] = z := by rw [List.getElem?_eq_getElem hyl] at hy; injection hy
    rw [List.drop_eq_getElem_cons hxl, List.drop_eq_getElem_cons hyl, ex, ey] at h1
    simp only [comLen, if_true] at h1
    omega

def comBytes (x y : ByteArray) : Nat := comLen x.data.toList y.data.toList
theorem comBytes_at {x y : ByteArray} {k : Nat} (h : comBytes x y = k + comLen (x.data.toList.drop k) (y.data.toList.drop k)) (hx : k < x.size) (hy : k < y.size) :
    (x[k] = y[k] → comBytes x y = (k + 1) + comLen (x.data.toList.drop (k + 1)) (y.data.toList.drop (k + 1))) ∧ (x[k] ≠ y[k] → comBytes x y = k) := by
  have e1 : x.data.toList.drop k = x[k] :: x.data.toList.drop (k + 1) := List.drop_eq_getElem_cons (by simpa using hx)
  have e2 : y.data.toList.drop k = y[k] :: y.data.toList.drop (k + 1) := List.drop_eq_getElem_cons (by simpa using hy)
  rw [e1, e2] at h
  simp only [comLen] at h
  refine ⟨fun he => ?_, fun he => ?_⟩
  · rw [if_pos he] at h; omega
  · rw [if_neg he] at h; omega

end Go.Proofs.Ytifkmehnikfihaa

/- spec.CommonOf: the last name of the common beginning of two paths. -/
namespace Go.Proofs.Ytifkmehnikfihaa
open Go.RowKit

/-- The numbers of a found segment's path. -/
def pathIx (l : List Seg) (s : ByteArray) : List Nat := rp l (indexB l s).toNat
def comCount (l : List Seg) (s t : ByteArray) : Nat := comLen (pathIx l s) (pathIx l t)
def comStr (l : List Seg) (s t : ByteArray) : ByteArray := if indexB l s < 0 ∨ indexB l t < 0 then ⟨#[]⟩ else namesAt l [(pathIx l s).getD (comCount l s t - 1) 0]
def comOk (l : List Seg) (s t : ByteArray) : Bool := hasSeg l s && hasSeg l t

theorem pathStr_ix {l : List Seg} {s : ByteArray} (h : 0 ≤ indexB l s) : pathStr l s = namesAt l (pathIx l s) := if_neg (by omega)
theorem comCount_pos {l : List Seg} {s t : ByteArray} (h1 : 0 ≤ indexB l s) (h2 : 0 ≤ indexB l t) : 0 < comCount l s t := by
  have ok := (valid_all (index_valid h1)).1
  rcases indexB_bd l s with a1 | ⟨_, a1⟩
  · omega
  rcases indexB_bd l t with a2 | ⟨_, a2⟩
  · omega
  obtain ⟨A, hA⟩ := rp_head ok _ (show (indexB l s).toNat < l.length by omega)
  obtain ⟨B, hB⟩ := rp_head ok _ (show (indexB l t).toNat < l.length by omega)
  unfold comCount pathIx
  rw [hA, hB]
  simp [comLen]
theorem comBytes_ix {l : List Seg} {s t : ByteArray} (h1 : 0 ≤ indexB l s) (h2 : 0 ≤ indexB l t) : comBytes (pathStr l s) (pathStr l t) = comCount l s t := by
  have hv := index_valid h1
  have ok := (valid_all hv).1
  rcases indexB_bd l s with a1 | ⟨_, a1⟩
  · omega
  rcases indexB_bd l t with a2 | ⟨_, a2⟩
  · omega
  have b1 : ∀ j ∈ pathIx l s, j < l.length := fun j hj => by
    have := rp_le ok.down _ (show (indexB l s).toNat < l.length by omega) j hj
    omega
  have b2 : ∀ j ∈ pathIx l t, j < l.length := fun j hj => by
    have := rp_le ok.down _ (show (indexB l t).toNat < l.length by omega) j hj
    omega
  unfold comBytes comCount
  rw [pathStr_ix h1, pathStr_ix h2, namesAt_map hv _ b1, namesAt_map hv _ b2]
  exact comLen_map _ _ _ (fun a ha b hb he => byteOf_inj hv (b1 a ha) (b2 b hb) he)
theorem pathStr_size {l : List Seg} {s : ByteArray} (h1 : 0 ≤ indexB l s) : (pathStr l s).size = (pathIx l s).length ∧ (pathIx l s).length ≤ l.length := by
  have hv := index_valid h1
  have ok := (valid_all hv).1
  rcases indexB_bd l s with a1 | ⟨_, a1⟩
  · omega
  have b1 : ∀ j ∈ pathIx l s, j < l.length := fun j hj => by
    have := rp_le ok.down _ (show (indexB l s).toNat < l.length by omega) j hj
    omega
  refine ⟨?_, ?_⟩
  · have e := namesAt_map hv _ b1
    have e2 : (pathStr l s).size = (pathStr l s).data.toList.length := by simp
    rw [e2, pathStr_ix h1, e, List.length_map]
  · have := rootPath_len l ((indexB l s).toNat + 1) (indexB l s).toNat
    unfold pathIx rp
    omega
theorem comStr_cut {l : List Seg} {s t : ByteArray} (h1 : 0 ≤ indexB l s) (h2 : 0 ≤ indexB l t) (n : Nat) (hn : comCount l s t = n + 1) : (pathStr l s).extract n (n + 1) = comStr l s t := by
  have hv := index_valid h1
  have ok := (valid_all hv).1
  rcases indexB_bd l s with a1 | ⟨_, a1⟩
  · omega
  have b1 : ∀ j ∈ pathIx l s, j < l.length := fun j hj => by
    have := rp_le ok.down _ (show (indexB l s).toNat < l.length by omega) j hj
    omega
  have hle : n < (pathIx l s).length := by have := (comLen_le (pathIx l s) (pathIx l t)).1; unfold comCount at hn; omega
  have e1 : comStr l s t = namesAt l [(pathIx l s)[n]] := by
    unfold comStr
    rw [if_neg (by omega), hn]
    simp [List.getD, List.getElem?_eq_getElem hle]
  have hm : ∀ j ∈ [(pathIx l s)[n]], j < l.length := fun j hj => by
    rw [List.mem_singleton.1 hj]
    exact b1 _ (List.getElem_mem hle)
  have e2 := namesAt_map hv _ hm
  have e3 := namesAt_map hv _ b1
  rw [e1]
  apply ByteArray.ext
  apply Array.ext'
  rw [e2, pathStr_ix h1]
  have e4 : ((namesAt l (pathIx l s)).extract n (n + 1)).data.toList = (((namesAt l (pathIx l s)).data.toList).drop n).take 1 := by
    simp [ByteArray.data_extract]
  rw [e4, e3, ← List.map_drop, List.drop_eq_getElem_cons hle]
  rfl

end Go.Proofs.Ytifkmehnikfihaa

/- What the loop of impl.CommonOf leaves, plain. -/
namespace Go.Proofs.Ytifkmehnikfihaa
open Go.RowKit

def lastNm (l : List Seg) (T : List Nat) : ByteArray := namesAt l T.getLast?.toList
theorem lastNm_snoc {l : List Seg} (T : List Nat) {v : Nat} (hv : v < l.length) : lastNm l (T ++ [v]) = l[v].name := by
  unfold lastNm
  rw [List.getLast?_concat]
  apply ByteArray.ext
  apply Array.ext'
  simp [namesAt, nmAt_of hv]
theorem com_last {l : List Seg} {s t : ByteArray} (hs : 0 ≤ indexB l s) (ht : 0 ≤ indexB l t) {T : List Nat} (hT : T <+: pathIx l s) (hc : comCount l s t = T.length) : comStr l s t = lastNm l T := by
  have h0 := comCount_pos hs ht
  unfold comStr lastNm
  rw [if_neg (by omega), hc]
  rcases List.eq_nil_or_concat T with h | ⟨A, v, h⟩
  · subst h; simp at hc; omega
  · rw [List.concat_eq_append] at h
    subst h
    obtain ⟨r, hr⟩ := hT
    rw [← hr]
    simp [List.getD]
theorem com_end {l : List Seg} {s t : ByteArray} (hs : 0 ≤ indexB l s) (ht : 0 ≤ indexB l t) {T : List Nat} (hT : T <+: pathIx l s) (hall : ∀ v ∈ T, v ∈ pathIx l t) (hend : T = pathIx l s ∨ ∃ x, T ++ [x] <+: pathIx l s ∧ x ∉ pathIx l t) : comStr l s t = lastNm l T := by
  have hv := index_valid hs
  rcases indexB_bd l s with a1 | ⟨_, a1⟩
  · omega
  rcases indexB_bd l t with a2 | ⟨_, a2⟩
  · omega
  exact com_last hs ht hT (com_of (valid_all hv).1.down (by omega) (by omega) hT hall hend)

/-- A name among a path's names. -/
theorem has_name {l : List Seg} (h : validB l = true) {js : List Nat} (hj : ∀ j ∈ js, j < l.length) {v : Nat} (hv : v < l.length) :
    decide (0 ≤ Lib.indexByte (namesAt l js).data.toList (byteOf l v)) = decide (v ∈ js) := by
  rw [← Lib.contains_iff_indexByte, namesAt_map h js hj]
  by_cases hm : v ∈ js
  · rw [decide_eq_true hm]
    simp only [List.contains_eq_mem, List.mem_map, decide_eq_true_eq]
    exact ⟨v, hm, rfl⟩
  · rw [decide_eq_false hm]
    simp only [List.contains_eq_mem, List.mem_map, decide_eq_false_iff_not]
    rintro ⟨u, hu, he⟩
    exact hm (byteOf_inj h (hj u hu) hv he ▸ hu)

end Go.Proofs.Ytifkmehnikfihaa
/- The sorted order, plain: by the segment that is called, and of one segment as they stood. -/
namespace Go.Proofs.Ytifkmehnikfihaa
open Go.RowKit

/-- Who is called outermost. -/
def headsB : Forest → List UInt8
  | .nil => []
  | .cons c _ r => c :: headsB r
theorem headsB_app : ∀ f g : Forest, headsB (f.app g) = headsB f ++ headsB g
  | .nil, _ => rfl
  | .cons c k r, g => by
    show c :: headsB (r.app g) = (c :: headsB r) ++ headsB g
    rw [headsB_app r g]; rfl
theorem headsB_len : ∀ f : Forest, (headsB f).length = f.len
  | .nil => rfl
  | .cons c k r => by
    show (c :: headsB r).length = r.len + 1
    rw [List.length_cons, headsB_len r]
theorem headsB_all {P : UInt8 → Bool} : ∀ f : Forest, f.all P → ∀ c ∈ headsB f, P c = true
  | .nil, _, c, h => by cases h
  | .cons a k r, hf, c, h => by
    rcases List.mem_cons.1 h with rfl | h
    · exact hf.1
    · exact headsB_all r hf.2.2 c h
theorem headsB_tops : ∀ (f : Forest) (i : Nat), (topsB f)[i]? = none ∧ (headsB f)[i]? = none ∨ ∃ c x, (topsB f)[i]? = some (c :: x) ∧ (headsB f)[i]? = some c
  | .nil, _ => .inl ⟨rfl, rfl⟩
  | .cons c _ _, 0 => .inr ⟨c, _, rfl, rfl⟩
  | .cons _ _ r, i + 1 => headsB_tops r i

theorem names_list {l : List Seg} (hv : validB l = true) : (namesStr l).data.toList = (List.range l.length).map (byteOf l) := by
  have h1 : namesStr l = seenOf l l.length := if_pos hv
  rw [h1, ← range_names l l.length (Nat.le_refl _)]
  have : ∀ js : List Nat, (∀ j ∈ js, j < l.length) → js.flatMap (nmAt l) = js.map (byteOf l) := by
    intro js
    induction js with
    | nil => intro _; rfl
    | cons j js ih =>
      intro h
      rw [List.flatMap_cons, List.map_cons, ih fun x hx => h x (List.mem_cons_of_mem _ hx), (nmAt_one hv (h j List.mem_cons_self)).1]
      rfl
  exact this _ fun j hj => List.mem_range.1 hj
theorem indexByte_at : ∀ (xs : List UInt8) (t : Nat) (h : t < xs.length), (∀ j (hj : j < t), xs[j] ≠ xs[t]) → Lib.indexByte xs xs[t] = (t : Int)
  | [], t, h, _ => absurd h (by simp)
  | x :: xs, 0, _, _ => by
    show (if x == x then (0 : Int) else _) = 0
    rw [if_pos (beq_self_eq_true x)]
  | x :: xs, t + 1, h, hd => by
    have h0 : x ≠ xs[t]'(by simpa using h) := hd 0 (by omega)
    have ih := indexByte_at xs t (by simpa using h) fun j hj => hd (j + 1) (by omega)
    show (if x == xs[t]'_ then (0 : Int) else if Lib.indexByte xs (xs[t]'_) == -1 then -1 else Lib.indexByte xs (xs[t]'_) + 1) = _
    rw [if_neg (by simpa using h0), ih, if_neg (by rw [beq_iff_eq]; omega)]
    omega
/-- Where a name stands among all. -/
def placeOf (l : List Seg) (c : UInt8) : Int := Lib.indexByte (namesStr l).data.toList c
theorem placeOf_at {l : List Seg} (hv : validB l = true) {t : Nat} (ht : t < l.length) : placeOf l (byteOf l t) = (t : Int) := by
  unfold placeOf
  rw [names_list hv]
  have hl : t < ((List.range l.length).map (byteOf l)).length := by simpa using ht
  have h1 := indexByte_at ((List.range l.length).map (byteOf l)) t hl fun j hj => by
    rw [List.getElem_map, List.getElem_map, List.getElem_range, List.getElem_range]
    intro e
    have := byteOf_inj hv (by omega) ht e
    omega
  rw [List.getElem_map, List.getElem_range] at h1
  exact h1
theorem callP_byte11 {l : List Seg} (hv : validB l = true) {c : UInt8} (h : callP l c = true) : ∃ t, t < l.length ∧ byteOf l t = c := by
  rw [callP_taken hv] at h
  obtain ⟨s, hs, e⟩ := List.any_eq_true.1 h
  obtain ⟨t, ht, rfl⟩ := List.getElem_of_mem hs
  refine ⟨t, ht, ?_⟩
  have h1 := (nmAt_one hv ht).2
  have h2 := sameB_iff.1 e
  rw [h1] at h2
  injection h2 with h2
  injection h2 with h2
  injection h2

/-- Two lists in one strict order with the same members are the same. -/
theorem eq_of_strict {R : Nat → Nat → Prop} (irr : ∀ a, ¬ R a a) (tr : ∀ a b c, R a b → R b c → R a c) : ∀ (xs ys : List Nat), xs.Pairwise R → ys.Pairwise R → (∀ a, a ∈ xs ↔ a ∈ ys) → xs = ys
  | [], [], _, _, _ => rfl
  | [], b :: ys, _, _, h => absurd ((h b).2 List.mem_cons_self) (by simp)
  | a :: xs, [], _, _, h => absurd ((h a).1 List.mem_cons_self) (by simp)
  | a :: xs, b :: ys, hx, hy, h => by
    rw [List.pairwise_cons] at hx hy
    have hab : a = b := by
      rcases List.mem_cons.1 ((h a).1 List.mem_cons_self) with e | h1
      · exact e
      · rcases List.mem_cons.1 ((h b).2 List.mem_cons_self) with e | h2
        · exact e.symm
        · exact absurd (tr a b a (hx.1 b h2) (hy.1 a h1)) (irr a)
    subst hab
    rw [eq_of_strict irr tr xs ys hx.2 hy.2 fun c => ?_]
    constructor
    · intro hc
      rcases List.mem_cons.1 ((h c).1 (List.mem_cons_of_mem _ hc)) with e | h1
      · subst e; exact absurd (hx.1 _ hc) (irr _)
      · exact h1
    · intro hc
      rcases List.mem_cons.1 ((h c).2 (List.mem_cons_of_mem _ hc)) with e | h1
      · subst e; exact absurd (hy.1 _ hc) (irr _)
      · exact h1

/-- The calls of one segment, by their numbers. -/
def groupB (l : List Seg) (cs : List UInt8) (t : Nat) : List Nat := (List.range cs.length).filter fun i => cs.getD i 0 == byteOf l t
/-- The sorted order, as the reference puts it together. -/
def sortNat (l : List Seg) (cs : List UInt8) : List Nat := (List.range l.length).flatMap (groupB l cs)
def keyOf (l : List Seg) (cs : List UInt8) (i : Nat) : Int := placeOf l (cs.getD i 0)
theorem groupB_mem {l : List Seg} {cs : List UInt8} {t i : Nat} : i ∈ groupB l cs t ↔ i < cs.length ∧ cs.getD i 0 = byteOf l t := by
  unfold groupB
  rw [List.mem_filter, List.mem_range, beq_iff_eq]
theorem sortNat_mem {l : List Seg} {cs : List UInt8} (hv : validB l = true) (hc : ∀ c ∈ cs, callP l c = true) (i : Nat) : i ∈ sortNat l cs ↔ i < cs.length := by
  unfold sortNat
  rw [List.mem_flatMap]
  constructor
  · rintro ⟨t, _, h⟩
    exact (groupB_mem.1 h).1
  · intro hi
    have h1 : cs.getD i 0 ∈ cs := by
      rw [getD_in cs i 0 hi]; exact List.getElem_mem hi
    obtain ⟨t, ht, e⟩ := callP_byte11 hv (hc _ h1)
    exact ⟨t, List.mem_range.2 ht, groupB_mem.2 ⟨hi, e.symm⟩⟩
theorem range_lt (n : Nat) : (List.range n).Pairwise (· < ·) := by
  rw [List.pairwise_iff_getElem]
  intro i j hi hj hij
  rw [List.getElem_range, List.getElem_range]; exact hij
theorem sortNat_sorted {l : List Seg} {cs : List UInt8} (hv : validB l = true) : (sortNat l cs).Pairwise (Ahead (keyOf l cs)) := by
  unfold sortNat
  rw [List.pairwise_flatMap]
  refine ⟨fun t ht => ?_, ?_⟩
  · have ht' := List.mem_range.1 ht
    have h1 : (groupB l cs t).Pairwise (· < ·) := (range_lt _).sublist List.filter_sublist
    refine List.Pairwise.imp_of_mem (fun {a b} ha hb hab => ?_) h1
    refine .inr ⟨?_, hab⟩
    unfold keyOf
    rw [(groupB_mem.1 ha).2, (groupB_mem.1 hb).2]
  · refine List.Pairwise.imp_of_mem (fun {s t} hs ht hst => ?_) (range_lt l.length)
    intro a ha b hb
    refine .inl ?_
    unfold keyOf
    rw [(groupB_mem.1 ha).2, (groupB_mem.1 hb).2, placeOf_at hv (List.mem_range.1 hs), placeOf_at hv (List.mem_range.1 ht)]
    omega
/-- What the sort leaves is that order. -/
theorem sorted_is {l : List Seg} {cs : List UInt8} (hv : validB l = true) (hc : ∀ c ∈ cs, callP l c = true) {d : Nat → Nat} (hs : Sorted11 (keyOf l cs) d 0 cs.length) (hd : ∀ k, k < cs.length → d k < cs.length) : (List.range cs.length).map d = sortNat l cs := by
  have hp : ((List.range cs.length).map d).Pairwise (Ahead (keyOf l cs)) := by
    rw [List.pairwise_iff_getElem]
    intro i j hi hj hij
    rw [List.getElem_map, List.getElem_map, List.getElem_range, List.getElem_range]
    exact hs i j (Nat.zero_le _) hij (by simpa using hj)
  refine eq_of_strict (fun a h => h.irrefl) (fun a b c h k => h.trans k) _ _ hp (sortNat_sorted hv) fun a => ?_
  rw [sortNat_mem hv hc]
  constructor
  · intro ha
    obtain ⟨k, hk, e⟩ := List.mem_map.1 ha
    rw [← e]; exact hd k (List.mem_range.1 hk)
  · intro ha
    -- as many different numbers below n as there are
    have hn : (((List.range cs.length).map d).map (fun (x : Nat) => (x : Int))).Nodup := by
      rw [List.Nodup, List.pairwise_map]
      exact hp.imp fun {x y} h e => by
        have : x = y := by omega
        subst this; exact h.irrefl
    have h1 := all_of_nodup cs.length _ hn (fun x hx => by
      obtain ⟨y, hy, e⟩ := List.mem_map.1 hx
      obtain ⟨k, hk, e2⟩ := List.mem_map.1 hy
      have := hd k (List.mem_range.1 hk)
      omega) (by simp) a ha
    obtain ⟨y, hy, e⟩ := List.mem_map.1 h1
    have : y = a := by omega
    rw [← this]; exact hy
def sortRes (l : List Seg) (t : ByteArray) : List Int := match traceB l t.data.toList with
  | none => []
  | some f => (sortNat l (headsB f)).map fun (i : Nat) => (i : Int)

end Go.Proofs.Ytifkmehnikfihaa
