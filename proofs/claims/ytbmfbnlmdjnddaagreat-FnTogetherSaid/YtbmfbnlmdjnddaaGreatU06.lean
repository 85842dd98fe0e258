/- Joined: Cp Ep Pc Pd Cs Er Pe Qc Cm. -/
import Derived.Test.YtbmfbnlmdjnddaaGreatU05
import Derived.Test.YtbmfbnlmdjnddaaGreatU04
import Derived.BigQuiet
import Derived.Lib.IndexAny
/- Two paths from the root: what they have in common. No program. -/
namespace Go.Proofs.YtbmfbnlmdjnddaaGreat
open Go.RowKit

def rp (l : List Seg) (i : Nat) : List Nat := rootPath l (i + 1) i
theorem rootPath_fuel {l : List Seg} (hd : Down l l.length) : ∀ (f g i : Nat), i < l.length → i < f → i < g → rootPath l f i = rootPath l g i
  | 0, _, _, _, h, _ => absurd h (by omega)
  | _ + 1, 0, _, _, _, h => absurd h (by omega)
  | f + 1, g + 1, i, hi, hf, hg => by
    have h1 := hd i hi
    unfold rootPath
    by_cases hp : parAt l i < 0
    · rw [if_pos hp, if_pos hp]
    · rw [if_neg hp, if_neg hp, rootPath_fuel hd f g _ (by omega) (by omega) (by omega)]
theorem rp_root {l : List Seg} {i : Nat} (hp : parAt l i < 0) : rp l i = [i] := by
  unfold rp rootPath
  rw [if_pos hp]; rfl
theorem rp_step {l : List Seg} (hd : Down l l.length) {i p : Nat} (hi : i < l.length) (hp : parAt l i = (p : Int)) : rp l i = rp l p ++ [i] := by
  have h1 := hd i hi
  have h2 : rp l i = (if parAt l i < 0 then [] else rootPath l i (parAt l i).toNat) ++ [i] := rfl
  rw [h2, if_neg (by omega), hp, Int.toNat_natCast]
  unfold rp
  rw [rootPath_fuel hd i (p + 1) p (by omega) (by omega) (by omega)]
theorem par_cases {l : List Seg} (hd : Down l l.length) {i : Nat} (hi : i < l.length) : parAt l i < 0 ∨ ∃ p : Nat, parAt l i = (p : Int) ∧ p < i := by
  have h1 := hd i hi
  by_cases hp : parAt l i < 0
  · exact .inl hp
  · obtain ⟨p, hpe⟩ := Int.eq_ofNat_of_zero_le (show 0 ≤ parAt l i by omega)
    exact .inr ⟨p, hpe, by omega⟩
theorem rp_ind {l : List Seg} (hd : Down l l.length) {C : Nat → Prop} (h0 : ∀ i, i < l.length → parAt l i < 0 → C i) (h1 : ∀ i p, i < l.length → p < i → parAt l i = (p : Int) → C p → C i) : ∀ i, i < l.length → C i := by
  intro i
  induction i using Nat.strongRecOn with
  | ind i ih =>
    intro hi
    rcases par_cases hd hi with hp | ⟨p, hp, hpi⟩
    · exact h0 i hi hp
    · exact h1 i p hi hpi hp (ih p hpi (by omega))
theorem rp_last {l : List Seg} (hd : Down l l.length) (i : Nat) (hi : i < l.length) : ∃ A, rp l i = A ++ [i] := by
  rcases par_cases hd hi with hp | ⟨p, hp, _⟩
  · exact ⟨[], rp_root hp⟩
  · exact ⟨_, rp_step hd hi hp⟩
theorem rp_le {l : List Seg} (hd : Down l l.length) : ∀ i, i < l.length → ∀ v ∈ rp l i, v ≤ i :=
  rp_ind hd (fun i _ hp v hv => by rw [rp_root hp] at hv; simp at hv; omega) (fun i p hi hpi hp ih v hv => by
    rw [rp_step hd hi hp] at hv
    rcases List.mem_append.1 hv with h | h
    · have := ih v h; omega
    · simp at h; omega)
theorem rp_asc {l : List Seg} (hd : Down l l.length) : ∀ i, i < l.length → (rp l i).Pairwise (· < ·) :=
  rp_ind hd (fun i _ hp => by rw [rp_root hp]; exact List.pairwise_singleton _ _) (fun i p hi hpi hp ih => by
    rw [rp_step hd hi hp, List.pairwise_append]
    refine ⟨ih, List.pairwise_singleton _ _, fun a ha b hb => ?_⟩
    have := rp_le hd p (by omega) a ha
    simp at hb
    omega)
theorem rp_prefix {l : List Seg} (hd : Down l l.length) : ∀ i, i < l.length → ∀ v ∈ rp l i, rp l v <+: rp l i :=
  rp_ind hd (fun i _ hp v hv => by
    rw [rp_root hp] at hv
    simp at hv
    subst hv
    exact List.prefix_refl _) (fun i p hi hpi hp ih v hv => by
    have he := rp_step hd hi hp
    rw [he] at hv
    rcases List.mem_append.1 hv with h | h
    · rw [he]; exact (ih v h).trans (List.prefix_append _ _)
    · simp at h
      subst h
      exact List.prefix_refl _)
theorem par_nonneg {l : List Seg} (h : AllOk l l.length) {i : Nat} (hi : i < l.length) (h0 : 0 < i) : 0 ≤ parAt l i := by
  have h1 := h i hi
  rw [segOk_of hi] at h1
  simp only [Bool.and_eq_true] at h1
  have h2 := h1.2
  unfold parOk at h2
  rw [if_neg (by omega)] at h2
  exact (chain_mem (h.down.mono (Nat.le_of_lt hi)) i _ (by omega) _ (List.contains_iff_mem.1 h2)).1
theorem rp_head {l : List Seg} (h : AllOk l l.length) : ∀ i, i < l.length → ∃ A, rp l i = 0 :: A :=
  rp_ind h.down (fun i hi hp => by
    rcases Nat.eq_zero_or_pos i with rfl | h0
    · exact ⟨[], rp_root hp⟩
    · have := par_nonneg h hi h0; omega) (fun i p hi hpi hp ⟨A, hA⟩ => ⟨A ++ [i], by rw [rp_step h.down hi hp, hA]; rfl⟩)

def comLen {α : Type} [DecidableEq α] : List α → List α → Nat
  | a :: xs, b :: ys => if a = b then comLen xs ys + 1 else 0
  | _, _ => 0
theorem comLen_map {α β : Type} [DecidableEq α] [DecidableEq β] (f : α → β) : ∀ (xs ys : List α), (∀ a ∈ xs, ∀ b ∈ ys, f a = f b → a = b) → comLen (xs.map f) (ys.map f) = comLen xs ys
  | [], _, _ => by simp [comLen]
  | _ :: _, [], _ => by simp [comLen]
  | a :: xs, b :: ys, h => by
    have h1 := comLen_map f xs ys (fun x hx y hy => h x (List.mem_cons_of_mem _ hx) y (List.mem_cons_of_mem _ hy))
    simp only [List.map_cons, comLen]
    by_cases he : a = b
    · rw [if_pos he, if_pos (by rw [he]), h1]
    · rw [if_neg he, if_neg (fun e => he (h a List.mem_cons_self b List.mem_cons_self e))]
theorem comLen_prefix {α : Type} [DecidableEq α] : ∀ (Q xs ys : List α), Q <+: xs → Q <+: ys → Q.length ≤ comLen xs ys
  | [], _, _, _, _ => Nat.zero_le _
  | q :: Q, xs, ys, ⟨A, hA⟩, ⟨B, hB⟩ => by
    subst hA hB
    simp only [List.cons_append, comLen, List.length_cons, if_true]
    have := comLen_prefix Q (Q ++ A) (Q ++ B) ⟨A, rfl⟩ ⟨B, rfl⟩
    omega
theorem comLen_get {α : Type} [DecidableEq α] : ∀ (xs ys : List α) (k : Nat), k < comLen xs ys → ∃ x, xs[k]? = some x ∧ ys[k]? = some x
  | [], _, _, h => by simp [comLen] at h
  | _ :: _, [], _, h => by simp [comLen] at h
  | a :: xs, b :: ys, k, h => by
    simp only [comLen] at h
    by_cases he : a = b
    · rw [if_pos he] at h
      cases k with
      | zero => exact ⟨a, rfl, by rw [he]; rfl⟩
      | succ k => exact comLen_get xs ys k (by omega)
    · rw [if_neg he] at h; omega
theorem comLen_le {α : Type} [DecidableEq α] : ∀ (xs ys : List α), comLen xs ys ≤ xs.length ∧ comLen xs ys ≤ ys.length
  | [], _ => by simp [comLen]
  | _ :: _, [] => by simp [comLen]
  | a :: xs, b :: ys => by
    have h := comLen_le xs ys
    simp only [comLen, List.length_cons]
    split <;> omega

theorem snoc_unique {P A B : List Nat} {v : Nat} (hP : P.Pairwise (· < ·)) (hA : A ++ [v] <+: P) (hB : B ++ [v] <+: P) : A.length = B.length := by
  have hget : ∀ C, C ++ [v] <+: P → ∃ h : C.length < P.length, P[C.length] = v := fun C ⟨r, hr⟩ => by
    have hl : C.length < P.length := by rw [← hr]; simp
    refine ⟨hl, ?_⟩
    have : P[C.length]? = some v := by rw [← hr]; simp
    rw [List.getElem?_eq_getElem hl] at this
    injection this
  obtain ⟨ha, hva⟩ := hget A hA
  obtain ⟨hb, hvb⟩ := hget B hB
  have hp := List.pairwise_iff_getElem.1 hP
  rcases Nat.lt_trichotomy A.length B.length with h | h | h
  · have := hp _ _ ha hb h; omega
  · exact h
  · have := hp _ _ hb ha h; omega

/-- A beginning 'T' of the path of i, all on the path of j, behind which the path ends or leaves: it is what the two have in common. -/
theorem com_of {l : List Seg} (hd : Down l l.length) {i j : Nat} (hi : i < l.length) (hj : j < l.length) {T : List Nat} (hT : T <+: rp l i) (hall : ∀ v ∈ T, v ∈ rp l j)
    (hend : T = rp l i ∨ ∃ x, T ++ [x] <+: rp l i ∧ x ∉ rp l j) : comLen (rp l i) (rp l j) = T.length := by
  apply Nat.le_antisymm
  · apply Nat.le_of_not_lt
    intro hlt
    rcases hend with h | ⟨x, ⟨r, hr⟩, hx⟩
    · have := (comLen_le (rp l i) (rp l j)).1
      rw [h] at hlt; omega
    · obtain ⟨y, h1, h2⟩ := comLen_get _ _ _ hlt
      have h3 : (rp l i)[T.length]? = some x := by rw [← hr]; simp
      rw [h3] at h1
      injection h1 with h1
      subst h1
      exact hx (List.mem_of_getElem? h2)
  · rcases List.eq_nil_or_concat T with h | ⟨A, v, h⟩
    · rw [h]; exact Nat.zero_le _
    · rw [List.concat_eq_append] at h
      subst h
      have hv : v ∈ rp l j := hall v (by simp)
      obtain ⟨r, hr⟩ := hT
      have hvi : v ∈ rp l i := by rw [← hr]; simp
      have hvl : v < l.length := by have := rp_le hd i hi v hvi; omega
      obtain ⟨B, hB⟩ := rp_last hd v hvl
      have h1 := rp_prefix hd i hi v hvi
      have h2 := rp_prefix hd j hj v hv
      rw [hB] at h1 h2
      have hlen := snoc_unique (rp_asc hd i hi) ⟨r, hr⟩ h1
      have := comLen_prefix (B ++ [v]) _ _ h1 h2
      simp at this ⊢
      omega

end Go.Proofs.YtbmfbnlmdjnddaaGreat
/- Where segments lie. No program. -/
namespace Go.Proofs.YtbmfbnlmdjnddaaGreat
open Go.RowKit

end Go.Proofs.YtbmfbnlmdjnddaaGreat
/- Where a node lies: the program's own place, by the parents. -/
namespace Go.Proofs.YtbmfbnlmdjnddaaGreat
open Go.RowKit

/-- What place reads of the nodes. -/
def Placed (w : World) (l : List Seg) (nb : Nat → Nat) : Prop := ∀ j, j < l.length → nb j < w.heap.size ∧ w.cell? ⟨nb j, 1, none⟩ = some (.int .i64 (sizeAt l j)) ∧ w.cell? ⟨nb j, 2, none⟩ = some (.pointer (parPtr l nb j))
theorem Placed.below {w w' : World} {l : List Seg} {nb : Nat → Nat} (h : Placed w l nb) (hb : Below w.heap.size w w') : Placed w' l nb := fun j hj => by
  obtain ⟨h1, h2, h3⟩ := h j hj
  exact ⟨Nat.lt_of_lt_of_le h1 hb.size, (hb.cell (p := ⟨nb j, 1, none⟩) h1).trans h2, (hb.cell (p := ⟨nb j, 2, none⟩) h1).trans h3⟩
end Go.Proofs.YtbmfbnlmdjnddaaGreat
/- The program's rooms: where segments begin and end, the whole room, what is saved. -/
namespace Go.Proofs.YtbmfbnlmdjnddaaGreat
open Go.RowKit

end Go.Proofs.YtbmfbnlmdjnddaaGreat
/- spec.CommonOf. -/
namespace Go.Proofs.YtbmfbnlmdjnddaaGreat
open Go.RowKit

def byteOf (l : List Seg) (v : Nat) : UInt8 := (nmAt l v).headD 0
theorem nmAt_one {l : List Seg} (h : validB l = true) {v : Nat} (hv : v < l.length) : nmAt l v = [byteOf l v] ∧ l[v].name = ⟨#[byteOf l v]⟩ := by
  obtain ⟨c, hc, _⟩ := nameOk_one ((valid_all h).1.name hv (List.getElem?_eq_getElem hv))
  unfold byteOf
  rw [nmAt_of hv, hc]
  exact ⟨rfl, rfl⟩
theorem byteOf_inj {l : List Seg} (h : validB l = true) {u v : Nat} (hu : u < l.length) (hv : v < l.length) (he : byteOf l u = byteOf l v) : u = v := by
  have key : ∀ a b : Nat, a < b → b < l.length → byteOf l a ≠ byteOf l b := fun a b hab hb e => by
    have h1 := (valid_all h).1 b hb
    rw [segOk_of hb] at h1
    simp only [Bool.and_eq_true, Bool.not_eq_true'] at h1
    have h2 := h1.1.1.2
    have h3 : takenB (l.take b) l[b].name = true := by
      unfold takenB
      refine List.any_eq_true.2 ⟨l[a]'(by omega), ?_, sameB_iff.2 ?_⟩
      · exact List.mem_take_iff_getElem.2 ⟨a, by omega, rfl⟩
      · rw [(nmAt_one h (show a < l.length by omega)).2, (nmAt_one h hb).2, e]
    rw [h3] at h2
    cases h2
  rcases Nat.lt_trichotomy u v with h1 | h1 | h1
  · exact absurd he (key u v h1 hv)
  · exact h1
  · exact absurd he.symm (key v u h1 hu)
theorem namesAt_map {l : List Seg} (h : validB l = true) : ∀ js : List Nat, (∀ j ∈ js, j < l.length) → (namesAt l js).data.toList = js.map (byteOf l)
  | [], _ => rfl
  | j :: js, hj => by
    have h1 := namesAt_map h js (fun x hx => hj x (List.mem_cons_of_mem _ hx))
    have e : (namesAt l (j :: js)).data.toList = nmAt l j ++ (namesAt l js).data.toList := by simp [namesAt]
    rw [e, h1, (nmAt_one h (hj j List.mem_cons_self)).1]
    rfl

def comBytes (x y : ByteArray) : Nat := comLen x.data.toList y.data.toList
theorem comBytes_at {x y : ByteArray} {k : Nat} (h : comBytes x y = k + comLen (x.data.toList.drop k) (y.data.toList.drop k)) (hx : k < x.size) (hy : k < y.size) :
    (x[k] = y[k] → comBytes x y = (k + 1) + comLen (x.data.toList.drop (k + 1)) (y.data.toList.drop (k + 1))) ∧ (x[k] ≠ y[k] → comBytes x y = k) := by
  have e1 : x.data.toList.drop k = x[k] :: x.data.toList.drop (k + 1) := List.drop_eq_getElem_cons (by simpa using hx)
  have e2 : y.data.toList.drop k = y[k] :: y.data.toList.drop (k + 1) := List.drop_eq_getElem_cons (by simpa using hy)
  rw [e1, e2] at h
  simp only [comLen] at h
  refine ⟨fun he => ?_, fun he => ?_⟩
  · rw [if_pos he] at h; omega
  · rw [if_neg he] at h; omega

set_option maxRecDepth 100000 in
set_option maxHeartbeats 1000000 in
theorem l1Common_any (x y : ByteArray) (w : World) (hx : x.size ≤ 1048576) (_ : y.size ≤ 1048576) :
    Calls Tryz.prog 179 #[.string x, .string y] w fun e w' => e = .returned (.int .i64 (comBytes x y)) ∧ Below w.heap.size w w' := by
  go_enter Tryz.func179, Tryz.ntmps179
  go_wp2
  go_loopw [5] (fun i wr => ∃ k : Nat, k ≤ x.size ∧ k ≤ y.size ∧ i = .int .i64 k ∧ Hid (comBytes x y = k + comLen (x.data.toList.drop k) (y.data.toList.drop k)) ∧ Below w.heap.size w wr)
    (fun i _ => x.size - (intOf i).toNat)
  case atStart => exact ⟨0, Nat.zero_le _, Nat.zero_le _, rfl, (Nat.zero_add _).symm, Below.refl _ _⟩
  case round =>
    obtain ⟨k, hkx, hky, rfl, HK, hb⟩ := hrel
    have hk0 : (0 : Int) ≤ (k : Int) := Int.natCast_nonneg _
    by_cases hlx : k < x.size
    · have g1 : decide (k < x.size) = true := decide_eq_true hlx
      have hlx' : (k : Int) < (x.size : Int) := by omega
      by_cases hly : k < y.size
      · have g2 : decide (k < y.size) = true := decide_eq_true hly
        have hly' : (k : Int) < (y.size : Int) := by omega
        obtain ⟨ha, hbn⟩ := comBytes_at HK.out hlx hly
        by_cases he : x[k] = y[k]
        · have HA := Lib.hid (ha he)
          have ht : ((x[k].toNat : Int) == (y[k].toNat : Int)) = true := by rw [he]; simp
          clear ha hbn he HK
          go_wp2_with fail
          go_quiet (fail)
          go_wp2
          go_roundw
          case rel => exact ⟨k + 1, by omega, by omega, by go_num, HA, below_drewN hb _⟩
          case measure => simp [intOf]; omega
        · have HA := Lib.hid (hbn he)
          have ht : ((x[k].toNat : Int) == (y[k].toNat : Int)) = false := by
            rw [beq_eq_false_iff_ne]
            exact fun e => he (UInt8.toNat_inj.1 (by omega))
          clear ha hbn he HK
          go_wp2_with fail
          go_quiet (fail)
          go_wp2
          go_ret
          exact ⟨ret_int (by rw [HA.out]), below_drewN hb _⟩
      · have g2 : decide (k < y.size) = false := decide_eq_false hly
        have HA : Hid (comBytes x y = k) := by
          show _ = _
          rw [HK.out, List.drop_of_length_le (l := y.data.toList) (by simp; omega)]
          cases x.data.toList.drop k <;> simp [comLen]
        clear HK
        go_wp2_with fail
        go_quiet (fail)
        go_wp2
        go_ret
        exact ⟨ret_int (by rw [HA.out]), below_drewN hb _⟩
    · have g1 : decide (k < x.size) = false := decide_eq_false hlx
      have HA : Hid (comBytes x y = k) := by
        show _ = _
        rw [HK.out, List.drop_of_length_le (l := x.data.toList) (by simp; omega)]
        simp [comLen]
      clear HK
      go_wp2_with fail
      go_quiet (fail)
      go_wp2
      go_ret
      exact ⟨ret_int (by rw [HA.out]), below_drewN hb _⟩

end Go.Proofs.YtbmfbnlmdjnddaaGreat

/- spec.CommonOf: the last name of the common beginning of two paths. -/
namespace Go.Proofs.YtbmfbnlmdjnddaaGreat
open Go.RowKit

/-- The numbers of a found segment's path. -/
def pathIx (l : List Seg) (s : ByteArray) : List Nat := rp l (indexB l s).toNat
def comCount (l : List Seg) (s t : ByteArray) : Nat := comLen (pathIx l s) (pathIx l t)
def comStr (l : List Seg) (s t : ByteArray) : ByteArray := if indexB l s < 0 ∨ indexB l t < 0 then ⟨#[]⟩ else namesAt l [(pathIx l s).getD (comCount l s t - 1) 0]
def comOk (l : List Seg) (s t : ByteArray) : Bool := hasSeg l s && hasSeg l t

theorem pathStr_ix {l : List Seg} {s : ByteArray} (h : 0 ≤ indexB l s) : pathStr l s = namesAt l (pathIx l s) := if_neg (by omega)
theorem comCount_pos {l : List Seg} {s t : ByteArray} (h1 : 0 ≤ indexB l s) (h2 : 0 ≤ indexB l t) : 0 < comCount l s t := by
  have ok := (valid_all (index_valid h1)).1
  rcases indexB_bd l s with a1 | ⟨_, a1⟩
  · omega
  rcases indexB_bd l t with a2 | ⟨_, a2⟩
  · omega
  obtain ⟨A, hA⟩ := rp_head ok _ (show (indexB l s).toNat < l.length by omega)
  obtain ⟨B, hB⟩ := rp_head ok _ (show (indexB l t).toNat < l.length by omega)
  unfold comCount pathIx
  rw [hA, hB]
  simp [comLen]
theorem comBytes_ix {l : List Seg} {s t : ByteArray} (h1 : 0 ≤ indexB l s) (h2 : 0 ≤ indexB l t) : comBytes (pathStr l s) (pathStr l t) = comCount l s t := by
  have hv := index_valid h1
  have ok := (valid_all hv).1
  rcases indexB_bd l s with a1 | ⟨_, a1⟩
  · omega
  rcases indexB_bd l t with a2 | ⟨_, a2⟩
  · omega
  have b1 : ∀ j ∈ pathIx l s, j < l.length := fun j hj => by
    have := rp_le ok.down _ (show (indexB l s).toNat < l.length by omega) j hj
    omega
  have b2 : ∀ j ∈ pathIx l t, j < l.length := fun j hj => by
    have := rp_le ok.down _ (show (indexB l t).toNat < l.length by omega) j hj
    omega
  unfold comBytes comCount
  rw [pathStr_ix h1, pathStr_ix h2, namesAt_map hv _ b1, namesAt_map hv _ b2]
  exact comLen_map _ _ _ (fun a ha b hb he => byteOf_inj hv (b1 a ha) (b2 b hb) he)
theorem pathStr_size {l : List Seg} {s : ByteArray} (h1 : 0 ≤ indexB l s) : (pathStr l s).size = (pathIx l s).length ∧ (pathIx l s).length ≤ l.length := by
  have hv := index_valid h1
  have ok := (valid_all hv).1
  rcases indexB_bd l s with a1 | ⟨_, a1⟩
  · omega
  have b1 : ∀ j ∈ pathIx l s, j < l.length := fun j hj => by
    have := rp_le ok.down _ (show (indexB l s).toNat < l.length by omega) j hj
    omega
  refine ⟨?_, ?_⟩
  · have e := namesAt_map hv _ b1
    have e2 : (pathStr l s).size = (pathStr l s).data.toList.length := by simp
    rw [e2, pathStr_ix h1, e, List.length_map]
  · have := rootPath_len l ((indexB l s).toNat + 1) (indexB l s).toNat
    unfold pathIx rp
    omega
theorem comStr_cut {l : List Seg} {s t : ByteArray} (h1 : 0 ≤ indexB l s) (h2 : 0 ≤ indexB l t) (n : Nat) (hn : comCount l s t = n + 1) : (pathStr l s).extract n (n + 1) = comStr l s t := by
  have hv := index_valid h1
  have ok := (valid_all hv).1
  rcases indexB_bd l s with a1 | ⟨_, a1⟩
  · omega
  have b1 : ∀ j ∈ pathIx l s, j < l.length := fun j hj => by
    have := rp_le ok.down _ (show (indexB l s).toNat < l.length by omega) j hj
    omega
  have hle : n < (pathIx l s).length := by have := (comLen_le (pathIx l s) (pathIx l t)).1; unfold comCount at hn; omega
  have e1 : comStr l s t = namesAt l [(pathIx l s)[n]] := by
    unfold comStr
    rw [if_neg (by omega), hn]
    simp [List.getD, List.getElem?_eq_getElem hle]
  have hm : ∀ j ∈ [(pathIx l s)[n]], j < l.length := fun j hj => by
    rw [List.mem_singleton.1 hj]
    exact b1 _ (List.getElem_mem hle)
  have e2 := namesAt_map hv _ hm
  have e3 := namesAt_map hv _ b1
  rw [e1]
  apply ByteArray.ext
  apply Array.ext'
  rw [e2, pathStr_ix h1]
  have e4 : ((namesAt l (pathIx l s)).extract n (n + 1)).data.toList = (((namesAt l (pathIx l s)).data.toList).drop n).take 1 := by
    simp [ByteArray.data_extract]
  rw [e4, e3, ← List.map_drop, List.drop_eq_getElem_cons hle]
  rfl

set_option maxRecDepth 100000 in
set_option maxHeartbeats 1000000 in
theorem specCommon_any (A : Option Addr) (l : List Seg) (c : Nat) (s t : ByteArray) (w : World) (hw : Segs w w.heap.size A l) (hl : l.length ≤ 1048576) (hn : Short l) :
    Calls Tryz.prog 121 #[.slice A l.length c, .string s, .string t] w fun e w' => e = .returned (.tuple #[.string (comStr l s t), .bool (comOk l s t)]) ∧ Below w.heap.size w w' := by
  have HW : Hid (Segs w w.heap.size A l) := hw
  clear hw
  have HS : Hid (hasSeg l s = decide (0 ≤ indexB l s)) := rfl
  have HT : Hid (hasSeg l t = decide (0 ≤ indexB l t)) := rfl
  by_cases hs : 0 ≤ indexB l s
  · by_cases ht : 0 ≤ indexB l t
    · have h1 : hasSeg l s = true := decide_eq_true hs
      have h2 : hasSeg l t = true := decide_eq_true ht
      have HO : Hid (comOk l s t = true) := by
        show _ = _
        unfold comOk
        rw [h1, h2]
        rfl
      obtain ⟨n, hn1⟩ : ∃ n, comCount l s t = n + 1 := ⟨comCount l s t - 1, by have := comCount_pos hs ht; omega⟩
      have HC := Lib.hid (comStr_cut hs ht n hn1)
      have HB := Lib.hid ((comBytes_ix hs ht).trans hn1)
      have hp1 := pathStr_size hs
      have hp2 := pathStr_size ht
      have hz1 : (pathStr l s).size ≤ 1048576 := by omega
      have hz2 : (pathStr l t).size ≤ 1048576 := by omega
      have hle : n + 1 ≤ (pathStr l s).size := by
        have := (comLen_le (pathIx l s) (pathIx l t)).1
        unfold comCount at hn1
        omega
      clear hp1 hp2 hn1 hs ht HS HT
      go_enter Tryz.func121, Tryz.ntmps121
      go_wp2_with fail
      refine (specPath_any _ _ _ _ _ HW.out hl hn).mono ?_
      rw [h1]
      rintro e w1 ⟨rfl, hb1⟩
      go_wp2_with fail
      refine (specPath_any _ _ _ _ _ ((HW.out.below hb1).more hb1.size) hl hn).mono ?_
      rw [h2]
      rintro e w2 ⟨rfl, hb2⟩
      have B2 := hb1.trans (hb2.mono hb1.size)
      clear hb1 hb2 h1 h2
      go_wp2_with fail
      refine (l1Common_any _ _ _ hz1 hz2).mono ?_
      rw [HB.out]
      rintro e w3 ⟨rfl, hb3⟩
      have B3 := B2.trans (hb3.mono B2.size)
      clear hb3 B2
      have hlo : (0 : Int) ≤ (n : Int) := Int.natCast_nonneg _
      go_wp2
      go_ret2
      exact ⟨ret_two (by rw [← HC.out]) HO.out.symm, B3⟩
    · have h2 : hasSeg l t = false := decide_eq_false ht
      have HF : Hid (comStr l s t = ⟨#[]⟩ ∧ comOk l s t = false) := ⟨if_pos (.inr (by omega)), by unfold comOk; rw [h2, Bool.and_false]⟩
      clear hs ht HS HT
      go_enter Tryz.func121, Tryz.ntmps121
      go_wp2_with fail
      refine (specPath_any _ _ _ _ _ HW.out hl hn).mono ?_
      rintro e w1 ⟨rfl, hb1⟩
      go_wp2_with fail
      refine (specPath_any _ _ _ _ _ ((HW.out.below hb1).more hb1.size) hl hn).mono ?_
      rw [h2]
      rintro e w2 ⟨rfl, hb2⟩
      have B2 := hb1.trans (hb2.mono hb1.size)
      clear hb1 hb2 h2
      go_wp2
      all_goals go_ret2
      all_goals exact ⟨ret_two HF.out.1.symm HF.out.2.symm, B2⟩
  · have h1 : hasSeg l s = false := decide_eq_false hs
    have HF : Hid (comStr l s t = ⟨#[]⟩ ∧ comOk l s t = false) := ⟨if_pos (.inl (by omega)), by unfold comOk; rw [h1, Bool.false_and]⟩
    clear hs HS HT
    go_enter Tryz.func121, Tryz.ntmps121
    go_wp2_with fail
    refine (specPath_any _ _ _ _ _ HW.out hl hn).mono ?_
    rw [h1]
    rintro e w1 ⟨rfl, hb1⟩
    go_wp2_with fail
    refine (specPath_any _ _ _ _ _ ((HW.out.below hb1).more hb1.size) hl hn).mono ?_
    rintro e w2 ⟨rfl, hb2⟩
    have B2 := hb1.trans (hb2.mono hb1.size)
    clear hb1 hb2 h1
    go_wp2
    all_goals go_ret2
    all_goals exact ⟨ret_two HF.out.1.symm HF.out.2.symm, B2⟩

end Go.Proofs.YtbmfbnlmdjnddaaGreat

/- What the loop of impl.CommonOf leaves, plain. -/
namespace Go.Proofs.YtbmfbnlmdjnddaaGreat
open Go.RowKit

def lastNm (l : List Seg) (T : List Nat) : ByteArray := namesAt l T.getLast?.toList
theorem lastNm_snoc {l : List Seg} (T : List Nat) {v : Nat} (hv : v < l.length) : lastNm l (T ++ [v]) = l[v].name := by
  unfold lastNm
  rw [List.getLast?_concat]
  apply ByteArray.ext
  apply Array.ext'
  simp [namesAt, nmAt_of hv]
theorem com_last {l : List Seg} {s t : ByteArray} (hs : 0 ≤ indexB l s) (ht : 0 ≤ indexB l t) {T : List Nat} (hT : T <+: pathIx l s) (hc : comCount l s t = T.length) : comStr l s t = lastNm l T := by
  have h0 := comCount_pos hs ht
  unfold comStr lastNm
  rw [if_neg (by omega), hc]
  rcases List.eq_nil_or_concat T with h | ⟨A, v, h⟩
  · subst h; simp at hc; omega
  · rw [List.concat_eq_append] at h
    subst h
    obtain ⟨r, hr⟩ := hT
    rw [← hr]
    simp [List.getD]
end Go.Proofs.YtbmfbnlmdjnddaaGreat
/- Segments that lie together, and over an address. No program. -/
namespace Go.Proofs.YtbmfbnlmdjnddaaGreat
open Go.RowKit

theorem com_common {l : List Seg} {s t : ByteArray} (hs : 0 ≤ indexB l s) (ht : 0 ≤ indexB l t) : ∃ v, comStr l s t = namesAt l [v] ∧ v ∈ pathIx l s ∧ v ∈ pathIx l t := by
  have h0 := comCount_pos hs ht
  obtain ⟨v, h1, h2⟩ := comLen_get (pathIx l s) (pathIx l t) (comCount l s t - 1) (by unfold comCount at h0 ⊢; omega)
  refine ⟨v, ?_, List.mem_of_getElem? h1, List.mem_of_getElem? h2⟩
  unfold comStr
  rw [if_neg (by omega)]
  simp [List.getD, h1]
theorem index_lt {l : List Seg} {s : ByteArray} (h : 0 ≤ indexB l s) : (indexB l s).toNat < l.length := by
  rcases indexB_bd l s with a | ⟨_, a⟩ <;> omega
theorem index_nm {l : List Seg} {s : ByteArray} (h : 0 ≤ indexB l s) : namesAt l [(indexB l s).toNat] = s := by
  have hv := index_valid h
  have h1 : indexB l s = seek l s := if_pos hv
  obtain ⟨x, hx, hn⟩ := seek_name (l := l) (s := s) (j := (indexB l s).toNat) (by omega)
  have hlt := index_lt h
  rw [← List.nil_append [(indexB l s).toNat], namesAt_snoc [] hlt]
  rw [List.getElem?_eq_getElem hlt] at hx
  injection hx with hx
  rw [hx, hn]
  apply ByteArray.ext
  simp [namesAt]
theorem namesAt_one_inj {l : List Seg} (hv : validB l = true) {u v : Nat} (hu : u < l.length) (hv' : v < l.length) (h : namesAt l [u] = namesAt l [v]) : u = v := by
  have h1 := namesAt_map hv [u] (fun j hj => by rw [List.mem_singleton.1 hj]; exact hu)
  have h2 := namesAt_map hv [v] (fun j hj => by rw [List.mem_singleton.1 hj]; exact hv')
  rw [h, h2] at h1
  exact (byteOf_inj hv hv' hu (by simpa using h1)).symm
/-- The common name is the first one's: it lies on the other one's path. -/
theorem lie_left {l : List Seg} {s t : ByteArray} (hs : 0 ≤ indexB l s) (ht : 0 ≤ indexB l t) : comStr l s t = s ↔ (indexB l s).toNat ∈ pathIx l t := by
  have hv := index_valid hs
  have hd := (valid_all hv).1.down
  have hi := index_lt hs
  have hj := index_lt ht
  constructor
  · intro h
    obtain ⟨v, h1, h2, h3⟩ := com_common hs ht
    have hvl : v < l.length := Nat.lt_of_le_of_lt (rp_le hd _ hi v h2) hi
    have he := namesAt_one_inj hv hvl hi (by rw [← h1, h, index_nm hs])
    rw [← he]; exact h3
  · intro h
    have hp := rp_prefix hd _ hj _ h
    have hc := com_of hd hi hj (T := pathIx l s) (List.prefix_refl _) (fun v hv => hp.subset hv) (.inl rfl)
    have := com_last hs ht (T := pathIx l s) (List.prefix_refl _) hc
    rw [this]
    obtain ⟨A, hA⟩ := rp_last hd _ hi
    have e : pathIx l s = A ++ [(indexB l s).toNat] := hA
    rw [e]
    unfold lastNm
    rw [List.getLast?_concat]
    exact index_nm hs
theorem lie_right {l : List Seg} {s t : ByteArray} (hs : 0 ≤ indexB l s) (ht : 0 ≤ indexB l t) : comStr l s t = t ↔ (indexB l t).toNat ∈ pathIx l s := by
  have hv := index_valid hs
  have hd := (valid_all hv).1.down
  have hi := index_lt hs
  have hj := index_lt ht
  constructor
  · intro h
    obtain ⟨v, h1, h2, h3⟩ := com_common hs ht
    have hvl : v < l.length := Nat.lt_of_le_of_lt (rp_le hd _ hi v h2) hi
    have he := namesAt_one_inj hv hvl hj (by rw [← h1, h, index_nm ht])
    rw [← he]; exact h2
  · intro h
    have hp := rp_prefix hd _ hi _ h
    have hp' : pathIx l t <+: pathIx l s := hp
    have hend : pathIx l t = rp l (indexB l s).toNat ∨ ∃ x, pathIx l t ++ [x] <+: rp l (indexB l s).toNat ∧ x ∉ rp l (indexB l t).toNat := by
      obtain ⟨r, hr⟩ := hp'
      cases r with
      | nil => left; rw [List.append_nil] at hr; exact hr
      | cons x r =>
        right
        refine ⟨x, ⟨r, by rw [List.append_assoc]; exact hr⟩, fun hx => ?_⟩
        have ha := rp_asc hd _ hi
        have hr' : rp l (indexB l s).toNat = pathIx l t ++ x :: r := hr.symm
        rw [hr', List.pairwise_append] at ha
        have := ha.2.2 x hx x List.mem_cons_self
        omega
    have hc := com_of hd hi hj (T := pathIx l t) hp' (fun v hv => hv) hend
    have := com_last hs ht (T := pathIx l t) hp' hc
    rw [this]
    obtain ⟨A, hA⟩ := rp_last hd _ hj
    have e : pathIx l t = A ++ [(indexB l t).toNat] := hA
    rw [e]
    unfold lastNm
    rw [List.getLast?_concat]
    exact index_nm ht

/-- Two segments of which one is on the other one's path. -/
def lieB (l : List Seg) (s t : ByteArray) : Bool := comOk l s t && (decide ((indexB l s).toNat ∈ pathIx l t) || decide ((indexB l t).toNat ∈ pathIx l s))

end Go.Proofs.YtbmfbnlmdjnddaaGreat
/- The program's rooms: RoomOf, SavedRoom, Overlap. -/
namespace Go.Proofs.YtbmfbnlmdjnddaaGreat
open Go.RowKit

set_option maxRecDepth 100000 in
set_option maxHeartbeats 400000 in
theorem findTwo_bad (A : Option Addr) (l : List Seg) (c : Nat) (s t : ByteArray) (w : World) (hw : Segs w w.heap.size A l) (hl : l.length ≤ 1048576) (hlc : l.length ≤ c) (hcm : c ≤ 9223372036854775807) (hn : Short l) (hv : validB l = false) :
    Calls Tryz.prog 71 #[.slice A l.length c, .string s, .string t] w fun e w' => e = .returned (.tuple #[.pointer none, .pointer none]) ∧ Below w.heap.size w w' := by
  have HW : Hid (Segs w w.heap.size A l) := hw
  clear hw
  go_enter Tryz.func71, Tryz.ntmps71
  go_wp2_with fail
  refine (nodesOf_bad _ _ _ _ HW.out hl hlc hcm hn hv).mono ?_
  rintro e w1 ⟨rfl, hb1⟩
  go_wp2_with fail
  refine (findNode_nil _ _).mono ?_
  rintro e w2 ⟨rfl, rfl⟩
  go_wp2_with fail
  refine (findNode_nil _ _).mono ?_
  rintro e w2 ⟨rfl, rfl⟩
  go_wp2
  go_ret2
  exact ⟨rfl, hb1⟩

/-- What is behind findTwo where the tree is valid. -/
def TwoPost (w : World) (l : List Seg) (s t : ByteArray) (e : Ending) (w' : World) : Prop :=
  ∃ g nb cv, e = .returned (.tuple #[.pointer (foundPtr l nb s), .pointer (foundPtr l nb t)]) ∧ Nodes w' w.heap.size g l.length l.length l nb cv ∧ Below w.heap.size w w'

set_option maxRecDepth 100000 in
set_option maxHeartbeats 400000 in
theorem findTwo_any (A : Option Addr) (l : List Seg) (c : Nat) (s t : ByteArray) (w : World) (hw : Segs w w.heap.size A l) (hl : l.length ≤ 1048576) (hlc : l.length ≤ c) (hcm : c ≤ 9223372036854775807) (hn : Short l) (hv : validB l = true) :
    Calls Tryz.prog 71 #[.slice A l.length c, .string s, .string t] w (TwoPost w l s t) := by
  have HW : Hid (Segs w w.heap.size A l) := hw
  clear hw
  go_enter Tryz.func71, Tryz.ntmps71
  go_wp2_with fail
  refine (nodesOf_any _ _ _ _ HW.out hl hlc hcm hn hv).mono ?_
  rintro e w1 ⟨g, nb, cv, rfl, hN, hb1⟩
  have HN := Lib.hid hN
  clear hN
  go_wp2_with fail
  refine (findNode_any _ _ _ _ _ _ _ HN.out hl).mono ?_
  rintro e w2 ⟨rfl, rfl⟩
  go_wp2_with fail
  refine (findNode_any _ _ _ _ _ _ _ HN.out hl).mono ?_
  rintro e w2 ⟨rfl, rfl⟩
  go_wp2
  go_ret2
  exact ⟨g, nb, cv, rfl, HN.out, hb1⟩

end Go.Proofs.YtbmfbnlmdjnddaaGreat
/- The program's LongestPath. -/
namespace Go.Proofs.YtbmfbnlmdjnddaaGreat
open Go.RowKit Go.Shelf

theorem Nodes.below {w w' : World} {B g m k : Nat} {l : List Seg} {nb : Nat → Nat} {cv : Nat → Value} (h : Nodes w B g m k l nb cv) (hb : Below w.heap.size w w') : Nodes w' B g m k l nb cv := by
  obtain ⟨cs, hg, hcs, hci⟩ := h.row
  refine ⟨⟨cs, hg.below hb hg.lt, hcs, hci⟩, fun i t hi ht => ?_, fun i t hi hi2 ht => ?_, fun i hi => ?_, h.apart, h.apartC, h.notg, h.low⟩
  · have h1 := h.node i t hi ht
    exact h1.below hb h1.lt
  · have h1 := h.fresh i t hi hi2 ht
    exact h1.below hb h1.lt
  · exact own_keep (h.kids i hi) fun b hb' => hb.block b ((h.kids i hi).lt b hb').2

end Go.Proofs.YtbmfbnlmdjnddaaGreat
/- impl.CommonOf where both are found. -/
namespace Go.Proofs.YtbmfbnlmdjnddaaGreat
open Go.RowKit Go.Shelf
attribute [local go_sem] Oper.semAt_some

theorem row_grown {W W' : World} {b : Nat} {t : TypeId} {cs : Array Value} {row : Option Nat} (h : Row W b t cs) (hg : W.grownBy W' row) {B : Nat} (hr : ∀ r, row = some r → B ≤ r ∧ ∃ o : Obj, W.heap[r]? = some o ∧ o.isCells = false) : Row W' b t cs :=
  (hg.block b h.lt (fun he => by
    obtain ⟨_, o, ho, hc⟩ := hr b he.symm
    have h' : W.heap[b]? = some (.cells cs t (0, 0)) := h
    rw [h'] at ho
    injection ho with ho
    subst ho
    cases hc)).trans h
theorem keepsN_set {B : Nat} (W : World) (p : Addr) (v : Value) (hp : p.block < B) : KeepsN B W (W.setCell p v) :=
  ⟨by simp, fun k o hk ho _ => (Below.heap_setCell W p v k (by omega)).trans ho⟩
/-- What the loop keeps: the box of the answer, the box of the names. -/
structure Loop2 (w1 : World) (l : List Seg) (R : List Nat) (nm : ByteArray) (b2 : Nat) (T : List Nat) (W : World) : Prop where
  box : Row W w1.heap.size 9 #[.string (lastNm l T)]
  names : Row W b2 9 #[.string nm]
  below : Below w1.heap.size w1 W
  all : ∀ v ∈ T, v ∈ R
theorem Loop2.grown {w1 W W' : World} {l : List Seg} {R T : List Nat} {nm : ByteArray} {b2 B : Nat} {row : Option Nat} (h : Loop2 w1 l R nm b2 T W) (hg : W.grownBy W' row) (hB : w1.heap.size ≤ B) (hr : ∀ r, row = some r → B ≤ r ∧ ∃ o : Obj, W.heap[r]? = some o ∧ o.isCells = false) : Loop2 w1 l R nm b2 T W' :=
  ⟨row_grown h.box hg hr, row_grown h.names hg hr, h.below.grown hg h.below.size (fun k e => by have := (hr k e).1; omega), h.all⟩
theorem Loop2.drew {w1 W : World} {l : List Seg} {R T : List Nat} {nm : ByteArray} {b2 : Nat} (h : Loop2 w1 l R nm b2 T W) : Loop2 w1 l R nm b2 T W.drew := ⟨h.box, h.names, h.below.drew, h.all⟩
theorem Loop2.step {w1 W : World} {l : List Seg} {R T : List Nat} {nm a : ByteArray} {b2 : Nat} (h : Loop2 w1 l R nm b2 T W) (hb2 : w1.heap.size < b2) {v : Nat} (hv : v < l.length) (hR : v ∈ R) (ha : l[v].name = a) :
    Loop2 w1 l R nm b2 (T ++ [v]) (W.setCell ⟨w1.heap.size, 0, none⟩ (.string a)) := by
  refine ⟨?_, Row.far h.names (by show b2 ≠ w1.heap.size; omega) _, h.below.setCell (Nat.le_refl _) _, fun u hu => ?_⟩
  · have := Row.put h.box 0 (.string a)
    rw [lastNm_snoc T hv, ha]
    exact this
  · rcases List.mem_append.1 hu with hu | hu
    · exact h.all u hu
    · rw [List.mem_singleton.1 hu]; exact hR

end Go.Proofs.YtbmfbnlmdjnddaaGreat
