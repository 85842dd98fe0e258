/- Joined: Xd Ds Du Rj. -/
import Derived.Test.YtifkmehnikfihaaGreatU09
import Derived.Test.YtifkmehnikfihaaGreatU13
import Derived.Test.YtifkmehnikfihaaGreatU23
import Derived.Test.YtifkmehnikfihaaGreatU05
import Derived.Lib.IndexBytes
import Derived.Test.YtifkmehnikfihaaGreatU06
/- The law FnWithout: what is written is read again, plain; what is left of calls. -/
namespace Go.Proofs.YtifkmehnikfihaaGreat
open Go.RowKit

/-- What was read is what is written. -/
theorem rd_text (P : UInt8 → Bool) : ∀ (n d : Nat) (s : List UInt8) f r, rd P n d s = some (f, r) → s = textB f ++ r
  | 0, _, _, _, _, e => by cases e
  | n + 1, d, [], f, r, e => by
    injection e with e
    injection e with e1 e2
    subst e1 e2
    rfl
  | n + 1, d, c :: s, f, r, e => by
    unfold rd at e
    split at e
    · injection e with e
      injection e with e1 e2
      subst e1 e2
      rfl
    · unfold thenBy at e
      split at e
      · cases e
      · next k r1 h2 =>
        split at e
        · cases e
        · next f' r2 h4 =>
          injection e with e
          injection e with e1 e2
          subst e1 e2
          have h5 := rd_text P n d r1 _ _ h4
          have h6 : s = (if k.isNil = true then [] else 40 :: (textB k ++ [41])) ++ r1 := by
            unfold callBy at h2
            split at h2
            · cases h2
            · next d' =>
              split at h2
              · unfold innerBy at h2
                split at h2
                · injection h2 with h2
                  injection h2 with h2 h3
                  subst h2 h3
                  rfl
                · next x u =>
                  split at h2
                  · next hx40 =>
                    unfold closed at h2
                    split at h2
                    · cases h2
                    · cases h2
                    · cases h2
                    · next c' k' f'' x' r'' h7 =>
                      split at h2
                      · next hx41 =>
                        injection h2 with h2
                        injection h2 with h2 h3
                        subst h2 h3
                        have h8 := rd_text P n d' u _ _ h7
                        rw [hx40, h8, hx41]
                        show _ = 40 :: (textB _ ++ [41]) ++ _
                        simp
                      · cases h2
                  · injection h2 with h2
                    injection h2 with h2 h3
                    subst h2 h3
                    rfl
              · cases h2
          show c :: s = c :: (_ ++ textB f') ++ r2
          rw [h6, h5]
          simp
theorem calls_text {P : UInt8 → Bool} {d : Nat} {s : List UInt8} {f : Forest} {r : List UInt8} (h : calls P d s = some (f, r)) : s = textB f ++ r := rd_text P _ d s f r h
/-- What is written is read. -/
theorem text_calls {P : UInt8 → Bool} (hP : ∀ c, P c = true → c ≠ 40 ∧ c ≠ 41) : ∀ (f : Forest) (d : Nat) (r : List UInt8), f.all P → f.deep ≤ d → (r = [] ∨ ∃ u, r = 41 :: u) → calls P d (textB f ++ r) = some (f, r)
  | .nil, d, r, _, _, hr => by
    rcases hr with rfl | ⟨u, rfl⟩
    · exact calls_nil P d
    · exact calls_close P d u
  | .cons c k g, d, r, ha, hd, hr => by
    obtain ⟨hc, hk, hg⟩ := ha
    have hd1 : k.deep + 1 ≤ d := Nat.le_trans (Nat.le_max_left _ _) hd
    have hd2 : g.deep ≤ d := Nat.le_trans (Nat.le_max_right _ _) hd
    obtain ⟨e, rfl⟩ : ∃ e, d = e + 1 := ⟨d - 1, by omega⟩
    have ihg := text_calls hP g (e + 1) r hg hd2 hr
    have hA : callA P (e + 1) c ((if k.isNil = true then [] else 40 :: (textB k ++ [41])) ++ (textB g ++ r)) = some (k, textB g ++ r) := by
      cases k with
      | nil =>
        show callA P (e + 1) c (textB g ++ r) = _
        refine callA_leaf hc ?_
        intro x u hx
        cases g with
        | nil =>
          rcases hr with rfl | ⟨v, rfl⟩
          · cases hx
          · injection hx with h1 h2
            rw [← h1]
            decide
        | cons c' k' g' =>
          injection hx with h1 h2
          rw [← h1]
          exact (hP c' hg.1).1
      | cons c' k' f' =>
        show callA P (e + 1) c (40 :: (textB (.cons c' k' f') ++ [41]) ++ (textB g ++ r)) = _
        rw [List.cons_append, List.append_assoc, callA_open hc]
        rw [text_calls hP (.cons c' k' f') e ([41] ++ (textB g ++ r)) hk (by omega) (.inr ⟨_, rfl⟩)]
        rfl
    show calls P (e + 1) (c :: ((if k.isNil = true then [] else 40 :: (textB k ++ [41])) ++ textB g) ++ r) = _
    rw [List.cons_append, List.append_assoc, calls_cons P (e + 1) _ (hP c hc).2, hA]
    unfold thenBy
    dsimp only
    rw [ihg]
theorem callP_sign {l : List Seg} (c : UInt8) (h : callP l c = true) : c ≠ 40 ∧ c ≠ 41 := by
  have := callP_letter h
  refine ⟨fun e => ?_, fun e => ?_⟩
  all_goals
    subst e
    exact absurd this.1 (by decide)

theorem lessB_all {P : UInt8 → Bool} (n : ByteArray) : ∀ f : Forest, f.all P → (lessB n f).all P
  | .nil, _ => trivial
  | .cons c k r, h => by
    obtain ⟨h1, h2, h3⟩ := h
    show (if _ then lessB n r else .cons c (lessB n k) (lessB n r) : Forest).all P
    split
    · exact lessB_all n r h3
    · exact ⟨h1, lessB_all n k h2, lessB_all n r h3⟩
theorem lessB_le (n : ByteArray) : ∀ f : Forest, (lessB n f).size ≤ f.size ∧ (lessB n f).deep ≤ f.deep ∧ (textB (lessB n f)).length ≤ (textB f).length
  | .nil => ⟨Nat.le_refl _, Nat.le_refl _, Nat.le_refl _⟩
  | .cons c k r => by
    obtain ⟨k1, k2, k3⟩ := lessB_le n k
    obtain ⟨r1, r2, r3⟩ := lessB_le n r
    have hz : (textB (.cons c k r)).length = 1 + ((if k.isNil = true then 0 else (textB k).length + 2) + (textB r).length) := by
      show (c :: ((if k.isNil = true then [] else 40 :: (textB k ++ [41])) ++ textB r)).length = _
      rw [List.length_cons, List.length_append]
      split <;> simp <;> omega
    show (if _ then lessB n r else .cons c (lessB n k) (lessB n r) : Forest).size ≤ k.size + r.size + 1 ∧ (if _ then lessB n r else .cons c (lessB n k) (lessB n r) : Forest).deep ≤ max (k.deep + 1) r.deep ∧ (textB (if _ then lessB n r else .cons c (lessB n k) (lessB n r))).length ≤ _
    split
    · refine ⟨by omega, by omega, ?_⟩
      rw [hz]; omega
    · refine ⟨by show (lessB n k).size + (lessB n r).size + 1 ≤ _; omega, by show max ((lessB n k).deep + 1) (lessB n r).deep ≤ _; omega, ?_⟩
      rw [hz]
      show (c :: ((if (lessB n k).isNil = true then [] else 40 :: (textB (lessB n k) ++ [41])) ++ textB (lessB n r))).length ≤ _
      rw [List.length_cons, List.length_append]
      cases k with
      | nil =>
        show _ + _ + 1 ≤ 1 + (0 + _)
        show 0 + _ + 1 ≤ _
        omega
      | cons c' k' f' =>
        show _ ≤ 1 + ((textB (.cons c' k' f')).length + 2 + (textB r).length)
        split
        · simp only [List.length_nil]; omega
        · simp only [List.length_cons, List.length_append, List.length_nil]; omega
theorem lessB_again (n : ByteArray) : ∀ f : Forest, lessB n (lessB n f) = lessB n f
  | .nil => rfl
  | .cons c k r => by
    show lessB n (if (⟨#[c]⟩ : ByteArray) = n then lessB n r else .cons c (lessB n k) (lessB n r)) = if (⟨#[c]⟩ : ByteArray) = n then lessB n r else .cons c (lessB n k) (lessB n r)
    by_cases h : (⟨#[c]⟩ : ByteArray) = n
    · rw [if_pos h]; exact lessB_again n r
    · rw [if_neg h]
      show (if (⟨#[c]⟩ : ByteArray) = n then _ else Forest.cons c (lessB n (lessB n k)) (lessB n (lessB n r))) = _
      rw [if_neg h, lessB_again n k, lessB_again n r]

end Go.Proofs.YtifkmehnikfihaaGreat
/- The calls put in another order: what is read of them, plain. -/
namespace Go.Proofs.YtifkmehnikfihaaGreat
open Go.RowKit

/-- The call of one number, alone. -/
def pick11 : Forest → Nat → Forest
  | .nil, _ => .nil
  | .cons c k _, 0 => .cons c k .nil
  | .cons _ _ r, i + 1 => pick11 r i
/-- The calls of these numbers, one behind the other. -/
def ordF (f : Forest) : List Nat → Forest
  | [] => .nil
  | i :: xs => (pick11 f i).app (ordF f xs)
theorem textB_nil11 : textB .nil = [] := rfl
theorem pick_text : ∀ (f : Forest) (i : Nat), textB (pick11 f i) = (topsB f).getD i []
  | .nil, _ => rfl
  | .cons c k r, 0 => by
    show textB (.cons c k .nil) = textOne c k
    rw [textB_cons, textB_nil11, List.append_nil]
  | .cons c k r, i + 1 => pick_text r i
theorem pick_text' (f : Forest) (i : Nat) : textB (pick11 f i) = (((topsB f).map strOf).getD i ⟨#[]⟩).data.toList := by
  rw [pick_text, List.getD_eq_getElem?_getD, List.getD_eq_getElem?_getD, List.getElem?_map]
  cases (topsB f)[i]? with
  | none => rfl
  | some x => show x = (strOf x).data.toList; unfold strOf; simp
theorem ord_text (f : Forest) : ∀ xs : List Nat, textB (ordF f xs) = joinO ((topsB f).map strOf) (xs.map fun (k : Nat) => (k : Int))
  | [] => rfl
  | i :: xs => by
    show textB ((pick11 f i).app (ordF f xs)) = _
    rw [textB_app, ord_text f xs, pick_text']
    unfold joinO
    simp
theorem all_app11 {P : UInt8 → Bool} : ∀ {f g : Forest}, f.all P → g.all P → (f.app g).all P
  | .nil, _, _, h => h
  | .cons _ _ _, _, hf, hg => ⟨hf.1, hf.2.1, all_app11 hf.2.2 hg⟩
theorem pick_all {P : UInt8 → Bool} : ∀ (f : Forest) (i : Nat), f.all P → (pick11 f i).all P
  | .nil, _, _ => trivial
  | .cons _ _ _, 0, h => ⟨h.1, h.2.1, trivial⟩
  | .cons _ _ r, i + 1, h => pick_all r i h.2.2
theorem ord_all {P : UInt8 → Bool} (f : Forest) (h : f.all P) : ∀ xs : List Nat, (ordF f xs).all P
  | [] => trivial
  | i :: xs => all_app11 (pick_all f i h) (ord_all f h xs)
theorem deep_app11 : ∀ f g : Forest, (f.app g).deep = max f.deep g.deep
  | .nil, g => by show g.deep = max 0 g.deep; omega
  | .cons c k r, g => by
    show max (k.deep + 1) (r.app g).deep = max (max (k.deep + 1) r.deep) g.deep
    rw [deep_app11 r g]; omega
theorem pick_deep : ∀ (f : Forest) (i : Nat), (pick11 f i).deep ≤ f.deep
  | .nil, _ => Nat.le_refl _
  | .cons c k r, 0 => by
    show max (k.deep + 1) 0 ≤ max (k.deep + 1) r.deep
    omega
  | .cons c k r, i + 1 => by
    have := pick_deep r i
    show (pick11 r i).deep ≤ max (k.deep + 1) r.deep
    omega
theorem ord_deep (f : Forest) : ∀ xs : List Nat, (ordF f xs).deep ≤ f.deep
  | [] => Nat.zero_le _
  | i :: xs => by
    show ((pick11 f i).app (ordF f xs)).deep ≤ _
    rw [deep_app11]
    have := pick_deep f i
    have := ord_deep f xs
    omega
theorem pick_heads : ∀ (f : Forest) (i : Nat), i < f.len → headsB (pick11 f i) = [(headsB f).getD i 0]
  | .nil, _, h => absurd h (by show ¬ _ < 0; omega)
  | .cons _ _ _, 0, _ => rfl
  | .cons c k r, i + 1, h => pick_heads r i (by have : i + 1 < r.len + 1 := h; omega)
theorem ord_heads (f : Forest) : ∀ xs : List Nat, (∀ x ∈ xs, x < f.len) → headsB (ordF f xs) = xs.map fun i => (headsB f).getD i 0
  | [], _ => rfl
  | i :: xs, h => by
    show headsB ((pick11 f i).app (ordF f xs)) = _
    rw [headsB_app, pick_heads f i (h i List.mem_cons_self), ord_heads f xs fun x hx => h x (List.mem_cons_of_mem _ hx)]
    rfl
theorem ord_len (f : Forest) : ∀ xs : List Nat, (textB (ordF f xs)).length = (xs.map fun i => ((topsB f).getD i []).length).sum
  | [] => rfl
  | i :: xs => by
    show (textB ((pick11 f i).app (ordF f xs))).length = _
    rw [textB_app, List.length_append, ord_len f xs, pick_text, List.map_cons, List.sum_cons]
theorem text_len11 : ∀ f : Forest, (textB f).length = ((List.range f.len).map fun i => ((topsB f).getD i []).length).sum
  | .nil => rfl
  | .cons c k r => by
    rw [textB_cons, List.length_append, text_len11 r]
    show _ = ((List.range (r.len + 1)).map _).sum
    rw [List.range_succ_eq_map, List.map_cons, List.sum_cons, List.map_map]
    rfl
/-- What is read when the calls stand in another order. -/
theorem trace_ord {l : List Seg} {t : List UInt8} {f : Forest} (h : traceB l t = some f) {xs : List Nat} (hp : xs.Perm (List.range f.len)) : traceB l (joinO ((topsB f).map strOf) (xs.map fun (k : Nat) => (k : Int))) = some (ordF f xs) := by
  obtain ⟨hv, h80, hc⟩ := traceB_some h
  have hl : (textB (ordF f xs)).length ≤ 80 := by
    rw [ord_len, (hp.map _).sum_nat, ← text_len11]
    have := calls_text hc
    rw [List.append_nil] at this
    rw [← this]; exact h80
  rw [← ord_text]
  have h1 := text_calls (P := callP l) callP_sign (ordF f xs) 8 [] (ord_all f (traceB_all h) xs) (Nat.le_trans (ord_deep f xs) (traceB_size h).2) (.inl rfl)
  rw [List.append_nil] at h1
  unfold traceB
  rw [if_pos (by rw [hv]; simp [hl]), h1]
theorem sortNat_perm {l : List Seg} {cs : List UInt8} (hv : validB l = true) (hc : ∀ c ∈ cs, callP l c = true) : (sortNat l cs).Perm (List.range cs.length) := by
  have hn : (sortNat l cs).Nodup := (sortNat_sorted hv).imp fun {a b} h e => by
    subst e; exact h.irrefl
  rw [List.perm_ext_iff_of_nodup hn List.nodup_range]
  intro a
  rw [sortNat_mem hv hc, List.mem_range]
/-- Once sorted, it stays. -/
theorem sort_again {l : List Seg} {t : ByteArray} {f : Forest} (h : traceB l t.data.toList = some f) : sortRes l (strOf (joinO (topsRes l t) (sortRes l t))) = (List.range f.len).map fun (k : Nat) => (k : Int) := by
  obtain ⟨hv, -, -⟩ := traceB_some h
  have ha := headsB_all f (traceB_all h)
  have hp := sortNat_perm hv ha
  rw [headsB_len] at hp
  have e1 : topsRes l t = (topsB f).map strOf := by unfold topsRes; rw [h]
  have e2 : sortRes l t = (sortNat l (headsB f)).map fun (k : Nat) => (k : Int) := by unfold sortRes; rw [h]
  have h2 := trace_ord h hp
  have h3 : traceB l (strOf (joinO (topsRes l t) (sortRes l t))).data.toList = some (ordF f (sortNat l (headsB f))) := by
    have hso : ∀ x : List UInt8, (strOf x).data.toList = x := fun x => by unfold strOf; simp
    rw [e1, e2, hso]
    exact h2
  have e3 : sortRes l (strOf (joinO (topsRes l t) (sortRes l t))) = (sortNat l (headsB (ordF f (sortNat l (headsB f))))).map fun (k : Nat) => (k : Int) := by
    show (match traceB l _ with | none => [] | some f => (sortNat l (headsB f)).map fun (i : Nat) => (i : Int)) = _
    rw [h3]
  have hlt : ∀ x ∈ sortNat l (headsB f), x < f.len := fun x hx => by
    have := (sortNat_mem hv ha x).1 hx
    rw [headsB_len] at this; exact this
  have h4 := ord_heads f _ hlt
  have hn : (sortNat l (headsB f)).length = f.len := by rw [hp.length_eq, List.length_range]
  have hall := headsB_all _ (traceB_all h3)
  have hcl : (headsB (ordF f (sortNat l (headsB f)))).length = f.len := by rw [h4, List.length_map, hn]
  have hs : Sorted11 (keyOf l (headsB (ordF f (sortNat l (headsB f))))) id 0 (headsB (ordF f (sortNat l (headsB f)))).length := by
    intro i j _ hij hj
    rw [hcl] at hj
    have hpw := List.pairwise_iff_getElem.1 (sortNat_sorted (cs := headsB f) hv) i j (by omega) (by omega) hij
    have hk : ∀ i (hi : i < (sortNat l (headsB f)).length), keyOf l (headsB (ordF f (sortNat l (headsB f)))) i = keyOf l (headsB f) (sortNat l (headsB f))[i] := fun i hi => by
      unfold keyOf
      rw [h4, getD_in _ _ _ (by rw [List.length_map]; exact hi), List.getElem_map]
    show Ahead _ i j
    unfold Ahead at hpw ⊢
    rw [hk i (by omega), hk j (by omega)]
    rcases hpw with h | ⟨h, _⟩
    · exact .inl h
    · exact .inr ⟨h, hij⟩
  rw [e3, ← sorted_is hv hall hs (fun k hk => hk), hcl]
  simp

end Go.Proofs.YtifkmehnikfihaaGreat
/- The law FnSortedOrder: what it asks, plain; and the helpers that it calls. -/
namespace Go.Proofs.YtifkmehnikfihaaGreat
open Go.RowKit

theorem sortNat_len {l : List Seg} {t : ByteArray} {f : Forest} (h : traceB l t.data.toList = some f) : sortRes l t = (sortNat l (headsB f)).map (fun (k : Nat) => (k : Int)) ∧ (sortNat l (headsB f)).length = f.len ∧ ∀ x ∈ sortNat l (headsB f), x < f.len := by
  obtain ⟨hv, -, -⟩ := traceB_some h
  have ha := headsB_all f (traceB_all h)
  have hp := sortNat_perm hv ha
  rw [headsB_len] at hp
  refine ⟨by unfold sortRes; rw [h], by rw [hp.length_eq, List.length_range], fun x hx => ?_⟩
  have := (sortNat_mem hv ha x).1 hx
  rw [headsB_len] at this; exact this
/-- Two neighbours in the sorted order. -/
theorem sort_step {l : List Seg} {t : ByteArray} {f : Forest} (h : traceB l t.data.toList = some f) (k : Nat) (hk : k + 1 < (sortRes l t).length) :
    ∃ (x y : Nat) (cx cy : UInt8) (rx ry : List UInt8), (sortRes l t)[k]? = some (x : Int) ∧ (sortRes l t)[k + 1]? = some (y : Int) ∧ x < (topsRes l t).length ∧ y < (topsRes l t).length ∧ (topsRes l t)[x]? = some (strOf (cx :: rx)) ∧ (topsRes l t)[y]? = some (strOf (cy :: ry)) ∧
      (Lib.indexByte (namesStr l).data.toList cx < Lib.indexByte (namesStr l).data.toList cy ∨ Lib.indexByte (namesStr l).data.toList cx = Lib.indexByte (namesStr l).data.toList cy ∧ x < y) := by
  obtain ⟨hv, -, -⟩ := traceB_some h
  obtain ⟨e1, e2, e3⟩ := sortNat_len h
  have e4 : topsRes l t = (topsB f).map strOf := by unfold topsRes; rw [h]
  rw [e1, List.length_map] at hk
  have hp := List.pairwise_iff_getElem.1 (sortNat_sorted (cs := headsB f) hv) k (k + 1) (by omega) hk (by omega)
  have at1 : ∀ i (hi : i < (sortNat l (headsB f)).length), ∃ c r, (topsB f)[(sortNat l (headsB f))[i]]? = some (c :: r) ∧ keyOf l (headsB f) (sortNat l (headsB f))[i] = Lib.indexByte (namesStr l).data.toList c := fun i hi => by
    have hlt := e3 _ (List.getElem_mem hi)
    generalize (sortNat l (headsB f))[i] = x at *
    rcases headsB_tops f x with ⟨h1, h2⟩ | ⟨c, r, h1, h2⟩
    · have : x < (headsB f).length := by rw [headsB_len]; exact hlt
      rw [List.getElem?_eq_getElem this] at h2; cases h2
    · refine ⟨c, r, h1, ?_⟩
      unfold keyOf placeOf
      rw [List.getD_eq_getElem?_getD, h2]; rfl
  obtain ⟨cx, rx, hx1, hx2⟩ := at1 k (by omega)
  obtain ⟨cy, ry, hy1, hy2⟩ := at1 (k + 1) hk
  have l1 := e3 _ (List.getElem_mem (show k < (sortNat l (headsB f)).length by omega))
  have l2 := e3 _ (List.getElem_mem hk)
  have hlen : (topsRes l t).length = f.len := by rw [e4, List.length_map, topsB_len]
  unfold Ahead at hp
  rw [hx2, hy2] at hp
  refine ⟨_, _, cx, cy, rx, ry, ?_, ?_, by rw [hlen]; exact l1, by rw [hlen]; exact l2, ?_, ?_, hp⟩
  · rw [e1, List.getElem?_map, List.getElem?_eq_getElem (by omega)]; rfl
  · rw [e1, List.getElem?_map, List.getElem?_eq_getElem hk]; rfl
  · rw [e4, List.getElem?_map, hx1]; rfl
  · rw [e4, List.getElem?_map, hy1]; rfl
/-- The sorted order is an order. -/
theorem sort_order {l : List Seg} {t : ByteArray} {f : Forest} (h : traceB l t.data.toList = some f) : inOrdOk l t (sortRes l t) = true ∧ inOrdRes l t (sortRes l t) = strOf (joinO (topsRes l t) (sortRes l t)) := by
  obtain ⟨hv, -, -⟩ := traceB_some h
  obtain ⟨e1, e2, e3⟩ := sortNat_len h
  have e4 : topsRes l t = (topsB f).map strOf := by unfold topsRes; rw [h]
  have hlen : (topsRes l t).length = f.len := by rw [e4, List.length_map, topsB_len]
  have hok : inOrdOk l t (sortRes l t) = true := by
    unfold inOrdOk orderA
    rw [h, hlen]
    simp only [Option.isSome_some, Bool.true_and, Bool.and_eq_true, List.all_eq_true, List.mem_range, decide_eq_true_eq, List.contains_iff_mem]
    refine ⟨by rw [e1, List.length_map, e2], fun k hk => ?_⟩
    rw [e1]
    refine List.mem_map.2 ⟨k, ?_, rfl⟩
    rw [sortNat_mem hv (headsB_all f (traceB_all h)), headsB_len]
    exact hk
  exact ⟨hok, if_pos hok⟩
theorem joinO_bound {l : List Seg} {t : ByteArray} {f : Forest} (h : traceB l t.data.toList = some f) : (strOf (joinO (topsRes l t) (sortRes l t))).size ≤ 1048576 := by
  obtain ⟨e1, e2, e3⟩ := sortNat_len h
  have h1 := joinO_len (topsRes_bound l t) (sortRes l t)
  have h2 : (sortRes l t).length ≤ 80 := by
    rw [e1, List.length_map, e2]
    have := (traceB_size h).1
    have := f.len_size
    omega
  have : (strOf (joinO (topsRes l t) (sortRes l t))).size = (joinO (topsRes l t) (sortRes l t)).length := by unfold strOf; show (joinO _ _).toArray.size = _; simp
  omega

theorem extract_one (L : List UInt8) (k : Nat) (h : k < L.length) : (strOf L).extract k (k + 1) = ⟨#[L[k]]⟩ := by
  apply ByteArray.ext
  unfold strOf
  apply Array.ext
  · simp; omega
  · intro i h1 h2
    have hi : i = 0 := by simp at h2; exact h2
    subst hi
    simp
theorem indexByte_none : ∀ (L : List UInt8) (c : UInt8), (∀ k (h : k < L.length), L[k] ≠ c) → Lib.indexByte L c = -1
  | [], _, _ => rfl
  | b :: L, c, h => by
    have h0 : b ≠ c := h 0 (by simp)
    have h1 := indexByte_none L c fun k hk => h (k + 1) (by simpa using hk)
    show (if b == c then (0 : Int) else if Lib.indexByte L c == -1 then -1 else Lib.indexByte L c + 1) = -1
    rw [if_neg (by simpa using h0), h1]; rfl

set_option maxRecDepth 100000 in
set_option maxHeartbeats 1000000 in
theorem soIndex11_any (L : List UInt8) (c : UInt8) (w : World) (hl : L.length ≤ 1000) :
    Calls Tryz.prog 63 #[.string (strOf L), .string ⟨#[c]⟩] w fun e w' => e = .returned (.int .i64 (Lib.indexByte L c)) ∧ w = w' := by
  have hz : (strOf L).size = L.length := by unfold strOf; show L.toArray.size = _; simp
  have HEX := Lib.hid (extract_one L)
  have HAT := Lib.hid (fun k (hk : k < L.length) (h : L[k] = c) (hj : ∀ j (_ : j < k) (hjl : j < L.length), L[j] ≠ c) => (by
    have := indexByte_at L k hk fun j hjk => by rw [h]; exact hj j hjk (by omega)
    rw [h] at this; exact this : Lib.indexByte L c = (k : Int)))
  have HNO := Lib.hid (indexByte_none L c)
  generalize Lib.indexByte L c = r at *
  go_enter Tryz.func63, Tryz.ntmps63
  go_wp2
  go_loop [8] (fun i => ∃ (k : Nat), k ≤ L.length ∧ i = .int .i64 k ∧ Hid (∀ j (_ : j < k) (hjl : j < L.length), L[j] ≠ c))
    (fun i => L.length - (intOf i).toNat)
  case atStart => exact ⟨0, Nat.zero_le _, rfl, Lib.hid (fun j hj => absurd hj (by omega))⟩
  case round =>
    obtain ⟨k, hk, rfl, HN⟩ := hrel
    by_cases hlt : k < L.length
    · have hlt' : (k : Int) < ((strOf L).size : Int) := by rw [hz]; omega
      obtain ⟨s, HSJ⟩ : ∃ s : Nat, Hid (s = k + 1) := ⟨_, rfl⟩
      have hws : IntKind.i64.wrap ((k : Int) + 1) = (s : Int) := (IntWalk.i64_in _ (by omega)).trans (by rw [HSJ.out]; rfl)
      have hsx : (s : Int) ≤ ((strOf L).size : Int) := by (rw [HSJ.out, hz]; omega)
      have hks : (k : Int) ≤ (s : Int) := by (rw [HSJ.out]; omega)
      have hk0 : (0 : Int) ≤ (k : Int) := Int.natCast_nonneg _
      have hex : (strOf L).extract k s = ⟨#[L[k]]⟩ := by rw [HSJ.out]; exact HEX.out k hlt
      have hsb := str_one_eq L[k] c
      have HAK := Lib.hid (HAT.out k hlt)
      clear HEX HAT HNO
      cases hb : L[k] == c with
      | true =>
        rw [hb] at hsb
        have HR : Hid (r = (k : Int)) := HAK.out (by simpa using hb) HN.out
        generalize L[k] = d at *
        clear HAK HN
        go_wp2
        go_ret
        exact ⟨by rw [HR.out]; rfl, rfl⟩
      | false =>
        rw [hb] at hsb
        have HN2 : Hid (∀ j (_ : j < k + 1) (hjl : j < L.length), L[j] ≠ c) := fun j hj hjl e => by
          by_cases hjk : j = k
          · subst hjk; rw [e] at hb; simp at hb
          · exact HN.out j (by omega) hjl e
        generalize L[k] = d at *
        clear HAK HN
        go_wp2
        go_round
        case rel => exact ⟨s, by have := HSJ.out; omega, rfl, by rw [HSJ.out]; exact HN2⟩
        case measure => have := HSJ.out; simp [intOf]; omega
    · have HR : Hid (r = -1) := HNO.out fun j hj => HN.out j (by omega) hj
      have hlt' : ¬ (k : Int) < ((strOf L).size : Int) := by rw [hz]; omega
      go_wp2
      go_ret
      exact ⟨by rw [HR.out]; rfl, rfl⟩

set_option maxRecDepth 100000 in
set_option maxHeartbeats 1000000 in
theorem soSame11_any (A A' : Option Addr) (l : List Int) (c c' : Nat) (w : World) (hw : Si.Ints w w.heap.size A l) (hw' : Si.Ints w w.heap.size A' l) (hl : l.length ≤ 1000) :
    Calls Tryz.prog 26 #[.slice A l.length c, .slice A' l.length c'] w fun e w' => e = .returned (.bool true) ∧ Below w.heap.size w w' := by
  have HW : Hid (Si.Ints w w.heap.size A l) := hw
  have HW' : Hid (Si.Ints w w.heap.size A' l) := hw'
  clear hw hw'
  go_enter Tryz.func26, Tryz.ntmps26
  go_wp2
  go_loopw [11] (fun i wr => ∃ (k : Nat), k ≤ l.length ∧ i = .int .i64 k ∧ Below w.heap.size w wr)
    (fun i _ => l.length - (intOf i).toNat)
  case atStart => exact ⟨0, Nat.zero_le _, rfl, Below.refl _ _⟩
  case round =>
    obtain ⟨k, hk, rfl, hb⟩ := hrel
    by_cases hlt : k < l.length
    · have hlt' : (k : Int) < (l.length : Int) := by omega
      have hk0 : (0 : Int) ≤ (k : Int) := Int.natCast_nonneg _
      obtain ⟨b, o, rfl, hB, hc⟩ := HW.out (by omega)
      obtain ⟨b', o', rfl, hB', hc'⟩ := HW'.out (by omega)
      have c0 := hc k l[k] (List.getElem?_eq_getElem hlt)
      have d0 := hc' k l[k] (List.getElem?_eq_getElem hlt)
      clear hc hc'
      rw [← hb.cell hB] at c0
      rw [← hb.cell hB'] at d0
      generalize l[k] = s at *
      have HB2 := Lib.hid hb.drew
      go_wp2
      go_quiet (fail)
      go_wp2
      go_roundw
      case rel => exact ⟨k + 1, by omega, by go_num, below_drewN hb _⟩
      case measure => simp [intOf]; omega
    · go_wp2
      go_ret
      exact ⟨rfl, hb⟩

end Go.Proofs.YtifkmehnikfihaaGreat
/- The reference's reading, plain: its steps at a place of the text. -/
namespace Go.Proofs.YtifkmehnikfihaaGreat

theorem tw_take (p : UInt8 → Bool) : ∀ (n m : Nat) (r : List UInt8), m ≤ n → (∀ j, j < m → ∃ h : j < r.length, p r[j] = true) → (m = n ∨ r.length ≤ m ∨ ∃ h : m < r.length, p r[m] = false) → (r.take n).takeWhile p = r.take m
  | 0, 0, _, _, _, _ => by simp
  | 0, m + 1, _, h, _, _ => absurd h (by omega)
  | n + 1, 0, [], _, _, _ => rfl
  | n + 1, 0, c :: r, _, _, h2 => by
    rcases h2 with h | h | ⟨_, h⟩
    · omega
    · simp at h
    · rw [List.take_succ_cons, List.takeWhile_cons, if_neg (by simp at h; simp [h])]
      rfl
  | n + 1, m + 1, [], _, h1, _ => by
    obtain ⟨h, _⟩ := h1 0 (by omega)
    simp at h
  | n + 1, m + 1, c :: r, hm, h1, h2 => by
    obtain ⟨_, h0⟩ := h1 0 (by omega)
    rw [List.take_succ_cons, List.takeWhile_cons, if_pos (by simpa using h0), List.take_succ_cons]
    congr 1
    refine tw_take p n m r (by omega) (fun j hj => ?_) ?_
    · obtain ⟨h, h3⟩ := h1 (j + 1) (by omega)
      exact ⟨by simpa using h, by simpa using h3⟩
    · rcases h2 with h | h | ⟨h, h3⟩
      · exact .inl (by omega)
      · exact .inr (.inl (by simpa using h))
      · exact .inr (.inr ⟨by simpa using h, by simpa using h3⟩)

/-- The digits between two places. -/
theorem digs_at {t : ByteArray} {a j : Nat} (ha : a ≤ j) (hj : j ≤ t.size) (h3 : j ≤ a + 3) (h1 : ∀ i, a ≤ i → ∀ h : i < t.size, i < j → isDig t[i] = true) (h2 : j = a + 3 ∨ t.size ≤ j ∨ ∃ h : j < t.size, isDig t[j] = false) :
    digs (t.data.toList.drop a) = (t.data.toList.drop a).take (j - a) ∧ (digs (t.data.toList.drop a)).length = j - a := by
  have hl : (t.data.toList.drop a).length = t.size - a := by simp
  have e : digs (t.data.toList.drop a) = (t.data.toList.drop a).take (j - a) := by
    unfold digs
    refine tw_take isDig 3 (j - a) _ (by omega) (fun i hi => ?_) ?_
    · refine ⟨by omega, ?_⟩
      have hz : a + i < t.data.size := show a + i < t.size by omega
      have h5 : isDig (t.data[a + i]'hz) = true := h1 (a + i) (by omega) hz (by omega)
      simpa using h5
    · rcases h2 with h | h | ⟨h, h4⟩
      · exact .inl (by omega)
      · exact .inr (.inl (by omega))
      · refine .inr (.inr ⟨by omega, ?_⟩)
        have h6 : a + (j - a) = j := by omega
        have hz : j < t.data.size := h
        have h5 : isDig (t.data[j]'hz) = false := h4
        simp only [List.getElem_drop, Array.getElem_toList, h6]
        exact h5
  refine ⟨e, ?_⟩
  rw [e, List.length_take]
  omega

/-- The tree with a segment more. -/
def grow1 (tr : List Seg) (c : UInt8) (r : List UInt8) (p : Int) : List Seg := tr ++ [⟨⟨#[c]⟩, numB (digs r), p⟩]
theorem grow1_len (tr : List Seg) (c : UInt8) (r : List UInt8) (p : Int) : (grow1 tr c r p).length = tr.length + 1 := by simp [grow1]
/-- What follows the first child. -/
def sAfter (f own : Nat) (s2 : SSt) : SSt := sKids (fun x => sSeg f x own) (s2.rest.length + 1) s2

theorem sSeg_no {t : ByteArray} {k j f : Nat} {c : UInt8} {tr : List Seg} {p : Int} (h8 : tr.length ≤ 8) (hd : t.data.toList.drop k = c :: t.data.toList.drop (k + 1)) (hj : (digs (t.data.toList.drop (k + 1))).length = j - (k + 1)) (hkj : k + 1 ≤ j) (hn : nextB t j 40 = false) :
    sSeg (f + 1) ⟨t.data.toList.drop k, false, tr⟩ p = ⟨t.data.toList.drop j, !numOk (digs (t.data.toList.drop (k + 1))), grow1 tr c (t.data.toList.drop (k + 1)) p⟩ := by
  rw [hd, sSeg_open f c _ tr p h8, hj, List.drop_drop, show k + 1 + (j - (k + 1)) = j by omega]
  unfold nextB at hn
  cases hr : t.data.toList.drop j with
  | nil => rfl
  | cons d r3 =>
    rw [hr] at hn
    have : d ≠ 40 := fun e => by subst e; simp at hn
    simp only [if_neg this]
    rfl
theorem sSeg_yes {t : ByteArray} {k j f : Nat} {c : UInt8} {tr : List Seg} {p : Int} (h8 : tr.length ≤ 8) (hd : t.data.toList.drop k = c :: t.data.toList.drop (k + 1)) (hj : (digs (t.data.toList.drop (k + 1))).length = j - (k + 1)) (hkj : k + 1 ≤ j) (hn : t.data.toList.drop j = 40 :: t.data.toList.drop (j + 1)) :
    sSeg (f + 1) ⟨t.data.toList.drop k, false, tr⟩ p = sAfter f tr.length (sSeg f ⟨t.data.toList.drop (j + 1), !numOk (digs (t.data.toList.drop (k + 1))), grow1 tr c (t.data.toList.drop (k + 1)) p⟩ tr.length) := by
  rw [hd, sSeg_open f c _ tr p h8, hj, List.drop_drop, show k + 1 + (j - (k + 1)) = j by omega, hn]
  simp only [if_true]
  rfl
theorem sSeg_not {f : Nat} {r : List UInt8} {bad : Bool} {tr : List Seg} {p : Int} (h : bad = true ∨ 8 < tr.length ∨ r = [] ∨ f = 0) : sSeg f ⟨r, bad, tr⟩ p = ⟨r, true, tr⟩ := by
  cases f with
  | zero => rfl
  | succ f =>
    unfold sSeg
    rcases h with rfl | h | rfl | h
    · rfl
    · rw [if_pos (by simp [h])]
    · split <;> rfl
    · cases h
theorem sKids_comma {seg : SSt → SSt} {g : Nat} {r : List UInt8} {bad : Bool} {tr : List Seg} : sKids seg (g + 1) ⟨44 :: r, bad, tr⟩ = sKids seg g (seg ⟨r, bad, tr⟩) := by
  conv => lhs; unfold sKids
  simp only [if_true]
theorem sKids_bad {seg : SSt → SSt} {g : Nat} {r : List UInt8} {tr : List Seg} (h : ∀ d u, r = d :: u → d ≠ 44) : sKids seg (g + 1) ⟨r, true, tr⟩ = ⟨r, true, tr⟩ := by
  unfold sKids
  cases r with
  | nil => rfl
  | cons d u =>
    simp only [if_neg (h d u rfl)]
    rfl
theorem sKids_close {seg : SSt → SSt} {g : Nat} {r : List UInt8} {tr : List Seg} : sKids seg (g + 1) ⟨41 :: r, false, tr⟩ = ⟨r, false, tr⟩ := by
  conv => lhs; unfold sKids
  simp
theorem sKids_else {seg : SSt → SSt} {g : Nat} {r : List UInt8} {tr : List Seg} (h1 : ∀ d u, r = d :: u → d ≠ 44) (h2 : ∀ d u, r = d :: u → d ≠ 41) : sKids seg (g + 1) ⟨r, false, tr⟩ = ⟨r, true, tr⟩ := by
  unfold sKids
  cases r with
  | nil => rfl
  | cons d u =>
    simp [h1 d u rfl, h2 d u rfl]

end Go.Proofs.YtifkmehnikfihaaGreat

/- The reference's reader: segment. -/
namespace Go.Proofs.YtifkmehnikfihaaGreat
open Go.RowKit

/-- What segment has done. -/
def SpecPost (w : World) (B b : Nat) (t : ByteArray) (k : Nat) (s : SSt) (e : Ending) (w' : World) : Prop :=
  e = .returned (.tuple #[]) ∧ ∃ (k' : Nat) (v' : Value), s.rest = t.data.toList.drop k' ∧ k ≤ k' ∧ k' ≤ t.size ∧ Row w' b 294 #[.string t, .int .i64 k', .bool s.bad, v'] ∧ OwnTree w' B v' s.tree ∧ Below B w w'

theorem OwnTree.set {w : World} {B b : Nat} {v : Value} {tr : List Seg} {t : TypeId} {cs : Array Value} (h : OwnTree w B v tr) (hr : Row w b t cs) (hne : 34 ≠ t) (i : Nat) (u : Value) : OwnTree (w.setCell ⟨b, i, none⟩ u) B v tr :=
  h.far fun g hg => Below.heap_setCell w ⟨b, i, none⟩ u g (h.ne hr hne g hg)

set_option maxRecDepth 100000 in
set_option maxHeartbeats 2000000 in
theorem segment_not (B b : Nat) (t : ByteArray) (f k : Nat) (p : Int) (bad : Bool) (tr : List Seg) (v : Value) (w : World) (hk : k ≤ t.size) (hBb : B ≤ b) (hr : Row w b 294 #[.string t, .int .i64 k, .bool bad, v]) (hown : OwnTree w B v tr)
    (h : bad = true ∨ 8 < tr.length ∨ k = t.size) :
    Calls Tryz.prog 270 #[.pointer (some ⟨b, 0, none⟩), .int .i64 p] w (SpecPost w B b t k (sSeg f ⟨t.data.toList.drop k, bad, tr⟩ p)) := by
  have hS : sSeg f ⟨t.data.toList.drop k, bad, tr⟩ p = ⟨t.data.toList.drop k, true, tr⟩ := sSeg_not (by
    rcases h with h | h | h
    · exact .inl h
    · exact .inr (.inl h)
    · exact .inr (.inr (.inl (List.drop_of_length_le (by simp; omega)))))
  rw [hS]
  clear hS
  obtain ⟨A, cap, rfl, -⟩ := hown.form
  have c0 : w.cell? ⟨b, 0, none⟩ = some (.string t) := hr.cell 0
  have c1 : w.cell? ⟨b, 1, none⟩ = some (.int .i64 k) := hr.cell 1
  have c2 : w.cell? ⟨b, 2, none⟩ = some (.bool bad) := hr.cell 2
  have c3 : w.cell? ⟨b, 3, none⟩ = some (.slice A tr.length cap) := hr.cell 3
  have z2 : w.frozen? ⟨b, 2, none⟩ = false := hr.free 2
  have fin : ∀ q : Nat, SpecPost w B b t k ⟨t.data.toList.drop k, true, tr⟩ (.returned (.tuple #[])) ((w.drewN q).setCell ⟨b, 2, none⟩ (.bool true)) := fun q =>
    ⟨rfl, k, _, rfl, Nat.le_refl _, hk, Row.put (w := w.drewN q) hr 2 (.bool true), OwnTree.set (w := w.drewN q) hown hr (by decide) 2 _, (below_drewN (Below.refl B w) q).setCell hBb _⟩
  have HF := Lib.hid fin
  have hk0 : (0 : Int) ≤ (k : Int) := Int.natCast_nonneg _
  clear fin hown hr
  cases bad with
  | true =>
    go_enter Tryz.func270, Tryz.ntmps270
    go_wp2_with fail
    go_quiet (fail)
    go_wp2
    refine bodyPost_ret (results_none rfl _ _ _) rfl ?_
    exact HF.out _
  | false =>
    by_cases hlt : k < t.size
    · have h8 : 8 < tr.length := by
        rcases h with h | h | h
        · cases h
        · exact h
        · omega
      have g1 : decide (t.size ≤ k) = false := decide_eq_false (by omega)
      have g2 : decide (8 < tr.length) = true := decide_eq_true h8
      have g3 : ¬ (t.size : Int) ≤ (k : Int) := by omega
      have g4 : (8 : Int) < (tr.length : Int) := by omega
      go_enter Tryz.func270, Tryz.ntmps270
      go_wp2_with fail
      go_quiet (fail)
      go_wp2
      refine bodyPost_ret (results_none rfl _ _ _) rfl ?_
      exact HF.out _
    · have g1 : decide (t.size ≤ k) = true := decide_eq_true (by omega)
      have g3 : (t.size : Int) ≤ (k : Int) := by omega
      go_enter Tryz.func270, Tryz.ntmps270
      go_wp2_with fail
      go_quiet (fail)
      go_wp2
      refine bodyPost_ret (results_none rfl _ _ _) rfl ?_
      exact HF.out _

end Go.Proofs.YtifkmehnikfihaaGreat
