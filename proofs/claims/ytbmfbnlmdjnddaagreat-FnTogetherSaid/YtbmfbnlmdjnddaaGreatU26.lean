/- Joined: Jj Jd Jk Jm. -/
import Derived.Test.YtbmfbnlmdjnddaaGreatU24
import Derived.Test.YtbmfbnlmdjnddaaGreatU25
import Derived.Test.YtbmfbnlmdjnddaaGreatU22
import Derived.OrdersIn
/- The program's ways: an iterator over a queue that it makes longer itself. -/
namespace Go.Proofs.YtbmfbnlmdjnddaaGreat
open Go.RowKit Go.Shelf
attribute [local go_sem] Oper.semAt_some

set_option maxRecDepth 100000 in
theorem inTurn_any (q : Nat) (w : World) :
    Calls Tryz.prog 187 #[.pointer (some ⟨q, 0, none⟩)] w fun e w' => e = .returned (.func (.func 203) #[] #[.pointer (some ⟨w.heap.size, 0, none⟩)]) ∧ w' = w.alloc (.cells #[.pointer (some ⟨q, 0, none⟩)] 223) := by
  go_enter Tryz.func187, Tryz.ntmps187
  go_wp2
  go_ret
  exact ⟨rfl, rfl⟩
set_option maxRecDepth 100000 in
theorem waysFrom_any (b : Nat) (s : ByteArray) (w : World) :
    Calls Tryz.prog 145 #[.map (some b), .string s] w fun e w' => e = .returned (.func (.func 186) #[] #[.pointer (some ⟨w.heap.size + 1, 0, none⟩), .pointer (some ⟨w.heap.size, 0, none⟩)]) ∧ w' = (w.alloc (.cells #[.map (some b)] 95)).alloc (.cells #[.string s] 9) := by
  go_enter Tryz.func145, Tryz.ntmps145
  go_wp2
  go_ret
  exact ⟨rfl, rfl⟩

end Go.Proofs.YtbmfbnlmdjnddaaGreat
/- The reference: what is reached, sorted by the tree, and what is live. -/
namespace Go.Proofs.YtbmfbnlmdjnddaaGreat
open Go.RowKit

def sizeS : Value → Nat
  | .string s => s.size
  | _ => 0
/-- The ways when the first of the pairs have been tried for one way. -/
def qIn (ps : List Txt) (u : UInt8) (k : Nat) (way : Txt) (j : Nat) : List Txt := stepQ way (calleds (ps.take j) (lastB way)) (qAt ps u k)
theorem qIn_zero (ps : List Txt) (u : UInt8) (k : Nat) (way : Txt) : qIn ps u k way 0 = qAt ps u k := rfl
theorem qIn_succ {ps : List Txt} (u : UInt8) (k : Nat) (way : Txt) {j : Nat} {a b : UInt8} (hj : ps[j]? = some [a, b]) : qIn ps u k way (j + 1) = if a = lastB way then stepQ way [b] (qIn ps u k way j) else qIn ps u k way j := by
  obtain ⟨hlt, he⟩ := List.getElem?_eq_some_iff.1 hj
  unfold qIn
  rw [List.take_succ_eq_append_getElem hlt, calleds_snoc, stepQ_app, he]
  by_cases h : a = lastB way
  · rw [if_pos h, if_pos (show fstB [a, b] = lastB way from h)]; rfl
  · rw [if_neg h, if_neg (show ¬ fstB [a, b] = lastB way from h)]; rfl
theorem qIn_full {ps : List Txt} {u : UInt8} {k : Nat} {way : Txt} (h : (qAt ps u k)[k]? = some way) {j : Nat} (hj : ps.length ≤ j) : qIn ps u k way j = qAt ps u (k + 1) := by
  unfold qIn
  rw [List.take_of_length_le hj, qAt_succ h]
theorem calleds_take (ps : List Txt) (j : Nat) (u : UInt8) : ∀ c ∈ calleds (ps.take j) u, c ∈ ps.map lastB := fun c hc => by
  obtain ⟨p, hp, _, e⟩ := calleds_mem hc
  exact List.mem_map.2 ⟨p, List.mem_of_mem_take hp, e⟩
theorem qIn_ok (ps : List Txt) (u : UInt8) (k : Nat) (way : Txt) (j : Nat) : wayOk ps (qIn ps u k way j) := stepQ_ok way _ _ (qAt_ok ps u k) (calleds_take ps j _)
theorem qIn_len (ps : List Txt) (u : UInt8) (k : Nat) (way : Txt) (j : Nat) : (qAt ps u k).length ≤ (qIn ps u k way j).length := (stepQ_pre way _ _).length_le
theorem lasts_len (Q : List Txt) : (lasts Q).length = Q.length - 1 := by unfold lasts; rw [List.length_map, List.length_tail]
/-- The last segments of the ways that are not gone on yet. -/
def todoL (Q : List Txt) (k : Nat) : List UInt8 := (Q.drop k).map lastB
theorem todo_len (Q : List Txt) (k : Nat) : (todoL Q k).length = Q.length - k := by unfold todoL; rw [List.length_map, List.length_drop]
theorem drop_lasts {Q : List Txt} {k : Nat} {way : Txt} (h : Q[k]? = some way) : todoL Q k = lastB way :: todoL Q (k + 1) := by
  obtain ⟨hlt, he⟩ := List.getElem?_eq_some_iff.1 h
  unfold todoL
  rw [List.drop_eq_getElem_cons hlt, he]
  rfl
theorem snoc_drop {Q : List Txt} {k : Nat} (hk : k ≤ Q.length) (way : Txt) (c : UInt8) : todoL (Q ++ [way ++ [c]]) k = todoL Q k ++ [c] := by
  unfold todoL
  rw [List.drop_append_of_le_length hk, List.map_append, List.map_singleton, lastB_snoc]
theorem todo_none {Q : List Txt} {k : Nat} (h : Q.length ≤ k) : todoL Q k = [] := by
  unfold todoL
  rw [List.drop_of_length_le h]
  rfl
theorem strOf_cons (c : UInt8) (x : List UInt8) : (strOf (c :: x)).extract 0 1 = ⟨#[c]⟩ ∧ (strOf (c :: x)).extract 1 (strOf (c :: x)).size = strOf x := by
  constructor
  · apply ByteArray.ext
    rw [ByteArray.data_extract]
    apply Array.ext'
    simp [strOf]
  · apply ByteArray.ext
    rw [ByteArray.data_extract]
    apply Array.ext'
    rw [str_size]
    simp [strOf]

set_option maxRecDepth 100000 in
set_option maxHeartbeats 4000000 in
theorem l7Reached_any (l : List Seg) (A2 : Option Addr) (ts : List ByteArray) (c2 : Nat) (u : UInt8) (w : World) (hG : IsGraph l (psOf ts)) (ht : St.Strs w w.heap.size A2 ts) :
    Calls Tryz.prog 150 #[.slice A2 ts.length c2, .string ⟨#[u]⟩] w fun e w' => e = .returned (.string (strOf (reachL (psOf ts) u))) ∧ w = w' := by
  have HT : Hid (St.Strs w w.heap.size A2 ts) := ht
  have hpl := hG.len
  rw [psOf_len] at hpl
  have HTW : Hid (∀ j (hj : j < ts.length), ∃ a b, ts[j] = strOf [a, b] ∧ (psOf ts)[j]? = some [a, b]) := fun j hj => by
    have h1 := psOf_at hj
    obtain ⟨a, b, e, -, -⟩ := hG.two _ (List.mem_of_getElem? h1)
    rw [e] at h1
    refine ⟨a, b, ?_, h1⟩
    rw [str_of ts[j], ← txAt_of hj, e]
  have HOK := Lib.hid (qAt_ok (psOf ts) u)
  have HSTOP : Hid (∀ k, k ≤ (qAt (psOf ts) u k).length → (qAt (psOf ts) u k).length ≤ k → reachL (psOf ts) u = lasts (qAt (psOf ts) u k)) := fun k h1 h2 => by
    unfold reachL
    rw [waysB_stop (by rw [psOf_len]; exact hpl) h1 h2]
  have HPL : Hid ((psOf ts).length = ts.length) := psOf_len ts
  clear ht hG
  generalize psOf ts = ps at *
  go_enter Tryz.func150, Tryz.ntmps150
  go_wp2
  go_loop [5, 6] (fun o t => ∃ k : Nat, k ≤ (qAt ps u k).length ∧ o = .string (strOf (lasts (qAt ps u k))) ∧ t = .string (strOf (todoL (qAt ps u k) k)))
    (fun o t => 2 * (20 - sizeS o) + sizeS t)
  case atStart => exact ⟨0, Nat.zero_le _, rfl, rfl⟩
  case round =>
    obtain ⟨k, hk, rfl, rfl⟩ := hrel
    by_cases hlt : k < (qAt ps u k).length
    · obtain ⟨way, hway⟩ : ∃ way, (qAt ps u k)[k]? = some way := ⟨_, List.getElem?_eq_getElem hlt⟩
      have HDR := Lib.hid (drop_lasts hway)
      have HFULL := Lib.hid (fun j h => qIn_full hway (j := j) h)
      have HM0 : Hid (2 * (20 - sizeS (.string (strOf (lasts (qAt ps u k))))) + sizeS (.string (strOf (todoL (qAt ps u k) k))) = 2 * (20 - ((qAt ps u k).length - 1)) + ((qAt ps u k).length - k)) := by
        show 2 * (20 - (strOf (lasts (qAt ps u k))).size) + (strOf (todoL (qAt ps u k) k)).size = _
        rw [str_size, str_size, lasts_len, todo_len]
      have HQL := Lib.hid (fun j => (qIn_ok ps u k way j).len)
      have HQG := Lib.hid (qIn_len ps u k way)
      have HKL := Lib.hid hlt
      obtain ⟨hc1, hc2⟩ := strOf_cons (lastB way) (todoL (qAt ps u k) (k + 1))
      have hzs : (strOf (lastB way :: todoL (qAt ps u k) (k + 1))).size ≤ 21 := by
        have h1 := (HOK.out k).len
        rw [str_size]
        simp only [List.length_cons, todo_len]
        have := HPL.out
        omega
      have hz1 : 1 ≤ (strOf (lastB way :: todoL (qAt ps u k) (k + 1))).size := by rw [str_size]; simp
      have hne : ((strOf (lastB way :: todoL (qAt ps u k) (k + 1))).toList == []) = false := by rw [ByteArray.toList_eq]; rfl
      have hne' : ((strOf (lastB way :: todoL (qAt ps u k) (k + 1))).toList != []) = true := by rw [ByteArray.toList_eq]; rfl
      rw [HDR.out] at HM0 ⊢
      generalize strOf (lastB way :: todoL (qAt ps u k) (k + 1)) = z at *
      generalize hat : (⟨#[lastB way]⟩ : ByteArray) = at1 at *
      have HAT := Lib.hid hat
      clear hat hk
      go_wp2
      try rw [hc1, hc2]
      go_loop [5, 6, 19] (fun o t i => ∃ j : Nat, j ≤ ts.length ∧ i = .int .i64 j ∧ o = .string (strOf (lasts (qIn ps u k way j))) ∧ t = .string (strOf (todoL (qIn ps u k way j) (k + 1))))
        (fun _ _ i => ts.length - (intOf i).toNat)
      case atStart => exact ⟨0, Nat.zero_le _, rfl, by first | (rw [qIn_zero]; done) | (rw [qIn_zero, hc2]), by first | (rw [qIn_zero]; done) | (rw [qIn_zero, hc2])⟩
      case round =>
        obtain ⟨j, hj, rfl, rfl, rfl⟩ := hrel
        by_cases hltj : j < ts.length
        · have hltj' : (j : Int) < (ts.length : Int) := by omega
          have hj0 : (0 : Int) ≤ (j : Int) := Int.natCast_nonneg _
          obtain ⟨b, o, rfl, hB, hc⟩ := HT.out (by omega)
          have c0 := hc j ts[j] (List.getElem?_eq_getElem hltj)
          obtain ⟨x, y, hts, hps⟩ := HTW.out j hltj
          rw [hts] at c0
          have HSU := Lib.hid (qIn_succ u k way hps)
          obtain ⟨hx0, hx1, hx2⟩ := two_cut x y
          have hxi : (strOf [x, y])[1]'(by rw [hx0]; decide) = y := rfl
          clear hc hts hps
          have HEQ : Hid ((((⟨#[x]⟩ : ByteArray).toList == at1.toList) = decide (x = lastB way))) := by
            show _ = _
            rw [← HAT.out, beq_str, decide_eq_decide]
            exact ⟨fun h => by simpa using h, fun h => by rw [h]⟩
          have hol : (strOf (lasts (qIn ps u k way j))).size ≤ 20 := by
            have h1 := HQL.out j
            rw [str_size, lasts_len]
            have := HPL.out
            omega
          have htl : (strOf (todoL (qIn ps u k way j) (k + 1))).size ≤ 21 := by
            have h1 := HQL.out j
            rw [str_size, todo_len]
            have := HPL.out
            omega
          have hys : (⟨#[y]⟩ : ByteArray).size = 1 := rfl
          by_cases hxw : x = lastB way
          · rw [decide_eq_true hxw] at HEQ
            rw [if_pos hxw, stepQ_one] at HSU
            have hbx := HEQ.out
            have HFD : Hid (0 ≤ findB (strOf (lasts (qIn ps u k way j))) y ↔ y ∈ lasts (qIn ps u k way j)) := findB_lo _ y
            have HCT1 := Lib.hid (strOf_snoc (lasts (qIn ps u k way j)) y)
            have HCT2 := Lib.hid (strOf_snoc (todoL (qIn ps u k way j) (k + 1)) y)
            have HLS := Lib.hid (lasts_snoc (qIn_ok ps u k way j).1 way y)
            have HLD := Lib.hid (snoc_drop (k := k + 1) (Nat.le_trans HKL.out (HQG.out j)) way y)
            generalize (⟨#[x]⟩ : ByteArray) = bx at *
            generalize hzz : strOf [x, y] = zz at *
            go_wp2_with fail
            refine (l13Find_any _ y _ (by unfold maxLen; omega)).mono ?_
            rintro e w3 ⟨rfl, rfl⟩
            by_cases hf : 0 ≤ findB (strOf (lasts (qIn ps u k way j))) y
            · have HQ1 : Hid (qIn ps u k way (j + 1) = qIn ps u k way j) := by
                show _ = _
                rw [HSU.out, if_pos (HFD.out.1 hf)]
              clear HSU HFD
              go_wp2
              go_round
              case rel => exact ⟨j + 1, by omega, by go_num, by rw [HQ1.out], by rw [HQ1.out]⟩
              case measure => simp [intOf]; omega
            · have HQ1 : Hid (qIn ps u k way (j + 1) = qIn ps u k way j ++ [way ++ [y]]) := by
                show _ = _
                rw [HSU.out, if_neg (fun h => hf (HFD.out.2 h))]
              clear HSU HFD
              generalize (⟨#[y]⟩ : ByteArray) = by1 at *
              go_wp2
              go_round
              case rel => exact ⟨j + 1, by omega, by go_num, by rw [HQ1.out, HLS.out, ← HCT1.out], by rw [HQ1.out, HLD.out, ← HCT2.out]⟩
              case measure => simp [intOf]; omega
          · rw [decide_eq_false hxw] at HEQ
            rw [if_neg hxw] at HSU
            have hbx := HEQ.out
            generalize (⟨#[x]⟩ : ByteArray) = bx at *
            generalize hzz : strOf [x, y] = zz at *
            go_wp2
            go_round
            case rel => exact ⟨j + 1, by omega, by go_num, by rw [HSU.out], by rw [HSU.out]⟩
            case measure => simp [intOf]; omega
        · obtain rfl : j = ts.length := by omega
          have HE := Lib.hid (HFULL.out ts.length (Nat.le_of_eq HPL.out))
          have HL1 := Lib.hid (Nat.le_trans HKL.out (HQG.out ts.length))
          have HL2 := Lib.hid (HQL.out ts.length)
          rw [HE.out] at HL1 HL2
          rw [HE.out]
          go_wp2
          go_round
          case rel => exact ⟨k + 1, HL1.out, rfl, rfl⟩
          case measure =>
            have h1 := HL1.out
            have h2 := HL2.out
            have h3 := HQG.out ts.length
            rw [HE.out] at h3
            have h4 := HKL.out
            have h5 := HPL.out
            show 2 * (20 - (strOf (lasts (qAt ps u (k + 1)))).size) + (strOf (todoL (qAt ps u (k + 1)) (k + 1))).size < _
            rw [HM0.out, str_size, str_size, lasts_len, todo_len]
            omega
    · have HE := Lib.hid (HSTOP.out k hk (by omega))
      have hemp : todoL (qAt ps u k) k = [] := todo_none (by omega)
      rw [hemp]
      rw [show strOf [] = (⟨#[]⟩ : ByteArray) from rfl]
      go_wp2
      go_ret
      exact ⟨by rw [HE.out]; rfl, rfl⟩

end Go.Proofs.YtbmfbnlmdjnddaaGreat
/- What the iterator of ways keeps in memory between rounds. -/
namespace Go.Proofs.YtbmfbnlmdjnddaaGreat
open Go.RowKit Go.Shelf
attribute [local go_sem] Oper.semAt_some

/-- What is yielded of ways: all but the first one, without the segment that they start from. -/
def outQ (Q : List Txt) : List Txt := Q.tail.map List.tail
def outsB (ps : List Txt) (u : UInt8) : List Txt := outQ (waysB ps u)
theorem outQ_len (Q : List Txt) : (outQ Q).length = Q.length - 1 := by unfold outQ; rw [List.length_map, List.length_tail]
theorem outQ_snoc {Q : List Txt} (hQ : Q ≠ []) {way : Txt} (hw : way ≠ []) (c : UInt8) : outQ (Q ++ [way ++ [c]]) = outQ Q ++ [way.tail ++ [c]] := by
  cases Q with
  | nil => exact absurd rfl hQ
  | cons q Q =>
    cases way with
    | nil => exact absurd rfl hw
    | cons a way =>
      unfold outQ
      show (Q ++ [a :: way ++ [c]]).map List.tail = Q.map List.tail ++ [way ++ [c]]
      rw [List.map_append]
      rfl
theorem outQ_pre {Q R : List Txt} (h : Q <+: R) (hQ : Q ≠ []) : outQ Q <+: outQ R := by
  obtain ⟨t, rfl⟩ := h
  cases Q with
  | nil => exact absurd rfl hQ
  | cons q Q =>
    unfold outQ
    show Q.map List.tail <+: (Q ++ t).map List.tail
    rw [List.map_append]
    exact List.prefix_append _ _
theorem qAt_up {ps : List Txt} {u : UInt8} (k : Nat) : ∀ m, qAt ps u k <+: qAt ps u (k + m)
  | 0 => List.prefix_refl _
  | m + 1 => (qAt_up k m).trans (qAt_pre ps u (k + m))
theorem qAt_ways {ps : List Txt} {u : UInt8} {k : Nat} (hk : k ≤ 32) : qAt ps u k <+: waysB ps u := by
  have h := qAt_up (ps := ps) (u := u) k (32 - k)
  rwa [show k + (32 - k) = 32 by omega] at h
/-- Every way begins with the segment that it starts from. -/
theorem qAt_head (ps : List Txt) (u : UInt8) : ∀ k, ∀ x ∈ qAt ps u k, ∃ r, x = u :: r
  | 0 => fun x hx => by
    have : x = [u] := by simpa [qAt] using hx
    exact ⟨[], this⟩
  | k + 1 => by
    cases h : (qAt ps u k)[k]? with
    | none =>
      rw [qAt_none (by rw [List.getElem?_eq_none_iff] at h; exact h)]
      exact qAt_head ps u k
    | some way =>
      rw [qAt_succ h]
      exact stepQ_all (P := fun x => ∃ r, x = u :: r) way (qAt_head ps u k way (List.mem_of_getElem? h)) (fun x c ⟨r, hr⟩ => ⟨r ++ [c], by rw [hr]; rfl⟩) _ _ (qAt_head ps u k)
/-- How long ways grow. -/
theorem qAt_long (ps : List Txt) (u : UInt8) : ∀ k, ∀ x ∈ qAt ps u k, x.length ≤ k + 1
  | 0 => fun x hx => by
    have : x = [u] := by simpa [qAt] using hx
    rw [this]
    simp
  | k + 1 => by
    have ih := qAt_long ps u k
    have ih' : ∀ x ∈ qAt ps u k, x.length ≤ k + 2 := fun x hx => Nat.le_succ_of_le (ih x hx)
    cases h : (qAt ps u k)[k]? with
    | none =>
      rw [qAt_none (by rw [List.getElem?_eq_none_iff] at h; exact h)]
      exact ih'
    | some way =>
      rw [qAt_succ h]
      have hw := ih way (List.mem_of_getElem? h)
      generalize qAt ps u k = Q at *
      generalize calleds ps (lastB way) = cs
      clear h ih
      induction cs generalizing Q with
      | nil => exact ih'
      | cons c cs ihc =>
        show ∀ x ∈ (if c ∈ lasts Q then stepQ way cs Q else stepQ way cs (Q ++ [way ++ [c]])), _
        by_cases hm : c ∈ lasts Q
        · rw [if_pos hm]; exact ihc Q ih'
        · rw [if_neg hm]
          refine ihc _ fun x hx => ?_
          rcases List.mem_append.1 hx with hx | hx
          · exact ih' x hx
          · rw [List.mem_singleton] at hx
            rw [hx, List.length_append]
            simp
            omega

/-- A box of one cell below 'n₀', or from 'D' on. -/
def BoxA (X : World) (n₀ D Bs : Nat) (v : Value) (t : TypeId) : Prop := (Bs < n₀ ∨ D ≤ Bs) ∧ Row X Bs t #[v]
theorem BoxA.cell {X : World} {n₀ D Bs : Nat} {v : Value} {t : TypeId} (h : BoxA X n₀ D Bs v t) : X.cell? ⟨Bs, 0, none⟩ = some v := h.2.cell 0
/-- What the iterator keeps, but for what its consumer keeps in mind. -/
structure WRest (W : World) (n₀ D B N b : Nat) (ps : List Txt) (u : UInt8) (Bs Bg l' : Nat) (Q : List Txt) (v : Value) (X : World) : Prop where
  low : Below n₀ W X
  boxY : Row X W.heap.size 104 #[.func (.yield l') #[] #[]]
  set : SetAt X (W.heap.size + 1) ((lasts Q).map fun c => [c])
  boxR : Row X (W.heap.size + 2) 99 #[.map (some (W.heap.size + 1))]
  boxQ : Row X (W.heap.size + 4) 29 #[v]
  own : X.ownsRow (W.heap.size + 3) 9 1 v Q.length (Q.map txtV)
  boxT : Row X (W.heap.size + 5) 223 #[.pointer (some ⟨W.heap.size + 4, 0, none⟩)]
  boxS : BoxA X n₀ D Bs (.string ⟨#[u]⟩) 9
  boxG : BoxA X n₀ D Bg (.map (some b)) 95
  graph : GraphAt X B N b ps
  size : W.heap.size + 6 ≤ X.heap.size
  ltS : Bs < W.heap.size
  ltG : Bg < W.heap.size
  N : N ≤ n₀
  D : D ≤ W.heap.size
  n₀ : n₀ ≤ W.heap.size
theorem WRest.keep {W X Y : World} {n₀ D B N b : Nat} {ps : List Txt} {u : UInt8} {Bs Bg l' : Nat} {Q : List Txt} {v : Value} (h : WRest W n₀ D B N b ps u Bs Bg l' Q v X)
    (hk : ∀ q o, (q < n₀ ∨ D ≤ q) → X.heap[q]? = some o → (q < W.heap.size + 6 ∨ o.isCells = true) → Y.heap[q]? = some o) (hs : X.heap.size ≤ Y.heap.size) (hb : Below n₀ X Y) : WRest W n₀ D B N b ps u Bs Bg l' Q v Y := by
  have hD := h.D
  have hN := h.N
  have hn := h.n₀
  have row : ∀ {q : Nat} {t : TypeId} {cs : Array Value}, (q < n₀ ∨ D ≤ q) → Row X q t cs → Row Y q t cs := fun hq hr => hk _ _ hq hr (.inr rfl)
  have blk : ∀ q, (q < n₀ ∨ D ≤ q) → q < W.heap.size + 6 → Y.heap[q]? = X.heap[q]? := fun q hq hlt => by
    have hz := h.size
    have e : X.heap[q]? = some (X.heap[q]'(by omega)) := Array.getElem?_eq_getElem (by omega)
    rw [e]
    exact hk q _ hq e (.inl hlt)
  refine ⟨h.low.trans hb, row (.inr (by omega)) h.boxY, h.set.block (blk _ (.inr (by omega)) (by omega)), row (.inr (by omega)) h.boxR, row (.inr (by omega)) h.boxQ, own_keep h.own fun g hg => ?_, row (.inr (by omega)) h.boxT, ⟨h.boxS.1, row h.boxS.1 h.boxS.2⟩, ⟨h.boxG.1, row h.boxG.1 h.boxG.2⟩, h.graph.keep fun q _ hq => blk q (.inl (by omega)) (by omega), Nat.le_trans h.size hs, h.ltS, h.ltG, hN, hD, hn⟩
  rcases h.own.2 with ⟨rfl, _⟩ | ⟨g', cap, cur, rfl, hgb, hh, _⟩
  · cases hg
  · have e : g' = g := by simpa [Value.ownBlock] using hg
    subst e
    rw [hh]
    exact hk g' _ (.inr (by omega)) hh (.inr rfl)
theorem WRest.grown {W X Y : World} {n₀ D B N b : Nat} {ps : List Txt} {u : UInt8} {Bs Bg l' : Nat} {Q : List Txt} {v : Value} {row : Option Nat} (h : WRest W n₀ D B N b ps u Bs Bg l' Q v X)
    (hg : X.grownBy Y row) (hr : ∀ r, row = some r → W.heap.size + 6 ≤ r ∧ ∃ o : Obj, X.heap[r]? = some o ∧ o.isCells = false) : WRest W n₀ D B N b ps u Bs Bg l' Q v Y := by
  have hz := h.size
  have hn := h.n₀
  refine h.keep (fun q o _ ho hor => ?_) hg.size ((Below.refl n₀ X).grown hg (by omega) (fun k e => by have := (hr k e).1; omega))
  refine (hg.block q (Array.getElem?_eq_some_iff.1 ho).1 (fun e => ?_)).trans ho
  obtain ⟨h1, o', h2, h3⟩ := hr q e.symm
  rcases hor with h4 | h4
  · omega
  · rw [ho] at h2
    injection h2 with h2
    rw [h2, h3] at h4
    cases h4
theorem WRest.later {W X Y : World} {n₀ D B N b : Nat} {ps : List Txt} {u : UInt8} {Bs Bg l' : Nat} {Q : List Txt} {v : Value} (h : WRest W n₀ D B N b ps u Bs Bg l' Q v X) (hb : Below X.heap.size X Y) : WRest W n₀ D B N b ps u Bs Bg l' Q v Y :=
  h.grown (grown_of_below hb) (fun r e => by cases e)
theorem WRest.yield {W X Y : World} {n₀ D B N b : Nat} {ps : List Txt} {u : UInt8} {Bs Bg l' : Nat} {Q : List Txt} {v : Value} (h : WRest W n₀ D B N b ps u Bs Bg l' Q v X) (hb : Below n₀ X Y) (hk : KeepsA D X Y) : WRest W n₀ D B N b ps u Bs Bg l' Q v Y :=
  h.keep (fun q o hq ho _ => hq.elim (fun h1 => (hb.block q h1).trans ho) (fun h1 => hk.same q o h1 ho)) hk.size hb
/-- A segment is reached, and its way put behind the others. -/
theorem WRest.step {W X X1 X3 : World} {n₀ D B N b : Nat} {ps : List Txt} {u : UInt8} {Bs Bg l' : Nat} {Q : List Txt} {v v' : Value} {way : Txt} {c : UInt8} {o2 : Obj} (h : WRest W n₀ D B N b ps u Bs Bg l' Q v X) (hQ : Q ≠ [])
    (hs : SetAt X1 (W.heap.size + 1) (((lasts Q).map fun c => [c]) ++ [[c]])) (hg1 : X.grownBy X1 (some (W.heap.size + 1)))
    (ho : X3.ownsRow (W.heap.size + 3) 9 1 v' (Q.length + 1) (Q.map txtV ++ [txtV (way ++ [c])])) (hg3 : (X1.alloc o2).grownBy X3 v.ownBlock) :
    WRest W n₀ D B N b ps u Bs Bg l' (Q ++ [way ++ [c]]) v' (X3.setCell ⟨W.heap.size + 4, 0, none⟩ v') ∧ Below W.heap.size X (X3.setCell ⟨W.heap.size + 4, 0, none⟩ v') := by
  have hD := h.D
  have hN := h.N
  have hn := h.n₀
  have hz := h.size
  have hz1 := hg1.size
  have hz3 := hg3.size
  rw [World.size_alloc] at hz3
  have hvb : ∀ g, v.ownBlock = some g → W.heap.size + 3 ≤ g ∧ g < X.heap.size := fun g e => h.own.lt g e
  have keep : ∀ q o, X.heap[q]? = some o → q ≠ W.heap.size + 1 → v.ownBlock ≠ some q → q ≠ W.heap.size + 4 → (X3.setCell ⟨W.heap.size + 4, 0, none⟩ v').heap[q]? = some o := fun q o e h1 h2 h3 => by
    have hq := (Array.getElem?_eq_some_iff.1 e).1
    refine (Below.heap_setCell X3 _ _ q h3).trans ((hg3.block q (by rw [World.size_alloc]; omega) (fun e => h2 e.symm)).trans ((Below.heap_alloc X1 o2 q (by omega)).trans ((hg1.block q hq (fun e => h1 (by injection e))).trans e)))
  have rowK : ∀ {q : Nat} {t : TypeId} {cs : Array Value}, Row X q t cs → q ≠ W.heap.size + 1 → t ≠ 9 ∨ q < W.heap.size + 3 → q ≠ W.heap.size + 4 → Row (X3.setCell ⟨W.heap.size + 4, 0, none⟩ v') q t cs := fun {q t cs} hr h1 h2 h3 => by
    refine keep q _ hr h1 (fun e => ?_) h3
    rcases h2 with h2 | h2
    · exact own_ne h.own hr (fun e => h2 e.symm) e
    · have := (hvb q e).1; omega
  have hX4 : W.heap.size + 4 < X.heap.size := by omega
  have hr4 : Row X3 (W.heap.size + 4) 29 #[v] := by
    have hr := h.boxQ
    have h1 := own_ne h.own hr (by decide)
    exact (hg3.block _ (by rw [World.size_alloc]; omega) (fun e => h1 e.symm)).trans ((Below.heap_alloc X1 o2 _ (by omega)).trans ((hg1.block _ hX4 (fun e => by injection e with e; omega)).trans hr))
  have hlowW : Below W.heap.size X (X3.setCell ⟨W.heap.size + 4, 0, none⟩ v') :=
    ((((Below.refl W.heap.size X).grown hg1 (by omega) (fun k e => by injection e with e; omega)).alloc (by omega) o2).grown hg3 (by rw [World.size_alloc]; omega) (fun k e => by have := (hvb k e).1; omega)).setCell (by show W.heap.size ≤ W.heap.size + 4; omega) _
  have hlow : Below n₀ X (X3.setCell ⟨W.heap.size + 4, 0, none⟩ v') := hlowW.mono hn
  have hls : (lasts (Q ++ [way ++ [c]])).map (fun c => ([c] : Txt)) = ((lasts Q).map fun c => [c]) ++ [[c]] := by rw [lasts_snoc hQ, List.map_append]; rfl
  have hms : W.heap.size + 1 < X1.heap.size := hs.lt
  refine ⟨⟨h.low.trans hlow, rowK h.boxY (by omega) (.inr (by omega)) (by omega), ?_, rowK h.boxR (by omega) (.inr (by omega)) (by omega), hr4.put 0 _, ?_, rowK h.boxT (by omega) (.inl (by decide)) (by omega), ⟨h.boxS.1, rowK h.boxS.2 (by have := h.ltS; omega) (.inr (by have := h.ltS; omega)) (by have := h.ltS; omega)⟩, ⟨h.boxG.1, rowK h.boxG.2 (by have := h.ltG; omega) (.inl (by decide)) (by have := h.ltG; omega)⟩, h.graph.keep fun q _ hq => hlow.block q (by omega), ?_, h.ltS, h.ltG, hN, hD, hn⟩, hlowW⟩
  · rw [hls]
    refine hs.block ((Below.heap_setCell X3 _ _ _ (by show W.heap.size + 1 ≠ W.heap.size + 4; omega)).trans ((hg3.block _ (by rw [World.size_alloc]; omega) (fun e => by have := (hvb _ e.symm).1; omega)).trans (Below.heap_alloc X1 o2 _ hms)))
  · rw [List.length_append, List.map_append]
    exact own_set ho hr4 (by decide) 0 _
  · have : (X3.setCell ⟨W.heap.size + 4, 0, none⟩ v').heap.size = X3.heap.size := by simp [World.setCell]
    omega

theorem WRest.texts {W X : World} {n₀ D B N b : Nat} {ps : List Txt} {u : UInt8} {Bs Bg l' : Nat} {Q : List Txt} {v : Value} (h : WRest W n₀ D B N b ps u Bs Bg l' Q v X) : OwnTexts X (W.heap.size + 3) v (Q.map strOf) := by
  unfold OwnTexts
  rw [List.length_map, List.map_map]
  exact h.own
theorem row_at {X : World} {q : Nat} (h : X.heap.size = q) (t : TypeId) (cs : Array Value) : Row (X.alloc (.cells cs t)) q t cs := by
  subst h
  exact Row.new _ _ _
/-- At the beginning. -/
theorem WRest.start {W : World} {n₀ D B N b : Nat} {ps : List Txt} {u : UInt8} {Bs Bg : Nat} (l' : Nat) (hbs : (Bs < n₀ ∨ D ≤ Bs) ∧ Row W Bs 9 #[.string ⟨#[u]⟩]) (hbg : (Bg < n₀ ∨ D ≤ Bg) ∧ Row W Bg 95 #[.map (some b)]) (hgr : GraphAt W B N b ps) (hN : N ≤ n₀) (hn : n₀ ≤ W.heap.size) (hD : D ≤ W.heap.size) :
    WRest W n₀ D B N b ps u Bs Bg l' [[u]] (.slice (some ⟨W.heap.size + 3, 0, none⟩) 1 1)
      ((((((W.alloc (.cells #[.func (.yield l') #[] #[]] 104)).alloc (.map #[] 0)).alloc (.cells #[.map (some (W.heap.size + 1))] 99)).alloc (.cells #[.string ⟨#[u]⟩] 9)).alloc (.cells #[.slice (some ⟨W.heap.size + 3, 0, none⟩) 1 1] 29)).alloc (.cells #[.pointer (some ⟨W.heap.size + 4, 0, none⟩)] 223)) := by
  have hlow : ∀ {B' : Nat}, B' ≤ W.heap.size → Below B' W ((((((W.alloc (.cells #[.func (.yield l') #[] #[]] 104)).alloc (.map #[] 0)).alloc (.cells #[.map (some (W.heap.size + 1))] 99)).alloc (.cells #[.string ⟨#[u]⟩] 9)).alloc (.cells #[.slice (some ⟨W.heap.size + 3, 0, none⟩) 1 1] 29)).alloc (.cells #[.pointer (some ⟨W.heap.size + 4, 0, none⟩)] 223)) := fun hB =>
    ((((((Below.refl _ W).alloc hB _).alloc (by simp; omega) _).alloc (by simp; omega) _).alloc (by simp; omega) _).alloc (by simp; omega) _).alloc (by simp; omega) _
  have hset : SetAt ((W.alloc (.cells #[.func (.yield l') #[] #[]] 104)).alloc (.map #[] 0)) (W.heap.size + 1) [] := by
    have := SetAt.made (W.alloc (.cells #[.func (.yield l') #[] #[]] 104))
    rwa [World.size_alloc] at this
  have hsl := hset.lt
  refine ⟨hlow hn, (((((row_at rfl _ _).alloc _).alloc _).alloc _).alloc _).alloc _, ?_, (((row_at (by simp) _ _).alloc _).alloc _).alloc _, (row_at (by simp) _ _).alloc _, ?_, row_at (by simp) _ _, ⟨hbs.1, (((((hbs.2.alloc _).alloc _).alloc _).alloc _).alloc _).alloc _⟩, ⟨hbg.1, (((((hbg.2.alloc _).alloc _).alloc _).alloc _).alloc _).alloc _⟩, hgr.below ((hlow hn).mono hN), by simp, hbs.2.lt, hbg.2.lt, hN, hD, hn⟩
  · refine hset.block ?_
    simp only [World.size_alloc] at hsl
    refine (Below.heap_alloc _ _ _ (by simp)).trans ((Below.heap_alloc _ _ _ (by simp)).trans ((Below.heap_alloc _ _ _ (by simp)).trans (Below.heap_alloc _ _ _ (by simp))))
  · have h0 := World.ownsRow_lit (base := W.heap.size + 3) (((W.alloc (.cells #[.func (.yield l') #[] #[]] 104)).alloc (.map #[] 0)).alloc (.cells #[.map (some (W.heap.size + 1))] 99)) (e := 9) (size := 1) #[.string ⟨#[u]⟩] 1 (by simp) (by simp [maxLen]) rfl
    simp only [World.size_alloc] at h0
    refine own_keep h0 fun g hg => ?_
    have e : g = W.heap.size + 3 := by
      have : W.heap.size + 1 + 1 + 1 = g := by simpa [Value.ownBlock] using hg
      omega
    subst e
    exact (Below.heap_alloc _ _ _ (by simp)).trans (Below.heap_alloc _ _ _ (by simp))

/-- What a yield leaves, by its answer. -/
def YM {α : Type} (J Jx : List α → World → Prop) (n₀ D B : Nat) (xs : List α) (W1 W' : World) : Bool → Prop
  | true => J xs W' ∧ Below n₀ W1 W' ∧ KeepsA D W1 W'
  | false => Jx xs W' ∧ KeepsA B W1 W'
theorem yieldYM {α : Type} {m l : Nat} {args : Array Value} {W1 : World} {J Jx : List α → World → Prop} {n₀ D B : Nat} {xs : List α} (h : YieldAt Fence.wide m Tryz.prog l args W1 fun e W' =>
      (e = .returned (.bool true) ∧ J xs W' ∧ Below n₀ W1 W' ∧ KeepsA D W1 W') ∨ (e = .returned (.bool false) ∧ Jx xs W' ∧ KeepsA B W1 W')) :
    YieldAt Fence.wide m Tryz.prog l args W1 fun e W' => ∃ b, e = .returned (.bool b) ∧ YM J Jx n₀ D B xs W1 W' b := by
  obtain ⟨fn, tmps, assign, body, hy, hR⟩ := h
  refine ⟨fn, tmps, assign, body, hy, hR.mono ?_⟩
  rintro e W3 (⟨rfl, h3, h4, h5⟩ | ⟨rfl, h3, h4⟩)
  · exact ⟨true, rfl, h3, h4, h5⟩
  · exact ⟨false, rfl, h3, h4⟩

/-- One text is put behind the queue's: only a row of two cells or more is written in place, and the row lies where it lay, or is new. -/
theorem run_append_turn (w : World) (ty base n : Nat) (v : Value) (xs : List Value) (hown : w.ownsRow base 9 1 v n xs) (h0 : 0 < n) (ad : Addr) (u : Value)
    (hnews : ∀ j y, [u][j]? = some y → w.cell? (ad.add j) = some y) (h1 : ∀ y ∈ [u], y.oneCell' = true) (hn : n ≤ 1000) (hbase : base ≤ w.heap.size) :
    ∃ g cap w', (Builtin.append_ #[29, 29] ty #[v, .slice (some ad) 1 1]).run Tryz.prog w = .ok (.slice (some ⟨g, 0, none⟩) (n + 1) cap) w' ∧
      w'.ownsRow base 9 1 (.slice (some ⟨g, 0, none⟩) (n + 1) cap) (n + 1) (xs ++ [u]) ∧ w.grownBy w' v.ownBlock ∧ SteadyT w w' ∧ (v.ownBlock = some g ∨ g = w.heap.size) := by
  obtain ⟨g, cap, w', hr, h2, h3, h4⟩ := run_append_firmT w ty base n v xs hown (fun e => by omega) ad u hnews h1 hn hbase
  obtain ⟨i0, hi, hz0, hz1, hz2⟩ := info_parts info_str
  obtain ⟨v2, w2, hr2, -, -, -, h5⟩ := run_append_own_at (P := Tryz.prog) w base 29 ty 9 i0 (.string ByteArray.empty) 1 16 Tryz.underlying29 hi hz0 hz1 hz2 rfl (by decide) v n xs hown ad 1 1 [u] rfl hnews h1 (by unfold maxLen; omega) (by omega) hbase
  rw [hr] at hr2
  injection hr2 with e1 e2
  subst e1
  refine ⟨g, cap, w', hr, h2, h3, h4, ?_⟩
  rcases h5 with h5 | h5
  · exact .inl h5.symm
  · right
    simpa [Value.ownBlock] using h5
theorem wpListIn_append_turn {F : Fence} {nF : Nat} {w : World} {ops : Array Oper} {rest : List Oper} {o : Oper} {a : Act} {Q : Exit → Act → World → Prop} (hgd : o.guard = none) (s x : Operand)
    (ho : o.op = .call { callee := .builtin .append, args := #[s, x], argTypes := #[29, 29] })
    (base n : Nat) (v : Value) (xs : List Value) (hs : a.eval s = v) (hown : w.ownsRow base 9 1 v n xs) (h0 : 0 < n) (ad : Addr) (u : Value) (hx : a.eval x = .slice (some ad) 1 1)
    (hnews : ∀ j y, [u][j]? = some y → w.cell? (ad.add j) = some y) (h1 : ∀ y ∈ [u], y.oneCell' = true) (hn : n ≤ 1000) (hbase : base ≤ w.heap.size)
    (h : ∀ g cap w', w'.ownsRow base 9 1 (.slice (some ⟨g, 0, none⟩) (n + 1) cap) (n + 1) (xs ++ [u]) → w.grownBy w' v.ownBlock → SteadyT w w' → (v.ownBlock = some g ∨ g = w.heap.size) → wpListIn F nF Tryz.prog ops Q rest (a.put o.dst (.slice (some ⟨g, 0, none⟩) (n + 1) cap)) w') :
    wpListIn F nF Tryz.prog ops Q (o :: rest) a w := by
  refine wpListIn_plain hgd fun K hK => ?_
  obtain ⟨g, cap, w', hr, h2, h3, h4, h5⟩ := run_append_turn w o.type base n v xs hown h0 ad u hnews h1 hn hbase
  unfold Oper.wpIn
  refine ⟨by simp [Oper.about, ho, resolve, Target.leads, Sem.run_pure], ?_⟩
  rw [Oper.semAt_plain F _ _ (by rw [ho]; intro c hc'; cases hc')]
  simp [execOp, ho, resolve, invoke, builtin, hs, hx, hr, Result.andThen]
  exact hK _ _ (h g cap w' h2 h3 h4 h5)

end Go.Proofs.YtbmfbnlmdjnddaaGreat
/- A region that draws its order, within a round of a range over a function: what may be taken first outside of a round may be taken first inside too, where nothing is deferred. -/
namespace Go.Proofs.YtbmfbnlmdjnddaaGreat
open Go.RowKit Go.Shelf

def noDefer (ops : Array Oper) : Bool := ops.all fun o => match o.op with
  | .defer _ => false
  | _ => true
theorem noDefer_spec {ops : Array Oper} (h : noDefer ops = true) : ∀ (j : Nat) (o : Oper), ops[j]? = some o → ∀ c, o.op ≠ .defer c := fun j o hj c hc => by
  unfold noDefer at h
  rw [Array.all_eq_true] at h
  obtain ⟨hlt, he⟩ := Array.getElem?_eq_some_iff.1 hj
  have h1 := h j hlt
  rw [he, hc] at h1
  cases h1
section
variable {F : Fence} {n : Nat} {P : Program} {Q : Exit → Act → World → Prop}
theorem oper_round (hF : F.round = none) (l : Nat) {o : Oper} (hd : ∀ c, o.op ≠ .defer c) {a : Act} {w : World} {K : Act → World → Prop} (h : o.wpIn F n P a w K Q) : o.wpIn (F.inRound l) n P a w K Q := by
  unfold Oper.wpIn at *
  rw [hF, Oper.semAt_none] at h
  refine ⟨h.1, ?_⟩
  rw [show (F.inRound l).round = some l from rfl, Oper.semAt_some l _ _ hd]
  have h2 := h.2
  generalize (execOp a.eval o).run P w = r at *
  cases r with
  | ok x w' => cases x <;> exact h2
  | halt x w' => cases x <;> exact h2
theorem op_round (hF : F.round = none) (l : Nat) {ops : Array Oper} (hd : ∀ (j : Nat) (o : Oper), ops[j]? = some o → ∀ c, o.op ≠ .defer c) {i : Nat} {a : Act} {w : World} {K : Act → World → Prop} (h : wpOpIn F n P ops Q i K a w) : wpOpIn (F.inRound l) n P ops Q i K a w := by
  unfold wpOpIn at *
  cases ho : ops[i]? with
  | none => rw [ho] at h; exact h
  | some o =>
    rw [ho] at h
    simp only at h ⊢
    split at h
    · rename_i hw
      rw [if_pos hw]
      exact oper_round hF l (hd i o ho) h
    · rename_i hw
      rw [if_neg hw]
      exact h
theorem any_round (hF : F.round = none) (l : Nat) {md : Region.Mode} {ops : Array Oper} (hd : noDefer ops = true) : ∀ (fuel : Nat) (listed : Array Bool) (a : Act) (w : World), wpAnyIn F n P md ops Q fuel listed a w → wpAnyIn (F.inRound l) n P md ops Q fuel listed a w
  | 0, _, _, _, h => h
  | fuel + 1, _, _, _, h => ⟨h.1, fun i hi => op_round hF l (noDefer_spec hd) (wpOpIn_mono (fun a w h => any_round hF l hd fuel _ a w h) (h.2 i hi))⟩
end

end Go.Proofs.YtbmfbnlmdjnddaaGreat
