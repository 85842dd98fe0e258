/- Joined: Af Ge Pc Pd Pe Qc Qd Cm Qb. -/
import Derived.Test.YtcpiojliakgdlaaU11
import Derived.Test.YtcpiojliakgdlaaU01
import Derived.Laws.Rows
import Derived.Test.YtcpiojliakgdlaaU10
import Derived.Test.YtcpiojliakgdlaaU09
import Derived.RangeFuncWrites
import Derived.Maps.OwnIn
import Derived.LaidEqlPtr
/- A need met: what the law FnNeedOf asks; plain. -/
namespace Go.Proofs.Ytcpiojliakgdlaa
open Go.RowKit

theorem hasT_at3 {l : List Seg} (hv : validB l = true) {js : List Nat} (hj : ∀ j ∈ js, j < l.length) {x : Nat} (hx : x < l.length) : hasT (namesAt l js) (namesAt l [x]) = decide (x ∈ js) := by
  unfold hasT
  have hz := names_size hv hj
  rw [decide_eq_decide]
  constructor
  · rintro ⟨i, hi, he⟩
    rw [hz] at hi
    rw [cut_at3 hv hj hi] at he
    have h1 := names_inj hv (T := [js[i]]) (U := [x]) (fun j h => by rw [List.mem_singleton.1 h]; exact hj _ (List.getElem_mem hi)) (fun j h => by rw [List.mem_singleton.1 h]; exact hx) he
    injection h1 with h1
    rw [← h1]
    exact List.getElem_mem hi
  · intro h
    obtain ⟨i, hi, rfl⟩ := List.getElem_of_mem h
    exact ⟨i, by omega, cut_at3 hv hj hi⟩

structure NeedSays (l : List Seg) (s t a ld d p : ByteArray) : Prop where
  small : a.size ≤ 9 ∧ ld.size ≤ 9 ∧ d.size ≤ 9 ∧ p.size ≤ 9 ∧ s.size ≤ 9
  one : ∀ i, i < p.size → hasT a (p.extract i (i + 1)) = true ∧ hasT s (p.extract i (i + 1)) = !hasT ld (p.extract i (i + 1))
  two : ∀ i, i < s.size → hasT a (s.extract i (i + 1)) = !hasT d (s.extract i (i + 1))
  again : afterStr l a t = a ∧ loadStr l a t = ⟨#[]⟩ ∧ stOk l a = true
  len : (a.size : Int) = (s.size : Int) - (d.size : Int) + (ld.size : Int)
  same : ld = ⟨#[]⟩ → a = s
  cost : loadCostB l s t = costB l ld
  fits : loadCostB l s t ≤ endB l t

theorem szs_filter3 {l : List Seg} (hv : validB l = true) (q : Nat → Bool) : ∀ js : List Nat, (∀ j ∈ js, j < l.length) → szs l (js.filter q) ≤ szs l js
  | [], _ => Int.le_refl _
  | x :: xs, h => by
    have h1 := szs_filter3 hv q xs (fun j hj => h j (List.mem_cons_of_mem _ hj))
    have h2 := sizeAt_bd hv (h x List.mem_cons_self)
    have h3 : szs l (x :: xs) = sizeAt l x + szs l xs := by simp [szs]
    rw [List.filter_cons, h3]
    split
    · have h4 : szs l (x :: xs.filter q) = sizeAt l x + szs l (xs.filter q) := by simp [szs]
      omega
    · omega

theorem need_says {l : List Seg} {s t : ByteArray} (h : needOk l s t = true) : NeedSays l s t (afterStr l s t) (loadStr l s t) (dropStr l s t) (pathStr l t) := by
  obtain ⟨hs, hi⟩ := needOk_parts h
  obtain ⟨hv, hT, hsn⟩ := stT_state hs
  have hP := path_state hi
  have hd := (valid_all hv).1.down
  have h8 := (valid_all hv).2.1
  have hp := pathStr_ix hi
  have ha : afterStr l s t = namesAt l (needT (stT l s) (pathIx l t)) := by unfold afterStr afterIx; rw [if_pos h]
  have hl : loadStr l s t = namesAt l (loadT (stT l s) (pathIx l t)) := by unfold loadStr loadIx; rw [if_pos h]
  have hdr : dropStr l s t = namesAt l (dropT (stT l s) (pathIx l t)) := by unfold dropStr dropIx; rw [if_pos h]
  have hc : loadCostB l s t = szs l (loadT (stT l s) (pathIx l t)) := by unfold loadCostB loadIx; rw [if_pos h, if_pos h]
  have hen : endB l t = szs l (pathIx l t) := if_neg (by omega)
  generalize stT l s = T at *
  have hN := needT_state hT hP
  obtain ⟨hok2, hst2⟩ := stT_names hv hN
  have hnd2 : needOk l (namesAt l (needT T (pathIx l t))) t = true := by
    unfold needOk hasSeg
    rw [hok2, decide_eq_true hi]
    rfl
  have ha2 : afterStr l (namesAt l (needT T (pathIx l t))) t = namesAt l (needT (needT T (pathIx l t)) (pathIx l t)) := by unfold afterStr afterIx; rw [if_pos hnd2, hst2]
  have hl2 : loadStr l (namesAt l (needT T (pathIx l t))) t = namesAt l (loadT (needT T (pathIx l t)) (pathIx l t)) := by unfold loadStr loadIx; rw [if_pos hnd2, hst2]
  have hTl := hT.lt hd
  have hPl := hP.lt hd
  have hNl := hN.lt hd
  generalize pathIx l t = P at *
  have hsub : ∀ x ∈ P, x ∈ needT T P := by
    unfold needT
    split
    · assumption
    · exact fun x h => h
  have hNN : needT (needT T P) P = needT T P := if_pos hsub
  have hcase : needT T P = T ∨ needT T P = P := by
    unfold needT
    split
    · exact .inl rfl
    · exact .inr rfl
  have hLl : ∀ j ∈ loadT T P, j < l.length := less_lt hNl
  have hDl : ∀ j ∈ dropT T P, j < l.length := less_lt hTl
  have hz := names_size hv hTl
  have hza := names_size hv hNl
  have hzl := names_size hv hLl
  have hzd := names_size hv hDl
  have hzp := names_size hv hPl
  have l1 := state_len hT
  have l2 := state_len hP
  have l3 := state_len hN
  have l4 : (loadT T P).length ≤ (needT T P).length := less_len _ _
  have l5 : (dropT T P).length ≤ T.length := less_len _ _
  rw [hsn] at hz
  rw [ha, hl, hdr, hp]
  refine ⟨by omega, fun i hi => ?_, fun i hi => ?_, ?_, ?_, fun he => ?_, ?_, ?_⟩
  · rw [hzp] at hi
    have hx := hPl _ (List.getElem_mem hi)
    rw [cut_at3 hv hPl hi, hasT_at3 hv hNl hx, hasT_at3 hv hLl hx]
    have hsx : hasT s (namesAt l [P[i]]) = decide (P[i] ∈ T) := by rw [← hsn]; exact hasT_at3 hv hTl hx
    have hm := hsub _ (List.getElem_mem hi)
    refine ⟨decide_eq_true hm, ?_⟩
    rw [hsx]
    unfold loadT lessT
    by_cases ht : P[i] ∈ T
    · simp [ht]
    · simp [ht, hm]
  · rw [hz] at hi
    have hx := hTl _ (List.getElem_mem hi)
    have hcut : s.extract i (i + 1) = namesAt l [T[i]] := by rw [← hsn]; exact cut_at3 hv hTl hi
    rw [hcut, hasT_at3 hv hNl hx, hasT_at3 hv hDl hx]
    unfold dropT lessT
    by_cases ht : T[i] ∈ needT T P
    · simp [ht]
    · simp [ht]
  · refine ⟨by rw [ha2, hNN], ?_, hok2⟩
    rw [hl2]
    unfold loadT
    rw [hNN, less_self]
    rfl
  · have e1 : (loadT T P).length = (needT T P).length - comLen (needT T P) T := by
      unfold loadT
      rw [less_drop hd hN hT, List.length_drop]
    have e2 : (dropT T P).length = T.length - comLen T (needT T P) := by
      unfold dropT
      rw [less_drop hd hT hN, List.length_drop]
    have e3 := comLen_comm T (needT T P)
    have e4 := comLen_le T (needT T P)
    omega
  · have e1 : (loadT T P).length = 0 := by
      rw [← hzl, he]
      rfl
    have e2 : loadT T P = [] := List.eq_nil_of_length_eq_zero e1
    have e3 : ∀ x ∈ needT T P, x ∈ T := less_nil.1 e2
    have e4 : needT T P = T := by
      rcases hcase with e | e
      · exact e
      · rw [e] at e3
        exact if_pos e3
    rw [e4, hsn]
  · rw [hc, costB_names hv hLl]
  · rw [hc, hen]
    have hPp := szs_bd hv P hPl
    by_cases hall : ∀ x ∈ P, x ∈ T
    · have e : loadT T P = [] := by
        unfold loadT
        rw [show needT T P = T from if_pos hall, less_self]
      rw [e]
      have h3 : szs l [] = 0 := rfl
      omega
    · have e : needT T P = P := if_neg hall
      unfold loadT lessT
      rw [e]
      exact szs_filter3 hv _ P hPl
theorem need_off {l : List Seg} {s t : ByteArray} (h : needOk l s t = false) : loadCostB l s t = -1 := if_neg (by rw [h]; decide)
theorem need_cost {l : List Seg} {s t : ByteArray} : decide (0 ≤ loadCostB l s t) = needOk l s t := by
  cases h : needOk l s t with
  | false => rw [need_off h]; rfl
  | true =>
    obtain ⟨hs, hi⟩ := needOk_parts h
    obtain ⟨hv, hT, -⟩ := stT_state hs
    have h1 : loadCostB l s t = szs l (loadT (stT l s) (pathIx l t)) := by unfold loadCostB loadIx; rw [if_pos h, if_pos h]
    have h2 := szs_bd hv _ (load_lt (valid_all hv).1.down hT (path_state hi))
    exact decide_eq_true (by omega)

end Go.Proofs.Ytcpiojliakgdlaa
/- A state as an array of eight truths: what is in one and not in another. -/
namespace Go.Proofs.Ytcpiojliakgdlaa
open Go.RowKit

def bitCells (f : Nat → Bool) : Array Value := #[.bool (f 0), .bool (f 1), .bool (f 2), .bool (f 3), .bool (f 4), .bool (f 5), .bool (f 6), .bool (f 7)]
def bitsV (f : Nat → Bool) : Value := .agg (bitCells f)
theorem bits_at (f : Nat → Bool) {k : Nat} (h : k < 8) : (bitCells f)[k]? = some (.bool (f k)) := by
  match k, h with
  | 0, _ => rfl
  | 1, _ => rfl
  | 2, _ => rfl
  | 3, _ => rfl
  | 4, _ => rfl
  | 5, _ => rfl
  | 6, _ => rfl
  | 7, _ => rfl
theorem bits_set (f : Nat → Bool) {k : Nat} (h : k < 8) (b : Bool) : (bitCells f).setIfInBounds k (.bool b) = bitCells (fun j => if j = k then b else f j) := by
  match k, h with
  | 0, _ => rfl
  | 1, _ => rfl
  | 2, _ => rfl
  | 3, _ => rfl
  | 4, _ => rfl
  | 5, _ => rfl
  | 6, _ => rfl
  | 7, _ => rfl
theorem bits_congr {f g : Nat → Bool} (h : ∀ j, j < 8 → f j = g j) : bitCells f = bitCells g := by
  unfold bitCells
  rw [h 0 (by decide), h 1 (by decide), h 2 (by decide), h 3 (by decide), h 4 (by decide), h 5 (by decide), h 6 (by decide), h 7 (by decide)]
theorem bits_ix0 (f : Nat → Bool) (w : World) : (Instr.index 64 (bitsV f) (.int .i64 0)).run Try.prog w = .ok (.bool (f 0)) w := by kernel_rfl
theorem bits_ix1 (f : Nat → Bool) (w : World) : (Instr.index 64 (bitsV f) (.int .i64 1)).run Try.prog w = .ok (.bool (f 1)) w := by kernel_rfl
theorem bits_ix2 (f : Nat → Bool) (w : World) : (Instr.index 64 (bitsV f) (.int .i64 2)).run Try.prog w = .ok (.bool (f 2)) w := by kernel_rfl
theorem bits_ix3 (f : Nat → Bool) (w : World) : (Instr.index 64 (bitsV f) (.int .i64 3)).run Try.prog w = .ok (.bool (f 3)) w := by kernel_rfl
theorem bits_ix4 (f : Nat → Bool) (w : World) : (Instr.index 64 (bitsV f) (.int .i64 4)).run Try.prog w = .ok (.bool (f 4)) w := by kernel_rfl
theorem bits_ix5 (f : Nat → Bool) (w : World) : (Instr.index 64 (bitsV f) (.int .i64 5)).run Try.prog w = .ok (.bool (f 5)) w := by kernel_rfl
theorem bits_ix6 (f : Nat → Bool) (w : World) : (Instr.index 64 (bitsV f) (.int .i64 6)).run Try.prog w = .ok (.bool (f 6)) w := by kernel_rfl
theorem bits_ix7 (f : Nat → Bool) (w : World) : (Instr.index 64 (bitsV f) (.int .i64 7)).run Try.prog w = .ok (.bool (f 7)) w := by kernel_rfl
theorem bits_ix (f : Nat → Bool) {k : Nat} (h : k < 8) (w : World) : (Instr.index 64 (bitsV f) (.int .i64 (k : Int))).run Try.prog w = .ok (.bool (f k)) w := by
  match k, h with
  | 0, _ => exact bits_ix0 f w
  | 1, _ => exact bits_ix1 f w
  | 2, _ => exact bits_ix2 f w
  | 3, _ => exact bits_ix3 f w
  | 4, _ => exact bits_ix4 f w
  | 5, _ => exact bits_ix5 f w
  | 6, _ => exact bits_ix6 f w
  | 7, _ => exact bits_ix7 f w

/-- What is left after the first 'k' have been gone over. -/
def lessTo (f g : Nat → Bool) (k j : Nat) : Bool := if j < k then f j && !g j else f j
theorem lessTo_step (f g : Nat → Bool) {k : Nat} (h : k < 8) (b : Bool) (hb : b = (f k && !g k)) : (bitCells (lessTo f g k)).setIfInBounds k (.bool b) = bitCells (lessTo f g (k + 1)) := by
  rw [bits_set _ h]
  apply bits_congr
  intro j hj
  unfold lessTo
  by_cases h1 : j = k
  · subst h1
    rw [if_pos rfl, if_pos (by omega), hb]
  · rw [if_neg h1]
    by_cases h2 : j < k
    · rw [if_pos h2, if_pos (by omega)]
    · rw [if_neg h2, if_neg (by omega)]
theorem run_loadState {w : World} {b : Nat} {f : Nat → Bool} (h : Row w b 64 (bitCells f)) : (loadVar 64 ⟨b, 0, none⟩).run Try.prog w = .ok (bitsV f) w :=
  run_loadVar_row w b 64 64 (bitCells f) (0, 0) _ h Try.underlying64 rfl (by kernel_rfl)
theorem bits_cells {t : TypeId} {w : World} {b : Nat} {f : Nat → Bool} (h : Row w b t (bitCells f)) : (w.cell? ⟨b, 0, none⟩ = some (.bool (f 0)) ∧ w.cell? ⟨b, 1, none⟩ = some (.bool (f 1)) ∧ w.cell? ⟨b, 2, none⟩ = some (.bool (f 2)) ∧ w.cell? ⟨b, 3, none⟩ = some (.bool (f 3))) ∧
    (w.cell? ⟨b, 4, none⟩ = some (.bool (f 4)) ∧ w.cell? ⟨b, 5, none⟩ = some (.bool (f 5)) ∧ w.cell? ⟨b, 6, none⟩ = some (.bool (f 6)) ∧ w.cell? ⟨b, 7, none⟩ = some (.bool (f 7))) :=
  ⟨⟨h.cell 0, h.cell 1, h.cell 2, h.cell 3⟩, h.cell 4, h.cell 5, h.cell 6, h.cell 7⟩
/-- The world behind a store of a whole state. -/
def putBits (w : World) (b : Nat) (f : Nat → Bool) : World :=
  (((((((w.setCell ⟨b, 0, none⟩ (.bool (f 0))).setCell ⟨b, 1, none⟩ (.bool (f 1))).setCell ⟨b, 2, none⟩ (.bool (f 2))).setCell ⟨b, 3, none⟩ (.bool (f 3))).setCell ⟨b, 4, none⟩ (.bool (f 4))).setCell ⟨b, 5, none⟩ (.bool (f 5))).setCell ⟨b, 6, none⟩ (.bool (f 6))).setCell ⟨b, 7, none⟩ (.bool (f 7))
def upTo (f g : Nat → Bool) (k j : Nat) : Bool := if j < k then f j else g j
theorem upTo_step {t : TypeId} {w : World} {b k : Nat} {f g : Nat → Bool} (h : Row w b t (bitCells (upTo f g k))) (hk : k < 8) : Row (w.setCell ⟨b, k, none⟩ (.bool (f k))) b t (bitCells (upTo f g (k + 1))) := by
  have h1 := h.put k (.bool (f k))
  rw [bits_set _ hk] at h1
  rw [bits_congr (f := upTo f g (k + 1)) (g := fun j => if j = k then f k else upTo f g k j)]
  · exact h1
  · intro j _
    unfold upTo
    by_cases e : j = k
    · subst e
      rw [if_pos (by omega), if_pos rfl]
    · rw [if_neg e]
      by_cases e2 : j < k
      · rw [if_pos e2, if_pos (by omega)]
      · rw [if_neg e2, if_neg (by omega)]
theorem putBits_row {t : TypeId} {w : World} {b : Nat} {f g : Nat → Bool} (h : Row w b t (bitCells g)) : Row (putBits w b f) b t (bitCells f) := by
  have h0 : Row w b t (bitCells (upTo f g 0)) := h
  have h8 := upTo_step (upTo_step (upTo_step (upTo_step (upTo_step (upTo_step (upTo_step (upTo_step h0 (by decide)) (by decide)) (by decide)) (by decide)) (by decide)) (by decide)) (by decide)) (by decide)
  rw [bits_congr (f := f) (g := upTo f g 8) (fun j hj => (if_pos hj).symm)]
  exact h8
theorem putBits_far {w : World} {b b' : Nat} {f : Nat → Bool} {t : TypeId} {cs : Array Value} (h : Row w b' t cs) (hne : b' ≠ b) : Row (putBits w b f) b' t cs :=
  (((((((h.far (p := ⟨b, 0, none⟩) hne _).far (p := ⟨b, 1, none⟩) hne _).far (p := ⟨b, 2, none⟩) hne _).far (p := ⟨b, 3, none⟩) hne _).far (p := ⟨b, 4, none⟩) hne _).far (p := ⟨b, 5, none⟩) hne _).far (p := ⟨b, 6, none⟩) hne _).far (p := ⟨b, 7, none⟩) hne _
theorem putBits_block (w : World) (b : Nat) (f : Nat → Bool) {k : Nat} (h : k ≠ b) : (putBits w b f).heap[k]? = w.heap[k]? := by
  unfold putBits
  rw [Below.heap_setCell _ ⟨b, 7, none⟩ _ k h, Below.heap_setCell _ ⟨b, 6, none⟩ _ k h, Below.heap_setCell _ ⟨b, 5, none⟩ _ k h, Below.heap_setCell _ ⟨b, 4, none⟩ _ k h, Below.heap_setCell _ ⟨b, 3, none⟩ _ k h, Below.heap_setCell _ ⟨b, 2, none⟩ _ k h, Below.heap_setCell _ ⟨b, 1, none⟩ _ k h, Below.heap_setCell _ ⟨b, 0, none⟩ _ k h]
theorem putBits_below {w0 w : World} {B b : Nat} {f : Nat → Bool} (h : Below B w0 w) (hb : B ≤ b) : Below B w0 (putBits w b f) :=
  (((((((h.setCell (p := ⟨b, 0, none⟩) hb _).setCell (p := ⟨b, 1, none⟩) hb _).setCell (p := ⟨b, 2, none⟩) hb _).setCell (p := ⟨b, 3, none⟩) hb _).setCell (p := ⟨b, 4, none⟩) hb _).setCell (p := ⟨b, 5, none⟩) hb _).setCell (p := ⟨b, 6, none⟩) hb _).setCell (p := ⟨b, 7, none⟩) hb _

set_option maxRecDepth 100000 in
set_option maxHeartbeats 400000 in
theorem less_any (f g : Nat → Bool) (w : World) :
    Calls Try.prog 64 #[bitsV f, bitsV g] w fun e w' => e = .returned (bitsV (fun j => f j && !g j)) ∧ Below w.heap.size w w' := by
  unfold bitsV bitCells
  go_enter Try.func64, Try.ntmps64
  go_wp2
  have hz0 : Row (((w.alloc (.cells (bitCells f) 64)).alloc (.cells (bitCells g) 64)).alloc (.cells (bitCells fun _ => false) 64)) w.heap.size 64 (bitCells (lessTo f g 0)) := ((Row.new w _ _).alloc _).alloc _
  have hz2 : Row (((w.alloc (.cells (bitCells f) 64)).alloc (.cells (bitCells g) 64)).alloc (.cells (bitCells fun _ => false) 64)) (w.heap.size + 1 + 1) 64 (bitCells fun _ => false) := by
    have := Row.new ((w.alloc (.cells (bitCells f) 64)).alloc (.cells (bitCells g) 64)) 64 (bitCells fun _ => false)
    simpa using this
  have hb0 : Below w.heap.size w (((w.alloc (.cells (bitCells f) 64)).alloc (.cells (bitCells g) 64)).alloc (.cells (bitCells fun _ => false) 64)) := (((Below.refl _ w).alloc (Nat.le_refl _) _).alloc (by simp) _).alloc (by simp; omega) _
  go_loopw [8] (fun i wr => ∃ (k : Nat), k ≤ 8 ∧ i = .int .i64 k ∧ Hid (Row wr w.heap.size 64 (bitCells (lessTo f g k))) ∧ Hid (Row wr (w.heap.size + 1 + 1) 64 (bitCells fun _ => false)) ∧ Hid (Below w.heap.size w wr))
    (fun i _ => 8 - (intOf i).toNat)
  case atStart => exact ⟨0, Nat.zero_le _, rfl, hz0, hz2, hb0⟩
  case round =>
    clear hz0 hz2 hb0
    obtain ⟨k, hk, rfl, HR, HZ, HB⟩ := hrel
    have hk0 : (0 : Int) ≤ (k : Int) := Int.natCast_nonneg _
    by_cases hlt : k < 8
    · have hlt' : (k : Int) < 8 := by omega
      have hc : wr.cell? ⟨w.heap.size, k, none⟩ = some (.bool (f k)) := by
        have h1 : lessTo f g k k = f k := if_neg (by omega)
        rw [HR.out.cell, bits_at _ hlt, h1]
      have hfz : wr.frozen? ⟨w.heap.size, k, none⟩ = false := HR.out.free k
      have hx : ∀ W : World, (Instr.index 64 (.agg #[.bool (g 0), .bool (g 1), .bool (g 2), .bool (g 3), .bool (g 4), .bool (g 5), .bool (g 6), .bool (g 7)]) (.int .i64 (k : Int))).run Try.prog W = .ok (.bool (g k)) W := fun W => bits_ix g hlt W
      have HR1 : Hid (∀ b, b = (f k && !g k) → Row (wr.setCell ⟨w.heap.size, k, none⟩ (.bool b)) w.heap.size 64 (bitCells (lessTo f g (k + 1)))) := fun b hb => by
        have := HR.out.put k (.bool b)
        rw [lessTo_step f g hlt b hb] at this
        exact this
      have HZ1 : Hid (∀ b, Row (wr.setCell ⟨w.heap.size, k, none⟩ (.bool b)) (w.heap.size + 1 + 1) 64 (bitCells fun _ => false)) := fun b => Row.far HZ.out (by show w.heap.size + 1 + 1 ≠ w.heap.size; omega) _
      have HB1 : Hid (∀ b, Below w.heap.size w (wr.setCell ⟨w.heap.size, k, none⟩ (.bool b))) := fun b => HB.out.setCell (Nat.le_refl _) _
      generalize f k = fk at *
      generalize g k = gk at *
      cases fk <;> cases gk
      all_goals
        go_wp2
        go_roundw
        case rel => exact ⟨k + 1, by omega, by go_num, HR1.out _ rfl, HZ1.out _, HB1.out _⟩
        case measure => simp [intOf]; omega
    · obtain rfl : k = 8 := by omega
      have HL : Hid (bitCells (lessTo f g 8) = bitCells (fun j => f j && !g j)) := bits_congr fun j hj => if_pos hj
      have hr := HR.out
      rw [HL.out] at hr
      obtain ⟨⟨c0, c1, c2, c3⟩, c4, c5, c6, c7⟩ := bits_cells hr
      obtain ⟨⟨d0, d1, d2, d3⟩, d4, d5, d6, d7⟩ := bits_cells HZ.out
      have hfz := fun j => HZ.out.free j
      have z0 := hfz 0
      have z1 := hfz 1
      have z2 := hfz 2
      have z3 := hfz 3
      have z4 := hfz 4
      have z5 := hfz 5
      have z6 := hfz 6
      have z7 := hfz 7
      have HRow : Hid (Row (putBits wr (w.heap.size + 1 + 1) fun j => f j && !g j) (w.heap.size + 1 + 1) 64 (bitCells fun j => f j && !g j)) := putBits_row HZ.out
      have HBel : Hid (Below w.heap.size w (putBits wr (w.heap.size + 1 + 1) fun j => f j && !g j)) := putBits_below HB.out (by omega)
      clear hr hfz HR HZ HB HL
      go_wp2
      exact bodyPost_ret (v := bitsV fun j => f j && !g j) (results_cell_row (p := 4) (ty := 64) rfl _ (putBits wr (w.heap.size + 1 + 1) fun j => f j && !g j) (w.heap.size + 1 + 1) 64 _ (0, 0) _ rfl HRow.out Try.underlying64 rfl (by kernel_rfl)) rfl ⟨rfl, HBel.out⟩

end Go.Proofs.Ytcpiojliakgdlaa
/- Where a node lies: the program's own place, by the parents. -/
namespace Go.Proofs.Ytcpiojliakgdlaa
open Go.RowKit

/-- What place reads of the nodes. -/
def Placed (w : World) (l : List Seg) (nb : Nat → Nat) : Prop := ∀ j, j < l.length → nb j < w.heap.size ∧ w.cell? ⟨nb j, 1, none⟩ = some (.int .i64 (sizeAt l j)) ∧ w.cell? ⟨nb j, 2, none⟩ = some (.pointer (parPtr l nb j))
theorem Placed.below {w w' : World} {l : List Seg} {nb : Nat → Nat} (h : Placed w l nb) (hb : Below w.heap.size w w') : Placed w' l nb := fun j hj => by
  obtain ⟨h1, h2, h3⟩ := h j hj
  exact ⟨Nat.lt_of_lt_of_le h1 hb.size, (hb.cell (p := ⟨nb j, 1, none⟩) h1).trans h2, (hb.cell (p := ⟨nb j, 2, none⟩) h1).trans h3⟩
theorem Nodes.placed {w : World} {B g : Nat} {l : List Seg} {nb : Nat → Nat} {cv : Nat → Value} (h : Nodes w B g l.length l.length l nb cv) : Placed w l nb := fun j hj => by
  have h1 := h.node j _ hj (List.getElem?_eq_getElem hj)
  refine ⟨h1.lt, ?_, h1.cell 2⟩
  rw [sizeAt_of hj]
  exact h1.cell 1

theorem run_end (a b : Int) (w : World) : (Instr.field 84 (.agg #[.int .i64 a, .int .i64 b]) 1).run Try.prog w = .ok (.int .i64 b) w := by kernel_rfl

set_option maxRecDepth 100000 in
set_option maxHeartbeats 400000 in
theorem place_any (l : List Seg) (nb : Nat → Nat) (hv : validB l = true) : ∀ i, i < l.length → ∀ w, Placed w l nb →
    Calls Try.prog 74 #[.pointer (some ⟨nb i, 0, none⟩)] w fun e w' => e = .returned (.agg #[.int .i64 (begAt l i), .int .i64 (endAt l i)]) ∧ Below w.heap.size w w' := by
  refine rp_ind (valid_all hv).1.down (fun i hi hp w hw => ?_) (fun i p hi hpi hp ih w hw => ?_)
  · obtain ⟨h1, c1, c2⟩ := hw i hi
    have hpp : parPtr l nb i = none := if_pos hp
    have HB : Hid (begAt l i = 0 ∧ endAt l i = sizeAt l i) := by
      have a := begAt_root hp
      have b := endAt_beg l i
      exact ⟨a, by omega⟩
    obtain ⟨z1, z2⟩ := sizeAt_bd hv hi
    rw [hpp] at c2
    clear hw hpp hp
    rw [HB.out.1, HB.out.2]
    generalize sizeAt l i = sz at *
    go_enter Try.func74, Try.ntmps74
    go_wp2
    refine bodyPost_ret (v := .agg #[.int .i64 0, .int .i64 sz]) (by simp [results, Try.results74, go_sem]) rfl ⟨rfl, ?_⟩
    repeat (first | exact Below.refl _ _ | refine Below.setCell ?_ (by simp) _ | refine Below.alloc ?_ (by simp; try omega) _)
  · obtain ⟨h1, c1, c2⟩ := hw i hi
    have hd := (valid_all hv).1.down i hi
    have hpp : parPtr l nb i = some ⟨nb p, 0, none⟩ := by
      unfold parPtr
      rw [if_neg (by omega), hp, Int.toNat_natCast]
    have HB : Hid (begAt l i = endAt l p ∧ endAt l i = endAt l p + sizeAt l i) := by
      have a := begAt_step (valid_all hv).1.down hi hp
      have b := endAt_beg l i
      exact ⟨a, by omega⟩
    obtain ⟨z1, z2⟩ := sizeAt_bd hv hi
    obtain ⟨e1, e2, e3⟩ := place_small hv (show p < l.length by omega)
    have e0 : 0 ≤ endAt l p := by omega
    rw [hpp] at c2
    have HW := Lib.hid hw
    have HI := Lib.hid ih
    clear hw hpp hp ih hd e1 e2
    rw [HB.out.1, HB.out.2]
    clear HB
    have hz0 : w.heap.size < w.heap.size + 1 := Nat.lt_succ_self _
    have hf1 := run_end
    go_enter Try.func74, Try.ntmps74
    go_wp2_with fail
    refine (HI.out _ (HW.out.below ((Below.refl _ _).alloc (Nat.le_refl _) _))).mono ?_
    rintro e w1 ⟨rfl, hb1⟩
    have hb : Below w.heap.size w w1 := ((Below.refl _ w).alloc (Nat.le_refl _) _).trans (hb1.mono (by simp))
    rw [← hb.cell (p := ⟨nb i, 1, none⟩) h1] at c1
    rw [← hb.cell (p := ⟨nb i, 2, none⟩) h1] at c2
    have hr : Row w1 w.heap.size 84 #[.int .i64 0, .int .i64 0] := (Row.new w _ _).below hb1 (by simp)
    have r0 := hr.cell 0
    have r1 := hr.cell 1
    have f0 := hr.free 0
    have f1 := hr.free 1
    have hz := hr.lt
    have H := Lib.hid hb
    clear hb hb1 hr HW HI
    go_wp2
    refine bodyPost_ret (v := .agg #[.int .i64 (endAt l p), .int .i64 (endAt l p + sizeAt l i)]) (by simp [results, Try.results74, go_sem, r0, r1]) rfl ⟨rfl, ?_⟩
    repeat (first | exact H.out | refine Below.setCell ?_ (by simp) _ | refine Below.alloc ?_ (by simp; try omega) _)

end Go.Proofs.Ytcpiojliakgdlaa
/- The program's rooms: where segments begin and end, the whole room, what is saved. -/
namespace Go.Proofs.Ytcpiojliakgdlaa
open Go.RowKit

set_option maxRecDepth 100000 in
set_option maxHeartbeats 400000 in
theorem endOf_any (A : Option Addr) (l : List Seg) (c : Nat) (s : ByteArray) (w : World) (hw : Segs w w.heap.size A l) (hl : l.length ≤ 1048576) (hlc : l.length ≤ c) (hcm : c ≤ 9223372036854775807) (hn : Short l) :
    Calls Try.prog 23 #[.slice A l.length c, .string s] w fun e w' => e = .returned (.int .i64 (endB l s)) ∧ Below w.heap.size w w' := by
  have HW : Hid (Segs w w.heap.size A l) := hw
  clear hw
  cases hv : validB l with
  | false =>
    have HF : Hid (endB l s = -1) := by
      have h1 : indexB l s = -1 := if_neg (by rw [hv]; decide)
      exact if_pos (by omega)
    go_enter Try.func23, Try.ntmps23
    go_wp2_with fail
    refine (nodesOf_bad _ _ _ _ HW.out hl hlc hcm hn hv).mono ?_
    rintro e w1 ⟨rfl, hb1⟩
    go_wp2_with fail
    refine (findNode_nil _ _).mono ?_
    rintro e w2 ⟨rfl, rfl⟩
    go_wp2
    go_ret
    exact ⟨ret_int HF.out.symm, hb1⟩
  | true =>
    have HI : Hid (indexB l s = seek l s) := if_pos hv
    rcases seek_bd l s with hi | ⟨h0, hi⟩
    · have HF : Hid (endB l s = -1) := if_pos (by have := HI.out; omega)
      have HP : Hid (∀ nb, foundPtr l nb s = none) := fun nb => if_pos (by omega)
      clear hi
      go_enter Try.func23, Try.ntmps23
      go_wp2_with fail
      refine (nodesOf_any _ _ _ _ HW.out hl hlc hcm hn hv).mono ?_
      rintro e w1 ⟨g, nb, cv, rfl, hN, hb1⟩
      have HN := Lib.hid hN
      clear hN
      go_wp2_with fail
      refine (findNode_any _ _ _ _ _ _ _ HN.out hl).mono ?_
      rw [HP.out nb]
      rintro e w2 ⟨rfl, rfl⟩
      go_wp2
      go_ret
      exact ⟨ret_int HF.out.symm, hb1⟩
    · obtain ⟨k, hk⟩ := Int.eq_ofNat_of_zero_le h0
      have hkl : k < l.length := by omega
      have HF : Hid (endB l s = endAt l k) := by
        show endB l s = _
        unfold endB
        rw [HI.out, if_neg (by omega), hk, Int.toNat_natCast]
      have HP : Hid (∀ nb, foundPtr l nb s = some ⟨nb k, 0, none⟩) := fun nb => by
        unfold foundPtr
        rw [if_neg (by omega), hk, Int.toNat_natCast]
      have HV := Lib.hid hv
      clear hk hi h0 hv
      have hfld := run_end
      go_enter Try.func23, Try.ntmps23
      go_wp2_with fail
      refine (nodesOf_any _ _ _ _ HW.out hl hlc hcm hn HV.out).mono ?_
      rintro e w1 ⟨g, nb, cv, rfl, hN, hb1⟩
      have HN := Lib.hid hN
      clear hN
      go_wp2_with fail
      refine (findNode_any _ _ _ _ _ _ _ HN.out hl).mono ?_
      rw [HP.out nb]
      rintro e w2 ⟨rfl, rfl⟩
      go_wp2_with fail
      refine (place_any l nb HV.out k hkl _ HN.out.placed).mono ?_
      rintro e w2 ⟨rfl, hb2⟩
      have B2 := hb1.trans (hb2.mono hb1.size)
      clear hb1 hb2
      go_wp2
      go_ret
      exact ⟨ret_int HF.out.symm, B2⟩

end Go.Proofs.Ytcpiojliakgdlaa
/- The program's rooms: RoomOf, SavedRoom, Overlap. -/
namespace Go.Proofs.Ytcpiojliakgdlaa
open Go.RowKit

end Go.Proofs.Ytcpiojliakgdlaa
/- The program's LongestPath. -/
namespace Go.Proofs.Ytcpiojliakgdlaa
open Go.RowKit Go.Shelf

theorem Nodes.below {w w' : World} {B g m k : Nat} {l : List Seg} {nb : Nat → Nat} {cv : Nat → Value} (h : Nodes w B g m k l nb cv) (hb : Below w.heap.size w w') : Nodes w' B g m k l nb cv := by
  obtain ⟨cs, hg, hcs, hci⟩ := h.row
  refine ⟨⟨cs, hg.below hb hg.lt, hcs, hci⟩, fun i t hi ht => ?_, fun i t hi hi2 ht => ?_, fun i hi => ?_, h.apart, h.apartC, h.notg, h.low⟩
  · have h1 := h.node i t hi ht
    exact h1.below hb h1.lt
  · have h1 := h.fresh i t hi hi2 ht
    exact h1.below hb h1.lt
  · exact own_keep (h.kids i hi) fun b hb' => hb.block b ((h.kids i hi).lt b hb').2

end Go.Proofs.Ytcpiojliakgdlaa
/- Where nodes lie, yielded one by one. -/
namespace Go.Proofs.Ytcpiojliakgdlaa
open Go.RowKit Go.Shelf
attribute [local go_sem] Oper.semAt_some

/-- All blocks below 'n₀' but 'bb', rows of bytes aside, lie as they lay. -/
def Kept (n₀ bb : Nat) (W W' : World) : Prop := ∀ (k : Nat) (o : Obj), k < n₀ → k ≠ bb → W.heap[k]? = some o → (∀ c fz, o ≠ .cells c 5 fz) → W'.heap[k]? = some o
theorem Kept.refl (n₀ bb : Nat) (W : World) : Kept n₀ bb W W := fun _ _ _ _ h _ => h
theorem Kept.trans {n₀ bb : Nat} {A B C : World} (h : Kept n₀ bb A B) (k : Kept n₀ bb B C) : Kept n₀ bb A C := fun i o h1 h2 h3 h4 => k i o h1 h2 (h i o h1 h2 h3 h4) h4
theorem Kept.of_below {n₀ bb : Nat} {A B : World} (h : Below A.heap.size A B) : Kept n₀ bb A B := fun i _ _ _ h3 _ => (h.block i (Array.getElem?_eq_some_iff.1 h3).1).trans h3
theorem Kept.row {n₀ bb : Nat} {A B : World} (h : Kept n₀ bb A B) {b : Nat} {t : TypeId} {cs : Array Value} (hr : Row A b t cs) (h1 : b < n₀) (h2 : b ≠ bb) (h3 : t ≠ 5) : Row B b t cs :=
  h b _ h1 h2 hr (fun c fz he => by injection he with _ ht; exact h3 ht)
theorem Kept.put {n₀ bb : Nat} (W : World) {l : Nat} (o : Obj) (hl : n₀ ≤ l) : Kept n₀ bb W (W.putObj l o) := fun _ _ _ _ h3 _ => (World.putObj_heap_other (by omega)).trans h3
theorem grownBy_of_below {A B : World} (h : Below A.heap.size A B) : A.grownBy B none := ⟨h.os, h.tape, h.output, h.size, fun k hk _ => h.block k hk⟩

/-- The nodes that the iterator reads. -/
structure Lain (w : World) (n₀ bb g : Nat) (l : List Seg) (nb : Nat → Nat) : Prop where
  row : ∃ cs, Row w g 72 cs ∧ ∀ i, i < l.length → cs[i]? = some (.pointer (some ⟨nb i, 0, none⟩))
  rowAt : g < n₀ ∧ g ≠ bb
  node : ∀ (i : Nat) (hi : i < l.length), ∃ cv, Row w (nb i) 108 #[.string (l[i]'hi).name, .int .i64 (l[i]'hi).size, .pointer (parPtr l nb i), cv]
  nodeAt : ∀ i, i < l.length → nb i < n₀ ∧ nb i ≠ bb
theorem Lain.kept {w w' : World} {n₀ bb g : Nat} {l : List Seg} {nb : Nat → Nat} (h : Lain w n₀ bb g l nb) (hk : Kept n₀ bb w w') : Lain w' n₀ bb g l nb := by
  obtain ⟨cs, hr, hc⟩ := h.row
  refine ⟨⟨cs, hk.row hr h.rowAt.1 h.rowAt.2 (by decide), hc⟩, h.rowAt, fun i hi => ?_, h.nodeAt⟩
  obtain ⟨cv, hn⟩ := h.node i hi
  exact ⟨cv, hk.row hn (h.nodeAt i hi).1 (h.nodeAt i hi).2 (by decide)⟩
theorem Lain.placed {w : World} {n₀ bb g : Nat} {l : List Seg} {nb : Nat → Nat} (h : Lain w n₀ bb g l nb) : Placed w l nb := fun j hj => by
  obtain ⟨cv, hn⟩ := h.node j hj
  refine ⟨hn.lt, ?_, hn.cell 2⟩
  rw [sizeAt_of hj]
  exact hn.cell 1

/-- What a round says, by the truth it hands back. -/
def YP {α : Type} (J Jx : List α → World → Prop) (Kp : World → World → Prop) (ys : List α) (W1 : World) (b : Bool) (W' : World) : Prop := if b then J ys W' ∧ Kp W1 W' else Jx ys W'

theorem YP.yes {α : Type} {J Jx : List α → World → Prop} {Kp : World → World → Prop} {ys : List α} {W1 W' : World} (h : YP J Jx Kp ys W1 true W') : J ys W' ∧ Kp W1 W' := by
  unfold YP at h
  rwa [if_pos rfl] at h
theorem YP.no {α : Type} {J Jx : List α → World → Prop} {Kp : World → World → Prop} {ys : List α} {W1 W' : World} (h : YP J Jx Kp ys W1 false W') : Jx ys W' := by
  unfold YP at h
  rwa [if_neg (by decide)] at h

theorem from_below {B : Nat} {W W' : World} (h : Below W.heap.size W W') : KeepsFrom B W W' := KeepsFrom.of_grownBy (grownBy_of_below h) (fun j e => by cases e)
theorem builder_cells {T e : TypeId} {B b : Nat} {bs : List Value} {w : World} (h : Lib.IsBuilderF T e B b bs w) : ∃ c, w.heap[b]? = some (.cells c T (0, 0)) := by
  rcases h with ⟨_, v, h2, _⟩ | ⟨_, v, h2, _⟩
  · exact ⟨_, h2⟩
  · exact ⟨_, h2⟩


end Go.Proofs.Ytcpiojliakgdlaa
/- impl.CommonOf where both are found. -/
namespace Go.Proofs.Ytcpiojliakgdlaa
open Go.RowKit Go.Shelf
attribute [local go_sem] Oper.semAt_some

theorem row_grown {W W' : World} {b : Nat} {t : TypeId} {cs : Array Value} {row : Option Nat} (h : Row W b t cs) (hg : W.grownBy W' row) {B : Nat} (hr : ∀ r, row = some r → B ≤ r ∧ ∃ o : Obj, W.heap[r]? = some o ∧ o.isCells = false) : Row W' b t cs :=
  (hg.block b h.lt (fun he => by
    obtain ⟨_, o, ho, hc⟩ := hr b he.symm
    have h' : W.heap[b]? = some (.cells cs t (0, 0)) := h
    rw [h'] at ho
    injection ho with ho
    subst ho
    cases hc)).trans h
theorem keepsN_set {B : Nat} (W : World) (p : Addr) (v : Value) (hp : p.block < B) : KeepsN B W (W.setCell p v) :=
  ⟨by simp, fun k o hk ho _ => (Below.heap_setCell W p v k (by omega)).trans ho⟩
/-- What the loop keeps: the box of the answer, the box of the names. -/
structure Loop2 (w1 : World) (l : List Seg) (R : List Nat) (nm : ByteArray) (b2 : Nat) (T : List Nat) (W : World) : Prop where
  box : Row W w1.heap.size 9 #[.string (lastNm l T)]
  names : Row W b2 9 #[.string nm]
  below : Below w1.heap.size w1 W
  all : ∀ v ∈ T, v ∈ R
theorem Loop2.grown {w1 W W' : World} {l : List Seg} {R T : List Nat} {nm : ByteArray} {b2 B : Nat} {row : Option Nat} (h : Loop2 w1 l R nm b2 T W) (hg : W.grownBy W' row) (hB : w1.heap.size ≤ B) (hr : ∀ r, row = some r → B ≤ r ∧ ∃ o : Obj, W.heap[r]? = some o ∧ o.isCells = false) : Loop2 w1 l R nm b2 T W' :=
  ⟨row_grown h.box hg hr, row_grown h.names hg hr, h.below.grown hg h.below.size (fun k e => by have := (hr k e).1; omega), h.all⟩
theorem Loop2.drew {w1 W : World} {l : List Seg} {R T : List Nat} {nm : ByteArray} {b2 : Nat} (h : Loop2 w1 l R nm b2 T W) : Loop2 w1 l R nm b2 T W.drew := ⟨h.box, h.names, h.below.drew, h.all⟩
theorem Loop2.step {w1 W : World} {l : List Seg} {R T : List Nat} {nm a : ByteArray} {b2 : Nat} (h : Loop2 w1 l R nm b2 T W) (hb2 : w1.heap.size < b2) {v : Nat} (hv : v < l.length) (hR : v ∈ R) (ha : l[v].name = a) :
    Loop2 w1 l R nm b2 (T ++ [v]) (W.setCell ⟨w1.heap.size, 0, none⟩ (.string a)) := by
  refine ⟨?_, Row.far h.names (by show b2 ≠ w1.heap.size; omega) _, h.below.setCell (Nat.le_refl _) _, fun u hu => ?_⟩
  · have := Row.put h.box 0 (.string a)
    rw [lastNm_snoc T hv, ha]
    exact this
  · rcases List.mem_append.1 hu with hu | hu
    · exact h.all u hu
    · rw [List.mem_singleton.1 hu]; exact hR

end Go.Proofs.Ytcpiojliakgdlaa
/- A path gathered into a slice, and what is in it: the program's LieTogether. -/
namespace Go.Proofs.Ytcpiojliakgdlaa
open Go.RowKit Go.Shelf
attribute [local go_sem] Oper.semAt_some

theorem own_grown {W W' : World} {base n : Nat} {e : TypeId} {v : Value} {xs : List Value} {row : Option Nat} (h : W.ownsRow base e 1 v n xs) (hg : W.grownBy W' row) (hr : ∀ r, row = some r → ∃ o : Obj, W.heap[r]? = some o ∧ o.isCells = false) : W'.ownsRow base e 1 v n xs :=
  own_keep h fun g hb => hg.block g ((h.lt g hb).2) (fun he => by
    obtain ⟨o, ho, hc⟩ := hr g he.symm
    rcases h.2 with ⟨rfl, _⟩ | ⟨g', cap, cur, rfl, _, hh, _⟩
    · simp [Value.ownBlock] at hb
    · have : g' = g := by simpa [Value.ownBlock] using hb
      subst this
      rw [hh] at ho
      injection ho with ho
      subst ho
      cases hc)

/-- What was gathered: the box holds a slice of the call's own. -/
structure Gath (w : World) (nb : Nat → Nat) (T : List Nat) (W : World) : Prop where
  ex : ∃ v, Row W w.heap.size 61 #[v] ∧ W.ownsRow (w.heap.size + 1) 72 1 v T.length (ptrsOf nb T) ∧ (T.length = 0 → v = .slice none 0 0)
  below : Below w.heap.size w W
theorem Gath.grown {w W W' : World} {nb : Nat → Nat} {T : List Nat} {B : Nat} {row : Option Nat} (h : Gath w nb T W) (hg : W.grownBy W' row) (hB : w.heap.size ≤ B) (hr : ∀ r, row = some r → B ≤ r ∧ ∃ o : Obj, W.heap[r]? = some o ∧ o.isCells = false) : Gath w nb T W' := by
  obtain ⟨⟨v, h1, h2, h3⟩, hb⟩ := h
  exact ⟨⟨v, row_grown h1 hg hr, own_grown h2 hg (fun r e => (hr r e).2), h3⟩, hb.grown hg hb.size (fun k e => by have := (hr k e).1; omega)⟩

/-- What Index says. -/
def FoundAt (js : List Nat) (i : Nat) (w : World) (e : Ending) (w' : World) : Prop := ∃ r : Int, e = .returned (.int .i64 r) ∧ (0 ≤ r ↔ i ∈ js) ∧ (0 ≤ r → js[r.toNat]? = some i) ∧ w = w'

set_option maxRecDepth 100000 in
set_option maxHeartbeats 1000000 in
theorem index_any (g cap base : Nat) (js : List Nat) (nb : Nat → Nat) (i : Nat) (w : World) (hown : w.ownsRow base 72 1 (.slice (some ⟨g, 0, none⟩) js.length cap) js.length (ptrsOf nb js)) (hjl : js.length ≤ 1000)
    (hnode : ∀ j, j = i ∨ j ∈ js → ∃ c, Row w (nb j) 108 c) (hinj : ∀ j ∈ js, nb i = nb j → i = j) :
    Calls Try.prog 150 #[.slice (some ⟨g, 0, none⟩) js.length cap, .pointer (some ⟨nb i, 0, none⟩)] w (FoundAt js i w) := by
  have HO := Lib.hid hown
  have HN := Lib.hid hnode
  have HI := Lib.hid hinj
  obtain ⟨i0, hi0, hsz0⟩ := Option.map_eq_some_iff.1 (show (Try.prog.info? 108).map (fun i => i.size) = some 4 by kernel_rfl)
  have I0 := Lib.hid hi0
  have I1 := Lib.hid hsz0
  clear hown hnode hinj hi0 hsz0
  go_enter Try.func150, Try.ntmps150
  go_wp2
  go_loop [8] (fun c => ∃ k : Nat, k ≤ js.length ∧ c = .int .i64 k ∧ Hid (∀ m, m < k → js[m]? ≠ some i)) (fun c => js.length - (intOf c).toNat)
  case atStart => exact ⟨0, Nat.zero_le _, rfl, fun m hm => absurd hm (by omega)⟩
  case round =>
    obtain ⟨k, hk, rfl, HM⟩ := hrel
    by_cases hlt : k < js.length
    · have hc : w.cell? ⟨g, k, none⟩ = some (.pointer (some ⟨nb js[k], 0, none⟩)) := by
        rw [HO.out.cellAt k (by omega)]
        simp [ptrsOf, ptrTo, hlt]
      have HK : Hid (js[k]? = some js[k]) := List.getElem?_eq_getElem hlt
      have HMem : Hid (js[k] ∈ js) := List.getElem_mem hlt
      generalize js[k] = j at *
      by_cases hij : i = j
      · subst hij
        have hq := fun W : World => run_eql_ptr_same (P := Try.prog) W ⟨nb i, 0, none⟩ Try.underlying72 I0.out
        go_wp2
        go_ret
        exact ⟨k, rfl, ⟨fun _ => HMem.out, fun _ => by omega⟩, fun _ => HK.out, rfl⟩
      · obtain ⟨c1, r1⟩ := HN.out i (.inl rfl)
        obtain ⟨c2, r2⟩ := HN.out j (.inr HMem.out)
        have hne : nb i ≠ nb j := fun e => hij (HI.out j HMem.out e)
        have hq := run_eql_ptr_other (P := Try.prog) w (a := ⟨nb i, 0, none⟩) (b := ⟨nb j, 0, none⟩) Try.underlying72 I0.out (by rw [I1.out]; decide) (fun e => hne (by injection e)) r1 r2
        have HM1 : Hid (∀ m, m < k + 1 → js[m]? ≠ some i) := fun m hm => by
          rcases Nat.lt_or_ge m k with h1 | h1
          · exact HM.out m h1
          · obtain rfl : m = k := by omega
            rw [HK.out]
            intro e
            injection e with e
            exact hij e.symm
        clear r1 r2 hij hne
        go_wp2
        go_round
        case rel => exact ⟨k + 1, by omega, by go_num, HM1⟩
        case measure => simp [intOf]; omega
    · obtain rfl : k = js.length := by omega
      go_wp2
      go_ret
      refine ⟨-1, rfl, ⟨fun h => absurd h (by decide), fun h => ?_⟩, fun h => absurd h (by decide), rfl⟩
      obtain ⟨m, hm, he⟩ := List.getElem_of_mem h
      exact absurd (by rw [List.getElem?_eq_getElem hm, he]) (HM.out m hm)

end Go.Proofs.Ytcpiojliakgdlaa
