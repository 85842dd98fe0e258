/- Joined: Vc Lk Tx Ti Oc. -/
import Derived.Test.YtadichddgpojpaaU02
import Derived.Test.YtadichddgpojpaaU07
import Derived.Test.YtadichddgpojpaaU04
import Derived.Test.YtadichddgpojpaaU01
import Derived.Test.YtadichddgpojpaaU06
import Derived.BigQuiet
/- Chapter 9, plain: what the functions answer over a tree. -/
namespace Go.Proofs.Ytadichddgpojpaa

/-- The name of a segment. -/
def nmAt9 (l : List Seg) (i : Nat) : ByteArray := match l[i]? with
  | some s => s.name
  | none => ⟨#[]⟩
theorem nmAt9_of {l : List Seg} {k : Nat} (h : k < l.length) : nmAt9 l k = l[k].name := by unfold nmAt9; rw [List.getElem?_eq_getElem h]
theorem chain_anc9 {l : List Seg} {n : Nat} (hd : Down l n) : ∀ (f : Nat) (i : Int), i < n → ∀ x ∈ chain l f i, 0 ≤ x ∧ Anc9 (parAt l) x.toNat i.toNat
  | 0, i, hi, x, hx => by simp [chain] at hx
  | f + 1, i, hi, x, hx => by
    unfold chain at hx
    by_cases h0 : i < 0
    · simp [h0] at hx
    · rw [if_neg h0] at hx
      rcases List.mem_cons.1 hx with rfl | hx
      · exact ⟨by omega, .refl⟩
      · have hdd := hd i.toNat (by omega)
        obtain ⟨h1, h2⟩ := chain_anc9 hd f _ (by omega) x hx
        have h3 := chain_mem hd f _ (by omega) x hx
        refine ⟨h1, .step (k := (parAt l i.toNat).toNat) (by omega) h2⟩
theorem tree9_of {l : List Seg} (h : validB l = true) : Tree9 (parAt l) l.length := by
  obtain ⟨ha, h8, h1⟩ := valid_all h
  have hd := ha.down
  have hp : ∀ j, j < l.length → parOk l j = true := fun j hj => by
    have hs := ha j hj
    unfold segOk at hs
    rw [List.getElem?_eq_getElem hj] at hs
    simp only [Bool.and_eq_true] at hs
    exact hs.2
  refine ⟨?_, fun j h0 hj => ?_⟩
  · have := hp 0 h1
    unfold parOk at this
    rw [if_pos rfl] at this
    have := beq_iff_eq.1 this
    omega
  · have := hp j hj
    unfold parOk at this
    rw [if_neg (by omega)] at this
    obtain ⟨h2, h3⟩ := chain_anc9 hd j _ (by omega) _ (List.contains_iff_mem.1 this)
    have h4 := hd j hj
    refine ⟨(parAt l j).toNat, by omega, by omega, ?_⟩
    rw [show ((j : Int) - 1).toNat = j - 1 by omega] at h3
    exact h3
theorem rp_anc9 {l : List Seg} (hd : Down l l.length) {i : Nat} : ∀ j, j < l.length → (i ∈ rp l j ↔ Anc9 (parAt l) i j) := by
  refine rp_ind hd (fun j hj hp => ?_) (fun j p hj hpj hp ih => ?_)
  · rw [rp_root hp, List.mem_singleton]
    constructor
    · rintro rfl; exact .refl
    · intro h
      cases h with
      | refl => rfl
      | step h2 _ => omega
  · rw [rp_step hd hj hp, List.mem_append, List.mem_singleton, ih]
    constructor
    · rintro (h | rfl)
      · exact .step hp h
      · exact .refl
    · intro h
      cases h with
      | refl => exact .inr rfl
      | @step _ k h2 h3 =>
        have : k = p := by omega
        subst this
        exact .inl h3

/-- Sizes with one segment's added to its parent's. -/
def mergeZ9 (sz : Nat → Int) (p i k : Nat) : Int := if k = p then sz p + sz i else sz k
def resizeZ9 (sz : Nat → Int) (i : Nat) (x : Int) (k : Nat) : Int := if k = i then x else sz k
def ix9 (l : List Seg) (s : ByteArray) : Nat := (indexB l s).toNat
def up9 (l : List Seg) (s : ByteArray) : Nat := (parAt l (ix9 l s)).toNat
def made9 (l : List Seg) (sz ps : Nat → Int) (r : Nat) : List Seg := build9 (nmAt9 l) sz ps l.length l.length r (-1) []
def mergeOk (l : List Seg) (s : ByteArray) : Bool := decide (0 < indexB l s) && decide (sizeAt l (ix9 l s) + sizeAt l (up9 l s) ≤ 99)
def mergeL (l : List Seg) (s : ByteArray) : List Seg := if mergeOk l s = true then made9 l (mergeZ9 (sizeAt l) (up9 l s) (ix9 l s)) (mergeP (parAt l) (ix9 l s) (up9 l s)) 0 else []
def moveOk (l : List Seg) (s : ByteArray) : Bool := decide (0 < indexB l s) && !decide (parAt l (ix9 l s) = 0)
def moveL (l : List Seg) (s : ByteArray) : List Seg := if moveOk l s = true then made9 l (sizeAt l) (moveP (parAt l) (ix9 l s) (parAt l (up9 l s))) 0 else []
def subOk (l : List Seg) (s : ByteArray) : Bool := decide (0 ≤ indexB l s)
def subL (l : List Seg) (s : ByteArray) : List Seg := if subOk l s = true then made9 l (sizeAt l) (parAt l) (ix9 l s) else []
def pruneOk (l : List Seg) (s : ByteArray) : Bool := decide (0 < indexB l s)
def pruneL (l : List Seg) (s : ByteArray) : List Seg := if pruneOk l s = true then made9 l (sizeAt l) (pruneP (parAt l) (ix9 l s)) 0 else []
def resizeOk (l : List Seg) (s : ByteArray) (x : Int) : Bool := decide (0 ≤ indexB l s) && sizeOk x
def resizeL (l : List Seg) (s : ByteArray) (x : Int) : List Seg := if resizeOk l s x = true then l.set (ix9 l s) ⟨nmAt9 l (ix9 l s), x, parAt l (ix9 l s)⟩ else []

theorem index9_valid {l : List Seg} {s : ByteArray} (h : 0 ≤ indexB l s) : validB l = true ∧ ix9 l s < l.length := by
  unfold ix9
  have h1 := indexB_bd l s
  refine ⟨?_, by omega⟩
  unfold indexB at h
  by_cases hv : validB l = true
  · exact hv
  · rw [if_neg hv] at h; omega

/-- What the program makes: the nodes below one, in order. -/
def cuts9 (nm : Nat → ByteArray) (sz pp : Nat → Int) (W : List Nat) : List Seg := W.map (cut9 nm sz pp W)
theorem made9_eq {l : List Seg} {sz ps pp : Nat → Int} {r : Nat} (hf : Fall9 ps l.length) (hr : r < l.length) (hpp : ∀ j, j ∈ sub9 ps l.length r → j ≠ r → pp j = ps j) (hp0 : pp r < (r : Int)) :
    made9 l sz ps r = cuts9 (nmAt9 l) sz pp (sub9 ps l.length r) := build9_all hf hr hpp hp0
theorem cuts9_len (nm : Nat → ByteArray) (sz pp : Nat → Int) (W : List Nat) : (cuts9 nm sz pp W).length = W.length := List.length_map _
theorem nodup9_len {W : List Nat} {n : Nat} (h : W.Nodup) (hb : ∀ x ∈ W, x < n) : W.length ≤ n := by
  have := List.Nodup.length_le_of_subset h (fun x hx => List.mem_range.2 (hb x hx))
  rwa [List.length_range] at this
theorem sub9_len {ps : Nat → Int} {n r : Nat} (hf : Fall9 ps n) (hr : r < n) : (sub9 ps n r).length ≤ n :=
  nodup9_len (sub9_nodup hf n r (by omega) hr) fun x hx => ((in_sub9 hf hr).1 hx).1
theorem made9_len {l : List Seg} {sz ps : Nat → Int} {r : Nat} (hf : Fall9 ps l.length) (hr : r < l.length) : (made9 l sz ps r).length ≤ l.length := by
  rw [made9_eq (pp := ps) hf hr (fun _ _ _ => rfl) (hf r hr), cuts9_len]
  exact sub9_len hf hr

theorem resize9_eq {l : List Seg} (hv : validB l = true) {i : Nat} (hi : i < l.length) (x : Int) :
    cuts9 (nmAt9 l) (resizeZ9 (sizeAt l) i x) (parAt l) (sub9 (parAt l) l.length 0) = l.set i ⟨nmAt9 l i, x, parAt l i⟩ := by
  have ht := tree9_of hv
  have h1 : 0 < l.length := by omega
  have hd := (valid_all hv).1.down
  unfold cuts9
  rw [sub9_root ht h1]
  apply List.ext_getElem?
  intro k
  by_cases hk : k < l.length
  · rw [List.getElem?_map, List.getElem?_range hk]
    have hdk := hd k hk
    have hpar : (if parAt l k < 0 then (-1 : Int) else if (parAt l k).toNat ∈ List.range l.length then ((List.range l.length).idxOf (parAt l k).toNat : Nat) else -1) = parAt l k := by
      by_cases h2 : parAt l k < 0
      · rw [if_pos h2]; omega
      · rw [if_neg h2, if_pos (List.mem_range.2 (by omega)), idxOf_range9 (by omega)]
        omega
    show some (cut9 _ _ _ _ k) = _
    unfold cut9
    rw [hpar]
    by_cases hki : k = i
    · subst hki
      rw [List.getElem?_set_self hk]
      unfold resizeZ9
      rw [if_pos rfl]
    · rw [List.getElem?_set_ne (fun e => hki e.symm), List.getElem?_eq_getElem hk]
      unfold resizeZ9
      rw [if_neg hki, nmAt9_of hk, sizeAt_of hk, parAt_of (List.getElem?_eq_getElem hk)]
  · rw [List.getElem?_eq_none (by rw [List.length_map, List.length_range]; omega), List.getElem?_eq_none (by rw [List.length_set]; omega)]
theorem resize9_len (l : List Seg) (s : ByteArray) (x : Int) : (resizeL l s x).length ≤ 200 := by
  unfold resizeL
  split
  · next h =>
    unfold resizeOk at h
    have := (index9_valid (of_decide_eq_true (Bool.and_eq_true_iff.1 h).1)).1
    have := (valid_all this).2.1
    rw [List.length_set]
    omega
  · exact Nat.zero_le _

end Go.Proofs.Ytadichddgpojpaa
/- A list that is not too large. -/
namespace Go.Proofs.Ytadichddgpojpaa
open Go.RowKit

theorem sizeLeft_len {l : List Seg} (h : ¬ sizeLeft l < 0) : l.length ≤ 1048576 := by
  unfold sizeLeft at h
  by_cases h1 : 1048576 - (l.length : Int) < 0
  · rw [if_pos h1] at h; omega
  · omega

end Go.Proofs.Ytadichddgpojpaa
/- A row of texts of the call's own; marks in segments and in texts: what a law writes into what it was given, and whether it is held. -/
namespace Go.Proofs.Ytadichddgpojpaa
open Go.RowKit

/-- Texts in a row of the call's own. -/
def OwnTexts (w : World) (B : Nat) (v : Value) (ts : List ByteArray) : Prop := w.ownsRow B 9 1 v ts.length (ts.map Value.string)
theorem OwnTexts.far {w w' : World} {B : Nat} {v : Value} {ts : List ByteArray} (h : OwnTexts w B v ts) (hk : ∀ g, v.ownBlock = some g → w'.heap[g]? = w.heap[g]?) : OwnTexts w' B v ts := by
  refine ⟨h.1, ?_⟩
  rcases h.2 with h0 | ⟨g', cap, cur, rfl, hg, hh, r⟩
  · exact .inl h0
  · exact .inr ⟨g', cap, cur, rfl, hg, (hk g' rfl).trans hh, r⟩
theorem OwnTexts.below {w w' : World} {B : Nat} {v : Value} {ts : List ByteArray} (h : OwnTexts w B v ts) (hb : Below w.heap.size w w') : OwnTexts w' B v ts := h.far fun g hg => hb.block g (World.ownsRow.lt h g hg).2
theorem info_str : (Try.prog.info? 9).map (fun i => (i.zero, i.size, i.bytes)) = some (some (.string ByteArray.empty), 1, 16) := by kernel_rfl

theorem OwnTexts.empty (w : World) {B : Nat} (hB : B ≤ w.heap.size) : OwnTexts (w.alloc (.cells #[] 9)) B (.slice (some ⟨w.heap.size, 0, none⟩) 0 0) [] :=
  World.ownsRow_lit w #[] 0 hB (by simp [maxLen]) rfl
theorem OwnTexts.one (w : World) {B : Nat} (hB : B ≤ w.heap.size) (s : ByteArray) : OwnTexts (w.alloc (.cells #[.string s] 9)) B (.slice (some ⟨w.heap.size, 0, none⟩) 1 1) [s] :=
  World.ownsRow_lit w #[.string s] 1 hB (by simp [maxLen]) rfl
theorem OwnTexts.form {w : World} {B : Nat} {v : Value} {ts : List ByteArray} (h : OwnTexts w B v ts) (hn : 0 < ts.length) : ∃ g cap, v = .slice (some ⟨g, 0, none⟩) ts.length cap := own_form h hn

end Go.Proofs.Ytadichddgpojpaa
namespace Go.Proofs.Ytadichddgpojpaa.St
open Go.RowKit

def digC (m : Nat) : UInt8 := UInt8.ofNat (48 + m % 10)
theorem digC_nat (m : Nat) : (digC m).toNat = 48 + m % 10 := by
  unfold digC
  rw [UInt8.toNat_ofNat']
  omega
/-- The decimal digits of a number, ahead of a text. -/
def mtl (k : Nat) (out : ByteArray) : ByteArray := if _h : k = 0 then out else mtl (k / 10) (⟨#[digC k]⟩ ++ out)
termination_by k
decreasing_by omega
theorem mtl_zero (out : ByteArray) : mtl 0 out = out := by
  rw [mtl]
  exact dif_pos rfl
theorem mtl_step {k : Nat} (h : 0 < k) (out : ByteArray) : mtl k out = mtl (k / 10) (⟨#[digC k]⟩ ++ out) := by
  conv => lhs; rw [mtl]
  exact dif_neg (by omega)
def mt (k : Nat) : ByteArray := ⟨#[109]⟩ ++ mtl k ⟨#[]⟩

set_option maxRecDepth 100000 in
set_option maxHeartbeats 1000000 in
theorem markText_any (k : Nat) (w : World) (h0 : 0 < k) (hk : k ≤ 10000000) :
    Calls Try.prog 82 #[.int .i64 k] w fun e w' => e = .returned (.string (mt k)) ∧ Below w.heap.size w w' := by
  have HM : Hid (mt k = ⟨#[109]⟩ ++ mtl k ⟨#[]⟩) := rfl
  have h0' : ¬ (k : Int) ≤ 0 := by omega
  go_enter Try.func82, Try.ntmps82
  go_wp2
  go_loopw [0, 3] (fun v o wr => ∃ (m : Nat) (s : ByteArray), v = .int .i64 m ∧ o = .string s ∧ s.size + m ≤ 10000000 ∧ Hid (mtl k ⟨#[]⟩ = mtl m s) ∧ Below w.heap.size w wr)
    (fun v _ _ => (intOf v).toNat)
  case atStart => exact ⟨k, ⟨#[]⟩, rfl, rfl, (by have h : (⟨#[]⟩ : ByteArray).size = 0 := rfl; omega), rfl, Below.refl _ _⟩
  case round =>
    obtain ⟨m, s, rfl, rfl, hs, HK, hb⟩ := hrel
    have hm0 : (0 : Int) ≤ (m : Int) := Int.natCast_nonneg _
    by_cases hm : 0 < m
    · have hm' : (0 : Int) < (m : Int) := by omega
      have HS := Lib.hid (HK.out.trans (mtl_step hm s))
      have hcv : (convert 22 9 (.slice (some ⟨wr.heap.size, 0, none⟩) 1 1)).run Try.prog (wr.alloc (.cells #[.int .u8 (48 + (m : Int) % 10)] 5)) = .ok (.string ⟨#[digC m]⟩) (wr.alloc (.cells #[.int .u8 (48 + (m : Int) % 10)] 5)) :=
        run_convert_bytes_back (P := Try.prog) _ 22 9 5 ⟨wr.heap.size, 0, none⟩ 1 [digC m] Try.underlying22 Try.underlying5 Try.underlying9 (fun j hj => by
          have : j = 0 := by simp at hj; omega
          subst this
          have h := (Row.new wr 5 #[.int .u8 (48 + (m : Int) % 10)]).cell 0
          have e : (48 + (m : Int) % 10) = ((digC m).toNat : Int) := by rw [digC_nat]; omega
          rw [e] at h ⊢
          exact h)
      have hsz : (⟨#[digC m]⟩ ++ s : ByteArray).size + m / 10 ≤ 10000000 := by
        have h1 : (⟨#[digC m]⟩ ++ s : ByteArray).size = 1 + s.size := by rw [ByteArray.size_append]; rfl
        omega
      go_wp2
      go_roundw
      case rel => exact ⟨m / 10, ⟨#[digC m]⟩ ++ s, congrArg (Value.int .i64) (by omega), rfl, hsz, HS, hb.alloc hb.size _⟩
      case measure => simp [intOf]; omega
    · obtain rfl : m = 0 := by omega
      have HZ := Lib.hid (HK.out.trans (mtl_zero s))
      go_wp2
      go_ret
      exact ⟨by rw [HM.out, HZ.out]; rfl, hb⟩


theorem onlyRefl (w : World) (may : Nat → Prop) : Only w w may := ⟨rfl, rfl, rfl, Nat.le_refl _, fun _ _ _ => rfl⟩
theorem onlyBelow {w w1 w2 : World} {may : Nat → Prop} (h : Only w w1 may) (hb : Below w1.heap.size w1 w2) : Only w w2 may :=
  ⟨hb.os.trans h.os, hb.tape.trans h.tape, hb.output.trans h.output, Nat.le_trans h.size hb.size, fun k hk hn => (hb.block k (Nat.lt_of_lt_of_le hk h.size)).trans (h.block k hk hn)⟩
theorem onlyPut {w w' : World} {may : Nat → Prop} (h : Only w w' may) {b : Nat} (hm : may b) (i : Nat) (u : Value) : Only w (w'.setCell ⟨b, i, none⟩ u) may := by
  have hb : Below 0 w' (w'.setCell ⟨b, i, none⟩ u) := (Below.refl 0 w').setCell (Nat.zero_le _) u
  exact ⟨hb.os.trans h.os, hb.tape.trans h.tape, hb.output.trans h.output, by have := h.size; have := hb.size; omega, fun k hk hn => (Below.heap_setCell w' ⟨b, i, none⟩ u k (fun e => hn (by rw [e]; exact hm))).trans (h.block k hk hn)⟩

/-- A slice of texts in memory below 'B'. -/
def Strs (w : World) (B : Nat) (A : Option Addr) (ts : List ByteArray) : Prop :=
  0 < ts.length → ∃ b o, A = some ⟨b, o, none⟩ ∧ b < B ∧ ∀ (k : Nat) (s : ByteArray), ts[k]? = some s → w.cell? ⟨b, o + k, none⟩ = some (.string s)
theorem Strs.below {w w' : World} {B : Nat} {A : Option Addr} {l : List ByteArray} (h : Strs w B A l) (hb : Below B w w') : Strs w' B A l := fun hl => by
  obtain ⟨b, o, e, hB, hc⟩ := h hl
  refine ⟨b, o, e, hB, fun k s hk => ?_⟩
  rw [hb.cell hB]
  exact hc k s hk
theorem Strs.more {w : World} {B B' : Nat} {A : Option Addr} {l : List ByteArray} (h : Strs w B A l) (hB : B ≤ B') : Strs w B' A l := fun hl => by
  obtain ⟨b, o, e, hb, hc⟩ := h hl
  exact ⟨b, o, e, Nat.lt_of_lt_of_le hb hB, hc⟩
theorem textsCell {w : World} {B g cap : Nat} {ts : List ByteArray} (h : OwnTexts w B (.slice (some ⟨g, 0, none⟩) ts.length cap) ts) {i : Nat} {s : ByteArray} (hi : ts[i]? = some s) : w.cell? ⟨g, i, none⟩ = some (.string s) := by
  have hlt := (List.getElem?_eq_some_iff.1 hi).1
  have := World.ownsRow.cellAt h i (by omega)
  rw [this, List.getElem?_map, hi]
  rfl
theorem textsForm {w : World} {B : Nat} {v : Value} {ts : List ByteArray} (h : OwnTexts w B v ts) : ∃ A cap, v = .slice A ts.length cap ∧ Strs w w.heap.size A ts := by
  have h' := h
  rcases h.2 with ⟨rfl, h0⟩ | ⟨g, cap, cur, rfl, hg, hh, r⟩
  · exact ⟨none, 0, by rw [h0], fun h => absurd h (by omega)⟩
  · refine ⟨_, cap, rfl, fun _ => ⟨g, 0, rfl, (Array.getElem?_eq_some_iff.1 hh).1, fun k s hk => ?_⟩⟩
    rw [Nat.zero_add]
    exact textsCell h' hk
theorem textsFree {w : World} {B g cap n : Nat} {ts : List ByteArray} (h : OwnTexts w B (.slice (some ⟨g, 0, none⟩) n cap) ts) (j : Nat) : w.frozen? ⟨g, j, none⟩ = false := by
  rcases h.2 with ⟨h0, _⟩ | ⟨g', cap', cur, hv, hg, hh, _⟩
  · cases h0
  · injection hv with hv1 _ hv3
    injection hv1 with hv1
    injection hv1 with hv1
    subst hv1
    exact Row.free (hh : Row w g _ cur) j
theorem textsStore {w : World} {B g cap : Nat} {ts : List ByteArray} (h : OwnTexts w B (.slice (some ⟨g, 0, none⟩) ts.length cap) ts) (i : Nat) (s : ByteArray) :
    OwnTexts (w.setCell ⟨g, i, none⟩ (.string s)) B (.slice (some ⟨g, 0, none⟩) ts.length cap) (ts.set i s) := by
  unfold OwnTexts at h ⊢
  rw [List.length_set]
  refine ⟨by simp, ?_⟩
  rcases h.2 with ⟨h0, _⟩ | ⟨g', cap', cur, hv, hg, hh, h1, h2, h3, h4⟩
  · cases h0
  · injection hv with hv1 _ hv3
    injection hv1 with hv1
    injection hv1 with hv1
    subst hv1 hv3
    have hr : Row w g 9 cur := hh
    refine .inr ⟨g, cap, _, rfl, hg, hr.put i _, h1, h2, by simpa using h3, ?_⟩
    rw [List.map_set, ← h4]
    simp only [Array.toList_setIfInBounds, List.take_set]
theorem textsFar {w w' : World} {B : Nat} {v : Value} {ts : List ByteArray} {may : Nat → Prop} (h : OwnTexts w B v ts) (ho : Only w w' may) (hm : ∀ g, v.ownBlock = some g → ¬ may g) : OwnTexts w' B v ts :=
  h.far fun g hg => ho.block g (World.ownsRow.lt h g hg).2 (hm g hg)

/-- The first 'i' are marked. -/
def smarked (ts : List ByteArray) (k : Nat) : Nat → List ByteArray
  | 0 => ts
  | i + 1 => (smarked ts k i).set i (mt (k + i))
theorem smarked_len (l : List ByteArray) (k : Nat) : ∀ i, (smarked l k i).length = l.length
  | 0 => rfl
  | i + 1 => by
    show ((smarked l k i).set i _).length = _
    rw [List.length_set, smarked_len l k i]
theorem smarked_at (l : List ByteArray) (k : Nat) : ∀ i j, j < i → i ≤ l.length → (smarked l k i)[j]? = some (mt (k + j))
  | 0, _, h, _ => absurd h (by omega)
  | i + 1, j, h, hi => by
    show ((smarked l k i).set i _)[j]? = _
    by_cases hj : j = i
    · subst hj
      rw [List.getElem?_set_self (by rw [smarked_len]; omega)]
    · rw [List.getElem?_set_ne (by omega)]
      exact smarked_at l k i j (by omega) (by omega)

set_option maxRecDepth 100000 in
set_option maxHeartbeats 1000000 in
theorem eqStringS_same (A A' : Option Addr) (l : List ByteArray) (c c' : Nat) (w : World) (hw : Strs w w.heap.size A l) (hw' : Strs w w.heap.size A' l) (hl : l.length ≤ 1048576) :
    Calls Try.prog 38 #[.slice A l.length c, .slice A' l.length c'] w fun e w' => e = .returned (.bool true) ∧ Below w.heap.size w w' := by
  have HW : Hid (Strs w w.heap.size A l) := hw
  have HW' : Hid (Strs w w.heap.size A' l) := hw'
  clear hw hw'
  go_enter Try.func38, Try.ntmps38
  go_wp2
  go_loopw [5] (fun i wr => ∃ (k : Nat), k ≤ l.length ∧ i = .int .i64 k ∧ Below w.heap.size w wr)
    (fun i _ => l.length - (intOf i).toNat)
  case atStart => exact ⟨0, Nat.zero_le _, rfl, Below.refl _ _⟩
  case round =>
    obtain ⟨k, hk, rfl, hb⟩ := hrel
    by_cases hlt : k < l.length
    · have hlt' : (k : Int) < (l.length : Int) := by omega
      have hk0 : (0 : Int) ≤ (k : Int) := Int.natCast_nonneg _
      obtain ⟨b, o, rfl, hB, hc⟩ := HW.out (by omega)
      obtain ⟨b', o', rfl, hB', hc'⟩ := HW'.out (by omega)
      have c0 := hc k l[k] (List.getElem?_eq_getElem hlt)
      have d0 := hc' k l[k] (List.getElem?_eq_getElem hlt)
      clear hc hc'
      rw [← hb.cell hB] at c0
      rw [← hb.cell hB'] at d0
      generalize l[k] = s at *
      have HB2 := Lib.hid hb.drew
      go_wp2
      go_quiet (fail)
      go_wp2
      go_roundw
      case rel => exact ⟨k + 1, by omega, by go_num, below_drewN hb _⟩
      case measure => simp [intOf]; omega
    · go_wp2
      go_ret
      exact ⟨rfl, hb⟩

set_option maxRecDepth 100000 in
set_option maxHeartbeats 2000000 in
theorem markSegmentS_only (k g n cap : Nat) (cs : Array Value) (w : World) (hr : Row w g 36 cs) (hc : cs.size = n * 3) (hk : k = 1) (hn : n ≤ 1048576) :
    Calls Try.prog 41 #[.slice (some ⟨g, 0, none⟩) n cap, .int .i64 k] w fun e w' => e = .returned (.int .i64 ((k + 3 * n : Nat) : Int)) ∧ Only w w' (· = g) := by
  have h0k : 0 < k := by omega
  have hk9 : k ≤ 10 := by omega
  clear hk
  have HR0 : Hid (Row w g 36 cs) := hr
  clear hr
  go_enter Try.func41, Try.ntmps41
  go_wp2
  go_loopw [1, 5] (fun a c wr => ∃ (i : Nat) (cs' : Array Value), i ≤ n ∧ c = .int .i64 i ∧ a = .int .i64 ((k + 3 * i : Nat) : Int) ∧ cs'.size = n * 3 ∧ Hid (Row wr g 36 cs') ∧ Hid (Only w wr (· = g)))
    (fun _ c _ => n - (intOf c).toNat)
  case atStart => exact ⟨0, cs, Nat.zero_le _, rfl, rfl, hc, HR0, onlyRefl _ _⟩
  case round =>
    obtain ⟨i, cs', hi, rfl, rfl, hz, HR, HY⟩ := hrel
    by_cases hlt : i < n
    · have hlt' : (i : Int) < (n : Int) := by omega
      have hi0 : (0 : Int) ≤ (i : Int) := Int.natCast_nonneg _
      go_wp2_with fail
      refine (markText_any (k + 3 * i) _ (by omega) (by omega)).mono ?_
      rintro e w1 ⟨rfl, hb1⟩
      have hr1 := HR.out.below hb1 HR.out.lt
      have z0 := hr1.free (i * 3)
      have z1 := hr1.free (i * 3 + 1)
      have z2 := hr1.free (i * 3 + 2)
      have d0 : w1.cell? ⟨g, i * 3, none⟩ = some (cs'[i * 3]'(by omega)) := by rw [hr1.cell, Array.getElem?_eq_getElem]
      have d1 : w1.cell? ⟨g, i * 3 + 1, none⟩ = some (cs'[i * 3 + 1]'(by omega)) := by rw [hr1.cell, Array.getElem?_eq_getElem]
      have d2 : w1.cell? ⟨g, i * 3 + 2, none⟩ = some (cs'[i * 3 + 2]'(by omega)) := by rw [hr1.cell, Array.getElem?_eq_getElem]
      have HR2 : Hid (∀ u0 u1 u2, Row (((w1.setCell ⟨g, i * 3, none⟩ u0).setCell ⟨g, i * 3 + 1, none⟩ u1).setCell ⟨g, i * 3 + 2, none⟩ u2) g 36 (((cs'.setIfInBounds (i * 3) u0).setIfInBounds (i * 3 + 1) u1).setIfInBounds (i * 3 + 2) u2)) := fun u0 u1 u2 => ((hr1.put _ _).put _ _).put _ _
      have HZ2 : Hid (∀ u0 u1 u2, (((cs'.setIfInBounds (i * 3) u0).setIfInBounds (i * 3 + 1) u1).setIfInBounds (i * 3 + 2) u2).size = n * 3) := fun u0 u1 u2 => by simpa using hz
      have HY1 : Hid (Only w w1 (· = g)) := onlyBelow HY.out hb1
      clear hr1 hb1 HR HY
      generalize cs'[i * 3]'_ = v0 at *
      generalize cs'[i * 3 + 1]'_ = v1 at *
      generalize cs'[i * 3 + 2]'_ = v2 at *
      generalize mt (k + 3 * i) = mm at *
      clear hz
      go_wp2
      go_roundw
      case rel => exact ⟨i + 1, _, by omega, by go_num, congrArg (Value.int .i64) (by omega), HZ2.out _ _ _, HR2.out _ _ _, onlyPut (onlyPut (onlyPut HY1.out rfl _ _) rfl _ _) rfl _ _⟩
      case measure => simp [intOf]; omega
    · obtain rfl : i = n := by omega
      go_wp2
      go_ret
      exact ⟨rfl, HY.out⟩

set_option maxHeartbeats 400000 in
theorem toSegmentS_row (A : Option Addr) (l : List Seg) (c : Nat) (w : World) (hw : Segs w w.heap.size A l) (hl : l.length ≤ 1048576) :
    Calls Try.prog 34 #[.slice A l.length c] w fun e w' => e = .returned (.slice (some ⟨w.heap.size, 0, none⟩) l.length l.length) ∧ Below w.heap.size w w' ∧ Segs w' w'.heap.size (some ⟨w.heap.size, 0, none⟩) l ∧ ∃ cs, Row w' w.heap.size 36 cs ∧ cs.size = l.length * 3 := by
  have HW : Hid (Segs w w.heap.size A l) := hw
  clear hw
  have hmk := run_make_segs l.length hl
  go_enter Try.func34, Try.ntmps34
  go_wp2
  go_loopw [4] (fun i wr => ∃ (k : Nat) (cs : Array Value), k ≤ l.length ∧ i = .int .i64 k ∧ Below w.heap.size w wr ∧ Row wr w.heap.size 36 cs ∧ Filled l k cs)
    (fun i _ => l.length - (intOf i).toNat)
  case atStart => exact ⟨0, _, Nat.zero_le _, rfl, (Below.refl _ _).alloc (Nat.le_refl _) _, Row.new _ _ _, Filled.start _ (size_madeCells _ _)⟩
  case round =>
    obtain ⟨k, cs, hk, rfl, hb, hrow, hf⟩ := hrel
    have hz : w.heap.size < wr.heap.size := hrow.lt
    by_cases hlt : k < l.length
    · obtain ⟨b, o, rfl, hB, hc⟩ := HW.out (by omega)
      obtain ⟨c0, c1, c2⟩ := hc k l[k] (List.getElem?_eq_getElem hlt)
      clear hc
      rw [← hb.cell hB] at c0 c1 c2
      have HN := Lib.hid (hf.next hlt)
      have HS := Lib.hid hf.1
      clear hf
      generalize l[k] = s at *
      go_wp2_with fail
      refine (toSegment_any s.name s.size s.par _).mono ?_
      rintro e w1 ⟨rfl, hb1⟩
      have hrow1 := hrow.below hb1 hz
      clear hrow
      have hb2 : Below w.heap.size w w1 := hb.trans (hb1.mono hb.size)
      have f0 := hrow1.free (k * 3)
      have f1 := hrow1.free (k * 3 + 1)
      have f2 := hrow1.free (k * 3 + 2)
      have d0 : w1.cell? ⟨w.heap.size, k * 3, none⟩ = some (cs[k * 3]'(by have := HS.out; omega)) := by rw [hrow1.cell, Array.getElem?_eq_getElem]
      have d1 : w1.cell? ⟨w.heap.size, k * 3 + 1, none⟩ = some (cs[k * 3 + 1]'(by have := HS.out; omega)) := by rw [hrow1.cell, Array.getElem?_eq_getElem]
      have d2 : w1.cell? ⟨w.heap.size, k * 3 + 2, none⟩ = some (cs[k * 3 + 2]'(by have := HS.out; omega)) := by rw [hrow1.cell, Array.getElem?_eq_getElem]
      have HR := Lib.hid hrow1
      clear hrow1
      generalize cs[k * 3]'_ = u0 at *
      generalize cs[k * 3 + 1]'_ = u1 at *
      generalize cs[k * 3 + 2]'_ = u2 at *
      go_wp2
      go_roundw
      case rel => exact ⟨k + 1, _, by omega, by go_num, ((hb2.setCell (Nat.le_refl _) _).setCell (Nat.le_refl _) _).setCell (Nat.le_refl _) _, ((HR.out.put _ _).put _ _).put _ _, HN.out⟩
      case measure => simp [intOf]; omega
    · obtain rfl : k = l.length := by omega
      have hd := hf.done hrow
      have HQ := Lib.hid hrow
      have HQ2 := Lib.hid hf.1
      clear hf hrow
      go_wp2
      go_ret
      exact ⟨rfl, hb, hd, _, HQ.out, HQ2.out⟩

end Go.Proofs.Ytadichddgpojpaa.St

namespace Go.Proofs.Ytadichddgpojpaa
open Go.RowKit

theorem mark1 (g n cap : Nat) (cs : Array Value) (w : World) (hr : Row w g 36 cs) (hc : cs.size = n * 3) (hn : n ≤ 1048576) :
    Calls Try.prog 41 #[.slice (some ⟨g, 0, none⟩) n cap, .int .i64 1] w fun e w' => e = .returned (.int .i64 ((1 + 3 * n : Nat) : Int)) ∧ Only w w' (· = g) :=
  St.markSegmentS_only 1 g n cap cs w hr hc rfl hn

theorem strsOf {w : World} {B n cap : Nat} {A : Option Addr} {ts : List ByteArray} (h : OwnTexts w B (.slice A n cap) ts) : St.Strs w w.heap.size A ts := by
  obtain ⟨A', cap', e, h'⟩ := St.textsForm h
  injection e with e1 e2 e3
  rw [e1]
  exact h'

end Go.Proofs.Ytadichddgpojpaa
/- A row of numbers of the call's own; marks in numbers: what a law writes into what it was given, and whether it is held. -/
namespace Go.Proofs.Ytadichddgpojpaa.Si
open Go.RowKit

/-- Numbers in a row of the call's own. -/
def OwnInts (w : World) (B : Nat) (v : Value) (ts : List Int) : Prop := w.ownsRow B 3 1 v ts.length (ts.map (Value.int .i64))
theorem OwnInts.far {w w' : World} {B : Nat} {v : Value} {ts : List Int} (h : OwnInts w B v ts) (hk : ∀ g, v.ownBlock = some g → w'.heap[g]? = w.heap[g]?) : OwnInts w' B v ts := by
  refine ⟨h.1, ?_⟩
  rcases h.2 with h0 | ⟨g', cap, cur, rfl, hg, hh, r⟩
  · exact .inl h0
  · exact .inr ⟨g', cap, cur, rfl, hg, (hk g' rfl).trans hh, r⟩
theorem OwnInts.below {w w' : World} {B : Nat} {v : Value} {ts : List Int} (h : OwnInts w B v ts) (hb : Below w.heap.size w w') : OwnInts w' B v ts := h.far fun g hg => hb.block g (World.ownsRow.lt h g hg).2
theorem OwnInts.empty (w : World) {B : Nat} (hB : B ≤ w.heap.size) : OwnInts (w.alloc (.cells #[] 3)) B (.slice (some ⟨w.heap.size, 0, none⟩) 0 0) [] :=
  World.ownsRow_lit w #[] 0 hB (by simp [maxLen]) rfl
/-- A slice of numbers in memory below 'B'. -/
def Ints (w : World) (B : Nat) (A : Option Addr) (ts : List Int) : Prop :=
  0 < ts.length → ∃ b o, A = some ⟨b, o, none⟩ ∧ b < B ∧ ∀ (k : Nat) (s : Int), ts[k]? = some s → w.cell? ⟨b, o + k, none⟩ = some (.int .i64 s)
theorem Ints.below {w w' : World} {B : Nat} {A : Option Addr} {l : List Int} (h : Ints w B A l) (hb : Below B w w') : Ints w' B A l := fun hl => by
  obtain ⟨b, o, e, hB, hc⟩ := h hl
  refine ⟨b, o, e, hB, fun k s hk => ?_⟩
  rw [hb.cell hB]
  exact hc k s hk
theorem Ints.more {w : World} {B B' : Nat} {A : Option Addr} {l : List Int} (h : Ints w B A l) (hB : B ≤ B') : Ints w B' A l := fun hl => by
  obtain ⟨b, o, e, hb, hc⟩ := h hl
  exact ⟨b, o, e, Nat.lt_of_lt_of_le hb hB, hc⟩
theorem intsCell {w : World} {B g cap : Nat} {ts : List Int} (h : OwnInts w B (.slice (some ⟨g, 0, none⟩) ts.length cap) ts) {i : Nat} {s : Int} (hi : ts[i]? = some s) : w.cell? ⟨g, i, none⟩ = some (.int .i64 s) := by
  have hlt := (List.getElem?_eq_some_iff.1 hi).1
  have := World.ownsRow.cellAt h i (by omega)
  rw [this, List.getElem?_map, hi]
  rfl
theorem intsForm {w : World} {B : Nat} {v : Value} {ts : List Int} (h : OwnInts w B v ts) : ∃ A cap, v = .slice A ts.length cap ∧ Ints w w.heap.size A ts := by
  have h' := h
  rcases h.2 with ⟨rfl, h0⟩ | ⟨g, cap, cur, rfl, hg, hh, r⟩
  · exact ⟨none, 0, by rw [h0], fun h => absurd h (by omega)⟩
  · refine ⟨_, cap, rfl, fun _ => ⟨g, 0, rfl, (Array.getElem?_eq_some_iff.1 hh).1, fun k s hk => ?_⟩⟩
    rw [Nat.zero_add]
    exact intsCell h' hk
theorem intsOf {w : World} {B n cap : Nat} {A : Option Addr} {ts : List Int} (h : OwnInts w B (.slice A n cap) ts) : Ints w w.heap.size A ts := by
  obtain ⟨A', cap', e, h'⟩ := intsForm h
  injection e with e1 e2 e3
  rw [e1]
  exact h'
theorem intsFree {w : World} {B g cap n : Nat} {ts : List Int} (h : OwnInts w B (.slice (some ⟨g, 0, none⟩) n cap) ts) (j : Nat) : w.frozen? ⟨g, j, none⟩ = false := by
  rcases h.2 with ⟨h0, _⟩ | ⟨g', cap', cur, hv, hg, hh, _⟩
  · cases h0
  · injection hv with hv1 _ hv3
    injection hv1 with hv1
    injection hv1 with hv1
    subst hv1
    exact Row.free (hh : Row w g _ cur) j
theorem intsStore {w : World} {B g cap : Nat} {ts : List Int} (h : OwnInts w B (.slice (some ⟨g, 0, none⟩) ts.length cap) ts) (i : Nat) (s : Int) :
    OwnInts (w.setCell ⟨g, i, none⟩ (.int .i64 s)) B (.slice (some ⟨g, 0, none⟩) ts.length cap) (ts.set i s) := by
  unfold OwnInts at h ⊢
  rw [List.length_set]
  refine ⟨by simp, ?_⟩
  rcases h.2 with ⟨h0, _⟩ | ⟨g', cap', cur, hv, hg, hh, h1, h2, h3, h4⟩
  · cases h0
  · injection hv with hv1 _ hv3
    injection hv1 with hv1
    injection hv1 with hv1
    subst hv1 hv3
    have hr : Row w g 3 cur := hh
    refine .inr ⟨g, cap, _, rfl, hg, hr.put i _, h1, h2, by simpa using h3, ?_⟩
    rw [List.map_set, ← h4]
    simp only [Array.toList_setIfInBounds, List.take_set]
theorem intsFar {w w' : World} {B : Nat} {v : Value} {ts : List Int} {may : Nat → Prop} (h : OwnInts w B v ts) (ho : Only w w' may) (hm : ∀ g, v.ownBlock = some g → ¬ may g) : OwnInts w' B v ts :=
  h.far fun g hg => ho.block g (World.ownsRow.lt h g hg).2 (hm g hg)

/-- The first 'i' are marked. -/
def imarked (ts : List Int) (k : Nat) : Nat → List Int
  | 0 => ts
  | i + 1 => (imarked ts k i).set i ((k + i : Nat) : Int)
theorem imarked_len (l : List Int) (k : Nat) : ∀ i, (imarked l k i).length = l.length
  | 0 => rfl
  | i + 1 => by
    show ((imarked l k i).set i _).length = _
    rw [List.length_set, imarked_len l k i]
theorem imarked_at (l : List Int) (k : Nat) : ∀ i j, j < i → i ≤ l.length → (imarked l k i)[j]? = some ((k + j : Nat) : Int)
  | 0, _, h, _ => absurd h (by omega)
  | i + 1, j, h, hi => by
    show ((imarked l k i).set i _)[j]? = _
    by_cases hj : j = i
    · subst hj
      rw [List.getElem?_set_self (by rw [imarked_len]; omega)]
    · rw [List.getElem?_set_ne (by omega)]
      exact imarked_at l k i j (by omega) (by omega)

end Go.Proofs.Ytadichddgpojpaa.Si

namespace Go.Proofs.Ytadichddgpojpaa
open Go.RowKit

end Go.Proofs.Ytadichddgpojpaa
/- FlatTree and ChainTree: other parents. Plain. -/
namespace Go.Proofs.Ytadichddgpojpaa
open Go.RowKit

/-- The same segments with other parents. -/
def parL (f : Nat → Int) (l : List Seg) : List Seg := l.mapIdx fun i s => ⟨s.name, s.size, f i⟩
theorem parL_len (f : Nat → Int) (l : List Seg) : (parL f l).length = l.length := List.length_mapIdx
theorem parL_get (f : Nat → Int) (l : List Seg) {k : Nat} (h : k < l.length) : (parL f l)[k]? = some ⟨l[k].name, l[k].size, f k⟩ := by
  unfold parL
  rw [List.getElem?_mapIdx, List.getElem?_eq_getElem h]
  rfl
theorem parL_take (f : Nat → Int) (l : List Seg) {k : Nat} (h : k < l.length) : (parL f l).take (k + 1) = (parL f l).take k ++ [⟨l[k].name, l[k].size, f k⟩] := by
  have h1 : k < (parL f l).length := by rw [parL_len]; exact h
  rw [List.take_succ_eq_append_getElem h1]
  congr 2
  have h2 := parL_get f l h
  rw [List.getElem?_eq_getElem h1] at h2
  injection h2
theorem parL_all (f : Nat → Int) (l : List Seg) : (parL f l).take l.length = parL f l := List.take_of_length_le (by rw [parL_len]; exact Nat.le_refl _)
def flatP (i : Nat) : Int := if i = 0 then -1 else 0
def chainP (i : Nat) : Int := (i : Int) - 1
def flatL (l : List Seg) : List Seg := parL flatP l
def chainL (l : List Seg) : List Seg := parL chainP l
def flatRes (l : List Seg) : List Seg := if validB l = true then flatL l else []
def chainRes (l : List Seg) : List Seg := if validB l = true then chainL l else []
theorem parL_par {f : Nat → Int} {l : List Seg} {i : Nat} (h : i < l.length) : parAt (parL f l) i = f i := by
  unfold parAt
  rw [parL_get f l h]
theorem parL_size {f : Nat → Int} {l : List Seg} (i : Nat) : sizeAt (parL f l) i = sizeAt l i := by
  by_cases h : i < l.length
  · have h' : i < (parL f l).length := by rw [parL_len]; exact h
    rw [sizeAt_of h, sizeAt_of h']
    have h2 := parL_get f l h
    rw [List.getElem?_eq_getElem h'] at h2
    injection h2 with h2
    rw [h2]
  · have h' : ¬ i < (parL f l).length := by rw [parL_len]; exact h
    unfold sizeAt
    rw [List.getElem?_eq_none (by omega), List.getElem?_eq_none (by omega)]
theorem parL_names (f : Nat → Int) (l : List Seg) : (parL f l).map Seg.name = l.map Seg.name := by
  apply List.ext_getElem?
  intro i
  by_cases h : i < l.length
  · rw [List.getElem?_map, List.getElem?_map, parL_get f l h, List.getElem?_eq_getElem h]
    rfl
  · rw [List.getElem?_eq_none (by rw [List.length_map, parL_len]; omega), List.getElem?_eq_none (by rw [List.length_map]; omega)]
theorem taken_names (l : List Seg) (s : ByteArray) : takenB l s = (l.map Seg.name).any (fun x => sameB x s) := by
  unfold takenB
  rw [List.any_map]
  rfl
theorem parL_valid {f : Nat → Int} {l : List Seg} (h : validB l = true) (h0 : f 0 = -1) (hp : ∀ i : Nat, 0 < i → i < l.length → f i ∈ chain (parL f l) i ((i : Int) - 1)) : validB (parL f l) = true := by
  obtain ⟨ha, h8, h1⟩ := valid_all h
  have hall : AllOk (parL f l) (parL f l).length := by
    intro j hj
    rw [parL_len] at hj
    have hs := ha j hj
    unfold segOk at hs ⊢
    rw [parL_get f l hj]
    rw [List.getElem?_eq_getElem hj] at hs
    dsimp only at hs ⊢
    simp only [Bool.and_eq_true] at hs ⊢
    refine ⟨⟨⟨hs.1.1.1, ?_⟩, hs.1.2⟩, ?_⟩
    · have h3 := hs.1.1.2
      rw [taken_names, List.map_take] at h3 ⊢
      rw [parL_names]
      exact h3
    · unfold parOk
      by_cases hj0 : j = 0
      · rw [if_pos hj0, parL_par (by omega), h0]
        rfl
      · rw [if_neg hj0, parL_par hj]
        exact List.contains_iff_mem.2 (hp j (by omega) hj)
  rw [validB_all hall, parL_len, decide_eq_true h1, decide_eq_true h8]
  rfl
theorem chain_head (l : List Seg) (f : Nat) {i : Int} (h : 0 ≤ i) : chain l (f + 1) i = i :: chain l f (parAt l i.toNat) := by
  show (if i < 0 then [] else i :: chain l f (parAt l i.toNat)) = _
  rw [if_neg (by omega)]
theorem flat_valid {l : List Seg} (h : validB l = true) : validB (flatL l) = true := by
  refine parL_valid h rfl fun i hi hl => ?_
  have hf : flatP i = 0 := if_neg (by omega)
  rw [hf]
  obtain ⟨j, rfl⟩ : ∃ j, i = j + 1 := ⟨i - 1, by omega⟩
  rw [chain_head _ _ (by omega)]
  by_cases hj : j = 0
  · subst hj
    exact List.mem_cons.2 (.inl (by simp))
  · obtain ⟨k, rfl⟩ : ∃ k, j = k + 1 := ⟨j - 1, by omega⟩
    refine List.mem_cons.2 (.inr ?_)
    have e : (((k + 1 + 1 : Nat) : Int) - 1).toNat = k + 1 := by omega
    rw [e, parL_par (by omega), show flatP (k + 1) = 0 from if_neg (by omega), chain_head _ _ (by omega)]
    exact List.mem_cons_self
theorem chain_valid {l : List Seg} (h : validB l = true) : validB (chainL l) = true := by
  refine parL_valid h (by decide) fun i hi hl => ?_
  obtain ⟨j, rfl⟩ : ∃ j, i = j + 1 := ⟨i - 1, by omega⟩
  rw [chain_head _ _ (by omega)]
  exact List.mem_cons.2 (.inl rfl)

/-- What the same segments with other parents take. -/
theorem flat_end {l : List Seg} (h : validB l = true) {i : Nat} (hi : i < l.length) : endAt (flatL l) i ≤ endAt l i := by
  have hv := flat_valid h
  have hd' := (valid_all hv).1.down
  have hd := (valid_all h).1.down
  have hi' : i < (flatL l).length := by unfold flatL; rw [parL_len]; exact hi
  have hs : sizeAt (flatL l) i = sizeAt l i := parL_size i
  have hr : ∀ k, k < l.length → endAt (flatL l) 0 ≤ endAt l k := by
    intro k hk
    have h00 : parAt (flatL l) 0 = -1 := by unfold flatL; rw [parL_par (by omega)]; rfl
    have hb0 : begAt (flatL l) 0 = 0 := begAt_root (by omega)
    have e0 := endAt_beg (flatL l) 0
    have hs0 : sizeAt (flatL l) 0 = sizeAt l 0 := parL_size 0
    rw [hb0, hs0] at e0
    rw [e0]
    revert k
    refine rp_ind hd (fun k hk hp => ?_) (fun k p hk hpk hp ih => ?_)
    · have h2 := endAt_beg l k
      have h3 : k = 0 := by
        have hs := (valid_all h).1 k hk
        unfold segOk at hs
        rw [List.getElem?_eq_getElem hk] at hs
        simp only [Bool.and_eq_true] at hs
        have h4 := hs.2
        unfold parOk at h4
        by_cases hk0 : k = 0
        · exact hk0
        · rw [if_neg hk0] at h4
          have h5 := chain_mem hd k _ (by omega) _ (List.contains_iff_mem.1 h4)
          omega
      subst h3
      rw [begAt_root hp] at h2
      omega
    · have h2 := endAt_beg l k
      have h3 := sizeAt_bd h hk
      rw [begAt_step hd hk hp] at h2
      omega
  by_cases h0 : i = 0
  · subst h0
    exact hr 0 hi
  · have hp : parAt (flatL l) i = ((0 : Nat) : Int) := by
      unfold flatL
      rw [parL_par hi]
      exact if_neg h0
    have e1 := endAt_beg (flatL l) i
    rw [begAt_step hd' hi' hp, hs] at e1
    have e2 := endAt_beg l i
    obtain ⟨p, hpe⟩ := Int.eq_ofNat_of_zero_le (par_nonneg (valid_all h).1 hi (by omega))
    have hpl : p < l.length := by have := hd i hi; omega
    rw [begAt_step hd hi hpe] at e2
    have := hr p hpl
    omega
theorem sum_step {l : List Seg} {k : Nat} (hk : k < l.length) : sumTo l (k + 1) = sumTo l k + sizeAt l k := by rw [sumTo_succ hk, sizeAt_of hk]
theorem sum_zero (l : List Seg) : sumTo l 0 = 0 := by simp [sumTo]
theorem chain_end {l : List Seg} (h : validB l = true) : ∀ i, i < l.length → endAt (chainL l) i = sumTo l (i + 1)
  | 0, hi => by
    have h00 : parAt (chainL l) 0 = -1 := by unfold chainL; rw [parL_par (by omega)]; rfl
    have e0 := endAt_beg (chainL l) 0
    have hs0 : sizeAt (chainL l) 0 = sizeAt l 0 := parL_size 0
    rw [begAt_root (by omega), hs0] at e0
    rw [e0, sum_step hi, sum_zero]
  | i + 1, hi => by
    have ih := chain_end h i (by omega)
    have hv := chain_valid h
    have hd' := (valid_all hv).1.down
    have hi' : i + 1 < (chainL l).length := by unfold chainL; rw [parL_len]; exact hi
    have hp : parAt (chainL l) (i + 1) = (i : Int) := by
      unfold chainL
      rw [parL_par hi]
      show ((i + 1 : Nat) : Int) - 1 = _
      omega
    have e1 := endAt_beg (chainL l) (i + 1)
    have hs0 : sizeAt (chainL l) (i + 1) = sizeAt l (i + 1) := parL_size _
    rw [begAt_step hd' hi' hp, ih, hs0] at e1
    rw [e1, sum_step hi]
theorem sumTo_mono {l : List Seg} (h : validB l = true) : ∀ k m, k ≤ m → m ≤ l.length → sumTo l k ≤ sumTo l m
  | k, 0, hk, _ => by rw [show k = 0 by omega]; exact Int.le_refl _
  | k, m + 1, hk, hm => by
    by_cases he : k = m + 1
    · rw [he]; exact Int.le_refl _
    · have h1 := sumTo_mono h k m (by omega) (by omega)
      have h2 := sizeAt_bd h (show m < l.length by omega)
      rw [sum_step (show m < l.length by omega)]
      omega
theorem tree_end {l : List Seg} (h : validB l = true) : ∀ i, i < l.length → endAt l i ≤ sumTo l (i + 1) := by
  have hd := (valid_all h).1.down
  refine rp_ind hd (fun k hk hp => ?_) (fun k p hk hpk hp ih => ?_)
  · have h2 := endAt_beg l k
    rw [begAt_root hp] at h2
    have h3 := sumTo_mono h 0 k (by omega) (by omega)
    have h4 := sum_zero l
    rw [sum_step hk]
    omega
  · have h2 := endAt_beg l k
    rw [begAt_step hd hk hp] at h2
    have h3 := sumTo_mono h (p + 1) k (by omega) (by omega)
    rw [sum_step hk]
    omega
theorem roomTo_mono {l l' : List Seg} : ∀ k, (∀ i, i < k → endAt l i ≤ endAt l' i) → roomTo l k ≤ roomTo l' k
  | 0, _ => Int.le_refl _
  | k + 1, h => by
    have h1 := roomTo_mono k fun i hi => h i (by omega)
    have h2 := h k (by omega)
    unfold roomTo
    omega
theorem flat_room {l : List Seg} (h : validB l = true) : roomB (flatL l) ≤ roomB l := by
  unfold roomB
  rw [if_pos h, if_pos (flat_valid h), show (flatL l).length = l.length from parL_len _ _]
  exact roomTo_mono _ fun i hi => flat_end h hi
theorem chain_room {l : List Seg} (h : validB l = true) : roomB l ≤ roomB (chainL l) := by
  unfold roomB
  rw [if_pos h, if_pos (chain_valid h), show (chainL l).length = l.length from parL_len _ _]
  exact roomTo_mono _ fun i hi => by rw [chain_end h i hi]; exact tree_end h i hi
theorem chain_to {l : List Seg} (h : validB l = true) : ∀ k, k ≤ l.length → roomTo (chainL l) k = sumTo l k
  | 0, _ => (sum_zero l).symm
  | k + 1, hk => by
    have h1 := chain_to h k (by omega)
    have h2 := chain_end h k (by omega)
    have h3 := sumTo_mono h k (k + 1) (by omega) hk
    unfold roomTo
    omega
theorem sumTo_par (f : Nat → Int) (l : List Seg) : ∀ k, k ≤ l.length → sumTo (parL f l) k = sumTo l k
  | 0, _ => by rw [sum_zero, sum_zero]
  | k + 1, hk => by
    rw [sum_step (by rw [parL_len]; omega), sum_step (by omega), sumTo_par f l k (by omega), parL_size]
theorem chain_saved {l : List Seg} (h : validB l = true) : savedB (chainL l) = 0 := by
  unfold savedB
  rw [if_pos (chain_valid h), show (chainL l).length = l.length from parL_len _ _, chain_to h _ (Nat.le_refl _)]
  unfold chainL
  rw [sumTo_par _ _ _ (Nat.le_refl _)]
  omega

end Go.Proofs.Ytadichddgpojpaa
