/- Joined: Tx Fp Fq Fr. -/
import Derived.Test.YtjehklkndmdcaaaU01
import Derived.Test.YtjehklkndmdcaaaU16
import Derived.Test.YtjehklkndmdcaaaU15
import Derived.BigQuiet
import Derived.Maps.AppendAt
import Derived.Deep.AppendLies
/- A row of texts of the call's own; marks in segments and in texts: what a law writes into what it was given, and whether it is held. -/
namespace Go.Proofs.Ytjehklkndmdcaaa
open Go.RowKit

/-- Texts in a row of the call's own. -/
def OwnTexts (w : World) (B : Nat) (v : Value) (ts : List ByteArray) : Prop := w.ownsRow B 9 1 v ts.length (ts.map Value.string)
theorem OwnTexts.far {w w' : World} {B : Nat} {v : Value} {ts : List ByteArray} (h : OwnTexts w B v ts) (hk : ∀ g, v.ownBlock = some g → w'.heap[g]? = w.heap[g]?) : OwnTexts w' B v ts := by
  refine ⟨h.1, ?_⟩
  rcases h.2 with h0 | ⟨g', cap, cur, rfl, hg, hh, r⟩
  · exact .inl h0
  · exact .inr ⟨g', cap, cur, rfl, hg, (hk g' rfl).trans hh, r⟩
theorem OwnTexts.below {w w' : World} {B : Nat} {v : Value} {ts : List ByteArray} (h : OwnTexts w B v ts) (hb : Below w.heap.size w w') : OwnTexts w' B v ts := h.far fun g hg => hb.block g (World.ownsRow.lt h g hg).2
theorem info_str : (Try.prog.info? 9).map (fun i => (i.zero, i.size, i.bytes)) = some (some (.string ByteArray.empty), 1, 16) := by kernel_rfl

theorem OwnTexts.empty (w : World) {B : Nat} (hB : B ≤ w.heap.size) : OwnTexts (w.alloc (.cells #[] 9)) B (.slice (some ⟨w.heap.size, 0, none⟩) 0 0) [] :=
  World.ownsRow_lit w #[] 0 hB (by simp [maxLen]) rfl
theorem OwnTexts.one (w : World) {B : Nat} (hB : B ≤ w.heap.size) (s : ByteArray) : OwnTexts (w.alloc (.cells #[.string s] 9)) B (.slice (some ⟨w.heap.size, 0, none⟩) 1 1) [s] :=
  World.ownsRow_lit w #[.string s] 1 hB (by simp [maxLen]) rfl
theorem OwnTexts.form {w : World} {B : Nat} {v : Value} {ts : List ByteArray} (h : OwnTexts w B v ts) (hn : 0 < ts.length) : ∃ g cap, v = .slice (some ⟨g, 0, none⟩) ts.length cap := own_form h hn

end Go.Proofs.Ytjehklkndmdcaaa
namespace Go.Proofs.Ytjehklkndmdcaaa.St
open Go.RowKit

def digC (m : Nat) : UInt8 := UInt8.ofNat (48 + m % 10)
theorem digC_nat (m : Nat) : (digC m).toNat = 48 + m % 10 := by
  unfold digC
  rw [UInt8.toNat_ofNat']
  omega
/-- The decimal digits of a number, ahead of a text. -/
def mtl (k : Nat) (out : ByteArray) : ByteArray := if _h : k = 0 then out else mtl (k / 10) (⟨#[digC k]⟩ ++ out)
termination_by k
decreasing_by omega
theorem mtl_zero (out : ByteArray) : mtl 0 out = out := by
  rw [mtl]
  exact dif_pos rfl
theorem mtl_step {k : Nat} (h : 0 < k) (out : ByteArray) : mtl k out = mtl (k / 10) (⟨#[digC k]⟩ ++ out) := by
  conv => lhs; rw [mtl]
  exact dif_neg (by omega)
def mt (k : Nat) : ByteArray := ⟨#[109]⟩ ++ mtl k ⟨#[]⟩

theorem onlyRefl (w : World) (may : Nat → Prop) : Only w w may := ⟨rfl, rfl, rfl, Nat.le_refl _, fun _ _ _ => rfl⟩
theorem onlyBelow {w w1 w2 : World} {may : Nat → Prop} (h : Only w w1 may) (hb : Below w1.heap.size w1 w2) : Only w w2 may :=
  ⟨hb.os.trans h.os, hb.tape.trans h.tape, hb.output.trans h.output, Nat.le_trans h.size hb.size, fun k hk hn => (hb.block k (Nat.lt_of_lt_of_le hk h.size)).trans (h.block k hk hn)⟩
theorem onlyPut {w w' : World} {may : Nat → Prop} (h : Only w w' may) {b : Nat} (hm : may b) (i : Nat) (u : Value) : Only w (w'.setCell ⟨b, i, none⟩ u) may := by
  have hb : Below 0 w' (w'.setCell ⟨b, i, none⟩ u) := (Below.refl 0 w').setCell (Nat.zero_le _) u
  exact ⟨hb.os.trans h.os, hb.tape.trans h.tape, hb.output.trans h.output, by have := h.size; have := hb.size; omega, fun k hk hn => (Below.heap_setCell w' ⟨b, i, none⟩ u k (fun e => hn (by rw [e]; exact hm))).trans (h.block k hk hn)⟩

/-- A slice of texts in memory below 'B'. -/
def Strs (w : World) (B : Nat) (A : Option Addr) (ts : List ByteArray) : Prop :=
  0 < ts.length → ∃ b o, A = some ⟨b, o, none⟩ ∧ b < B ∧ ∀ (k : Nat) (s : ByteArray), ts[k]? = some s → w.cell? ⟨b, o + k, none⟩ = some (.string s)
theorem Strs.below {w w' : World} {B : Nat} {A : Option Addr} {l : List ByteArray} (h : Strs w B A l) (hb : Below B w w') : Strs w' B A l := fun hl => by
  obtain ⟨b, o, e, hB, hc⟩ := h hl
  refine ⟨b, o, e, hB, fun k s hk => ?_⟩
  rw [hb.cell hB]
  exact hc k s hk
theorem Strs.more {w : World} {B B' : Nat} {A : Option Addr} {l : List ByteArray} (h : Strs w B A l) (hB : B ≤ B') : Strs w B' A l := fun hl => by
  obtain ⟨b, o, e, hb, hc⟩ := h hl
  exact ⟨b, o, e, Nat.lt_of_lt_of_le hb hB, hc⟩
theorem textsCell {w : World} {B g cap : Nat} {ts : List ByteArray} (h : OwnTexts w B (.slice (some ⟨g, 0, none⟩) ts.length cap) ts) {i : Nat} {s : ByteArray} (hi : ts[i]? = some s) : w.cell? ⟨g, i, none⟩ = some (.string s) := by
  have hlt := (List.getElem?_eq_some_iff.1 hi).1
  have := World.ownsRow.cellAt h i (by omega)
  rw [this, List.getElem?_map, hi]
  rfl
theorem textsForm {w : World} {B : Nat} {v : Value} {ts : List ByteArray} (h : OwnTexts w B v ts) : ∃ A cap, v = .slice A ts.length cap ∧ Strs w w.heap.size A ts := by
  have h' := h
  rcases h.2 with ⟨rfl, h0⟩ | ⟨g, cap, cur, rfl, hg, hh, r⟩
  · exact ⟨none, 0, by rw [h0], fun h => absurd h (by omega)⟩
  · refine ⟨_, cap, rfl, fun _ => ⟨g, 0, rfl, (Array.getElem?_eq_some_iff.1 hh).1, fun k s hk => ?_⟩⟩
    rw [Nat.zero_add]
    exact textsCell h' hk
theorem textsFree {w : World} {B g cap n : Nat} {ts : List ByteArray} (h : OwnTexts w B (.slice (some ⟨g, 0, none⟩) n cap) ts) (j : Nat) : w.frozen? ⟨g, j, none⟩ = false := by
  rcases h.2 with ⟨h0, _⟩ | ⟨g', cap', cur, hv, hg, hh, _⟩
  · cases h0
  · injection hv with hv1 _ hv3
    injection hv1 with hv1
    injection hv1 with hv1
    subst hv1
    exact Row.free (hh : Row w g _ cur) j
theorem textsStore {w : World} {B g cap : Nat} {ts : List ByteArray} (h : OwnTexts w B (.slice (some ⟨g, 0, none⟩) ts.length cap) ts) (i : Nat) (s : ByteArray) :
    OwnTexts (w.setCell ⟨g, i, none⟩ (.string s)) B (.slice (some ⟨g, 0, none⟩) ts.length cap) (ts.set i s) := by
  unfold OwnTexts at h ⊢
  rw [List.length_set]
  refine ⟨by simp, ?_⟩
  rcases h.2 with ⟨h0, _⟩ | ⟨g', cap', cur, hv, hg, hh, h1, h2, h3, h4⟩
  · cases h0
  · injection hv with hv1 _ hv3
    injection hv1 with hv1
    injection hv1 with hv1
    subst hv1 hv3
    have hr : Row w g 9 cur := hh
    refine .inr ⟨g, cap, _, rfl, hg, hr.put i _, h1, h2, by simpa using h3, ?_⟩
    rw [List.map_set, ← h4]
    simp only [Array.toList_setIfInBounds, List.take_set]
theorem textsFar {w w' : World} {B : Nat} {v : Value} {ts : List ByteArray} {may : Nat → Prop} (h : OwnTexts w B v ts) (ho : Only w w' may) (hm : ∀ g, v.ownBlock = some g → ¬ may g) : OwnTexts w' B v ts :=
  h.far fun g hg => ho.block g (World.ownsRow.lt h g hg).2 (hm g hg)

/-- The first 'i' are marked. -/
def smarked (ts : List ByteArray) (k : Nat) : Nat → List ByteArray
  | 0 => ts
  | i + 1 => (smarked ts k i).set i (mt (k + i))
theorem smarked_len (l : List ByteArray) (k : Nat) : ∀ i, (smarked l k i).length = l.length
  | 0 => rfl
  | i + 1 => by
    show ((smarked l k i).set i _).length = _
    rw [List.length_set, smarked_len l k i]
theorem smarked_at (l : List ByteArray) (k : Nat) : ∀ i j, j < i → i ≤ l.length → (smarked l k i)[j]? = some (mt (k + j))
  | 0, _, h, _ => absurd h (by omega)
  | i + 1, j, h, hi => by
    show ((smarked l k i).set i _)[j]? = _
    by_cases hj : j = i
    · subst hj
      rw [List.getElem?_set_self (by rw [smarked_len]; omega)]
    · rw [List.getElem?_set_ne (by omega)]
      exact smarked_at l k i j (by omega) (by omega)

end Go.Proofs.Ytjehklkndmdcaaa.St

namespace Go.Proofs.Ytjehklkndmdcaaa
open Go.RowKit

theorem strsOf {w : World} {B n cap : Nat} {A : Option Addr} {ts : List ByteArray} (h : OwnTexts w B (.slice A n cap) ts) : St.Strs w w.heap.size A ts := by
  obtain ⟨A', cap', e, h'⟩ := St.textsForm h
  injection e with e1 e2 e3
  rw [e1]
  exact h'

end Go.Proofs.Ytjehklkndmdcaaa
/- The reference's chains, texts and calls that are left. -/
namespace Go.Proofs.Ytjehklkndmdcaaa
open Go.RowKit

/-- A row of texts that is no nil. -/
def SolidTexts (w : World) (B : Nat) (v : Value) (ts : List ByteArray) : Prop := OwnTexts w B v ts ∧ v ≠ .slice none 0 0
theorem SolidTexts.form {w : World} {B : Nat} {v : Value} {ts : List ByteArray} (h : SolidTexts w B v ts) : ∃ g cap, v = .slice (some ⟨g, 0, none⟩) ts.length cap := by
  rcases h.1.2 with ⟨h0, _⟩ | ⟨g, cap, cur, e, _⟩
  · exact absurd h0 h.2
  · exact ⟨g, cap, e⟩
def ChainsPost (w : World) (L : List ByteArray) (e : Ending) (w' : World) : Prop := ∃ v, e = .returned v ∧ SolidTexts w' w.heap.size v L ∧ Below w.heap.size w w'

set_option maxRecDepth 100000 in
set_option maxHeartbeats 2000000 in
theorem l4Chains_any : ∀ (n : Nat) (f : Forest) (a : List UInt8) (v : Value) (w : World), f.size < n → f.size + a.length ≤ 1000 → IsKids w (· < w.heap.size) f v →
    Calls Try.prog 55 #[.string (strOf a), v] w (ChainsPost w ((chainsB a f).map strOf)) := by
  intro n
  induction n with
  | zero => intro f a v w h; omega
  | succ n ih =>
    intro f a v w hn h80 hk
    obtain ⟨A, cap, rfl, hcs⟩ := hk.nil_or
    have IH := Lib.hid ih
    have HL0 : Hid (LeftS w w.heap.size f A .nil f) := LeftS.start hcs
    have hfl : f.len ≤ 1000 := by have := f.len_size; omega
    have hal : (strOf a).size ≤ 1000 := by unfold strOf; rw [bytes_size]; omega
    clear ih hk hcs
    obtain ⟨i0, hi0, hz0, hz1, hz2⟩ := info_parts info_str
    have I0 := Lib.hid hi0
    have Z0 := Lib.hid hz0
    have Z1 := Lib.hid hz1
    have Z2 := Lib.hid hz2
    clear hi0 hz0 hz1 hz2
    have HS0 : Hid (SolidTexts (w.alloc (.cells #[] 9)) w.heap.size (.slice (some ⟨w.heap.size, 0, none⟩) 0 0) []) := ⟨OwnTexts.empty w (Nat.le_refl _), fun h => by cases h⟩
    have HB0 : Hid (Below w.heap.size w (w.alloc (.cells #[] 9))) := (Below.refl _ w).alloc (Nat.le_refl _) _
    go_enter Try.func55, Try.ntmps55
    go_wp2
    go_loopw [5, 11] (fun o i wr => ∃ (pre rest : Forest), i = .int .i64 pre.len ∧ Hid (SolidTexts wr w.heap.size o ((chainsB a pre).map strOf)) ∧ Hid (LeftS wr w.heap.size f A pre rest) ∧ Hid (Below w.heap.size w wr))
      (fun _ i _ => f.len - (intOf i).toNat)
    case atStart => exact ⟨.nil, f, rfl, HS0, HL0.out.below HB0.out, HB0.out⟩
    case round =>
      obtain ⟨pre, rest, rfl, HT, HL, HB⟩ := hrel
      clear HL0 HS0 HB0
      cases rest with
      | nil =>
        have HE := Lib.hid HL.out.done
        have hle : ¬ (pre.len < f.len) := by rw [HE.out]; omega
        go_wp2
        go_ret
        exact ⟨_, rfl, by rw [HE.out]; exact HT.out, HB.out⟩
      | cons c k r =>
        obtain ⟨hnext, hlt, hks, g, u, rfl, hg, c0, c1, hu⟩ := HL.out.take
        obtain ⟨g1, cap1, rfl⟩ := HT.out.form
        obtain ⟨A2, cap2, rfl, -⟩ := id hu
        have HU := Lib.hid hu
        have HNX := Lib.hid hnext
        have hz := HB.out.size
        have hpl := chainsB_len pre a
        have hkl := chainsB_len k (a ++ [c])
        have hps : pre.size + (k.size + r.size + 1) = f.size := by rw [HL.out.1, Forest.app_size]; rfl
        have htl : ((chainsB a pre).map strOf).length ≤ 1000 := by rw [List.length_map, hpl]; omega
        have hkm : ((chainsB (a ++ [c]) k).map strOf).length ≤ 1000 := by rw [List.length_map, hkl]; omega
        have hx : strOf a ++ ⟨#[c]⟩ = strOf (a ++ [c]) := bytes_cat a [c]
        have HX := Lib.hid hx
        have HLN : Hid ((pre.app (.cons c k .nil)).len = pre.len + 1) := by show _ = _; rw [Forest.app_len]; rfl
        have HCH : Hid ((chainsB a (pre.app (.cons c k .nil))).map strOf = (chainsB a pre).map strOf ++ [strOf (a ++ [c])] ++ (chainsB (a ++ [c]) k).map strOf) := by
          show _ = _
          rw [chainsB_app, chainsB_one, List.map_append, List.map_cons, List.append_assoc]
          rfl
        have HO1 := Lib.hid HT.out.1
        have HQ := Lib.hid (fun W h => IH.out k (a ++ [c]) (.slice A2 k.len cap2) W (by omega) (by simp; omega) h)
        clear hnext hu hpl hkl hx HT
        generalize (chainsB a pre).map strOf = ts at *
        generalize (chainsB (a ++ [c]) k).map strOf = ts2 at *
        have HB1 : Hid (Below w.heap.size w ((wr.alloc (.cells #[.string ⟨#[c]⟩, .slice A2 k.len cap2] 93)).alloc (.cells #[.string (strOf a ++ ⟨#[c]⟩)] 9))) := (HB.out.alloc hz _).alloc (by simp; omega) _
        have HT1 : Hid (OwnTexts ((wr.alloc (.cells #[.string ⟨#[c]⟩, .slice A2 k.len cap2] 93)).alloc (.cells #[.string (strOf a ++ ⟨#[c]⟩)] 9)) w.heap.size (.slice (some ⟨g1, 0, none⟩) ts.length cap1) ts) := (HO1.out.below ((Below.refl wr.heap.size wr).alloc (Nat.le_refl _) _)).below ((Below.refl _ _).alloc (Nat.le_refl _) _)
        have HR1 : Hid (Row ((wr.alloc (.cells #[.string ⟨#[c]⟩, .slice A2 k.len cap2] 93)).alloc (.cells #[.string (strOf a ++ ⟨#[c]⟩)] 9)) wr.heap.size 93 #[.string ⟨#[c]⟩, .slice A2 k.len cap2]) := (Row.new wr _ _).alloc _
        have HBW : Hid (Below wr.heap.size wr ((wr.alloc (.cells #[.string ⟨#[c]⟩, .slice A2 k.len cap2] 93)).alloc (.cells #[.string (strOf a ++ ⟨#[c]⟩)] 9))) := ((Below.refl _ wr).alloc (Nat.le_refl _) _).alloc (by simp) _
        have HZ1 : Hid (((wr.alloc (.cells #[.string ⟨#[c]⟩, .slice A2 k.len cap2] 93)).alloc (.cells #[.string (strOf a ++ ⟨#[c]⟩)] 9)).heap.size = wr.heap.size + 2) := by show _ = _; simp
        have hg1 : g1 < wr.heap.size := (World.ownsRow.lt HO1.out g1 rfl).2
        have hg1w : w.heap.size ≤ g1 := (World.ownsRow.lt HO1.out g1 rfl).1
        have HNW : Hid (∀ j u, [Value.string (strOf a ++ ⟨#[c]⟩)][j]? = some u → ((wr.alloc (.cells #[.string ⟨#[c]⟩, .slice A2 k.len cap2] 93)).alloc (.cells #[.string (strOf a ++ ⟨#[c]⟩)] 9)).cell? ((⟨wr.heap.size + 1, 0, none⟩ : Addr).add j) = some u) := by
          have := cell_one_new (wr.alloc (.cells #[.string ⟨#[c]⟩, .slice A2 k.len cap2] 93)) (.string (strOf a ++ ⟨#[c]⟩)) 9
          rw [World.size_alloc] at this
          exact this
        clear HO1
        go_wp2_with (at_builtin; refine wpList_append_own_at _ rfl _ _ 56 rfl w.heap.size 9 i0 (.string ByteArray.empty) 1 16 Try.underlying56 I0.out Z0.out Z1.out Z2.out rfl (by decide) _ _ _ rfl HT1.out ⟨wr.heap.size + 1, 0, none⟩ 1 1 [.string (strOf a ++ ⟨#[c]⟩)] rfl rfl HNW.out (by simp [Value.oneCell']) (by unfold maxLen; omega) (by omega) (by have := HZ1.out; omega) ?_; intro v5 w5 hown5 hgrow5' _ _; have hgrow5 : World.grownBy _ w5 (some g1) := hgrow5'; clear hgrow5'; obtain ⟨g5, cap5, rfl⟩ := own_form hown5 (by omega); have H5 := Lib.hid hown5; have hr5 : Row w5 wr.heap.size 93 #[.string ⟨#[c]⟩, .slice A2 k.len cap2] := (hgrow5.block _ HR1.out.lt (fun e => by injection e with e; omega)).trans HR1.out; have HG5 := Lib.hid hgrow5; have d0 := hr5.cell 0; have d1 := hr5.cell 1; simp at d0 d1; clear hown5 hgrow5)
        have hzz := HZ1.out
        have HB5 : Hid (Below w.heap.size w w5) := HB1.out.grown HG5.out (by omega) (fun q hq => by injection hq with hq; omega)
        have HW5 : Hid (Below w.heap.size wr w5) := (HBW.out.mono hz).grown HG5.out (by omega) (fun q hq => by injection hq with hq; omega)
        rw [HX.out] at H5 ⊢
        have HL5 := Lib.hid (HNX.out.below HW5.out)
        have HU5 : Hid (IsKids w5 (· < w5.heap.size) k (.slice A2 k.len cap2)) := (HU.out.below HW5.out).up HB5.out.size
        clear HT1 HR1 HB1 HBW HG5 HNX HU HW5 hzz HZ1 HNW hr5
        refine (HQ.out w5 HU5.out).mono ?_
        rintro e w6 ⟨v6, rfl, ⟨ho6, hn6⟩, hb6⟩
        obtain ⟨g6, cap6, rfl⟩ := SolidTexts.form ⟨ho6, hn6⟩
        have HO6 := Lib.hid ho6
        have HB6 : Hid (Below w.heap.size w w6) := HB5.out.trans (hb6.mono HB5.out.size)
        have HL6 := Lib.hid (HL5.out.below (hb6.mono HB5.out.size))
        have HT6 : Hid (w6.ownsRow w.heap.size 9 1 (.slice (some ⟨g5, 0, none⟩) (ts.length + 1) cap5) (ts.length + 1) (ts.map Value.string ++ [.string (strOf (a ++ [c]))])) := own_keep H5.out fun g hg => hb6.block g (H5.out.lt g hg).2
        have HNW6 : Hid (∀ j u, (ts2.map Value.string)[j]? = some u → w6.cell? ((⟨g6, 0, none⟩ : Addr).add j) = some u) := fun j u hj => by
          rw [List.getElem?_map, Option.map_eq_some_iff] at hj
          obtain ⟨s, hs, rfl⟩ := hj
          have := St.textsCell HO6.out hs
          rw [WideShapes.add_plain]
          rwa [Nat.zero_add]
        have hg5 : w.heap.size ≤ g5 := (H5.out.lt g5 rfl).1
        clear ho6 hn6 hb6 H5 HB5 HL5 HU5 HQ d0 d1
        go_wp2_with (at_builtin; refine wpList_append_own_at _ rfl _ _ 56 rfl w.heap.size 9 i0 (.string ByteArray.empty) 1 16 Try.underlying56 I0.out Z0.out Z1.out Z2.out rfl (by decide) _ _ _ rfl HT6.out ⟨g6, 0, none⟩ ts2.length cap6 (ts2.map Value.string) rfl (by simp) HNW6.out (by simp [Value.oneCell']) (by unfold maxLen; omega) (by omega) HB6.out.size ?_; intro v7 w7 hown7 hgrow7' hnil7 _; have hgrow7 : World.grownBy _ w7 (some g5) := hgrow7'; clear hgrow7'; have H7 := Lib.hid hown7; have HG7 := Lib.hid hgrow7; have HN7 := Lib.hid hnil7; clear hown7 hgrow7 hnil7)
        have HB7 : Hid (Below w.heap.size w w7) := HB6.out.grown HG7.out HB6.out.size (fun q hq => by injection hq with hq; omega)
        have HL7 : Hid (LeftS w7 w.heap.size f (some ⟨g, 0, none⟩) (pre.app (.cons c k .nil)) r) := HL6.out.below ((Below.refl _ w6).grown HG7.out HB6.out.size (fun q hq => by injection hq with hq; omega))
        have HT7 : Hid (SolidTexts w7 w.heap.size v7 ((chainsB a (pre.app (.cons c k .nil))).map strOf)) := by
          refine ⟨?_, fun h => by have := (HN7.out.1 h).1; cases this⟩
          unfold OwnTexts
          rw [HCH.out, List.length_append, List.length_append, List.map_append, List.map_append]
          exact H7.out
        clear HT6 HO6 HNW6 HB6 HL6 HG7 H7 HN7
        go_roundw
        case rel => exact ⟨_, r, by rw [HLN.out]; go_num, HT7, HL7, HB7⟩
        case measure => simp [intOf]; omega

end Go.Proofs.Ytjehklkndmdcaaa
/- The reference's texts of calls. -/
namespace Go.Proofs.Ytjehklkndmdcaaa
open Go.RowKit

theorem str_cat (x y : List UInt8) : strOf x ++ strOf y = strOf (x ++ y) := bytes_cat x y
theorem str_size (x : List UInt8) : (strOf x).size = x.length := bytes_size x
theorem Forest.isNil_pos {k : Forest} (h : k.isNil = false) : 0 < k.len := by
  rw [Forest.isNil_len] at h
  have := of_decide_eq_false h
  omega
theorem Forest.isNil_zero {k : Forest} (h : k.isNil = true) : k.len = 0 := by
  rw [Forest.isNil_len] at h
  exact of_decide_eq_true h

set_option maxRecDepth 100000 in
set_option maxHeartbeats 2000000 in
theorem l4Text_any : ∀ (n : Nat) (f : Forest) (v : Value) (w : World), f.size < n → f.size ≤ 1000 → IsKids w (· < w.heap.size) f v →
    Calls Try.prog 42 #[v] w fun e w' => e = .returned (.string (strOf (textB f))) ∧ Below w.heap.size w w' := by
  intro n
  induction n with
  | zero => intro f v w h; omega
  | succ n ih =>
    intro f v w hn h80 hk
    obtain ⟨A, cap, rfl, hcs⟩ := hk.nil_or
    have IH := Lib.hid ih
    have HL0 : Hid (LeftS w w.heap.size f A .nil f) := LeftS.start hcs
    have hfl : f.len ≤ 1000 := Nat.le_trans f.len_size h80
    clear ih hk hcs
    go_enter Try.func42, Try.ntmps42
    go_wp2
    go_loopw [3, 8] (fun s i wr => ∃ (pre rest : Forest) (x : ByteArray), s = .string x ∧ i = .int .i64 pre.len ∧ Hid (x = strOf (textB pre)) ∧ Hid (LeftS wr w.heap.size f A pre rest) ∧ Hid (Below w.heap.size w wr))
      (fun _ i _ => f.len - (intOf i).toNat)
    case atStart => exact ⟨.nil, f, _, rfl, rfl, rfl, HL0, Below.refl _ _⟩
    case round =>
      obtain ⟨pre, rest, x, rfl, rfl, HX, HL, HB⟩ := hrel
      clear HL0
      cases rest with
      | nil =>
        have HE := Lib.hid HL.out.done
        have hle : ¬ (pre.len < f.len) := by rw [HE.out]; omega
        go_wp2
        go_ret
        exact ⟨by rw [HX.out, HE.out]; rfl, HB.out⟩
      | cons c k r =>
        obtain ⟨hnext, hlt, hks, g, u, rfl, hg, c0, c1, hu⟩ := HL.out.take
        have HNX := Lib.hid hnext
        have hz := HB.out.size
        obtain ⟨A2, cap2, rfl, -⟩ := id hu
        have hu' := (hu.up hz).below ((Below.refl wr.heap.size wr).alloc (Nat.le_refl _) (.cells #[.string ⟨#[c]⟩, .slice A2 k.len cap2] 93))
        have HQ := Lib.hid (IH.out k _ (wr.alloc (.cells #[.string ⟨#[c]⟩, .slice A2 k.len cap2] 93)) (by omega) (by omega) (hu'.up (by simp)))
        have hnl := textB_len k
        have hpl := textB_len pre
        have hps : pre.size ≤ f.size := by rw [HL.out.1, Forest.app_size]; omega
        have hxs : x.size ≤ 4000 := by rw [HX.out, str_size]; omega
        have hys : (strOf (textB k)).size ≤ 4000 := by rw [str_size]; omega
        have HLN : Hid ((pre.app (.cons c k .nil)).len = pre.len + 1) := by show _ = _; rw [Forest.app_len]; rfl
        have hq : ∀ q : List UInt8, textOne c k = c :: q → x ++ ⟨#[c]⟩ ++ strOf q = strOf (textB (pre.app (.cons c k .nil))) := fun q hq => by
          rw [HX.out, show (⟨#[c]⟩ : ByteArray) = strOf [c] from rfl, str_cat, str_cat, textB_app, textB_one, hq]
          simp
        cases hkn : k.isNil with
        | true =>
          have h0 := Forest.isNil_zero hkn
          have hq0 : x ++ ⟨#[c]⟩ = strOf (textB (pre.app (.cons c k .nil))) := by
            have := hq [] (by unfold textOne; rw [hkn]; rfl)
            rw [← this]
            apply ByteArray.ext
            simp [ByteArray.data_append, strOf]
          have HQ0 := Lib.hid hq0
          have HB1 : Hid (Below w.heap.size w (wr.alloc (.cells #[.string ⟨#[c]⟩, .slice A2 k.len cap2] 93))) := HB.out.alloc hz _
          have HL1 : Hid (LeftS (wr.alloc (.cells #[.string ⟨#[c]⟩, .slice A2 k.len cap2] 93)) w.heap.size f (some ⟨g, 0, none⟩) (pre.app (.cons c k .nil)) r) := HNX.out.below ((Below.refl _ wr).alloc hz _)
          have t1 : ¬ (0 < k.len) := by omega
          have t2 : decide (0 < k.len) = false := decide_eq_false t1
          clear hnext hu hu' hnl hpl hps hq hq0 h0 hkn HQ HNX HL HB
          go_wp2
          go_roundw
          case rel => exact ⟨_, r, _, rfl, by rw [HLN.out]; go_num, HQ0, HL1, HB1⟩
          case measure => simp [intOf]; omega
        | false =>
          have h0 := Forest.isNil_pos hkn
          have hq0 : x ++ ⟨#[c]⟩ ++ ⟨#[40]⟩ ++ strOf (textB k) ++ ⟨#[41]⟩ = strOf (textB (pre.app (.cons c k .nil))) := by
            have := hq (40 :: (textB k ++ [41])) (by unfold textOne; rw [hkn]; rfl)
            rw [← this]
            apply ByteArray.ext
            simp [ByteArray.data_append, strOf]
          have HQ0 := Lib.hid hq0
          have t2 : decide (0 < k.len) = true := decide_eq_true h0
          clear hnext hu hu' hnl hpl hps hq hq0 hkn
          generalize strOf (textB k) = y at *
          go_wp2_with fail
          refine Calls.mono HQ.out ?_
          rintro e w1 ⟨rfl, hb1⟩
          have HB1 : Hid (Below w.heap.size w w1) := (HB.out.alloc hz _).trans (hb1.mono (by simp; omega))
          have HL1 : Hid (LeftS w1 w.heap.size f (some ⟨g, 0, none⟩) (pre.app (.cons c k .nil)) r) := HNX.out.below (((Below.refl _ wr).alloc hz _).trans (hb1.mono (by simp; omega)))
          clear hb1 HQ HNX HL HB
          go_wp2
          go_roundw
          case rel => exact ⟨_, r, _, rfl, by rw [HLN.out]; go_num, HQ0, HL1, HB1⟩
          case measure => simp [intOf]; omega

end Go.Proofs.Ytjehklkndmdcaaa
/- The reference's calls that are left. -/
namespace Go.Proofs.Ytjehklkndmdcaaa
open Go.RowKit

theorem oper_append_own {P : Program} {w : World} {o : Oper} {a : Act} {K : Act → World → Prop} {Q : Exit → Act → World → Prop} (s x : Operand) (t : TypeId)
    (ho : o.op = .call { callee := .builtin .append, args := #[s, x], argTypes := #[t, t] })
    (base : Nat) (e : TypeId) (i : TypeInfo) (z : Value) (size bytes : Nat) (ht : P.underlying t = some (.slice e)) (hi : P.info? e = some i) (hz : i.zero = some z)
    (hsize : i.size = size) (hby : i.bytes = bytes) (hzs : z.cells.size = size) (hsz : 0 < size)
    (v : Value) (n : Nat) (xs : List Value) (hs : a.eval s = v) (hown : w.ownsRow base e size v n xs)
    (ad : Addr) (m c : Nat) (news : List Value) (hx : a.eval x = .slice (some ad) m c) (hl : news.length = m * size) (hnews : ∀ j u, news[j]? = some u → w.cell? (ad.add j) = some u) (h1 : ∀ u ∈ news, u.oneCell' = true)
    (h63 : n + m ≤ maxLen) (hbytes : (n + m) * bytes ≤ 140737488355328) (hbase : base ≤ w.heap.size)
    (h : ∀ v' w', w'.ownsRow base e size v' (n + m) (xs ++ news) → w.grownBy w' v.ownBlock → (v' = .slice none 0 0 ↔ v = .slice none 0 0 ∧ m = 0) → (v'.ownBlock = v.ownBlock ∨ v'.ownBlock = some w.heap.size) → K (a.put o.dst v') w') :
    Oper.wp P o a w K Q := by
  obtain ⟨v', w', hr, h2, h3, h4, h5⟩ := run_append_own_at (P := P) w base t o.type e i z size bytes ht hi hz hsize hby hzs hsz v n xs hown ad m c news hl hnews h1 h63 hbytes hbase
  unfold Oper.wp execOp
  simp only [ho, resolve, invoke, builtin, Sem.run_bind, Sem.run_pure, Result.andThen_ok, List.map_toArray, List.map_cons, List.map_nil, hs, hx, hr]
  exact h v' w' h2 h3 h4 h5

/-- A slice of the reference's calls that is no nil. -/
def SolidS (w : World) (B : Nat) (v : Value) (f : Forest) : Prop := OwnS w B v f ∧ v ≠ .slice none 0 0
theorem SolidS.form {w : World} {B : Nat} {v : Value} {f : Forest} (h : SolidS w B v f) : ∃ g cap, v = .slice (some ⟨g, 0, none⟩) f.len cap := by
  obtain ⟨⟨xs, hown, _⟩, hn⟩ := h
  rcases hown.2 with ⟨h0, _⟩ | ⟨g, cap, cur, e, _⟩
  · exact absurd h0 hn
  · exact ⟨g, cap, e⟩
theorem SolidS.below {w w' : World} {B : Nat} {v : Value} {f : Forest} (h : SolidS w B v f) (hb : Below w.heap.size w w') : SolidS w' B v f :=
  ⟨h.1.far hb.size fun q _ h2 => hb.block q h2, h.2⟩
def LessPost (w : World) (f : Forest) (e : Ending) (w' : World) : Prop := ∃ v, e = .returned v ∧ SolidS w' w.heap.size v f ∧ Below w.heap.size w w'

/-- What holds in a round while one call is put behind those that are left. -/
structure LessHeld (w : World) (X : Nat) (c : UInt8) (kv v : Value) (F f pre k r : Forest) (A : Option Addr) (w' : World) : Prop where
  box : Row w' X 93 #[.string ⟨#[c]⟩, kv]
  own : SolidS w' w.heap.size v F
  left : LeftS w' w.heap.size f A (pre.app (.cons c k .nil)) r
  kids : IsKids w' (· < w.heap.size) k kv
  below : Below w.heap.size w w'
theorem LessHeld.later {w : World} {X : Nat} {c : UInt8} {kv v : Value} {F f pre k r : Forest} {A : Option Addr} {w1 w2 : World} (h : LessHeld w X c kv v F f pre k r A w1) (hb : Below w1.heap.size w1 w2) : LessHeld w X c kv v F f pre k r A w2 :=
  ⟨h.box.below hb h.box.lt, h.own.below hb, h.left.below (hb.mono h.below.size), h.kids.below (hb.mono h.below.size), h.below.trans (hb.mono h.below.size)⟩

set_option maxRecDepth 100000 in
set_option maxHeartbeats 4000000 in
theorem l4Less_any (n : ByteArray) : ∀ (m : Nat) (f : Forest) (v : Value) (w : World), f.size < m → f.size ≤ 1000 → IsKids w (· < w.heap.size) f v →
    Calls Try.prog 43 #[v, .string n] w (LessPost w (lessB n f)) := by
  intro m
  induction m with
  | zero => intro f v w h; omega
  | succ m ih =>
    intro f v w hn h80 hk
    obtain ⟨A, cap, rfl, hcs⟩ := hk.nil_or
    have IH := Lib.hid ih
    have HL0 : Hid (LeftS w w.heap.size f A .nil f) := LeftS.start hcs
    have hfl : f.len ≤ 1000 := Nat.le_trans f.len_size h80
    clear ih hk hcs
    obtain ⟨i0, hi0, hz0, hz1, hz2⟩ := info_parts info_l4
    have I0 := Lib.hid hi0
    have Z0 := Lib.hid hz0
    have Z1 := Lib.hid hz1
    have Z2 := Lib.hid hz2
    clear hi0 hz0 hz1 hz2
    have HS0 : Hid (SolidS (w.alloc (.cells #[] 93)) w.heap.size (.slice (some ⟨w.heap.size, 0, none⟩) 0 0) .nil) := ⟨OwnS.empty w (Nat.le_refl _), fun h => by cases h⟩
    have HB0 : Hid (Below w.heap.size w (w.alloc (.cells #[] 93))) := (Below.refl _ w).alloc (Nat.le_refl _) _
    go_enter Try.func43, Try.ntmps43
    go_wp2
    go_loopw [5, 11] (fun o i wr => ∃ (pre rest : Forest), i = .int .i64 pre.len ∧ Hid (SolidS wr w.heap.size o (lessB n pre)) ∧ Hid (LeftS wr w.heap.size f A pre rest) ∧ Hid (Below w.heap.size w wr))
      (fun _ i _ => f.len - (intOf i).toNat)
    case atStart => exact ⟨.nil, f, rfl, HS0, HL0.out.below HB0.out, HB0.out⟩
    case round =>
      obtain ⟨pre, rest, rfl, HT, HL, HB⟩ := hrel
      clear HL0 HS0 HB0
      cases rest with
      | nil =>
        have HE := Lib.hid HL.out.done
        have hle : ¬ (pre.len < f.len) := by rw [HE.out]; omega
        go_wp2
        go_ret
        exact ⟨_, rfl, by rw [HE.out]; exact HT.out, HB.out⟩
      | cons c k r =>
        obtain ⟨hnext, hlt, hks, g, u, rfl, hg, c0, c1, hu⟩ := HL.out.take
        obtain ⟨g1, cap1, rfl⟩ := HT.out.form
        obtain ⟨A2, cap2, rfl, -⟩ := id hu
        have hz := HB.out.size
        have hg1 : g1 < wr.heap.size := (HT.out.1.lt g1 rfl).2
        have hps : pre.size + (k.size + r.size + 1) = f.size := by rw [HL.out.1, Forest.app_size]; rfl
        have hpl : (lessB n pre).len ≤ 1000 := by have := lessB_len n pre; have := pre.len_size; omega
        have HLN : Hid ((pre.app (.cons c k .nil)).len = pre.len + 1) := by show _ = _; rw [Forest.app_len]; rfl
        have HH : Hid (LessHeld w wr.heap.size c (.slice A2 k.len cap2) (.slice (some ⟨g1, 0, none⟩) (lessB n pre).len cap1) (lessB n pre) f pre k r (some ⟨g, 0, none⟩) (wr.alloc (.cells #[.string ⟨#[c]⟩, .slice A2 k.len cap2] 93))) :=
          ⟨Row.new wr _ _, HT.out.below ((Below.refl _ wr).alloc (Nat.le_refl _) _), hnext.below ((Below.refl _ wr).alloc hz _), hu.below ((Below.refl _ wr).alloc hz _), HB.out.alloc hz _⟩
        by_cases hcn : (⟨#[c]⟩ : ByteArray) = n
        · have HLE : Hid (lessB n (pre.app (.cons c k .nil)) = lessB n pre) := by
            show _ = _
            rw [lessB_app, lessB_yes k hcn, Forest.app_nil]
          clear hnext hu HT HB HL
          rw [hcn] at c0 HH
          have HCN := Lib.hid hcn
          clear hcn
          go_wp2
          go_roundw
          case rel => exact ⟨_, r, by rw [HLN.out]; go_num, by show SolidS _ _ _ _; rw [HLE.out]; exact HH.out.own, HH.out.left, HH.out.below⟩
          case measure => simp [intOf]; omega
        · have HLE : Hid (lessB n (pre.app (.cons c k .nil)) = (lessB n pre).app (.cons c (lessB n k) .nil)) := by
            show _ = _
            rw [lessB_app, lessB_no k hcn]
          have HQ := Lib.hid (fun W h => IH.out k (.slice A2 k.len cap2) W (by omega) (by omega) h)
          have hlk : (lessB n k).len ≤ 1000 := by have := lessB_len n k; have := k.len_size; omega
          clear hnext hu HT HB HL
          generalize lessB n pre = F at *
          generalize lessB n k = k2 at *
          generalize hy : (⟨#[c]⟩ : ByteArray) = y at *
          have HY := Lib.hid hy
          have hne : ¬ y.toList = n.toList := fun e => hcn (by rw [ByteArray.toList_eq, ByteArray.toList_eq] at e; exact ByteArray.ext (Array.toList_inj.1 e))
          have hn2 : (y.toList == n.toList) = false := by simp [hne]
          have hn3 : (y.toList != n.toList) = true := by simp [hne]
          clear hy hcn
          go_wp2_with fail
          generalize wr.alloc (.cells #[.string y, .slice A2 k.len cap2] 93) = W1 at *
          have HH0 : Hid (LessHeld w wr.heap.size c (.slice A2 k.len cap2) (.slice (some ⟨g1, 0, none⟩) F.len cap1) F f pre k r (some ⟨g, 0, none⟩) W1.drew) := HH.out.later (Below.refl _ W1).drew
          have HCL : Hid (∀ W', LessHeld w wr.heap.size c (.slice A2 k.len cap2) (.slice (some ⟨g1, 0, none⟩) F.len cap1) F f pre k r (some ⟨g, 0, none⟩) W' → W'.cell? ⟨wr.heap.size, 0, none⟩ = some (.string y) ∧ W'.cell? ⟨wr.heap.size, 1, none⟩ = some (.slice A2 k.len cap2)) := fun W' h =>
            ⟨by rw [← HY.out]; exact h.box.cell 0, h.box.cell 1⟩
          clear HH hne hn2 hn3
          refine wp_region_held_drew (S := (fun w' => w'.cell? ⟨wr.heap.size, 0, none⟩ = some (.string y) ∧ w'.cell? ⟨wr.heap.size, 1, none⟩ = some (.slice A2 k.len cap2))) (by kernel_rfl) ?_ (fun hHeld => ?_)
          · exact HCL.out _ HH0.out
          refine take_at (i := 0) (d := 19) (v := .slice (some ⟨g1, 0, none⟩) F.len cap1) rfl rfl (by kernel_rfl) (by kernel_rfl) (by kernel_rfl) (fun _ _ _ h => h) (by kernel_rfl) (by (intro w hSw; (try dsimp only at hSw); go_simp)) (by assumption) ?_
          simp only [List.setIfInBounds_toArray, List.set_cons_succ, List.set_cons_zero]
          refine take_at (i := 1) (d := 20) (v := .pointer (some ⟨wr.heap.size, 0, none⟩)) rfl rfl (by kernel_rfl) (by kernel_rfl) (by kernel_rfl) (fun _ _ _ h => h) (by kernel_rfl) (by (intro w hSw; (try dsimp only at hSw); go_simp)) (by assumption) ?_
          simp only [List.setIfInBounds_toArray, List.set_cons_succ, List.set_cons_zero]
          refine take_at (i := 2) (d := 21) (v := .string y) rfl rfl (by kernel_rfl) (by kernel_rfl) (by kernel_rfl) (fun _ _ _ h => h) (by kernel_rfl) (by (intro w hSw; (try dsimp only at hSw); go_simp)) (by assumption) ?_
          simp only [List.setIfInBounds_toArray, List.set_cons_succ, List.set_cons_zero]
          refine take_at (i := 3) (d := 22) (v := .pointer (some ⟨wr.heap.size, 1, none⟩)) rfl rfl (by kernel_rfl) (by kernel_rfl) (by kernel_rfl) (fun _ _ _ h => h) (by kernel_rfl) (by (intro w hSw; (try dsimp only at hSw); go_simp)) (by assumption) ?_
          simp only [List.setIfInBounds_toArray, List.set_cons_succ, List.set_cons_zero]
          refine take_at (i := 4) (d := 23) (v := .slice A2 k.len cap2) rfl rfl (by kernel_rfl) (by kernel_rfl) (by kernel_rfl) (fun _ _ _ h => h) (by kernel_rfl) (by (intro w hSw; (try dsimp only at hSw); go_simp)) (by assumption) ?_
          simp only [List.setIfInBounds_toArray, List.set_cons_succ, List.set_cons_zero]
          refine take_at (i := 5) (d := 24) (v := .string n) rfl rfl (by kernel_rfl) (by kernel_rfl) (by kernel_rfl) (fun _ _ _ h => h) (by kernel_rfl) (by (intro w hSw; (try dsimp only at hSw); go_simp)) (by assumption) ?_
          simp only [List.setIfInBounds_toArray, List.set_cons_succ, List.set_cons_zero]
          refine wpAnyH_ready (rs := [6]) (by kernel_rfl) (by simp) ?_
          refine AllReadyH.cons rfl (fun K hK => ?_) AllReadyH.nil
          go_simp
          refine (HQ.out _ (HH0.out.kids.up HH0.out.below.size)).mono ?_
          rintro e w2 ⟨v2, rfl, hs2, hb2⟩
          obtain ⟨g2, cap3, rfl⟩ := hs2.form
          have HH2 : Hid (LessHeld w wr.heap.size c (.slice A2 k.len cap2) (.slice (some ⟨g1, 0, none⟩) F.len cap1) F f pre k r (some ⟨g, 0, none⟩) w2) := HH0.out.later hb2
          have HK2 : Hid (IsKids w2 (fun q => W1.drew.heap.size ≤ q ∧ q < w2.heap.size) k2 (.slice (some ⟨g2, 0, none⟩) k2.len cap3)) := hs2.1.kids
          have hc2 := HCL.out _ HH2.out
          have hgW : g1 < W1.drew.heap.size := (HH0.out.own.1.lt g1 rfl).2
          have hWz : w.heap.size ≤ W1.drew.heap.size := HH0.out.below.size
          clear hs2 hb2 hHeld HH0
          refine hK.out _ _ hc2 (fun hHeld => ?_)
          clear hK K hc2
          refine take_at (i := 7) (d := 26) (v := .agg #[.string y, .slice (some ⟨g2, 0, none⟩) k2.len cap3]) rfl rfl (by kernel_rfl) (by kernel_rfl) (by kernel_rfl) (fun _ _ _ h => h) (by kernel_rfl) (by (intro w hSw; (try dsimp only at hSw); go_simp)) (by assumption) ?_
          simp only [List.setIfInBounds_toArray, List.set_cons_succ, List.set_cons_zero]
          refine wpAnyH_ready (rs := [8]) (by kernel_rfl) (by simp) ?_
          refine AllReadyH.cons rfl (fun K hK => ?_) AllReadyH.nil
          go_simp
          have HH3 : Hid (LessHeld w wr.heap.size c (.slice A2 k.len cap2) (.slice (some ⟨g1, 0, none⟩) F.len cap1) F f pre k r (some ⟨g, 0, none⟩) (w2.alloc (.cells #[.string y, .slice (some ⟨g2, 0, none⟩) k2.len cap3] 93))) := HH2.out.later ((Below.refl _ w2).alloc (Nat.le_refl _) _)
          have hc3 := HCL.out _ HH3.out
          refine hK.out _ _ hc3 (fun hHeld => ?_)
          clear hK K hc3
          obtain ⟨⟨xs, hown, hvals⟩, -⟩ := HH2.out.own
          have HOWN := Lib.hid hown
          have HVAL := Lib.hid hvals
          have HNW := Lib.hid (World.news_of_block (cs := #[.string y, .slice (some ⟨g2, 0, none⟩) k2.len cap3]) (t := 93) (fr := (0, 0)) (heap_alloc_new w2 (.cells #[.string y, .slice (some ⟨g2, 0, none⟩) k2.len cap3] 93)))
          have hz2 : w.heap.size ≤ w2.heap.size := HH2.out.below.size
          clear hown hvals
          refine wpAnyH_ready (rs := [9]) (by kernel_rfl) (by simp) ?_
          refine AllReadyH.cons rfl (fun K hK => ?_) AllReadyH.nil
          rw [if_pos (by kernel_rfl)]
          refine oper_append_own _ _ 52 rfl w.heap.size 93 i0 (.agg #[.string ByteArray.empty, .slice none 0 0]) 2 40 Try.underlying52 I0.out Z0.out Z1.out Z2.out rfl (by decide) (.slice (some ⟨g1, 0, none⟩) F.len cap1) F.len xs rfl (HOWN.out.alloc _) ⟨w2.heap.size, 0, none⟩ 1 1 [.string y, .slice (some ⟨g2, 0, none⟩) k2.len cap3] rfl rfl HNW.out (by simp [Value.oneCell']) (by unfold maxLen; omega) (by omega) (by simp; omega) ?_
          intro v3 w3 hown3 hgrow3 hnil3 hat3
          have HB3 : Hid (Below w.heap.size w w3) := HH3.out.below.grown hgrow3 HH3.out.below.size (fun q hq => by injection hq with hq; dsimp only at hq; have := (HOWN.out.lt g1 rfl).1; omega)
          have HL3 : Hid (LeftS w3 w.heap.size f (some ⟨g, 0, none⟩) (pre.app (.cons c k .nil)) r) := HH3.out.left.below ((Below.refl _ _).grown hgrow3 HH3.out.below.size (fun q hq => by injection hq with hq; dsimp only at hq; have := (HOWN.out.lt g1 rfl).1; omega))
          have HS3 : Hid (SolidS w3 w.heap.size v3 (F.app (.cons c k2 .nil))) := by
            refine ⟨?_, fun h => by have := (hnil3.1 h).1; cases this⟩
            rw [← HY.out] at hown3 hgrow3
            refine OwnS.more (w := w2) HVAL.out (HK2.out.keep fun q hq => ⟨⟨by omega, hq.2, fun e => by injection e with e; dsimp only at e; omega⟩, rfl⟩) ((Below.refl _ w2).alloc (Nat.le_refl _) (.cells #[.string ⟨#[c]⟩, .slice (some ⟨g2, 0, none⟩) k2.len cap3] 93)) hgrow3 hown3 ?_
            rw [World.size_alloc] at hat3
            rw [World.size_alloc]
            exact hat3
          have hr3 := (hgrow3.block wr.heap.size HH3.out.box.lt (fun e => by
            injection e with e
            dsimp only at e
            omega)).trans HH3.out.box
          have hc3 : w3.cell? ⟨wr.heap.size, 0, none⟩ = some (.string y) ∧ w3.cell? ⟨wr.heap.size, 1, none⟩ = some (.slice A2 k.len cap2) := ⟨by rw [← HY.out]; exact Row.cell hr3 0, Row.cell hr3 1⟩
          clear hown3 hgrow3 hnil3 hat3 hr3
          refine hK.out _ _ hc3 (fun hHeld => ?_)
          clear hK K hc3
          simp only [Act.put, List.setIfInBounds_toArray]
          refine take_at (i := 10) (d := 5) (v := v3) rfl rfl (by kernel_rfl) (by kernel_rfl) (by kernel_rfl) (fun _ _ _ h => h) (by kernel_rfl) (by (intro w hSw; (try dsimp only at hSw); go_simp)) (by assumption) ?_
          simp only [List.setIfInBounds_toArray, List.set_cons_succ, List.set_cons_zero]
          refine wpAnyH_done (by kernel_rfl) ?_ _
          clear hHeld HH2 HH3 HOWN HVAL HNW HK2 HCL HQ
          go_wp2
          go_roundw
          case rel => exact ⟨_, r, by rw [HLN.out]; go_num, by show SolidS _ _ _ _; rw [HLE.out]; exact HS3.out, HL3.out, HB3.out⟩
          case measure => simp [intOf]; omega

end Go.Proofs.Ytjehklkndmdcaaa
