/- The reference's chains, texts and calls that are left. -/
import Derived.Test.YtfhdbbdehploeaaFm
import Derived.Test.YtfhdbbdehploeaaTx
import Derived.Maps.AppendAt
import Derived.Deep.AppendLies
namespace Go.Proofs.Ytfhdbbdehploeaa
open Go.RowKit

/-- A row of texts that is no nil. -/
def SolidTexts (w : World) (B : Nat) (v : Value) (ts : List ByteArray) : Prop := OwnTexts w B v ts ∧ v ≠ .slice none 0 0
theorem SolidTexts.form {w : World} {B : Nat} {v : Value} {ts : List ByteArray} (h : SolidTexts w B v ts) : ∃ g cap, v = .slice (some ⟨g, 0, none⟩) ts.length cap := by
  rcases h.1.2 with ⟨h0, _⟩ | ⟨g, cap, cur, e, _⟩
  · exact absurd h0 h.2
  · exact ⟨g, cap, e⟩
def ChainsPost (w : World) (L : List ByteArray) (e : Ending) (w' : World) : Prop := ∃ v, e = .returned v ∧ SolidTexts w' w.heap.size v L ∧ Below w.heap.size w w'

set_option maxRecDepth 100000 in
set_option maxHeartbeats 2000000 in
theorem l4Chains_any : ∀ (n : Nat) (f : Forest) (a : List UInt8) (v : Value) (w : World), f.size < n → f.size + a.length ≤ 1000 → IsKids w (· < w.heap.size) f v →
    Calls Try.prog 123 #[.string (strOf a), v] w (ChainsPost w ((chainsB a f).map strOf)) := by
  intro n
  induction n with
  | zero => intro f a v w h; omega
  | succ n ih =>
    intro f a v w hn h80 hk
    obtain ⟨A, cap, rfl, hcs⟩ := hk.nil_or
    have IH := Lib.hid ih
    have HL0 : Hid (LeftS w w.heap.size f A .nil f) := LeftS.start hcs
    have hfl : f.len ≤ 1000 := by have := f.len_size; omega
    have hal : (strOf a).size ≤ 1000 := by unfold strOf; rw [bytes_size]; omega
    clear ih hk hcs
    obtain ⟨i0, hi0, hz0, hz1, hz2⟩ := info_parts info_str
    have I0 := Lib.hid hi0
    have Z0 := Lib.hid hz0
    have Z1 := Lib.hid hz1
    have Z2 := Lib.hid hz2
    clear hi0 hz0 hz1 hz2
    have HS0 : Hid (SolidTexts (w.alloc (.cells #[] 9)) w.heap.size (.slice (some ⟨w.heap.size, 0, none⟩) 0 0) []) := ⟨OwnTexts.empty w (Nat.le_refl _), fun h => by cases h⟩
    have HB0 : Hid (Below w.heap.size w (w.alloc (.cells #[] 9))) := (Below.refl _ w).alloc (Nat.le_refl _) _
    go_enter Try.func123, Try.ntmps123
    go_wp2
    go_loopw [5, 11] (fun o i wr => ∃ (pre rest : Forest), i = .int .i64 pre.len ∧ Hid (SolidTexts wr w.heap.size o ((chainsB a pre).map strOf)) ∧ Hid (LeftS wr w.heap.size f A pre rest) ∧ Hid (Below w.heap.size w wr))
      (fun _ i _ => f.len - (intOf i).toNat)
    case atStart => exact ⟨.nil, f, rfl, HS0, HL0.out.below HB0.out, HB0.out⟩
    case round =>
      obtain ⟨pre, rest, rfl, HT, HL, HB⟩ := hrel
      clear HL0 HS0 HB0
      cases rest with
      | nil =>
        have HE := Lib.hid HL.out.done
        have hle : ¬ (pre.len < f.len) := by rw [HE.out]; omega
        go_wp2
        go_ret
        exact ⟨_, rfl, by rw [HE.out]; exact HT.out, HB.out⟩
      | cons c k r =>
        obtain ⟨hnext, hlt, hks, g, u, rfl, hg, c0, c1, hu⟩ := HL.out.take
        obtain ⟨g1, cap1, rfl⟩ := HT.out.form
        obtain ⟨A2, cap2, rfl, -⟩ := id hu
        have HU := Lib.hid hu
        have HNX := Lib.hid hnext
        have hz := HB.out.size
        have hpl := chainsB_len pre a
        have hkl := chainsB_len k (a ++ [c])
        have hps : pre.size + (k.size + r.size + 1) = f.size := by rw [HL.out.1, Forest.app_size]; rfl
        have htl : ((chainsB a pre).map strOf).length ≤ 1000 := by rw [List.length_map, hpl]; omega
        have hkm : ((chainsB (a ++ [c]) k).map strOf).length ≤ 1000 := by rw [List.length_map, hkl]; omega
        have hx : strOf a ++ ⟨#[c]⟩ = strOf (a ++ [c]) := bytes_cat a [c]
        have HX := Lib.hid hx
        have HLN : Hid ((pre.app (.cons c k .nil)).len = pre.len + 1) := by show _ = _; rw [Forest.app_len]; rfl
        have HCH : Hid ((chainsB a (pre.app (.cons c k .nil))).map strOf = (chainsB a pre).map strOf ++ [strOf (a ++ [c])] ++ (chainsB (a ++ [c]) k).map strOf) := by
          show _ = _
          rw [chainsB_app, chainsB_one, List.map_append, List.map_cons, List.append_assoc]
          rfl
        have HO1 := Lib.hid HT.out.1
        have HQ := Lib.hid (fun W h => IH.out k (a ++ [c]) (.slice A2 k.len cap2) W (by omega) (by simp; omega) h)
        clear hnext hu hpl hkl hx HT
        generalize (chainsB a pre).map strOf = ts at *
        generalize (chainsB (a ++ [c]) k).map strOf = ts2 at *
        have HB1 : Hid (Below w.heap.size w ((wr.alloc (.cells #[.string ⟨#[c]⟩, .slice A2 k.len cap2] 170)).alloc (.cells #[.string (strOf a ++ ⟨#[c]⟩)] 9))) := (HB.out.alloc hz _).alloc (by simp; omega) _
        have HT1 : Hid (OwnTexts ((wr.alloc (.cells #[.string ⟨#[c]⟩, .slice A2 k.len cap2] 170)).alloc (.cells #[.string (strOf a ++ ⟨#[c]⟩)] 9)) w.heap.size (.slice (some ⟨g1, 0, none⟩) ts.length cap1) ts) := (HO1.out.below ((Below.refl wr.heap.size wr).alloc (Nat.le_refl _) _)).below ((Below.refl _ _).alloc (Nat.le_refl _) _)
        have HR1 : Hid (Row ((wr.alloc (.cells #[.string ⟨#[c]⟩, .slice A2 k.len cap2] 170)).alloc (.cells #[.string (strOf a ++ ⟨#[c]⟩)] 9)) wr.heap.size 170 #[.string ⟨#[c]⟩, .slice A2 k.len cap2]) := (Row.new wr _ _).alloc _
        have HBW : Hid (Below wr.heap.size wr ((wr.alloc (.cells #[.string ⟨#[c]⟩, .slice A2 k.len cap2] 170)).alloc (.cells #[.string (strOf a ++ ⟨#[c]⟩)] 9))) := ((Below.refl _ wr).alloc (Nat.le_refl _) _).alloc (by simp) _
        have HZ1 : Hid (((wr.alloc (.cells #[.string ⟨#[c]⟩, .slice A2 k.len cap2] 170)).alloc (.cells #[.string (strOf a ++ ⟨#[c]⟩)] 9)).heap.size = wr.heap.size + 2) := by show _ = _; simp
        have hg1 : g1 < wr.heap.size := (World.ownsRow.lt HO1.out g1 rfl).2
        have hg1w : w.heap.size ≤ g1 := (World.ownsRow.lt HO1.out g1 rfl).1
        have HNW : Hid (∀ j u, [Value.string (strOf a ++ ⟨#[c]⟩)][j]? = some u → ((wr.alloc (.cells #[.string ⟨#[c]⟩, .slice A2 k.len cap2] 170)).alloc (.cells #[.string (strOf a ++ ⟨#[c]⟩)] 9)).cell? ((⟨wr.heap.size + 1, 0, none⟩ : Addr).add j) = some u) := by
          have := cell_one_new (wr.alloc (.cells #[.string ⟨#[c]⟩, .slice A2 k.len cap2] 170)) (.string (strOf a ++ ⟨#[c]⟩)) 9
          rw [World.size_alloc] at this
          exact this
        clear HO1
        go_wp2_with (at_builtin; refine wpList_append_own_at _ rfl _ _ 40 rfl w.heap.size 9 i0 (.string ByteArray.empty) 1 16 Try.underlying40 I0.out Z0.out Z1.out Z2.out rfl (by decide) _ _ _ rfl HT1.out ⟨wr.heap.size + 1, 0, none⟩ 1 1 [.string (strOf a ++ ⟨#[c]⟩)] rfl rfl HNW.out (by simp [Value.oneCell']) (by unfold maxLen; omega) (by omega) (by have := HZ1.out; omega) ?_; intro v5 w5 hown5 hgrow5' _ _; have hgrow5 : World.grownBy _ w5 (some g1) := hgrow5'; clear hgrow5'; obtain ⟨g5, cap5, rfl⟩ := own_form hown5 (by omega); have H5 := Lib.hid hown5; have hr5 : Row w5 wr.heap.size 170 #[.string ⟨#[c]⟩, .slice A2 k.len cap2] := (hgrow5.block _ HR1.out.lt (fun e => by injection e with e; omega)).trans HR1.out; have HG5 := Lib.hid hgrow5; have d0 := hr5.cell 0; have d1 := hr5.cell 1; simp at d0 d1; clear hown5 hgrow5)
        have hzz := HZ1.out
        have HB5 : Hid (Below w.heap.size w w5) := HB1.out.grown HG5.out (by omega) (fun q hq => by injection hq with hq; omega)
        have HW5 : Hid (Below w.heap.size wr w5) := (HBW.out.mono hz).grown HG5.out (by omega) (fun q hq => by injection hq with hq; omega)
        rw [HX.out] at H5 ⊢
        have HL5 := Lib.hid (HNX.out.below HW5.out)
        have HU5 : Hid (IsKids w5 (· < w5.heap.size) k (.slice A2 k.len cap2)) := (HU.out.below HW5.out).up HB5.out.size
        clear HT1 HR1 HB1 HBW HG5 HNX HU HW5 hzz HZ1 HNW hr5
        refine (HQ.out w5 HU5.out).mono ?_
        rintro e w6 ⟨v6, rfl, ⟨ho6, hn6⟩, hb6⟩
        obtain ⟨g6, cap6, rfl⟩ := SolidTexts.form ⟨ho6, hn6⟩
        have HO6 := Lib.hid ho6
        have HB6 : Hid (Below w.heap.size w w6) := HB5.out.trans (hb6.mono HB5.out.size)
        have HL6 := Lib.hid (HL5.out.below (hb6.mono HB5.out.size))
        have HT6 : Hid (w6.ownsRow w.heap.size 9 1 (.slice (some ⟨g5, 0, none⟩) (ts.length + 1) cap5) (ts.length + 1) (ts.map Value.string ++ [.string (strOf (a ++ [c]))])) := own_keep H5.out fun g hg => hb6.block g (H5.out.lt g hg).2
        have HNW6 : Hid (∀ j u, (ts2.map Value.string)[j]? = some u → w6.cell? ((⟨g6, 0, none⟩ : Addr).add j) = some u) := fun j u hj => by
          rw [List.getElem?_map, Option.map_eq_some_iff] at hj
          obtain ⟨s, hs, rfl⟩ := hj
          have := St.textsCell HO6.out hs
          rw [WideShapes.add_plain]
          rwa [Nat.zero_add]
        have hg5 : w.heap.size ≤ g5 := (H5.out.lt g5 rfl).1
        clear ho6 hn6 hb6 H5 HB5 HL5 HU5 HQ d0 d1
        go_wp2_with (at_builtin; refine wpList_append_own_at _ rfl _ _ 40 rfl w.heap.size 9 i0 (.string ByteArray.empty) 1 16 Try.underlying40 I0.out Z0.out Z1.out Z2.out rfl (by decide) _ _ _ rfl HT6.out ⟨g6, 0, none⟩ ts2.length cap6 (ts2.map Value.string) rfl (by simp) HNW6.out (by simp [Value.oneCell']) (by unfold maxLen; omega) (by omega) HB6.out.size ?_; intro v7 w7 hown7 hgrow7' hnil7 _; have hgrow7 : World.grownBy _ w7 (some g5) := hgrow7'; clear hgrow7'; have H7 := Lib.hid hown7; have HG7 := Lib.hid hgrow7; have HN7 := Lib.hid hnil7; clear hown7 hgrow7 hnil7)
        have HB7 : Hid (Below w.heap.size w w7) := HB6.out.grown HG7.out HB6.out.size (fun q hq => by injection hq with hq; omega)
        have HL7 : Hid (LeftS w7 w.heap.size f (some ⟨g, 0, none⟩) (pre.app (.cons c k .nil)) r) := HL6.out.below ((Below.refl _ w6).grown HG7.out HB6.out.size (fun q hq => by injection hq with hq; omega))
        have HT7 : Hid (SolidTexts w7 w.heap.size v7 ((chainsB a (pre.app (.cons c k .nil))).map strOf)) := by
          refine ⟨?_, fun h => by have := (HN7.out.1 h).1; cases this⟩
          unfold OwnTexts
          rw [HCH.out, List.length_append, List.length_append, List.map_append, List.map_append]
          exact H7.out
        clear HT6 HO6 HNW6 HB6 HL6 HG7 H7 HN7
        go_roundw
        case rel => exact ⟨_, r, by rw [HLN.out]; go_num, HT7, HL7, HB7⟩
        case measure => simp [intOf]; omega

end Go.Proofs.Ytfhdbbdehploeaa
