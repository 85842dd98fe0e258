/- Joined: Fp Fq Fr Fs Ti Gy Sb Fn Va. -/
import Derived.Test.YteokbgfiokbojaaGreatU11
import Derived.Maps.AppendAt
import Derived.Deep.AppendLies
import Derived.BigQuiet
import Derived.WalkLawsBesides
import Derived.Test.YteokbgfiokbojaaGreatU08
import Derived.Test.YteokbgfiokbojaaGreatSh
import Derived.Lib.OthersKept
import Derived.RangeFuncNested
import Derived.RangeFuncBound
import Derived.RangeFuncCalls
import Derived.RangeFuncLeaves
import Derived.RangeFuncBox
import Derived.Shelf.Abstract
import Derived.Shelf.RegionOpen
import Derived.OwnWalkIn
import Derived.TacticsInMore
import Derived.LoopNIn
import Derived.LoopIn
import Derived.Test.YteokbgfiokbojaaGreatU07
/- The reference's chains, texts and calls that are left. -/
namespace Go.Proofs.YteokbgfiokbojaaGreat
open Go.RowKit

/-- A row of texts that is no nil. -/
def SolidTexts (w : World) (B : Nat) (v : Value) (ts : List ByteArray) : Prop := OwnTexts w B v ts ∧ v ≠ .slice none 0 0
theorem SolidTexts.form {w : World} {B : Nat} {v : Value} {ts : List ByteArray} (h : SolidTexts w B v ts) : ∃ g cap, v = .slice (some ⟨g, 0, none⟩) ts.length cap := by
  rcases h.1.2 with ⟨h0, _⟩ | ⟨g, cap, cur, e, _⟩
  · exact absurd h0 h.2
  · exact ⟨g, cap, e⟩
def ChainsPost (w : World) (L : List ByteArray) (e : Ending) (w' : World) : Prop := ∃ v, e = .returned v ∧ SolidTexts w' w.heap.size v L ∧ Below w.heap.size w w'

set_option maxRecDepth 100000 in
set_option maxHeartbeats 2000000 in
theorem l4Chains_any : ∀ (n : Nat) (f : Forest) (a : List UInt8) (v : Value) (w : World), f.size < n → f.size + a.length ≤ 1000 → IsKids w (· < w.heap.size) f v →
    Calls Tryz.prog 44 #[.string (strOf a), v] w (ChainsPost w ((chainsB a f).map strOf)) := by
  intro n
  induction n with
  | zero => intro f a v w h; omega
  | succ n ih =>
    intro f a v w hn h80 hk
    obtain ⟨A, cap, rfl, hcs⟩ := hk.nil_or
    have IH := Lib.hid ih
    have HL0 : Hid (LeftS w w.heap.size f A .nil f) := LeftS.start hcs
    have hfl : f.len ≤ 1000 := by have := f.len_size; omega
    have hal : (strOf a).size ≤ 1000 := by unfold strOf; rw [bytes_size]; omega
    clear ih hk hcs
    obtain ⟨i0, hi0, hz0, hz1, hz2⟩ := info_parts info_str
    have I0 := Lib.hid hi0
    have Z0 := Lib.hid hz0
    have Z1 := Lib.hid hz1
    have Z2 := Lib.hid hz2
    clear hi0 hz0 hz1 hz2
    have HS0 : Hid (SolidTexts (w.alloc (.cells #[] 9)) w.heap.size (.slice (some ⟨w.heap.size, 0, none⟩) 0 0) []) := ⟨OwnTexts.empty w (Nat.le_refl _), fun h => by cases h⟩
    have HB0 : Hid (Below w.heap.size w (w.alloc (.cells #[] 9))) := (Below.refl _ w).alloc (Nat.le_refl _) _
    go_enter Tryz.func44, Tryz.ntmps44
    go_wp2
    go_loopw [5, 11] (fun o i wr => ∃ (pre rest : Forest), i = .int .i64 pre.len ∧ Hid (SolidTexts wr w.heap.size o ((chainsB a pre).map strOf)) ∧ Hid (LeftS wr w.heap.size f A pre rest) ∧ Hid (Below w.heap.size w wr))
      (fun _ i _ => f.len - (intOf i).toNat)
    case atStart => exact ⟨.nil, f, rfl, HS0, HL0.out.below HB0.out, HB0.out⟩
    case round =>
      obtain ⟨pre, rest, rfl, HT, HL, HB⟩ := hrel
      clear HL0 HS0 HB0
      cases rest with
      | nil =>
        have HE := Lib.hid HL.out.done
        have hle : ¬ (pre.len < f.len) := by rw [HE.out]; omega
        go_wp2
        go_ret
        exact ⟨_, rfl, by rw [HE.out]; exact HT.out, HB.out⟩
      | cons c k r =>
        obtain ⟨hnext, hlt, hks, g, u, rfl, hg, c0, c1, hu⟩ := HL.out.take
        obtain ⟨g1, cap1, rfl⟩ := HT.out.form
        obtain ⟨A2, cap2, rfl, -⟩ := id hu
        have HU := Lib.hid hu
        have HNX := Lib.hid hnext
        have hz := HB.out.size
        have hpl := chainsB_len pre a
        have hkl := chainsB_len k (a ++ [c])
        have hps : pre.size + (k.size + r.size + 1) = f.size := by rw [HL.out.1, Forest.app_size]; rfl
        have htl : ((chainsB a pre).map strOf).length ≤ 1000 := by rw [List.length_map, hpl]; omega
        have hkm : ((chainsB (a ++ [c]) k).map strOf).length ≤ 1000 := by rw [List.length_map, hkl]; omega
        have hx : strOf a ++ ⟨#[c]⟩ = strOf (a ++ [c]) := bytes_cat a [c]
        have HX := Lib.hid hx
        have HLN : Hid ((pre.app (.cons c k .nil)).len = pre.len + 1) := by show _ = _; rw [Forest.app_len]; rfl
        have HCH : Hid ((chainsB a (pre.app (.cons c k .nil))).map strOf = (chainsB a pre).map strOf ++ [strOf (a ++ [c])] ++ (chainsB (a ++ [c]) k).map strOf) := by
          show _ = _
          rw [chainsB_app, chainsB_one, List.map_append, List.map_cons, List.append_assoc]
          rfl
        have HO1 := Lib.hid HT.out.1
        have HQ := Lib.hid (fun W h => IH.out k (a ++ [c]) (.slice A2 k.len cap2) W (by omega) (by simp; omega) h)
        clear hnext hu hpl hkl hx HT
        generalize (chainsB a pre).map strOf = ts at *
        generalize (chainsB (a ++ [c]) k).map strOf = ts2 at *
        have HB1 : Hid (Below w.heap.size w ((wr.alloc (.cells #[.string ⟨#[c]⟩, .slice A2 k.len cap2] 132)).alloc (.cells #[.string (strOf a ++ ⟨#[c]⟩)] 9))) := (HB.out.alloc hz _).alloc (by simp; omega) _
        have HT1 : Hid (OwnTexts ((wr.alloc (.cells #[.string ⟨#[c]⟩, .slice A2 k.len cap2] 132)).alloc (.cells #[.string (strOf a ++ ⟨#[c]⟩)] 9)) w.heap.size (.slice (some ⟨g1, 0, none⟩) ts.length cap1) ts) := (HO1.out.below ((Below.refl wr.heap.size wr).alloc (Nat.le_refl _) _)).below ((Below.refl _ _).alloc (Nat.le_refl _) _)
        have HR1 : Hid (Row ((wr.alloc (.cells #[.string ⟨#[c]⟩, .slice A2 k.len cap2] 132)).alloc (.cells #[.string (strOf a ++ ⟨#[c]⟩)] 9)) wr.heap.size 132 #[.string ⟨#[c]⟩, .slice A2 k.len cap2]) := (Row.new wr _ _).alloc _
        have HBW : Hid (Below wr.heap.size wr ((wr.alloc (.cells #[.string ⟨#[c]⟩, .slice A2 k.len cap2] 132)).alloc (.cells #[.string (strOf a ++ ⟨#[c]⟩)] 9))) := ((Below.refl _ wr).alloc (Nat.le_refl _) _).alloc (by simp) _
        have HZ1 : Hid (((wr.alloc (.cells #[.string ⟨#[c]⟩, .slice A2 k.len cap2] 132)).alloc (.cells #[.string (strOf a ++ ⟨#[c]⟩)] 9)).heap.size = wr.heap.size + 2) := by show _ = _; simp
        have hg1 : g1 < wr.heap.size := (World.ownsRow.lt HO1.out g1 rfl).2
        have hg1w : w.heap.size ≤ g1 := (World.ownsRow.lt HO1.out g1 rfl).1
        have HNW : Hid (∀ j u, [Value.string (strOf a ++ ⟨#[c]⟩)][j]? = some u → ((wr.alloc (.cells #[.string ⟨#[c]⟩, .slice A2 k.len cap2] 132)).alloc (.cells #[.string (strOf a ++ ⟨#[c]⟩)] 9)).cell? ((⟨wr.heap.size + 1, 0, none⟩ : Addr).add j) = some u) := by
          have := cell_one_new (wr.alloc (.cells #[.string ⟨#[c]⟩, .slice A2 k.len cap2] 132)) (.string (strOf a ++ ⟨#[c]⟩)) 9
          rw [World.size_alloc] at this
          exact this
        clear HO1
        go_wp2_with (at_builtin; refine wpList_append_own_at _ rfl _ _ 27 rfl w.heap.size 9 i0 (.string ByteArray.empty) 1 16 Tryz.underlying27 I0.out Z0.out Z1.out Z2.out rfl (by decide) _ _ _ rfl HT1.out ⟨wr.heap.size + 1, 0, none⟩ 1 1 [.string (strOf a ++ ⟨#[c]⟩)] rfl rfl HNW.out (by simp [Value.oneCell']) (by unfold maxLen; omega) (by omega) (by have := HZ1.out; omega) ?_; intro v5 w5 hown5 hgrow5' _ _; have hgrow5 : World.grownBy _ w5 (some g1) := hgrow5'; clear hgrow5'; obtain ⟨g5, cap5, rfl⟩ := own_form hown5 (by omega); have H5 := Lib.hid hown5; have hr5 : Row w5 wr.heap.size 132 #[.string ⟨#[c]⟩, .slice A2 k.len cap2] := (hgrow5.block _ HR1.out.lt (fun e => by injection e with e; omega)).trans HR1.out; have HG5 := Lib.hid hgrow5; have d0 := hr5.cell 0; have d1 := hr5.cell 1; simp at d0 d1; clear hown5 hgrow5)
        have hzz := HZ1.out
        have HB5 : Hid (Below w.heap.size w w5) := HB1.out.grown HG5.out (by omega) (fun q hq => by injection hq with hq; omega)
        have HW5 : Hid (Below w.heap.size wr w5) := (HBW.out.mono hz).grown HG5.out (by omega) (fun q hq => by injection hq with hq; omega)
        rw [HX.out] at H5 ⊢
        have HL5 := Lib.hid (HNX.out.below HW5.out)
        have HU5 : Hid (IsKids w5 (· < w5.heap.size) k (.slice A2 k.len cap2)) := (HU.out.below HW5.out).up HB5.out.size
        clear HT1 HR1 HB1 HBW HG5 HNX HU HW5 hzz HZ1 HNW hr5
        refine (HQ.out w5 HU5.out).mono ?_
        rintro e w6 ⟨v6, rfl, ⟨ho6, hn6⟩, hb6⟩
        obtain ⟨g6, cap6, rfl⟩ := SolidTexts.form ⟨ho6, hn6⟩
        have HO6 := Lib.hid ho6
        have HB6 : Hid (Below w.heap.size w w6) := HB5.out.trans (hb6.mono HB5.out.size)
        have HL6 := Lib.hid (HL5.out.below (hb6.mono HB5.out.size))
        have HT6 : Hid (w6.ownsRow w.heap.size 9 1 (.slice (some ⟨g5, 0, none⟩) (ts.length + 1) cap5) (ts.length + 1) (ts.map Value.string ++ [.string (strOf (a ++ [c]))])) := own_keep H5.out fun g hg => hb6.block g (H5.out.lt g hg).2
        have HNW6 : Hid (∀ j u, (ts2.map Value.string)[j]? = some u → w6.cell? ((⟨g6, 0, none⟩ : Addr).add j) = some u) := fun j u hj => by
          rw [List.getElem?_map, Option.map_eq_some_iff] at hj
          obtain ⟨s, hs, rfl⟩ := hj
          have := St.textsCell HO6.out hs
          rw [WideShapes.add_plain]
          rwa [Nat.zero_add]
        have hg5 : w.heap.size ≤ g5 := (H5.out.lt g5 rfl).1
        clear ho6 hn6 hb6 H5 HB5 HL5 HU5 HQ d0 d1
        go_wp2_with (at_builtin; refine wpList_append_own_at _ rfl _ _ 27 rfl w.heap.size 9 i0 (.string ByteArray.empty) 1 16 Tryz.underlying27 I0.out Z0.out Z1.out Z2.out rfl (by decide) _ _ _ rfl HT6.out ⟨g6, 0, none⟩ ts2.length cap6 (ts2.map Value.string) rfl (by simp) HNW6.out (by simp [Value.oneCell']) (by unfold maxLen; omega) (by omega) HB6.out.size ?_; intro v7 w7 hown7 hgrow7' hnil7 _; have hgrow7 : World.grownBy _ w7 (some g5) := hgrow7'; clear hgrow7'; have H7 := Lib.hid hown7; have HG7 := Lib.hid hgrow7; have HN7 := Lib.hid hnil7; clear hown7 hgrow7 hnil7)
        have HB7 : Hid (Below w.heap.size w w7) := HB6.out.grown HG7.out HB6.out.size (fun q hq => by injection hq with hq; omega)
        have HL7 : Hid (LeftS w7 w.heap.size f (some ⟨g, 0, none⟩) (pre.app (.cons c k .nil)) r) := HL6.out.below ((Below.refl _ w6).grown HG7.out HB6.out.size (fun q hq => by injection hq with hq; omega))
        have HT7 : Hid (SolidTexts w7 w.heap.size v7 ((chainsB a (pre.app (.cons c k .nil))).map strOf)) := by
          refine ⟨?_, fun h => by have := (HN7.out.1 h).1; cases this⟩
          unfold OwnTexts
          rw [HCH.out, List.length_append, List.length_append, List.map_append, List.map_append]
          exact H7.out
        clear HT6 HO6 HNW6 HB6 HL6 HG7 H7 HN7
        go_roundw
        case rel => exact ⟨_, r, by rw [HLN.out]; go_num, HT7, HL7, HB7⟩
        case measure => simp [intOf]; omega

end Go.Proofs.YteokbgfiokbojaaGreat
/- The reference's texts of calls. -/
namespace Go.Proofs.YteokbgfiokbojaaGreat
open Go.RowKit

theorem str_size (x : List UInt8) : (strOf x).size = x.length := bytes_size x
end Go.Proofs.YteokbgfiokbojaaGreat
/- The reference's calls that are left. -/
namespace Go.Proofs.YteokbgfiokbojaaGreat
open Go.RowKit

/-- A slice of the reference's calls that is no nil. -/
def SolidS (w : World) (B : Nat) (v : Value) (f : Forest) : Prop := OwnS w B v f ∧ v ≠ .slice none 0 0
theorem SolidS.form {w : World} {B : Nat} {v : Value} {f : Forest} (h : SolidS w B v f) : ∃ g cap, v = .slice (some ⟨g, 0, none⟩) f.len cap := by
  obtain ⟨⟨xs, hown, _⟩, hn⟩ := h
  rcases hown.2 with ⟨h0, _⟩ | ⟨g, cap, cur, e, _⟩
  · exact absurd h0 hn
  · exact ⟨g, cap, e⟩
theorem SolidS.below {w w' : World} {B : Nat} {v : Value} {f : Forest} (h : SolidS w B v f) (hb : Below w.heap.size w w') : SolidS w' B v f :=
  ⟨h.1.far hb.size fun q _ h2 => hb.block q h2, h.2⟩
/-- What holds in a round while one call is put behind those that are left. -/
structure LessHeld (w : World) (X : Nat) (c : UInt8) (kv v : Value) (F f pre k r : Forest) (A : Option Addr) (w' : World) : Prop where
  box : Row w' X 132 #[.string ⟨#[c]⟩, kv]
  own : SolidS w' w.heap.size v F
  left : LeftS w' w.heap.size f A (pre.app (.cons c k .nil)) r
  kids : IsKids w' (· < w.heap.size) k kv
  below : Below w.heap.size w w'
theorem LessHeld.later {w : World} {X : Nat} {c : UInt8} {kv v : Value} {F f pre k r : Forest} {A : Option Addr} {w1 w2 : World} (h : LessHeld w X c kv v F f pre k r A w1) (hb : Below w1.heap.size w1 w2) : LessHeld w X c kv v F f pre k r A w2 :=
  ⟨h.box.below hb h.box.lt, h.own.below hb, h.left.below (hb.mono h.below.size), h.kids.below (hb.mono h.below.size), h.below.trans (hb.mono h.below.size)⟩

end Go.Proofs.YteokbgfiokbojaaGreat
/- The reference's NeedsOf, ChainsOf, CountCalls, DepthOf. -/
namespace Go.Proofs.YteokbgfiokbojaaGreat
open Go.RowKit

theorem own_low {w : World} {B B' : Nat} {e : TypeId} {size : Nat} {v : Value} {n : Nat} {xs : List Value} (h : w.ownsRow B e size v n xs) (hB : B' ≤ B) : w.ownsRow B' e size v n xs := by
  refine ⟨h.1, ?_⟩
  rcases h.2 with h0 | ⟨g, cap, cur, e1, hg, r⟩
  · exact .inl h0
  · exact .inr ⟨g, cap, cur, e1, by omega, r⟩
/-- The chains of a trace. -/
def chainsRes (l : List Seg) (t : ByteArray) : List ByteArray := match traceB l t.data.toList with
  | none => []
  | some f => (chainsB [rootB l] f).map strOf
def ChainsResPost (w : World) (l : List Seg) (t : ByteArray) (e : Ending) (w' : World) : Prop :=
  ∃ v, e = .returned (.tuple #[v, .bool (traceB l t.data.toList).isSome]) ∧ OwnTexts w' w.heap.size v (chainsRes l t) ∧ Below w.heap.size w w'

set_option maxRecDepth 100000 in
set_option maxHeartbeats 1000000 in
theorem specChainsOf_any (A : Option Addr) (l : List Seg) (c : Nat) (t : ByteArray) (w : World) (hw : Segs w w.heap.size A l) (hl : l.length ≤ 1048576) (hn : Short l) (ht : t.size ≤ 1048576) :
    Calls Tryz.prog 20 #[.slice A l.length c, .string t] w (ChainsResPost w l t) := by
  have HQ := Lib.hid (l4Read_any A l c t w hw hl hn ht)
  have HW : Hid (Segs w w.heap.size A l) := hw
  unfold ChainsResPost chainsRes
  cases hR : traceB l t.data.toList with
  | none =>
    rw [hR] at HQ
    have HE : Hid (∀ W : World, Below w.heap.size w W → ∃ v, Ending.returned (.tuple #[.slice (some ⟨W.heap.size, 0, none⟩) 0 0, .bool false]) = .returned (.tuple #[v, .bool (none : Option Forest).isSome]) ∧ OwnTexts (W.alloc (.cells #[] 9)) w.heap.size v [] ∧ Below w.heap.size w (W.alloc (.cells #[] 9))) :=
      fun W hb => ⟨_, rfl, OwnTexts.empty W hb.size, hb.alloc hb.size _⟩
    clear hw hn hR
    go_enter Tryz.func20, Tryz.ntmps20
    go_wp2_with fail
    refine Calls.mono HQ.out ?_
    rintro e w2 ⟨v, rfl, -, hb⟩
    go_wp2
    go_ret2
    exact HE.out _ hb
  | some f =>
    obtain ⟨hv, h80, hcl⟩ := traceB_some hR
    have hsz := (traceB_size hR).1
    have HV := Lib.hid hv
    have hl1 := (valid_all hv).2.2
    rw [hR] at HQ
    have HE : Hid (∀ (v : Value) (W : World), SolidTexts W w.heap.size v ((chainsB [rootB l] f).map strOf) → Below w.heap.size w W → ∃ u, Ending.returned (.tuple #[v, .bool true]) = .returned (.tuple #[u, .bool (some f).isSome]) ∧ OwnTexts W w.heap.size u ((chainsB [rootB l] f).map strOf) ∧ Below w.heap.size w W) :=
      fun v W h hb => ⟨v, rfl, h.1, hb⟩
    clear hw hn hR h80 hcl hv
    go_enter Tryz.func20, Tryz.ntmps20
    go_wp2_with fail
    refine Calls.mono HQ.out ?_
    rintro e w2 ⟨v, rfl, (⟨f', hf', hsl⟩ | ⟨h0, -⟩), hb⟩
    · obtain rfl : f = f' := by injection hf'
      have HSL : Hid (IsKids w2 (· < w2.heap.size) f v) := hsl.keep fun q hq => ⟨hq.2, rfl⟩
      have HB := Lib.hid hb
      obtain ⟨b0, o0, rfl, hB0, c0⟩ := (HW.out.below hb).root HV.out
      clear hsl hb hf' HQ
      go_wp2_with fail
      refine (l4Chains_any (f.size + 1) f [rootB l] v w2 (by omega) (by simp; omega) HSL.out).mono ?_
      rintro e w3 ⟨v3, rfl, hs3, hb3⟩
      have HB3 := Lib.hid (HB.out.trans (hb3.mono HB.out.size))
      have HS3 : Hid (SolidTexts w3 w.heap.size v3 ((chainsB [rootB l] f).map strOf)) := ⟨own_low hs3.1 HB.out.size, hs3.2⟩
      clear hb3 hs3
      go_wp2
      go_ret2
      exact HE.out _ _ HS3.out HB3.out
    · cases h0

theorem chainsRes_len {l : List Seg} {t : ByteArray} {f : Forest} (h : traceB l t.data.toList = some f) : (chainsRes l t).length = f.size := by
  unfold chainsRes
  rw [h]
  show ((chainsB [rootB l] f).map strOf).length = _
  rw [List.length_map, chainsB_len]

end Go.Proofs.YteokbgfiokbojaaGreat
/- A row of numbers of the call's own; marks in numbers: what a law writes into what it was given, and whether it is held. -/
namespace Go.Proofs.YteokbgfiokbojaaGreat.Si
open Go.RowKit

/-- Numbers in a row of the call's own. -/
def OwnInts (w : World) (B : Nat) (v : Value) (ts : List Int) : Prop := w.ownsRow B 3 1 v ts.length (ts.map (Value.int .i64))
theorem OwnInts.far {w w' : World} {B : Nat} {v : Value} {ts : List Int} (h : OwnInts w B v ts) (hk : ∀ g, v.ownBlock = some g → w'.heap[g]? = w.heap[g]?) : OwnInts w' B v ts := by
  refine ⟨h.1, ?_⟩
  rcases h.2 with h0 | ⟨g', cap, cur, rfl, hg, hh, r⟩
  · exact .inl h0
  · exact .inr ⟨g', cap, cur, rfl, hg, (hk g' rfl).trans hh, r⟩
theorem OwnInts.below {w w' : World} {B : Nat} {v : Value} {ts : List Int} (h : OwnInts w B v ts) (hb : Below w.heap.size w w') : OwnInts w' B v ts := h.far fun g hg => hb.block g (World.ownsRow.lt h g hg).2
theorem OwnInts.empty (w : World) {B : Nat} (hB : B ≤ w.heap.size) : OwnInts (w.alloc (.cells #[] 3)) B (.slice (some ⟨w.heap.size, 0, none⟩) 0 0) [] :=
  World.ownsRow_lit w #[] 0 hB (by simp [maxLen]) rfl
/-- A slice of numbers in memory below 'B'. -/
def Ints (w : World) (B : Nat) (A : Option Addr) (ts : List Int) : Prop :=
  0 < ts.length → ∃ b o, A = some ⟨b, o, none⟩ ∧ b < B ∧ ∀ (k : Nat) (s : Int), ts[k]? = some s → w.cell? ⟨b, o + k, none⟩ = some (.int .i64 s)
theorem Ints.below {w w' : World} {B : Nat} {A : Option Addr} {l : List Int} (h : Ints w B A l) (hb : Below B w w') : Ints w' B A l := fun hl => by
  obtain ⟨b, o, e, hB, hc⟩ := h hl
  refine ⟨b, o, e, hB, fun k s hk => ?_⟩
  rw [hb.cell hB]
  exact hc k s hk
theorem Ints.more {w : World} {B B' : Nat} {A : Option Addr} {l : List Int} (h : Ints w B A l) (hB : B ≤ B') : Ints w B' A l := fun hl => by
  obtain ⟨b, o, e, hb, hc⟩ := h hl
  exact ⟨b, o, e, Nat.lt_of_lt_of_le hb hB, hc⟩
end Go.Proofs.YteokbgfiokbojaaGreat.Si

namespace Go.Proofs.YteokbgfiokbojaaGreat
open Go.RowKit

end Go.Proofs.YteokbgfiokbojaaGreat
/- How often each segment is called: plain, and the reference's. -/
namespace Go.Proofs.YteokbgfiokbojaaGreat
open Go.RowKit

def lastB (x : List UInt8) : UInt8 := x.getLastD 0
theorem str_last (p : List UInt8) (d : UInt8) : (strOf (p ++ [d])).extract ((strOf (p ++ [d])).size - 1) (strOf (p ++ [d])).size = ⟨#[d]⟩ := by
  have hs : (strOf (p ++ [d])).size = p.length + 1 := by rw [str_size]; simp
  rw [hs]
  apply ByteArray.ext
  rw [ByteArray.data_extract]
  apply Array.ext'
  simp [strOf]
theorem lastB_snoc (y : List UInt8) (c : UInt8) : lastB (y ++ [c]) = c := by simp [lastB]
theorem callP_index {l : List Seg} {c : UInt8} (h : callP l c = true) : ∃ j : Nat, indexB l ⟨#[c]⟩ = (j : Int) ∧ j < l.length := by
  have h0 : 0 ≤ indexB l ⟨#[c]⟩ := of_decide_eq_true h
  obtain ⟨j, hj⟩ := Int.eq_ofNat_of_zero_le h0
  rcases indexB_bd l ⟨#[c]⟩ with hi | ⟨_, hi⟩
  · omega
  · exact ⟨j, hj, by omega⟩

end Go.Proofs.YteokbgfiokbojaaGreat
/- strings.Builder: what its two writing helpers do here. -/
namespace Go.Proofs.YteokbgfiokbojaaGreat
open Go.RowKit

theorem bsize : (Tryz.prog.info? 48).map (·.size) = some 2 := by kernel_rfl
theorem info_byte : (Tryz.prog.info? 5).map (fun i => (i.zero, i.size, i.bytes)) = some (some (.int .u8 0), 1, 1) := by kernel_rfl

set_option maxRecDepth 100000 in
set_option maxHeartbeats 1000000 in
theorem copyCheck_used (b : Nat) (w : World) (h0 : w.cell? ⟨b, 0, none⟩ = some (.pointer (some ⟨b, 0, none⟩))) :
    Calls Tryz.prog 48 #[.pointer (some ⟨b, 0, none⟩)] w fun e w' => e = .returned (.tuple #[]) ∧ w = w' := by
  obtain ⟨j, hj, _⟩ := Option.map_eq_some_iff.1 bsize
  have HJ := Lib.hid hj
  clear hj
  go_enter Tryz.func48, Tryz.ntmps48
  go_wp2
  rw [Lib.run_neq_ptr_same w _ Tryz.underlying46 HJ.out]
  go_wp2
  go_end0
  exact ⟨rfl, rfl⟩

set_option maxRecDepth 100000 in
set_option maxHeartbeats 1000000 in
theorem copyCheck_fresh (b : Nat) (w : World) (h0 : w.cell? ⟨b, 0, none⟩ = some (.pointer none)) (hsh : w.shape? b = some (48, 2)) (hfz : w.frozen? ⟨b, 0, none⟩ = false) :
    Calls Tryz.prog 48 #[.pointer (some ⟨b, 0, none⟩)] w fun e w' => e = .returned (.tuple #[]) ∧ w' = w.setCell ⟨b, 0, none⟩ (.pointer (some ⟨b, 0, none⟩)) := by
  obtain ⟨j, hj, hjs⟩ := Option.map_eq_some_iff.1 bsize
  have HJ := Lib.hid hj
  have HS := Lib.hid hjs
  have HSH := Lib.hid hsh
  clear hj hjs hsh
  go_enter Tryz.func48, Tryz.ntmps48
  go_wp2
  rw [Lib.run_to_unsafe w ⟨b, 0, none⟩ Tryz.underlying46 Tryz.underlying148 HJ.out (by rw [HS.out]; decide) HSH.out (Nat.zero_lt_succ 1)]
  simp only [Result.andThen]
  rw [Oper.upon_value]
  go_wp2
  rw [run_callFunc_extern Tryz.func92 (by kernel_rfl) (by kernel_rfl) (by kernel_rfl) (e := Extern.AbiNoEscape.same) (by kernel_rfl)]
  rw [Lib.run_noEscape]
  simp only [Result.andThen]
  rw [Oper.upon_value]
  go_wp2
  rw [Lib.run_from_unsafe w ⟨b, 0, none⟩ Tryz.underlying148 Tryz.underlying46 HJ.out HSH.out (by kernel_rfl)]
  simp only [Result.andThen]
  rw [Oper.upon_value]
  go_wp2
  go_end0
  exact ⟨rfl, rfl⟩

/-- What a builder holds, and which blocks a writing call may turn. -/
def Wrote (w : World) (B b : Nat) (bs : List Value) (n : Nat) (e : Ending) (w' : World) : Prop :=
  e = .returned (.tuple #[.int .i64 n, .nilIface]) ∧ Lib.IsBuilderF 48 5 B b bs w' ∧ Below B w w' ∧ Lib.OthersKept 5 (some b) w w'

set_option maxRecDepth 100000 in
theorem copyCheck_any (B b : Nat) (bs : List Value) (w : World) (h : Lib.IsBuilderF 48 5 B b bs w) :
    Calls Tryz.prog 48 #[.pointer (some ⟨b, 0, none⟩)] w fun e w' => e = .returned (.tuple #[]) ∧ (Lib.BuilderAtF 48 5 B b (.pointer (some ⟨b, 0, none⟩)) bs w' ∧ Below B w w' ∧ Lib.OthersKept 5 (some b) w w') := by
  rcases h with h | h
  · refine (copyCheck_fresh b w h.cell0 h.shape h.frozen0).mono ?_
    rintro e w' ⟨rfl, rfl⟩
    exact ⟨rfl, h.used _, (Below.refl B w).setCell (p := ⟨b, 0, none⟩) h.1 _, (Lib.OthersKept.refl _ _ w).setCell ⟨b, 0, none⟩ rfl _⟩
  · refine (copyCheck_used b w h.cell0).mono ?_
    rintro e w' ⟨rfl, rfl⟩
    exact ⟨rfl, h, Below.refl B _, Lib.OthersKept.refl _ _ _⟩

set_option maxRecDepth 100000 in
set_option maxHeartbeats 1000000 in
theorem writeString_any (B b : Nat) (bs : List Value) (s : ByteArray) (w : World) (h : Lib.IsBuilderF 48 5 B b bs w) (hlen : bs.length + s.size ≤ 140737488355328) (hBw : B ≤ w.heap.size) :
    Calls Tryz.prog 24 #[.pointer (some ⟨b, 0, none⟩), .string s] w (Wrote w B b (bs ++ Lib.strCells s) s.size) := by
  obtain ⟨i0, hi, hz0, hz1, hz2⟩ := info_parts info_byte
  have I0 := Lib.hid hi
  have Z0 := Lib.hid hz0
  have Z1 := Lib.hid hz1
  have Z2 := Lib.hid hz2
  clear hi hz0 hz1 hz2
  go_enter Tryz.func24, Tryz.ntmps24
  go_wp2_with fail
  refine (copyCheck_any B b bs _ h).mono ?_
  rintro e w1 ⟨rfl, h1, hb1, hk1⟩
  obtain ⟨hB, v, hbk, hown, hne⟩ := h1
  have c0 : w1.cell? ⟨b, 0, none⟩ = some (.pointer (some ⟨b, 0, none⟩)) := by rw [Lib.cell_of_heap hbk]; rfl
  have c1 : w1.cell? ⟨b, 1, none⟩ = some v := by rw [Lib.cell_of_heap hbk]; rfl
  go_wp2_with (at_builtin; go_must (refine Lib.wpList_append_own_stringF _ rfl _ _ 22 9 rfl B 5 i0 Tryz.underlying22 Tryz.underlying9 I0.out Z0.out Z1.out Z2.out _ _ _ rfl hown s rfl ?c3 ?c4 ?c5 ?_))
  case c3 => unfold maxLen; omega
  case c4 => omega
  case c5 => have := hb1.size; omega
  intro v' w2 hown' hgrow _
  have hlt : b < w1.heap.size := (Array.getElem?_eq_some_iff.1 hbk).1
  have hb2 : w2.heap[b]? = some (.cells #[.pointer (some ⟨b, 0, none⟩), v] 48 (0, 0)) := (hgrow.block b hlt (fun e => hne e.symm)).trans hbk
  have d1 : w2.cell? ⟨b, 1, none⟩ = some v := by rw [Lib.cell_of_heap hb2]; rfl
  have f1 : w2.frozen? ⟨b, 1, none⟩ = false := Lib.frozen_of_heap hb2 1
  obtain ⟨ao, n', cap, rfl⟩ : ∃ ao n' cap, v' = .slice ao n' cap := by
    rcases hown'.2 with ⟨hv, _⟩ | ⟨g, cap, cur, fz, hv, _⟩
    · exact ⟨_, _, _, hv⟩
    · exact ⟨_, _, _, hv⟩
  have HK := Lib.hid ((hk1.grown hgrow (Lib.ownsRowF_kind hown)).setCell ⟨b, 1, none⟩ rfl (.slice ao n' cap))
  have HP := Lib.hid (Lib.BuilderAtF.put (T := 48) (e := 5) hB hb2 (bs' := bs ++ Lib.strCells s) (by simpa [Lib.strCells_length] using hown') (by decide))
  have HW := Lib.hid ((hb1.grown hgrow (by have := hb1.size; omega) (fun k hk => (hown.lt k hk).1)).setCell (p := ⟨b, 1, none⟩) hB (.slice ao n' cap))
  clear hown hown' hgrow hk1 hbk hb2 c0 c1
  go_wp2
  go_ret2
  exact ⟨rfl, .inr HP.out, HW.out, HK.out⟩

end Go.Proofs.YteokbgfiokbojaaGreat

/- impl.joinNames over whatever iterator that yields nodes. -/
namespace Go.Proofs.YteokbgfiokbojaaGreat
open Go.RowKit Go.Shelf
attribute [local go_sem] Oper.semAt_some

/-- The index of a segment of 'l'. -/
abbrev Ix (l : List Seg) := { j : Nat // j < l.length }
end Go.Proofs.YteokbgfiokbojaaGreat
/- The program's calls: their methods, and what is needed for them, written out. -/
namespace Go.Proofs.YteokbgfiokbojaaGreat
open Go.RowKit

theorem meth_name_leaf (c : UInt8) (w : World) : (method 304 183 (.agg #[.string ⟨#[c]⟩]) "loop.example/segmentrooms/impl.name").run Tryz.prog w = .ok (155, .agg #[.string ⟨#[c]⟩]) w := by kernel_rfl
theorem meth_calls_leaf (c : UInt8) (w : World) : (method 304 183 (.agg #[.string ⟨#[c]⟩]) "loop.example/segmentrooms/impl.calls").run Tryz.prog w = .ok (154, .agg #[.string ⟨#[c]⟩]) w := by kernel_rfl
theorem meth_name_branch (c : UInt8) (A : Option Addr) (n cap : Nat) (w : World) : (method 304 185 (.agg #[.string ⟨#[c]⟩, .slice A n cap]) "loop.example/segmentrooms/impl.name").run Tryz.prog w = .ok (155, .agg #[.string ⟨#[c]⟩]) w := by kernel_rfl
theorem meth_calls_branch (c : UInt8) (A : Option Addr) (n cap : Nat) (w : World) : (method 304 185 (.agg #[.string ⟨#[c]⟩, .slice A n cap]) "loop.example/segmentrooms/impl.calls").run Tryz.prog w = .ok (157, .agg #[.string ⟨#[c]⟩, .slice A n cap]) w := by kernel_rfl

set_option maxRecDepth 100000 in
theorem leafName_any (c : UInt8) (w : World) : Calls Tryz.prog 155 #[.agg #[.string ⟨#[c]⟩]] w fun e w' => e = .returned (.string ⟨#[c]⟩) ∧ w' = w.alloc (.cells #[.string ⟨#[c]⟩] 183) := by
  go_enter Tryz.func155, Tryz.ntmps155
  go_wp2
  go_ret
  exact ⟨rfl, rfl⟩
set_option maxRecDepth 100000 in
theorem leafCalls_any (c : UInt8) (w : World) : Calls Tryz.prog 154 #[.agg #[.string ⟨#[c]⟩]] w fun e w' => e = .returned (.slice none 0 0) ∧ w' = w.alloc (.cells #[.string ⟨#[c]⟩] 183) := by
  go_enter Tryz.func154, Tryz.ntmps154
  go_wp2
  go_ret
  exact ⟨rfl, rfl⟩
set_option maxRecDepth 100000 in
theorem branchCalls_any (c : UInt8) (A : Option Addr) (n cap : Nat) (w : World) : Calls Tryz.prog 157 #[.agg #[.string ⟨#[c]⟩, .slice A n cap]] w fun e w' => e = .returned (.slice A n cap) ∧ w' = w.alloc (.cells #[.string ⟨#[c]⟩, .slice A n cap] 185) := by
  go_enter Tryz.func157, Tryz.ntmps157
  go_wp2
  go_ret
  exact ⟨rfl, rfl⟩

/-- What the methods of a call say, whichever of the two it is. -/
structure CallFacts (T : TypeId) (x : Value) (c : UInt8) (kv : Value) : Prop where
  name : ∀ w : World, (method 304 T x "loop.example/segmentrooms/impl.name").run Tryz.prog w = .ok (155, .agg #[.string ⟨#[c]⟩]) w
  calls : ∃ K y o, (∀ w : World, (method 304 T x "loop.example/segmentrooms/impl.calls").run Tryz.prog w = .ok (K, y) w) ∧ (∀ w : World, (callFunc K #[y]).run Tryz.prog w = .ok (.enter K #[y]) w) ∧ ∀ w : World, Calls Tryz.prog K #[y] w fun e w' => e = .returned kv ∧ w' = w.alloc o
theorem IsCall.facts {w : World} {S : Nat → Prop} {c : UInt8} {k : Forest} {v : Value} (h : IsCall w S c k v) : ∃ T x kv, v = .iface T x ∧ CallFacts T x c kv ∧ SliceIs w S kv k := by
  rcases h with ⟨h1, rfl⟩ | ⟨h1, q, cap, rfl, hs, hk⟩
  · have h0 : k.len = 0 := by rw [Forest.isNil_len] at h1; exact of_decide_eq_true h1
    exact ⟨_, _, .slice none 0 0, rfl, ⟨meth_name_leaf c, _, _, _, meth_calls_leaf c, fun w => enters_of Tryz.func154 (by kernel_rfl) rfl _ w, leafCalls_any c⟩, none, 0, by rw [h0], fun h => by omega⟩
  · exact ⟨_, _, .slice (some ⟨q, 0, none⟩) k.len cap, rfl, ⟨meth_name_branch c _ _ _, _, _, _, meth_calls_branch c _ _ _, fun w => enters_of Tryz.func157 (by kernel_rfl) rfl _ w, branchCalls_any c _ _ _⟩, _, cap, rfl, fun _ => ⟨q, rfl, hs, hk⟩⟩

end Go.Proofs.YteokbgfiokbojaaGreat
/- slices.Values at a slice of nodes. -/
namespace Go.Proofs.YteokbgfiokbojaaGreat
open Go.RowKit Go.Shelf
attribute [local go_sem] Oper.semAt_some

/-- The slice value 'sv' holds pointers to the nodes 'ks', in a block below n₀; or it is nil and there are none. -/
def PtrsAt (n₀ : Nat) (W : World) (sv : Value) {l : List Seg} (nb : Nat → Nat) (ks : List (Ix l)) : Prop :=
  (sv = .slice none 0 0 ∧ ks = []) ∨ ∃ b off cap, sv = .slice (some ⟨b, off, none⟩) ks.length cap ∧ b < n₀ ∧ ∀ (j : Nat) (x : Ix l), ks[j]? = some x → W.cell? ⟨b, off + j, none⟩ = some (.pointer (some ⟨nb x.1, 0, none⟩))
theorem PtrsAt.below {n₀ : Nat} {A B : World} (h : Below n₀ A B) {sv : Value} {l : List Seg} {nb : Nat → Nat} {ks : List (Ix l)} : PtrsAt n₀ A sv nb ks → PtrsAt n₀ B sv nb ks
  | .inl e => .inl e
  | .inr ⟨b, off, cap, e, hb, hc⟩ => .inr ⟨b, off, cap, e, hb, fun j x hj => (h.cell (p := ⟨b, off + j, none⟩) hb).trans (hc j x hj)⟩

end Go.Proofs.YteokbgfiokbojaaGreat

/- NamesOf and ChildrenOf: the program's and the model's. -/
namespace Go.Proofs.YteokbgfiokbojaaGreat
open Go.RowKit Go.Shelf

theorem ret_two {a b : ByteArray} {c d : Bool} (h : a = b) (k : c = d) : Ending.returned (.tuple #[.string a, .bool c]) = .returned (.tuple #[.string b, .bool d]) := by rw [h, k]

def nmAt (l : List Seg) (j : Nat) : List UInt8 := match l[j]? with
  | some s => s.name.data.toList
  | none => []
theorem nmAt_of {l : List Seg} {j : Nat} (h : j < l.length) : nmAt l j = l[j].name.data.toList := by unfold nmAt; rw [List.getElem?_eq_getElem h]
theorem valid_names {l : List Seg} (h : validB l = true) : ∀ s ∈ l, s.name.size ≤ 1 := fun s hs => by
  obtain ⟨j, hj, rfl⟩ := List.getElem_of_mem hs
  obtain ⟨c, hc, _⟩ := nameOk_one ((valid_all h).1.name hj (List.getElem?_eq_getElem hj))
  rw [hc]
  exact Nat.le_refl 1

end Go.Proofs.YteokbgfiokbojaaGreat
