/- Draws of chapter 1: DrawParseTree. -/
import Derived.Test.YtdbddockmdkmeaaDoorZk
import Derived.Test.YtdbddockmdkmeaaDoorZi
import Derived.Test.YtdbddockmdkmeaaDoorZl
import Derived.Test.YtdbddockmdkmeaaDoorMy
import Derived.Deep.RegionWith
namespace Go.Proofs.YtdbddockmdkmeaaDoor
open Go.RowKit

namespace Rs
theorem text_short : ∀ (F : Rs) (p : Int) (s : Nat), (∀ x ∈ F.segs p s, 1 ≤ x.size ∧ x.size ≤ 99) → F.text.length ≤ 6 * F.count
  | .nil, _, _, _ => Nat.zero_le _
  | .cons c n k r, p, s, h => by
    have hk := text_short k s (s + 1) (fun x hx => h x (List.mem_cons_of_mem _ (List.mem_append_left _ hx)))
    have hr := text_short r p (s + 1 + k.count) (fun x hx => h x (List.mem_cons_of_mem _ (List.mem_append_right _ hx)))
    have hn := h ⟨⟨#[c]⟩, n, p⟩ List.mem_cons_self
    have hi := itoa_99 hn.1 hn.2
    have h1 : k.paren.length ≤ k.text.length + 2 := by
      cases k with
      | nil => exact Nat.zero_le _
      | cons a b c d => simp [paren]
    have h2 : r.tail.length ≤ r.text.length + 1 := by
      cases r with
      | nil => exact Nat.zero_le _
      | cons a b c d => exact Nat.le_refl _
    rw [text_cons, List.length_cons, List.length_append, List.length_append]
    simp only [count]
    simp only [] at hi
    omega
end Rs
theorem treeText_size {l : List Seg} (hv : validB l = true) : 1 ≤ (treeText l).size ∧ (treeText l).size ≤ 48 := by
  have ha := (valid_all hv).1
  have h8 := (valid_all hv).2.1
  have h1 := (valid_all hv).2.2
  obtain ⟨c, n, k, e⟩ := Rs.decode ha l.length (by omega) (Nat.le_refl _)
  rw [List.take_length] at e
  have hlen : l.length = (Rs.cons c n k .nil).count := by rw [e, Rs.segs_len]
  unfold treeText
  rw [if_pos hv, txt12_size, Rs.text_whole e hv]
  have h2 := Rs.text_short (.cons c n k .nil) (-1) 0 (fun x hx => by
    rw [← e] at hx
    obtain ⟨i, hi, rfl⟩ := List.getElem_of_mem hx
    exact valid_size hv hi)
  rw [← hlen] at h2
  refine ⟨?_, by omega⟩
  rw [Rs.text_cons, List.length_cons]
  omega

/-- The texts that a tree's text is spoilt with. -/
def oddT1 : List ByteArray := [⟨#[]⟩, ⟨#[40]⟩, ⟨#[44]⟩, ⟨#[41]⟩, ⟨#[65]⟩, ⟨#[48]⟩, ⟨#[72, 49]⟩]
theorem oddT1_size : ∀ x ∈ oddT1, x.size ≤ 2 := by decide
/-- Nothing but the reader differs from `w`. -/
def SatT1 (w : World) (b q : Nat) (W : World) : Prop := Only w W (· = b) ∧ Rd W b q
theorem SatT1.alloc {w W : World} {b q : Nat} (h : Hid (SatT1 w b q W)) (o : Obj) : Hid (SatT1 w b q (W.alloc o)) := Lib.hid ⟨h.out.1.andBelow ((Below.refl _ W).alloc (Nat.le_refl _) _), h.out.2.alloc o⟩
theorem ofT1 (w : World) (b q g : Nat) (W : World) (hs : Hid (SatT1 w b q W)) (hq : q ≤ 100000) (hx : Hid (Texts W b g 0 7 (· ∈ oddT1))) :
    Calls Tryd.prog 68 #[.pointer (some ⟨b, 0, none⟩), .slice (some ⟨g, 0, none⟩) 7 7] W fun e w' => ∃ v : ByteArray, e = .returned (.string v) ∧ v.size ≤ 2 ∧ Only W w' (· = b) ∧ Hid (SatT1 w b (q + 1) w') := by
  refine (of_any b q g 0 7 7 _ W hs.out.2 (by omega) (by omega) (by omega) hx.out).mono ?_
  rintro e w' ⟨v, rfl, hv, ho, hr⟩
  exact ⟨v, rfl, oddT1_size v hv, ho, Lib.hid ⟨hs.out.1.trans ho, hr⟩⟩
theorem pickT1 (w : World) (b q : Nat) (W : World) (hs : Hid (SatT1 w b q W)) (hq : q ≤ 100000) :
    Calls Tryd.prog 67 #[.pointer (some ⟨b, 0, none⟩), .int .i64 2] W fun e w' => ∃ v : Nat, e = .returned (.int .i64 v) ∧ v ≤ 1 ∧ Only W w' (· = b) ∧ Hid (SatT1 w b (q + 1) w') := by
  refine (draw_any b q 2 W hs.out.2 (by omega) (by omega) (by omega)).mono ?_
  rintro e w' ⟨v, rfl, ⟨h0, h1⟩, ho, hr⟩
  obtain ⟨k, rfl⟩ := Int.eq_ofNat_of_zero_le h0
  exact ⟨k, rfl, by have := h1 (by omega); omega, ho, Lib.hid ⟨hs.out.1.trans ho, hr⟩⟩
/-- What the draw of a text is said to hand back. -/
def TextDrawn1 (w : World) (e : Ending) (w' : World) : Prop := ∃ x : ByteArray, e = .returned (.string x) ∧ x.size ≤ 300 ∧ Below w.heap.size w w'
def GoodVSaid : Prop := ∀ b P w, P ≤ 1000 → Rd w b P → Calls Tryd.prog 66 #[.pointer (some ⟨b, 0, none⟩)] w (GoodVPost b P w)

set_option maxRecDepth 100000 in
set_option maxHeartbeats 2000000 in
theorem drawParseTree_any (hgood : GoodVSaid) (A0 : Option Addr) (n c0 : Nat) (w : World) (hn : n ≤ c0) (hx : ∀ b, w.heap.size ≤ b → Bytes w b A0 n) :
    Calls Tryd.prog 17 #[.slice A0 n c0] w (TextDrawn1 w) := by
  have HO := Lib.hid (l13Open_any A0 n c0 w hn hx)
  have HG := Lib.hid (fun b w h => hgood b 0 w (by omega) h)
  clear hx hgood
  unfold TextDrawn1
  go_enter Tryd.func17, Tryd.ntmps17
  go_wp2_with fail
  refine Calls.mono HO.out ?_
  rintro e w1 ⟨b, rfl, hbb, hr, hb1⟩
  have HB1 := Lib.hid hb1
  have HGG := Lib.hid (HG.out b w1 hr)
  unfold GoodVPost at HGG
  clear hr hb1 HO HG
  go_wp2_with fail
  refine Calls.mono HGG.out ?_
  rintro e w2 ⟨v, l, rfl, hd, hv, ho2, hr2⟩
  obtain ⟨A, c, rfl, _, _, hs⟩ := treeCap hd.own
  have HB2 := Lib.hid (only_below HB1.out hbb ho2)
  have HR2 := Lib.hid hr2
  have HF := Lib.hid (specFormatTree_any A l c w2 hs (by have := hd.few; omega) (fun s hs => Nat.le_trans (hd.short s hs) (by decide)))
  obtain ⟨hs1, hs2⟩ := treeText_size hv
  clear hd hv ho2 hr2 hs HB1 HGG
  generalize treeText l = x at *
  go_wp2_with fail
  refine Calls.mono HF.out ?_
  rintro e w3 ⟨rfl, hb3⟩
  have HB3 := Lib.hid (HB2.out.trans (hb3.mono HB2.out.size))
  have HR3 := Lib.hid (HR2.out.below hb3)
  clear hb3 HB2 HR2 HF
  go_wp2_with fail
  refine (draw_any b (0 + 40) 2 _ HR3.out (by omega) (by omega) (by omega)).mono ?_
  rintro e w4 ⟨u, rfl, -, ho4, hr4⟩
  have HB4 := Lib.hid (only_below HB3.out hbb ho4)
  have HR4 := Lib.hid hr4
  clear ho4 hr4 HB3 HR3
  by_cases hu : u = 0
  · subst hu
    go_wp2
    go_ret
    exact ⟨x, rfl, by omega, HB4.out⟩
  · have hue : (u == 0) = false := by rw [beq_eq_false_iff_ne]; exact hu
    go_wp2_with fail
    refine (draw_any b (0 + 40 + 1) x.size _ HR4.out (by omega) (by omega) (by omega)).mono ?_
    rintro e w5 ⟨m, rfl, ⟨hk0, hk1⟩, ho5, hr5⟩
    obtain ⟨m, rfl⟩ := Int.eq_ofNat_of_zero_le hk0
    have hk : m < x.size := by have := hk1 (by omega); omega
    have HB5 := Lib.hid (only_below HB4.out hbb ho5)
    have HSAT : Hid (SatT1 w5 b (0 + 40 + 1 + 1) w5.drew) := Lib.hid ⟨(Only.refl w5 (· = b)).drew', hr5.below ((Below.refl _ w5).drew)⟩
    have HT0 := Lib.hid (texts_new w5.drew b 9 oddT1 HSAT.out.2.lt)
    have hk0 : (0 : Int) ≤ (m : Int) := Int.natCast_nonneg _
    have hkx : (m : Int) ≤ (x.size : Int) := by omega
    clear ho5 hr5 HB4 HR4 hk1 hue
    go_wp2_with fail
    go_region_with (first
      | (go_at_call 68; refine (ofT1 w5 b (0 + 40 + 1 + 1) w5.heap.size _ (SatT1.alloc HSAT _) (by omega) HT0).mono ?_; rintro e w6 ⟨y, rfl, HY, ho6, HSAT6⟩)
      | (go_at_call 67; refine (pickT1 w5 b (0 + 40 + 1 + 1 + 1) w6 HSAT6 (by omega)).mono ?_; rintro e w7 ⟨j, rfl, hj, ho7, HSAT7⟩; obtain ⟨s, HSJ⟩ : ∃ s : Nat, Hid (s = m + j) := ⟨_, Lib.hid rfl⟩; have hws : IntKind.i64.wrap ((m : Int) + (j : Int)) = (s : Int) := (IntWalk.i64_in _ (by omega)).trans (by rw [HSJ.out]; rfl); have hsx : (s : Int) ≤ (x.size : Int) := by (rw [HSJ.out]; omega)))
    all_goals
      have HSZ : Hid ((x.extract 0 m ++ y ++ x.extract s x.size).size ≤ 300) := by
        show _ ≤ _
        rw [ByteArray.size_append, ByteArray.size_append, ByteArray.size_extract, ByteArray.size_extract]
        have := HSJ.out
        omega
      have HBF := Lib.hid (only_below HB5.out hbb HSAT7.out.1)
      clear ho6 ho7 HSAT6 HSAT7 HSAT HT0
      go_wp2
      go_ret
      exact ⟨_, rfl, HSZ.out, HBF.out⟩

end Go.Proofs.YtdbddockmdkmeaaDoor
