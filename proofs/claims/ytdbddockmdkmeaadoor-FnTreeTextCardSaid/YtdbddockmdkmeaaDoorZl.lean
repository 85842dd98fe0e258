/- The draws' good trees are valid: plain, and the known ones. -/
import Derived.Test.YtdbddockmdkmeaaDoorDg
namespace Go.Proofs.YtdbddockmdkmeaaDoor
open Go.RowKit

/-- A tree of which the draws have made so much: valid so far, its names the first letters. -/
def GoodL (l : List Seg) : Prop := AllOk l l.length ∧ ∀ s ∈ l, ∃ c : UInt8, s.name = ⟨#[c]⟩ ∧ c.toNat < 65 + l.length
theorem goodL_snoc {l : List Seg} {ch : UInt8} {sz x : Int} (h : GoodL l) (h7 : l.length ≤ 7) (h1 : 1 ≤ l.length) (hc : ((ch.toNat : Nat) : Int) = 65 + (l.length : Int)) (hz : 1 ≤ sz ∧ sz ≤ 99) (hx : OnLast l x) : GoodL (l ++ [⟨⟨#[ch]⟩, sz, x⟩]) := by
  refine ⟨okSnoc h.1 ?_ ?_ ?_ (.inr ⟨List.length_pos_iff.1 h1, hx⟩), ?_⟩
  · have : nameOk ⟨#[ch]⟩ = (decide (65 ≤ ch.toNat) && decide (ch.toNat ≤ 72)) := rfl
    show nameOk ⟨#[ch]⟩ = true
    rw [this, decide_eq_true (by omega), decide_eq_true (by omega)]; rfl
  · show takenB l ⟨#[ch]⟩ = false
    unfold takenB
    rw [← Bool.not_eq_true, List.any_eq_true]
    rintro ⟨s, hs, e⟩
    obtain ⟨c, hn, hlt⟩ := h.2 s hs
    have e2 := sameB_iff.1 e
    rw [hn] at e2
    have e3 : c = ch := by
      injection e2 with e2
      injection e2 with e2
      injection e2
    rw [e3] at hlt
    omega
  · show sizeOk sz = true
    unfold sizeOk
    rw [decide_eq_true hz.1, decide_eq_true hz.2]; rfl
  · intro s hs
    rw [List.length_append]
    rcases List.mem_append.1 hs with hs | hs
    · obtain ⟨c, hn, hlt⟩ := h.2 s hs
      exact ⟨c, hn, by simp; omega⟩
    · rw [List.mem_singleton.1 hs]
      exact ⟨ch, rfl, by simp; omega⟩
theorem goodL_one {p : Int} (h0 : 0 ≤ p) (h9 : p < 9) : GoodL [⟨⟨#[65]⟩, 1 + p, -1⟩] := by
  have h := okSnoc (tr := []) (fun j hj => absurd hj (by simp)) (s := ⟨⟨#[65]⟩, 1 + p, -1⟩) rfl rfl (by
    show sizeOk (1 + p) = true
    unfold sizeOk
    rw [decide_eq_true (by omega), decide_eq_true (by omega)]; rfl) (.inl ⟨rfl, rfl⟩)
  refine ⟨h, fun s hs => ?_⟩
  rw [List.mem_singleton.1 hs]
  exact ⟨65, rfl, by simp⟩
theorem goodL_valid {l : List Seg} (h : GoodL l) (h1 : 1 ≤ l.length) (h8 : l.length ≤ 8) : validB l = true := by
  rw [validB_all h.1, decide_eq_true h1, decide_eq_true h8]; rfl
theorem on_path {l : List Seg} {k : Nat} (hl : l.length = k) (h1 : 1 ≤ k) : ∀ x ∈ pathOf l (k - 1), OnLast l x := fun x hx => by
  unfold pathOf at hx
  rw [List.mem_reverse, show k - 1 + 1 = k by omega, show ((k - 1 : Nat) : Int) = (k : Int) - 1 by omega] at hx
  unfold OnLast
  rw [hl]
  exact hx
theorem sz_in {v y : Int} (h : v ∈ ([1, 2, 3, 5, 8, 1 + y, 99] : List Int)) (h0 : 0 ≤ y) (h1 : y < 20) : 1 ≤ v ∧ v ≤ 99 := by
  simp only [List.mem_cons, List.not_mem_nil, or_false] at h
  omega
theorem good_finV {w w3 w4 Wc W7 : World} {B b P k g c : Nat} {l : List Seg} {v7 : Value} {ch : UInt8} {sz x : Int} {o : Obj} (hO3 : Only w w3 (· = b)) (hb4 : Below w3.heap.size w3 w4) (hT : OwnTree w3 B (.slice (some ⟨g, 0, none⟩) l.length c) l)
    (hB : w.heap.size ≤ B) (hbB : b < B) (hl : l.length = k) (hD : GoodL l) (hS : ∀ s ∈ l, s.name.size ≤ 8) (hc : ((ch.toNat : Nat) : Int) = 65 + (k : Int)) (h7 : k ≤ 7) (h1 : 1 ≤ k) (ho : Only w4 Wc (· = b)) (hr : Rd Wc b (P + 4 * k + 4)) (hx : (0 ≤ x ∧ x ≤ (k : Int) - 1) ∧ OnLast l x) (hz : 1 ≤ sz ∧ sz ≤ 99)
    (hown : W7.ownsRow B 66 3 v7 (l.length + 1) (segCells l ++ [.string ⟨#[ch]⟩, .int .i64 sz, .int .i64 x])) (hg : (Wc.alloc o).grownBy W7 (Value.slice (some ⟨g, 0, none⟩) l.length c).ownBlock) :
    Only w W7 (· = b) ∧ Rd W7 b (P + 4 * (k + 1)) ∧ OwnTree W7 B v7 (l ++ [⟨⟨#[ch]⟩, sz, x⟩]) ∧ GoodL (l ++ [⟨⟨#[ch]⟩, sz, x⟩]) ∧ (∀ s ∈ l ++ [(⟨⟨#[ch]⟩, sz, x⟩ : Seg)], s.name.size ≤ 8) := by
  have hd : Down l k := by have := hD.1.down; rw [hl] at this; exact this
  obtain ⟨a1, a2, a3, _, a5⟩ := good_fin hO3 hb4 hT hB hbB hl hd hS ho hr hx.1 hown hg
  exact ⟨a1, a2, a3, goodL_snoc hD (by omega) (by omega) (by rw [hl]; exact hc) hz hx.2, a5⟩

theorem known_ok : (knownTexts.all fun x => (parsed x.data.toList).isSome) = true := by kernel_rfl
theorem known_valid (x : ByteArray) (h : x ∈ knownTexts) : validB ((parsed x.data.toList).getD []) = true := by
  have h1 := List.all_eq_true.1 known_ok x h
  cases hp : parsed x.data.toList with
  | none => rw [hp] at h1; cases h1
  | some tr => exact (parsed_some hp).2
set_option maxRecDepth 100000 in
set_option maxHeartbeats 1000000 in
theorem l1KnownV_any (k : Nat) (w : World) (hk : k ≤ 1000) :
    Calls Tryd.prog 103 #[.int .i64 k] w fun e w' => ∃ v l, e = .returned v ∧ Drawn w' w.heap.size v l ∧ validB l = true ∧ Below w.heap.size w w' := by
  have hrow := Row.new w 9 (knownTexts.map Value.string).toArray
  obtain ⟨x, hx, hm⟩ : ∃ x : ByteArray, (w.alloc (.cells (knownTexts.map Value.string).toArray 9)).cell? ⟨w.heap.size, k % 8, none⟩ = some (.string x) ∧ x ∈ knownTexts := by
    have hk8 : k % 8 < knownTexts.length := Nat.mod_lt _ (by decide)
    refine ⟨knownTexts[k % 8], ?_, List.getElem_mem _⟩
    rw [hrow.cell]
    simp [hk8]
  have hs : x.size ≤ 1048576 := (by decide : ∀ y ∈ knownTexts, y.size ≤ 1048576) x hm
  have HS := Lib.hid (fun W => specParse_any x W hs)
  have HV := Lib.hid (known_valid x hm)
  have HF : Hid (((parsed x.data.toList).getD []).length ≤ 8) := (valid_all HV.out).2.1
  have HT := Lib.hid (parsed_short x.data.toList)
  have HM := Lib.hid (known_some x hm)
  clear hrow hm hs
  simp only [knownTexts, List.map_cons, List.map_nil] at hx
  go_enter Tryd.func103, Tryd.ntmps103
  go_wp2_with fail
  refine (HS.out _).mono ?_
  rintro e w1 ⟨v, rfl, ho, hb⟩
  have HO := Lib.hid ho
  have HB := Lib.hid hb
  clear ho hb
  go_wp2
  go_ret
  exact ⟨v, _, rfl, ⟨HO.out.lower (by simp), HF.out, HM.out, HT.out⟩, HV.out, ((Below.refl _ w).alloc (Nat.le_refl _) _).trans (HB.out.mono (by simp))⟩

/-- What l1Good leaves: a valid tree. -/
def GoodVPost (b P : Nat) (w : World) (e : Ending) (w' : World) : Prop :=
  ∃ v l, e = .returned v ∧ Drawn w' w.heap.size v l ∧ validB l = true ∧ Only w w' (· = b) ∧ Rd w' b (P + 40)

end Go.Proofs.YtdbddockmdkmeaaDoor
