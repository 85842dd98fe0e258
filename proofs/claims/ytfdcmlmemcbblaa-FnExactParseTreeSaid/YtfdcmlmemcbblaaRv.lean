/- The program's ParseTree by its contract. -/
import Derived.Test.YtfdcmlmemcbblaaRu
namespace Go.Proofs.Ytfdcmlmemcbblaa
open Go.RowKit

/-- What ParseTree has done: the text's tree, of the call's own. -/
def ParsePost (w : World) (t : ByteArray) (e : Ending) (w' : World) : Prop :=
  ∃ v, e = .returned (.tuple #[v, .bool (parsed t.data.toList).isSome]) ∧ OwnTree w' w.heap.size v ((parsed t.data.toList).getD []) ∧ Below w.heap.size w w'

theorem parsed_at {t : ByteArray} {k : Nat} {tr : List Seg} (hk : k ≤ t.size) (h : iSeg 10 t.data.toList (-1) [] = some (t.data.toList.drop k, tr)) : parsed t.data.toList = if k = t.size then some tr else none := by
  unfold parsed
  rw [h]
  by_cases e : k = t.size
  · rw [if_pos e, List.drop_of_length_le (by simp; omega)]
  · rw [if_neg e, List.drop_eq_getElem_cons (by simp; omega)]

theorem OwnTree.base {w : World} {B B' : Nat} {v : Value} {tr : List Seg} (h : OwnTree w B v tr) (hB : B' ≤ B) : OwnTree w B' v tr := by
  refine ⟨h.1, ?_⟩
  rcases h.2 with h0 | ⟨g', cap, cur, rfl, hg, hh, r⟩
  · exact .inl h0
  · exact .inr ⟨g', cap, cur, rfl, Nat.le_trans hB hg, hh, r⟩

/-- Where the reader has given up: what the deferred closure leaves. -/
theorem parse_died (t : ByteArray) (w w1 : World) (m : ByteArray) (x : Value) (hx : ∃ A n c, x = .slice A n c) (y : Bool) (hp : parsed t.data.toList = none) (hb : Below w.heap.size w w1) (h1 : Row w1 w.heap.size 23 #[x]) (h2 : Row w1 (w.heap.size + 1) 4 #[.bool y]) (tmps : Array Value)
    (ht2 : tmps[2]?.getD undef = .pointer (some ⟨w.heap.size, 0, none⟩)) (ht3 : tmps[3]?.getD undef = .pointer (some ⟨w.heap.size + 1, 0, none⟩)) :
    bodyPostD Try.prog Try.f48 (ParsePost w t) (Exit.panic [{ v := .iface 9 (.string m), recovered := false }]) { tmps := tmps, defers := [{ target := Target.fn (Fn.func 97) #[.pointer (some ⟨w.heap.size, 0, none⟩), .pointer (some ⟨w.heap.size + 1, 0, none⟩)], args := #[] }] } w1 := by
  refine leaves_cons (f := 97) (args := #[.pointer (some ⟨w.heap.size, 0, none⟩), .pointer (some ⟨w.heap.size + 1, 0, none⟩)]) (by simp) (by simp [go_sem]) ?_
  refine (catch_panicking w.heap.size x y m w1 h1 hx h2).mono ?_
  rintro e u' w'' ⟨rfl, rfl, rfl⟩
  have r1 : Row ((w1.setCell ⟨w.heap.size, 0, none⟩ (.slice none 0 0)).setCell ⟨w.heap.size + 1, 0, none⟩ (.bool false)) w.heap.size 23 #[.slice none 0 0] := (h1.put 0 _).far (p := ⟨w.heap.size + 1, 0, none⟩) (show w.heap.size ≠ w.heap.size + 1 by omega) _
  have r2 : Row ((w1.setCell ⟨w.heap.size, 0, none⟩ (.slice none 0 0)).setCell ⟨w.heap.size + 1, 0, none⟩ (.bool false)) (w.heap.size + 1) 4 #[.bool false] := (h2.far (p := ⟨w.heap.size, 0, none⟩) (show w.heap.size + 1 ≠ w.heap.size by omega) _).put 0 _
  have hb2 : Below w.heap.size w ((w1.setCell ⟨w.heap.size, 0, none⟩ (.slice none 0 0)).setCell ⟨w.heap.size + 1, 0, none⟩ (.bool false)) := (hb.setCell (Nat.le_refl _) _).setCell (by simp) _
  generalize (w1.setCell ⟨w.heap.size, 0, none⟩ (.slice none 0 0)).setCell ⟨w.heap.size + 1, 0, none⟩ (.bool false) = W3 at *
  have e1 : W3.cell? ⟨w.heap.size, 0, none⟩ = some (.slice none 0 0) := r1.cell 0
  have e2 : W3.cell? ⟨w.heap.size + 1, 0, none⟩ = some (.bool false) := r2.cell 0
  have HP : ParsePost w t (.returned (.tuple #[.slice none 0 0, .bool false])) W3 := ⟨_, by rw [hp]; rfl, by rw [hp]; exact World.ownsRow_nil _ _ _ _, hb2⟩
  simp [Leaves, settle, results, Try.results48, go_sem, e1, e2, ht2, ht3]
  exact HP

set_option maxRecDepth 100000 in
set_option maxHeartbeats 4000000 in
theorem parseTree_any (t : ByteArray) (w : World) (ht : t.size ≤ 1048576) :
    Calls Try.prog 48 #[.string t] w (ParsePost w t) := by
  have hmf : ∀ (fn : Fn) (first cap : Array Value) (w : World), (Instr.makeFunc fn first cap).run Try.prog w = .ok (.func fn first cap) w := fun _ _ _ _ => rfl
  have hW : Below w.heap.size w (((w.alloc (.cells #[.slice none 0 0] 23)).alloc (.cells #[.bool false] 4)).alloc (.cells #[.string t, .int .i64 0, .slice none 0 0] 110)) := (((Below.refl _ w).alloc (Nat.le_refl _) _).alloc (by simp) _).alloc (by simp; omega) _
  have hr1 : Row (((w.alloc (.cells #[.slice none 0 0] 23)).alloc (.cells #[.bool false] 4)).alloc (.cells #[.string t, .int .i64 0, .slice none 0 0] 110)) w.heap.size 23 #[.slice none 0 0] := ((Row.new _ _ _).alloc _).alloc _
  have hr2 : Row (((w.alloc (.cells #[.slice none 0 0] 23)).alloc (.cells #[.bool false] 4)).alloc (.cells #[.string t, .int .i64 0, .slice none 0 0] 110)) (w.heap.size + 1) 4 #[.bool false] := by
    have := (Row.new (w.alloc (.cells #[.slice none 0 0] 23)) 4 #[.bool false]).alloc (.cells #[.string t, .int .i64 0, .slice none 0 0] 110)
    rw [World.size_alloc] at this
    exact this
  have hr3 : Row (((w.alloc (.cells #[.slice none 0 0] 23)).alloc (.cells #[.bool false] 4)).alloc (.cells #[.string t, .int .i64 0, .slice none 0 0] 110)) (w.heap.size + 1 + 1) 110 #[.string t, .int .i64 (0 : Nat), .slice none 0 0] := by
    have := Row.new ((w.alloc (.cells #[.slice none 0 0] 23)).alloc (.cells #[.bool false] 4)) 110 #[.string t, .int .i64 0, .slice none 0 0]
    rw [World.size_alloc, World.size_alloc] at this
    exact this
  have HW := Lib.hid hW
  have HR1 := Lib.hid hr1
  have HR2 := Lib.hid hr2
  have HR3 := Lib.hid hr3
  clear hW hr1 hr2 hr3
  go_enter_defers Try.func48, Try.ntmps48
  go_wp2_with fail
  generalize (((w.alloc (.cells #[.slice none 0 0] 23)).alloc (.cells #[.bool false] 4)).alloc (.cells #[.string t, .int .i64 0, .slice none 0 0] 110)) = W1 at *
  have HQ := Lib.hid (readSegment_any (w.heap.size + 1 + 1) (w.heap.size + 1 + 1) t ht 10 0 (-1) [] (.slice none 0 0) W1 (fun j hj => absurd hj (by simp)) (by simp) (Nat.zero_le _) (Nat.le_refl _) HR3.out (World.ownsRow_nil _ _ _ _))
  refine Calls.mono HQ.out ?_
  rintro e w1 ⟨(⟨k', tr', v', hi, hk, rfl, hr, ho⟩ | ⟨hi, m, rfl⟩), hb⟩
  · rw [List.drop_zero] at hi
    have HP := Lib.hid (parsed_at hk hi)
    obtain ⟨A, cap, rfl, -⟩ := ho.form
    have HB := Lib.hid (HW.out.trans (hb.mono (by omega)))
    have HX1 := Lib.hid (HR1.out.below hb (by omega))
    have HX2 := Lib.hid (HR2.out.below hb (by omega))
    have HR := Lib.hid hr
    have HO := Lib.hid ho
    clear hi hb hr ho HQ HW HR1 HR2 HR3
    go_wp2_with fail
    refine (expectEnd_any (w.heap.size + 1 + 1) t k' (.slice A tr'.length cap) w1 HR.out).mono ?_
    rintro e w2 ⟨(⟨hend, rfl⟩ | ⟨hne, m, rfl⟩), ho2⟩
    · have HP1 : Hid (parsed t.data.toList = some tr') := by
        show _ = _
        rw [HP.out, if_pos hend]
      have hX1 := ho2.row HX1.out (fun h => h)
      have hX2 := ho2.row HX2.out (fun h => h)
      have hR2 := ho2.row HR.out (fun h => h)
      have HO2 := Lib.hid (HO.out.far (w' := w2) (fun g hg => ho2.block g (World.ownsRow.lt HO.out g hg).2 (fun h => h)))
      have HB2 := Lib.hid (Only.below HB.out ho2 (by have := HB.out.size; omega) (fun _ _ h => h))
      have c2 : w2.cell? ⟨w.heap.size + 1 + 1, 2, none⟩ = some (.slice A tr'.length cap) := hR2.cell 2
      have d1 : w2.cell? ⟨w.heap.size, 0, none⟩ = some (.slice none 0 0) := hX1.cell 0
      have z1 : w2.frozen? ⟨w.heap.size, 0, none⟩ = false := hX1.free 0
      have d2 : w2.cell? ⟨w.heap.size + 1, 0, none⟩ = some (.bool false) := hX2.cell 0
      have z2 : w2.frozen? ⟨w.heap.size + 1, 0, none⟩ = false := hX2.free 0
      have HX1' := Lib.hid hX1
      have HX2' := Lib.hid hX2
      clear hX1 hX2 hR2 ho2 hend HP HB HX1 HX2 HR HO
      go_wp2
      refine leaves_cons (f := 97) (args := #[.pointer (some ⟨w.heap.size, 0, none⟩), .pointer (some ⟨w.heap.size + 1, 0, none⟩)]) (by simp) (by simp [go_sem]) ?_
      refine (catch_idle ⟨w.heap.size, 0, none⟩ ⟨w.heap.size + 1, 0, none⟩ _).mono ?_
      rintro e u' w'' ⟨rfl, rfl, rfl⟩
      have r1 : Row ((w2.setCell ⟨w.heap.size, 0, none⟩ (.slice A tr'.length cap)).setCell ⟨w.heap.size + 1, 0, none⟩ (.bool true)) w.heap.size 23 #[.slice A tr'.length cap] := (HX1'.out.put 0 _).far (p := ⟨w.heap.size + 1, 0, none⟩) (show w.heap.size ≠ w.heap.size + 1 by omega) _
      have r2 : Row ((w2.setCell ⟨w.heap.size, 0, none⟩ (.slice A tr'.length cap)).setCell ⟨w.heap.size + 1, 0, none⟩ (.bool true)) (w.heap.size + 1) 4 #[.bool true] := (HX2'.out.far (p := ⟨w.heap.size, 0, none⟩) (show w.heap.size + 1 ≠ w.heap.size by omega) _).put 0 _
      have hb2 : Below w.heap.size w ((w2.setCell ⟨w.heap.size, 0, none⟩ (.slice A tr'.length cap)).setCell ⟨w.heap.size + 1, 0, none⟩ (.bool true)) := (HB2.out.setCell (Nat.le_refl _) _).setCell (by simp) _
      have hT : OwnTree ((w2.setCell ⟨w.heap.size, 0, none⟩ (.slice A tr'.length cap)).setCell ⟨w.heap.size + 1, 0, none⟩ (.bool true)) w.heap.size (.slice A tr'.length cap) tr' :=
        (HO2.out.far fun g hg => (Below.heap_setCell _ ⟨w.heap.size + 1, 0, none⟩ _ g (by have := (World.ownsRow.lt HO2.out g hg).1; show g ≠ w.heap.size + 1; omega)).trans (Below.heap_setCell w2 ⟨w.heap.size, 0, none⟩ _ g (by have := (World.ownsRow.lt HO2.out g hg).1; show g ≠ w.heap.size; omega))).base (by omega)
      have HPP : ∀ W3 : World, OwnTree W3 w.heap.size (.slice A tr'.length cap) tr' → Below w.heap.size w W3 → ParsePost w t (.returned (.tuple #[.slice A tr'.length cap, .bool true])) W3 := fun W3 h1 h2 => ⟨_, by rw [HP1.out]; rfl, by rw [HP1.out]; exact h1, h2⟩
      have HPQ := Lib.hid (HPP _ hT hb2)
      clear hT hb2 HPP
      generalize (w2.setCell ⟨w.heap.size, 0, none⟩ (.slice A tr'.length cap)).setCell ⟨w.heap.size + 1, 0, none⟩ (.bool true) = W3 at *
      have e1 : W3.cell? ⟨w.heap.size, 0, none⟩ = some (.slice A tr'.length cap) := r1.cell 0
      have e2 : W3.cell? ⟨w.heap.size + 1, 0, none⟩ = some (.bool true) := r2.cell 0
      simp [Leaves, settle, results, Try.results48, go_sem, e1, e2]
      exact HPQ.out
    · have hp : parsed t.data.toList = none := by rw [HP.out, if_neg hne]
      have hX1 := ho2.row HX1.out (fun h => h)
      have hX2 := ho2.row HX2.out (fun h => h)
      have hB2 := Only.below HB.out ho2 (by have := HB.out.size; omega) (fun _ _ h => h)
      have HD := Lib.hid (fun tmps h2 h3 => parse_died t w w2 m _ ⟨_, _, _, rfl⟩ _ hp hB2 hX1 hX2 tmps h2 h3)
      clear hp hX1 hX2 hB2 ho2 hne
      go_wp2
      exact HD.out _ rfl rfl
  · have hp : parsed t.data.toList = none := by
      rw [List.drop_zero] at hi
      unfold parsed
      rw [hi]
    have hB2 := HW.out.trans (hb.mono (by omega))
    have hX1 := HR1.out.below hb (by omega)
    have hX2 := HR2.out.below hb (by omega)
    have HD := Lib.hid (fun tmps h2 h3 => parse_died t w w1 m _ ⟨_, _, _, rfl⟩ _ hp hB2 hX1 hX2 tmps h2 h3)
    clear hp hX1 hX2 hB2 hb hi HQ
    go_wp2
    exact HD.out _ rfl rfl

end Go.Proofs.Ytfdcmlmemcbblaa
