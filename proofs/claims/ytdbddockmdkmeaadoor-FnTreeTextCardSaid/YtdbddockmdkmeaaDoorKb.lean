/- The reference's ParseTree by its contract. -/
import Derived.Test.YtdbddockmdkmeaaDoorRl
import Derived.Test.YtdbddockmdkmeaaDoorTs
namespace Go.Proofs.YtdbddockmdkmeaaDoor
open Go.RowKit

/-- A tree that the reference reads stays short, its names one byte each. -/
def Neat (l : List Seg) : Prop := l.length ≤ 9 ∧ ∀ s ∈ l, s.name.size ≤ 1
theorem Neat.snoc {l : List Seg} (h : Neat l) (h8 : l.length ≤ 8) (c : UInt8) (n p : Int) : Neat (l ++ [⟨⟨#[c]⟩, n, p⟩]) := by
  refine ⟨by simp; omega, fun s hs => ?_⟩
  rcases List.mem_append.1 hs with hs | hs
  · exact h.2 s hs
  · rw [List.mem_singleton.1 hs]; exact Nat.le_refl 1
theorem sKids_neat {seg : SSt → SSt} (h : ∀ s, Neat s.tree → Neat (seg s).tree) : ∀ (g : Nat) (s : SSt), Neat s.tree → Neat (sKids seg g s).tree
  | 0, _, hs => hs
  | g + 1, s, hs => by
    unfold sKids
    split
    · exact hs
    · next c r _ =>
      split
      · exact sKids_neat h g _ (h ⟨r, s.bad, s.tree⟩ hs)
      · split
        · exact hs
        · split <;> exact hs
theorem sSeg_neat : ∀ (f : Nat) (s : SSt) (p : Int), Neat s.tree → Neat (sSeg f s p).tree
  | 0, _, _, hs => hs
  | f + 1, s, p, hs => by
    unfold sSeg
    split
    · exact hs
    · next hb =>
      have h8 : s.tree.length ≤ 8 := by
        simp only [Bool.or_eq_true, decide_eq_true_eq, not_or] at hb
        omega
      split
      · exact hs
      · next c r _ =>
        have h1 := hs.snoc h8 c (numB (digs r)) p
        split
        · exact h1
        · next d r3 _ =>
          split
          · exact sKids_neat (fun x hx => sSeg_neat f x _ hx) _ _ (sSeg_neat f ⟨r3, !numOk (digs r), s.tree ++ [⟨⟨#[c]⟩, numB (digs r), p⟩]⟩ _ h1)
          · exact h1

theorem OwnTree.empty (w : World) {B : Nat} (hB : B ≤ w.heap.size) : OwnTree (w.alloc (.cells #[] 66)) B (.slice (some ⟨w.heap.size, 0, none⟩) 0 0) [] := by
  have h := World.ownsRow_lit (base := B) (e := 66) (size := 3) w #[] 0 hB (by simp [maxLen]) rfl
  exact h

set_option maxRecDepth 100000 in
set_option maxHeartbeats 4000000 in
theorem specParse_any (t : ByteArray) (w : World) (ht : t.size ≤ 1048576) :
    Calls Tryd.prog 18 #[.string t] w (ParsePost w t) := by
  have hN : Neat (sSeg 10 ⟨t.data.toList, false, []⟩ (-1)).tree := sSeg_neat _ _ _ ⟨Nat.zero_le _, fun s hs => by cases hs⟩
  have HN := Lib.hid hN
  clear hN
  have hr0 : Row ((w.alloc (.cells #[] 66)).alloc (.cells #[.string t, .int .i64 0, .bool false, .slice (some ⟨w.heap.size, 0, none⟩) 0 0] 82)) (w.heap.size + 1) 82 #[.string t, .int .i64 (0 : Nat), .bool false, .slice (some ⟨w.heap.size, 0, none⟩) 0 0] := by
    have := Row.new (w.alloc (.cells #[] 66)) 82 #[.string t, .int .i64 0, .bool false, .slice (some ⟨w.heap.size, 0, none⟩) 0 0]
    rw [World.size_alloc] at this
    exact this
  have ho0 : OwnTree ((w.alloc (.cells #[] 66)).alloc (.cells #[.string t, .int .i64 0, .bool false, .slice (some ⟨w.heap.size, 0, none⟩) 0 0] 82)) w.heap.size (.slice (some ⟨w.heap.size, 0, none⟩) 0 0) [] :=
    OwnTree.alloc (OwnTree.empty w (Nat.le_refl _)) _
  have hb0 : Below w.heap.size w ((w.alloc (.cells #[] 66)).alloc (.cells #[.string t, .int .i64 0, .bool false, .slice (some ⟨w.heap.size, 0, none⟩) 0 0] 82)) := ((Below.refl _ w).alloc (Nat.le_refl _) _).alloc (by simp) _
  have HR0 := Lib.hid hr0
  have HO0 := Lib.hid ho0
  have HB0 := Lib.hid hb0
  clear hr0 ho0 hb0
  go_enter Tryd.func18, Tryd.ntmps18
  go_wp2_with fail
  generalize (w.alloc (.cells #[] 66)).alloc (.cells #[.string t, .int .i64 0, .bool false, .slice (some ⟨w.heap.size, 0, none⟩) 0 0] 82) = W1 at *
  have HQ := Lib.hid (segment_any w.heap.size (w.heap.size + 1) t ht 10 0 (-1) false [] (.slice (some ⟨w.heap.size, 0, none⟩) 0 0) W1 (by simp) (Nat.zero_le _) (by omega) HR0.out HO0.out)
  refine Calls.mono HQ.out ?_
  rintro e w1 ⟨rfl, k', v', hrest, -, hk', hr, ho, hb⟩
  rw [List.drop_zero] at hrest hr ho
  have hB := HB0.out.trans hb
  clear HQ hb HR0 HO0 HB0
  have hnone : ∀ W : World, Below w.heap.size w W → parsed t.data.toList = none → ParsePost w t (.returned (.tuple #[.slice (some ⟨W.heap.size, 0, none⟩) 0 0, .bool false])) (W.alloc (.cells #[] 66)) := fun W h1 hp =>
    ⟨_, by rw [hp]; rfl, by rw [hp]; exact OwnTree.empty W h1.size, h1.alloc h1.size _⟩
  have hsize : t.data.toList.length = t.size := by simp
  cases hp : parsed t.data.toList with
  | some tr =>
    obtain ⟨hs, hv⟩ := parsed_some hp
    have hN := HN.out
    rw [hs] at hrest hr ho hN
    dsimp only at hrest hr ho hN
    have hke : k' = t.size := by
      have := congrArg List.length hrest
      rw [List.length_drop, hsize] at this
      simp at this
      omega
    obtain ⟨A, cap, rfl, hseg⟩ := ho.form
    have hneq : ((k' : Int) != (t.size : Int)) = false := by rw [hke]; simp
    have c1 : w1.cell? ⟨w.heap.size + 1, 1, none⟩ = some (.int .i64 k') := hr.cell 1
    have c2 : w1.cell? ⟨w.heap.size + 1, 2, none⟩ = some (.bool false) := hr.cell 2
    have c3 : w1.cell? ⟨w.heap.size + 1, 3, none⟩ = some (.slice A tr.length cap) := hr.cell 3
    have HTV := Lib.hid (specTreeValid_any A tr cap w1 hseg (by have := hN.1; omega) (fun s hs => by have := hN.2 s hs; unfold maxLen; omega))
    have HR := Lib.hid hr
    have HO := Lib.hid ho
    have HB := Lib.hid hB
    have HP := Lib.hid hp
    have hlt := hr.lt
    clear hr ho hB hp hs hrest hke hseg hnone hN
    go_wp2_with fail
    refine Calls.mono HTV.out ?_
    rw [hv]
    rintro e w2 ⟨rfl, hb2⟩
    have hr2 := HR.out.below hb2 hlt
    have c3 : w2.cell? ⟨w.heap.size + 1, 3, none⟩ = some (.slice A tr.length cap) := hr2.cell 3
    have HO2 := Lib.hid (HO.out.far (w' := w2) (fun g hg => hb2.block g (World.ownsRow.lt HO.out g hg).2))
    have HB2 := Lib.hid (HB.out.trans (hb2.mono HB.out.size))
    clear hr2 hb2 hv HTV
    go_wp2
    go_ret2
    exact ⟨_, by rw [HP.out]; rfl, by rw [HP.out]; exact HO2.out, HB2.out⟩
  | none =>
    have hn := parsed_none hp
    have hN := HN.out
    clear HN
    generalize sSeg 10 ⟨t.data.toList, false, []⟩ (-1) = s at *
    obtain ⟨rest, bad, tree⟩ := s
    dsimp only at hrest hr ho hn hN
    obtain ⟨A, cap, rfl, hseg⟩ := ho.form
    have c1 : w1.cell? ⟨w.heap.size + 1, 1, none⟩ = some (.int .i64 k') := hr.cell 1
    have c2 : w1.cell? ⟨w.heap.size + 1, 2, none⟩ = some (.bool bad) := hr.cell 2
    have c3 : w1.cell? ⟨w.heap.size + 1, 3, none⟩ = some (.slice A tree.length cap) := hr.cell 3
    have HNO := Lib.hid (fun W h => hnone W h hp)
    have HB := Lib.hid hB
    clear hnone hp hr ho hB
    cases bad with
    | true =>
      clear hn hrest hseg hN
      go_wp2
      go_ret2
      exact HNO.out _ HB.out
    | false =>
      by_cases hke : k' = t.size
      · have hneq : ((k' : Int) != (t.size : Int)) = false := by rw [hke]; simp
        have hv : validB tree = false := by
          have : rest = [] := by rw [hrest, hke]; exact List.drop_of_length_le (by omega)
          rw [this] at hn
          simpa using hn
        have HTV := Lib.hid (specTreeValid_any A tree cap w1 hseg (by have := hN.1; omega) (fun s hs => by have := hN.2 s hs; unfold maxLen; omega))
        clear hn hrest hseg hN hke
        go_wp2_with fail
        refine Calls.mono HTV.out ?_
        rw [hv]
        rintro e w2 ⟨rfl, hb2⟩
        have HB2 := Lib.hid (HB.out.trans (hb2.mono HB.out.size))
        clear hb2 hv HTV
        go_wp2
        go_ret2
        exact HNO.out _ HB2.out
      · have hneq : ((k' : Int) != (t.size : Int)) = true := by rw [bne_iff_ne]; omega
        have hne' : ¬ (k' : Int) = (t.size : Int) := by omega
        clear hn hrest hseg hN hke
        go_wp2
        go_ret2
        exact HNO.out _ HB.out

end Go.Proofs.YtdbddockmdkmeaaDoor
