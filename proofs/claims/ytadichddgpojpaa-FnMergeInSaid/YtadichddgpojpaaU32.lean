/- Joined: Oe. -/
import Derived.Test.YtadichddgpojpaaU04
import Derived.Test.YtadichddgpojpaaU05
import Derived.Test.YtadichddgpojpaaU06
/- SameSegments on both sides. -/
namespace Go.Proofs.Ytadichddgpojpaa
open Go.RowKit

def nm0 (a : List Seg) : ByteArray := match a with
  | [] => ⟨#[]⟩
  | s :: _ => s.name
theorem nm0_of {a : List Seg} (h : 0 < a.length) : nm0 a = a[0].name := by
  cases a with
  | nil => cases h
  | cons s a => rfl
def sameUp (a b : List Seg) (k : Nat) : Bool := (a.take k).all fun s => decide (sizeB b s.name = s.size)
theorem sameUp_succ {a b : List Seg} {k : Nat} (h : k < a.length) : sameUp a b (k + 1) = (sameUp a b k && decide (sizeB b a[k].name = a[k].size)) := by
  unfold sameUp
  rw [List.take_succ_eq_append_getElem h, List.all_append]
  simp
theorem sameUp_false {a b : List Seg} {k : Nat} (h : k < a.length) (hs : sizeB b a[k].name ≠ a[k].size) : sameUp a b a.length = false := by
  unfold sameUp
  rw [List.take_length, List.all_eq_false]
  exact ⟨a[k], List.getElem_mem h, by simpa using hs⟩
/-- Whether two trees have the same segments. -/
def sameSegs (a b : List Seg) : Bool := validB a && validB b && decide (a.length = b.length) && sameB (nm0 a) (nm0 b) && sameUp a b a.length

set_option maxRecDepth 100000 in
set_option maxHeartbeats 8000000 in
theorem implSame_any (A1 : Option Addr) (a : List Seg) (c1 : Nat) (A2 : Option Addr) (b : List Seg) (c2 : Nat) (w : World) (hw1 : Segs w w.heap.size A1 a) (hw2 : Segs w w.heap.size A2 b) (ha1 : a.length ≤ 1048576) (hca : a.length ≤ c1) (hma : c1 ≤ 9223372036854775807) (hna : Short a) (hb1 : b.length ≤ 1048576) (hcb : b.length ≤ c2) (hmb : c2 ≤ 9223372036854775807) (hnb : Short b) :
    Calls Try.prog 19 #[.slice A1 a.length c1, .slice A2 b.length c2] w fun e w' => e = .returned (.bool (sameSegs a b)) ∧ Below w.heap.size w w' := by
  have HW1 : Hid (Segs w w.heap.size A1 a) := hw1
  have HW2 : Hid (Segs w w.heap.size A2 b) := hw2
  have HSZ : Hid (∀ s W, Below w.heap.size w W → Calls Try.prog 56 #[.slice A2 b.length c2, .string s] W fun e W' => e = .returned (.int .i64 (sizeB b s)) ∧ Below W.heap.size W W') := fun s W hb => by
    have h : Segs W W.heap.size A2 b := (HW2.out.below hb).more hb.size
    exact sizeOf_any _ b c2 s W h hb1 hcb hmb hnb
  have HTA : Hid (∀ W, Below w.heap.size w W → Calls Try.prog 23 #[.slice A1 a.length c1] W fun e W' => e = .returned (.bool (validB a)) ∧ Below W.heap.size W W') := fun W hb => by
    have h : Segs W W.heap.size A1 a := (HW1.out.below hb).more hb.size
    exact treeValid_any _ a c1 W h ha1 hca hma hna
  have HTB : Hid (∀ W, Below w.heap.size w W → Calls Try.prog 23 #[.slice A2 b.length c2] W fun e W' => e = .returned (.bool (validB b)) ∧ Below W.heap.size W W') := fun W hb => by
    have h : Segs W W.heap.size A2 b := (HW2.out.below hb).more hb.size
    exact treeValid_any _ b c2 W h hb1 hcb hmb hnb
  have HFA : Hid (validB a = false → sameSegs a b = false) := fun h => by unfold sameSegs; rw [h]; rfl
  have HFB : Hid (validB b = false → sameSegs a b = false) := fun h => by unfold sameSegs; rw [h, Bool.and_false]; rfl
  have HFC : Hid (a.length ≠ b.length → sameSegs a b = false) := fun h => by unfold sameSegs; rw [decide_eq_false h, Bool.and_false]; rfl
  have HFD : Hid (sameB (nm0 a) (nm0 b) = false → sameSegs a b = false) := fun h => by unfold sameSegs; rw [h, Bool.and_false]; rfl
  have HFE : Hid (validB a = true → validB b = true → a.length = b.length → sameB (nm0 a) (nm0 b) = true → sameSegs a b = sameUp a b a.length) := fun h1 h2 h3 h4 => by unfold sameSegs; rw [h1, h2, decide_eq_true h3, h4]; rfl
  have HSB : Hid (sameB (nm0 a) (nm0 b) = ((nm0 a).toList == (nm0 b).toList)) := rfl
  clear hw1 hw2 hna hnb hca hma hcb hmb
  cases hva : validB a with
  | false =>
    rw [HFA.out hva]
    rw [hva] at HTA
    clear hva HFA HFB HFC HFD HFE
    go_enter Try.func19, Try.ntmps19
    go_wp2_with fail
    refine wp_region_held_drew (S := (fun w' => Below w.heap.size w w')) (by kernel_rfl) ?_ (fun hHeld => ?_)
    · exact (Below.refl _ _).drew
    refine take_at (i := 0) (d := 7) (v := .slice A1 a.length c1) rfl rfl (by kernel_rfl) (by kernel_rfl) (by kernel_rfl) (fun _ _ _ h => h) (by kernel_rfl) (by (intro w hSw; (try dsimp only at hSw); go_simp)) (by assumption) ?_
    simp only [List.setIfInBounds_toArray, List.set_cons_succ, List.set_cons_zero]
    refine wpAnyH_ready (rs := [1]) (by kernel_rfl) (by simp) ?_
    refine AllReadyH.cons rfl (fun K hK => ?_) AllReadyH.nil
    go_simp
    refine (HTA.out _ hHeld).mono ?_
    rintro e w3 ⟨rfl, hb2⟩
    have hs2 : Below w.heap.size w w3 := hHeld.trans (hb2.mono hHeld.size)
    clear hb2 hHeld
    refine hK.out _ _ hs2 (fun hHeld => ?_)
    clear hK K hs2
    refine take_at (i := 2) (d := 9) (v := .bool true) rfl rfl (by kernel_rfl) (by kernel_rfl) (by kernel_rfl) (fun _ _ _ h => h) (by kernel_rfl) (by (intro w hSw; (try dsimp only at hSw); go_simp)) (by assumption) ?_
    simp only [List.setIfInBounds_toArray, List.set_cons_succ, List.set_cons_zero]
    refine take_at (i := 3) (d := 10) (v := .bool true) rfl rfl (by kernel_rfl) (by kernel_rfl) (by kernel_rfl) (fun _ _ _ h => h) (by kernel_rfl) (by (intro w hSw; (try dsimp only at hSw); go_simp)) (by assumption) ?_
    simp only [List.setIfInBounds_toArray, List.set_cons_succ, List.set_cons_zero]
    refine skip_at (i := 4) (d := 11) rfl rfl (by kernel_rfl) (by kernel_rfl) (by kernel_rfl) (fun _ _ _ h => h) (by kernel_rfl) (by assumption) ?_
    simp only [List.setIfInBounds_toArray, List.set_cons_succ, List.set_cons_zero]
    refine skip_at (i := 5) (d := 12) rfl rfl (by kernel_rfl) (by kernel_rfl) (by kernel_rfl) (fun _ _ _ h => h) (by kernel_rfl) (by assumption) ?_
    simp only [List.setIfInBounds_toArray, List.set_cons_succ, List.set_cons_zero]
    refine skip_at (i := 6) (d := 13) rfl rfl (by kernel_rfl) (by kernel_rfl) (by kernel_rfl) (fun _ _ _ h => h) (by kernel_rfl) (by assumption) ?_
    simp only [List.setIfInBounds_toArray, List.set_cons_succ, List.set_cons_zero]
    refine take_at (i := 7) (d := 14) (v := .bool true) rfl rfl (by kernel_rfl) (by kernel_rfl) (by kernel_rfl) (fun _ _ _ h => h) (by kernel_rfl) (by (intro w hSw; (try dsimp only at hSw); go_simp)) (by assumption) ?_
    simp only [List.setIfInBounds_toArray, List.set_cons_succ, List.set_cons_zero]
    refine take_at (i := 8) (d := 15) (v := .bool true) rfl rfl (by kernel_rfl) (by kernel_rfl) (by kernel_rfl) (fun _ _ _ h => h) (by kernel_rfl) (by (intro w hSw; (try dsimp only at hSw); go_simp)) (by assumption) ?_
    simp only [List.setIfInBounds_toArray, List.set_cons_succ, List.set_cons_zero]
    refine skip_at (i := 9) (d := 16) rfl rfl (by kernel_rfl) (by kernel_rfl) (by kernel_rfl) (fun _ _ _ h => h) (by kernel_rfl) (by assumption) ?_
    simp only [List.setIfInBounds_toArray, List.set_cons_succ, List.set_cons_zero]
    refine skip_at (i := 10) (d := 17) rfl rfl (by kernel_rfl) (by kernel_rfl) (by kernel_rfl) (fun _ _ _ h => h) (by kernel_rfl) (by assumption) ?_
    simp only [List.setIfInBounds_toArray, List.set_cons_succ, List.set_cons_zero]
    refine skip_at (i := 11) (d := 18) rfl rfl (by kernel_rfl) (by kernel_rfl) (by kernel_rfl) (fun _ _ _ h => h) (by kernel_rfl) (by assumption) ?_
    simp only [List.setIfInBounds_toArray, List.set_cons_succ, List.set_cons_zero]
    refine skip_at (i := 12) (d := 19) rfl rfl (by kernel_rfl) (by kernel_rfl) (by kernel_rfl) (fun _ _ _ h => h) (by kernel_rfl) (by assumption) ?_
    simp only [List.setIfInBounds_toArray, List.set_cons_succ, List.set_cons_zero]
    refine skip_at (i := 13) (d := 20) rfl rfl (by kernel_rfl) (by kernel_rfl) (by kernel_rfl) (fun _ _ _ h => h) (by kernel_rfl) (by assumption) ?_
    simp only [List.setIfInBounds_toArray, List.set_cons_succ, List.set_cons_zero]
    refine take_at (i := 14) (d := 21) (v := .bool true) rfl rfl (by kernel_rfl) (by kernel_rfl) (by kernel_rfl) (fun _ _ _ h => h) (by kernel_rfl) (by (intro w hSw; (try dsimp only at hSw); go_simp)) (by assumption) ?_
    simp only [List.setIfInBounds_toArray, List.set_cons_succ, List.set_cons_zero]
    refine take_at (i := 15) (d := 22) (v := .bool true) rfl rfl (by kernel_rfl) (by kernel_rfl) (by kernel_rfl) (fun _ _ _ h => h) (by kernel_rfl) (by (intro w hSw; (try dsimp only at hSw); go_simp)) (by assumption) ?_
    simp only [List.setIfInBounds_toArray, List.set_cons_succ, List.set_cons_zero]
    refine skip_at (i := 16) (d := 23) rfl rfl (by kernel_rfl) (by kernel_rfl) (by kernel_rfl) (fun _ _ _ h => h) (by kernel_rfl) (by assumption) ?_
    simp only [List.setIfInBounds_toArray, List.set_cons_succ, List.set_cons_zero]
    refine skip_at (i := 17) (d := 24) rfl rfl (by kernel_rfl) (by kernel_rfl) (by kernel_rfl) (fun _ _ _ h => h) (by kernel_rfl) (by assumption) ?_
    simp only [List.setIfInBounds_toArray, List.set_cons_succ, List.set_cons_zero]
    refine skip_at (i := 18) (d := 25) rfl rfl (by kernel_rfl) (by kernel_rfl) (by kernel_rfl) (fun _ _ _ h => h) (by kernel_rfl) (by assumption) ?_
    simp only [List.setIfInBounds_toArray, List.set_cons_succ, List.set_cons_zero]
    refine skip_at (i := 19) (d := 26) rfl rfl (by kernel_rfl) (by kernel_rfl) (by kernel_rfl) (fun _ _ _ h => h) (by kernel_rfl) (by assumption) ?_
    simp only [List.setIfInBounds_toArray, List.set_cons_succ, List.set_cons_zero]
    refine skip_at (i := 20) (d := 27) rfl rfl (by kernel_rfl) (by kernel_rfl) (by kernel_rfl) (fun _ _ _ h => h) (by kernel_rfl) (by assumption) ?_
    simp only [List.setIfInBounds_toArray, List.set_cons_succ, List.set_cons_zero]
    refine skip_at (i := 21) (d := 28) rfl rfl (by kernel_rfl) (by kernel_rfl) (by kernel_rfl) (fun _ _ _ h => h) (by kernel_rfl) (by assumption) ?_
    simp only [List.setIfInBounds_toArray, List.set_cons_succ, List.set_cons_zero]
    refine skip_at (i := 22) (d := 29) rfl rfl (by kernel_rfl) (by kernel_rfl) (by kernel_rfl) (fun _ _ _ h => h) (by kernel_rfl) (by assumption) ?_
    simp only [List.setIfInBounds_toArray, List.set_cons_succ, List.set_cons_zero]
    refine skip_at (i := 23) (d := 30) rfl rfl (by kernel_rfl) (by kernel_rfl) (by kernel_rfl) (fun _ _ _ h => h) (by kernel_rfl) (by assumption) ?_
    simp only [List.setIfInBounds_toArray, List.set_cons_succ, List.set_cons_zero]
    refine skip_at (i := 24) (d := 31) rfl rfl (by kernel_rfl) (by kernel_rfl) (by kernel_rfl) (fun _ _ _ h => h) (by kernel_rfl) (by assumption) ?_
    simp only [List.setIfInBounds_toArray, List.set_cons_succ, List.set_cons_zero]
    refine take_at (i := 25) (d := 32) (v := .bool true) rfl rfl (by kernel_rfl) (by kernel_rfl) (by kernel_rfl) (fun _ _ _ h => h) (by kernel_rfl) (by (intro w hSw; (try dsimp only at hSw); go_simp)) (by assumption) ?_
    simp only [List.setIfInBounds_toArray, List.set_cons_succ, List.set_cons_zero]
    refine wpAnyH_done (by kernel_rfl) ?_ _
    have HBE : Hid (Below w.heap.size w w3) := hHeld
    clear hHeld
    go_wp2
    go_ret
    exact ⟨rfl, HBE.out⟩
  | true =>
    have h8a := (valid_all hva).2.1
    rw [hva] at HTA
    cases hvb : validB b with
    | false =>
      rw [HFB.out hvb]
      rw [hvb] at HTB
      clear hva hvb HFA HFB HFC HFD HFE
      go_enter Try.func19, Try.ntmps19
      go_wp2_with fail
      refine wp_region_held_drew (S := (fun w' => Below w.heap.size w w')) (by kernel_rfl) ?_ (fun hHeld => ?_)
      · exact (Below.refl _ _).drew
      refine take_at (i := 0) (d := 7) (v := .slice A1 a.length c1) rfl rfl (by kernel_rfl) (by kernel_rfl) (by kernel_rfl) (fun _ _ _ h => h) (by kernel_rfl) (by (intro w hSw; (try dsimp only at hSw); go_simp)) (by assumption) ?_
      simp only [List.setIfInBounds_toArray, List.set_cons_succ, List.set_cons_zero]
      refine wpAnyH_ready (rs := [1]) (by kernel_rfl) (by simp) ?_
      refine AllReadyH.cons rfl (fun K hK => ?_) AllReadyH.nil
      go_simp
      refine (HTA.out _ hHeld).mono ?_
      rintro e w3 ⟨rfl, hb2⟩
      have hs2 : Below w.heap.size w w3 := hHeld.trans (hb2.mono hHeld.size)
      clear hb2 hHeld
      refine hK.out _ _ hs2 (fun hHeld => ?_)
      clear hK K hs2
      refine take_at (i := 2) (d := 9) (v := .bool false) rfl rfl (by kernel_rfl) (by kernel_rfl) (by kernel_rfl) (fun _ _ _ h => h) (by kernel_rfl) (by (intro w hSw; (try dsimp only at hSw); go_simp)) (by assumption) ?_
      simp only [List.setIfInBounds_toArray, List.set_cons_succ, List.set_cons_zero]
      refine take_at (i := 3) (d := 10) (v := .bool false) rfl rfl (by kernel_rfl) (by kernel_rfl) (by kernel_rfl) (fun _ _ _ h => h) (by kernel_rfl) (by (intro w hSw; (try dsimp only at hSw); go_simp)) (by assumption) ?_
      simp only [List.setIfInBounds_toArray, List.set_cons_succ, List.set_cons_zero]
      refine take_at (i := 4) (d := 11) (v := .slice A2 b.length c2) rfl rfl (by kernel_rfl) (by kernel_rfl) (by kernel_rfl) (fun _ _ _ h => h) (by kernel_rfl) (by (intro w hSw; (try dsimp only at hSw); go_simp)) (by assumption) ?_
      simp only [List.setIfInBounds_toArray, List.set_cons_succ, List.set_cons_zero]
      refine wpAnyH_ready (rs := [5]) (by kernel_rfl) (by simp) ?_
      refine AllReadyH.cons rfl (fun K hK => ?_) AllReadyH.nil
      go_simp
      refine (HTB.out _ hHeld).mono ?_
      rintro e w4 ⟨rfl, hb2⟩
      have hs2 : Below w.heap.size w w4 := hHeld.trans (hb2.mono hHeld.size)
      clear hb2 hHeld
      refine hK.out _ _ hs2 (fun hHeld => ?_)
      clear hK K hs2
      refine take_at (i := 6) (d := 13) (v := .bool true) rfl rfl (by kernel_rfl) (by kernel_rfl) (by kernel_rfl) (fun _ _ _ h => h) (by kernel_rfl) (by (intro w hSw; (try dsimp only at hSw); go_simp)) (by assumption) ?_
      simp only [List.setIfInBounds_toArray, List.set_cons_succ, List.set_cons_zero]
      refine take_at (i := 7) (d := 14) (v := .bool true) rfl rfl (by kernel_rfl) (by kernel_rfl) (by kernel_rfl) (fun _ _ _ h => h) (by kernel_rfl) (by (intro w hSw; (try dsimp only at hSw); go_simp)) (by assumption) ?_
      simp only [List.setIfInBounds_toArray, List.set_cons_succ, List.set_cons_zero]
      refine take_at (i := 8) (d := 15) (v := .bool true) rfl rfl (by kernel_rfl) (by kernel_rfl) (by kernel_rfl) (fun _ _ _ h => h) (by kernel_rfl) (by (intro w hSw; (try dsimp only at hSw); go_simp)) (by assumption) ?_
      simp only [List.setIfInBounds_toArray, List.set_cons_succ, List.set_cons_zero]
      refine skip_at (i := 9) (d := 16) rfl rfl (by kernel_rfl) (by kernel_rfl) (by kernel_rfl) (fun _ _ _ h => h) (by kernel_rfl) (by assumption) ?_
      simp only [List.setIfInBounds_toArray, List.set_cons_succ, List.set_cons_zero]
      refine skip_at (i := 10) (d := 17) rfl rfl (by kernel_rfl) (by kernel_rfl) (by kernel_rfl) (fun _ _ _ h => h) (by kernel_rfl) (by assumption) ?_
      simp only [List.setIfInBounds_toArray, List.set_cons_succ, List.set_cons_zero]
      refine skip_at (i := 11) (d := 18) rfl rfl (by kernel_rfl) (by kernel_rfl) (by kernel_rfl) (fun _ _ _ h => h) (by kernel_rfl) (by assumption) ?_
      simp only [List.setIfInBounds_toArray, List.set_cons_succ, List.set_cons_zero]
      refine skip_at (i := 12) (d := 19) rfl rfl (by kernel_rfl) (by kernel_rfl) (by kernel_rfl) (fun _ _ _ h => h) (by kernel_rfl) (by assumption) ?_
      simp only [List.setIfInBounds_toArray, List.set_cons_succ, List.set_cons_zero]
      refine skip_at (i := 13) (d := 20) rfl rfl (by kernel_rfl) (by kernel_rfl) (by kernel_rfl) (fun _ _ _ h => h) (by kernel_rfl) (by assumption) ?_
      simp only [List.setIfInBounds_toArray, List.set_cons_succ, List.set_cons_zero]
      refine take_at (i := 14) (d := 21) (v := .bool true) rfl rfl (by kernel_rfl) (by kernel_rfl) (by kernel_rfl) (fun _ _ _ h => h) (by kernel_rfl) (by (intro w hSw; (try dsimp only at hSw); go_simp)) (by assumption) ?_
      simp only [List.setIfInBounds_toArray, List.set_cons_succ, List.set_cons_zero]
      refine take_at (i := 15) (d := 22) (v := .bool true) rfl rfl (by kernel_rfl) (by kernel_rfl) (by kernel_rfl) (fun _ _ _ h => h) (by kernel_rfl) (by (intro w hSw; (try dsimp only at hSw); go_simp)) (by assumption) ?_
      simp only [List.setIfInBounds_toArray, List.set_cons_succ, List.set_cons_zero]
      refine skip_at (i := 16) (d := 23) rfl rfl (by kernel_rfl) (by kernel_rfl) (by kernel_rfl) (fun _ _ _ h => h) (by kernel_rfl) (by assumption) ?_
      simp only [List.setIfInBounds_toArray, List.set_cons_succ, List.set_cons_zero]
      refine skip_at (i := 17) (d := 24) rfl rfl (by kernel_rfl) (by kernel_rfl) (by kernel_rfl) (fun _ _ _ h => h) (by kernel_rfl) (by assumption) ?_
      simp only [List.setIfInBounds_toArray, List.set_cons_succ, List.set_cons_zero]
      refine skip_at (i := 18) (d := 25) rfl rfl (by kernel_rfl) (by kernel_rfl) (by kernel_rfl) (fun _ _ _ h => h) (by kernel_rfl) (by assumption) ?_
      simp only [List.setIfInBounds_toArray, List.set_cons_succ, List.set_cons_zero]
      refine skip_at (i := 19) (d := 26) rfl rfl (by kernel_rfl) (by kernel_rfl) (by kernel_rfl) (fun _ _ _ h => h) (by kernel_rfl) (by assumption) ?_
      simp only [List.setIfInBounds_toArray, List.set_cons_succ, List.set_cons_zero]
      refine skip_at (i := 20) (d := 27) rfl rfl (by kernel_rfl) (by kernel_rfl) (by kernel_rfl) (fun _ _ _ h => h) (by kernel_rfl) (by assumption) ?_
      simp only [List.setIfInBounds_toArray, List.set_cons_succ, List.set_cons_zero]
      refine skip_at (i := 21) (d := 28) rfl rfl (by kernel_rfl) (by kernel_rfl) (by kernel_rfl) (fun _ _ _ h => h) (by kernel_rfl) (by assumption) ?_
      simp only [List.setIfInBounds_toArray, List.set_cons_succ, List.set_cons_zero]
      refine skip_at (i := 22) (d := 29) rfl rfl (by kernel_rfl) (by kernel_rfl) (by kernel_rfl) (fun _ _ _ h => h) (by kernel_rfl) (by assumption) ?_
      simp only [List.setIfInBounds_toArray, List.set_cons_succ, List.set_cons_zero]
      refine skip_at (i := 23) (d := 30) rfl rfl (by kernel_rfl) (by kernel_rfl) (by kernel_rfl) (fun _ _ _ h => h) (by kernel_rfl) (by assumption) ?_
      simp only [List.setIfInBounds_toArray, List.set_cons_succ, List.set_cons_zero]
      refine skip_at (i := 24) (d := 31) rfl rfl (by kernel_rfl) (by kernel_rfl) (by kernel_rfl) (fun _ _ _ h => h) (by kernel_rfl) (by assumption) ?_
      simp only [List.setIfInBounds_toArray, List.set_cons_succ, List.set_cons_zero]
      refine take_at (i := 25) (d := 32) (v := .bool true) rfl rfl (by kernel_rfl) (by kernel_rfl) (by kernel_rfl) (fun _ _ _ h => h) (by kernel_rfl) (by (intro w hSw; (try dsimp only at hSw); go_simp)) (by assumption) ?_
      simp only [List.setIfInBounds_toArray, List.set_cons_succ, List.set_cons_zero]
      refine wpAnyH_done (by kernel_rfl) ?_ _
      have HBE : Hid (Below w.heap.size w w4) := hHeld
      clear hHeld
      go_wp2
      go_ret
      exact ⟨rfl, HBE.out⟩
    | true =>
      rw [hvb] at HTB
      have h0a : 0 < a.length := (valid_all hva).2.2
      have h0b : 0 < b.length := (valid_all hvb).2.2
      obtain ⟨b1, o1, rfl, hB1, hc1⟩ := HW1.out h0a
      obtain ⟨b2, o2, rfl, hB2, hc2⟩ := HW2.out h0b
      have hn1 := (hc1 0 a[0] (List.getElem?_eq_getElem h0a)).1
      have hn2 := (hc2 0 b[0] (List.getElem?_eq_getElem h0b)).1
      rw [← nm0_of h0a, Nat.zero_mul, Nat.add_zero] at hn1
      rw [← nm0_of h0b, Nat.zero_mul, Nat.add_zero] at hn2
      have HC1 : Hid (w.drew.cell? ⟨b1, o1, none⟩ = some (.string (nm0 a))) := hn1
      have HC2 : Hid (w.drew.cell? ⟨b2, o2, none⟩ = some (.string (nm0 b))) := hn2
      have HL1 := Lib.hid hB1
      have HL2 := Lib.hid hB2
      have i1 : (0 : Int) < (a.length : Int) := by omega
      have i2 : (0 : Int) < (b.length : Int) := by omega
      clear hc1 hc2 hn1 hn2
      generalize nm0 a = n1 at *
      generalize nm0 b = n2 at *
      by_cases hln : a.length = b.length
      · cases hnm : sameB n1 n2 with
        | false =>
          rw [HFD.out hnm]
          rw [HSB.out] at hnm
          have q4 : ((a.length : Int) != (b.length : Int)) = false := by rw [bne_eq_false_iff_eq]; omega
          clear hva hvb hln HFA HFB HFC HFD HFE
          go_enter Try.func19, Try.ntmps19
          go_wp2_with fail
          refine wp_region_held_drew (S := (fun w' => w'.cell? ⟨b1, o1, none⟩ = some (.string n1) ∧ w'.cell? ⟨b2, o2, none⟩ = some (.string n2) ∧ Below w.heap.size w w')) (by kernel_rfl) ?_ (fun hHeld => ?_)
          · exact ⟨HC1.out, HC2.out, (Below.refl _ _).drew⟩
          refine take_at (i := 0) (d := 7) (v := .slice (some ⟨b1, o1, none⟩) a.length c1) rfl rfl (by kernel_rfl) (by kernel_rfl) (by kernel_rfl) (fun _ _ _ h => h) (by kernel_rfl) (by (intro w hSw; (try dsimp only at hSw); go_simp)) (by assumption) ?_
          simp only [List.setIfInBounds_toArray, List.set_cons_succ, List.set_cons_zero]
          refine wpAnyH_ready (rs := [1]) (by kernel_rfl) (by simp) ?_
          refine AllReadyH.cons rfl (fun K hK => ?_) AllReadyH.nil
          go_simp
          refine (HTA.out _ hHeld.2.2).mono ?_
          rintro e w3 ⟨rfl, hb2⟩
          have hs2 : w3.cell? ⟨b1, o1, none⟩ = some (.string n1) ∧ w3.cell? ⟨b2, o2, none⟩ = some (.string n2) ∧ Below w.heap.size w w3 := ⟨(hb2.cell (p := ⟨b1, o1, none⟩) (Nat.lt_of_lt_of_le HL1.out hHeld.2.2.size)).trans hHeld.1, (hb2.cell (p := ⟨b2, o2, none⟩) (Nat.lt_of_lt_of_le HL2.out hHeld.2.2.size)).trans hHeld.2.1, hHeld.2.2.trans (hb2.mono hHeld.2.2.size)⟩
          clear hb2 hHeld
          refine hK.out _ _ hs2 (fun hHeld => ?_)
          clear hK K hs2
          refine take_at (i := 2) (d := 9) (v := .bool false) rfl rfl (by kernel_rfl) (by kernel_rfl) (by kernel_rfl) (fun _ _ _ h => h) (by kernel_rfl) (by (intro w hSw; (try dsimp only at hSw); go_simp)) (by assumption) ?_
          simp only [List.setIfInBounds_toArray, List.set_cons_succ, List.set_cons_zero]
          refine take_at (i := 3) (d := 10) (v := .bool false) rfl rfl (by kernel_rfl) (by kernel_rfl) (by kernel_rfl) (fun _ _ _ h => h) (by kernel_rfl) (by (intro w hSw; (try dsimp only at hSw); go_simp)) (by assumption) ?_
          simp only [List.setIfInBounds_toArray, List.set_cons_succ, List.set_cons_zero]
          refine take_at (i := 4) (d := 11) (v := .slice (some ⟨b2, o2, none⟩) b.length c2) rfl rfl (by kernel_rfl) (by kernel_rfl) (by kernel_rfl) (fun _ _ _ h => h) (by kernel_rfl) (by (intro w hSw; (try dsimp only at hSw); go_simp)) (by assumption) ?_
          simp only [List.setIfInBounds_toArray, List.set_cons_succ, List.set_cons_zero]
          refine wpAnyH_ready (rs := [5]) (by kernel_rfl) (by simp) ?_
          refine AllReadyH.cons rfl (fun K hK => ?_) AllReadyH.nil
          go_simp
          refine (HTB.out _ hHeld.2.2).mono ?_
          rintro e w4 ⟨rfl, hb2⟩
          have hs2 : w4.cell? ⟨b1, o1, none⟩ = some (.string n1) ∧ w4.cell? ⟨b2, o2, none⟩ = some (.string n2) ∧ Below w.heap.size w w4 := ⟨(hb2.cell (p := ⟨b1, o1, none⟩) (Nat.lt_of_lt_of_le HL1.out hHeld.2.2.size)).trans hHeld.1, (hb2.cell (p := ⟨b2, o2, none⟩) (Nat.lt_of_lt_of_le HL2.out hHeld.2.2.size)).trans hHeld.2.1, hHeld.2.2.trans (hb2.mono hHeld.2.2.size)⟩
          clear hb2 hHeld
          refine hK.out _ _ hs2 (fun hHeld => ?_)
          clear hK K hs2
          refine take_at (i := 6) (d := 13) (v := .bool false) rfl rfl (by kernel_rfl) (by kernel_rfl) (by kernel_rfl) (fun _ _ _ h => h) (by kernel_rfl) (by (intro w hSw; (try dsimp only at hSw); go_simp)) (by assumption) ?_
          simp only [List.setIfInBounds_toArray, List.set_cons_succ, List.set_cons_zero]
          refine take_at (i := 7) (d := 14) (v := .bool false) rfl rfl (by kernel_rfl) (by kernel_rfl) (by kernel_rfl) (fun _ _ _ h => h) (by kernel_rfl) (by (intro w hSw; (try dsimp only at hSw); go_simp)) (by assumption) ?_
          simp only [List.setIfInBounds_toArray, List.set_cons_succ, List.set_cons_zero]
          refine take_at (i := 8) (d := 15) (v := .bool false) rfl rfl (by kernel_rfl) (by kernel_rfl) (by kernel_rfl) (fun _ _ _ h => h) (by kernel_rfl) (by (intro w hSw; (try dsimp only at hSw); go_simp)) (by assumption) ?_
          simp only [List.setIfInBounds_toArray, List.set_cons_succ, List.set_cons_zero]
          refine take_at (i := 9) (d := 16) (v := .slice (some ⟨b1, o1, none⟩) a.length c1) rfl rfl (by kernel_rfl) (by kernel_rfl) (by kernel_rfl) (fun _ _ _ h => h) (by kernel_rfl) (by (intro w hSw; (try dsimp only at hSw); go_simp)) (by assumption) ?_
          simp only [List.setIfInBounds_toArray, List.set_cons_succ, List.set_cons_zero]
          refine take_at (i := 10) (d := 17) (v := .int .i64 a.length) rfl rfl (by kernel_rfl) (by kernel_rfl) (by kernel_rfl) (fun _ _ _ h => h) (by kernel_rfl) (by (intro w hSw; (try dsimp only at hSw); go_simp)) (by assumption) ?_
          simp only [List.setIfInBounds_toArray, List.set_cons_succ, List.set_cons_zero]
          refine take_at (i := 11) (d := 18) (v := .slice (some ⟨b2, o2, none⟩) b.length c2) rfl rfl (by kernel_rfl) (by kernel_rfl) (by kernel_rfl) (fun _ _ _ h => h) (by kernel_rfl) (by (intro w hSw; (try dsimp only at hSw); go_simp)) (by assumption) ?_
          simp only [List.setIfInBounds_toArray, List.set_cons_succ, List.set_cons_zero]
          refine take_at (i := 12) (d := 19) (v := .int .i64 b.length) rfl rfl (by kernel_rfl) (by kernel_rfl) (by kernel_rfl) (fun _ _ _ h => h) (by kernel_rfl) (by (intro w hSw; (try dsimp only at hSw); go_simp)) (by assumption) ?_
          simp only [List.setIfInBounds_toArray, List.set_cons_succ, List.set_cons_zero]
          refine take_at (i := 13) (d := 20) (v := .bool false) rfl rfl (by kernel_rfl) (by kernel_rfl) (by kernel_rfl) (fun _ _ _ h => h) (by kernel_rfl) (by (intro w hSw; (try dsimp only at hSw); go_simp)) (by assumption) ?_
          simp only [List.setIfInBounds_toArray, List.set_cons_succ, List.set_cons_zero]
          refine take_at (i := 14) (d := 21) (v := .bool false) rfl rfl (by kernel_rfl) (by kernel_rfl) (by kernel_rfl) (fun _ _ _ h => h) (by kernel_rfl) (by (intro w hSw; (try dsimp only at hSw); go_simp)) (by assumption) ?_
          simp only [List.setIfInBounds_toArray, List.set_cons_succ, List.set_cons_zero]
          refine take_at (i := 15) (d := 22) (v := .bool false) rfl rfl (by kernel_rfl) (by kernel_rfl) (by kernel_rfl) (fun _ _ _ h => h) (by kernel_rfl) (by (intro w hSw; (try dsimp only at hSw); go_simp)) (by assumption) ?_
          simp only [List.setIfInBounds_toArray, List.set_cons_succ, List.set_cons_zero]
          refine take_at (i := 16) (d := 23) (v := .slice (some ⟨b1, o1, none⟩) a.length c1) rfl rfl (by kernel_rfl) (by kernel_rfl) (by kernel_rfl) (fun _ _ _ h => h) (by kernel_rfl) (by (intro w hSw; (try dsimp only at hSw); go_simp)) (by assumption) ?_
          simp only [List.setIfInBounds_toArray, List.set_cons_succ, List.set_cons_zero]
          refine take_at (i := 17) (d := 24) (v := .pointer (some ⟨b1, o1, none⟩)) rfl rfl (by kernel_rfl) (by kernel_rfl) (by kernel_rfl) (fun _ _ _ h => h) (by kernel_rfl) (by (intro w hSw; (try dsimp only at hSw); go_simp)) (by assumption) ?_
          simp only [List.setIfInBounds_toArray, List.set_cons_succ, List.set_cons_zero]
          refine take_at (i := 18) (d := 25) (v := .pointer (some ⟨b1, o1, none⟩)) rfl rfl (by kernel_rfl) (by kernel_rfl) (by kernel_rfl) (fun _ _ _ h => h) (by kernel_rfl) (by (intro w hSw; (try dsimp only at hSw); go_simp)) (by assumption) ?_
          simp only [List.setIfInBounds_toArray, List.set_cons_succ, List.set_cons_zero]
          refine take_at (i := 19) (d := 26) (v := .string n1) rfl rfl (by kernel_rfl) (by kernel_rfl) (by kernel_rfl) (fun _ _ _ h => h) (by kernel_rfl) (by (intro w hSw; (try dsimp only at hSw); go_simp)) (by assumption) ?_
          simp only [List.setIfInBounds_toArray, List.set_cons_succ, List.set_cons_zero]
          refine take_at (i := 20) (d := 27) (v := .slice (some ⟨b2, o2, none⟩) b.length c2) rfl rfl (by kernel_rfl) (by kernel_rfl) (by kernel_rfl) (fun _ _ _ h => h) (by kernel_rfl) (by (intro w hSw; (try dsimp only at hSw); go_simp)) (by assumption) ?_
          simp only [List.setIfInBounds_toArray, List.set_cons_succ, List.set_cons_zero]
          refine take_at (i := 21) (d := 28) (v := .pointer (some ⟨b2, o2, none⟩)) rfl rfl (by kernel_rfl) (by kernel_rfl) (by kernel_rfl) (fun _ _ _ h => h) (by kernel_rfl) (by (intro w hSw; (try dsimp only at hSw); go_simp)) (by assumption) ?_
          simp only [List.setIfInBounds_toArray, List.set_cons_succ, List.set_cons_zero]
          refine take_at (i := 22) (d := 29) (v := .pointer (some ⟨b2, o2, none⟩)) rfl rfl (by kernel_rfl) (by kernel_rfl) (by kernel_rfl) (fun _ _ _ h => h) (by kernel_rfl) (by (intro w hSw; (try dsimp only at hSw); go_simp)) (by assumption) ?_
          simp only [List.setIfInBounds_toArray, List.set_cons_succ, List.set_cons_zero]
          refine take_at (i := 23) (d := 30) (v := .string n2) rfl rfl (by kernel_rfl) (by kernel_rfl) (by kernel_rfl) (fun _ _ _ h => h) (by kernel_rfl) (by (intro w hSw; (try dsimp only at hSw); go_simp)) (by assumption) ?_
          simp only [List.setIfInBounds_toArray, List.set_cons_succ, List.set_cons_zero]
          refine take_at (i := 24) (d := 31) (v := .bool true) rfl rfl (by kernel_rfl) (by kernel_rfl) (by kernel_rfl) (fun _ _ _ h => h) (by kernel_rfl) (by (intro w hSw; (try dsimp only at hSw); go_simp)) (by assumption) ?_
          simp only [List.setIfInBounds_toArray, List.set_cons_succ, List.set_cons_zero]
          refine take_at (i := 25) (d := 32) (v := .bool true) rfl rfl (by kernel_rfl) (by kernel_rfl) (by kernel_rfl) (fun _ _ _ h => h) (by kernel_rfl) (by (intro w hSw; (try dsimp only at hSw); go_simp)) (by assumption) ?_
          simp only [List.setIfInBounds_toArray, List.set_cons_succ, List.set_cons_zero]
          refine wpAnyH_done (by kernel_rfl) ?_ _
          have HBE : Hid (Below w.heap.size w w4) := hHeld.2.2
          clear hHeld
          go_wp2
          go_ret
          exact ⟨rfl, HBE.out⟩
        | true =>
          rw [HFE.out hva hvb hln hnm]
          rw [HSB.out] at hnm
          have q4 : ((a.length : Int) != (b.length : Int)) = false := by rw [bne_eq_false_iff_eq]; omega
          clear hva hvb hln HFA HFB HFC HFD HFE
          go_enter Try.func19, Try.ntmps19
          go_wp2_with fail
          refine wp_region_held_drew (S := (fun w' => w'.cell? ⟨b1, o1, none⟩ = some (.string n1) ∧ w'.cell? ⟨b2, o2, none⟩ = some (.string n2) ∧ Below w.heap.size w w')) (by kernel_rfl) ?_ (fun hHeld => ?_)
          · exact ⟨HC1.out, HC2.out, (Below.refl _ _).drew⟩
          refine take_at (i := 0) (d := 7) (v := .slice (some ⟨b1, o1, none⟩) a.length c1) rfl rfl (by kernel_rfl) (by kernel_rfl) (by kernel_rfl) (fun _ _ _ h => h) (by kernel_rfl) (by (intro w hSw; (try dsimp only at hSw); go_simp)) (by assumption) ?_
          simp only [List.setIfInBounds_toArray, List.set_cons_succ, List.set_cons_zero]
          refine wpAnyH_ready (rs := [1]) (by kernel_rfl) (by simp) ?_
          refine AllReadyH.cons rfl (fun K hK => ?_) AllReadyH.nil
          go_simp
          refine (HTA.out _ hHeld.2.2).mono ?_
          rintro e w3 ⟨rfl, hb2⟩
          have hs2 : w3.cell? ⟨b1, o1, none⟩ = some (.string n1) ∧ w3.cell? ⟨b2, o2, none⟩ = some (.string n2) ∧ Below w.heap.size w w3 := ⟨(hb2.cell (p := ⟨b1, o1, none⟩) (Nat.lt_of_lt_of_le HL1.out hHeld.2.2.size)).trans hHeld.1, (hb2.cell (p := ⟨b2, o2, none⟩) (Nat.lt_of_lt_of_le HL2.out hHeld.2.2.size)).trans hHeld.2.1, hHeld.2.2.trans (hb2.mono hHeld.2.2.size)⟩
          clear hb2 hHeld
          refine hK.out _ _ hs2 (fun hHeld => ?_)
          clear hK K hs2
          refine take_at (i := 2) (d := 9) (v := .bool false) rfl rfl (by kernel_rfl) (by kernel_rfl) (by kernel_rfl) (fun _ _ _ h => h) (by kernel_rfl) (by (intro w hSw; (try dsimp only at hSw); go_simp)) (by assumption) ?_
          simp only [List.setIfInBounds_toArray, List.set_cons_succ, List.set_cons_zero]
          refine take_at (i := 3) (d := 10) (v := .bool false) rfl rfl (by kernel_rfl) (by kernel_rfl) (by kernel_rfl) (fun _ _ _ h => h) (by kernel_rfl) (by (intro w hSw; (try dsimp only at hSw); go_simp)) (by assumption) ?_
          simp only [List.setIfInBounds_toArray, List.set_cons_succ, List.set_cons_zero]
          refine take_at (i := 4) (d := 11) (v := .slice (some ⟨b2, o2, none⟩) b.length c2) rfl rfl (by kernel_rfl) (by kernel_rfl) (by kernel_rfl) (fun _ _ _ h => h) (by kernel_rfl) (by (intro w hSw; (try dsimp only at hSw); go_simp)) (by assumption) ?_
          simp only [List.setIfInBounds_toArray, List.set_cons_succ, List.set_cons_zero]
          refine wpAnyH_ready (rs := [5]) (by kernel_rfl) (by simp) ?_
          refine AllReadyH.cons rfl (fun K hK => ?_) AllReadyH.nil
          go_simp
          refine (HTB.out _ hHeld.2.2).mono ?_
          rintro e w4 ⟨rfl, hb2⟩
          have hs2 : w4.cell? ⟨b1, o1, none⟩ = some (.string n1) ∧ w4.cell? ⟨b2, o2, none⟩ = some (.string n2) ∧ Below w.heap.size w w4 := ⟨(hb2.cell (p := ⟨b1, o1, none⟩) (Nat.lt_of_lt_of_le HL1.out hHeld.2.2.size)).trans hHeld.1, (hb2.cell (p := ⟨b2, o2, none⟩) (Nat.lt_of_lt_of_le HL2.out hHeld.2.2.size)).trans hHeld.2.1, hHeld.2.2.trans (hb2.mono hHeld.2.2.size)⟩
          clear hb2 hHeld
          refine hK.out _ _ hs2 (fun hHeld => ?_)
          clear hK K hs2
          refine take_at (i := 6) (d := 13) (v := .bool false) rfl rfl (by kernel_rfl) (by kernel_rfl) (by kernel_rfl) (fun _ _ _ h => h) (by kernel_rfl) (by (intro w hSw; (try dsimp only at hSw); go_simp)) (by assumption) ?_
          simp only [List.setIfInBounds_toArray, List.set_cons_succ, List.set_cons_zero]
          refine take_at (i := 7) (d := 14) (v := .bool false) rfl rfl (by kernel_rfl) (by kernel_rfl) (by kernel_rfl) (fun _ _ _ h => h) (by kernel_rfl) (by (intro w hSw; (try dsimp only at hSw); go_simp)) (by assumption) ?_
          simp only [List.setIfInBounds_toArray, List.set_cons_succ, List.set_cons_zero]
          refine take_at (i := 8) (d := 15) (v := .bool false) rfl rfl (by kernel_rfl) (by kernel_rfl) (by kernel_rfl) (fun _ _ _ h => h) (by kernel_rfl) (by (intro w hSw; (try dsimp only at hSw); go_simp)) (by assumption) ?_
          simp only [List.setIfInBounds_toArray, List.set_cons_succ, List.set_cons_zero]
          refine take_at (i := 9) (d := 16) (v := .slice (some ⟨b1, o1, none⟩) a.length c1) rfl rfl (by kernel_rfl) (by kernel_rfl) (by kernel_rfl) (fun _ _ _ h => h) (by kernel_rfl) (by (intro w hSw; (try dsimp only at hSw); go_simp)) (by assumption) ?_
          simp only [List.setIfInBounds_toArray, List.set_cons_succ, List.set_cons_zero]
          refine take_at (i := 10) (d := 17) (v := .int .i64 a.length) rfl rfl (by kernel_rfl) (by kernel_rfl) (by kernel_rfl) (fun _ _ _ h => h) (by kernel_rfl) (by (intro w hSw; (try dsimp only at hSw); go_simp)) (by assumption) ?_
          simp only [List.setIfInBounds_toArray, List.set_cons_succ, List.set_cons_zero]
          refine take_at (i := 11) (d := 18) (v := .slice (some ⟨b2, o2, none⟩) b.length c2) rfl rfl (by kernel_rfl) (by kernel_rfl) (by kernel_rfl) (fun _ _ _ h => h) (by kernel_rfl) (by (intro w hSw; (try dsimp only at hSw); go_simp)) (by assumption) ?_
          simp only [List.setIfInBounds_toArray, List.set_cons_succ, List.set_cons_zero]
          refine take_at (i := 12) (d := 19) (v := .int .i64 b.length) rfl rfl (by kernel_rfl) (by kernel_rfl) (by kernel_rfl) (fun _ _ _ h => h) (by kernel_rfl) (by (intro w hSw; (try dsimp only at hSw); go_simp)) (by assumption) ?_
          simp only [List.setIfInBounds_toArray, List.set_cons_succ, List.set_cons_zero]
          refine take_at (i := 13) (d := 20) (v := .bool false) rfl rfl (by kernel_rfl) (by kernel_rfl) (by kernel_rfl) (fun _ _ _ h => h) (by kernel_rfl) (by (intro w hSw; (try dsimp only at hSw); go_simp)) (by assumption) ?_
          simp only [List.setIfInBounds_toArray, List.set_cons_succ, List.set_cons_zero]
          refine take_at (i := 14) (d := 21) (v := .bool false) rfl rfl (by kernel_rfl) (by kernel_rfl) (by kernel_rfl) (fun _ _ _ h => h) (by kernel_rfl) (by (intro w hSw; (try dsimp only at hSw); go_simp)) (by assumption) ?_
          simp only [List.setIfInBounds_toArray, List.set_cons_succ, List.set_cons_zero]
          refine take_at (i := 15) (d := 22) (v := .bool false) rfl rfl (by kernel_rfl) (by kernel_rfl) (by kernel_rfl) (fun _ _ _ h => h) (by kernel_rfl) (by (intro w hSw; (try dsimp only at hSw); go_simp)) (by assumption) ?_
          simp only [List.setIfInBounds_toArray, List.set_cons_succ, List.set_cons_zero]
          refine take_at (i := 16) (d := 23) (v := .slice (some ⟨b1, o1, none⟩) a.length c1) rfl rfl (by kernel_rfl) (by kernel_rfl) (by kernel_rfl) (fun _ _ _ h => h) (by kernel_rfl) (by (intro w hSw; (try dsimp only at hSw); go_simp)) (by assumption) ?_
          simp only [List.setIfInBounds_toArray, List.set_cons_succ, List.set_cons_zero]
          refine take_at (i := 17) (d := 24) (v := .pointer (some ⟨b1, o1, none⟩)) rfl rfl (by kernel_rfl) (by kernel_rfl) (by kernel_rfl) (fun _ _ _ h => h) (by kernel_rfl) (by (intro w hSw; (try dsimp only at hSw); go_simp)) (by assumption) ?_
          simp only [List.setIfInBounds_toArray, List.set_cons_succ, List.set_cons_zero]
          refine take_at (i := 18) (d := 25) (v := .pointer (some ⟨b1, o1, none⟩)) rfl rfl (by kernel_rfl) (by kernel_rfl) (by kernel_rfl) (fun _ _ _ h => h) (by kernel_rfl) (by (intro w hSw; (try dsimp only at hSw); go_simp)) (by assumption) ?_
          simp only [List.setIfInBounds_toArray, List.set_cons_succ, List.set_cons_zero]
          refine take_at (i := 19) (d := 26) (v := .string n1) rfl rfl (by kernel_rfl) (by kernel_rfl) (by kernel_rfl) (fun _ _ _ h => h) (by kernel_rfl) (by (intro w hSw; (try dsimp only at hSw); go_simp)) (by assumption) ?_
          simp only [List.setIfInBounds_toArray, List.set_cons_succ, List.set_cons_zero]
          refine take_at (i := 20) (d := 27) (v := .slice (some ⟨b2, o2, none⟩) b.length c2) rfl rfl (by kernel_rfl) (by kernel_rfl) (by kernel_rfl) (fun _ _ _ h => h) (by kernel_rfl) (by (intro w hSw; (try dsimp only at hSw); go_simp)) (by assumption) ?_
          simp only [List.setIfInBounds_toArray, List.set_cons_succ, List.set_cons_zero]
          refine take_at (i := 21) (d := 28) (v := .pointer (some ⟨b2, o2, none⟩)) rfl rfl (by kernel_rfl) (by kernel_rfl) (by kernel_rfl) (fun _ _ _ h => h) (by kernel_rfl) (by (intro w hSw; (try dsimp only at hSw); go_simp)) (by assumption) ?_
          simp only [List.setIfInBounds_toArray, List.set_cons_succ, List.set_cons_zero]
          refine take_at (i := 22) (d := 29) (v := .pointer (some ⟨b2, o2, none⟩)) rfl rfl (by kernel_rfl) (by kernel_rfl) (by kernel_rfl) (fun _ _ _ h => h) (by kernel_rfl) (by (intro w hSw; (try dsimp only at hSw); go_simp)) (by assumption) ?_
          simp only [List.setIfInBounds_toArray, List.set_cons_succ, List.set_cons_zero]
          refine take_at (i := 23) (d := 30) (v := .string n2) rfl rfl (by kernel_rfl) (by kernel_rfl) (by kernel_rfl) (fun _ _ _ h => h) (by kernel_rfl) (by (intro w hSw; (try dsimp only at hSw); go_simp)) (by assumption) ?_
          simp only [List.setIfInBounds_toArray, List.set_cons_succ, List.set_cons_zero]
          refine take_at (i := 24) (d := 31) (v := .bool false) rfl rfl (by kernel_rfl) (by kernel_rfl) (by kernel_rfl) (fun _ _ _ h => h) (by kernel_rfl) (by (intro w hSw; (try dsimp only at hSw); go_simp)) (by assumption) ?_
          simp only [List.setIfInBounds_toArray, List.set_cons_succ, List.set_cons_zero]
          refine take_at (i := 25) (d := 32) (v := .bool false) rfl rfl (by kernel_rfl) (by kernel_rfl) (by kernel_rfl) (fun _ _ _ h => h) (by kernel_rfl) (by (intro w hSw; (try dsimp only at hSw); go_simp)) (by assumption) ?_
          simp only [List.setIfInBounds_toArray, List.set_cons_succ, List.set_cons_zero]
          refine wpAnyH_done (by kernel_rfl) ?_ _
          have HBE : Hid (Below w.heap.size w w4) := hHeld.2.2
          clear hHeld HTA HTB HC1 HC2 q4 hnm
          have HF0 : Hid (sameUp a b 0 = true) := rfl
          have HFS := Lib.hid (fun k (h : k < a.length) => sameUp_succ (b := b) h)
          have HFN := Lib.hid (fun k (h : k < a.length) => sameUp_false (b := b) h)
          go_wp2
          go_loopw [35] (fun iv wr => ∃ k : Nat, k ≤ a.length ∧ iv = .int .i64 k ∧ Hid (sameUp a b k = true) ∧ Hid (Below w.heap.size w wr))
            (fun iv _ => a.length - (intOf iv).toNat)
          case atStart => exact ⟨0, Nat.zero_le _, rfl, HF0, HBE⟩
          case round =>
            clear HBE HF0
            obtain ⟨k, hk, rfl, HU, HB⟩ := hrel
            have hk0 : (0 : Int) ≤ (k : Int) := Int.natCast_nonneg _
            by_cases hlt : k < a.length
            · have hlt' : (k : Int) < (a.length : Int) := by omega
              obtain ⟨b9, o9, e9, -, hc⟩ := HW1.out h0a
              injection e9 with e9
              injection e9 with e1 e2
              subst e1 e2
              obtain ⟨d0, d1, d2⟩ := hc k a[k] (List.getElem?_eq_getElem hlt)
              clear hc
              rw [← HB.out.cell (p := ⟨b1, o1 + k * 3, none⟩) HL1.out] at d0
              rw [← HB.out.cell (p := ⟨b1, o1 + k * 3 + 1, none⟩) HL1.out] at d1
              rw [← HB.out.cell (p := ⟨b1, o1 + k * 3 + 2, none⟩) HL1.out] at d2
              have HSU := HFS.out k hlt
              have HNO := Lib.hid (HFN.out k hlt)
              rw [HU.out, Bool.true_and] at HSU
              have HSU := Lib.hid HSU
              have HBA := fun p q r => Lib.hid (HB.out.alloc HB.out.size (.cells #[.string p, .int .i64 q, .int .i64 r] 36))
              have hwr := HB.out.size
              generalize a[k].name = nm at *
              generalize a[k].size = sz at *
              generalize a[k].par = pr at *
              have HNW := fun j => Lib.hid ((Row.new wr 36 #[.string nm, .int .i64 sz, .int .i64 pr]).cell j)
              go_wp2_with fail
              refine wp_region_held_drew (S := (fun w' => w'.cell? ⟨wr.heap.size, 0, none⟩ = some (.string nm) ∧ w'.cell? ⟨wr.heap.size, 1, none⟩ = some (.int .i64 sz) ∧ Below w.heap.size w w' ∧ wr.heap.size < w'.heap.size)) (by kernel_rfl) ?_ (fun hHeld => ?_)
              · exact ⟨(HNW 0).out, (HNW 1).out, (HBA nm sz pr).out.drew, by simp⟩
              refine take_at (i := 0) (d := 39) (v := .slice (some ⟨b2, o2, none⟩) b.length c2) rfl rfl (by kernel_rfl) (by kernel_rfl) (by kernel_rfl) (fun _ _ _ h => h) (by kernel_rfl) (by (intro w hSw; (try dsimp only at hSw); go_simp)) (by assumption) ?_
              simp only [List.setIfInBounds_toArray, List.set_cons_succ, List.set_cons_zero]
              refine take_at (i := 1) (d := 40) (v := .pointer (some ⟨wr.heap.size, 0, none⟩)) rfl rfl (by kernel_rfl) (by kernel_rfl) (by kernel_rfl) (fun _ _ _ h => h) (by kernel_rfl) (by (intro w hSw; (try dsimp only at hSw); go_simp)) (by assumption) ?_
              simp only [List.setIfInBounds_toArray, List.set_cons_succ, List.set_cons_zero]
              refine take_at (i := 2) (d := 41) (v := .string nm) rfl rfl (by kernel_rfl) (by kernel_rfl) (by kernel_rfl) (fun _ _ _ h => h) (by kernel_rfl) (by (intro w hSw; (try dsimp only at hSw); go_simp)) (by assumption) ?_
              simp only [List.setIfInBounds_toArray, List.set_cons_succ, List.set_cons_zero]
              refine take_at (i := 4) (d := 43) (v := .pointer (some ⟨wr.heap.size, 1, none⟩)) rfl rfl (by kernel_rfl) (by kernel_rfl) (by kernel_rfl) (fun _ _ _ h => h) (by kernel_rfl) (by (intro w hSw; (try dsimp only at hSw); go_simp)) (by assumption) ?_
              simp only [List.setIfInBounds_toArray, List.set_cons_succ, List.set_cons_zero]
              refine take_at (i := 5) (d := 44) (v := .int .i64 sz) rfl rfl (by kernel_rfl) (by kernel_rfl) (by kernel_rfl) (fun _ _ _ h => h) (by kernel_rfl) (by (intro w hSw; (try dsimp only at hSw); go_simp)) (by assumption) ?_
              simp only [List.setIfInBounds_toArray, List.set_cons_succ, List.set_cons_zero]
              refine wpAnyH_ready (rs := [3]) (by kernel_rfl) (by simp) ?_
              refine AllReadyH.cons rfl (fun K hK => ?_) AllReadyH.nil
              go_simp
              refine (HSZ.out nm _ hHeld.2.2.1).mono ?_
              rintro e w5 ⟨rfl, hb2⟩
              have hs2 : w5.cell? ⟨wr.heap.size, 0, none⟩ = some (.string nm) ∧ w5.cell? ⟨wr.heap.size, 1, none⟩ = some (.int .i64 sz) ∧ Below w.heap.size w w5 ∧ wr.heap.size < w5.heap.size := ⟨(hb2.cell (p := ⟨wr.heap.size, 0, none⟩) hHeld.2.2.2).trans hHeld.1, (hb2.cell (p := ⟨wr.heap.size, 1, none⟩) hHeld.2.2.2).trans hHeld.2.1, hHeld.2.2.1.trans (hb2.mono hHeld.2.2.1.size), by have := hb2.size; have := hHeld.2.2.2; omega⟩
              clear hb2 hHeld
              refine hK.out _ _ hs2 (fun hHeld => ?_)
              clear hK K hs2
              by_cases heq : sizeB b nm = sz
              · have HUP : Hid (sameUp a b (k + 1) = true) := by
                  show _ = _
                  rw [HSU.out]
                  exact decide_eq_true heq
                have hne : (sizeB b nm != sz) = false := by rw [bne_eq_false_iff_eq]; exact heq
                generalize sizeB b nm = z at *
                clear heq
                refine take_at (i := 6) (d := 45) (v := .bool false) rfl rfl (by kernel_rfl) (by kernel_rfl) (by kernel_rfl) (fun _ _ _ h => h) (by kernel_rfl) (by (intro w hSw; (try dsimp only at hSw); go_simp)) (by assumption) ?_
                simp only [List.setIfInBounds_toArray, List.set_cons_succ, List.set_cons_zero]
                refine wpAnyH_done (by kernel_rfl) ?_ _
                have HB5 : Hid (Below w.heap.size w w5) := hHeld.2.2.1
                clear hHeld d0 d1 d2
                go_wp2
                go_roundw
                case rel => exact ⟨k + 1, by omega, by go_num, HUP, HB5⟩
                case measure => simp [intOf]; omega
              · have hne : (sizeB b nm != sz) = true := by rw [bne_iff_ne]; exact heq
                have HEQ := Lib.hid (HNO.out heq)
                clear heq HNO
                generalize sizeB b nm = z at *
                refine take_at (i := 6) (d := 45) (v := .bool true) rfl rfl (by kernel_rfl) (by kernel_rfl) (by kernel_rfl) (fun _ _ _ h => h) (by kernel_rfl) (by (intro w hSw; (try dsimp only at hSw); go_simp)) (by assumption) ?_
                simp only [List.setIfInBounds_toArray, List.set_cons_succ, List.set_cons_zero]
                refine wpAnyH_done (by kernel_rfl) ?_ _
                have HB5 : Hid (Below w.heap.size w w5) := hHeld.2.2.1
                clear hHeld d0 d1 d2
                go_wp2
                go_ret
                exact ⟨ret_bool HEQ.out.symm, HB5.out⟩
            · obtain rfl : k = a.length := by omega
              go_wp2
              go_ret
              exact ⟨ret_bool HU.out.symm, HB.out⟩
      · rw [HFC.out hln]
        have q3 : decide ((a.length : Int) = (b.length : Int)) = false := decide_eq_false (by omega)
        have q4 : ((a.length : Int) != (b.length : Int)) = true := by rw [bne_iff_ne]; omega
        clear hva hvb HFA HFB HFC HFD HFE
        go_enter Try.func19, Try.ntmps19
        go_wp2_with fail
        refine wp_region_held_drew (S := (fun w' => w'.cell? ⟨b1, o1, none⟩ = some (.string n1) ∧ w'.cell? ⟨b2, o2, none⟩ = some (.string n2) ∧ Below w.heap.size w w')) (by kernel_rfl) ?_ (fun hHeld => ?_)
        · exact ⟨HC1.out, HC2.out, (Below.refl _ _).drew⟩
        refine take_at (i := 0) (d := 7) (v := .slice (some ⟨b1, o1, none⟩) a.length c1) rfl rfl (by kernel_rfl) (by kernel_rfl) (by kernel_rfl) (fun _ _ _ h => h) (by kernel_rfl) (by (intro w hSw; (try dsimp only at hSw); go_simp)) (by assumption) ?_
        simp only [List.setIfInBounds_toArray, List.set_cons_succ, List.set_cons_zero]
        refine wpAnyH_ready (rs := [1]) (by kernel_rfl) (by simp) ?_
        refine AllReadyH.cons rfl (fun K hK => ?_) AllReadyH.nil
        go_simp
        refine (HTA.out _ hHeld.2.2).mono ?_
        rintro e w3 ⟨rfl, hb2⟩
        have hs2 : w3.cell? ⟨b1, o1, none⟩ = some (.string n1) ∧ w3.cell? ⟨b2, o2, none⟩ = some (.string n2) ∧ Below w.heap.size w w3 := ⟨(hb2.cell (p := ⟨b1, o1, none⟩) (Nat.lt_of_lt_of_le HL1.out hHeld.2.2.size)).trans hHeld.1, (hb2.cell (p := ⟨b2, o2, none⟩) (Nat.lt_of_lt_of_le HL2.out hHeld.2.2.size)).trans hHeld.2.1, hHeld.2.2.trans (hb2.mono hHeld.2.2.size)⟩
        clear hb2 hHeld
        refine hK.out _ _ hs2 (fun hHeld => ?_)
        clear hK K hs2
        refine take_at (i := 2) (d := 9) (v := .bool false) rfl rfl (by kernel_rfl) (by kernel_rfl) (by kernel_rfl) (fun _ _ _ h => h) (by kernel_rfl) (by (intro w hSw; (try dsimp only at hSw); go_simp)) (by assumption) ?_
        simp only [List.setIfInBounds_toArray, List.set_cons_succ, List.set_cons_zero]
        refine take_at (i := 3) (d := 10) (v := .bool false) rfl rfl (by kernel_rfl) (by kernel_rfl) (by kernel_rfl) (fun _ _ _ h => h) (by kernel_rfl) (by (intro w hSw; (try dsimp only at hSw); go_simp)) (by assumption) ?_
        simp only [List.setIfInBounds_toArray, List.set_cons_succ, List.set_cons_zero]
        refine take_at (i := 4) (d := 11) (v := .slice (some ⟨b2, o2, none⟩) b.length c2) rfl rfl (by kernel_rfl) (by kernel_rfl) (by kernel_rfl) (fun _ _ _ h => h) (by kernel_rfl) (by (intro w hSw; (try dsimp only at hSw); go_simp)) (by assumption) ?_
        simp only [List.setIfInBounds_toArray, List.set_cons_succ, List.set_cons_zero]
        refine wpAnyH_ready (rs := [5]) (by kernel_rfl) (by simp) ?_
        refine AllReadyH.cons rfl (fun K hK => ?_) AllReadyH.nil
        go_simp
        refine (HTB.out _ hHeld.2.2).mono ?_
        rintro e w4 ⟨rfl, hb2⟩
        have hs2 : w4.cell? ⟨b1, o1, none⟩ = some (.string n1) ∧ w4.cell? ⟨b2, o2, none⟩ = some (.string n2) ∧ Below w.heap.size w w4 := ⟨(hb2.cell (p := ⟨b1, o1, none⟩) (Nat.lt_of_lt_of_le HL1.out hHeld.2.2.size)).trans hHeld.1, (hb2.cell (p := ⟨b2, o2, none⟩) (Nat.lt_of_lt_of_le HL2.out hHeld.2.2.size)).trans hHeld.2.1, hHeld.2.2.trans (hb2.mono hHeld.2.2.size)⟩
        clear hb2 hHeld
        refine hK.out _ _ hs2 (fun hHeld => ?_)
        clear hK K hs2
        refine take_at (i := 6) (d := 13) (v := .bool false) rfl rfl (by kernel_rfl) (by kernel_rfl) (by kernel_rfl) (fun _ _ _ h => h) (by kernel_rfl) (by (intro w hSw; (try dsimp only at hSw); go_simp)) (by assumption) ?_
        simp only [List.setIfInBounds_toArray, List.set_cons_succ, List.set_cons_zero]
        refine take_at (i := 7) (d := 14) (v := .bool false) rfl rfl (by kernel_rfl) (by kernel_rfl) (by kernel_rfl) (fun _ _ _ h => h) (by kernel_rfl) (by (intro w hSw; (try dsimp only at hSw); go_simp)) (by assumption) ?_
        simp only [List.setIfInBounds_toArray, List.set_cons_succ, List.set_cons_zero]
        refine take_at (i := 8) (d := 15) (v := .bool false) rfl rfl (by kernel_rfl) (by kernel_rfl) (by kernel_rfl) (fun _ _ _ h => h) (by kernel_rfl) (by (intro w hSw; (try dsimp only at hSw); go_simp)) (by assumption) ?_
        simp only [List.setIfInBounds_toArray, List.set_cons_succ, List.set_cons_zero]
        refine take_at (i := 9) (d := 16) (v := .slice (some ⟨b1, o1, none⟩) a.length c1) rfl rfl (by kernel_rfl) (by kernel_rfl) (by kernel_rfl) (fun _ _ _ h => h) (by kernel_rfl) (by (intro w hSw; (try dsimp only at hSw); go_simp)) (by assumption) ?_
        simp only [List.setIfInBounds_toArray, List.set_cons_succ, List.set_cons_zero]
        refine take_at (i := 10) (d := 17) (v := .int .i64 a.length) rfl rfl (by kernel_rfl) (by kernel_rfl) (by kernel_rfl) (fun _ _ _ h => h) (by kernel_rfl) (by (intro w hSw; (try dsimp only at hSw); go_simp)) (by assumption) ?_
        simp only [List.setIfInBounds_toArray, List.set_cons_succ, List.set_cons_zero]
        refine take_at (i := 11) (d := 18) (v := .slice (some ⟨b2, o2, none⟩) b.length c2) rfl rfl (by kernel_rfl) (by kernel_rfl) (by kernel_rfl) (fun _ _ _ h => h) (by kernel_rfl) (by (intro w hSw; (try dsimp only at hSw); go_simp)) (by assumption) ?_
        simp only [List.setIfInBounds_toArray, List.set_cons_succ, List.set_cons_zero]
        refine take_at (i := 12) (d := 19) (v := .int .i64 b.length) rfl rfl (by kernel_rfl) (by kernel_rfl) (by kernel_rfl) (fun _ _ _ h => h) (by kernel_rfl) (by (intro w hSw; (try dsimp only at hSw); go_simp)) (by assumption) ?_
        simp only [List.setIfInBounds_toArray, List.set_cons_succ, List.set_cons_zero]
        refine take_at (i := 13) (d := 20) (v := .bool true) rfl rfl (by kernel_rfl) (by kernel_rfl) (by kernel_rfl) (fun _ _ _ h => h) (by kernel_rfl) (by (intro w hSw; (try dsimp only at hSw); go_simp)) (by assumption) ?_
        simp only [List.setIfInBounds_toArray, List.set_cons_succ, List.set_cons_zero]
        refine take_at (i := 14) (d := 21) (v := .bool true) rfl rfl (by kernel_rfl) (by kernel_rfl) (by kernel_rfl) (fun _ _ _ h => h) (by kernel_rfl) (by (intro w hSw; (try dsimp only at hSw); go_simp)) (by assumption) ?_
        simp only [List.setIfInBounds_toArray, List.set_cons_succ, List.set_cons_zero]
        refine take_at (i := 15) (d := 22) (v := .bool true) rfl rfl (by kernel_rfl) (by kernel_rfl) (by kernel_rfl) (fun _ _ _ h => h) (by kernel_rfl) (by (intro w hSw; (try dsimp only at hSw); go_simp)) (by assumption) ?_
        simp only [List.setIfInBounds_toArray, List.set_cons_succ, List.set_cons_zero]
        refine skip_at (i := 16) (d := 23) rfl rfl (by kernel_rfl) (by kernel_rfl) (by kernel_rfl) (fun _ _ _ h => h) (by kernel_rfl) (by assumption) ?_
        simp only [List.setIfInBounds_toArray, List.set_cons_succ, List.set_cons_zero]
        refine skip_at (i := 17) (d := 24) rfl rfl (by kernel_rfl) (by kernel_rfl) (by kernel_rfl) (fun _ _ _ h => h) (by kernel_rfl) (by assumption) ?_
        simp only [List.setIfInBounds_toArray, List.set_cons_succ, List.set_cons_zero]
        refine skip_at (i := 18) (d := 25) rfl rfl (by kernel_rfl) (by kernel_rfl) (by kernel_rfl) (fun _ _ _ h => h) (by kernel_rfl) (by assumption) ?_
        simp only [List.setIfInBounds_toArray, List.set_cons_succ, List.set_cons_zero]
        refine skip_at (i := 19) (d := 26) rfl rfl (by kernel_rfl) (by kernel_rfl) (by kernel_rfl) (fun _ _ _ h => h) (by kernel_rfl) (by assumption) ?_
        simp only [List.setIfInBounds_toArray, List.set_cons_succ, List.set_cons_zero]
        refine skip_at (i := 20) (d := 27) rfl rfl (by kernel_rfl) (by kernel_rfl) (by kernel_rfl) (fun _ _ _ h => h) (by kernel_rfl) (by assumption) ?_
        simp only [List.setIfInBounds_toArray, List.set_cons_succ, List.set_cons_zero]
        refine skip_at (i := 21) (d := 28) rfl rfl (by kernel_rfl) (by kernel_rfl) (by kernel_rfl) (fun _ _ _ h => h) (by kernel_rfl) (by assumption) ?_
        simp only [List.setIfInBounds_toArray, List.set_cons_succ, List.set_cons_zero]
        refine skip_at (i := 22) (d := 29) rfl rfl (by kernel_rfl) (by kernel_rfl) (by kernel_rfl) (fun _ _ _ h => h) (by kernel_rfl) (by assumption) ?_
        simp only [List.setIfInBounds_toArray, List.set_cons_succ, List.set_cons_zero]
        refine skip_at (i := 23) (d := 30) rfl rfl (by kernel_rfl) (by kernel_rfl) (by kernel_rfl) (fun _ _ _ h => h) (by kernel_rfl) (by assumption) ?_
        simp only [List.setIfInBounds_toArray, List.set_cons_succ, List.set_cons_zero]
        refine skip_at (i := 24) (d := 31) rfl rfl (by kernel_rfl) (by kernel_rfl) (by kernel_rfl) (fun _ _ _ h => h) (by kernel_rfl) (by assumption) ?_
        simp only [List.setIfInBounds_toArray, List.set_cons_succ, List.set_cons_zero]
        refine take_at (i := 25) (d := 32) (v := .bool true) rfl rfl (by kernel_rfl) (by kernel_rfl) (by kernel_rfl) (fun _ _ _ h => h) (by kernel_rfl) (by (intro w hSw; (try dsimp only at hSw); go_simp)) (by assumption) ?_
        simp only [List.setIfInBounds_toArray, List.set_cons_succ, List.set_cons_zero]
        refine wpAnyH_done (by kernel_rfl) ?_ _
        have HBE : Hid (Below w.heap.size w w4) := hHeld.2.2
        clear hHeld
        go_wp2
        go_ret
        exact ⟨rfl, HBE.out⟩

end Go.Proofs.Ytadichddgpojpaa
