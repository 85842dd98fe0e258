/- NameOfKind on both sides, and the law FnExactNameOfKind: its walk, over a world that holds the program's table. -/
import Derived.Test.YtafpefjjeddmeaaDoorSz
namespace Go.Proofs.YtafpefjjeddmeaaDoor
open Go.RowKit

def nameK (k : Int) : ByteArray := if k = 0 then ⟨#[117, 112]⟩ else if k = 1 then ⟨#[100, 111, 119, 110]⟩ else if k = 2 then ⟨#[115, 105, 100, 101]⟩ else ⟨#[]⟩
/-- The table of words. -/
def WordsHeld (w : World) : Prop := w.cell? ⟨0, 0, none⟩ = some (.string ⟨#[117, 112]⟩) ∧ w.cell? ⟨0, 1, none⟩ = some (.string ⟨#[100, 111, 119, 110]⟩) ∧ w.cell? ⟨0, 2, none⟩ = some (.string ⟨#[115, 105, 100, 101]⟩)
theorem ret_text {a b : ByteArray} (h : a = b) : Ending.returned (.string a) = .returned (.string b) := by rw [h]

set_option maxRecDepth 100000 in
set_option maxHeartbeats 400000 in
theorem specName_any (k : Int) (w : World) :
    Calls Tryd.prog 14 #[.int .i64 k] w fun e w' => e = .returned (.string (nameK k)) ∧ w = w' := by
  by_cases h0 : k = 0
  · subst h0
    go_enter Tryd.func14, Tryd.ntmps14
    go_wp2
    go_ret
    exact ⟨rfl, rfl⟩
  by_cases h1 : k = 1
  · subst h1
    go_enter Tryd.func14, Tryd.ntmps14
    go_wp2
    go_ret
    exact ⟨rfl, rfl⟩
  by_cases h2 : k = 2
  · subst h2
    go_enter Tryd.func14, Tryd.ntmps14
    go_wp2
    go_ret
    exact ⟨rfl, rfl⟩
  have HF : Hid (nameK k = ⟨#[]⟩) := by
    show _ = _
    unfold nameK
    rw [if_neg h0, if_neg h1, if_neg h2]
  have b0 : (k == 0) = false := by simpa using h0
  have b1 : (k == 1) = false := by simpa using h1
  have b2 : (k == 2) = false := by simpa using h2
  clear h0 h1 h2
  go_enter Tryd.func14, Tryd.ntmps14
  go_wp2
  go_ret
  exact ⟨ret_text HF.out.symm, rfl⟩

set_option maxRecDepth 100000 in
set_option maxHeartbeats 400000 in
theorem nameOfKind_any (k : Int) (w : World) (h : WordsHeld w) :
    Calls Tryd.prog 13 #[.int .i64 k] w fun e w' => e = .returned (.string (nameK k)) ∧ w = w' := by
  obtain ⟨c0, c1, c2⟩ := h
  by_cases hk : k < 0
  · have HF : Hid (nameK k = ⟨#[]⟩) := by
      show _ = _
      unfold nameK
      rw [if_neg (by omega), if_neg (by omega), if_neg (by omega)]
    clear c0 c1 c2
    go_enter Tryd.func13, Tryd.ntmps13
    go_wp2
    go_ret
    exact ⟨ret_text HF.out.symm, rfl⟩
  by_cases hk3 : 3 ≤ k
  · have HF : Hid (nameK k = ⟨#[]⟩) := by
      show _ = _
      unfold nameK
      rw [if_neg (by omega), if_neg (by omega), if_neg (by omega)]
    clear c0 c1 c2
    go_enter Tryd.func13, Tryd.ntmps13
    go_wp2
    go_ret
    exact ⟨ret_text HF.out.symm, rfl⟩
  have h3 : k = 0 ∨ k = 1 ∨ k = 2 := by omega
  clear hk hk3
  rcases h3 with rfl | rfl | rfl
  all_goals
    go_enter Tryd.func13, Tryd.ntmps13
    go_wp2
    go_ret
    exact ⟨rfl, rfl⟩

set_option maxRecDepth 100000 in
set_option maxHeartbeats 400000 in
theorem lawNameOfKind_any (k : Int) (w : World) (h : WordsHeld w) :
    Calls Tryd.prog 4 #[.int .i64 k] w fun e w' => e = .returned (.bool true) ∧ w = w' := by
  have HN := Lib.hid (nameOfKind_any k w h)
  have HS := Lib.hid (specName_any k w)
  clear h
  generalize nameK k = z at *
  go_enter Tryd.func4, Tryd.ntmps4
  go_wp2_with fail
  refine Calls.mono HS.out ?_
  rintro e w1 ⟨rfl, rfl⟩
  go_wp2_with fail
  refine Calls.mono HN.out ?_
  rintro e w1 ⟨rfl, rfl⟩
  go_wp2
  go_ret
  exact ⟨rfl, rfl⟩

end Go.Proofs.YtafpefjjeddmeaaDoor
