/- Joined: Gf Gj Gk Gl Gm Gn Go Bd Bl. -/
import Derived.Test.YtafpefjjeddmeaaU12
import Derived.Test.YtafpefjjeddmeaaU11
import Derived.Maps.AppendAt
import Derived.Deep.AppendLies
import Derived.Test.YtafpefjjeddmeaaU02
import Derived.Deep.RegionWith
import Derived.WalkMore
import Derived.Test.YtafpefjjeddmeaaU07
/- The model's NeedAll and CheapestNeed. -/
namespace Go.Proofs.Ytafpefjjeddmeaa
open Go.RowKit

theorem names_append (l : List Seg) (a b : List Nat) : namesAt l (a ++ b) = namesAt l a ++ namesAt l b := by
  apply ByteArray.ext
  apply Array.ext'
  rw [ByteArray.data_append, Array.toList_append]
  show (a ++ b).flatMap (nmAt l) = a.flatMap (nmAt l) ++ b.flatMap (nmAt l)
  rw [List.flatMap_append]
theorem need_byte {l : List Seg} (hv : validB l = true) {T : List Nat} (hT : IsState l T) {b : UInt8} (hb : 0 ≤ bSeek l b) : needOk l (namesAt l T) ⟨#[b]⟩ = true ∧ afterStr l (namesAt l T) ⟨#[b]⟩ = namesAt l (needT T (rp l (bSeek l b).toNat)) ∧
    loadStr l (namesAt l T) ⟨#[b]⟩ = namesAt l (loadT T (rp l (bSeek l b).toNat)) ∧ dropStr l (namesAt l T) ⟨#[b]⟩ = namesAt l (dropT T (rp l (bSeek l b).toNat)) := by
  obtain ⟨h1, h2⟩ := stT_names hv hT
  have hi : indexB l ⟨#[b]⟩ = bSeek l b := if_pos hv
  have h3 : needOk l (namesAt l T) ⟨#[b]⟩ = true := by
    unfold needOk hasSeg
    rw [h1, hi, decide_eq_true hb]
    rfl
  refine ⟨h3, ?_, ?_, ?_⟩
  · unfold afterStr afterIx pathIx
    rw [if_pos h3, h2, hi]
  · unfold loadStr loadIx pathIx
    rw [if_pos h3, h2, hi]
  · unfold dropStr dropIx pathIx
    rw [if_pos h3, h2, hi]
theorem need_none {l : List Seg} (hv : validB l = true) (s : ByteArray) {b : UInt8} (hb : bSeek l b < 0) : needOk l s ⟨#[b]⟩ = false := by
  have hi : indexB l ⟨#[b]⟩ = bSeek l b := if_pos hv
  unfold needOk hasSeg
  rw [hi, decide_eq_false (by omega), Bool.and_false]
theorem bSeek_lt {l : List Seg} {b : UInt8} (hb : 0 ≤ bSeek l b) : (bSeek l b).toNat < l.length := by
  rcases bSeek_bd l b with h | ⟨_, h⟩ <;> omega

/-- The name and the cost of the best one so far. -/
def bestNm (l : List Seg) (T : List Nat) (k : Nat) : ByteArray := match cheapIx l T k with
  | none => ⟨#[]⟩
  | some j => namesAt l [j]
def bestCost (l : List Seg) (T : List Nat) (k : Nat) : Int := match cheapIx l T k with
  | none => 0
  | some j => nCost l T j
theorem best_in {l : List Seg} {T : List Nat} {k : Nat} (h : k ∈ T) : bestNm l T (k + 1) = bestNm l T k ∧ bestCost l T (k + 1) = bestCost l T k := by
  have e : cheapIx l T (k + 1) = cheapIx l T k := by
    show (if k ∈ T then _ else _) = _
    rw [if_pos h]
  unfold bestNm bestCost
  rw [e]
  exact ⟨rfl, rfl⟩
/-- A segment that isn't loaded: taken if there is none yet, or it costs less. -/
theorem best_out {l : List Seg} (hv : validB l = true) {T : List Nat} {k : Nat} (hk : k < l.length) (h : k ∉ T) :
    (bestNm l T k = ⟨#[]⟩ ∧ bestNm l T (k + 1) = namesAt l [k] ∧ bestCost l T (k + 1) = nCost l T k) ∨
    (∃ c : UInt8, bestNm l T k = ⟨#[c]⟩ ∧ (nCost l T k < bestCost l T k → bestNm l T (k + 1) = namesAt l [k] ∧ bestCost l T (k + 1) = nCost l T k) ∧ (¬ nCost l T k < bestCost l T k → bestNm l T (k + 1) = bestNm l T k ∧ bestCost l T (k + 1) = bestCost l T k)) := by
  have e : cheapIx l T (k + 1) = match cheapIx l T k with
    | none => some k
    | some j => if nCost l T k < nCost l T j then some k else some j := by
    show (if k ∈ T then _ else _) = _
    rw [if_neg h]
    cases cheapIx l T k <;> rfl
  unfold bestNm bestCost
  cases hc : cheapIx l T k with
  | none =>
    rw [hc] at e
    rw [e]
    exact .inl ⟨rfl, rfl, rfl⟩
  | some j =>
    rw [hc] at e
    dsimp only at e
    have hj := cheapIx_lt l T k j hc
    refine .inr ⟨byteOf l j, ?_, fun hlt => ?_, fun hlt => ?_⟩
    · show (⟨([j].flatMap (nmAt l)).toArray⟩ : ByteArray) = _
      rw [List.flatMap_cons, (nmAt_one hv (by omega)).1]
      rfl
    · rw [if_pos hlt] at e
      rw [e]
      exact ⟨rfl, rfl⟩
    · rw [if_neg hlt] at e
      rw [e]
      exact ⟨rfl, rfl⟩
theorem best_cost {l : List Seg} (hv : validB l = true) {T : List Nat} (hT : IsState l T) {k : Nat} (hk : k ≤ l.length) : 0 ≤ bestCost l T k ∧ bestCost l T k ≤ 792 := by
  unfold bestCost
  cases hc : cheapIx l T k with
  | none => exact ⟨Int.le_refl 0, (by decide : (0 : Int) ≤ 792)⟩
  | some j =>
    have hj := cheapIx_lt l T k j hc
    show 0 ≤ nCost l T j ∧ nCost l T j ≤ 792
    by_cases h : j ∈ T
    · rw [nCost_in (valid_all hv).1.down hT h]
      exact ⟨Int.le_refl 0, by decide⟩
    · have := nCost_out hv hT (show j < l.length by omega) h
      omega
theorem best_end {l : List Seg} (s : ByteArray) (h : stOk l s = true) : cheapStr l s = bestNm l (stT l s) l.length ∧ cheapOk l s = decide (bestNm l (stT l s) l.length ≠ ⟨#[]⟩) := by
  obtain ⟨hv, _, _⟩ := stT_state h
  unfold cheapStr cheapOk bestNm
  rw [if_pos h]
  cases hc : cheapIx l (stT l s) l.length with
  | none => exact ⟨rfl, by simp⟩
  | some j =>
    refine ⟨rfl, ?_⟩
    have hj := cheapIx_lt l _ _ j hc
    symm
    apply decide_eq_true
    intro e
    have := names_size hv (P := [j]) (fun x hx => by rw [List.mem_singleton.1 hx]; exact hj)
    dsimp only at e
    rw [e] at this
    cases this

end Go.Proofs.Ytafpefjjeddmeaa

/- The model's StatesOf: all states, as texts of the call's own. -/
namespace Go.Proofs.Ytafpefjjeddmeaa
open Go.RowKit

def stTexts (l : List Seg) (k : Nat) : List ByteArray := ⟨#[]⟩ :: (List.range k).map (fun i => namesAt l (rp l i))
theorem stTexts_succ (l : List Seg) (k : Nat) : stTexts l (k + 1) = stTexts l k ++ [namesAt l (rp l k)] := by
  unfold stTexts
  rw [List.range_succ, List.map_append]
  rfl
theorem stTexts_len (l : List Seg) (k : Nat) : (stTexts l k).length = k + 1 := by simp [stTexts]
/-- All states as texts; none of a list that is no tree. -/
def statesB (l : List Seg) : List ByteArray := if validB l = true then stTexts l l.length else []
def StatesPost (w : World) (l : List Seg) (e : Ending) (w' : World) : Prop :=
  ∃ v, e = .returned (.tuple #[v, .bool (validB l)]) ∧ OwnTexts w' w.heap.size v (statesB l) ∧ Below w.heap.size w w'
end Go.Proofs.Ytafpefjjeddmeaa
/- All states, yielded one by one. -/
namespace Go.Proofs.Ytafpefjjeddmeaa
open Go.RowKit Go.Shelf
attribute [local go_sem] Oper.semAt_some

/-- Nodes lie where all blocks below 'w' but one are kept. -/
theorem Nodes.kept {w w' : World} {B g m k bb : Nat} {l : List Seg} {nb : Nat → Nat} {cv : Nat → Value} (h : Nodes w B g m k l nb cv) (hk : Kept w.heap.size bb w w') (hbb : ∀ q, B ≤ q → q < w.heap.size → q ≠ bb) (hkm : k ≤ m) : Nodes w' B g m k l nb cv := by
  obtain ⟨cs, hg, hcs, hci⟩ := h.row
  refine ⟨⟨cs, hk.row hg hg.lt (hbb _ h.low.1 hg.lt) (by decide), hcs, hci⟩, fun i t hi ht => ?_, fun i t hi hi2 ht => ?_, fun i hi => ?_, h.apart, h.apartC, h.notg, h.low⟩
  · have h1 := h.node i t hi ht
    exact hk.row h1 h1.lt (hbb _ (h.low.2 i (by omega)) h1.lt) (by decide)
  · have h1 := h.fresh i t hi hi2 ht
    exact hk.row h1 h1.lt (hbb _ (h.low.2 i hi2) h1.lt) (by decide)
  · refine own_keep (h.kids i hi) fun b hb' => ?_
    have hlt := (h.kids i hi).lt b hb'
    rcases (h.kids i hi).2 with ⟨he, _⟩ | ⟨g', cap, cur, he, _, hh, _⟩
    · rw [he] at hb'
      cases hb'
    · rw [he] at hb'
      have : g' = b := by simpa [Value.ownBlock] using hb'
      subst this
      rw [hh]
      exact hk g' _ hlt.2 (hbb _ hlt.1 hlt.2) hh (fun c fz e => by injection e with _ e2; exact absurd e2 (by decide))

def stArgs (T : List Nat) : Array Value := #[bitsV fun j => decide (j ∈ T)]
theorem states_at {l : List Seg} {k : Nat} (h : k < l.length) : (statesIx l).take (k + 2) = (statesIx l).take (k + 1) ++ [rp l k] := by
  have h1 : k + 1 < (statesIx l).length := by simp [statesIx]; omega
  rw [List.take_succ_eq_append_getElem h1]
  congr 1
  simp [statesIx]
theorem states_len (l : List Seg) : (statesIx l).length = l.length + 1 := by simp [statesIx]

theorem Kept.less {n₀ n₁ bb : Nat} {A B : World} (h : Kept n₀ bb A B) (hn : n₁ ≤ n₀) : Kept n₁ bb A B := fun k o h1 h2 h3 h4 => h k o (Nat.lt_of_lt_of_le h1 hn) h2 h3 h4
end Go.Proofs.Ytafpefjjeddmeaa
/- impl.findState over whatever iterator that yields states. -/
namespace Go.Proofs.Ytafpefjjeddmeaa
open Go.RowKit Go.Shelf
attribute [local go_sem] Oper.semAt_some

theorem find_cong {α : Type} {p q : α → Bool} : ∀ (L : List α), (∀ x ∈ L, p x = q x) → L.find? p = L.find? q
  | [], _ => rfl
  | x :: L, h => by
    rw [List.find?_cons, List.find?_cons, h x List.mem_cons_self, find_cong L (fun y hy => h y (List.mem_cons_of_mem _ hy))]
theorem find_stop {α : Type} {p : α → Bool} {P L : List α} {x : α} (hP : ∀ y ∈ P, p y = false) (hx : p x = true) (hL : P ++ [x] <+: L) : L.find? p = some x := by
  obtain ⟨R, rfl⟩ := hL
  rw [List.append_assoc, List.find?_append]
  have : P.find? p = none := List.find?_eq_none.2 (fun y hy => by rw [hP y hy]; decide)
  rw [this]
  simp [hx]

theorem results_two_cells {fn : Func} {p q : Tmp} {ty tb : TypeId} (h : fn.results = #[.cell p ty, .cell q tb]) (tmps : Array Value) (w : World) (a b : Addr) (u v : Value)
    (hp : tmps.getD p undef = .pointer (some a)) (hu : (loadVar ty a).run Try.prog w = .ok u w) (hq : tmps.getD q undef = .pointer (some b)) (hv : (loadVar tb b).run Try.prog w = .ok v w) :
    (results fn tmps).run Try.prog w = .ok (.tuple #[u, v]) w := by
  have hp' : tmps[p]?.getD undef = .pointer (some a) := by simpa using hp
  have hq' : tmps[q]?.getD undef = .pointer (some b) := by simpa using hq
  simp [results, h, hp', hq', asAddr, hu, hv]
theorem run_loadBool {w : World} {b : Addr} {x : Bool} (h : w.cell? b = some (.bool x)) : (loadVar 4 b).run Try.prog w = .ok (.bool x) w := by
  simp [loadVar, isAgg, go_sem, h]

def foundIn (L : List (List Nat)) (nm : List Nat → ByteArray) (s : ByteArray) : Option (List Nat) := L.find? (fun T => sameB (nm T) s)

end Go.Proofs.Ytafpefjjeddmeaa
/- impl.findState at nodes; needFor, meet; StateValid. -/
namespace Go.Proofs.Ytafpefjjeddmeaa
open Go.RowKit Go.Shelf

theorem ret_stOk {f g : Nat → Bool} {a b : Bool} (h : ∀ j, j < 8 → f j = g j) (k : a = b) : Ending.returned (.tuple #[bitsV f, .bool a]) = .returned (.tuple #[bitsV g, .bool b]) := by
  unfold bitsV
  rw [bits_congr h, k]
/-- The truths of a state. -/
def inT (T : List Nat) (j : Nat) : Bool := decide (j ∈ T)

def offB (f : Nat → Bool) : Bool := !f 0 && !f 1 && !f 2 && !f 3 && !f 4 && !f 5 && !f 6 && !f 7
theorem offB_iff (f : Nat → Bool) : offB f = true ↔ ∀ j, j < 8 → f j = false := by
  unfold offB
  simp only [Bool.and_eq_true, Bool.not_eq_true']
  constructor
  · rintro ⟨⟨⟨⟨⟨⟨⟨h0, h1⟩, h2⟩, h3⟩, h4⟩, h5⟩, h6⟩, h7⟩ j hj
    match j, hj with
    | 0, _ => exact h0
    | 1, _ => exact h1
    | 2, _ => exact h2
    | 3, _ => exact h3
    | 4, _ => exact h4
    | 5, _ => exact h5
    | 6, _ => exact h6
    | 7, _ => exact h7
  · intro h
    exact ⟨⟨⟨⟨⟨⟨⟨h 0 (by decide), h 1 (by decide)⟩, h 2 (by decide)⟩, h 3 (by decide)⟩, h 4 (by decide)⟩, h 5 (by decide)⟩, h 6 (by decide)⟩, h 7 (by decide)⟩

end Go.Proofs.Ytafpefjjeddmeaa
/- impl.meetNeed: the states ahead of a need and behind it. -/
namespace Go.Proofs.Ytafpefjjeddmeaa
open Go.RowKit Go.Shelf

theorem results_two_states {fn : Func} {p q r : Tmp} {ty tz : TypeId} (h : fn.results = #[.cell p ty, .cell q tz, .tmp r]) (tmps : Array Value) (w : World) (a b : Addr) (u v : Value)
    (hp : tmps.getD p undef = .pointer (some a)) (hu : (loadVar ty a).run Try.prog w = .ok u w) (hq : tmps.getD q undef = .pointer (some b)) (hv : (loadVar tz b).run Try.prog w = .ok v w) :
    (results fn tmps).run Try.prog w = .ok (.tuple #[u, v, tmps.getD r undef]) w := by
  have hp' : tmps[p]?.getD undef = .pointer (some a) := by simpa using hp
  have hq' : tmps[q]?.getD undef = .pointer (some b) := by simpa using hq
  simp [results, h, hp', hq', asAddr, hu, hv]
end Go.Proofs.Ytafpefjjeddmeaa
/- impl.StateValid, DropsOf, NeedOf. -/
namespace Go.Proofs.Ytafpefjjeddmeaa
open Go.RowKit Go.Shelf

theorem less_in (T U : List Nat) : ∀ j, (inT T j && !inT U j) = inT (lessT T U) j := fun j => by
  unfold inT lessT
  rw [Bool.eq_iff_iff]
  simp [List.mem_filter]
theorem less_asc {T U : List Nat} (h : T.Pairwise (· < ·)) : (lessT T U).Pairwise (· < ·) := List.Pairwise.filter _ h

end Go.Proofs.Ytafpefjjeddmeaa
/- impl.nodesNamed, sizesTogether, CostOf, LoadCost. -/
namespace Go.Proofs.Ytafpefjjeddmeaa
open Go.RowKit Go.Shelf

theorem ret_nodes {a b : Value} {c d : Bool} (h : a = b) (k : c = d) : Ending.returned (.tuple #[a, .bool c]) = .returned (.tuple #[b, .bool d]) := by rw [h, k]
/-- The nodes that are named, in a row of the call's own. -/
def NamedPost (w : World) (l : List Seg) (nb : Nat → Nat) (s : ByteArray) (e : Ending) (w' : World) : Prop :=
  ∃ v, e = .returned (.tuple #[v, .bool true]) ∧ w'.ownsRow w.heap.size 75 1 v (namedJs l s.data.toList).length (ptrsOf nb (namedJs l s.data.toList)) ∧ Below w.heap.size w w'

set_option maxRecDepth 100000 in
set_option maxHeartbeats 400000 in
theorem nodesNamed_bad (s : ByteArray) (w : World) (hs : s.size ≤ 1048576) :
    Calls Try.prog 70 #[.slice none 0 0, .string s] w fun e w' => e = .returned (.tuple #[.slice none 0 0, .bool (decide (s.size = 0))]) ∧ w = w' := by
  by_cases h0 : s.size = 0
  · have HD : Hid (decide (s.size = 0) = true) := decide_eq_true h0
    go_enter Try.func70, Try.ntmps70
    go_wp2
    go_loop [6, 11] (fun v i => v = .slice none 0 0 ∧ i = .int .i64 0) (fun _ _ => 0)
    case atStart => exact ⟨rfl, rfl⟩
    case round =>
      obtain ⟨rfl, rfl⟩ := hrel
      go_wp2
      refine bodyPost_ret (v := .tuple #[.slice none 0 0, .bool true]) (by simp [results, Try.results70, go_sem]) rfl ?_
      exact ⟨rfl, rfl⟩
  · have HD : Hid (decide (s.size = 0) = false) := decide_eq_false h0
    have hp : 0 < s.size := by omega
    clear h0
    go_enter Try.func70, Try.ntmps70
    go_wp2
    go_loop [6, 11] (fun v i => v = .slice none 0 0 ∧ i = .int .i64 0) (fun _ _ => 0)
    case atStart => exact ⟨rfl, rfl⟩
    case round =>
      obtain ⟨rfl, rfl⟩ := hrel
      go_wp2_with fail
      refine (findNode_nil _ _).mono ?_
      rintro e w1 ⟨rfl, rfl⟩
      go_wp2
      refine bodyPost_ret (v := .tuple #[.slice none 0 0, .bool false]) (by simp [results, Try.results70, go_sem]) rfl ?_
      exact ⟨by rw [HD.out], rfl⟩

theorem found_byte {l : List Seg} {nb : Nat → Nat} {b : UInt8} (h : 0 ≤ bSeek l b) : foundPtr l nb ⟨#[b]⟩ = some ⟨nb (bSeek l b).toNat, 0, none⟩ := if_neg (by unfold bSeek at h; omega)
theorem found_none {l : List Seg} {nb : Nat → Nat} {b : UInt8} (h : bSeek l b < 0) : foundPtr l nb ⟨#[b]⟩ = none := if_pos h

def NamedEither (w : World) (l : List Seg) (nb : Nat → Nat) (s : ByteArray) (e : Ending) (w' : World) : Prop :=
  (namedOk l s.data.toList = true ∧ NamedPost w l nb s e w') ∨ (namedOk l s.data.toList = false ∧ e = .returned (.tuple #[.slice none 0 0, .bool false]) ∧ Below w.heap.size w w')

set_option maxRecDepth 100000 in
set_option maxHeartbeats 1000000 in
theorem nodesNamed_any (B g : Nat) (l : List Seg) (nb : Nat → Nat) (cv : Nat → Value) (s : ByteArray) (w : World) (h : Nodes w B g l.length l.length l nb cv) (hv : validB l = true) (hs : s.size ≤ 1048576) :
    Calls Try.prog 70 #[.slice (some ⟨g, 0, none⟩) l.length l.length, .string s] w (NamedEither w l nb s) := by
  have h8 := (valid_all hv).2.1
  have HN := Lib.hid h
  obtain ⟨i0, hi0, hz0, hz1, hz2⟩ := info_parts info_ptr
  have I0 := Lib.hid hi0
  have Z0 := Lib.hid hz0
  have Z1 := Lib.hid hz1
  have Z2 := Lib.hid hz2
  clear hi0 hz0 hz1 hz2 h hv
  go_enter Try.func70, Try.ntmps70
  go_wp2
  go_loopw [6, 11] (fun v i wr => ∃ k : Nat, k ≤ s.size ∧ i = .int .i64 k ∧ Hid (namedOk l (s.data.toList.take k) = true) ∧ Hid (wr.ownsRow w.heap.size 75 1 v (namedJs l (s.data.toList.take k)).length (ptrsOf nb (namedJs l (s.data.toList.take k)))) ∧ Hid (Below w.heap.size w wr) ∧ ∃ a n c, v = .slice a n c)
    (fun _ i _ => s.size - (intOf i).toNat)
  case atStart => exact ⟨0, Nat.zero_le _, rfl, rfl, World.ownsRow_nil _ _ _ _, Below.refl _ _, _, _, _, rfl⟩
  case round =>
    obtain ⟨k, hk, rfl, HK, HO, HB, a, n, c, rfl⟩ := hrel
    have hk0 : (0 : Int) ≤ (k : Int) := Int.natCast_nonneg _
    by_cases hlt : k < s.size
    · have hlt' : (k : Int) < (s.size : Int) := by omega
      have h1 : (k : Int) + 1 ≤ (s.size : Int) := by omega
      obtain ⟨t1, t2⟩ := named_take (l := l) s hlt
      have HM : Hid (s[k] ∈ s.data.toList) := by
        show s.data.toList[k]'(by simpa using hlt) ∈ _
        exact List.getElem_mem _
      have HX := Lib.hid (one_byte s hlt)
      have HT1 := Lib.hid t1
      have HT2 := Lib.hid t2
      have hbd := bSeek_bd l s[k]
      clear t1 t2
      generalize s[k] = b at *
      have HNk := Lib.hid (HN.out.below HB.out)
      go_wp2_with fail
      refine (findNode_any _ _ _ _ _ _ _ HNk.out (by omega)).mono ?_
      rw [HX.out]
      rcases hbd with hbd | ⟨hb0, hb1⟩
      · have HF : Hid (namedOk l s.data.toList = false) := namedOk_bad HM.out (by omega)
        rw [found_none (by omega)]
        rintro e w1 ⟨rfl, rfl⟩
        clear hbd
        go_wp2
        refine bodyPost_ret (v := .tuple #[.slice none 0 0, .bool false]) (by simp [results, Try.results70, go_sem]) rfl ?_
        exact .inr ⟨HF.out, rfl, HB.out⟩
      · rw [found_byte hb0]
        rintro e w1 ⟨rfl, rfl⟩
        have hlen : (namedJs l (s.data.toList.take k)).length = k := by
          unfold namedJs
          rw [List.length_map, List.length_take]
          simp
          omega
        have HK1 : Hid (namedOk l (s.data.toList.take (k + 1)) = true) := by
          show _ = _
          rw [HT1.out, HK.out, decide_eq_true hb0]
          rfl
        generalize (bSeek l b).toNat = j at *
        clear hb0 hb1
        have HJ : Hid (ptrsOf nb (namedJs l (s.data.toList.take (k + 1))) = ptrsOf nb (namedJs l (s.data.toList.take k)) ++ [.pointer (some ⟨nb j, 0, none⟩)] ∧ (namedJs l (s.data.toList.take (k + 1))).length = (namedJs l (s.data.toList.take k)).length + 1) := by
          rw [HT2.out]
          exact ⟨by simp [ptrsOf, ptrTo], by simp⟩
        have hHO := HO.out
        rw [hlen] at hHO
        have HO2 := Lib.hid (hHO.alloc (.cells #[.pointer (some ⟨nb j, 0, none⟩)] 75))
        clear hHO
        have hbz := HB.out.size
        go_wp2_with (at_builtin; refine wpList_append_own_at _ rfl _ _ 82 rfl w.heap.size 75 i0 (.pointer none) 1 8 Try.underlying82 I0.out Z0.out Z1.out Z2.out rfl (by decide) _ _ _ rfl HO2.out ⟨wr.heap.size, 0, none⟩ 1 1 [.pointer (some ⟨nb j, 0, none⟩)] rfl rfl (cell_one_new _ _ _) (by simp [Value.oneCell']) (by unfold maxLen; omega) (by omega) (by simp; omega) ?_; intro v4 w4 hown4 hgrow _ _)
        have HB4 : Hid (Below w.heap.size w w4) := (HB.out.alloc hbz _).grown hgrow (by simp; omega) (fun q hq => (World.ownsRow.lt HO2.out q hq).1)
        have HO4 : Hid (w4.ownsRow w.heap.size 75 1 v4 (namedJs l (s.data.toList.take (k + 1))).length (ptrsOf nb (namedJs l (s.data.toList.take (k + 1))))) := by
          show World.ownsRow _ _ _ _ _ _ _
          rw [HJ.out.1, HJ.out.2, hlen]
          exact hown4
        have HV : ∃ a n c, v4 = .slice a n c := by
          obtain ⟨q, cap, rfl⟩ := own_form hown4 (by omega)
          exact ⟨_, _, _, rfl⟩
        clear hown4 hgrow
        go_roundw
        case rel => exact ⟨k + 1, by omega, by go_num, HK1, HO4, HB4, HV⟩
        case measure => simp [intOf]; omega
    · obtain rfl : k = s.size := by omega
      have e : s.data.toList.take s.size = s.data.toList := List.take_of_length_le (by simp)
      rw [e] at HK HO
      go_wp2
      refine bodyPost_ret (v := .tuple #[.slice a n c, .bool true]) (by simp [results, Try.results70, go_sem]) rfl ?_
      exact .inl ⟨HK.out, _, rfl, HO.out, HB.out⟩

theorem szs_take {l : List Seg} {js : List Nat} {k : Nat} (hk : k < js.length) : szs l (js.take (k + 1)) = szs l (js.take k) + sizeAt l js[k] := by
  rw [List.take_succ_eq_append_getElem hk, szs_snoc]

end Go.Proofs.Ytafpefjjeddmeaa

/- impl.needsFor: what is to be met, as functions. -/
namespace Go.Proofs.Ytafpefjjeddmeaa
open Go.RowKit Go.Shelf

end Go.Proofs.Ytafpefjjeddmeaa
/- ChainLies on both sides. -/
namespace Go.Proofs.Ytafpefjjeddmeaa
open Go.RowKit Go.Shelf

set_option maxRecDepth 100000 in
set_option maxHeartbeats 1000000 in
theorem specChainLies_any (A : Option Addr) (l : List Seg) (c : Nat) (s : ByteArray) (w : World) (hw : Segs w w.heap.size A l) (hl : l.length ≤ 1048576) (hn : Short l) (hs : s.size ≤ 1048576) :
    Calls Try.prog 40 #[.slice A l.length c, .string s] w fun e w' => e = .returned (.bool (liesB l s)) ∧ Below w.heap.size w w' := by
  have HW : Hid (Segs w w.heap.size A l) := hw
  have HL := Lib.hid (fun W a b h => specLie_any A l c a b W h hl hn)
  have HTV := Lib.hid (fun W h => specTreeValid_any A l c W h hl hn)
  clear hw hn
  go_enter Try.func40, Try.ntmps40
  go_wp2
  go_loopw [9] (fun i wr => ∃ k : Nat, k ≤ s.size ∧ i = .int .i64 k ∧ Hid (liesUp l s k = true) ∧ Hid (Below w.heap.size w wr))
    (fun i _ => s.size - (intOf i).toNat)
  case atStart => exact ⟨0, Nat.zero_le _, rfl, rfl, Below.refl _ _⟩
  case round =>
    obtain ⟨k, hk, rfl, HK, HB⟩ := hrel
    have hk0 : (0 : Int) ≤ (k : Int) := Int.natCast_nonneg _
    by_cases hlt : k < s.size
    · have hlt' : (k : Int) < (s.size : Int) := by omega
      have hk1 : (k : Int) + 1 ≤ (s.size : Int) := by omega
      go_wp2
      go_loopw [14] (fun i wr => ∃ j : Nat, j ≤ k + 1 ∧ i = .int .i64 j ∧ Hid (liesTo l s k j = true) ∧ Hid (Below w.heap.size w wr))
        (fun i _ => k + 1 - (intOf i).toNat)
      case atStart => exact ⟨0, Nat.zero_le _, rfl, rfl, HB⟩
      case round =>
        obtain ⟨j, hj, rfl, HJ, HB2⟩ := hrel
        have hj0 : (0 : Int) ≤ (j : Int) := Int.natCast_nonneg _
        by_cases hltj : j < k + 1
        · have hj1 : (j : Int) + 1 ≤ (s.size : Int) := by omega
          have hj2 : (j : Int) < (s.size : Int) := by omega
          have hj3 : (j : Int) < (k : Int) + 1 := by omega
          have HX := Lib.hid (liesTo_succ l s k j)
          obtain ⟨j1, hj1e⟩ : ∃ j1 : Nat, j1 = j + 1 := ⟨_, rfl⟩
          obtain ⟨k1, hk1e⟩ : ∃ k1 : Nat, k1 = k + 1 := ⟨_, rfl⟩
          have hwj : IntKind.i64.wrap ((j : Int) + 1) = (j1 : Int) := (IntWalk.i64_in _ (by omega)).trans (by omega)
          have hwk : IntKind.i64.wrap ((k : Int) + 1) = (k1 : Int) := (IntWalk.i64_in _ (by omega)).trans (by omega)
          have hjj : (j : Int) ≤ (j1 : Int) := by omega
          have hkk : (k : Int) ≤ (k1 : Int) := by omega
          have hjs : (j1 : Int) ≤ (s.size : Int) := by omega
          have hks : (k1 : Int) ≤ (s.size : Int) := by omega
          have HJE := Lib.hid hj1e
          have HKE := Lib.hid hk1e
          clear hj1e hk1e
          cases hd : lieB l (s.extract j (j + 1)) (s.extract k (k + 1)) with
          | false =>
            have HF : Hid (liesB l s = false) := liesB_false hlt (liesTo_false hltj hd)
            have HLC : Hid (Calls Try.prog 63 #[.slice A l.length c, .string (s.extract j j1), .string (s.extract k k1)] wr.drew fun e w' => e = .returned (.bool false) ∧ Below wr.drew.heap.size wr.drew w') := by
              have := HL.out wr.drew (s.extract j (j + 1)) (s.extract k (k + 1)) ((HW.out.below HB2.out.drew).more HB2.out.drew.size)
              rw [HJE.out, HKE.out]
              rwa [hd] at this
            clear hd HX HL
            go_wp2_with fail
            go_region_with (go_at_call 63; refine Calls.mono HLC.out ?_; rintro e w3 ⟨rfl, hb3⟩)
            have HB3 : Hid (Below w.heap.size w w3) := HB2.out.drew.trans (hb3.mono HB2.out.drew.size)
            clear hb3
            go_wp2
            go_ret
            exact ⟨ret_bool HF.out.symm, HB3.out⟩
          | true =>
            have HJ1 : Hid (liesTo l s k (j + 1) = true) := by
              show _ = _
              rw [HX.out, HJ.out, hd]; rfl
            have HLC : Hid (Calls Try.prog 63 #[.slice A l.length c, .string (s.extract j j1), .string (s.extract k k1)] wr.drew fun e w' => e = .returned (.bool true) ∧ Below wr.drew.heap.size wr.drew w') := by
              have := HL.out wr.drew (s.extract j (j + 1)) (s.extract k (k + 1)) ((HW.out.below HB2.out.drew).more HB2.out.drew.size)
              rw [HJE.out, HKE.out]
              rwa [hd] at this
            clear hd HX
            go_wp2_with fail
            go_region_with (go_at_call 63; refine Calls.mono HLC.out ?_; rintro e w3 ⟨rfl, hb3⟩)
            have HB3 : Hid (Below w.heap.size w w3) := HB2.out.drew.trans (hb3.mono HB2.out.drew.size)
            have hje := HJE.out
            subst hje
            clear hb3 HLC
            go_wp2
            go_roundw
            case rel => exact ⟨j + 1, by omega, by go_num, HJ1, HB3⟩
            case measure => simp [intOf]; omega
        · obtain rfl : j = k + 1 := by omega
          have HK1 : Hid (liesUp l s (k + 1) = true) := by
            show _ = _
            rw [liesUp_succ, HK.out, HJ.out]; rfl
          go_wp2
          go_roundw
          case rel => exact ⟨k + 1, by omega, by go_num, HK1, HB2⟩
          case measure => simp [intOf]; omega
    · obtain rfl : k = s.size := by omega
      have HF : Hid (liesB l s = validB l) := by
        show (liesUp l s s.size && validB l) = _
        rw [HK.out, Bool.true_and]
      go_wp2_with fail
      refine (HTV.out _ ((HW.out.below HB.out).more HB.out.size)).mono ?_
      rintro e w3 ⟨rfl, hb3⟩
      have HB3 : Hid (Below w.heap.size w w3) := HB.out.trans (hb3.mono HB.out.size)
      clear hb3
      go_wp2
      go_ret
      exact ⟨ret_bool HF.out.symm, HB3.out⟩

/-- The set of the first of some indices. -/
def memF (js : List Nat) (j : Nat) : Bool := decide (j ∈ js)
theorem memF_snoc (js : List Nat) (i : Nat) : setF (fun j => memF js j || decide (j = i)) = setF (memF (js ++ [i])) := by
  apply setF_congr
  intro j _
  unfold memF
  rw [Bool.eq_iff_iff, Bool.or_eq_true, decide_eq_true_eq, decide_eq_true_eq, decide_eq_true_eq, List.mem_append, List.mem_singleton]

set_option maxRecDepth 100000 in
set_option maxHeartbeats 1000000 in
theorem setOf_any (B g : Nat) (l : List Seg) (nb : Nat → Nat) (cv : Nat → Value) (js : List Nat) (v : Value) (B2 : Nat) (w : World) (h : Nodes w B g l.length l.length l nb cv) (hv : validB l = true) (hj : ∀ j ∈ js, j < l.length) (hjl : js.length ≤ 1048576)
    (hown : w.ownsRow B2 75 1 v js.length (ptrsOf nb js)) :
    Calls Try.prog 71 #[.slice (some ⟨g, 0, none⟩) l.length l.length, v] w fun e w' => e = .returned (.int .u64 (setF (memF js) : Int)) ∧ w = w' := by
  have h8 := (valid_all hv).2.1
  have HIX := Lib.hid (fun i (hi : i < l.length) => indexAll_any B g i l nb cv w h (by omega) hi)
  have HO := Lib.hid hown
  have HJ := Lib.hid hj
  clear h hv
  obtain ⟨a, cap, rfl⟩ : ∃ a cap, v = .slice a js.length cap := by
    rcases hown.2 with ⟨rfl, h0⟩ | ⟨g', cap, cur, rfl, _⟩
    · exact ⟨none, 0, by rw [h0]⟩
    · exact ⟨_, cap, rfl⟩
  clear hown hj
  have H0 : Hid (setF (memF (js.take 0)) = 0) := rfl
  go_enter Try.func71, Try.ntmps71
  go_wp2
  go_loop [5, 10] (fun o i => ∃ k : Nat, k ≤ js.length ∧ i = .int .i64 k ∧ o = .int .u64 (setF (memF (js.take k)) : Int))
    (fun _ i => js.length - (intOf i).toNat)
  case atStart => exact ⟨0, Nat.zero_le _, rfl, rfl⟩
  case round =>
    obtain ⟨k, hk, rfl, rfl⟩ := hrel
    have hk0 : (0 : Int) ≤ (k : Int) := Int.natCast_nonneg _
    by_cases hlt : k < js.length
    · have hlt' : (k : Int) < (js.length : Int) := by omega
      obtain ⟨g', cap', hv'⟩ := own_form HO.out (by omega)
      injection hv' with hA _ hc
      subst hA hc
      have c0 : w.cell? ⟨g', k, none⟩ = some (.pointer (some ⟨nb js[k], 0, none⟩)) := by
        rw [HO.out.cellAt k (by omega)]
        simp [ptrsOf, ptrTo, hlt]
      have hjk := HJ.out js[k] (List.getElem_mem hlt)
      have HS : Hid (js.take (k + 1) = js.take k ++ [js[k]]) := List.take_succ_eq_append_getElem hlt
      have HN := Lib.hid (HIX.out js[k] hjk)
      generalize js[k] = i at *
      have hi8 : i < 8 := by omega
      have HX := Lib.hid (memF_snoc (js.take k) i)
      go_wp2_with fail
      refine HN.out.mono ?_
      rintro e w1 ⟨rfl, rfl⟩
      go_wp2_with fail
      refine (with_any _ i _ hi8).mono ?_
      rintro e w1 ⟨rfl, rfl⟩
      go_wp2
      go_round
      case rel => exact ⟨k + 1, by omega, by go_num, by rw [HX.out, HS.out]⟩
      case measure => simp [intOf]; omega
    · obtain rfl : k = js.length := by omega
      rw [List.take_length]
      go_wp2
      go_ret
      exact ⟨rfl, rfl⟩

/-- Whether no two of the first segments that are in a set lie apart. -/
def togeRow (l : List Seg) (f : Nat → Bool) (i n : Nat) : Bool := (List.range n).all fun j => !(f i && f j && decide (kindIx l i j = 2))
def togeUp (l : List Seg) (f : Nat → Bool) (n : Nat) : Bool := (List.range n).all fun i => togeRow l f i i
theorem togeRow_succ (l : List Seg) (f : Nat → Bool) (i n : Nat) : togeRow l f i (n + 1) = (togeRow l f i n && !(f i && f n && decide (kindIx l i n = 2))) := by
  unfold togeRow
  rw [List.range_succ, List.all_append]
  simp
theorem togeUp_succ (l : List Seg) (f : Nat → Bool) (n : Nat) : togeUp l f (n + 1) = (togeUp l f n && togeRow l f n n) := by
  unfold togeUp
  rw [List.range_succ, List.all_append]
  simp
theorem togeB_up (l : List Seg) (f : Nat → Bool) : togeB l f = togeUp l f l.length := rfl
theorem toge_no {l : List Seg} {f : Nat → Bool} {i j : Nat} (hi : i < l.length) (hj : j < i) (h1 : f i = true) (h2 : f j = true) (hk : kindIx l i j = 2) : togeB l f = false := by
  rw [Bool.eq_false_iff]
  intro h
  have := all_range.1 (all_range.1 h i hi) j hj
  rw [h1, h2, hk] at this
  cases this

set_option maxRecDepth 100000 in
set_option maxHeartbeats 2000000 in
theorem liesTogether_any (B g : Nat) (l : List Seg) (nb : Nat → Nat) (cv : Nat → Value) (f : Nat → Bool) (w : World) (h : Nodes w B g l.length l.length l nb cv) (hv : validB l = true) :
    Calls Try.prog 72 #[.int .u64 (setF f : Int), .slice (some ⟨g, 0, none⟩) l.length l.length] w fun e w' => e = .returned (.bool (togeB l f)) ∧ Below w.heap.size w w' := by
  have h8 := (valid_all hv).2.1
  have HN := Lib.hid h
  obtain ⟨cs, hrow, -, hci⟩ := h.row
  have HC : Hid (∀ i, i < l.length → w.cell? ⟨g, i, none⟩ = some (.pointer (some ⟨nb i, 0, none⟩))) := fun i hi => by rw [hrow.cell]; exact hci i hi
  have hg := hrow.lt
  have HK := Lib.hid (fun i j W hb hi hj => kindOfCall_any B g i j l nb cv W (HN.out.below (w' := W) hb) hv hi hj)
  clear h hv hrow hci cs HN
  go_enter Try.func72, Try.ntmps72
  go_wp2
  go_step3
  go_wp2
  go_step3
  go_wp2
  go_loopw [5, 12] (fun o i wr => ∃ k : Nat, k ≤ l.length ∧ i = .int .i64 k ∧ o = .bool true ∧ Hid (togeUp l f k = true) ∧ Hid (Below w.heap.size w wr))
    (fun _ i _ => l.length - (intOf i).toNat)
  case atStart => exact ⟨0, Nat.zero_le _, rfl, rfl, rfl, Below.refl _ _⟩
  case round =>
    obtain ⟨k, hk, rfl, rfl, HU, HB⟩ := hrel
    have hk0 : (0 : Int) ≤ (k : Int) := Int.natCast_nonneg _
    by_cases hlt : k < l.length
    · have hlt' : (k : Int) < (l.length : Int) := by omega
      have hkl : (k : Int) ≤ (l.length : Int) := by omega
      have ck : wr.cell? ⟨g, k, none⟩ = some (.pointer (some ⟨nb k, 0, none⟩)) := (HB.out.cell (p := ⟨g, k, none⟩) hg).trans (HC.out k hlt)
      go_wp2
      go_loopw [5, 21] (fun o i wr => ∃ j : Nat, j ≤ k ∧ i = .int .i64 j ∧ o = .bool true ∧ Hid (togeRow l f k j = true) ∧ Hid (Below w.heap.size w wr))
        (fun _ i _ => k - (intOf i).toNat)
      case atStart => exact ⟨0, Nat.zero_le _, rfl, rfl, rfl, HB⟩
      case round =>
        obtain ⟨j, hj, rfl, rfl, HR, HB2⟩ := hrel
        clear ck
        have hj0 : (0 : Int) ≤ (j : Int) := Int.natCast_nonneg _
        by_cases hltj : j < k
        · have hltj' : (j : Int) < (k : Int) := by omega
          have cj : wr.cell? ⟨g, j, none⟩ = some (.pointer (some ⟨nb j, 0, none⟩)) := (HB2.out.cell (p := ⟨g, j, none⟩) hg).trans (HC.out j (by omega))
          have HX := Lib.hid (togeRow_succ l f k j)
          have HNO : Hid (f k = true → f j = true → kindIx l k j = 2 → togeB l f = false) := fun h1 h2 h3 => toge_no hlt hltj h1 h2 h3
          go_wp2_with fail
          refine (has_any f k _ (by omega)).mono ?_
          cases h1 : f k with
          | false =>
            rintro e w1 ⟨rfl, rfl⟩
            have HR1 : Hid (togeRow l f k (j + 1) = true) := by
              show _ = _
              rw [HX.out, HR.out, h1]; rfl
            clear h1 HX HNO
            go_wp2
            go_roundw
            case rel => exact ⟨j + 1, by omega, by go_num, rfl, HR1, HB2⟩
            case measure => simp [intOf]; omega
          | true =>
            rintro e w1 ⟨rfl, rfl⟩
            go_wp2_with fail
            refine (has_any f j _ (by omega)).mono ?_
            cases h2 : f j with
            | false =>
              rintro e w1 ⟨rfl, rfl⟩
              have HR1 : Hid (togeRow l f k (j + 1) = true) := by
                show _ = _
                rw [HX.out, HR.out, h2, Bool.and_false]; rfl
              clear h1 h2 HX HNO
              go_wp2
              go_roundw
              case rel => exact ⟨j + 1, by omega, by go_num, rfl, HR1, HB2⟩
              case measure => simp [intOf]; omega
            | true =>
              rintro e w1 ⟨rfl, rfl⟩
              go_wp2_with fail
              refine (HK.out k j _ HB2.out (by omega) (by omega)).mono ?_
              have HR1 : Hid (¬ kindIx l k j = 2 → togeRow l f k (j + 1) = true) := fun h3 => by
                rw [HX.out, HR.out, h1, h2, decide_eq_false h3]; rfl
              have HNO1 : Hid (kindIx l k j = 2 → togeB l f = false) := HNO.out h1 h2
              clear h1 h2 HX HNO
              generalize kindIx l k j = q at *
              rintro e w1 ⟨rfl, hb1⟩
              have HB3 : Hid (Below w.heap.size w w1) := HB2.out.trans (hb1.mono HB2.out.size)
              clear hb1
              by_cases hq : q = 2
              · subst hq
                have HF : Hid (togeB l f = false) := HNO1.out rfl
                clear HNO1 HR1
                go_wp2
                rw [Exit.noGoto_ret]
                go_ret
                exact ⟨ret_bool HF.out.symm, HB3.out⟩
              · have HR2 : Hid (togeRow l f k (j + 1) = true) := HR1.out hq
                have hq2 : (q == 2) = false := by simpa using hq
                clear HNO1 HR1 hq
                go_wp2
                go_roundw
                case rel => exact ⟨j + 1, by omega, by go_num, rfl, HR2, HB3⟩
                case measure => simp [intOf]; omega
        · obtain rfl : j = k := by omega
          have HU1 : Hid (togeUp l f (j + 1) = true) := by
            show _ = _
            rw [togeUp_succ, HU.out, HR.out]; rfl
          go_wp2
          go_roundw
          case rel => exact ⟨j + 1, by omega, by go_num, rfl, HU1, HB2⟩
          case measure => simp [intOf]; omega
    · obtain rfl : k = l.length := by omega
      have HF : Hid (togeB l f = true) := HU.out
      go_wp2
      rw [Exit.noGoto_ret]
      go_ret
      exact ⟨ret_bool HF.out.symm, HB.out⟩

set_option maxRecDepth 100000 in
set_option maxHeartbeats 1000000 in
theorem chainLies_any (A : Option Addr) (l : List Seg) (c : Nat) (s : ByteArray) (w : World) (hw : Segs w w.heap.size A l) (hl : l.length ≤ 1048576) (hlc : l.length ≤ c) (hcm : c ≤ 9223372036854775807) (hn : Short l) (hs : s.size ≤ 1048576) :
    Calls Try.prog 41 #[.slice A l.length c, .string s] w fun e w' => e = .returned (.bool (liesB l s)) ∧ Below w.heap.size w w' := by
  have HW : Hid (Segs w w.heap.size A l) := hw
  have hnil := fun (W : World) (a : Option Addr) (n c : Nat) => Lib.run_eql_slice_nil (P := Try.prog) W 82 75 a n c 0 0 Try.underlying82
  clear hw
  cases hv : validB l with
  | false =>
    have HF : Hid (liesB l s = false) := liesB_bad hv s
    go_enter Try.func41, Try.ntmps41
    go_wp2_with fail
    refine (nodesOf_bad _ _ _ _ HW.out hl hlc hcm hn hv).mono ?_
    rintro e w1 ⟨rfl, hb1⟩
    go_wp2_with fail
    refine (nodesNamed_bad s _ hs).mono ?_
    generalize decide (s.size = 0) = d
    rintro e w2 ⟨rfl, rfl⟩
    go_wp2
    all_goals go_ret
    all_goals exact ⟨ret_bool HF.out.symm, hb1⟩
  | true =>
    have HV := Lib.hid hv
    have h8 := (valid_all hv).2.1
    have HY : Hid (namedOk l s.data.toList = true → liesB l s = togeB l (memF (namedJs l s.data.toList))) := fun h => liesB_named hv h
    have HN0 : Hid (namedOk l s.data.toList = false → liesB l s = false) := fun h => liesB_unnamed hv h
    have HJL : Hid (namedOk l s.data.toList = true → ∀ j ∈ namedJs l s.data.toList, j < l.length) := fun h => namedJs_lt h
    have HJS : Hid ((namedJs l s.data.toList).length ≤ 1048576) := by
      show _ ≤ _
      unfold namedJs
      rw [List.length_map]
      simpa using hs
    clear hv
    go_enter Try.func41, Try.ntmps41
    go_wp2_with fail
    refine (nodesOf_any _ _ _ _ HW.out hl hlc hcm hn HV.out).mono ?_
    rintro e w1 ⟨g, nb, cv, rfl, hN, hb1⟩
    have HN := Lib.hid hN
    have HB1 := Lib.hid hb1
    clear hN hb1
    go_wp2_with fail
    refine (nodesNamed_any _ _ _ _ _ _ _ HN.out HV.out hs).mono ?_
    rintro e w2 (⟨hok, v, rfl, hown, hb2⟩ | ⟨hok, rfl, hb2⟩)
    · have HF : Hid (liesB l s = togeB l (memF (namedJs l s.data.toList))) := HY.out hok
      have HJ := Lib.hid (HJL.out hok)
      have HN2 := Lib.hid (HN.out.below hb2)
      have HB2 : Hid (Below w.heap.size w w2) := HB1.out.trans (hb2.mono HB1.out.size)
      have HO := Lib.hid hown
      clear hok hb2 hown HY HN0 HJL HN HB1
      generalize namedJs l s.data.toList = js at *
      go_wp2_with fail
      refine (setOf_any _ _ _ _ _ _ _ _ _ HN2.out HV.out HJ.out HJS.out HO.out).mono ?_
      rintro e w3 ⟨rfl, rfl⟩
      go_wp2_with fail
      refine (liesTogether_any _ _ _ _ _ _ _ HN2.out HV.out).mono ?_
      rintro e w4 ⟨rfl, hb4⟩
      have HB4 : Hid (Below w.heap.size w w4) := HB2.out.trans (hb4.mono HB2.out.size)
      clear hb4
      go_wp2
      go_ret
      exact ⟨ret_bool HF.out.symm, HB4.out⟩
    · have HF : Hid (liesB l s = false) := HN0.out hok
      have HB2 : Hid (Below w.heap.size w w2) := HB1.out.trans (hb2.mono HB1.out.size)
      clear hok hb2 HY HN0 HJL
      go_wp2
      all_goals go_ret
      all_goals exact ⟨ret_bool HF.out.symm, HB2.out⟩

end Go.Proofs.Ytafpefjjeddmeaa
/- The walk of the law FnExactChainLies. -/
namespace Go.Proofs.Ytafpefjjeddmeaa
open Go.RowKit

set_option maxRecDepth 100000 in
set_option maxHeartbeats 400000 in
theorem lawChainLies_any (A : Option Addr) (l : List Seg) (c : Nat) (s : ByteArray) (w : World) (hw : Segs w w.heap.size A l) (hl : l.length ≤ maxLen) (hn : Short l) (hsz : s.size ≤ maxLen) :
    Calls Try.prog 9 #[.slice A l.length c, .string s] w fun e w' => e = .returned (.bool true) ∧ Below w.heap.size w w' := by
  have HW : Hid (Segs w w.heap.size A l) := hw
  clear hw
  unfold maxLen at hsz
  by_cases hbigs : 1048576 < s.size
  · go_enter Try.func9, Try.ntmps9
    go_wp2
    go_ret
    exact ⟨rfl, Below.refl _ _⟩
  by_cases hs : sizeLeft l < 0
  · go_enter Try.func9, Try.ntmps9
    go_wp2_with fail
    refine (szSegmentS_any _ _ _ _ HW.out hl hn).mono ?_
    rintro e w1 ⟨rfl, hb1⟩
    go_wp2
    go_ret
    exact ⟨rfl, hb1⟩
  · have hlen := sizeLeft_len hs
    go_enter Try.func9, Try.ntmps9
    go_wp2_with fail
    refine (szSegmentS_any _ _ _ _ HW.out hl hn).mono ?_
    rintro e w1 ⟨rfl, hb1⟩
    have hs1 := (HW.out.below hb1).more hb1.size
    go_wp2_with fail
    refine (toSegmentS_any _ _ _ _ hs1 hlen).mono ?_
    rintro e w2 ⟨rfl, hb2, hx2⟩
    have B2 : Below w.heap.size w w2 := hb1.trans (hb2.mono hb1.size)
    clear hb2 hs1
    go_wp2_with fail
    refine (specChainLies_any _ _ _ _ _ hx2 hlen hn (Nat.le_of_not_lt hbigs)).mono ?_
    rintro e w3 ⟨rfl, hb3⟩
    have B3 : Below w.heap.size w w3 := B2.trans (hb3.mono B2.size)
    clear hb3 hx2 B2
    have hs3 := (HW.out.below B3).more B3.size
    go_wp2_with fail
    refine (toSegmentS_any _ _ _ _ hs3 hlen).mono ?_
    rintro e w4 ⟨rfl, hb4, hx4⟩
    have B4 : Below w.heap.size w w4 := B3.trans (hb4.mono B3.size)
    clear hb4 hs3
    go_wp2_with fail
    refine (chainLies_any _ _ _ _ _ hx4 hlen (Nat.le_refl _) (Nat.le_trans hlen (by decide)) hn (Nat.le_of_not_lt hbigs)).mono ?_
    rintro e w5 ⟨rfl, hb5⟩
    have B5 : Below w.heap.size w w5 := B4.trans (hb5.mono B4.size)
    have hx5 := (hx4.below hb5).more hb5.size
    clear hb5 hx4 B4
    have hs5 := (HW.out.below B5).more B5.size
    go_wp2_with fail
    refine (toSegmentS_any _ _ _ _ hs5 hlen).mono ?_
    rintro e w6 ⟨rfl, hb6, hx6⟩
    have B6 : Below w.heap.size w w6 := B5.trans (hb6.mono B5.size)
    have hx7 := (hx5.below hb6).more hb6.size
    clear hb6 hs5 hx5 B5
    go_wp2_with fail
    refine (eqSegmentS_same _ _ _ _ _ _ hx7 hx6 hlen).mono ?_
    rintro e w7 ⟨rfl, hb7⟩
    have B7 : Below w.heap.size w w7 := B6.trans (hb7.mono B6.size)
    clear hb7 hx6 hx7 B6
    go_wp2
    go_ret
    exact ⟨rfl, B7⟩

end Go.Proofs.Ytafpefjjeddmeaa
