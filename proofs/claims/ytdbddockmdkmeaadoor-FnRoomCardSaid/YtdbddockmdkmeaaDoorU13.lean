/- Joined: Qd Qg Qf Mj Mu Mk Lk Tx Wz Mb. -/
import Derived.Test.YtdbddockmdkmeaaDoorU12
import Derived.Test.YtdbddockmdkmeaaDoorU05
import Derived.RangeFuncWrites
import Derived.Test.YtdbddockmdkmeaaDoorU06
import Derived.Test.YtdbddockmdkmeaaDoorU02
import Derived.Lib.ItoaNum
import Derived.Test.YtdbddockmdkmeaaDoorU03
import Derived.Test.YtdbddockmdkmeaaDoorU04
import Derived.Laws.IdiomStrings
import Derived.BigQuiet
import Derived.Lib.FrozenHead2
/- Where nodes lie, yielded one by one. -/
namespace Go.Proofs.YtdbddockmdkmeaaDoor
open Go.RowKit Go.Shelf
attribute [local go_sem] Oper.semAt_some

/-- All blocks below 'n₀' but 'bb', rows of bytes aside, lie as they lay. -/
def Kept (n₀ bb : Nat) (W W' : World) : Prop := ∀ (k : Nat) (o : Obj), k < n₀ → k ≠ bb → W.heap[k]? = some o → (∀ c fz, o ≠ .cells c 5 fz) → W'.heap[k]? = some o
theorem Kept.refl (n₀ bb : Nat) (W : World) : Kept n₀ bb W W := fun _ _ _ _ h _ => h
theorem Kept.trans {n₀ bb : Nat} {A B C : World} (h : Kept n₀ bb A B) (k : Kept n₀ bb B C) : Kept n₀ bb A C := fun i o h1 h2 h3 h4 => k i o h1 h2 (h i o h1 h2 h3 h4) h4
theorem Kept.of_below {n₀ bb : Nat} {A B : World} (h : Below A.heap.size A B) : Kept n₀ bb A B := fun i _ _ _ h3 _ => (h.block i (Array.getElem?_eq_some_iff.1 h3).1).trans h3
theorem Kept.row {n₀ bb : Nat} {A B : World} (h : Kept n₀ bb A B) {b : Nat} {t : TypeId} {cs : Array Value} (hr : Row A b t cs) (h1 : b < n₀) (h2 : b ≠ bb) (h3 : t ≠ 5) : Row B b t cs :=
  h b _ h1 h2 hr (fun c fz he => by injection he with _ ht; exact h3 ht)
theorem Kept.put {n₀ bb : Nat} (W : World) {l : Nat} (o : Obj) (hl : n₀ ≤ l) : Kept n₀ bb W (W.putObj l o) := fun _ _ _ _ h3 _ => (World.putObj_heap_other (by omega)).trans h3
theorem grownBy_of_below {A B : World} (h : Below A.heap.size A B) : A.grownBy B none := ⟨h.os, h.tape, h.output, h.size, fun k hk _ => h.block k hk⟩

/-- The nodes that the iterator reads. -/
structure Lain (w : World) (n₀ bb g : Nat) (l : List Seg) (nb : Nat → Nat) : Prop where
  row : ∃ cs, Row w g 57 cs ∧ ∀ i, i < l.length → cs[i]? = some (.pointer (some ⟨nb i, 0, none⟩))
  rowAt : g < n₀ ∧ g ≠ bb
  node : ∀ (i : Nat) (hi : i < l.length), ∃ cv, Row w (nb i) 106 #[.string (l[i]'hi).name, .int .i64 (l[i]'hi).size, .pointer (parPtr l nb i), cv]
  nodeAt : ∀ i, i < l.length → nb i < n₀ ∧ nb i ≠ bb
theorem Lain.kept {w w' : World} {n₀ bb g : Nat} {l : List Seg} {nb : Nat → Nat} (h : Lain w n₀ bb g l nb) (hk : Kept n₀ bb w w') : Lain w' n₀ bb g l nb := by
  obtain ⟨cs, hr, hc⟩ := h.row
  refine ⟨⟨cs, hk.row hr h.rowAt.1 h.rowAt.2 (by decide), hc⟩, h.rowAt, fun i hi => ?_, h.nodeAt⟩
  obtain ⟨cv, hn⟩ := h.node i hi
  exact ⟨cv, hk.row hn (h.nodeAt i hi).1 (h.nodeAt i hi).2 (by decide)⟩
theorem Lain.placed {w : World} {n₀ bb g : Nat} {l : List Seg} {nb : Nat → Nat} (h : Lain w n₀ bb g l nb) : Placed w l nb := fun j hj => by
  obtain ⟨cv, hn⟩ := h.node j hj
  refine ⟨hn.lt, ?_, hn.cell 2⟩
  rw [sizeAt_of hj]
  exact hn.cell 1

/-- What a round says, by the truth it hands back. -/
def YP {α : Type} (J Jx : List α → World → Prop) (Kp : World → World → Prop) (ys : List α) (W1 : World) (b : Bool) (W' : World) : Prop := if b then J ys W' ∧ Kp W1 W' else Jx ys W'

theorem YP.yes {α : Type} {J Jx : List α → World → Prop} {Kp : World → World → Prop} {ys : List α} {W1 W' : World} (h : YP J Jx Kp ys W1 true W') : J ys W' ∧ Kp W1 W' := by
  unfold YP at h
  rwa [if_pos rfl] at h
theorem YP.no {α : Type} {J Jx : List α → World → Prop} {Kp : World → World → Prop} {ys : List α} {W1 W' : World} (h : YP J Jx Kp ys W1 false W') : Jx ys W' := by
  unfold YP at h
  rwa [if_neg (by decide)] at h

def placeArgs (l : List Seg) (x : Ix l) : Array Value := #[.string (l[x.1]'x.2).name, .agg #[.int .i64 (begAt l x.1), .int .i64 (endAt l x.1)]]

set_option maxRecDepth 100000 in
set_option maxHeartbeats 2000000 in
theorem places1_in (n : Nat) (hn : 1 ≤ n) (l' Bs n₀ bb g : Nat) (l : List Seg) (nb : Nat → Nat) (hv : validB l = true) (J Jx : List (Ix l) → World → Prop) (W : World) (hJ : AbidesFrom W.heap.size J)
    (hY : ∀ pre x W1, J pre W1 → pre.length < l.length → YieldAt Fence.wide (n - 1) Tryd.prog l' (placeArgs l x) W1 fun e W' =>
      (e = .returned (.bool true) ∧ J (pre ++ [x]) W' ∧ Kept n₀ bb W1 W') ∨ (e = .returned (.bool false) ∧ Jx (pre ++ [x]) W'))
    (hBs : W.cell? ⟨Bs, 0, none⟩ = some (.slice (some ⟨g, 0, none⟩) l.length l.length)) (hL : Lain W n₀ bb g l nb) (h0 : J [] W) :
    CallsIn Fence.wide n Tryd.prog 107 #[.func (.yield l') #[] #[], .pointer (some ⟨Bs, 0, none⟩)] W fun e W' => (∃ v, e = .returned v) ∧
      ((∃ ys : List (Ix l), ys.map (·.1) = List.range l.length ∧ J ys W') ∨ (∃ pre, Jx pre W')) := by
  have hl8 := (valid_all hv).2.1
  refine callsIn_of_wp Tryd.func107 rfl trivial ?_ rfl
  simp only [Tryd.ntmps107, List.size_toArray, List.length_cons, List.length_nil, Nat.reduceAdd, Nat.reduceSub, Array.replicate_succ, Array.replicate_zero, List.push_toArray, List.append_toArray, List.nil_append, List.cons_append]
  have HL := Lib.hid hL
  have HV := Lib.hid hv
  have HJ : Hid (AbidesFrom W.heap.size J) := hJ
  have HY : Hid (∀ pre x W1, J pre W1 → pre.length < l.length → YieldAt Fence.wide (n - 1) Tryd.prog l' (placeArgs l x) W1 fun e W' => ∃ b : Bool, e = .returned (.bool b) ∧ YP J Jx (Kept n₀ bb) (pre ++ [x]) W1 b W') := fun pre x W1 h1 h2 => by
    obtain ⟨fn, tmps, assign, body, hy, hR⟩ := hY pre x W1 h1 h2
    refine ⟨fn, tmps, assign, body, hy, hR.mono ?_⟩
    rintro e W3 (⟨rfl, h3, h4⟩ | ⟨rfl, h3⟩)
    · exact ⟨true, rfl, h3, h4⟩
    · exact ⟨false, rfl, h3⟩
  clear hL hv hJ hY
  gi_wp2
  gi_loopw [7] (fun i wr => ∃ (k : Nat) (ys : List (Ix l)), k ≤ l.length ∧ i = .int .i64 k ∧ Hid (ys.map (·.1) = List.range k) ∧ Hid (J ys wr) ∧ Hid (Kept n₀ bb W wr))
    (fun i _ => l.length - (intOf i).toNat)
  case atStart => exact ⟨0, [], Nat.zero_le _, rfl, rfl, h0, Kept.refl _ _ _⟩
  case round =>
    obtain ⟨k, ys, hk, rfl, HYS, HJ1, HK⟩ := hrel
    by_cases hlt : k < l.length
    · have HLr := Lib.hid (HL.out.kept HK.out)
      obtain ⟨cs, hrow, hci⟩ := HLr.out.row
      obtain ⟨cv, hnode⟩ := HLr.out.node k hlt
      have gk : wr.cell? ⟨g, k, none⟩ = some (.pointer (some ⟨nb k, 0, none⟩)) := by rw [hrow.cell]; exact hci k hlt
      have nk : wr.cell? ⟨nb k, 0, none⟩ = some (.string (l[k]'hlt).name) := hnode.cell 0
      have hnl := hnode.lt
      clear hrow hci hnode
      have hmx : Tryd.prog.follows .mixedOrders = true := by kernel_rfl
      have HYK : Hid (∀ W1, J ys W1 → YieldAt Fence.wide (n - 1) Tryd.prog l' #[.string (l[k]'hlt).name, .agg #[.int .i64 (begAt l k), .int .i64 (endAt l k)]] W1 fun e W' => ∃ b : Bool, e = .returned (.bool b) ∧ YP J Jx (Kept n₀ bb) (ys ++ [⟨k, hlt⟩]) W1 b W') := fun W1 h => HY.out ys ⟨k, hlt⟩ W1 h (by
        have h1 := congrArg List.length HYS.out
        simp at h1
        omega)
      have HJW : Hid (∀ w1, Below wr.heap.size wr w1 → J ys w1) := fun w1 hb => HJ.out ys wr w1 none HJ1.out (grownBy_of_below hb) (fun r e => by cases e)
      generalize (l[k]'hlt).name = nm at *
      have HPL := Lib.hid HLr.out.placed
      gi_wp2
      gi_region_with_o (first
        | (refine ⟨trivial, ?_⟩; gi_at_call 73; refine (callsIn_wide.2 (place_any l nb HV.out k hlt _ (show Placed wr.drew l nb from HPL.out))).mono ?_; rintro e w1 ⟨rfl, hb1⟩; have hbw : Below wr.heap.size wr w1 := ((Below.refl _ wr).drew).trans hb1; have nk1 : w1.cell? ⟨nb k, 0, none⟩ = some (.string nm) := (hbw.cell (p := ⟨nb k, 0, none⟩) hnl).trans nk; obtain ⟨fn, tmps, assign, body, hy, hR⟩ := HYK.out w1 (HJW.out w1 hbw))
        | (refine hR.mono ?_; rintro e W3 ⟨b, rfl, hyp⟩))
      all_goals
        have HH := Lib.hid hyp
        have HBW := Lib.hid hbw
        clear hyp hbw hb1 nk1 hy hR HYK HJW HPL gk nk
        cases b
        · gi_wp2
          refine bodyPost_ret (results_none rfl _ _ _) rfl ?_
          exact ⟨⟨_, rfl⟩, .inr ⟨_, HH.out.no⟩⟩
        · have HA : Hid ((ys ++ [(⟨k, hlt⟩ : Ix l)]).map (fun y : Ix l => y.1) = List.range (k + 1)) := by
            show _ = _
            rw [List.map_append, HYS.out, List.range_succ]
            rfl
          have HB := Lib.hid HH.out.yes.1
          have HC := Lib.hid (HK.out.trans ((Kept.of_below HBW.out).trans HH.out.yes.2))
          gi_wp2
          go_roundw
          case rel => exact ⟨k + 1, ys ++ [⟨k, hlt⟩], by omega, by simp, HA, HB, HC⟩
          case measure => simp [intOf]; omega
    · gi_wp2
      go_end0
      exact ⟨⟨_, rfl⟩, .inl ⟨ys, by rw [HYS.out, show k = l.length by omega], HJ1.out⟩⟩

theorem places_stops (n : Nat) (hn : 1 ≤ n) (Bs n₀ bb g : Nat) (l : List Seg) (nb : Nat → Nat) (hv : validB l = true) (w : World) (hBs : Row w Bs 52 #[.slice (some ⟨g, 0, none⟩) l.length l.length]) (hL : Lain w n₀ bb g l nb) :
    SeqStopsK Fence.wide n Tryd.prog 107 #[.pointer (some ⟨Bs, 0, none⟩)] (placeArgs l) (Kept n₀ bb) (fun ys => ys.map (·.1) = List.range l.length) (fun _ => True) l.length w := fun l' J Jx W hW hJ _ hY h0 => by
  refine (places1_in n hn l' Bs n₀ bb g l nb hv J Jx W hJ hY ((hBs.below hW hBs.lt).cell 0) (hL.kept (Kept.of_below hW)) h0).mono ?_
  rintro e W' ⟨hv, (⟨ys, h1, h2⟩ | ⟨pre, h2⟩)⟩
  · exact ⟨hv, .inl ⟨ys, h1, h2⟩⟩
  · exact ⟨hv, .inr ⟨pre, trivial, h2⟩⟩

set_option maxRecDepth 100000 in
set_option maxHeartbeats 400000 in
theorem placesOf_any (a : Option Addr) (len cap : Nat) (w : World) :
    Calls Tryd.prog 79 #[.slice a len cap] w fun e w' => e = .returned (.func (.func 107) #[] #[.pointer (some ⟨w.heap.size, 0, none⟩)]) ∧ w' = w.alloc (.cells #[.slice a len cap] 52) := by
  go_enter Tryd.func79, Tryd.ntmps79
  go_wp2
  go_ret
  exact ⟨rfl, rfl⟩

theorem kept_others {n₀ bb : Nat} {W W' : World} (h : Lib.OthersKept 5 (some bb) W W') : Kept n₀ bb W W' := fun k o _ h2 h3 h4 => h k o h3 (fun e => h2 (by cases e; rfl)) h4
theorem from_below {B : Nat} {W W' : World} (h : Below W.heap.size W W') : KeepsFrom B W W' := KeepsFrom.of_grownBy (grownBy_of_below h) (fun j e => by cases e)
theorem builder_cells {T e : TypeId} {B b : Nat} {bs : List Value} {w : World} (h : Lib.IsBuilderF T e B b bs w) : ∃ c, w.heap[b]? = some (.cells c T (0, 0)) := by
  rcases h with ⟨_, v, h2, _⟩ | ⟨_, v, h2, _⟩
  · exact ⟨_, h2⟩
  · exact ⟨_, h2⟩


end Go.Proofs.YtdbddockmdkmeaaDoor
/- Whether a range holds an address (LiesAt's). -/
namespace Go.Proofs.YtdbddockmdkmeaaDoor
open Go.RowKit Go.Shelf
attribute [local go_sem] Oper.semAt_some

end Go.Proofs.YtdbddockmdkmeaaDoor
/- The program's LiesAt. -/
namespace Go.Proofs.YtdbddockmdkmeaaDoor
open Go.RowKit Go.Shelf
attribute [local go_sem] Oper.semAt_some

/-- How many segments the program goes over. -/
def shown (l : List Seg) : Nat := if validB l = true then l.length else 0

/-- What is behind nodesOf, valid or not: the iterator over what it hands back. -/
def NodesEither (w : World) (l : List Seg) (e : Ending) (w' : World) : Prop :=
  ∃ a n cp, e = .returned (.slice a n cp) ∧ Below w.heap.size w w' ∧ ∀ (W : World) (Bs bb : Nat), Below w'.heap.size w' W → Row W Bs 52 #[.slice a n cp] → bb < w.heap.size →
    SeqStopsK Fence.wide 19 Tryd.prog 107 #[.pointer (some ⟨Bs, 0, none⟩)] (placeArgs l) (Kept W.heap.size bb) (fun ys => ys.map (·.1) = List.range (shown l)) (fun _ => True) (shown l) W

theorem Nodes.lain {w' W : World} {B g bb : Nat} {l : List Seg} {nb : Nat → Nat} {cv : Nat → Value} (h : Nodes w' B g l.length l.length l nb cv) (hb : Below w'.heap.size w' W) (hbb : bb < B) : Lain W W.heap.size bb g l nb := by
  have h2 := h.below hb
  obtain ⟨cs, hr, _, hc⟩ := h2.row
  refine ⟨⟨cs, hr, hc⟩, ⟨hr.lt, by have := h.low.1; omega⟩, fun i hi => ⟨cv i, h2.node i _ hi (List.getElem?_eq_getElem hi)⟩, fun i hi => ⟨(h2.node i _ hi (List.getElem?_eq_getElem hi)).lt, by have := h.low.2 i hi; omega⟩⟩

set_option maxRecDepth 100000 in
set_option maxHeartbeats 1000000 in
theorem places1_nil_in (n : Nat) (l' Bs : Nat) {l : List Seg} (J : List (Ix l) → World → Prop) (W : World) (hBs : W.cell? ⟨Bs, 0, none⟩ = some (.slice none 0 0)) (h0 : J [] W) :
    CallsIn Fence.wide n Tryd.prog 107 #[.func (.yield l') #[] #[], .pointer (some ⟨Bs, 0, none⟩)] W fun e W' => (∃ v, e = .returned v) ∧ J [] W' := by
  refine callsIn_of_wp Tryd.func107 rfl trivial ?_ rfl
  simp only [Tryd.ntmps107, List.size_toArray, List.length_cons, List.length_nil, Nat.reduceAdd, Nat.reduceSub, Array.replicate_succ, Array.replicate_zero, List.push_toArray, List.append_toArray, List.nil_append, List.cons_append]
  gi_wp2
  gi_loopw [7] (fun i wr => i = .int .i64 0 ∧ J [] wr) (fun _ _ => 0)
  case atStart => exact ⟨rfl, h0⟩
  case round =>
    obtain ⟨rfl, hJs⟩ := hrel
    gi_wp2
    go_end0
    exact ⟨⟨_, rfl⟩, hJs⟩

theorem nodesOf_either (A : Option Addr) (l : List Seg) (c : Nat) (w : World) (hw : Segs w w.heap.size A l) (hl : l.length ≤ 1048576) (hlc : l.length ≤ c) (hcm : c ≤ 9223372036854775807) (hn : Short l) :
    Calls Tryd.prog 49 #[.slice A l.length c] w (NodesEither w l) := by
  cases hv : validB l with
  | false =>
    refine (nodesOf_bad A l c w hw hl hlc hcm hn hv).mono ?_
    rintro e w' ⟨rfl, hb⟩
    refine ⟨none, 0, 0, rfl, hb, fun W Bs bb hW hBs _ l' J Jx W2 hW2 _ _ _ h0 => ?_⟩
    refine (places1_nil_in 19 l' Bs J W2 ((hBs.below hW2 hBs.lt).cell 0) h0).mono ?_
    rintro e W' ⟨h1, h2⟩
    refine ⟨h1, .inl ⟨[], ?_, h2⟩⟩
    unfold shown
    rw [if_neg (by rw [hv]; decide)]
    rfl
  | true =>
    refine (nodesOf_any A l c w hw hl hlc hcm hn hv).mono ?_
    rintro e w' ⟨g, nb, cv, rfl, hN, hb⟩
    refine ⟨_, _, _, rfl, hb, fun W Bs bb hW hBs hbb => ?_⟩
    have h1 := places_stops 19 (by omega) Bs W.heap.size bb g l nb hv W hBs (hN.lain hW hbb)
    have h2 : shown l = l.length := if_pos hv
    rw [h2]
    exact h1

/-- The bytes of the names that were told. -/
def toldB (l : List Seg) (a : Int) (ys : List (Ix l)) : List UInt8 := nameBytes l (ys.filter fun x => holdsB l a x.1)
theorem shown_valid {l : List Seg} {n : Nat} (h : n < shown l) : validB l = true := Classical.byContradiction fun hv => by
  have : shown l = 0 := if_neg hv
  omega
theorem shown_le {l : List Seg} : shown l ≤ 8 := by
  by_cases hv : validB l = true
  · have : shown l = l.length := if_pos hv
    have := (valid_all hv).2.1
    omega
  · have : shown l = 0 := if_neg hv
    omega


/-- What the loop keeps. -/
structure Telling (w : World) (l : List Seg) (a : Int) (pre : List (Ix l)) (W : World) : Prop where
  text : Lib.IsBuilderF 56 5 (w.heap.size + 1) (w.heap.size + 1) (Lib.byteCells (toldB l a pre)) W
  box : Row W w.heap.size 3 #[.int .i64 a]
  below : Below w.heap.size w W
theorem Telling.grown {w W W' : World} {l : List Seg} {a : Int} {pre : List (Ix l)} {B : Nat} {row : Option Nat} (h : Telling w l a pre W) (hg : W.grownBy W' row) (hB : w.heap.size ≤ B) (hr : ∀ r, row = some r → B ≤ r ∧ ∃ o : Obj, W.heap[r]? = some o ∧ o.isCells = false) : Telling w l a pre W' :=
  ⟨isB_own _ _ _ _ B (fun _ : List Unit => Lib.byteCells (toldB l a pre)) [] W W' row h.text hg hr, row_grown h.box hg hr, h.below.grown hg h.below.size (fun k e => by have := (hr k e).1; omega)⟩
end Go.Proofs.YtdbddockmdkmeaaDoor
/- The text of numbers, plain. -/
namespace Go.Proofs.YtdbddockmdkmeaaDoor
open Go.RowKit

/-- Signs as a text. -/
def txt12 (x : List UInt8) : ByteArray := ⟨x.toArray⟩
theorem txt12_size (x : List UInt8) : (txt12 x).size = x.length := by unfold txt12; show x.toArray.size = _; simp
theorem txt12_app (x y : List UInt8) : txt12 x ++ txt12 y = txt12 (x ++ y) := by
  unfold txt12
  apply ByteArray.ext
  simp
theorem itoa_ne (n : Int) : Lib.itoa n ≠ [] := by
  unfold Lib.itoa
  split
  · simp
  · intro e
    have h := congrArg List.length e
    rw [Lib.decDigits_length] at h
    have := Lib.nDigits_pos n.toNat
    simp at h
    omega
theorem decDigits_small {u : Nat} (h : u < 10) : Lib.decDigits u = [UInt8.ofNat (48 + u)] := by rw [Lib.decDigits, dif_pos h]
theorem decDigits_big {u : Nat} (h : ¬ u < 10) : Lib.decDigits u = Lib.decDigits (u / 10) ++ [UInt8.ofNat (48 + u % 10)] := by rw [Lib.decDigits, dif_neg h]
theorem nDigits_le (u : Nat) (h : u ≤ 9223372036854775808) : Lib.nDigits u ≤ 19 := by
  have go : ∀ (k u : Nat), u < 10 ^ (k + 1) → Lib.nDigits u ≤ k + 1 := by
    intro k
    induction k with
    | zero => intro u h; rw [Lib.nDigits_small (by simpa using h)]; exact Nat.le_refl _
    | succ k ih =>
      intro u h
      by_cases h10 : u < 10
      · rw [Lib.nDigits_small h10]; omega
      · rw [Lib.nDigits_big h10]
        have := ih (u / 10) (by rw [Nat.pow_succ] at h; omega)
        omega
  exact go 18 u (by omega)
theorem itoa_len (n : Int) (h : -9223372036854775808 ≤ n) (h2 : n ≤ 9223372036854775807) : (Lib.itoa n).length ≤ 20 := by
  unfold Lib.itoa
  split
  · rw [List.length_cons, Lib.decDigits_length]
    have := nDigits_le n.natAbs (by omega)
    omega
  · rw [Lib.decDigits_length]
    have := nDigits_le n.toNat (by omega)
    omega

end Go.Proofs.YtdbddockmdkmeaaDoor
/- The text of a tree, plain. -/
namespace Go.Proofs.YtdbddockmdkmeaaDoor
open Go.RowKit

def nameB (l : List Seg) (i : Nat) : List UInt8 := match l[i]? with
  | some s => s.name.data.toList
  | none => []
theorem nameB_len {l : List Seg} (hv : validB l = true) {i : Nat} (hi : i < l.length) : (nameB l i).length = 1 := by
  have h := (valid_all hv).1 i hi
  unfold segOk at h
  unfold nameB
  rw [List.getElem?_eq_getElem hi] at h ⊢
  simp only [Bool.and_eq_true] at h
  obtain ⟨c, e, _, _⟩ := nameOk_one h.1.1.1
  show l[i].name.data.toList.length = 1
  rw [e]; rfl
end Go.Proofs.YtdbddockmdkmeaaDoor
/- The reference's decimal numerals. -/
namespace Go.Proofs.YtdbddockmdkmeaaDoor
open Go.RowKit

theorem digit_byte (d : Nat) (h : d < 10) : (UInt8.ofNat (48 + d)).toNat = 48 + d := by
  rw [UInt8.toNat_ofNat']
  omega
set_option maxRecDepth 100000 in
/-- A byte in a new block is one sign. -/
theorem conv_digit (w : World) (d : Nat) (h : d < 10) (v : Int) (hv : v = 48 + (d : Int)) :
    (convert 22 9 (.slice (some ⟨w.heap.size, 0, none⟩) 1 1)).run Tryd.prog (w.alloc (.cells #[.int .u8 v] 5)) = .ok (.string (txt12 [UInt8.ofNat (48 + d)])) (w.alloc (.cells #[.int .u8 v] 5)) :=
  run_convert_bytes_back _ _ _ 5 _ 1 [UInt8.ofNat (48 + d)] Tryd.underlying22 Tryd.underlying5 Tryd.underlying9 fun j hj => by
    have hj0 : j = 0 := by simp at hj; exact hj
    subst hj0
    have h1 : (w.alloc (.cells #[.int .u8 v] 5)).cell? ⟨w.heap.size, 0, none⟩ = some (.int .u8 v) := Row.cell (Row.new w 5 #[.int .u8 v]) 0
    have h2 : ((UInt8.ofNat (48 + d)).toNat : Int) = v := by rw [digit_byte d h, hv]; omega
    show (w.alloc _).cell? (Addr.add ⟨w.heap.size, 0, none⟩ 0) = some (.int .u8 (((UInt8.ofNat (48 + d)).toNat : Nat) : Int))
    rw [h2]
    exact h1

set_option maxRecDepth 100000 in
set_option maxHeartbeats 1000000 in
theorem l13Dec_nat (n : Nat) (w : World) (hn : n ≤ 9223372036854775807) :
    Calls Tryd.prog 84 #[.int .i64 n] w fun e w' => e = .returned (.string (txt12 (Lib.decDigits n))) ∧ Below w.heap.size w w' := by
  have h1 : ¬ (n : Int) < -9223372036854775807 := by omega
  have h2 : ¬ (n : Int) < 0 := by omega
  obtain ⟨D, HD⟩ : ∃ D, Hid (D = Lib.decDigits n) := ⟨_, rfl⟩
  have HL : Hid (D.length ≤ 19) := by
    show _ ≤ _
    rw [HD.out, Lib.decDigits_length]
    exact nDigits_le n (by omega)
  rw [← HD.out]
  go_enter Tryd.func84, Tryd.ntmps84
  go_wp2
  go_loopw [0, 3] (fun v0 v3 wr => ∃ (k : Nat) (out : List UInt8), v0 = .int .i64 k ∧ v3 = .string (txt12 out) ∧ k ≤ n ∧ Hid (D = Lib.decDigits k ++ out) ∧ Hid (Below w.heap.size w wr))
    (fun v0 _ _ => (intOf v0).toNat)
  case atStart => exact ⟨n, [], rfl, rfl, Nat.le_refl _, by rw [List.append_nil]; exact HD, Lib.hid (Below.refl _ _)⟩
  case round =>
    obtain ⟨k, out, rfl, rfl, hkn, HE, HB⟩ := hrel
    have hol : (txt12 out).size ≤ 19 := by
      have h1 := HL.out
      rw [HE.out, List.length_append] at h1
      rw [txt12_size]; omega
    have hz := HB.out.size
    by_cases h9 : 9 < k
    · have h9' : (9 : Int) < (k : Int) := by omega
      obtain ⟨d, HDD⟩ : ∃ d : Nat, Hid (d = k % 10) := ⟨_, rfl⟩
      have hd10 : d < 10 := by rw [HDD.out]; omega
      have hcv := conv_digit wr d hd10 (48 + (k : Int) % 10) (by have := HDD.out; omega)
      obtain ⟨q, HQ⟩ : ∃ q, Hid (q = UInt8.ofNat (48 + d)) := ⟨_, rfl⟩
      rw [← HQ.out] at hcv
      have hsz1 : (txt12 [q]).size + (txt12 out).size ≤ 9223372036854775807 := by rw [txt12_size]; simp; omega
      have HN : Hid (D = Lib.decDigits (k / 10) ++ ([q] ++ out)) := by
        show _ = _
        rw [HQ.out, HE.out, decDigits_big (by omega), HDD.out, List.append_assoc]
      have HB2 : Hid (Below w.heap.size w (wr.alloc (.cells #[.int .u8 (48 + (k : Int) % 10)] 5))) := HB.out.alloc hz _
      go_wp2
      go_roundw
      case rel => exact ⟨k / 10, [q] ++ out, by go_num, by rw [txt12_app], by omega, HN, HB2⟩
      case measure => simp [intOf]; omega
    · have h9' : ¬ (9 : Int) < (k : Int) := by omega
      have hk10 : k < 10 := by omega
      have hcv := conv_digit wr k hk10 (48 + (k : Int)) rfl
      obtain ⟨q, HQ⟩ : ∃ q, Hid (q = UInt8.ofNat (48 + k)) := ⟨_, rfl⟩
      rw [← HQ.out] at hcv
      have hsz1 : (txt12 [q]).size + (txt12 out).size ≤ 9223372036854775807 := by rw [txt12_size]; simp; omega
      have HB2 : Hid (Below w.heap.size w (wr.alloc (.cells #[.int .u8 (48 + (k : Int))] 5))) := HB.out.alloc hz _
      have HN : Hid (txt12 D = txt12 [q] ++ txt12 out) := by
        show _ = _
        rw [HQ.out, HE.out, decDigits_small hk10, txt12_app]
      go_wp2
      go_ret
      exact ⟨by rw [HN.out]; rfl, HB2.out⟩

set_option maxRecDepth 100000 in
set_option maxHeartbeats 1000000 in
theorem l13Dec_any (n : Int) (w : World) (hn : -9223372036854775808 ≤ n) (hn2 : n ≤ 9223372036854775807) :
    Calls Tryd.prog 84 #[.int .i64 n] w fun e w' => e = .returned (.string (txt12 (Lib.itoa n))) ∧ Below w.heap.size w w' := by
  by_cases h0 : 0 ≤ n
  · obtain ⟨m, rfl⟩ := Int.eq_ofNat_of_zero_le h0
    have h := l13Dec_nat m w (by omega)
    have e : Lib.itoa (m : Int) = Lib.decDigits m := by
      unfold Lib.itoa
      rw [if_neg (by omega), Int.toNat_natCast]
    rw [e]
    exact h
  · by_cases hm : n < -9223372036854775807
    · have e : n = -9223372036854775808 := by omega
      subst e
      have HE : Hid (txt12 (Lib.itoa (-9223372036854775808)) = ⟨#[45, 57, 50, 50, 51, 51, 55, 50, 48, 51, 54, 56, 53, 52, 55, 55, 53, 56, 48, 56]⟩) := by
        show _ = _
        have h : Lib.itoa (-9223372036854775808) = [45, 57, 50, 50, 51, 51, 55, 50, 48, 51, 54, 56, 53, 52, 55, 55, 53, 56, 48, 56] := by
          unfold Lib.itoa
          rw [if_pos (by decide)]
          show 45 :: Lib.decDigits 9223372036854775808 = _
          rw [decDigits_big (by decide), decDigits_big (by decide), decDigits_big (by decide), decDigits_big (by decide), decDigits_big (by decide), decDigits_big (by decide), decDigits_big (by decide), decDigits_big (by decide), decDigits_big (by decide), decDigits_big (by decide), decDigits_big (by decide), decDigits_big (by decide), decDigits_big (by decide), decDigits_big (by decide), decDigits_big (by decide), decDigits_big (by decide), decDigits_big (by decide), decDigits_big (by decide), decDigits_small (by decide)]
          rfl
        rw [h]; rfl
      rw [HE.out]
      clear HE
      go_enter Tryd.func84, Tryd.ntmps84
      go_wp2
      go_ret
      exact ⟨rfl, Below.refl _ _⟩
    · obtain ⟨m, hmn⟩ : ∃ m : Nat, n = -(m : Int) := ⟨n.natAbs, by omega⟩
      have hm1 : m ≤ 9223372036854775807 := by omega
      have HQ := Lib.hid (fun w => l13Dec_nat m w hm1)
      have HE : Hid (txt12 (Lib.itoa n) = (⟨#[45]⟩ : ByteArray) ++ txt12 (Lib.decDigits m)) := by
        show _ = txt12 [45] ++ _
        rw [txt12_app]
        unfold Lib.itoa
        rw [if_pos (by omega), show n.natAbs = m by omega]
        rfl
      have hsz : (⟨#[45]⟩ : ByteArray).size + (txt12 (Lib.decDigits m)).size ≤ 9223372036854775807 := by
        rw [txt12_size, Lib.decDigits_length]
        have := nDigits_le m (by omega)
        show 1 + _ ≤ _
        omega
      have hneg : IntKind.i64.wrap (-n) = (m : Int) := (IntWalk.i64_in _ (by omega)).trans (by omega)
      have h2 : n < 0 := by omega
      rw [HE.out]
      clear HE
      generalize txt12 (Lib.decDigits m) = y at *
      go_enter Tryd.func84, Tryd.ntmps84
      go_wp2_with fail
      refine Calls.mono (HQ.out w) ?_
      rintro e w2 ⟨rfl, hb⟩
      go_wp2
      go_ret
      exact ⟨rfl, hb⟩

end Go.Proofs.YtdbddockmdkmeaaDoor
/- A list that is not too large. -/
namespace Go.Proofs.YtdbddockmdkmeaaDoor
open Go.RowKit

end Go.Proofs.YtdbddockmdkmeaaDoor
/- A row of texts of the call's own; marks in segments and in texts: what a law writes into what it was given, and whether it is held. -/
namespace Go.Proofs.YtdbddockmdkmeaaDoor
open Go.RowKit

/-- Texts in a row of the call's own. -/
def OwnTexts (w : World) (B : Nat) (v : Value) (ts : List ByteArray) : Prop := w.ownsRow B 9 1 v ts.length (ts.map Value.string)
theorem OwnTexts.far {w w' : World} {B : Nat} {v : Value} {ts : List ByteArray} (h : OwnTexts w B v ts) (hk : ∀ g, v.ownBlock = some g → w'.heap[g]? = w.heap[g]?) : OwnTexts w' B v ts := by
  refine ⟨h.1, ?_⟩
  rcases h.2 with h0 | ⟨g', cap, cur, rfl, hg, hh, r⟩
  · exact .inl h0
  · exact .inr ⟨g', cap, cur, rfl, hg, (hk g' rfl).trans hh, r⟩
theorem OwnTexts.below {w w' : World} {B : Nat} {v : Value} {ts : List ByteArray} (h : OwnTexts w B v ts) (hb : Below w.heap.size w w') : OwnTexts w' B v ts := h.far fun g hg => hb.block g (World.ownsRow.lt h g hg).2
theorem OwnTexts.empty (w : World) {B : Nat} (hB : B ≤ w.heap.size) : OwnTexts (w.alloc (.cells #[] 9)) B (.slice (some ⟨w.heap.size, 0, none⟩) 0 0) [] :=
  World.ownsRow_lit w #[] 0 hB (by simp [maxLen]) rfl
theorem OwnTexts.one (w : World) {B : Nat} (hB : B ≤ w.heap.size) (s : ByteArray) : OwnTexts (w.alloc (.cells #[.string s] 9)) B (.slice (some ⟨w.heap.size, 0, none⟩) 1 1) [s] :=
  World.ownsRow_lit w #[.string s] 1 hB (by simp [maxLen]) rfl
theorem OwnTexts.form {w : World} {B : Nat} {v : Value} {ts : List ByteArray} (h : OwnTexts w B v ts) (hn : 0 < ts.length) : ∃ g cap, v = .slice (some ⟨g, 0, none⟩) ts.length cap := own_form h hn

end Go.Proofs.YtdbddockmdkmeaaDoor
namespace Go.Proofs.YtdbddockmdkmeaaDoor.St
open Go.RowKit

/-- A slice of texts in memory below 'B'. -/
def Strs (w : World) (B : Nat) (A : Option Addr) (ts : List ByteArray) : Prop :=
  0 < ts.length → ∃ b o, A = some ⟨b, o, none⟩ ∧ b < B ∧ ∀ (k : Nat) (s : ByteArray), ts[k]? = some s → w.cell? ⟨b, o + k, none⟩ = some (.string s)
theorem Strs.below {w w' : World} {B : Nat} {A : Option Addr} {l : List ByteArray} (h : Strs w B A l) (hb : Below B w w') : Strs w' B A l := fun hl => by
  obtain ⟨b, o, e, hB, hc⟩ := h hl
  refine ⟨b, o, e, hB, fun k s hk => ?_⟩
  rw [hb.cell hB]
  exact hc k s hk
theorem Strs.more {w : World} {B B' : Nat} {A : Option Addr} {l : List ByteArray} (h : Strs w B A l) (hB : B ≤ B') : Strs w B' A l := fun hl => by
  obtain ⟨b, o, e, hb, hc⟩ := h hl
  exact ⟨b, o, e, Nat.lt_of_lt_of_le hb hB, hc⟩
end Go.Proofs.YtdbddockmdkmeaaDoor.St

namespace Go.Proofs.YtdbddockmdkmeaaDoor
open Go.RowKit

end Go.Proofs.YtdbddockmdkmeaaDoor
/- A byte written into a Builder. -/
namespace Go.Proofs.YtdbddockmdkmeaaDoor
open Go.RowKit

theorem byteCells_app (s t : List UInt8) : Lib.byteCells (s ++ t) = Lib.byteCells s ++ Lib.byteCells t := by simp [Lib.byteCells]
theorem byteCells_len (s : List UInt8) : (Lib.byteCells s).length = s.length := by simp [Lib.byteCells]

/-- What a writing call of one byte has done. -/
def WroteB (w : World) (B b : Nat) (bs : List Value) (e : Ending) (w' : World) : Prop :=
  e = .returned .nilIface ∧ Lib.IsBuilderF 56 5 B b bs w' ∧ Below B w w' ∧ Lib.OthersKept 5 (some b) w w'

set_option maxRecDepth 100000 in
set_option maxHeartbeats 1000000 in
theorem writeByte_any (B b : Nat) (bs : List Value) (n : Int) (w : World) (h : Lib.IsBuilderF 56 5 B b bs w) (hlen : bs.length ≤ 100000000) (hBw : B ≤ w.heap.size) :
    Calls Tryd.prog 81 #[.pointer (some ⟨b, 0, none⟩), .int .u8 n] w (WroteB w B b (bs ++ [.int .u8 n])) := by
  obtain ⟨i0, hi, hz0, hz1, hz2⟩ := info_parts info_byte
  have I0 := Lib.hid hi
  have Z0 := Lib.hid hz0
  have Z1 := Lib.hid hz1
  have Z2 := Lib.hid hz2
  clear hi hz0 hz1 hz2
  go_enter Tryd.func81, Tryd.ntmps81
  go_wp2_with fail
  refine (copyCheck_any B b bs _ h).mono ?_
  rintro e w1 ⟨rfl, h1, hb1, hk1⟩
  obtain ⟨hB, v, hbk, hown, hne⟩ := h1
  have c0 : w1.cell? ⟨b, 0, none⟩ = some (.pointer (some ⟨b, 0, none⟩)) := by rw [Lib.cell_of_heap hbk]; rfl
  have c1 : w1.cell? ⟨b, 1, none⟩ = some v := by rw [Lib.cell_of_heap hbk]; rfl
  have hz1 := hb1.size
  have HNW := Lib.hid (cell_one_new w1 (.int .u8 n) 5)
  have HO := Lib.hid (hown.alloc (.cells #[.int .u8 n] 5))
  have HOWN := Lib.hid hown
  clear hown
  go_wp2_with (at_builtin; go_must (refine wpList_append_ownF _ rfl _ _ 22 rfl B 5 i0 (.int .u8 0) 1 1 Tryd.underlying22 I0.out Z0.out Z1.out Z2.out rfl (by decide) v bs.length bs rfl HO.out ⟨w1.heap.size, 0, none⟩ 1 1 [.int .u8 n] rfl rfl HNW.out (by simp [Value.oneCell']) (by unfold maxLen; omega) (by omega) (by simp; omega) ?_))
  intro v' w2 hown' hgrow' _
  have hgrow : World.grownBy (w1.alloc (.cells #[.int .u8 n] 5)) w2 v.ownBlock := hgrow'
  clear hgrow'
  have hlt : b < w1.heap.size := (Array.getElem?_eq_some_iff.1 hbk).1
  have hb2 : w2.heap[b]? = some (.cells #[.pointer (some ⟨b, 0, none⟩), v] 56 (0, 0)) := (hgrow.block b (by simp; omega) (fun e => hne e.symm)).trans ((Below.heap_alloc w1 _ b hlt).trans hbk)
  have d1 : w2.cell? ⟨b, 1, none⟩ = some v := by rw [Lib.cell_of_heap hb2]; rfl
  have f1 : w2.frozen? ⟨b, 1, none⟩ = false := Lib.frozen_of_heap hb2 1
  obtain ⟨ao, n', cap, rfl⟩ : ∃ ao n' cap, v' = .slice ao n' cap := by
    rcases hown'.2 with ⟨hv, _⟩ | ⟨g, cap, cur, fz, hv, _⟩
    · exact ⟨_, _, _, hv⟩
    · exact ⟨_, _, _, hv⟩
  have HK := Lib.hid (((hk1.alloc (.cells #[.int .u8 n] 5)).grown hgrow (Lib.ownsRowF_kind HO.out)).setCell ⟨b, 1, none⟩ rfl (.slice ao n' cap))
  have HP := Lib.hid (Lib.BuilderAtF.put (T := 56) (e := 5) hB hb2 (bs' := bs ++ [.int .u8 n]) (by simpa using hown') (by decide))
  have HW := Lib.hid (((hb1.alloc (by omega) (.cells #[.int .u8 n] 5)).grown hgrow (by simp; omega) (fun k hk => (HOWN.out.lt k hk).1)).setCell (p := ⟨b, 1, none⟩) hB (.slice ao n' cap))
  clear hown' hgrow hbk hb2 c0 c1 HO HOWN HNW hk1
  go_wp2
  go_ret
  exact ⟨rfl, .inr HP.out, HW.out, HK.out⟩

theorem kept_rowW {w w' : World} {b X : Nat} {T : TypeId} {cs : Array Value} (hk : Lib.OthersKept 5 (some b) w w') (hr : Row w X T cs) (h1 : X ≠ b) (h2 : T ≠ 5) : Row w' X T cs :=
  hk X _ hr (fun e => by injection e with e; exact h1 e) (fun c fz e => by injection e with _ e; exact h2 e)
theorem isB_ltW {B b : Nat} {bs : List Value} {w : World} (h : Lib.IsBuilderF 56 5 B b bs w) : b < w.heap.size := by
  rcases h with h | h
  · obtain ⟨_, v, hb, _⟩ := h; exact (Array.getElem?_eq_some_iff.1 hb).1
  · obtain ⟨_, v, hb, _⟩ := h; exact (Array.getElem?_eq_some_iff.1 hb).1

end Go.Proofs.YtdbddockmdkmeaaDoor
/- The program's text of things: plain, and formatThings. -/
namespace Go.Proofs.YtdbddockmdkmeaaDoor
open Go.RowKit

theorem nil12 : (⟨#[]⟩ : ByteArray).size = 0 := rfl
theorem one12 (c : UInt8) : (⟨#[c]⟩ : ByteArray).size = 1 := rfl
theorem nil_app12 (x : ByteArray) : (⟨#[]⟩ : ByteArray) ++ x = x := by
  apply ByteArray.ext
  simp
/-- A Builder in block 'b', of a call that was entered at 'w', that has written the text 'y'. -/
def Bld12 (b : Nat) (w : World) (y : ByteArray) (W : World) : Prop := Lib.IsBuilderF 56 5 w.heap.size b (Lib.byteCells y.data.toList) W ∧ Below w.heap.size w W
theorem cells_cat12 (y s : ByteArray) : Lib.byteCells y.data.toList ++ Lib.strCells s = Lib.byteCells (y ++ s).data.toList := by
  rw [ByteArray.data_append, Array.toList_append, byteCells_app]
  rfl
theorem cells_size12 (y : ByteArray) : (Lib.byteCells y.data.toList).length = y.size := by
  rw [byteCells_len]; rfl
theorem Bld12.fresh (w : World) : Bld12 w.heap.size w ⟨#[]⟩ (w.alloc (.cells #[.pointer none, .slice none 0 0] 56)) :=
  ⟨Lib.IsBuilderF.of (Lib.fresh_isBuilder _ _ w), (Below.refl _ w).alloc (Nat.le_refl _) _⟩
theorem Bld12.box {b : Nat} {w W : World} {y : ByteArray} (h : Bld12 b w y W) (o : Obj) : Bld12 b w y (W.alloc o) := ⟨h.1.alloc o, h.2.alloc h.2.size _⟩

end Go.Proofs.YtdbddockmdkmeaaDoor
