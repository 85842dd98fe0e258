/- Where nodes lie, yielded one by one. -/
import Derived.Test.YtdbddockmdkmeaaDoorQc
import Derived.Test.YtdbddockmdkmeaaDoorJr
import Derived.RangeFuncWrites
namespace Go.Proofs.YtdbddockmdkmeaaDoor
open Go.RowKit Go.Shelf
attribute [local go_sem] Oper.semAt_some

/-- All blocks below 'n₀' but 'bb', rows of bytes aside, lie as they lay. -/
def Kept (n₀ bb : Nat) (W W' : World) : Prop := ∀ (k : Nat) (o : Obj), k < n₀ → k ≠ bb → W.heap[k]? = some o → (∀ c fz, o ≠ .cells c 5 fz) → W'.heap[k]? = some o
theorem Kept.refl (n₀ bb : Nat) (W : World) : Kept n₀ bb W W := fun _ _ _ _ h _ => h
theorem Kept.trans {n₀ bb : Nat} {A B C : World} (h : Kept n₀ bb A B) (k : Kept n₀ bb B C) : Kept n₀ bb A C := fun i o h1 h2 h3 h4 => k i o h1 h2 (h i o h1 h2 h3 h4) h4
theorem Kept.of_below {n₀ bb : Nat} {A B : World} (h : Below A.heap.size A B) : Kept n₀ bb A B := fun i _ _ _ h3 _ => (h.block i (Array.getElem?_eq_some_iff.1 h3).1).trans h3
theorem Kept.row {n₀ bb : Nat} {A B : World} (h : Kept n₀ bb A B) {b : Nat} {t : TypeId} {cs : Array Value} (hr : Row A b t cs) (h1 : b < n₀) (h2 : b ≠ bb) (h3 : t ≠ 5) : Row B b t cs :=
  h b _ h1 h2 hr (fun c fz he => by injection he with _ ht; exact h3 ht)
theorem Kept.put {n₀ bb : Nat} (W : World) {l : Nat} (o : Obj) (hl : n₀ ≤ l) : Kept n₀ bb W (W.putObj l o) := fun _ _ _ _ h3 _ => (World.putObj_heap_other (by omega)).trans h3
theorem grownBy_of_below {A B : World} (h : Below A.heap.size A B) : A.grownBy B none := ⟨h.os, h.tape, h.output, h.size, fun k hk _ => h.block k hk⟩

/-- The nodes that the iterator reads. -/
structure Lain (w : World) (n₀ bb g : Nat) (l : List Seg) (nb : Nat → Nat) : Prop where
  row : ∃ cs, Row w g 57 cs ∧ ∀ i, i < l.length → cs[i]? = some (.pointer (some ⟨nb i, 0, none⟩))
  rowAt : g < n₀ ∧ g ≠ bb
  node : ∀ (i : Nat) (hi : i < l.length), ∃ cv, Row w (nb i) 106 #[.string (l[i]'hi).name, .int .i64 (l[i]'hi).size, .pointer (parPtr l nb i), cv]
  nodeAt : ∀ i, i < l.length → nb i < n₀ ∧ nb i ≠ bb
theorem Lain.kept {w w' : World} {n₀ bb g : Nat} {l : List Seg} {nb : Nat → Nat} (h : Lain w n₀ bb g l nb) (hk : Kept n₀ bb w w') : Lain w' n₀ bb g l nb := by
  obtain ⟨cs, hr, hc⟩ := h.row
  refine ⟨⟨cs, hk.row hr h.rowAt.1 h.rowAt.2 (by decide), hc⟩, h.rowAt, fun i hi => ?_, h.nodeAt⟩
  obtain ⟨cv, hn⟩ := h.node i hi
  exact ⟨cv, hk.row hn (h.nodeAt i hi).1 (h.nodeAt i hi).2 (by decide)⟩
theorem Lain.placed {w : World} {n₀ bb g : Nat} {l : List Seg} {nb : Nat → Nat} (h : Lain w n₀ bb g l nb) : Placed w l nb := fun j hj => by
  obtain ⟨cv, hn⟩ := h.node j hj
  refine ⟨hn.lt, ?_, hn.cell 2⟩
  rw [sizeAt_of hj]
  exact hn.cell 1

/-- What a round says, by the truth it hands back. -/
def YP {α : Type} (J Jx : List α → World → Prop) (Kp : World → World → Prop) (ys : List α) (W1 : World) (b : Bool) (W' : World) : Prop := if b then J ys W' ∧ Kp W1 W' else Jx ys W'

theorem YP.yes {α : Type} {J Jx : List α → World → Prop} {Kp : World → World → Prop} {ys : List α} {W1 W' : World} (h : YP J Jx Kp ys W1 true W') : J ys W' ∧ Kp W1 W' := by
  unfold YP at h
  rwa [if_pos rfl] at h
theorem YP.no {α : Type} {J Jx : List α → World → Prop} {Kp : World → World → Prop} {ys : List α} {W1 W' : World} (h : YP J Jx Kp ys W1 false W') : Jx ys W' := by
  unfold YP at h
  rwa [if_neg (by decide)] at h

def placeArgs (l : List Seg) (x : Ix l) : Array Value := #[.string (l[x.1]'x.2).name, .agg #[.int .i64 (begAt l x.1), .int .i64 (endAt l x.1)]]

set_option maxRecDepth 100000 in
set_option maxHeartbeats 2000000 in
theorem places1_in (n : Nat) (hn : 1 ≤ n) (l' Bs n₀ bb g : Nat) (l : List Seg) (nb : Nat → Nat) (hv : validB l = true) (J Jx : List (Ix l) → World → Prop) (W : World) (hJ : AbidesFrom W.heap.size J)
    (hY : ∀ pre x W1, J pre W1 → pre.length < l.length → YieldAt Fence.wide (n - 1) Tryd.prog l' (placeArgs l x) W1 fun e W' =>
      (e = .returned (.bool true) ∧ J (pre ++ [x]) W' ∧ Kept n₀ bb W1 W') ∨ (e = .returned (.bool false) ∧ Jx (pre ++ [x]) W'))
    (hBs : W.cell? ⟨Bs, 0, none⟩ = some (.slice (some ⟨g, 0, none⟩) l.length l.length)) (hL : Lain W n₀ bb g l nb) (h0 : J [] W) :
    CallsIn Fence.wide n Tryd.prog 107 #[.func (.yield l') #[] #[], .pointer (some ⟨Bs, 0, none⟩)] W fun e W' => (∃ v, e = .returned v) ∧
      ((∃ ys : List (Ix l), ys.map (·.1) = List.range l.length ∧ J ys W') ∨ (∃ pre, Jx pre W')) := by
  have hl8 := (valid_all hv).2.1
  refine callsIn_of_wp Tryd.func107 rfl trivial ?_ rfl
  simp only [Tryd.ntmps107, List.size_toArray, List.length_cons, List.length_nil, Nat.reduceAdd, Nat.reduceSub, Array.replicate_succ, Array.replicate_zero, List.push_toArray, List.append_toArray, List.nil_append, List.cons_append]
  have HL := Lib.hid hL
  have HV := Lib.hid hv
  have HJ : Hid (AbidesFrom W.heap.size J) := hJ
  have HY : Hid (∀ pre x W1, J pre W1 → pre.length < l.length → YieldAt Fence.wide (n - 1) Tryd.prog l' (placeArgs l x) W1 fun e W' => ∃ b : Bool, e = .returned (.bool b) ∧ YP J Jx (Kept n₀ bb) (pre ++ [x]) W1 b W') := fun pre x W1 h1 h2 => by
    obtain ⟨fn, tmps, assign, body, hy, hR⟩ := hY pre x W1 h1 h2
    refine ⟨fn, tmps, assign, body, hy, hR.mono ?_⟩
    rintro e W3 (⟨rfl, h3, h4⟩ | ⟨rfl, h3⟩)
    · exact ⟨true, rfl, h3, h4⟩
    · exact ⟨false, rfl, h3⟩
  clear hL hv hJ hY
  gi_wp2
  gi_loopw [7] (fun i wr => ∃ (k : Nat) (ys : List (Ix l)), k ≤ l.length ∧ i = .int .i64 k ∧ Hid (ys.map (·.1) = List.range k) ∧ Hid (J ys wr) ∧ Hid (Kept n₀ bb W wr))
    (fun i _ => l.length - (intOf i).toNat)
  case atStart => exact ⟨0, [], Nat.zero_le _, rfl, rfl, h0, Kept.refl _ _ _⟩
  case round =>
    obtain ⟨k, ys, hk, rfl, HYS, HJ1, HK⟩ := hrel
    by_cases hlt : k < l.length
    · have HLr := Lib.hid (HL.out.kept HK.out)
      obtain ⟨cs, hrow, hci⟩ := HLr.out.row
      obtain ⟨cv, hnode⟩ := HLr.out.node k hlt
      have gk : wr.cell? ⟨g, k, none⟩ = some (.pointer (some ⟨nb k, 0, none⟩)) := by rw [hrow.cell]; exact hci k hlt
      have nk : wr.cell? ⟨nb k, 0, none⟩ = some (.string (l[k]'hlt).name) := hnode.cell 0
      have hnl := hnode.lt
      clear hrow hci hnode
      have hmx : Tryd.prog.follows .mixedOrders = true := by kernel_rfl
      have HYK : Hid (∀ W1, J ys W1 → YieldAt Fence.wide (n - 1) Tryd.prog l' #[.string (l[k]'hlt).name, .agg #[.int .i64 (begAt l k), .int .i64 (endAt l k)]] W1 fun e W' => ∃ b : Bool, e = .returned (.bool b) ∧ YP J Jx (Kept n₀ bb) (ys ++ [⟨k, hlt⟩]) W1 b W') := fun W1 h => HY.out ys ⟨k, hlt⟩ W1 h (by
        have h1 := congrArg List.length HYS.out
        simp at h1
        omega)
      have HJW : Hid (∀ w1, Below wr.heap.size wr w1 → J ys w1) := fun w1 hb => HJ.out ys wr w1 none HJ1.out (grownBy_of_below hb) (fun r e => by cases e)
      generalize (l[k]'hlt).name = nm at *
      have HPL := Lib.hid HLr.out.placed
      gi_wp2
      gi_region_with_o (first
        | (refine ⟨trivial, ?_⟩; gi_at_call 73; refine (callsIn_wide.2 (place_any l nb HV.out k hlt _ (show Placed wr.drew l nb from HPL.out))).mono ?_; rintro e w1 ⟨rfl, hb1⟩; have hbw : Below wr.heap.size wr w1 := ((Below.refl _ wr).drew).trans hb1; have nk1 : w1.cell? ⟨nb k, 0, none⟩ = some (.string nm) := (hbw.cell (p := ⟨nb k, 0, none⟩) hnl).trans nk; obtain ⟨fn, tmps, assign, body, hy, hR⟩ := HYK.out w1 (HJW.out w1 hbw))
        | (refine hR.mono ?_; rintro e W3 ⟨b, rfl, hyp⟩))
      all_goals
        have HH := Lib.hid hyp
        have HBW := Lib.hid hbw
        clear hyp hbw hb1 nk1 hy hR HYK HJW HPL gk nk
        cases b
        · gi_wp2
          refine bodyPost_ret (results_none rfl _ _ _) rfl ?_
          exact ⟨⟨_, rfl⟩, .inr ⟨_, HH.out.no⟩⟩
        · have HA : Hid ((ys ++ [(⟨k, hlt⟩ : Ix l)]).map (fun y : Ix l => y.1) = List.range (k + 1)) := by
            show _ = _
            rw [List.map_append, HYS.out, List.range_succ]
            rfl
          have HB := Lib.hid HH.out.yes.1
          have HC := Lib.hid (HK.out.trans ((Kept.of_below HBW.out).trans HH.out.yes.2))
          gi_wp2
          go_roundw
          case rel => exact ⟨k + 1, ys ++ [⟨k, hlt⟩], by omega, by simp, HA, HB, HC⟩
          case measure => simp [intOf]; omega
    · gi_wp2
      go_end0
      exact ⟨⟨_, rfl⟩, .inl ⟨ys, by rw [HYS.out, show k = l.length by omega], HJ1.out⟩⟩

theorem places_stops (n : Nat) (hn : 1 ≤ n) (Bs n₀ bb g : Nat) (l : List Seg) (nb : Nat → Nat) (hv : validB l = true) (w : World) (hBs : Row w Bs 52 #[.slice (some ⟨g, 0, none⟩) l.length l.length]) (hL : Lain w n₀ bb g l nb) :
    SeqStopsK Fence.wide n Tryd.prog 107 #[.pointer (some ⟨Bs, 0, none⟩)] (placeArgs l) (Kept n₀ bb) (fun ys => ys.map (·.1) = List.range l.length) (fun _ => True) l.length w := fun l' J Jx W hW hJ _ hY h0 => by
  refine (places1_in n hn l' Bs n₀ bb g l nb hv J Jx W hJ hY ((hBs.below hW hBs.lt).cell 0) (hL.kept (Kept.of_below hW)) h0).mono ?_
  rintro e W' ⟨hv, (⟨ys, h1, h2⟩ | ⟨pre, h2⟩)⟩
  · exact ⟨hv, .inl ⟨ys, h1, h2⟩⟩
  · exact ⟨hv, .inr ⟨pre, trivial, h2⟩⟩

set_option maxRecDepth 100000 in
set_option maxHeartbeats 400000 in
theorem placesOf_any (a : Option Addr) (len cap : Nat) (w : World) :
    Calls Tryd.prog 79 #[.slice a len cap] w fun e w' => e = .returned (.func (.func 107) #[] #[.pointer (some ⟨w.heap.size, 0, none⟩)]) ∧ w' = w.alloc (.cells #[.slice a len cap] 52) := by
  go_enter Tryd.func79, Tryd.ntmps79
  go_wp2
  go_ret
  exact ⟨rfl, rfl⟩

theorem kept_others {n₀ bb : Nat} {W W' : World} (h : Lib.OthersKept 5 (some bb) W W') : Kept n₀ bb W W' := fun k o _ h2 h3 h4 => h k o h3 (fun e => h2 (by cases e; rfl)) h4
theorem from_below {B : Nat} {W W' : World} (h : Below W.heap.size W W') : KeepsFrom B W W' := KeepsFrom.of_grownBy (grownBy_of_below h) (fun j e => by cases e)
theorem builder_cells {T e : TypeId} {B b : Nat} {bs : List Value} {w : World} (h : Lib.IsBuilderF T e B b bs w) : ∃ c, w.heap[b]? = some (.cells c T (0, 0)) := by
  rcases h with ⟨_, v, h2, _⟩ | ⟨_, v, h2, _⟩
  · exact ⟨_, h2⟩
  · exact ⟨_, h2⟩


end Go.Proofs.YtdbddockmdkmeaaDoor
