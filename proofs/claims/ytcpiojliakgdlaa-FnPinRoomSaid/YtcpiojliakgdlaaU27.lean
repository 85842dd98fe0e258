/- Joined: Gs En Eo. -/
import Derived.Test.YtcpiojliakgdlaaU17
import Derived.Deep.Onto
import Derived.Test.YtcpiojliakgdlaaU26
import Derived.Test.YtcpiojliakgdlaaU24
import Derived.Test.YtcpiojliakgdlaaU12
/- impl.StatesOf. -/
namespace Go.Proofs.Ytcpiojliakgdlaa
open Go.RowKit Go.Shelf
attribute [local go_sem] Oper.semAt_some

/-- What the loop keeps. -/
structure Listing (w : World) (D : Nat) (v : Value) (ts : List ByteArray) (W : World) : Prop where
  nodes : Row W w.heap.size 61 #[v]
  ex : ∃ a c, Row W (w.heap.size + 1) 40 #[.slice a ts.length c] ∧ OwnTexts W D (.slice a ts.length c) ts
  below : Below w.heap.size w W
theorem OwnTexts.grown {W W' : World} {base : Nat} {v : Value} {ts : List ByteArray} {row : Option Nat} (h : OwnTexts W base v ts) (hg : W.grownBy W' row) (hr : ∀ r, row = some r → ∃ o : Obj, W.heap[r]? = some o ∧ o.isCells = false) : OwnTexts W' base v ts := by
  refine h.far fun g hb => hg.block g ((World.ownsRow.lt h g hb).2) (fun he => ?_)
  obtain ⟨o, ho, hc⟩ := hr g he.symm
  rcases h.2 with ⟨rfl, _⟩ | ⟨g', cap, cur, rfl, _, hh, _⟩
  · simp [Value.ownBlock] at hb
  · have : g' = g := by simpa [Value.ownBlock] using hb
    subst this
    rw [hh] at ho
    injection ho with ho
    subst ho
    cases hc
theorem Listing.grown {w W W' : World} {D : Nat} {v : Value} {ts : List ByteArray} {B : Nat} {row : Option Nat} (h : Listing w D v ts W) (hg : W.grownBy W' row) (hB : w.heap.size ≤ B) (hr : ∀ r, row = some r → B ≤ r ∧ ∃ o : Obj, W.heap[r]? = some o ∧ o.isCells = false) : Listing w D v ts W' := by
  obtain ⟨a, c, h1, h2⟩ := h.ex
  exact ⟨row_grown h.nodes hg hr, ⟨a, c, row_grown h1 hg hr, h2.grown hg (fun r e => (hr r e).2)⟩, h.below.grown hg h.below.size (fun k e => by have := (hr k e).1; omega)⟩
end Go.Proofs.Ytcpiojliakgdlaa
/- The program's pinsWithin and AllPins. -/
namespace Go.Proofs.Ytcpiojliakgdlaa
open Go.RowKit Go.Shelf
attribute [local go_sem] Oper.semAt_some

theorem operIn_append_firm10 {F : Fence} {nF : Nat} {w : World} {o : Oper} {a : Act} {K : Act → World → Prop} {Q : Exit → Act → World → Prop} (s x : Operand)
    (ho : o.op = .call { callee := .builtin .append, args := #[s, x], argTypes := #[40, 40] })
    (base n : Nat) (v : Value) (xs : List Value) (hs : a.eval s = v) (hown : w.ownsRow base 9 1 v n xs) (h0 : n = 0 → v = .slice none 0 0) (ad : Addr) (u : Value) (hx : a.eval x = .slice (some ad) 1 1)
    (hnews : ∀ j y, [u][j]? = some y → w.cell? (ad.add j) = some y) (h1 : ∀ y ∈ [u], y.oneCell' = true) (hn : n ≤ 1000) (hbase : base ≤ w.heap.size)
    (h : ∀ g cap w', w'.ownsRow base 9 1 (.slice (some ⟨g, 0, none⟩) (n + 1) cap) (n + 1) (xs ++ [u]) → w.grownBy w' v.ownBlock → SteadyT w w' → K (a.put o.dst (.slice (some ⟨g, 0, none⟩) (n + 1) cap)) w') :
    o.wpIn F nF Try.prog a w K Q := by
  obtain ⟨g, cap, w', hr, h2, h3, h4⟩ := run_append_firmT w o.type base n v xs hown h0 ad u hnews h1 hn hbase
  unfold Oper.wpIn
  refine ⟨by simp [Oper.about, ho, resolve, Target.leads, Sem.run_pure], ?_⟩
  rw [Oper.semAt_plain F _ _ (by rw [ho]; intro c hc'; cases hc')]
  simp [execOp, ho, resolve, invoke, builtin, hs, hx, hr, Result.andThen]
  exact h g cap w' h2 h3 h4

/-- What pinsWithin makes. -/
structure Within10 (w : World) (A : Option Addr) (l : List Seg) (c : Nat) (room : Int) (w' : World) : Prop where
  below : Below w.heap.size w w'
  size : w'.heap.size = w.heap.size + 6
  tree : Row w' w.heap.size 23 #[.slice A l.length c]
  room : Row w' (w.heap.size + 1) 3 #[.int .i64 room]
  stay : Row w' (w.heap.size + 2) 113 #[.int .u64 (setF (memF [0]) : Int)]
  next : Row w' (w.heap.size + 3) 3 #[.int .i64 1]
  last : Row w' (w.heap.size + 4) 3 #[.int .i64 (l.length : Nat)]
  fits : Row w' (w.heap.size + 5) 162 #[fitsV10 w.heap.size (w.heap.size + 1)]

set_option maxRecDepth 100000 in
set_option maxHeartbeats 1000000 in
theorem pinsWithin_any (A : Option Addr) (l : List Seg) (c : Nat) (room : Int) (w : World) :
    Calls Try.prog 95 #[.slice A l.length c, .int .i64 room] w fun e w' => e = .returned (.func (.func 154) #[] #[.pointer (some ⟨w.heap.size + 5, 0, none⟩), .pointer (some ⟨w.heap.size + 2, 0, none⟩), .pointer (some ⟨w.heap.size + 3, 0, none⟩), .pointer (some ⟨w.heap.size + 4, 0, none⟩)]) ∧ Within10 w A l c room w' := by
  have hz0 : ((w.alloc (.cells #[.slice A l.length c] 23)).alloc (.cells #[.int .i64 room] 3)).heap.size = w.heap.size + 2 := by simp
  have hb0 : Below w.heap.size w ((w.alloc (.cells #[.slice A l.length c] 23)).alloc (.cells #[.int .i64 room] 3)) := ((Below.refl _ w).alloc (Nat.le_refl _) _).alloc (by simp) _
  have hr0 : Row ((w.alloc (.cells #[.slice A l.length c] 23)).alloc (.cells #[.int .i64 room] 3)) w.heap.size 23 #[.slice A l.length c] := (Row.new w _ _).alloc _
  have hr1 : Row ((w.alloc (.cells #[.slice A l.length c] 23)).alloc (.cells #[.int .i64 room] 3)) (w.heap.size + 1) 3 #[.int .i64 room] := by
    have h1 := Row.new (w.alloc (.cells #[.slice A l.length c] 23)) 3 #[.int .i64 room]
    rw [World.size_alloc] at h1
    exact h1
  obtain ⟨W0, hW0⟩ : ∃ W0, W0 = (w.alloc (.cells #[.slice A l.length c] 23)).alloc (.cells #[.int .i64 room] 3) := ⟨_, rfl⟩
  rw [← hW0] at hz0 hb0 hr0 hr1
  have HC0 : Hid (∀ W, Below W0.heap.size W0 W → W.cell? ⟨w.heap.size, 0, none⟩ = some (.slice A l.length c)) := fun W h => (hr0.below h hr0.lt).cell 0
  have hwi := fun W => with_any (memF []) 0 W (by decide)
  have e0 : setF (memF []) = 0 := rfl
  rw [setF_root10 [], e0] at hwi
  have HWI := Lib.hid hwi
  have HPO := Lib.hid (fun W => pinsOn_any (setF (memF [0]) : Int) 1 (l.length : Nat) w.heap.size (w.heap.size + 1) W)
  have HZ0 := Lib.hid hz0
  have HB0 := Lib.hid hb0
  have HR0 := Lib.hid hr0
  have HR1 := Lib.hid hr1
  clear hwi e0 hz0 hb0 hr0 hr1
  unfold fitsV10 at HPO
  have hmf : ∀ (fn : Fn) (first cap : Array Value) (w : World), (Instr.makeFunc fn first cap).run Try.prog w = .ok (.func fn first cap) w := fun _ _ _ _ => rfl
  go_enter Try.func95, Try.ntmps95
  go_wp2_with fail
  rw [← hW0]
  clear hW0
  refine wp_region_held_drew (S := (fun W => Below W0.heap.size W0 W)) (by kernel_rfl) ?_ (fun hHeld => ?_)
  · exact (Below.refl _ W0).drew
  refine take_at (i := 1) (d := 6) (v := .slice A l.length c) rfl rfl (by kernel_rfl) (by kernel_rfl) (by kernel_rfl) (fun _ _ _ h => h) (by kernel_rfl) ((by (intro W hS; have hcW := HC0.out W hS; go_simp))) (by assumption) ?_
  simp only [List.setIfInBounds_toArray, List.set_cons_succ, List.set_cons_zero]
  refine take_at (i := 2) (d := 7) (v := .int .i64 (l.length : Nat)) rfl rfl (by kernel_rfl) (by kernel_rfl) (by kernel_rfl) (fun _ _ _ h => h) (by kernel_rfl) (by (intro w hSw; (try dsimp only at hSw); go_simp)) (by assumption) ?_
  simp only [List.setIfInBounds_toArray, List.set_cons_succ, List.set_cons_zero]
  refine take_at (i := 3) (d := 8) (v := .func (.func 135) #[] #[.pointer (some ⟨w.heap.size, 0, none⟩), .pointer (some ⟨w.heap.size + 1, 0, none⟩)]) rfl rfl (by kernel_rfl) (by kernel_rfl) (by kernel_rfl) (fun _ _ _ h => h) (by kernel_rfl) (by (intro w hSw; (try dsimp only at hSw); go_simp)) (by assumption) ?_
  simp only [List.setIfInBounds_toArray, List.set_cons_succ, List.set_cons_zero]
  refine wpAnyH_ready (rs := [0]) (by kernel_rfl) (by simp) ?_
  refine AllReadyH.cons rfl (fun K hK => ?_) AllReadyH.nil
  go_simp
  refine Calls.mono (HWI.out _) ?_
  rintro e w1 ⟨rfl, rfl⟩
  refine hK.out _ _ hHeld (fun hHeld => ?_)
  clear hK K
  refine wpAnyH_ready (rs := [4]) (by kernel_rfl) (by simp) ?_
  refine AllReadyH.cons rfl (fun K hK => ?_) AllReadyH.nil
  go_simp
  refine Calls.mono (HPO.out _) ?_
  rintro e w2 ⟨rfl, hw2⟩
  have hb2 : Below W0.heap.size W0 w2 := by
    rw [hw2]
    exact ((((((Below.refl _ W0).drew).alloc (Nat.le_refl _) _).alloc (by simp) _).alloc (by simp; omega) _).alloc (by simp; omega) _)
  have hz2 : w2.heap.size = w.heap.size + 6 := by
    rw [hw2]
    have := HZ0.out
    simp
    omega
  have hx0 : Row w2 (w.heap.size + 2) 113 #[.int .u64 (setF (memF [0]) : Int)] := by
    rw [hw2, ← HZ0.out]
    exact (((Row.new W0.drew _ _).alloc _).alloc _).alloc _
  have hx1 : Row w2 (w.heap.size + 3) 3 #[.int .i64 1] := by
    have h1 := ((Row.new (W0.drew.alloc (.cells #[.int .u64 (setF (memF [0]) : Int)] 113)) 3 #[.int .i64 1]).alloc (.cells #[.int .i64 (l.length : Nat)] 3)).alloc (.cells #[fitsV10 w.heap.size (w.heap.size + 1)] 162)
    rw [World.size_alloc, show W0.drew.heap.size = w.heap.size + 2 from HZ0.out] at h1
    rw [hw2]
    exact h1
  have hx2 : Row w2 (w.heap.size + 4) 3 #[.int .i64 (l.length : Nat)] := by
    have h1 := (Row.new ((W0.drew.alloc (.cells #[.int .u64 (setF (memF [0]) : Int)] 113)).alloc (.cells #[.int .i64 1] 3)) 3 #[.int .i64 (l.length : Nat)]).alloc (.cells #[fitsV10 w.heap.size (w.heap.size + 1)] 162)
    rw [World.size_alloc, World.size_alloc, show W0.drew.heap.size = w.heap.size + 2 from HZ0.out] at h1
    rw [hw2]
    exact h1
  have hx3 : Row w2 (w.heap.size + 5) 162 #[fitsV10 w.heap.size (w.heap.size + 1)] := by
    have h1 := Row.new (((W0.drew.alloc (.cells #[.int .u64 (setF (memF [0]) : Int)] 113)).alloc (.cells #[.int .i64 1] 3)).alloc (.cells #[.int .i64 (l.length : Nat)] 3)) 162 #[fitsV10 w.heap.size (w.heap.size + 1)]
    rw [World.size_alloc, World.size_alloc, World.size_alloc, show W0.drew.heap.size = w.heap.size + 2 from HZ0.out] at h1
    rw [hw2]
    exact h1
  have HWT : Hid (Within10 w A l c room w2) := ⟨HB0.out.trans (hb2.mono (by rw [HZ0.out]; omega)), hz2, HR0.out.below hb2 HR0.out.lt, HR1.out.below hb2 HR1.out.lt, hx0, hx1, hx2, hx3⟩
  have hs0 : W0.drew.heap.size = w.heap.size + 2 := HZ0.out
  rw [hs0]
  clear hw2 hz2 hx0 hx1 hx2 hx3 hHeld hs0
  refine hK.out _ _ hb2 (fun hHeld => ?_)
  clear hK K hb2
  refine take_at (i := 5) (d := 4) (v := .func (.func 154) #[] #[.pointer (some ⟨w.heap.size + 2 + 3, 0, none⟩), .pointer (some ⟨w.heap.size + 2, 0, none⟩), .pointer (some ⟨w.heap.size + 2 + 1, 0, none⟩), .pointer (some ⟨w.heap.size + 2 + 2, 0, none⟩)]) rfl rfl (by kernel_rfl) (by kernel_rfl) (by kernel_rfl) (fun _ _ _ h => h) (by kernel_rfl) (by (intro w hSw; (try dsimp only at hSw); go_simp)) (by assumption) ?_
  simp only [List.setIfInBounds_toArray, List.set_cons_succ, List.set_cons_zero]
  refine wpAnyH_done (by kernel_rfl) ?_ _
  clear hHeld
  go_wp2
  go_ret
  exact ⟨rfl, HWT.out⟩

end Go.Proofs.Ytcpiojliakgdlaa
/- The program's AllPins. -/
namespace Go.Proofs.Ytcpiojliakgdlaa
open Go.RowKit Go.Shelf
attribute [local go_sem] Oper.semAt_some

/-- The texts of all pins that fit in a room. -/
def pinTexts10 (l : List Seg) (room : Int) : List ByteArray := if validB l = true then (pinsAll10 l room).map (namesAt l) else []
theorem pinTexts10_len (l : List Seg) (room : Int) : (pinTexts10 l room).length ≤ 128 := by
  unfold pinTexts10
  by_cases hv : validB l = true
  · rw [if_pos hv, List.length_map]
    exact pinsAll10_len hv room
  · rw [if_neg hv]
    exact Nat.zero_le _
def AllPost10 (w : World) (l : List Seg) (room : Int) (e : Ending) (w' : World) : Prop :=
  ∃ v, e = .returned (.tuple #[v, .bool (validB l)]) ∧ OwnTexts w' w.heap.size v (pinTexts10 l room) ∧ Below w.heap.size w w'
open Classical in
noncomputable def fixP10 (l : List Seg) (x : List Nat) : List Nat := if Pins10 l x then x else []
theorem fixP10_pins (l : List Seg) (x : List Nat) : Pins10 l (fixP10 l x) := by
  unfold fixP10
  split
  · assumption
  · exact Pins10.nil
theorem fixP10_all {l : List Seg} {room : Int} {x : List Nat} (h : x ∈ pinsAll10 l room) : fixP10 l x = x := if_pos (pinsAll10_pins h).1

/-- The texts that are gathered. -/
structure Gath10 (w w1 : World) (l : List Seg) (g : Nat) (ts : List ByteArray) (X : World) : Prop where
  nodes : Row X w1.heap.size 61 #[.slice (some ⟨g, 0, none⟩) l.length l.length]
  ex : ∃ v, Row X (w1.heap.size + 1) 40 #[v] ∧ OwnTexts X (w1.heap.size + 8) v ts ∧ (ts.length = 0 → v = .slice none 0 0)
  below : Below w1.heap.size w1 X
  low : Below w.heap.size w X
theorem Gath10.grown {w w1 X Y : World} {l : List Seg} {g : Nat} {ts : List ByteArray} {row : Option Nat} (h : Gath10 w w1 l g ts X) (hg : X.grownBy Y row) (hw : w.heap.size ≤ w1.heap.size) (hr : ∀ r, row = some r → w1.heap.size + 8 ≤ r ∧ ∃ o : Obj, X.heap[r]? = some o ∧ o.isCells = false) : Gath10 w w1 l g ts Y := by
  obtain ⟨v, h1, h2, h3⟩ := h.ex
  exact ⟨row_grown h.nodes hg hr, ⟨v, row_grown h1 hg hr, h2.grown hg (fun r e => (hr r e).2), h3⟩, h.below.grown hg h.below.size (fun k e => by have := (hr k e).1; omega), h.low.grown hg h.low.size (fun k e => by have := (hr k e).1; omega)⟩

set_option maxRecDepth 100000 in
set_option maxHeartbeats 400000 in
theorem allPins_bad (A : Option Addr) (l : List Seg) (c : Nat) (room : Int) (w : World) (hw : Segs w w.heap.size A l) (hl : l.length ≤ 1048576) (hlc : l.length ≤ c) (hcm : c ≤ 9223372036854775807) (hn : Short l) (hv : validB l = false) :
    Calls Try.prog 43 #[.slice A l.length c, .int .i64 room] w (AllPost10 w l room) := by
  have hnil := fun (W : World) (a : Option Addr) (n c : Nat) => Lib.run_eql_slice_nil (P := Try.prog) W 61 72 a n c 0 0 Try.underlying61
  have HNO := Lib.hid (nodesOf_bad A l c w hw hl hlc hcm hn hv)
  have HF : Hid (∀ W, Below w.heap.size w W → ∃ v, Ending.returned (.tuple #[.slice none 0 0, .bool false]) = .returned (.tuple #[v, .bool (validB l)]) ∧ OwnTexts W w.heap.size v (pinTexts10 l room) ∧ Below w.heap.size w W) := fun W hb => by
    refine ⟨_, by rw [hv], ?_, hb⟩
    unfold pinTexts10
    rw [if_neg (by rw [hv]; decide)]
    exact World.ownsRow_nil _ _ _ _
  unfold AllPost10
  clear hw hn hv
  go_enter Try.func43, Try.ntmps43
  go_wp2_with fail
  refine Calls.mono HNO.out ?_
  rintro e w1 ⟨rfl, hb1⟩
  have HB := Lib.hid (hb1.alloc hb1.size (.cells #[.slice none 0 0] 61))
  clear hb1
  go_wp2
  go_ret2
  exact HF.out _ HB.out

set_option maxRecDepth 100000 in
set_option maxHeartbeats 8000000 in
theorem allPins_good (A : Option Addr) (l : List Seg) (c : Nat) (room : Int) (w : World) (hw : Segs w w.heap.size A l) (hl : l.length ≤ 1048576) (hlc : l.length ≤ c) (hcm : c ≤ 9223372036854775807) (hn : Short l) (hv : validB l = true) :
    Calls Try.prog 43 #[.slice A l.length c, .int .i64 room] w (AllPost10 w l room) := by
  have hnil := fun (W : World) (a : Option Addr) (n c : Nat) => Lib.run_eql_slice_nil (P := Try.prog) W 61 72 a n c 0 0 Try.underlying61
  have h8 := (valid_all hv).2.1
  have hl0 : ¬ l.length = 0 := by have := (valid_all hv).2.2; omega
  have HW : Hid (Segs w w.heap.size A l) := hw
  have HNO := Lib.hid (fun W h => nodesOf_any A l c W h hl hlc hcm hn hv)
  unfold NodesPost at HNO
  have HPI := Lib.hid (fun B g nb cv T W h (hT : Pins10 l T) => pinsIn_any B g l nb cv (memF (0 :: T)) W h hv)
  have HPN : Hid (∀ T, Pins10 l T → selIx (fun j => memF (0 :: T) j && !decide (j = 0)) l.length = T) := fun T hT => by
    rw [selIx_same10 (g := fun j => decide (j ∈ T)) (fun i _ => ?_)]
    · exact sel_mem hT.1 hT.lt
    · unfold memF
      by_cases e : i = 0
      · subst e
        rw [decide_eq_false (fun h => Nat.lt_irrefl 0 (hT.2 0 h).1)]
        simp
      · simp [e]
  have HSQ := Lib.hid (fun D bt br N n Bf Bs Bn Be W h1 h2 h3 h4 h5 => pins1_seq w.heap.size D (fixP10 l) A l c room bt br hl hlc hcm hn hv (l.length) 1 [] N n Bf Bs Bn Be W (by omega) (by omega) (Nat.le_refl _) Pins10.nil (fun x hx => by cases hx) (fun x hx => fixP10_all (room := room) (by unfold pinsAll10; rw [rest_rf10]; exact hx)) h1 h2 h3 h4 h5)
  have HAL : Hid (all10 (fits10 l room) [] (rf10 l.length 1) = pinsAll10 l room) := by
    show _ = _
    unfold pinsAll10
    rw [rest_rf10]
  rw [HAL.out] at HSQ
  have HLEN := Lib.hid (pinsAll10_len hv room)
  have HFT := Lib.hid (fixP10_pins l)
  have HMP : Hid ((pinsAll10 l room).map (fun x => namesAt l (fixP10 l x)) = pinTexts10 l room) := by
    show _ = _
    unfold pinTexts10
    rw [if_pos hv]
    exact List.map_congr_left fun x hx => by rw [fixP10_all hx]
  unfold AllPost10
  rw [hv]
  have HNZ : Hid (∀ T, Pins10 l T → (namesAt l T).size ≤ 8) := fun T hT => by
    rw [namesAt_size8 hv hT.lt]
    rcases hT.len with h | h
    · omega
    · rw [h]; exact Nat.zero_le _
  clear hw hn hv HAL
  refine (callsIn_wide (n := 20)).1 ?_
  refine callsIn_of_wp_marks Try.func43 rfl trivial ?_ rfl
  simp only [Try.ntmps43, List.size_toArray, List.length_cons, List.length_nil, Nat.reduceAdd, Nat.reduceSub, Array.replicate_succ, Array.replicate_zero, List.push_toArray, List.append_toArray, List.nil_append, List.cons_append]
  gi_wp2_with fail
  refine ⟨trivial, ?_⟩
  gi_at_call 61
  refine (callsIn_wide.2 (HNO.out _ HW.out)).mono ?_
  rintro e w1 ⟨g, nb, cv, rfl, hN, hb1⟩
  have HN := Lib.hid hN
  have HB1 := Lib.hid hb1
  clear hN hb1 HNO
  have hr0 : Row ((w1.alloc (.cells #[.slice (some ⟨g, 0, none⟩) l.length l.length] 61)).alloc (.cells #[.slice none 0 0] 40)) w1.heap.size 61 #[.slice (some ⟨g, 0, none⟩) l.length l.length] := (Row.new w1 _ _).alloc _
  have hr1 : Row ((w1.alloc (.cells #[.slice (some ⟨g, 0, none⟩) l.length l.length] 61)).alloc (.cells #[.slice none 0 0] 40)) (w1.heap.size + 1) 40 #[.slice none 0 0] := by
    have h1 := Row.new (w1.alloc (.cells #[.slice (some ⟨g, 0, none⟩) l.length l.length] 61)) 40 #[.slice none 0 0]
    rw [World.size_alloc] at h1
    exact h1
  have hz0 : ((w1.alloc (.cells #[.slice (some ⟨g, 0, none⟩) l.length l.length] 61)).alloc (.cells #[.slice none 0 0] 40)).heap.size = w1.heap.size + 2 := by simp
  have hlow : Below w1.heap.size w1 ((w1.alloc (.cells #[.slice (some ⟨g, 0, none⟩) l.length l.length] 61)).alloc (.cells #[.slice none 0 0] 40)) := ((Below.refl _ w1).alloc (Nat.le_refl _) _).alloc (by simp) _
  gi_wp2_with fail
  generalize (w1.alloc (.cells #[.slice (some ⟨g, 0, none⟩) l.length l.length] 61)).alloc (.cells #[.slice none 0 0] 40) = W0 at *
  refine ⟨trivial, ?_⟩
  gi_at_call 95
  refine (callsIn_wide.2 (pinsWithin_any A l c room W0)).mono ?_
  rintro e W1 ⟨rfl, hWT⟩
  rw [hz0]
  have hw1 := HB1.out.size
  have hz1 : W1.heap.size = w1.heap.size + 8 := by rw [hWT.size, hz0]
  have hbW : Below w1.heap.size w1 W1 := hlow.trans (hWT.below.mono (by omega))
  have HG0 : Hid (Gath10 w w1 l g [] W1) := ⟨hr0.below hWT.below (by omega), ⟨_, hr1.below hWT.below (by omega), World.ownsRow_nil _ _ _ _, fun _ => rfl⟩, hbW, HB1.out.trans (hbW.mono hw1)⟩
  have hBX : Box10 w.heap.size (w1.heap.size + 2) l.length 1 [] (w1.heap.size + 2) (w1.heap.size + 3) (w1.heap.size + 7) (w1.heap.size + 4) (w1.heap.size + 5) (w1.heap.size + 6) W1 := by
    have f1 := hWT.fits
    have f2 := hWT.stay
    have f3 := hWT.next
    have f4 := hWT.last
    rw [hz0] at f1 f2 f3 f4
    exact ⟨⟨.inr (by omega), by decide, f1⟩, ⟨.inr (by omega), by decide, f2⟩, ⟨.inr (by omega), by decide, f3⟩, ⟨.inr (by omega), by decide, f4⟩⟩
  have hEV : Env10 w.heap.size (w1.heap.size + 2) A l c room (w1.heap.size + 2) (w1.heap.size + 3) W1 := by
    have f1 := hWT.tree
    have f2 := hWT.room
    rw [hz0] at f1 f2
    exact ⟨⟨.inr (by omega), by decide, f1⟩, ⟨.inr (by omega), by decide, f2⟩, HW.out.below (HB1.out.trans (hbW.mono hw1))⟩
  have hseq := HSQ.out (w1.heap.size + 2) (w1.heap.size + 2) (w1.heap.size + 3) 128 19 (w1.heap.size + 7) (w1.heap.size + 4) (w1.heap.size + 5) (w1.heap.size + 6) W1 hBX hEV (by omega) HLEN.out (by omega)
  clear hWT hbW hBX hEV HSQ hr0 hr1 hlow
  gi_wp2
  have hmx : Try.prog.follows .mixedOrders = true := by kernel_rfl
  refine wpIn_rangeFunc_R (by omega) (gf := 154) (lb := #[.pointer (some ⟨w1.heap.size + 7, 0, none⟩), .pointer (some ⟨w1.heap.size + 4, 0, none⟩), .pointer (some ⟨w1.heap.size + 5, 0, none⟩), .pointer (some ⟨w1.heap.size + 6, 0, none⟩)]) rfl (enters_of Try.func154 (by kernel_rfl) rfl) hseq (by omega) (by omega) (Below.refl _ _) (fun _ => rfl)
    (fun xs X => Gath10 w w1 l g (xs.map fun x => namesAt l (fixP10 l x)) X)
    (fun _ _ _ => False)
    (fun xs X Y row hs hg hr => hs.grown hg hw1 (fun r e => ⟨by have := (hr r e).1; omega, (hr r e).2⟩))
    (fun _ _ _ _ _ hs _ _ => hs)
    HG0.out
    (fun x => { tmps := #[.slice A l.length c, .int .i64 room, undef, undef, .slice none 0 0, .bool false, .pointer (some ⟨w1.heap.size, 0, none⟩), .pointer (some ⟨w1.heap.size + 1, 0, none⟩), .int .u64 (setF (memF (0 :: fixP10 l x)) : Int), .slice A l.length c, .slice (some ⟨g, 0, none⟩) l.length l.length, .slice (some ⟨g, 0, none⟩) l.length l.length, .bool false, .slice A l.length c, .int .i64 room, .func (.func 154) #[] #[.pointer (some ⟨w1.heap.size + 7, 0, none⟩), .pointer (some ⟨w1.heap.size + 4, 0, none⟩), .pointer (some ⟨w1.heap.size + 5, 0, none⟩), .pointer (some ⟨w1.heap.size + 6, 0, none⟩)], .int .u64 (setF (memF (0 :: fixP10 l x)) : Int), undef, undef, undef, undef, undef, undef, undef], defers := [] }) ?assign ?body ?done ?stop
  case assign =>
    intro l2 x X K hK
    gi_wp2
    exact hK
  case body =>
    clear HG0 HMP HW HLEN hseq
    rintro l2 xs x X hG hlen hzX
    have hfp := HFT.out x
    have HNX := Lib.hid (fun W h => HPI.out w.heap.size g nb cv (fixP10 l x) W h hfp)
    rw [HPN.out _ hfp] at HNX
    have hnz := HNZ.out _ hfp
    have HXS : Hid ((xs ++ [x]).map (fun x => namesAt l (fixP10 l x)) = xs.map (fun x => namesAt l (fixP10 l x)) ++ [namesAt l (fixP10 l x)]) := by
      show _ = _
      rw [List.map_append]
      rfl
    have hlz : (xs.map fun x => namesAt l (fixP10 l x)).length ≤ 128 := by rw [List.length_map]; omega
    generalize (setF (memF (0 :: fixP10 l x)) : Int) = y at *
    generalize hnx : namesAt l (fixP10 l x) = nx at *
    generalize hts : (xs.map fun x => namesAt l (fixP10 l x)) = ts at *
    clear hnx hts hfp
    obtain ⟨v, hr7, hown, hn0⟩ := hG.ex
    obtain ⟨a5, k5, rfl⟩ : ∃ a k, v = .slice a ts.length k := by
      rcases hown.2 with ⟨h1, h2⟩ | ⟨q, cap, _, h1, _⟩
      · exact ⟨none, 0, by rw [h1, h2]⟩
      · exact ⟨_, _, h1⟩
    have c7 : X.cell? ⟨w1.heap.size + 1, 0, none⟩ = some (.slice a5 ts.length k5) := hr7.cell 0
    have c6 : X.cell? ⟨w1.heap.size, 0, none⟩ = some (.slice (some ⟨g, 0, none⟩) l.length l.length) := hG.nodes.cell 0
    have HR7 := Lib.hid hr7
    have HO := Lib.hid hown
    have HG := Lib.hid hG
    have HN0 := Lib.hid hn0
    have HCX := Lib.hid (HNX.out X.drew (HN.out.below (hG.below.drew)))
    have HC7 : Hid (∀ W, Below X.heap.size X W → W.cell? ⟨w1.heap.size + 1, 0, none⟩ = some (.slice a5 ts.length k5)) := fun W h => (HR7.out.below h HR7.out.lt).cell 0
    have HOW : Hid (∀ w3, Below X.heap.size X w3 → (w3.alloc (.cells #[.string nx] 9)).ownsRow (w1.heap.size + 8) 9 1 (.slice a5 ts.length k5) ts.length (ts.map Value.string)) := fun w3 hb => (own_keep HO.out (fun g hg => hb.block g (World.ownsRow.lt HO.out g hg).2)).alloc _
    have HEND : Hid (∀ (w3 w4 : World) (g4 cap4 : Nat) (u : Act), Below X.heap.size X w3 → w4.ownsRow (w1.heap.size + 8) 9 1 (.slice (some ⟨g4, 0, none⟩) (ts.length + 1) cap4) (ts.length + 1) (ts.map Value.string ++ [.string nx]) → (w3.alloc (.cells #[.string nx] 9)).grownBy w4 (Value.slice a5 ts.length k5).ownBlock → SteadyT (w3.alloc (.cells #[.string nx] 9)) w4 →
        (Row w4 (w1.heap.size + 1) 40 #[.slice a5 ts.length k5] ∧ ownPostR W1.heap.size w.heap.size (w1.heap.size + 2) (fun xs X => Gath10 w w1 l g (xs.map fun x => namesAt l (fixP10 l x)) X) (fun _ _ _ => False) (xs ++ [x]) X .normal u (w4.setCell ⟨w1.heap.size + 1, 0, none⟩ (.slice (some ⟨g4, 0, none⟩) (ts.length + 1) cap4)))) := by
      show ∀ (w3 w4 : World) (g4 cap4 : Nat) (u : Act), _
      intro w3 w4 g4 cap4 u hb hown4 hg4 hst
      have hlow : ∀ k, (Value.slice a5 ts.length k5).ownBlock = some k → w1.heap.size + 8 ≤ k := fun k hk => (World.ownsRow.lt HO.out k hk).1
      have hs3 := hb.size
      have hs4 := hg4.size
      rw [World.size_alloc] at hs4
      have hX8 : w1.heap.size + 1 < X.heap.size := HR7.out.lt
      have hstep : ∀ k (o : Obj), X.heap[k]? = some o → (w3.alloc (.cells #[.string nx] 9)).heap[k]? = some o := fun k o ho => by
        have h3 := (hb.block k (Array.getElem?_eq_some_iff.1 ho).1).trans ho
        exact (Below.heap_alloc w3 _ k (Array.getElem?_eq_some_iff.1 h3).1).trans h3
      have hfar : ∀ k (o : Obj), k < w1.heap.size + 8 → X.heap[k]? = some o → w4.heap[k]? = some o := fun k o hk ho => by
        have h3 := hstep k o ho
        exact (hg4.block k (Array.getElem?_eq_some_iff.1 h3).1 (fun e => by have := hlow k e.symm; omega)).trans h3
      have hrow4 : Row w4 (w1.heap.size + 1) 40 #[.slice a5 ts.length k5] := hfar _ _ (by omega) HR7.out
      have hbelow : ∀ B, B ≤ w1.heap.size → Below B X w4 := fun B hB => by
        exact ((hb.mono (by omega)).alloc (by omega) _).grown hg4 (by rw [World.size_alloc]; omega) (fun k e => by have := hlow k e; omega)
      refine ⟨hrow4, ?_, ?_, ?_⟩
      · rw [Nat.min_eq_right (by omega)]
        refine ⟨by simp [World.setCell]; omega, fun k o hk ho hf => ?_⟩
        exact (Below.heap_setCell _ _ _ k (by show k ≠ w1.heap.size + 1; omega)).trans (hst k o (hstep k o ho) hf)
      · exact (hbelow _ hw1).setCell (p := ⟨w1.heap.size + 1, 0, none⟩) (by show w.heap.size ≤ w1.heap.size + 1; omega) _
      · show Gath10 w w1 l g ((xs ++ [x]).map fun x => namesAt l (fixP10 l x)) _
        rw [HXS.out]
        refine ⟨Row.far (p := ⟨w1.heap.size + 1, 0, none⟩) (hfar _ _ (by omega) HG.out.nodes) (by show w1.heap.size ≠ w1.heap.size + 1; omega) _, ⟨_, Row.put hrow4 0 (.slice (some ⟨g4, 0, none⟩) (ts.length + 1) cap4), ?_, fun h => ?_⟩, ?_, ?_⟩
        · unfold OwnTexts
          rw [List.length_append, List.length_singleton, List.map_append]
          refine own_keep hown4 (fun q hq => Below.heap_setCell _ _ _ q ?_)
          have := (World.ownsRow.lt hown4 q hq).1
          show q ≠ w1.heap.size + 1
          omega
        · rw [List.length_append, List.length_singleton] at h
          omega
        · exact (HG.out.below.trans (hbelow _ (Nat.le_refl _))).setCell (p := ⟨w1.heap.size + 1, 0, none⟩) (by show w1.heap.size ≤ w1.heap.size + 1; omega) _
        · exact (HG.out.low.trans (hbelow _ hw1)).setCell (p := ⟨w1.heap.size + 1, 0, none⟩) (by show w.heap.size ≤ w1.heap.size + 1; omega) _
    have HLZ := Lib.hid hlz
    clear hr7 hown hn0 hG HNX HXS hlz
    gi_wp2_with fail
    refine wpIn_region_any (by assumption) ?_
    refine any_round rfl l2 (by kernel_rfl) _ _ _ _ ?_
    change wpAnyIn _ _ _ _ _ _ _ _ _ X.drew
    refine wpAnyIn_take (i := 1) (v := .int .u64 y) rfl rfl (by kernel_rfl) (by kernel_rfl) (by kernel_rfl) (fun _ _ _ h => h) ⟨Or.inl ⟨by rfl, by intro w; go_simp⟩, fun _ => rfl⟩ ?_
    refine wpAnyIn_ready (rs := [0, 2]) (by kernel_rfl) (by simp) ?_
    refine AllReadyIn.cons rfl (fun K hK => ?_) (AllReadyIn.cons rfl (fun K hK => ?_) AllReadyIn.nil)
    ·
      go_simp
      refine hK _ _ ?_
      clear hK K
      refine wpAnyIn_ready (rs := [2]) (by kernel_rfl) (by simp) ?_
      refine AllReadyIn.cons rfl (fun K hK => ?_) AllReadyIn.nil
      go_simp
      refine hK _ _ ?_
      clear hK K
      refine wpAnyIn_ready (rs := [3]) (by kernel_rfl) (by simp) ?_
      refine AllReadyIn.cons rfl (fun K hK => ?_) AllReadyIn.nil
      go_simp
      refine ⟨trivial, ?_⟩
      gi_at_call 96
      refine (CallsIn.inRound l2 (callsIn_wide.2 HCX.out)).mono ?_
      rintro e w3 ⟨rfl, hb3⟩
      have HB3 : Hid (Below X.heap.size X w3) := ((Below.refl _ X).drew).trans hb3
      have HLT3 : Hid (w1.heap.size + 1 < w3.heap.size) := Nat.lt_of_lt_of_le HR7.out.lt HB3.out.size
      clear hb3
      refine hK _ _ ?_
      clear hK K
      refine wpAnyIn_ready (rs := [4]) (by kernel_rfl) (by simp) ?_
      refine AllReadyIn.cons rfl (fun K hK => ?_) AllReadyIn.nil
      go_simp
      refine hK _ _ ?_
      clear hK K
      refine wpAnyIn_ready (rs := [5]) (by kernel_rfl) (by simp) ?_
      refine AllReadyIn.cons rfl (fun K hK => ?_) AllReadyIn.nil
      rw [if_pos (by rfl)]
      refine operIn_append_firm10 _ _ rfl (w1.heap.size + 8) ts.length (.slice a5 ts.length k5) (ts.map Value.string) rfl (HOW.out w3 HB3.out) HN0.out ⟨w3.heap.size, 0, none⟩ (.string nx) rfl (cell_one_new _ _ _) (by simp [Value.oneCell']) (by have := HLZ.out; omega) (by have := (World.ownsRow.lt (HOW.out w3 HB3.out)); have := HB3.out.size; simp; omega) ?_
      intro g4 cap4 w4 hown4 hgrow4 hst4
      have HE4 := Lib.hid (fun u => HEND.out w3 w4 g4 cap4 u HB3.out hown4 hgrow4 hst4)
      clear hown4 hgrow4 hst4
      refine hK _ _ ?_
      clear hK K
      refine wpAnyIn_ready (rs := [6]) (by kernel_rfl) (by simp) ?_
      refine AllReadyIn.cons rfl (fun K hK => ?_) AllReadyIn.nil
      have h46 := (HE4.out ⟨#[], []⟩).1
      have ct6 := h46.cell 0
      have cz6 := h46.free 0
      go_simp
      refine hK _ _ ?_
      clear hK K
      refine wpAnyIn_done (by kernel_rfl) ?_ _
      exact (HE4.out ⟨#[], []⟩).2
    ·
      go_simp
      refine hK _ _ ?_
      clear hK K
      refine wpAnyIn_ready (rs := [0, 3]) (by kernel_rfl) (by simp) ?_
      refine AllReadyIn.cons rfl (fun K hK => ?_) (AllReadyIn.cons rfl (fun K hK => ?_) AllReadyIn.nil)
      ·
        go_simp
        refine hK _ _ ?_
        clear hK K
        refine wpAnyIn_ready (rs := [3]) (by kernel_rfl) (by simp) ?_
        refine AllReadyIn.cons rfl (fun K hK => ?_) AllReadyIn.nil
        go_simp
        refine ⟨trivial, ?_⟩
        gi_at_call 96
        refine (CallsIn.inRound l2 (callsIn_wide.2 HCX.out)).mono ?_
        rintro e w3 ⟨rfl, hb3⟩
        have HB3 : Hid (Below X.heap.size X w3) := ((Below.refl _ X).drew).trans hb3
        have HLT3 : Hid (w1.heap.size + 1 < w3.heap.size) := Nat.lt_of_lt_of_le HR7.out.lt HB3.out.size
        clear hb3
        refine hK _ _ ?_
        clear hK K
        refine wpAnyIn_ready (rs := [4]) (by kernel_rfl) (by simp) ?_
        refine AllReadyIn.cons rfl (fun K hK => ?_) AllReadyIn.nil
        go_simp
        refine hK _ _ ?_
        clear hK K
        refine wpAnyIn_ready (rs := [5]) (by kernel_rfl) (by simp) ?_
        refine AllReadyIn.cons rfl (fun K hK => ?_) AllReadyIn.nil
        rw [if_pos (by rfl)]
        refine operIn_append_firm10 _ _ rfl (w1.heap.size + 8) ts.length (.slice a5 ts.length k5) (ts.map Value.string) rfl (HOW.out w3 HB3.out) HN0.out ⟨w3.heap.size, 0, none⟩ (.string nx) rfl (cell_one_new _ _ _) (by simp [Value.oneCell']) (by have := HLZ.out; omega) (by have := (World.ownsRow.lt (HOW.out w3 HB3.out)); have := HB3.out.size; simp; omega) ?_
        intro g4 cap4 w4 hown4 hgrow4 hst4
        have HE4 := Lib.hid (fun u => HEND.out w3 w4 g4 cap4 u HB3.out hown4 hgrow4 hst4)
        clear hown4 hgrow4 hst4
        refine hK _ _ ?_
        clear hK K
        refine wpAnyIn_ready (rs := [6]) (by kernel_rfl) (by simp) ?_
        refine AllReadyIn.cons rfl (fun K hK => ?_) AllReadyIn.nil
        have h46 := (HE4.out ⟨#[], []⟩).1
        have ct6 := h46.cell 0
        have cz6 := h46.free 0
        go_simp
        refine hK _ _ ?_
        clear hK K
        refine wpAnyIn_done (by kernel_rfl) ?_ _
        exact (HE4.out ⟨#[], []⟩).2
      ·
        go_simp
        refine ⟨trivial, ?_⟩
        gi_at_call 96
        refine (CallsIn.inRound l2 (callsIn_wide.2 HCX.out)).mono ?_
        rintro e w3 ⟨rfl, hb3⟩
        have HB3 : Hid (Below X.heap.size X w3) := ((Below.refl _ X).drew).trans hb3
        have HLT3 : Hid (w1.heap.size + 1 < w3.heap.size) := Nat.lt_of_lt_of_le HR7.out.lt HB3.out.size
        clear hb3
        refine hK _ _ ?_
        clear hK K
        refine wpAnyIn_ready (rs := [0, 4]) (by kernel_rfl) (by simp) ?_
        refine AllReadyIn.cons rfl (fun K hK => ?_) (AllReadyIn.cons rfl (fun K hK => ?_) AllReadyIn.nil)
        ·
          have cc := HC7.out w3 HB3.out
          go_simp
          refine hK _ _ ?_
          clear hK K
          clear cc
          refine wpAnyIn_ready (rs := [4]) (by kernel_rfl) (by simp) ?_
          refine AllReadyIn.cons rfl (fun K hK => ?_) AllReadyIn.nil
          go_simp
          refine hK _ _ ?_
          clear hK K
          refine wpAnyIn_ready (rs := [5]) (by kernel_rfl) (by simp) ?_
          refine AllReadyIn.cons rfl (fun K hK => ?_) AllReadyIn.nil
          rw [if_pos (by rfl)]
          refine operIn_append_firm10 _ _ rfl (w1.heap.size + 8) ts.length (.slice a5 ts.length k5) (ts.map Value.string) rfl (HOW.out w3 HB3.out) HN0.out ⟨w3.heap.size, 0, none⟩ (.string nx) rfl (cell_one_new _ _ _) (by simp [Value.oneCell']) (by have := HLZ.out; omega) (by have := (World.ownsRow.lt (HOW.out w3 HB3.out)); have := HB3.out.size; simp; omega) ?_
          intro g4 cap4 w4 hown4 hgrow4 hst4
          have HE4 := Lib.hid (fun u => HEND.out w3 w4 g4 cap4 u HB3.out hown4 hgrow4 hst4)
          clear hown4 hgrow4 hst4
          refine hK _ _ ?_
          clear hK K
          refine wpAnyIn_ready (rs := [6]) (by kernel_rfl) (by simp) ?_
          refine AllReadyIn.cons rfl (fun K hK => ?_) AllReadyIn.nil
          have h46 := (HE4.out ⟨#[], []⟩).1
          have ct6 := h46.cell 0
          have cz6 := h46.free 0
          go_simp
          refine hK _ _ ?_
          clear hK K
          refine wpAnyIn_done (by kernel_rfl) ?_ _
          exact (HE4.out ⟨#[], []⟩).2
        ·
          go_simp
          refine hK _ _ ?_
          clear hK K
          refine wpAnyIn_ready (rs := [0]) (by kernel_rfl) (by simp) ?_
          refine AllReadyIn.cons rfl (fun K hK => ?_) AllReadyIn.nil
          have cc := ((Below.refl w3.heap.size w3).alloc (Nat.le_refl _) (.cells #[.string nx] 9)).cell (p := ⟨w1.heap.size + 1, 0, none⟩) HLT3.out
          rw [HC7.out w3 HB3.out] at cc
          go_simp
          refine hK _ _ ?_
          clear hK K
          clear cc
          refine wpAnyIn_ready (rs := [5]) (by kernel_rfl) (by simp) ?_
          refine AllReadyIn.cons rfl (fun K hK => ?_) AllReadyIn.nil
          rw [if_pos (by rfl)]
          refine operIn_append_firm10 _ _ rfl (w1.heap.size + 8) ts.length (.slice a5 ts.length k5) (ts.map Value.string) rfl (HOW.out w3 HB3.out) HN0.out ⟨w3.heap.size, 0, none⟩ (.string nx) rfl (cell_one_new _ _ _) (by simp [Value.oneCell']) (by have := HLZ.out; omega) (by have := (World.ownsRow.lt (HOW.out w3 HB3.out)); have := HB3.out.size; simp; omega) ?_
          intro g4 cap4 w4 hown4 hgrow4 hst4
          have HE4 := Lib.hid (fun u => HEND.out w3 w4 g4 cap4 u HB3.out hown4 hgrow4 hst4)
          clear hown4 hgrow4 hst4
          refine hK _ _ ?_
          clear hK K
          refine wpAnyIn_ready (rs := [6]) (by kernel_rfl) (by simp) ?_
          refine AllReadyIn.cons rfl (fun K hK => ?_) AllReadyIn.nil
          have h46 := (HE4.out ⟨#[], []⟩).1
          have ct6 := h46.cell 0
          have cz6 := h46.free 0
          go_simp
          refine hK _ _ ?_
          clear hK K
          refine wpAnyIn_done (by kernel_rfl) ?_ _
          exact (HE4.out ⟨#[], []⟩).2
  case done =>
    rintro L ys X hL rfl hG hK
    rw [HMP.out] at hG
    obtain ⟨v, hv1, hv2, -⟩ := hG.ex
    have c7 := hv1.cell 0
    have HO := Lib.hid hv2
    have HLO := Lib.hid hG.low
    clear hG hv1 hv2 hseq HG0 HMP
    gi_wp2
    refine ⟨by simp, .inl ⟨_, _, rfl, run_takeDeferred hK, ?_⟩⟩
    refine ⟨_, results_tmp2 (t := 4) (u := 5) rfl _ _ _, ⟨v, rfl, ?_, HLO.out.trans (put_low _ _ (by omega) (by have := HLO.out.size; omega))⟩⟩
    exact (own_low (HO.out.grown (grownBy_putObj' _ L _) (fun r e => by cases e; exact ⟨_, hK, rfl⟩)) (by omega))
  case stop =>
    rintro L c' pre X _ _ h _
    exact h.elim

end Go.Proofs.Ytcpiojliakgdlaa
