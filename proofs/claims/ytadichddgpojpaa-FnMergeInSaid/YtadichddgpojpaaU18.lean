/- Joined: Vg Vl. -/
import Derived.Test.YtadichddgpojpaaU15
import Derived.Test.YtadichddgpojpaaU13
import Derived.Test.YtadichddgpojpaaU17
/- Chapter 9: the program's segments: the tree of a row of nodes. -/
namespace Go.Proofs.Ytadichddgpojpaa
open Go.RowKit

def at9 (W : List Nat) (x : Int) : Int := if x < 0 then -1 else if x.toNat ∈ W then (W.idxOf x.toNat : Nat) else -1
theorem cut9_eq (nm : Nat → ByteArray) (sz pp : Nat → Int) (W : List Nat) (j : Nat) : cut9 nm sz pp W j = ⟨nm j, sz j, at9 W (pp j)⟩ := rfl

set_option maxRecDepth 100000 in
set_option maxHeartbeats 1000000 in
theorem index9_some (g cap base : Nat) (js : List Nat) (nb : Nat → Nat) (i : Nat) (w : World) (hown : w.ownsRow base 56 1 (.slice (some ⟨g, 0, none⟩) js.length cap) js.length (ptrsOf nb js)) (hjl : js.length ≤ 1000) (hnd : js.Nodup)
    (hnode : ∀ j, j = i ∨ j ∈ js → ∃ c, Row w (nb j) 59 c) (hinj : ∀ j ∈ js, nb i = nb j → i = j) :
    Calls Try.prog 93 #[.slice (some ⟨g, 0, none⟩) js.length cap, .pointer (some ⟨nb i, 0, none⟩)] w fun e w' => e = .returned (.int .i64 (at9 js (i : Nat))) ∧ w' = w := by
  have HO := Lib.hid hown
  have HN := Lib.hid hnode
  have HI := Lib.hid hinj
  have HND := Lib.hid hnd
  have HAT : Hid (at9 js (i : Nat) = if i ∈ js then ((js.idxOf i : Nat) : Int) else -1) := by
    show at9 js (i : Nat) = _
    unfold at9
    rw [if_neg (by omega), Int.toNat_natCast]
  obtain ⟨i0, hi0, hsz0⟩ := Option.map_eq_some_iff.1 (show (Try.prog.info? 59).map (fun i => i.size) = some 4 by kernel_rfl)
  have I0 := Lib.hid hi0
  have I1 := Lib.hid hsz0
  clear hown hnode hinj hi0 hsz0 hnd
  go_enter Try.func93, Try.ntmps93
  go_wp2
  go_loop [8] (fun c => ∃ k : Nat, k ≤ js.length ∧ c = .int .i64 k ∧ Hid (∀ m, m < k → js[m]? ≠ some i)) (fun c => js.length - (intOf c).toNat)
  case atStart => exact ⟨0, Nat.zero_le _, rfl, fun m hm => absurd hm (by omega)⟩
  case round =>
    obtain ⟨k, hk, rfl, HM⟩ := hrel
    by_cases hlt : k < js.length
    · have hc : w.cell? ⟨g, k, none⟩ = some (.pointer (some ⟨nb js[k], 0, none⟩)) := by
        rw [HO.out.cellAt k (by omega)]
        simp [ptrsOf, ptrTo, hlt]
      have HK : Hid (js[k]? = some js[k]) := List.getElem?_eq_getElem hlt
      have HMem : Hid (js[k] ∈ js) := List.getElem_mem hlt
      generalize js[k] = j at *
      by_cases hij : i = j
      · subst hij
        have hq := fun W : World => run_eql_ptr_same (P := Try.prog) W ⟨nb i, 0, none⟩ Try.underlying56 I0.out
        go_wp2
        go_ret
        exact ⟨ret_int (by rw [HAT.out, if_pos HMem.out, idxOf9_get HND.out HK.out]), rfl⟩
      · obtain ⟨c1, r1⟩ := HN.out i (.inl rfl)
        obtain ⟨c2, r2⟩ := HN.out j (.inr HMem.out)
        have hne : nb i ≠ nb j := fun e => hij (HI.out j HMem.out e)
        have hq := run_eql_ptr_other (P := Try.prog) w (a := ⟨nb i, 0, none⟩) (b := ⟨nb j, 0, none⟩) Try.underlying56 I0.out (by rw [I1.out]; decide) (fun e => hne (by injection e)) r1 r2
        have HM1 : Hid (∀ m, m < k + 1 → js[m]? ≠ some i) := fun m hm => by
          rcases Nat.lt_or_ge m k with h1 | h1
          · exact HM.out m h1
          · obtain rfl : m = k := by omega
            rw [HK.out]
            intro e
            injection e with e
            exact hij e.symm
        clear r1 r2 hij hne
        go_wp2
        go_round
        case rel => exact ⟨k + 1, by omega, by go_num, HM1⟩
        case measure => simp [intOf]; omega
    · obtain rfl : k = js.length := by omega
      go_wp2
      go_ret
      have hno : i ∉ js := fun h => by
        obtain ⟨m, hm, he⟩ := List.getElem_of_mem h
        exact HM.out m hm (by rw [List.getElem?_eq_getElem hm, he])
      exact ⟨ret_int (by rw [HAT.out, if_neg hno]), rfl⟩

theorem run_eql_none9 (a : Addr) (W : World) : (binOp .eql 56 (.pointer none) (.pointer (some a))).run Try.prog W = .ok (.bool false) W := by kernel_rfl

set_option maxRecDepth 100000 in
set_option maxHeartbeats 1000000 in
theorem index9_none (g cap base : Nat) (js : List Nat) (nb : Nat → Nat) (w : World) (hown : w.ownsRow base 56 1 (.slice (some ⟨g, 0, none⟩) js.length cap) js.length (ptrsOf nb js)) (hjl : js.length ≤ 1000) :
    Calls Try.prog 93 #[.slice (some ⟨g, 0, none⟩) js.length cap, .pointer none] w fun e w' => e = .returned (.int .i64 (-1)) ∧ w' = w := by
  have HO := Lib.hid hown
  clear hown
  go_enter Try.func93, Try.ntmps93
  go_wp2
  go_loop [8] (fun c => ∃ k : Nat, k ≤ js.length ∧ c = .int .i64 k) (fun c => js.length - (intOf c).toNat)
  case atStart => exact ⟨0, Nat.zero_le _, rfl⟩
  case round =>
    obtain ⟨k, hk, rfl⟩ := hrel
    by_cases hlt : k < js.length
    · have hc : w.cell? ⟨g, k, none⟩ = some (.pointer (some ⟨nb js[k], 0, none⟩)) := by
        rw [HO.out.cellAt k (by omega)]
        simp [ptrsOf, ptrTo, hlt]
      generalize js[k] = j at *
      have hq := run_eql_none9 ⟨nb j, 0, none⟩
      go_wp2
      go_round
      case rel => exact ⟨k + 1, by omega, by go_num⟩
      case measure => simp [intOf]; omega
    · obtain rfl : k = js.length := by omega
      go_wp2
      go_ret
      exact ⟨rfl, rfl⟩

theorem index9_any (g cap base n : Nat) (js : List Nat) (nb : Nat → Nat) (x : Int) (w : World) (hown : w.ownsRow base 56 1 (.slice (some ⟨g, 0, none⟩) js.length cap) js.length (ptrsOf nb js)) (hjl : js.length ≤ 1000) (hnd : js.Nodup)
    (hnode : ∀ j, j < n → ∃ c, Row w (nb j) 59 c) (hap : ∀ i j, i < n → j < n → i ≠ j → nb i ≠ nb j) (hjs : ∀ j ∈ js, j < n) (hx : x < n) :
    Calls Try.prog 93 #[.slice (some ⟨g, 0, none⟩) js.length cap, .pointer (ptr9 nb x)] w fun e w' => e = .returned (.int .i64 (at9 js x)) ∧ w' = w := by
  by_cases h0 : x < 0
  · rw [ptr9_neg h0, show at9 js x = -1 from if_pos h0]
    exact index9_none g cap base js nb w hown hjl
  · obtain ⟨i, rfl⟩ := Int.eq_ofNat_of_zero_le (show 0 ≤ x by omega)
    rw [ptr9_nat]
    refine index9_some g cap base js nb i w hown hjl hnd (fun j hj => ?_) (fun j hj he => ?_)
    · rcases hj with rfl | hj
      · exact hnode _ (by omega)
      · exact hnode j (hjs j hj)
    · exact Classical.byContradiction fun hne => hap i j (by omega) (hjs j hj) hne he

/-- What the closure of segments reads. -/
structure Seg9 (w : World) (B0 n : Nat) (nm : Nat → ByteArray) (sz pp : Nat → Int) (nb : Nat → Nat) (L : List Nat) (bx gn capn : Nat) : Prop where
  node : ∀ i, i < n → ∃ c, Row w (nb i) 59 (nodeCells (nm i) (sz i) (ptr9 nb (pp i)) c)
  apart : ∀ i j, i < n → j < n → i ≠ j → nb i ≠ nb j
  row : w.ownsRow B0 56 1 (.slice (some ⟨gn, 0, none⟩) L.length capn) L.length (ptrsOf nb L)
  box : Row w bx 54 #[.slice (some ⟨gn, 0, none⟩) L.length capn]
  nodup : L.Nodup
  lt : ∀ j ∈ L, j < n
  small : ∀ i, i < n → pp i < (n : Int)
  few : n ≤ 100
theorem Seg9.below {w w' : World} {B0 n : Nat} {nm : Nat → ByteArray} {sz pp : Nat → Int} {nb : Nat → Nat} {L : List Nat} {bx gn capn : Nat} (h : Seg9 w B0 n nm sz pp nb L bx gn capn) (hb : Below w.heap.size w w') : Seg9 w' B0 n nm sz pp nb L bx gn capn :=
  ⟨fun i hi => by
    obtain ⟨c, hc⟩ := h.node i hi
    exact ⟨c, hc.below hb hc.lt⟩, h.apart, own_keep h.row fun k hk => hb.block k (h.row.lt k hk).2, h.box.below hb h.box.lt, h.nodup, h.lt, h.small, h.few⟩

set_option maxRecDepth 100000 in
set_option maxHeartbeats 2000000 in
theorem seg1_any (B0 n : Nat) (nm : Nat → ByteArray) (sz pp : Nat → Int) (nb : Nat → Nat) (L : List Nat) (bx gn capn j : Nat) (w : World) (h : Seg9 w B0 n nm sz pp nb L bx gn capn) (hj : j < n) :
    Calls Try.prog 97 #[.pointer (some ⟨nb j, 0, none⟩), .pointer (some ⟨bx, 0, none⟩)] w fun e w' => e = .returned (.agg #[.string (nm j), .int .i64 (sz j), .int .i64 (at9 L (pp j))]) ∧ Below w.heap.size w w' := by
  have HS := Lib.hid h
  obtain ⟨c, hc⟩ := h.node j hj
  have hnl := hc.lt
  have hbl := h.box.lt
  have hB0 : Below w.heap.size w (w.alloc (.cells #[.string ⟨#[]⟩, .int .i64 0, .int .i64 0] 36)) := (Below.refl _ w).alloc (Nat.le_refl _) _
  have hr1 := hc.alloc (.cells #[.string ⟨#[]⟩, .int .i64 0, .int .i64 0] 36)
  have hr2 := h.box.alloc (.cells #[.string ⟨#[]⟩, .int .i64 0, .int .i64 0] 36)
  have c0 := hr1.cell 0
  have c1 := hr1.cell 1
  have c2 := hr1.cell 2
  have d0 := hr2.cell 0
  have hr : Row (w.alloc (.cells #[.string ⟨#[]⟩, .int .i64 0, .int .i64 0] 36)) w.heap.size 36 #[.string ⟨#[]⟩, .int .i64 0, .int .i64 0] := Row.new w _ _
  have HR := Lib.hid hr
  have HB := Lib.hid hB0
  have hS1 := h.below hB0
  have HC := Lib.hid (index9_any gn capn B0 n L nb (pp j) (w.alloc (.cells #[.string ⟨#[]⟩, .int .i64 0, .int .i64 0] 36)).drew (own_keep hS1.row fun _ _ => rfl) (by have := nodup9_len h.nodup h.lt; have := h.few; omega) h.nodup (fun i hi => by obtain ⟨c, hc⟩ := hS1.node i hi; exact ⟨_, hc⟩) h.apart h.lt (h.small j hj))
  clear h hc hr1 hr2 hr hB0 hS1
  generalize at9 L (pp j) = q at *
  generalize nm j = nx at *
  generalize sz j = zx at *
  generalize ptr9 nb (pp j) = px at *
  simp [nodeCells] at c0 c1 c2 d0
  go_enter Try.func97, Try.ntmps97
  go_wp2_with fail
  have f0 := HR.out.free 0
  have f1 := HR.out.free 1
  have f2 := HR.out.free 2
  have r0 : (w.alloc (.cells #[.string ⟨#[]⟩, .int .i64 0, .int .i64 0] 36)).cell? ⟨w.heap.size, 0, none⟩ = some (.string ⟨#[]⟩) := HR.out.cell 0
  have r1 : (w.alloc (.cells #[.string ⟨#[]⟩, .int .i64 0, .int .i64 0] 36)).cell? ⟨w.heap.size, 1, none⟩ = some (.int .i64 0) := HR.out.cell 1
  have r2 : (w.alloc (.cells #[.string ⟨#[]⟩, .int .i64 0, .int .i64 0] 36)).cell? ⟨w.heap.size, 2, none⟩ = some (.int .i64 0) := HR.out.cell 2
  have hwl : w.heap.size < (w.alloc (.cells #[.string ⟨#[]⟩, .int .i64 0, .int .i64 0] 36)).heap.size := HR.out.lt
  generalize (w.alloc (.cells #[.string ⟨#[]⟩, .int .i64 0, .int .i64 0] 36)) = W1 at *
  refine wp_region_held_drew (S := (fun W => W.cell? ⟨nb j, 0, none⟩ = some (.string nx) ∧ W.cell? ⟨nb j, 1, none⟩ = some (.int .i64 zx) ∧ W.cell? ⟨nb j, 2, none⟩ = some (.pointer px) ∧ W.cell? ⟨bx, 0, none⟩ = some (.slice (some ⟨gn, 0, none⟩) L.length capn) ∧ Below w.heap.size w W)) (by kernel_rfl) ?_ (fun hHeld => ?_)
  · exact ⟨c0, c1, c2, d0, HB.out.drew⟩
  refine take_at (i := 0) (d := 4) (v := .pointer (some ⟨nb j, 0, none⟩)) rfl rfl (by kernel_rfl) (by kernel_rfl) (by kernel_rfl) (fun _ _ _ h => h) (by kernel_rfl) (by (intro w hSw; (try dsimp only at hSw); go_simp)) (by assumption) ?_
  simp only [List.setIfInBounds_toArray, List.set_cons_succ, List.set_cons_zero]
  refine take_at (i := 1) (d := 5) (v := .pointer (some ⟨nb j, 0, none⟩)) rfl rfl (by kernel_rfl) (by kernel_rfl) (by kernel_rfl) (fun _ _ _ h => h) (by kernel_rfl) (by (intro w hSw; (try dsimp only at hSw); go_simp)) (by assumption) ?_
  simp only [List.setIfInBounds_toArray, List.set_cons_succ, List.set_cons_zero]
  refine take_at (i := 2) (d := 6) (v := .pointer (some ⟨nb j, 0, none⟩)) rfl rfl (by kernel_rfl) (by kernel_rfl) (by kernel_rfl) (fun _ _ _ h => h) (by kernel_rfl) (by (intro w hSw; (try dsimp only at hSw); go_simp)) (by assumption) ?_
  simp only [List.setIfInBounds_toArray, List.set_cons_succ, List.set_cons_zero]
  refine take_at (i := 3) (d := 7) (v := .string nx) rfl rfl (by kernel_rfl) (by kernel_rfl) (by kernel_rfl) (fun _ _ _ h => h) (by kernel_rfl) (by (intro w hSw; (try dsimp only at hSw); go_simp)) (by assumption) ?_
  simp only [List.setIfInBounds_toArray, List.set_cons_succ, List.set_cons_zero]
  refine take_at (i := 4) (d := 8) (v := .pointer (some ⟨nb j, 0, none⟩)) rfl rfl (by kernel_rfl) (by kernel_rfl) (by kernel_rfl) (fun _ _ _ h => h) (by kernel_rfl) (by (intro w hSw; (try dsimp only at hSw); go_simp)) (by assumption) ?_
  simp only [List.setIfInBounds_toArray, List.set_cons_succ, List.set_cons_zero]
  refine take_at (i := 5) (d := 9) (v := .pointer (some ⟨nb j, 0, none⟩)) rfl rfl (by kernel_rfl) (by kernel_rfl) (by kernel_rfl) (fun _ _ _ h => h) (by kernel_rfl) (by (intro w hSw; (try dsimp only at hSw); go_simp)) (by assumption) ?_
  simp only [List.setIfInBounds_toArray, List.set_cons_succ, List.set_cons_zero]
  refine take_at (i := 6) (d := 10) (v := .pointer (some ⟨nb j, 1, none⟩)) rfl rfl (by kernel_rfl) (by kernel_rfl) (by kernel_rfl) (fun _ _ _ h => h) (by kernel_rfl) (by (intro w hSw; (try dsimp only at hSw); go_simp)) (by assumption) ?_
  simp only [List.setIfInBounds_toArray, List.set_cons_succ, List.set_cons_zero]
  refine take_at (i := 7) (d := 11) (v := .int .i64 zx) rfl rfl (by kernel_rfl) (by kernel_rfl) (by kernel_rfl) (fun _ _ _ h => h) (by kernel_rfl) (by (intro w hSw; (try dsimp only at hSw); go_simp)) (by assumption) ?_
  simp only [List.setIfInBounds_toArray, List.set_cons_succ, List.set_cons_zero]
  refine take_at (i := 8) (d := 12) (v := .slice (some ⟨gn, 0, none⟩) L.length capn) rfl rfl (by kernel_rfl) (by kernel_rfl) (by kernel_rfl) (fun _ _ _ h => h) (by kernel_rfl) (by (intro w hSw; (try dsimp only at hSw); go_simp)) (by assumption) ?_
  simp only [List.setIfInBounds_toArray, List.set_cons_succ, List.set_cons_zero]
  refine take_at (i := 9) (d := 13) (v := .pointer (some ⟨nb j, 0, none⟩)) rfl rfl (by kernel_rfl) (by kernel_rfl) (by kernel_rfl) (fun _ _ _ h => h) (by kernel_rfl) (by (intro w hSw; (try dsimp only at hSw); go_simp)) (by assumption) ?_
  simp only [List.setIfInBounds_toArray, List.set_cons_succ, List.set_cons_zero]
  refine take_at (i := 10) (d := 14) (v := .pointer (some ⟨nb j, 0, none⟩)) rfl rfl (by kernel_rfl) (by kernel_rfl) (by kernel_rfl) (fun _ _ _ h => h) (by kernel_rfl) (by (intro w hSw; (try dsimp only at hSw); go_simp)) (by assumption) ?_
  simp only [List.setIfInBounds_toArray, List.set_cons_succ, List.set_cons_zero]
  refine take_at (i := 11) (d := 15) (v := .pointer (some ⟨nb j, 2, none⟩)) rfl rfl (by kernel_rfl) (by kernel_rfl) (by kernel_rfl) (fun _ _ _ h => h) (by kernel_rfl) (by (intro w hSw; (try dsimp only at hSw); go_simp)) (by assumption) ?_
  simp only [List.setIfInBounds_toArray, List.set_cons_succ, List.set_cons_zero]
  refine take_at (i := 12) (d := 16) (v := .pointer px) rfl rfl (by kernel_rfl) (by kernel_rfl) (by kernel_rfl) (fun _ _ _ h => h) (by kernel_rfl) (by (intro w hSw; (try dsimp only at hSw); go_simp)) (by assumption) ?_
  simp only [List.setIfInBounds_toArray, List.set_cons_succ, List.set_cons_zero]
  refine wpAnyH_ready (rs := [13]) (by kernel_rfl) (by simp) ?_
  refine AllReadyH.cons rfl (fun K hK => ?_) AllReadyH.nil
  go_simp
  refine Calls.mono HC.out ?_
  rintro e w2 ⟨rfl, rfl⟩
  refine hK.out _ _ hHeld (fun hHeld => ?_)
  clear hK K
  refine take_at (i := 14) (d := 18) (v := .agg #[.string nx, .int .i64 zx, .int .i64 q]) rfl rfl (by kernel_rfl) (by kernel_rfl) (by kernel_rfl) (fun _ _ _ h => h) (by kernel_rfl) (by (intro w hSw; (try dsimp only at hSw); go_simp)) (by assumption) ?_
  simp only [List.setIfInBounds_toArray, List.set_cons_succ, List.set_cons_zero]
  refine wpAnyH_ready (rs := [15]) (by kernel_rfl) (by simp) ?_
  refine AllReadyH.cons rfl (fun K hK => ?_) AllReadyH.nil
  go_simp
  have hR3 : Row (((W1.setCell ⟨w.heap.size, 0, none⟩ (.string nx)).setCell ⟨w.heap.size, 1, none⟩ (.int .i64 zx)).setCell ⟨w.heap.size, 2, none⟩ (.int .i64 q)).drew w.heap.size 36 #[.string nx, .int .i64 zx, .int .i64 q] := ((HR.out.put 0 (.string nx)).put 1 (.int .i64 zx)).put 2 (.int .i64 q)
  have hB3 : Below w.heap.size w (((W1.setCell ⟨w.heap.size, 0, none⟩ (.string nx)).setCell ⟨w.heap.size, 1, none⟩ (.int .i64 zx)).setCell ⟨w.heap.size, 2, none⟩ (.int .i64 q)).drew := (((HB.out.setCell (Nat.le_refl _) _).setCell (Nat.le_refl _) _).setCell (Nat.le_refl _) _).drew
  have HR3 := Lib.hid hR3
  have HB3 := Lib.hid hB3
  have hs : ∀ b i, b < w.heap.size → (((W1.setCell ⟨w.heap.size, 0, none⟩ (.string nx)).setCell ⟨w.heap.size, 1, none⟩ (.int .i64 zx)).setCell ⟨w.heap.size, 2, none⟩ (.int .i64 q)).drew.cell? ⟨b, i, none⟩ = W1.cell? ⟨b, i, none⟩ := fun b i hb => (hB3.cell (p := ⟨b, i, none⟩) hb).trans (HB.out.cell (p := ⟨b, i, none⟩) hb).symm
  clear hR3 hB3
  refine hK.out _ _ ⟨(hs _ _ hnl).trans c0, (hs _ _ hnl).trans c1, (hs _ _ hnl).trans c2, (hs _ _ hbl).trans d0, HB3.out⟩ (fun hHeld2 => ?_)
  clear hK K hs hHeld hHeld2
  generalize (((W1.setCell ⟨w.heap.size, 0, none⟩ (.string nx)).setCell ⟨w.heap.size, 1, none⟩ (.int .i64 zx)).setCell ⟨w.heap.size, 2, none⟩ (.int .i64 q)).drew = W3 at *
  clear c0 c1 c2 d0 f0 f1 f2 r0 r1 r2 hwl HR HB HC
  have r0 := HR3.out.cell 0
  have r1 := HR3.out.cell 1
  have r2 := HR3.out.cell 2
  refine wpAnyH_done (by kernel_rfl) ?_ _
  go_wp2
  exact bodyPost_ret (v := .agg #[.string nx, .int .i64 zx, .int .i64 q]) (by simp [results, Try.results97, go_sem, r0, r1, r2]) rfl ⟨rfl, HB3.out⟩

/-- What copyNodes makes of a row of nodes. -/
theorem cuts9_take (nm : Nat → ByteArray) (sz pp : Nat → Int) {W : List Nat} {k : Nat} (h : k < W.length) : (cuts9 nm sz pp W).take (k + 1) = (cuts9 nm sz pp W).take k ++ [⟨nm W[k], sz W[k], at9 W (pp W[k])⟩] := by
  have h1 : k < (cuts9 nm sz pp W).length := by rw [cuts9_len]; exact h
  rw [List.take_succ_eq_append_getElem h1]
  congr 2
  have e : (cuts9 nm sz pp W)[k]? = some (⟨nm W[k], sz W[k], at9 W (pp W[k])⟩ : Seg) := by
    unfold cuts9
    rw [List.getElem?_map, List.getElem?_eq_getElem h]
    rfl
  rw [List.getElem?_eq_getElem h1] at e
  injection e

set_option maxRecDepth 100000 in
set_option maxHeartbeats 4000000 in
theorem copySegs_any (B0 n : Nat) (nm : Nat → ByteArray) (sz pp : Nat → Int) (nb : Nat → Nat) (L : List Nat) (bx gn capn : Nat) (w : World) (h : Seg9 w B0 n nm sz pp nb L bx gn capn) :
    Calls Try.prog 96 #[.slice (some ⟨gn, 0, none⟩) L.length capn, .func (.func 97) #[] #[.pointer (some ⟨bx, 0, none⟩)]] w fun e w' => ∃ v, e = .returned v ∧ OwnTree w' w.heap.size v (cuts9 nm sz pp L) ∧ Below w.heap.size w w' := by
  have HS := Lib.hid h
  have hL : L.length ≤ 100 := by have := nodup9_len h.nodup h.lt; have := h.few; omega
  have HT := Lib.hid (fun k (hk : k < L.length) => cuts9_take nm sz pp hk)
  have HZ : Hid ((cuts9 nm sz pp L).length = L.length) := cuts9_len _ _ _ _
  have HALL : Hid ((cuts9 nm sz pp L).take L.length = cuts9 nm sz pp L) := List.take_of_length_le (by rw [cuts9_len]; exact Nat.le_refl _)
  have HLT := Lib.hid h.lt
  have HROW := Lib.hid h.row
  clear h
  generalize hR : cuts9 nm sz pp L = R at *
  go_enter Try.func96, Try.ntmps96
  go_wp2
  go_loopw [5, 10] (fun ov iv wr => ∃ (k m : Nat) (A : Option Addr) (C : Nat), iv = .int .i64 k ∧ k ≤ L.length ∧ ov = .slice A m C ∧ Hid (m = (R.take k).length) ∧ Hid (OwnTree wr w.heap.size (.slice A m C) (R.take k)) ∧ Hid (Below w.heap.size w wr))
    (fun _ iv _ => L.length - (intOf iv).toNat)
  case atStart => exact ⟨0, 0, none, 0, rfl, Nat.zero_le _, rfl, rfl, ⟨rfl, .inl ⟨rfl, rfl⟩⟩, Below.refl _ _⟩
  case round =>
    obtain ⟨k, m, A, C, rfl, hk, rfl, HM, HO, HB⟩ := hrel
    have hk0 : (0 : Int) ≤ (k : Int) := Int.natCast_nonneg _
    by_cases hlt : k < L.length
    · have hlt' : (k : Int) < (L.length : Int) := by omega
      have hcell : wr.cell? ⟨gn, k, none⟩ = some (.pointer (some ⟨nb L[k], 0, none⟩)) := by
        have h1 : w.cell? ⟨gn, k, none⟩ = (ptrsOf nb L)[k]? := HROW.out.cellAt k (by omega)
        rw [HB.out.cell (p := ⟨gn, k, none⟩) (HROW.out.lt gn rfl).2, h1]
        simp [ptrsOf, ptrTo, hlt]
      have HC := Lib.hid (seg1_any B0 n nm sz pp nb L bx gn capn L[k] wr (HS.out.below HB.out) (HLT.out _ (List.getElem_mem hlt)))
      have HST := Lib.hid (HT.out k hlt)
      have hmk : m ≤ 100 := by
        have h1 := HM.out
        have h2 := List.length_take_le' k R
        have h3 := HZ.out
        omega
      have HM1 : Hid ((R.take (k + 1)).length = m + 1) := by show _ = _; rw [HST.out, List.length_append, ← HM.out]; rfl
      generalize at9 L (pp L[k]) = q at *
      generalize nm L[k] = nx at *
      generalize sz L[k] = zx at *
      generalize nb L[k] = bn at *
      go_wp2_with fail
      refine Calls.mono HC.out ?_
      rintro e w3 ⟨rfl, hb3⟩
      have HO3 : Hid (OwnTree w3 w.heap.size (.slice A m C) (R.take k)) := treeBelow HO.out hb3
      have HB3 : Hid (Below w.heap.size w w3) := HB.out.trans (hb3.mono HB.out.size)
      clear hb3 HC HO HB hcell
      go_wp2_with (at_builtin; go_loud (refine wp_append_seg rfl (.tmp 14) (.tmp 18) rfl w.heap.size (.slice A m C) (R.take k) nx zx q _ rfl HO3.out (by rw [← HM.out]; omega) HB3.out.size w3.heap.size rfl rfl ?_); intro v4 w4 ho4 hb4 _; have HT4 := Lib.hid ho4; have HB4 := Lib.hid (HB3.out.trans hb4); clear ho4 hb4)
      rw [← HST.out] at HT4
      obtain ⟨A4, C4, rfl, -⟩ := HT4.out.form
      have HT5 : Hid (OwnTree w4 w.heap.size (.slice A4 (m + 1) C4) (R.take (k + 1))) := by
        have h5 := HT4.out
        rw [HM1.out] at h5
        exact h5
      rw [HM1.out]
      clear HT4
      go_wp2
      go_roundw
      case rel => exact ⟨k + 1, m + 1, A4, C4, by go_num, by omega, rfl, HM1.out.symm, HT5, HB4⟩
      case measure => simp [intOf]; omega
    · obtain rfl : k = L.length := by omega
      rw [HALL.out] at HO
      go_wp2
      go_ret
      exact ⟨_, rfl, HO.out, HB.out⟩

/-- What segments is asked of. -/
structure Ask9 (w : World) (B n : Nat) (nm : Nat → ByteArray) (sz pp : Nat → Int) (kd : Nat → List Nat) (nb : Nat → Nat) (cv : Nat → Value) (ps : Nat → Int) (r : Nat) : Prop where
  mem : Mem9 w B n nm sz pp kd nb cv
  fall : Fall9 ps n
  few : n ≤ 100
  lt : r < n
  kids : ∀ j, j ∈ sub9 ps n r → kd j = kids9 ps n j
  small : ∀ i, i < n → pp i < (n : Int)

set_option maxRecDepth 100000 in
set_option maxHeartbeats 4000000 in
theorem segments_any (B n : Nat) (nm : Nat → ByteArray) (sz pp : Nat → Int) (kd : Nat → List Nat) (nb : Nat → Nat) (cv : Nat → Value) (ps : Nat → Int) (r : Nat) (w : World) (h : Ask9 w B n nm sz pp kd nb cv ps r) :
    Calls Try.prog 53 #[.pointer (some ⟨nb r, 0, none⟩)] w fun e w' => ∃ v, e = .returned v ∧ OwnTree w' w.heap.size v (cuts9 nm sz pp (sub9 ps n r)) ∧ Below w.heap.size w w' := by
  have HA := Lib.hid h
  have HC : Hid (Calls Try.prog 95 #[.pointer (some ⟨nb r, 0, none⟩)] w (SubPost9 w nb (sub9 ps n r))) := subtree_any B n nm sz pp kd nb cv ps h.fall h.few n r w (by omega) h.lt h.mem h.kids
  unfold SubPost9 at HC
  have HND := Lib.hid (sub9_nodup h.fall n r (by omega) h.lt)
  have HLT : Hid (∀ j ∈ sub9 ps n r, j < n) := fun j hj => ((in_sub9 h.fall h.lt).1 hj).1
  clear h
  generalize sub9 ps n r = L at *
  go_enter Try.func53, Try.ntmps53
  go_wp2_with fail
  refine Calls.mono HC.out ?_
  rintro e w1 ⟨g1, cap1, rfl, ho1, hb1⟩
  have HO1 := Lib.hid ho1
  have HB1 := Lib.hid hb1
  clear ho1 hb1 HC
  have hb2 : Below w.heap.size w (w1.alloc (.cells #[.slice (some ⟨g1, 0, none⟩) L.length cap1] 54)) := HB1.out.alloc HB1.out.size _
  have hseg : Seg9 (w1.alloc (.cells #[.slice (some ⟨g1, 0, none⟩) L.length cap1] 54)) w.heap.size n nm sz pp nb L w1.heap.size g1 cap1 :=
    ⟨fun i hi => ⟨cv i, (HA.out.mem.node i hi).below hb2 (HA.out.mem.node i hi).lt⟩, HA.out.mem.apart, HO1.out.alloc _, Row.new w1 _ _, HND.out, HLT.out, HA.out.small, HA.out.few⟩
  have HC2 := Lib.hid (copySegs_any w.heap.size n nm sz pp nb L w1.heap.size g1 cap1 _ hseg)
  have HB2 := Lib.hid hb2
  clear hb2 hseg
  go_wp2_with fail
  refine Calls.mono HC2.out ?_
  rintro e w3 ⟨v, rfl, ho3, hb3⟩
  have HO3 : Hid (OwnTree w3 w.heap.size v (cuts9 nm sz pp L)) := treeLow ho3 HB2.out.size
  have HB3 : Hid (Below w.heap.size w w3) := HB2.out.trans (hb3.mono HB2.out.size)
  clear ho3 hb3 HC2 HB2
  go_wp2
  go_ret
  exact ⟨v, rfl, HO3.out, HB3.out⟩

end Go.Proofs.Ytadichddgpojpaa
/- Chapter 9: the program's replace: a child's place is taken by others. -/
namespace Go.Proofs.Ytadichddgpojpaa
open Go.RowKit

theorem replace9_any (B b n c i m : Nat) (A : Option Addr) (vc : Nat) (xs ys : List Value) (w : World) (h : Repl9 w B b n c i m A vc xs ys) :
    Calls Try.prog 94 #[.slice (some ⟨b, 0, none⟩) n c, .int .i64 i, .int .i64 ((i : Int) + 1), .slice A m vc] w (ReplPost9 w B b (xs.take i ++ ys ++ xs.drop (i + 1))) := by
  have hxl : xs.length = n := by have := h.own.1; omega
  have hi := h.lt
  by_cases hin : i + 1 = n
  · have hd : xs.drop (i + 1) = [] := List.drop_of_length_le (by omega)
    rw [hd, List.append_nil]
    by_cases hm : m = 0
    · subst hm
      have hy : ys = [] := List.eq_nil_of_length_eq_zero h.len
      subst hy
      rw [List.append_nil]
      exact replace9_last_none B b n c i A vc xs w h hin
    · exact replace9_last_some B b n c i m A vc xs ys w h hin (by omega)
  · obtain ⟨k, rfl⟩ : ∃ k, n = k + 1 := ⟨n - 1, by omega⟩
    by_cases hm : m = 0
    · subst hm
      have hy : ys = [] := List.eq_nil_of_length_eq_zero h.len
      subst hy
      rw [List.append_nil]
      exact replace9_out B b k c i A vc xs w h (by omega)
    · by_cases hm1 : m = 1
      · subst hm1
        obtain ⟨y, rfl⟩ := List.length_eq_one_iff.1 h.len
        exact replace9_one B b k c i A vc xs y w h (by omega)
      · by_cases hf : k + m ≤ c
        · exact replace9_room B b k c i m A vc xs ys w h (by omega) (by omega) hf
        · exact replace9_grow B b k c i m A vc xs ys w h (by omega) (by omega)

/-- Others in a row of their own. -/
def Others9 (w : World) (nb : Nat → Nat) (A : Option Addr) (L : List Nat) (own : Option Nat) : Prop :=
  0 < L.length → ∃ (vb : Nat) (cs : Array Value), A = some ⟨vb, 0, none⟩ ∧ Row w vb 56 cs ∧ own ≠ some vb ∧ ∀ (j : Nat) (u : Value), (ptrsOf nb L)[j]? = some u → cs[j]? = some u
/-- Parents of others are set. -/
def paren9 (pp : Nat → Int) (L : List Nat) (p j : Nat) : Int := if j ∈ L then (p : Int) else pp j
theorem paren9_take {pp : Nat → Int} {L : List Nat} {p k : Nat} (h : k < L.length) : (fun j => if j = L[k] then (p : Int) else paren9 pp (L.take k) p j) = paren9 pp (L.take (k + 1)) p := by
  have hmem : ∀ j, j ∈ L.take (k + 1) ↔ j ∈ L.take k ∨ j = L[k] := fun j => by
    rw [List.take_succ_eq_append_getElem h, List.mem_append, List.mem_singleton]
  funext j
  unfold paren9
  by_cases hj : j = L[k]
  · rw [if_pos hj, if_pos ((hmem j).2 (.inr hj))]
  · rw [if_neg hj]
    by_cases hm : j ∈ L.take k
    · rw [if_pos hm, if_pos ((hmem j).2 (.inl hm))]
    · rw [if_neg hm, if_neg (fun hc => ((hmem j).1 hc).elim hm hj)]

/-- What replace leaves. -/
def NodePost9 (w : World) (B g n : Nat) (nm : Nat → ByteArray) (sz pp : Nat → Int) (kd : Nat → List Nat) (nb : Nat → Nat) (cv : Nat → Value) (p : Nat) (K L : List Nat) (e : Ending) (w' : World) : Prop :=
  e = .returned (.tuple #[]) ∧ ∃ v, Mem9 w' B n nm sz (paren9 pp L p) (upd kd p K) nb (upd cv p v) ∧ Top9 w' B g n nb (upd cv p v) ∧ Below B w w' ∧ ((v.ownBlock = (cv p).ownBlock) ∨ ∃ q, v.ownBlock = some q ∧ w.heap.size ≤ q)

set_option maxRecDepth 100000 in
set_option maxHeartbeats 4000000 in
theorem nodeReplace_any (B g n : Nat) (nm : Nat → ByteArray) (sz pp : Nat → Int) (kd : Nat → List Nat) (nb : Nat → Nat) (cv : Nat → Value) (p ch : Nat) (K1 K2 L : List Nat) (A : Option Addr) (vc : Nat) (w : World)
    (hM : Mem9 w B n nm sz pp kd nb cv) (hT : Top9 w B g n nb cv) (hp : p < n) (hc : ch < n) (hn : n ≤ 100) (hk : kd p = K1 ++ ch :: K2) (hnd : (kd p).Nodup) (hkn : ∀ j ∈ kd p, j < n) (hL : ∀ j ∈ L, j < n) (hLl : L.length ≤ 100) (hLc : L.length ≤ vc) (hvc : vc ≤ 9223372036854775807)
    (hO : Others9 w nb A L (cv p).ownBlock) :
    Calls Try.prog 52 #[.pointer (some ⟨nb p, 0, none⟩), .pointer (some ⟨nb ch, 0, none⟩), .slice A L.length vc] w (NodePost9 w B g n nm sz pp kd nb cv p (K1 ++ L ++ K2) L) := by
  have hB : B ≤ w.heap.size := by have := hM.low p hp; have := (hM.node p hp).lt; omega
  have hkl : (kd p).length = K1.length + (K2.length + 1) := by rw [hk, List.length_append, List.length_cons]
  have hkl1 : (kd p).length ≤ n := nodup9_len hnd hkn
  obtain ⟨b, cb, hcv⟩ := own_form (hM.kids p hp) (by omega)
  have hown := hM.kids p hp
  rw [hcv] at hown
  have hat : at9 (kd p) (ch : Nat) = (K1.length : Nat) := by
    unfold at9
    have h1 : ch ∈ kd p := by rw [hk]; simp
    rw [if_neg (by omega), Int.toNat_natCast, if_pos h1]
    have h2 : (kd p).Nodup := hnd
    rw [hk] at h2 ⊢
    rw [idxOf_mid9 h2]
  have hix := index9_some b cb B (kd p) nb ch w hown (by omega) hnd (fun j hj => ⟨_, hM.node j (by rcases hj with rfl | hj; exact hc; exact hkn j hj)⟩) (fun j hj he => Classical.byContradiction fun hne => hM.apart ch j hc (hkn j hj) hne he)
  rw [hat] at hix
  have hrepl : Repl9 w B b (kd p).length cb K1.length L.length A vc (ptrsOf nb (kd p)) (ptrsOf nb L) :=
    ⟨hown, by omega, by omega, ptrs9_len nb L, hLl, hLc, hvc, hB, ptrs9_one nb L, ptrs9_one nb (kd p), fun h0 => by
      obtain ⟨vb, cs, h1, h2, h3, h4⟩ := hO h0
      refine ⟨vb, h1, fun e => h3 (by rw [hcv, e]; rfl), fun j u hj => ?_, 56, cs.size, shape9 h2, fun e => ?_⟩
      · rw [WideShapes.add_plain]
        show w.cell? ⟨vb, 0 + j, none⟩ = some u
        rw [Nat.zero_add, h2.cell]
        exact h4 j u hj
      · obtain ⟨x, hx⟩ : ∃ x, (ptrsOf nb L)[0]? = some x := ⟨_, List.getElem?_eq_getElem (by rw [ptrs9_len]; exact h0)⟩
        have h5 := h4 0 x hx
        have := (Array.getElem?_eq_some_iff.1 h5).1
        omega⟩
  have hrp := replace9_any B b (kd p).length cb K1.length L.length A vc (ptrsOf nb (kd p)) (ptrsOf nb L) w hrepl
  have hres : (ptrsOf nb (kd p)).take K1.length ++ ptrsOf nb L ++ (ptrsOf nb (kd p)).drop (K1.length + 1) = ptrsOf nb (K1 ++ L ++ K2) := by
    have h1 : (ptrsOf nb (kd p)).take K1.length = ptrsOf nb K1 := by
      unfold ptrsOf
      rw [← List.map_take, hk, List.take_left]
    have h2 : (ptrsOf nb (kd p)).drop (K1.length + 1) = ptrsOf nb K2 := by
      unfold ptrsOf
      rw [← List.map_drop, hk, List.drop_append, List.drop_of_length_le (by omega), List.nil_append, show K1.length + 1 - K1.length = 1 by omega]
      rfl
    rw [h1, h2, ptrs9_append, ptrs9_append]
  rw [hres] at hrp
  unfold ReplPost9 at hrp
  rw [ptrs9_len] at hrp
  have HIX := Lib.hid hix
  have HRP := Lib.hid hrp
  have HM := Lib.hid hM
  have HT := Lib.hid hT
  have HO := Lib.hid hO
  have HLN := Lib.hid hL
  have HCV : Hid (cv p = .slice (some ⟨b, 0, none⟩) (kd p).length cb) := hcv
  have e3 : w.cell? ⟨nb p, 3, none⟩ = some (.slice (some ⟨b, 0, none⟩) (kd p).length cb) := by rw [← hcv]; exact (hM.node p hp).cell 3
  have f3 := (hM.node p hp).free 3
  have hk1 : K1.length ≤ 100 := by omega
  have HKL : Hid (0 < (kd p).length ∧ (kd p).length ≤ 100) := ⟨by omega, by omega⟩
  clear hrepl hrp hres hix hat hown hM hT hO hL hnd hkn hcv hkl hkl1 hk
  generalize hkp : (kd p).length = kpl at *
  clear hkp
  generalize hK1 : K1.length = k1 at *
  clear hK1
  generalize hKR : K1 ++ L ++ K2 = K at *
  clear hKR
  unfold NodePost9
  go_enter Try.func52, Try.ntmps52
  go_wp2_with fail
  refine Calls.mono HIX.out ?_
  rintro e w0 ⟨rfl, hw0⟩
  have hw0 := hw0.symm
  subst hw0
  go_wp2_with fail
  refine Calls.mono HRP.out ?_
  rintro e w1 ⟨v, rfl, ho1, hy1, hat1⟩
  have HO1 := Lib.hid ho1
  have HY1 := Lib.hid hy1
  have HA1 := Lib.hid hat1
  have hnp : Row w1 (nb p) 59 (nodeCells (nm p) (sz p) (ptr9 nb (pp p)) (.slice (some ⟨b, 0, none⟩) kpl cb)) := by
    have h1 := HM.out.node p hp
    rw [HCV.out] at h1
    refine hy1.row h1 (fun e => ?_)
    have h2 := HM.out.ne_kid hp hp
    rw [HCV.out] at h2
    exact h2 e.symm
  have g3 := hnp.cell 3
  have h3 := hnp.free 3
  obtain ⟨vA, vC, rfl, -⟩ := kids9_form ho1
  clear ho1 hy1 hat1 hnp e3 f3 HIX HRP
  simp [nodeCells] at g3
  have hMp := HM.out.kidsPut hp HO1.out (by rw [HCV.out]; exact HY1.out) (by
    rcases HA1.out with h1 | h1
    · exact .inr (.inl (by rw [HCV.out]; exact h1))
    · exact .inr (.inr h1))
  have hTp := HT.out.kidsPut HM.out hp (v := .slice vA K.length vC) (by rw [HCV.out]; exact HY1.out) (by
    rcases HA1.out with h1 | h1
    · exact .inr (.inl (by rw [HCV.out]; exact h1))
    · exact .inr (.inr h1))
  have hb1 : Below B w w1 := (Below.refl B w).trans ⟨HY1.out.os, HY1.out.tape, HY1.out.output, HY1.out.size, fun k hk => HY1.out.block k (by omega) (fun e => by
    have h1 := HM.out.kids p hp
    rw [HCV.out] at h1
    have h2 := (h1.lt b rfl).1
    injection e with e
    omega)⟩
  have HB1 := Lib.hid (hb1.setCell (HM.out.low p hp) (p := ⟨nb p, 3, none⟩) (.slice vA K.length vC))
  have HOT : Hid (0 < L.length → ∃ (vb : Nat) (cs : Array Value), A = some ⟨vb, 0, none⟩ ∧ Row (w1.setCell ⟨nb p, 3, none⟩ (.slice vA K.length vC)) vb 56 cs ∧ ∀ (j : Nat) (u : Value), (ptrsOf nb L)[j]? = some u → cs[j]? = some u) := fun h0 => by
    obtain ⟨vb, cs, e1, r1, n1, c1⟩ := HO.out h0
    refine ⟨vb, cs, e1, (HY1.out.row r1 (fun e => n1 (by rw [HCV.out]; exact e.symm))).far (p := ⟨nb p, 3, none⟩) (fun e => HM.out.ne_row r1 hp (Eq.symm e)) _, c1⟩
  have hpar0 : paren9 pp (L.take 0) p = pp := by funext j; unfold paren9; rw [if_neg (by simp)]
  rw [← hpar0] at hMp
  have HMP := Lib.hid hMp
  have HTP := Lib.hid hTp
  have HPT := Lib.hid (fun k (h : k < L.length) => paren9_take (pp := pp) (p := p) h)
  have HPA : Hid (paren9 pp (L.take L.length) p = paren9 pp L p) := by show _ = _; rw [List.take_length]
  have HEND : Hid ((Value.slice vA K.length vC).ownBlock = (cv p).ownBlock ∨ ∃ q, (Value.slice vA K.length vC).ownBlock = some q ∧ w.heap.size ≤ q) := by
    rcases HA1.out with h1 | h1
    · exact .inl (by rw [HCV.out]; exact h1)
    · exact .inr h1
  clear hMp hTp hb1 hpar0
  go_wp2
  generalize w1.setCell ⟨nb p, 3, none⟩ (.slice vA K.length vC) = w2 at *
  clear HO1 HY1 HA1 HM HT HO g3 h3
  go_loopw [29] (fun iv wr => ∃ (k : Nat), iv = .int .i64 k ∧ k ≤ L.length ∧ Hid (Mem9 wr B n nm sz (paren9 pp (L.take k) p) (upd kd p K) nb (upd cv p (.slice vA K.length vC))) ∧ Hid (Top9 wr B g n nb (upd cv p (.slice vA K.length vC))) ∧ Hid (Below B w wr) ∧
      Hid (0 < L.length → ∃ (vb : Nat) (cs : Array Value), A = some ⟨vb, 0, none⟩ ∧ Row wr vb 56 cs ∧ ∀ (j : Nat) (u : Value), (ptrsOf nb L)[j]? = some u → cs[j]? = some u))
    (fun iv _ => L.length - (intOf iv).toNat)
  case atStart => exact ⟨0, rfl, Nat.zero_le _, HMP, HTP, HB1, HOT⟩
  case round =>
    clear HMP HTP HB1 HOT
    obtain ⟨k, rfl, hk, HM, HT, HB, HO⟩ := hrel
    have hk0 : (0 : Int) ≤ (k : Int) := Int.natCast_nonneg _
    by_cases hlt : k < L.length
    · have hlt' : (k : Int) < (L.length : Int) := by omega
      obtain ⟨vb, cs, rfl, hr, hcs⟩ := HO.out (by omega)
      have hln := HLN.out _ (List.getElem_mem hlt)
      have hcell : wr.cell? ⟨vb, k, none⟩ = some (.pointer (some ⟨nb L[k], 0, none⟩)) := by
        rw [hr.cell]
        exact hcs k _ (by simp [ptrsOf, ptrTo, hlt])
      have hnr := HM.out.node L[k] hln
      have e2 := hnr.cell 2
      have f2 := hnr.free 2
      have HM2 : Hid (Mem9 (wr.setCell ⟨nb L[k], 2, none⟩ (.pointer (some ⟨nb p, 0, none⟩))) B n nm sz (paren9 pp (L.take (k + 1)) p) (upd kd p K) nb (upd cv p (.slice vA K.length vC))) := by
        have h1 := HM.out.parent (q := p) hln
        rw [HPT.out k hlt] at h1
        exact h1
      have HT2 : Hid (Top9 (wr.setCell ⟨nb L[k], 2, none⟩ (.pointer (some ⟨nb p, 0, none⟩))) B g n nb (upd cv p (.slice vA K.length vC))) := HT.out.set hnr (by decide) 2 _
      have HB2 : Hid (Below B w (wr.setCell ⟨nb L[k], 2, none⟩ (.pointer (some ⟨nb p, 0, none⟩)))) := HB.out.setCell (HM.out.low _ hln) (p := ⟨nb L[k], 2, none⟩) _
      have HO2 : Hid (0 < L.length → ∃ (vb' : Nat) (cs : Array Value), some (⟨vb, 0, none⟩ : Addr) = some ⟨vb', 0, none⟩ ∧ Row (wr.setCell ⟨nb L[k], 2, none⟩ (.pointer (some ⟨nb p, 0, none⟩))) vb' 56 cs ∧ ∀ (j : Nat) (u : Value), (ptrsOf nb L)[j]? = some u → cs[j]? = some u) := fun _ =>
        ⟨vb, cs, rfl, hr.far (p := ⟨nb L[k], 2, none⟩) (fun e => HM.out.ne_row hr hln (Eq.symm e)) _, hcs⟩
      clear hr hcs HM HT HB HO hln
      generalize nb L[k] = bn at *
      simp [nodeCells] at e2
      clear hnr
      go_wp2
      go_roundw
      case rel => exact ⟨k + 1, by go_num, by omega, HM2, HT2, HB2, HO2⟩
      case measure => simp [intOf]; omega
    · obtain rfl : k = L.length := by omega
      rw [HPA.out] at HM
      go_wp2
      go_end0
      exact ⟨rfl, _, HM.out, HT.out, HB.out, HEND.out⟩

end Go.Proofs.Ytadichddgpojpaa
