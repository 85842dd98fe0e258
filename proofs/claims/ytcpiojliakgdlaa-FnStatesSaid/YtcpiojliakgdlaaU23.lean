/- Joined: Gs Ab. -/
import Derived.Test.YtcpiojliakgdlaaU19
import Derived.Test.YtcpiojliakgdlaaU16
import Derived.Deep.Onto
import Derived.Test.YtcpiojliakgdlaaU11
import Derived.Test.YtcpiojliakgdlaaU06
/- impl.StatesOf. -/
namespace Go.Proofs.Ytcpiojliakgdlaa
open Go.RowKit Go.Shelf
attribute [local go_sem] Oper.semAt_some

/-- What is behind nodesOf, valid or not: its states, and their names. -/
def NodesSt (w : World) (l : List Seg) (e : Ending) (w' : World) : Prop :=
  ∃ a n c, ∃ (L : List (List Nat)) (nm : List Nat → ByteArray), e = .returned (.slice a n c) ∧ Below w.heap.size w w' ∧ L.map nm = statesB l ∧ (L.length ≤ 9 ∧ decide (0 < L.length) = validB l) ∧
    (∀ (W : World) (Bs bb : Nat), Below w'.heap.size w' W → Row W Bs 61 #[.slice a n c] → w'.heap.size ≤ bb → Bs ≠ bb →
      SeqStopsK Fence.wide 19 Try.prog 125 #[.pointer (some ⟨Bs, 0, none⟩)] stArgs (Kept W.heap.size bb) (fun ys => ys = L) (fun pre => pre <+: L) L.length W) ∧
    (0 < L.length → ∀ (T : List Nat) (W : World), Below w'.heap.size w' W → Calls Try.prog 63 #[bitsV fun j => decide (j ∈ T), .slice a n c] W fun e w'' => e = .returned (.string (nm T)) ∧ Below W.heap.size W w'') ∧
    (0 < L.length → ∀ T, (nm T).size ≤ 8)

theorem stTexts_states {l : List Seg} (hv : validB l = true) : (statesIx l).map (fun T => namesAt l (selIx (fun j => decide (j ∈ T)) l.length)) = stTexts l l.length := by
  have hd := (valid_all hv).1.down
  unfold statesIx stTexts
  rw [List.map_cons, List.map_map]
  congr 1
  · rw [sel_mem List.Pairwise.nil (fun j hj => by cases hj)]
    rfl
  · refine List.map_congr_left (fun i hi => ?_)
    have hi' := List.mem_range.1 hi
    have hs : IsState l (rp l i) := .inr ⟨i, hi', rfl⟩
    show namesAt l (selIx (fun j => decide (j ∈ rp l i)) l.length) = _
    rw [sel_mem (hs.asc hd) (hs.lt hd)]

theorem nodesOf_st (A : Option Addr) (l : List Seg) (c : Nat) (w : World) (hw : Segs w w.heap.size A l) (hl : l.length ≤ 1048576) (hlc : l.length ≤ c) (hcm : c ≤ 9223372036854775807) (hn : Short l) :
    Calls Try.prog 61 #[.slice A l.length c] w (NodesSt w l) := by
  cases hv : validB l with
  | false =>
    refine (nodesOf_bad A l c w hw hl hlc hcm hn hv).mono ?_
    rintro e w' ⟨rfl, hb⟩
    refine ⟨none, 0, 0, [], fun _ => ⟨#[]⟩, rfl, hb, ?_, ⟨by decide, by rw [hv]; rfl⟩, fun W Bs bb _ hB _ _ => states_stops_nil 19 Bs bb W hB, fun h => absurd h (by decide), fun h => absurd h (by decide)⟩
    unfold statesB
    rw [if_neg (by rw [hv]; decide)]
    rfl
  | true =>
    have h8 := (valid_all hv).2.1
    refine (nodesOf_any A l c w hw hl hlc hcm hn hv).mono ?_
    rintro e w' ⟨g, nb, cv, rfl, hN, hb⟩
    refine ⟨_, _, _, statesIx l, fun T => namesAt l (selIx (fun j => decide (j ∈ T)) l.length), rfl, hb, ?_, ⟨by rw [states_len]; omega, by rw [states_len, hv]; simp⟩,
      fun W Bs bb hW hB hbb hne => states_stops2 19 (by omega) Bs bb w.heap.size g l nb cv hv w' W hN hW hbb hB hne,
      fun _ T W hW => names_any w.heap.size g l nb cv _ W (hN.below hW) hv, fun _ T => ?_⟩
    · unfold statesB
      rw [if_pos hv, stTexts_states hv]
    · have h1 := namesAt_len (valid_names hv) (selIx (fun j => decide (j ∈ T)) l.length)
      have h2 := selIx_len (fun j => decide (j ∈ T)) l.length
      show (namesAt l (selIx (fun j => decide (j ∈ T)) l.length)).size ≤ 8
      omega

/-- What the loop keeps. -/
structure Listing (w : World) (D : Nat) (v : Value) (ts : List ByteArray) (W : World) : Prop where
  nodes : Row W w.heap.size 61 #[v]
  ex : ∃ a c, Row W (w.heap.size + 1) 40 #[.slice a ts.length c] ∧ OwnTexts W D (.slice a ts.length c) ts
  below : Below w.heap.size w W
theorem OwnTexts.grown {W W' : World} {base : Nat} {v : Value} {ts : List ByteArray} {row : Option Nat} (h : OwnTexts W base v ts) (hg : W.grownBy W' row) (hr : ∀ r, row = some r → ∃ o : Obj, W.heap[r]? = some o ∧ o.isCells = false) : OwnTexts W' base v ts := by
  refine h.far fun g hb => hg.block g ((World.ownsRow.lt h g hb).2) (fun he => ?_)
  obtain ⟨o, ho, hc⟩ := hr g he.symm
  rcases h.2 with ⟨rfl, _⟩ | ⟨g', cap, cur, rfl, _, hh, _⟩
  · simp [Value.ownBlock] at hb
  · have : g' = g := by simpa [Value.ownBlock] using hb
    subst this
    rw [hh] at ho
    injection ho with ho
    subst ho
    cases hc
theorem Listing.grown {w W W' : World} {D : Nat} {v : Value} {ts : List ByteArray} {B : Nat} {row : Option Nat} (h : Listing w D v ts W) (hg : W.grownBy W' row) (hB : w.heap.size ≤ B) (hr : ∀ r, row = some r → B ≤ r ∧ ∃ o : Obj, W.heap[r]? = some o ∧ o.isCells = false) : Listing w D v ts W' := by
  obtain ⟨a, c, h1, h2⟩ := h.ex
  exact ⟨row_grown h.nodes hg hr, ⟨a, c, row_grown h1 hg hr, h2.grown hg (fun r e => (hr r e).2)⟩, h.below.grown hg h.below.size (fun k e => by have := (hr k e).1; omega)⟩
theorem Listing.below' {w W W' : World} {D : Nat} {v : Value} {ts : List ByteArray} (h : Listing w D v ts W) (hb : Below W.heap.size W W') : Listing w D v ts W' := h.grown (B := w.heap.size) (grownBy_of_below hb) (Nat.le_refl _) (fun r e => by cases e)

theorem operIn_append_str {F : Fence} {nF : Nat} {w : World} {o : Oper} {a : Act} {K : Act → World → Prop} {Q : Exit → Act → World → Prop} (s x : Operand)
    (ho : o.op = .call { callee := .builtin .append, args := #[s, x], argTypes := #[40, 40] })
    (base n : Nat) (v : Value) (xs : List Value) (hs : a.eval s = v) (hown : w.ownsRow base 9 1 v n xs) (ad : Addr) (u : Value) (hx : a.eval x = .slice (some ad) 1 1)
    (hnews : ∀ j y, [u][j]? = some y → w.cell? (ad.add j) = some y) (h1 : ∀ y ∈ [u], y.oneCell' = true) (hn : n ≤ 1000) (hbase : base ≤ w.heap.size)
    (h : ∀ v' w', w'.ownsRow base 9 1 v' (n + 1) (xs ++ [u]) → w.grownBy w' v.ownBlock → K (a.put o.dst v') w') :
    o.wpIn F nF Try.prog a w K Q := by
  obtain ⟨i0, hi, hz0, hz1, hz2⟩ := info_parts info_str
  obtain ⟨v', w', hr, h2, h3, -, -⟩ := run_append_own_at (P := Try.prog) w base 40 o.type 9 i0 (.string ByteArray.empty) 1 16 Try.underlying40 hi hz0 hz1 hz2 rfl (by decide) v n xs hown ad 1 1 [u] rfl hnews h1 (by unfold maxLen; omega) (by omega) hbase
  unfold Oper.wpIn
  refine ⟨by simp [Oper.about, ho, resolve, Target.leads, Sem.run_pure], ?_⟩
  rw [Oper.semAt_plain F _ _ (by rw [ho]; intro c hc'; cases hc')]
  simp [execOp, ho, resolve, invoke, builtin, hs, hx, hr, Result.andThen]
  exact h v' w' h2 h3

set_option maxRecDepth 100000 in
set_option maxHeartbeats 8000000 in
theorem statesOf_exp (A : Option Addr) (l : List Seg) (c : Nat) (w : World) (hw : Segs w w.heap.size A l) (hl : l.length ≤ 1048576) (hlc : l.length ≤ c) (hcm : c ≤ 9223372036854775807) (hn : Short l) :
    Calls Try.prog 30 #[.slice A l.length c] w (StatesPost w l) := by
  have HW : Hid (Segs w w.heap.size A l) := hw
  clear hw
  refine (callsIn_wide (n := 20)).1 ?_
  refine callsIn_of_wp_marks Try.func30 rfl trivial ?_ rfl
  simp only [Try.ntmps30, List.size_toArray, List.length_cons, List.length_nil, Nat.reduceAdd, Nat.reduceSub, Array.replicate_succ, Array.replicate_zero, List.push_toArray, List.append_toArray, List.nil_append, List.cons_append]
  gi_wp2_with fail
  refine ⟨trivial, ?_⟩
  gi_at_call 61
  refine (callsIn_wide.2 (nodesOf_st _ _ _ _ HW.out hl hlc hcm hn)).mono ?_
  rintro e w1 ⟨a1, n1, c1, L, nm, rfl, hb1, hmap, hlen, hseq, hnm, hz⟩
  have HSEQ := Lib.hid hseq
  have HNM := Lib.hid hnm
  have HZ := Lib.hid hz
  have HMAP := Lib.hid hmap
  have HLEN := Lib.hid hlen
  have HB1 := Lib.hid hb1
  clear hseq hnm hz hmap hlen hb1
  gi_wp2_with fail
  have hF0 : Listing w1 (w1.heap.size + 3) (.slice a1 n1 c1) [] ((w1.alloc (.cells #[.slice a1 n1 c1] 61)).alloc (.cells #[.slice none 0 0] 40)) := by
    refine ⟨(Row.new w1 _ _).alloc _, ⟨none, 0, ?_, World.ownsRow_nil _ _ _ _⟩, ((Below.refl _ w1).alloc (Nat.le_refl _) _).alloc (by simp) _⟩
    have := Row.new (w1.alloc (.cells #[.slice a1 n1 c1] 61)) 40 #[.slice none 0 0]
    simpa using this
  have hz0 : ((w1.alloc (.cells #[.slice a1 n1 c1] 61)).alloc (.cells #[.slice none 0 0] 40)).heap.size = w1.heap.size + 2 := by simp
  generalize (w1.alloc (.cells #[.slice a1 n1 c1] 61)).alloc (.cells #[.slice none 0 0] 40) = W0 at *
  refine ⟨trivial, ?_⟩
  gi_at_call 83
  refine (callsIn_wide.2 (statesOf_any _ _ _ _)).mono ?_
  rintro e w2 ⟨rfl, rfl⟩
  have hB1 : Below W0.heap.size W0 (W0.alloc (.cells #[.slice a1 n1 c1] 61)) := (Below.refl _ W0).alloc (Nat.le_refl _) _
  have hF1 := hF0.below' hB1
  have hseq := HSEQ.out (W0.alloc (.cells #[.slice a1 n1 c1] 61)) W0.heap.size (w1.heap.size + 1) hF1.below (Row.new _ _ _) (by omega) (by omega)
  have hz1 : (W0.alloc (.cells #[.slice a1 n1 c1] 61)).heap.size = w1.heap.size + 3 := by rw [World.size_alloc]; omega
  rw [hz0] at hseq
  clear HSEQ hB1 hF0
  gi_wp2
  generalize W0.alloc (.cells #[.slice a1 n1 c1] 61) = W1 at *
  refine wpIn_rangeFunc_ownH rfl (by omega) (gf := 125) (lb := #[.pointer (some ⟨w1.heap.size + 2, 0, none⟩)]) rfl trivial (enters_of Try.func125 (by kernel_rfl) rfl) hseq
    (fun h k => h.trans k) (fun W l o o' hl _ _ _ => Kept.put W o' hl) (Below.refl _ _) (fun _ => rfl)
    (fun pre W => Listing w1 (w1.heap.size + 3) (.slice a1 n1 c1) (pre.map nm) W) (fun _ _ _ => False)
    (fun _ _ _ _ h hg hr => h.grown hg (by omega) hr) (fun _ _ _ _ _ hs _ _ => hs) hF1
    (fun x a' W => ∃ p, Row W p 64 (bitCells fun j => decide (j ∈ x)) ∧ w1.heap.size + 2 ≤ p ∧ a' = { tmps := #[.slice A l.length c, undef, .slice none 0 0, .bool false, .pointer (some ⟨w1.heap.size, 0, none⟩), .pointer (some ⟨w1.heap.size + 1, 0, none⟩), .pointer (some ⟨p, 0, none⟩), .slice A l.length c, .slice a1 n1 c1, .slice a1 n1 c1, .func (.func 125) #[] #[.pointer (some ⟨w1.heap.size + 2, 0, none⟩)], bitsV fun j => decide (j ∈ x), undef, undef, undef, undef, undef, undef, undef, undef, undef, undef], defers := [] })
    (fun x a' _ _ _ _ ⟨p, h1, h2, h3⟩ hg hr => ⟨p, row_grown h1 hg hr, h2, h3⟩) ?assign ?body ?done ?stop
  case assign =>
    intro l2 pre x W K hI hK
    have hI2 := hI.below' ((Below.refl _ W).alloc (Nat.le_refl _) (.cells (bitCells fun j => decide (j ∈ x)) 64))
    obtain ⟨_, _, hrt, _⟩ := hI.ex
    unfold stArgs bitsV bitCells
    gi_wp2
    exact hK _ _ (from_below ((Below.refl _ W).alloc (Nat.le_refl _) _)) (Kept.of_below ((Below.refl _ W).alloc (Nat.le_refl _) _)) hI2 ⟨W.heap.size, Row.new _ _ _, by have := hrt.lt; omega, rfl⟩
  case body =>
    rintro l2 pre x a' W hl2 - hI ⟨p, hp, hp4, rfl⟩ hlen
    obtain ⟨⟨c0, c1', c2, c3⟩, c4, c5, c6, c7⟩ := bits_cells hp
    obtain ⟨a5, k5, hrt, hown⟩ := hI.ex
    have cn : W.cell? ⟨w1.heap.size, 0, none⟩ = some (.slice a1 n1 c1) := hI.nodes.cell 0
    have ct : W.cell? ⟨w1.heap.size + 1, 0, none⟩ = some (.slice a5 (pre.map nm).length k5) := hrt.cell 0
    have hct := hrt.lt
    have hnx' := HNM.out (by omega) x
    obtain ⟨nx, hnx⟩ : ∃ nx, nx = nm x := ⟨_, rfl⟩
    rw [← hnx] at hnx'
    have HNX := Lib.hid hnx'
    have HNXE := Lib.hid hnx
    clear hnx' hnx
    have HI := Lib.hid hI
    have HP := Lib.hid hp
    have HO := Lib.hid hown
    have HRT := Lib.hid hrt
    have HWD : Hid (Below w1.heap.size w1 W.drew) := hI.below.drew
    have hmx : Try.prog.follows .mixedOrders = true := by kernel_rfl
    rw [List.length_map] at ct hrt
    have hown2 := hown
    unfold OwnTexts at hown2
    rw [List.length_map] at hown2
    have HOW : Hid (∀ w3, Below W.heap.size W w3 → (w3.alloc (.cells #[.string nx] 9)).ownsRow (w1.heap.size + 3) 9 1 (.slice a5 pre.length k5) pre.length ((pre.map nm).map Value.string)) := fun w3 hb => (own_keep hown2 (fun g hg => hb.block g (World.ownsRow.lt hown2 g hg).2)).alloc _
    have HROW : Hid (∀ w3 w4, Below W.heap.size W w3 → (w3.alloc (.cells #[.string nx] 9)).grownBy w4 (Value.slice a5 pre.length k5).ownBlock → Row w4 (w1.heap.size + 1) 40 #[.slice a5 pre.length k5]) := fun w3 w4 hb hg =>
      (hg.block _ ((hrt.below hb hrt.lt).alloc _).lt (fun he => own_ne hown2 hrt (by decide) he.symm)).trans ((hrt.below hb hrt.lt).alloc (.cells #[.string nx] 9))
    have HEND : Hid (∀ w3 w4 g4 cap4, Below W.heap.size W w3 → w4.ownsRow (w1.heap.size + 3) 9 1 (.slice (some ⟨g4, 0, none⟩) (pre.length + 1) cap4) (pre.length + 1) ((pre.map nm).map Value.string ++ [.string nx]) → (w3.alloc (.cells #[.string nx] 9)).grownBy w4 (Value.slice a5 pre.length k5).ownBlock →
        KeepsFrom W1.heap.size W (w4.setCell ⟨w1.heap.size + 1, 0, none⟩ (.slice (some ⟨g4, 0, none⟩) (pre.length + 1) cap4)) ∧ Kept W1.heap.size (w1.heap.size + 1) W (w4.setCell ⟨w1.heap.size + 1, 0, none⟩ (.slice (some ⟨g4, 0, none⟩) (pre.length + 1) cap4)) ∧ Listing w1 (w1.heap.size + 3) (.slice a1 n1 c1) ((pre ++ [x]).map nm) (w4.setCell ⟨w1.heap.size + 1, 0, none⟩ (.slice (some ⟨g4, 0, none⟩) (pre.length + 1) cap4))) := by
      show ∀ w3 w4 g4 cap4, _
      intro w3 w4 g4 cap4 hb hown4 hg4
      have hown3 := HOW.out w3 hb
      have hlow : ∀ g, (Value.slice a5 pre.length k5).ownBlock = some g → w1.heap.size + 3 ≤ g := fun g hg => (World.ownsRow.lt hown3 g hg).1
      have hcellsO : ∀ g, (Value.slice a5 pre.length k5).ownBlock = some g → ∃ cc tt, (w3.alloc (.cells #[.string nx] 9)).heap[g]? = some (.cells cc tt (0, 0)) := fun g hg => by
        rcases hown3.2 with ⟨e1, _⟩ | ⟨g', cap, cur, e1, _, hh, _⟩
        · rw [e1] at hg; cases hg
        · rw [e1] at hg
          have : g' = g := by simpa [Value.ownBlock] using hg
          subst this
          exact ⟨_, _, hh⟩
      have hsz3 := hb.size
      have hsz4 := hg4.size
      rw [World.size_alloc] at hsz4
      have hstep : ∀ k (o : Obj), W.heap[k]? = some o → (Value.slice a5 pre.length k5).ownBlock ≠ some k → w4.heap[k]? = some o := fun k o ho hne => by
        have hkW := (Array.getElem?_eq_some_iff.1 ho).1
        have h3 := (hb.block k hkW).trans ho
        have h3a := (Below.heap_alloc w3 (.cells #[.string nx] 9) k (Array.getElem?_eq_some_iff.1 h3).1).trans h3
        exact (hg4.block k (Array.getElem?_eq_some_iff.1 h3a).1 (fun e => hne e.symm)).trans h3a
      refine ⟨⟨by rw [World.size_setCell]; omega, fun k o hk ho hc => ?_⟩, fun k o hk hkb ho hnb => ?_, ?_, ?_, ?_⟩
      · refine (Below.heap_setCell w4 _ _ k (by show k ≠ w1.heap.size + 1; omega)).trans (hstep k o ho (fun e => ?_))
        obtain ⟨cc, tt, hcc⟩ := hcellsO k e
        have hkW := (Array.getElem?_eq_some_iff.1 ho).1
        have h3 := (hb.block k hkW).trans ho
        have h3a := (Below.heap_alloc w3 (.cells #[.string nx] 9) k (Array.getElem?_eq_some_iff.1 h3).1).trans h3
        rw [h3a] at hcc
        injection hcc with hcc
        subst hcc
        cases hc
      · exact (Below.heap_setCell w4 _ _ k hkb).trans (hstep k o ho (fun e => by have := hlow k e; omega))
      · exact (Row.far (p := ⟨w1.heap.size + 1, 0, none⟩) (hstep _ _ hI.nodes (fun e => by have := hlow _ e; omega)) (by show w1.heap.size ≠ w1.heap.size + 1; omega) _)
      · have hrow4 := HROW.out w3 w4 hb hg4
        refine ⟨some ⟨g4, 0, none⟩, cap4, ?_, ?_⟩
        · have := Row.put hrow4 0 (.slice (some ⟨g4, 0, none⟩) (pre.length + 1) cap4)
          rw [show ((pre ++ [x]).map nm).length = pre.length + 1 by simp]
          exact this
        · unfold OwnTexts
          have h5 := own_set hown4 hrow4 (by decide) 0 (.slice (some ⟨g4, 0, none⟩) (pre.length + 1) cap4)
          rw [show ((pre ++ [x]).map nm).length = pre.length + 1 by simp, List.map_append, List.map_append]
          rw [HNXE.out] at h5
          exact h5
      · exact ((((hI.below.trans (hb.mono hI.below.size)).alloc (by have := hI.below.size; omega) _).grown hg4 (by rw [World.size_alloc]; have := hI.below.size; omega) (fun k e => by have := hlow k e; omega)).setCell (p := ⟨w1.heap.size + 1, 0, none⟩) (by show w1.heap.size ≤ w1.heap.size + 1; omega) _)
    clear hI hp hown hrt hown2
    unfold bitsV bitCells at HNX
    gi_wp2
    refine wpIn_region_any (by assumption) ?_
    change wpAnyIn _ _ _ _ _ _ _ _ _ (World.drew _)
    refine wpAnyIn_ready (rs := [0, 1, 2]) (by kernel_rfl) (by simp) ?_
    refine AllReadyIn.cons rfl (fun K hK => ?_) (AllReadyIn.cons rfl (fun K hK => ?_) (AllReadyIn.cons rfl (fun K hK => ?_) AllReadyIn.nil))
    · go_simp
      refine hK _ _ ?_
      clear hK K
      refine wpAnyIn_ready (rs := [1, 2]) (by kernel_rfl) (by simp) ?_
      refine AllReadyIn.cons rfl (fun K hK => ?_) (AllReadyIn.cons rfl (fun K hK => ?_) AllReadyIn.nil)
      · go_simp
        refine hK _ _ ?_
        clear hK K
        refine wpAnyIn_ready (rs := [2]) (by kernel_rfl) (by simp) ?_
        refine AllReadyIn.cons rfl (fun K hK => ?_) AllReadyIn.nil
        go_simp
        refine hK _ _ ?_
        clear hK K
        refine wpAnyIn_ready (rs := [3]) (by kernel_rfl) (by simp) ?_
        refine AllReadyIn.cons rfl (fun K hK => ?_) AllReadyIn.nil
        gi_wp2_with (refine ⟨trivial, ?_⟩; gi_at_call 63; refine (CallsIn.inRound l2 (callsIn_wide.2 (HNX.out _ HWD.out))).mono ?_; rintro e w3 ⟨rfl, hb3⟩)
        have HBW : Hid (Below W.heap.size W w3) := ((Below.refl _ W).drew).trans hb3
        have ct3 : w3.cell? ⟨w1.heap.size + 1, 0, none⟩ = some (.slice a5 pre.length k5) := (HBW.out.cell (p := ⟨w1.heap.size + 1, 0, none⟩) hct).trans ct
        have ct4 : (w3.alloc (.cells #[.string nx] 9)).cell? ⟨w1.heap.size + 1, 0, none⟩ = some (.slice a5 pre.length k5) := (((Below.refl w3.heap.size w3).alloc (Nat.le_refl _) (.cells #[.string nx] 9)).cell (p := ⟨w1.heap.size + 1, 0, none⟩) (Nat.lt_of_lt_of_le hct HBW.out.size)).trans ct3
        clear hb3
        refine wpAnyIn_ready (rs := [4]) (by kernel_rfl) (by simp) ?_
        refine AllReadyIn.cons rfl (fun K hK => ?_) AllReadyIn.nil
        go_simp
        refine hK _ _ ?_
        clear hK K
        refine wpAnyIn_ready (rs := [5]) (by kernel_rfl) (by simp) ?_
        refine AllReadyIn.cons rfl (fun K hK => ?_) AllReadyIn.nil
        rw [if_pos (by rfl)]
        refine operIn_append_str _ _ rfl (w1.heap.size + 3) pre.length (.slice a5 pre.length k5) ((pre.map nm).map Value.string) rfl (HOW.out w3 HBW.out) ⟨w3.heap.size, 0, none⟩ (.string nx) rfl (cell_one_new _ _ _) (by simp [Value.oneCell']) (by have := HLEN.out.1; omega) (by have := HBW.out.size; simp; omega) ?_
        intro v4 w4 hown4 hgrow4
        obtain ⟨g4, cap4, rfl⟩ := own_form hown4 (by omega)
        refine hK _ _ ?_
        clear hK K
        have HO4 := Lib.hid hown4
        have HG4 := Lib.hid hgrow4
        have h46 := HROW.out w3 w4 HBW.out hgrow4
        have ct6 := h46.cell 0
        have cz6 := h46.free 0
        clear hown4 hgrow4 h46 ct3 ct4
        refine wpAnyIn_ready (rs := [6]) (by kernel_rfl) (by simp) ?_
        refine AllReadyIn.cons rfl (fun K hK => ?_) AllReadyIn.nil
        go_simp
        refine hK _ _ ?_
        clear hK K ct6 cz6
        refine wpAnyIn_done (by kernel_rfl) ?_ _
        gi_wp2
        exact HEND.out w3 w4 _ _ HBW.out HO4.out HG4.out
      · go_simp
        refine hK _ _ ?_
        clear hK K
        refine wpAnyIn_ready (rs := [1]) (by kernel_rfl) (by simp) ?_
        refine AllReadyIn.cons rfl (fun K hK => ?_) AllReadyIn.nil
        go_simp
        refine hK _ _ ?_
        clear hK K
        refine wpAnyIn_ready (rs := [3]) (by kernel_rfl) (by simp) ?_
        refine AllReadyIn.cons rfl (fun K hK => ?_) AllReadyIn.nil
        gi_wp2_with (refine ⟨trivial, ?_⟩; gi_at_call 63; refine (CallsIn.inRound l2 (callsIn_wide.2 (HNX.out _ HWD.out))).mono ?_; rintro e w3 ⟨rfl, hb3⟩)
        have HBW : Hid (Below W.heap.size W w3) := ((Below.refl _ W).drew).trans hb3
        have ct3 : w3.cell? ⟨w1.heap.size + 1, 0, none⟩ = some (.slice a5 pre.length k5) := (HBW.out.cell (p := ⟨w1.heap.size + 1, 0, none⟩) hct).trans ct
        have ct4 : (w3.alloc (.cells #[.string nx] 9)).cell? ⟨w1.heap.size + 1, 0, none⟩ = some (.slice a5 pre.length k5) := (((Below.refl w3.heap.size w3).alloc (Nat.le_refl _) (.cells #[.string nx] 9)).cell (p := ⟨w1.heap.size + 1, 0, none⟩) (Nat.lt_of_lt_of_le hct HBW.out.size)).trans ct3
        clear hb3
        refine wpAnyIn_ready (rs := [4]) (by kernel_rfl) (by simp) ?_
        refine AllReadyIn.cons rfl (fun K hK => ?_) AllReadyIn.nil
        go_simp
        refine hK _ _ ?_
        clear hK K
        refine wpAnyIn_ready (rs := [5]) (by kernel_rfl) (by simp) ?_
        refine AllReadyIn.cons rfl (fun K hK => ?_) AllReadyIn.nil
        rw [if_pos (by rfl)]
        refine operIn_append_str _ _ rfl (w1.heap.size + 3) pre.length (.slice a5 pre.length k5) ((pre.map nm).map Value.string) rfl (HOW.out w3 HBW.out) ⟨w3.heap.size, 0, none⟩ (.string nx) rfl (cell_one_new _ _ _) (by simp [Value.oneCell']) (by have := HLEN.out.1; omega) (by have := HBW.out.size; simp; omega) ?_
        intro v4 w4 hown4 hgrow4
        obtain ⟨g4, cap4, rfl⟩ := own_form hown4 (by omega)
        refine hK _ _ ?_
        clear hK K
        have HO4 := Lib.hid hown4
        have HG4 := Lib.hid hgrow4
        have h46 := HROW.out w3 w4 HBW.out hgrow4
        have ct6 := h46.cell 0
        have cz6 := h46.free 0
        clear hown4 hgrow4 h46 ct3 ct4
        refine wpAnyIn_ready (rs := [6]) (by kernel_rfl) (by simp) ?_
        refine AllReadyIn.cons rfl (fun K hK => ?_) AllReadyIn.nil
        go_simp
        refine hK _ _ ?_
        clear hK K ct6 cz6
        refine wpAnyIn_done (by kernel_rfl) ?_ _
        gi_wp2
        exact HEND.out w3 w4 _ _ HBW.out HO4.out HG4.out
    · go_simp
      refine hK _ _ ?_
      clear hK K
      refine wpAnyIn_ready (rs := [0, 2]) (by kernel_rfl) (by simp) ?_
      refine AllReadyIn.cons rfl (fun K hK => ?_) (AllReadyIn.cons rfl (fun K hK => ?_) AllReadyIn.nil)
      · go_simp
        refine hK _ _ ?_
        clear hK K
        refine wpAnyIn_ready (rs := [2]) (by kernel_rfl) (by simp) ?_
        refine AllReadyIn.cons rfl (fun K hK => ?_) AllReadyIn.nil
        go_simp
        refine hK _ _ ?_
        clear hK K
        refine wpAnyIn_ready (rs := [3]) (by kernel_rfl) (by simp) ?_
        refine AllReadyIn.cons rfl (fun K hK => ?_) AllReadyIn.nil
        gi_wp2_with (refine ⟨trivial, ?_⟩; gi_at_call 63; refine (CallsIn.inRound l2 (callsIn_wide.2 (HNX.out _ HWD.out))).mono ?_; rintro e w3 ⟨rfl, hb3⟩)
        have HBW : Hid (Below W.heap.size W w3) := ((Below.refl _ W).drew).trans hb3
        have ct3 : w3.cell? ⟨w1.heap.size + 1, 0, none⟩ = some (.slice a5 pre.length k5) := (HBW.out.cell (p := ⟨w1.heap.size + 1, 0, none⟩) hct).trans ct
        have ct4 : (w3.alloc (.cells #[.string nx] 9)).cell? ⟨w1.heap.size + 1, 0, none⟩ = some (.slice a5 pre.length k5) := (((Below.refl w3.heap.size w3).alloc (Nat.le_refl _) (.cells #[.string nx] 9)).cell (p := ⟨w1.heap.size + 1, 0, none⟩) (Nat.lt_of_lt_of_le hct HBW.out.size)).trans ct3
        clear hb3
        refine wpAnyIn_ready (rs := [4]) (by kernel_rfl) (by simp) ?_
        refine AllReadyIn.cons rfl (fun K hK => ?_) AllReadyIn.nil
        go_simp
        refine hK _ _ ?_
        clear hK K
        refine wpAnyIn_ready (rs := [5]) (by kernel_rfl) (by simp) ?_
        refine AllReadyIn.cons rfl (fun K hK => ?_) AllReadyIn.nil
        rw [if_pos (by rfl)]
        refine operIn_append_str _ _ rfl (w1.heap.size + 3) pre.length (.slice a5 pre.length k5) ((pre.map nm).map Value.string) rfl (HOW.out w3 HBW.out) ⟨w3.heap.size, 0, none⟩ (.string nx) rfl (cell_one_new _ _ _) (by simp [Value.oneCell']) (by have := HLEN.out.1; omega) (by have := HBW.out.size; simp; omega) ?_
        intro v4 w4 hown4 hgrow4
        obtain ⟨g4, cap4, rfl⟩ := own_form hown4 (by omega)
        refine hK _ _ ?_
        clear hK K
        have HO4 := Lib.hid hown4
        have HG4 := Lib.hid hgrow4
        have h46 := HROW.out w3 w4 HBW.out hgrow4
        have ct6 := h46.cell 0
        have cz6 := h46.free 0
        clear hown4 hgrow4 h46 ct3 ct4
        refine wpAnyIn_ready (rs := [6]) (by kernel_rfl) (by simp) ?_
        refine AllReadyIn.cons rfl (fun K hK => ?_) AllReadyIn.nil
        go_simp
        refine hK _ _ ?_
        clear hK K ct6 cz6
        refine wpAnyIn_done (by kernel_rfl) ?_ _
        gi_wp2
        exact HEND.out w3 w4 _ _ HBW.out HO4.out HG4.out
      · go_simp
        refine hK _ _ ?_
        clear hK K
        refine wpAnyIn_ready (rs := [0, 3]) (by kernel_rfl) (by simp) ?_
        refine AllReadyIn.cons rfl (fun K hK => ?_) (AllReadyIn.cons rfl (fun K hK => ?_) AllReadyIn.nil)
        · go_simp
          refine hK _ _ ?_
          clear hK K
          refine wpAnyIn_ready (rs := [3]) (by kernel_rfl) (by simp) ?_
          refine AllReadyIn.cons rfl (fun K hK => ?_) AllReadyIn.nil
          gi_wp2_with (refine ⟨trivial, ?_⟩; gi_at_call 63; refine (CallsIn.inRound l2 (callsIn_wide.2 (HNX.out _ HWD.out))).mono ?_; rintro e w3 ⟨rfl, hb3⟩)
          have HBW : Hid (Below W.heap.size W w3) := ((Below.refl _ W).drew).trans hb3
          have ct3 : w3.cell? ⟨w1.heap.size + 1, 0, none⟩ = some (.slice a5 pre.length k5) := (HBW.out.cell (p := ⟨w1.heap.size + 1, 0, none⟩) hct).trans ct
          have ct4 : (w3.alloc (.cells #[.string nx] 9)).cell? ⟨w1.heap.size + 1, 0, none⟩ = some (.slice a5 pre.length k5) := (((Below.refl w3.heap.size w3).alloc (Nat.le_refl _) (.cells #[.string nx] 9)).cell (p := ⟨w1.heap.size + 1, 0, none⟩) (Nat.lt_of_lt_of_le hct HBW.out.size)).trans ct3
          clear hb3
          refine wpAnyIn_ready (rs := [4]) (by kernel_rfl) (by simp) ?_
          refine AllReadyIn.cons rfl (fun K hK => ?_) AllReadyIn.nil
          go_simp
          refine hK _ _ ?_
          clear hK K
          refine wpAnyIn_ready (rs := [5]) (by kernel_rfl) (by simp) ?_
          refine AllReadyIn.cons rfl (fun K hK => ?_) AllReadyIn.nil
          rw [if_pos (by rfl)]
          refine operIn_append_str _ _ rfl (w1.heap.size + 3) pre.length (.slice a5 pre.length k5) ((pre.map nm).map Value.string) rfl (HOW.out w3 HBW.out) ⟨w3.heap.size, 0, none⟩ (.string nx) rfl (cell_one_new _ _ _) (by simp [Value.oneCell']) (by have := HLEN.out.1; omega) (by have := HBW.out.size; simp; omega) ?_
          intro v4 w4 hown4 hgrow4
          obtain ⟨g4, cap4, rfl⟩ := own_form hown4 (by omega)
          refine hK _ _ ?_
          clear hK K
          have HO4 := Lib.hid hown4
          have HG4 := Lib.hid hgrow4
          have h46 := HROW.out w3 w4 HBW.out hgrow4
          have ct6 := h46.cell 0
          have cz6 := h46.free 0
          clear hown4 hgrow4 h46 ct3 ct4
          refine wpAnyIn_ready (rs := [6]) (by kernel_rfl) (by simp) ?_
          refine AllReadyIn.cons rfl (fun K hK => ?_) AllReadyIn.nil
          go_simp
          refine hK _ _ ?_
          clear hK K ct6 cz6
          refine wpAnyIn_done (by kernel_rfl) ?_ _
          gi_wp2
          exact HEND.out w3 w4 _ _ HBW.out HO4.out HG4.out
        · gi_wp2_with (refine ⟨trivial, ?_⟩; gi_at_call 63; refine (CallsIn.inRound l2 (callsIn_wide.2 (HNX.out _ HWD.out))).mono ?_; rintro e w3 ⟨rfl, hb3⟩)
          have HBW : Hid (Below W.heap.size W w3) := ((Below.refl _ W).drew).trans hb3
          have ct3 : w3.cell? ⟨w1.heap.size + 1, 0, none⟩ = some (.slice a5 pre.length k5) := (HBW.out.cell (p := ⟨w1.heap.size + 1, 0, none⟩) hct).trans ct
          have ct4 : (w3.alloc (.cells #[.string nx] 9)).cell? ⟨w1.heap.size + 1, 0, none⟩ = some (.slice a5 pre.length k5) := (((Below.refl w3.heap.size w3).alloc (Nat.le_refl _) (.cells #[.string nx] 9)).cell (p := ⟨w1.heap.size + 1, 0, none⟩) (Nat.lt_of_lt_of_le hct HBW.out.size)).trans ct3
          clear hb3
          refine wpAnyIn_ready (rs := [0, 4]) (by kernel_rfl) (by simp) ?_
          refine AllReadyIn.cons rfl (fun K hK => ?_) (AllReadyIn.cons rfl (fun K hK => ?_) AllReadyIn.nil)
          · go_simp
            refine hK _ _ ?_
            clear hK K
            refine wpAnyIn_ready (rs := [4]) (by kernel_rfl) (by simp) ?_
            refine AllReadyIn.cons rfl (fun K hK => ?_) AllReadyIn.nil
            go_simp
            refine hK _ _ ?_
            clear hK K
            refine wpAnyIn_ready (rs := [5]) (by kernel_rfl) (by simp) ?_
            refine AllReadyIn.cons rfl (fun K hK => ?_) AllReadyIn.nil
            rw [if_pos (by rfl)]
            refine operIn_append_str _ _ rfl (w1.heap.size + 3) pre.length (.slice a5 pre.length k5) ((pre.map nm).map Value.string) rfl (HOW.out w3 HBW.out) ⟨w3.heap.size, 0, none⟩ (.string nx) rfl (cell_one_new _ _ _) (by simp [Value.oneCell']) (by have := HLEN.out.1; omega) (by have := HBW.out.size; simp; omega) ?_
            intro v4 w4 hown4 hgrow4
            obtain ⟨g4, cap4, rfl⟩ := own_form hown4 (by omega)
            refine hK _ _ ?_
            clear hK K
            have HO4 := Lib.hid hown4
            have HG4 := Lib.hid hgrow4
            have h46 := HROW.out w3 w4 HBW.out hgrow4
            have ct6 := h46.cell 0
            have cz6 := h46.free 0
            clear hown4 hgrow4 h46 ct3 ct4
            refine wpAnyIn_ready (rs := [6]) (by kernel_rfl) (by simp) ?_
            refine AllReadyIn.cons rfl (fun K hK => ?_) AllReadyIn.nil
            go_simp
            refine hK _ _ ?_
            clear hK K ct6 cz6
            refine wpAnyIn_done (by kernel_rfl) ?_ _
            gi_wp2
            exact HEND.out w3 w4 _ _ HBW.out HO4.out HG4.out
          · go_simp
            refine hK _ _ ?_
            clear hK K
            refine wpAnyIn_ready (rs := [0]) (by kernel_rfl) (by simp) ?_
            refine AllReadyIn.cons rfl (fun K hK => ?_) AllReadyIn.nil
            go_simp
            refine hK _ _ ?_
            clear hK K
            refine wpAnyIn_ready (rs := [5]) (by kernel_rfl) (by simp) ?_
            refine AllReadyIn.cons rfl (fun K hK => ?_) AllReadyIn.nil
            rw [if_pos (by rfl)]
            refine operIn_append_str _ _ rfl (w1.heap.size + 3) pre.length (.slice a5 pre.length k5) ((pre.map nm).map Value.string) rfl (HOW.out w3 HBW.out) ⟨w3.heap.size, 0, none⟩ (.string nx) rfl (cell_one_new _ _ _) (by simp [Value.oneCell']) (by have := HLEN.out.1; omega) (by have := HBW.out.size; simp; omega) ?_
            intro v4 w4 hown4 hgrow4
            obtain ⟨g4, cap4, rfl⟩ := own_form hown4 (by omega)
            refine hK _ _ ?_
            clear hK K
            have HO4 := Lib.hid hown4
            have HG4 := Lib.hid hgrow4
            have h46 := HROW.out w3 w4 HBW.out hgrow4
            have ct6 := h46.cell 0
            have cz6 := h46.free 0
            clear hown4 hgrow4 h46 ct3 ct4
            refine wpAnyIn_ready (rs := [6]) (by kernel_rfl) (by simp) ?_
            refine AllReadyIn.cons rfl (fun K hK => ?_) AllReadyIn.nil
            go_simp
            refine hK _ _ ?_
            clear hK K ct6 cz6
            refine wpAnyIn_done (by kernel_rfl) ?_ _
            gi_wp2
            exact HEND.out w3 w4 _ _ HBW.out HO4.out HG4.out
    · go_simp
      refine hK _ _ ?_
      clear hK K
      refine wpAnyIn_ready (rs := [0, 1]) (by kernel_rfl) (by simp) ?_
      refine AllReadyIn.cons rfl (fun K hK => ?_) (AllReadyIn.cons rfl (fun K hK => ?_) AllReadyIn.nil)
      · go_simp
        refine hK _ _ ?_
        clear hK K
        refine wpAnyIn_ready (rs := [1]) (by kernel_rfl) (by simp) ?_
        refine AllReadyIn.cons rfl (fun K hK => ?_) AllReadyIn.nil
        go_simp
        refine hK _ _ ?_
        clear hK K
        refine wpAnyIn_ready (rs := [3]) (by kernel_rfl) (by simp) ?_
        refine AllReadyIn.cons rfl (fun K hK => ?_) AllReadyIn.nil
        gi_wp2_with (refine ⟨trivial, ?_⟩; gi_at_call 63; refine (CallsIn.inRound l2 (callsIn_wide.2 (HNX.out _ HWD.out))).mono ?_; rintro e w3 ⟨rfl, hb3⟩)
        have HBW : Hid (Below W.heap.size W w3) := ((Below.refl _ W).drew).trans hb3
        have ct3 : w3.cell? ⟨w1.heap.size + 1, 0, none⟩ = some (.slice a5 pre.length k5) := (HBW.out.cell (p := ⟨w1.heap.size + 1, 0, none⟩) hct).trans ct
        have ct4 : (w3.alloc (.cells #[.string nx] 9)).cell? ⟨w1.heap.size + 1, 0, none⟩ = some (.slice a5 pre.length k5) := (((Below.refl w3.heap.size w3).alloc (Nat.le_refl _) (.cells #[.string nx] 9)).cell (p := ⟨w1.heap.size + 1, 0, none⟩) (Nat.lt_of_lt_of_le hct HBW.out.size)).trans ct3
        clear hb3
        refine wpAnyIn_ready (rs := [4]) (by kernel_rfl) (by simp) ?_
        refine AllReadyIn.cons rfl (fun K hK => ?_) AllReadyIn.nil
        go_simp
        refine hK _ _ ?_
        clear hK K
        refine wpAnyIn_ready (rs := [5]) (by kernel_rfl) (by simp) ?_
        refine AllReadyIn.cons rfl (fun K hK => ?_) AllReadyIn.nil
        rw [if_pos (by rfl)]
        refine operIn_append_str _ _ rfl (w1.heap.size + 3) pre.length (.slice a5 pre.length k5) ((pre.map nm).map Value.string) rfl (HOW.out w3 HBW.out) ⟨w3.heap.size, 0, none⟩ (.string nx) rfl (cell_one_new _ _ _) (by simp [Value.oneCell']) (by have := HLEN.out.1; omega) (by have := HBW.out.size; simp; omega) ?_
        intro v4 w4 hown4 hgrow4
        obtain ⟨g4, cap4, rfl⟩ := own_form hown4 (by omega)
        refine hK _ _ ?_
        clear hK K
        have HO4 := Lib.hid hown4
        have HG4 := Lib.hid hgrow4
        have h46 := HROW.out w3 w4 HBW.out hgrow4
        have ct6 := h46.cell 0
        have cz6 := h46.free 0
        clear hown4 hgrow4 h46 ct3 ct4
        refine wpAnyIn_ready (rs := [6]) (by kernel_rfl) (by simp) ?_
        refine AllReadyIn.cons rfl (fun K hK => ?_) AllReadyIn.nil
        go_simp
        refine hK _ _ ?_
        clear hK K ct6 cz6
        refine wpAnyIn_done (by kernel_rfl) ?_ _
        gi_wp2
        exact HEND.out w3 w4 _ _ HBW.out HO4.out HG4.out
      · go_simp
        refine hK _ _ ?_
        clear hK K
        refine wpAnyIn_ready (rs := [0, 3]) (by kernel_rfl) (by simp) ?_
        refine AllReadyIn.cons rfl (fun K hK => ?_) (AllReadyIn.cons rfl (fun K hK => ?_) AllReadyIn.nil)
        · go_simp
          refine hK _ _ ?_
          clear hK K
          refine wpAnyIn_ready (rs := [3]) (by kernel_rfl) (by simp) ?_
          refine AllReadyIn.cons rfl (fun K hK => ?_) AllReadyIn.nil
          gi_wp2_with (refine ⟨trivial, ?_⟩; gi_at_call 63; refine (CallsIn.inRound l2 (callsIn_wide.2 (HNX.out _ HWD.out))).mono ?_; rintro e w3 ⟨rfl, hb3⟩)
          have HBW : Hid (Below W.heap.size W w3) := ((Below.refl _ W).drew).trans hb3
          have ct3 : w3.cell? ⟨w1.heap.size + 1, 0, none⟩ = some (.slice a5 pre.length k5) := (HBW.out.cell (p := ⟨w1.heap.size + 1, 0, none⟩) hct).trans ct
          have ct4 : (w3.alloc (.cells #[.string nx] 9)).cell? ⟨w1.heap.size + 1, 0, none⟩ = some (.slice a5 pre.length k5) := (((Below.refl w3.heap.size w3).alloc (Nat.le_refl _) (.cells #[.string nx] 9)).cell (p := ⟨w1.heap.size + 1, 0, none⟩) (Nat.lt_of_lt_of_le hct HBW.out.size)).trans ct3
          clear hb3
          refine wpAnyIn_ready (rs := [4]) (by kernel_rfl) (by simp) ?_
          refine AllReadyIn.cons rfl (fun K hK => ?_) AllReadyIn.nil
          go_simp
          refine hK _ _ ?_
          clear hK K
          refine wpAnyIn_ready (rs := [5]) (by kernel_rfl) (by simp) ?_
          refine AllReadyIn.cons rfl (fun K hK => ?_) AllReadyIn.nil
          rw [if_pos (by rfl)]
          refine operIn_append_str _ _ rfl (w1.heap.size + 3) pre.length (.slice a5 pre.length k5) ((pre.map nm).map Value.string) rfl (HOW.out w3 HBW.out) ⟨w3.heap.size, 0, none⟩ (.string nx) rfl (cell_one_new _ _ _) (by simp [Value.oneCell']) (by have := HLEN.out.1; omega) (by have := HBW.out.size; simp; omega) ?_
          intro v4 w4 hown4 hgrow4
          obtain ⟨g4, cap4, rfl⟩ := own_form hown4 (by omega)
          refine hK _ _ ?_
          clear hK K
          have HO4 := Lib.hid hown4
          have HG4 := Lib.hid hgrow4
          have h46 := HROW.out w3 w4 HBW.out hgrow4
          have ct6 := h46.cell 0
          have cz6 := h46.free 0
          clear hown4 hgrow4 h46 ct3 ct4
          refine wpAnyIn_ready (rs := [6]) (by kernel_rfl) (by simp) ?_
          refine AllReadyIn.cons rfl (fun K hK => ?_) AllReadyIn.nil
          go_simp
          refine hK _ _ ?_
          clear hK K ct6 cz6
          refine wpAnyIn_done (by kernel_rfl) ?_ _
          gi_wp2
          exact HEND.out w3 w4 _ _ HBW.out HO4.out HG4.out
        · gi_wp2_with (refine ⟨trivial, ?_⟩; gi_at_call 63; refine (CallsIn.inRound l2 (callsIn_wide.2 (HNX.out _ HWD.out))).mono ?_; rintro e w3 ⟨rfl, hb3⟩)
          have HBW : Hid (Below W.heap.size W w3) := ((Below.refl _ W).drew).trans hb3
          have ct3 : w3.cell? ⟨w1.heap.size + 1, 0, none⟩ = some (.slice a5 pre.length k5) := (HBW.out.cell (p := ⟨w1.heap.size + 1, 0, none⟩) hct).trans ct
          have ct4 : (w3.alloc (.cells #[.string nx] 9)).cell? ⟨w1.heap.size + 1, 0, none⟩ = some (.slice a5 pre.length k5) := (((Below.refl w3.heap.size w3).alloc (Nat.le_refl _) (.cells #[.string nx] 9)).cell (p := ⟨w1.heap.size + 1, 0, none⟩) (Nat.lt_of_lt_of_le hct HBW.out.size)).trans ct3
          clear hb3
          refine wpAnyIn_ready (rs := [0, 4]) (by kernel_rfl) (by simp) ?_
          refine AllReadyIn.cons rfl (fun K hK => ?_) (AllReadyIn.cons rfl (fun K hK => ?_) AllReadyIn.nil)
          · go_simp
            refine hK _ _ ?_
            clear hK K
            refine wpAnyIn_ready (rs := [4]) (by kernel_rfl) (by simp) ?_
            refine AllReadyIn.cons rfl (fun K hK => ?_) AllReadyIn.nil
            go_simp
            refine hK _ _ ?_
            clear hK K
            refine wpAnyIn_ready (rs := [5]) (by kernel_rfl) (by simp) ?_
            refine AllReadyIn.cons rfl (fun K hK => ?_) AllReadyIn.nil
            rw [if_pos (by rfl)]
            refine operIn_append_str _ _ rfl (w1.heap.size + 3) pre.length (.slice a5 pre.length k5) ((pre.map nm).map Value.string) rfl (HOW.out w3 HBW.out) ⟨w3.heap.size, 0, none⟩ (.string nx) rfl (cell_one_new _ _ _) (by simp [Value.oneCell']) (by have := HLEN.out.1; omega) (by have := HBW.out.size; simp; omega) ?_
            intro v4 w4 hown4 hgrow4
            obtain ⟨g4, cap4, rfl⟩ := own_form hown4 (by omega)
            refine hK _ _ ?_
            clear hK K
            have HO4 := Lib.hid hown4
            have HG4 := Lib.hid hgrow4
            have h46 := HROW.out w3 w4 HBW.out hgrow4
            have ct6 := h46.cell 0
            have cz6 := h46.free 0
            clear hown4 hgrow4 h46 ct3 ct4
            refine wpAnyIn_ready (rs := [6]) (by kernel_rfl) (by simp) ?_
            refine AllReadyIn.cons rfl (fun K hK => ?_) AllReadyIn.nil
            go_simp
            refine hK _ _ ?_
            clear hK K ct6 cz6
            refine wpAnyIn_done (by kernel_rfl) ?_ _
            gi_wp2
            exact HEND.out w3 w4 _ _ HBW.out HO4.out HG4.out
          · go_simp
            refine hK _ _ ?_
            clear hK K
            refine wpAnyIn_ready (rs := [0]) (by kernel_rfl) (by simp) ?_
            refine AllReadyIn.cons rfl (fun K hK => ?_) AllReadyIn.nil
            go_simp
            refine hK _ _ ?_
            clear hK K
            refine wpAnyIn_ready (rs := [5]) (by kernel_rfl) (by simp) ?_
            refine AllReadyIn.cons rfl (fun K hK => ?_) AllReadyIn.nil
            rw [if_pos (by rfl)]
            refine operIn_append_str _ _ rfl (w1.heap.size + 3) pre.length (.slice a5 pre.length k5) ((pre.map nm).map Value.string) rfl (HOW.out w3 HBW.out) ⟨w3.heap.size, 0, none⟩ (.string nx) rfl (cell_one_new _ _ _) (by simp [Value.oneCell']) (by have := HLEN.out.1; omega) (by have := HBW.out.size; simp; omega) ?_
            intro v4 w4 hown4 hgrow4
            obtain ⟨g4, cap4, rfl⟩ := own_form hown4 (by omega)
            refine hK _ _ ?_
            clear hK K
            have HO4 := Lib.hid hown4
            have HG4 := Lib.hid hgrow4
            have h46 := HROW.out w3 w4 HBW.out hgrow4
            have ct6 := h46.cell 0
            have cz6 := h46.free 0
            clear hown4 hgrow4 h46 ct3 ct4
            refine wpAnyIn_ready (rs := [6]) (by kernel_rfl) (by simp) ?_
            refine AllReadyIn.cons rfl (fun K hK => ?_) AllReadyIn.nil
            go_simp
            refine hK _ _ ?_
            clear hK K ct6 cz6
            refine wpAnyIn_done (by kernel_rfl) ?_ _
            gi_wp2
            exact HEND.out w3 w4 _ _ HBW.out HO4.out HG4.out
  case done =>
    rintro D xs W hD rfl hI hK
    obtain ⟨a5, k5, hrt, hown⟩ := hI.ex
    rw [List.length_map] at hrt
    have ct : W.cell? ⟨w1.heap.size + 1, 0, none⟩ = some (.slice a5 xs.length k5) := hrt.cell 0
    have HOF : Hid (OwnTexts (W.drew.putObj D (.deferred none)) w.heap.size (.slice a5 xs.length k5) (statesB l)) := by
      show OwnTexts _ _ _ _
      rw [← HMAP.out]
      have h1 := OwnTexts.grown (W := W.drew) hown (grownBy_putObj' W.drew D (.deferred none)) (fun r e => by cases e; exact ⟨_, hK, rfl⟩)
      rw [List.length_map] at h1
      exact World.ownsRow.mono h1 (by have := HB1.out.size; omega)
    have HBF : Hid (Below w.heap.size w W.drew) := (HB1.out.trans (hI.below.mono HB1.out.size)).drew
    have HK : Hid (W.drew.heap[D]? = some (.deferred (some []))) := hK
    have HV : Hid (decide (0 < xs.length) = validB l) := HLEN.out.2
    clear hI hown hrt hK
    have hmx : Try.prog.follows .mixedOrders = true := by kernel_rfl
    gi_wp2
    first | gi_region_with_o (fail) | fail
    all_goals gi_wp2
    all_goals
      refine ⟨by simp, .inl ⟨_, _, rfl, run_takeDeferred HK.out, ?_⟩⟩
      refine ⟨_, results_tmp2 (t := 2) (u := 3) rfl _ _ _, ⟨_, ?_, HOF.out, HBF.out.trans (belowK_b (w := w) (Nat.le_refl _) _ D _ _ (by have := HB1.out.size; omega) HK.out rfl rfl)⟩⟩
      rw [← HV.out]
      rfl
  case stop =>
    rintro D c' pre W _ _ h _
    exact h.elim

end Go.Proofs.Ytcpiojliakgdlaa
/- laws.soTexts on rows of the same texts, and the draw of FnChainsOf. -/
namespace Go.Proofs.Ytcpiojliakgdlaa
open Go.RowKit

set_option maxRecDepth 100000 in
set_option maxHeartbeats 1000000 in
theorem soTexts_any (A A' : Option Addr) (l : List ByteArray) (c c' : Nat) (w : World) (hw : St.Strs w w.heap.size A l) (hw' : St.Strs w w.heap.size A' l) (hl : l.length ≤ 1000) :
    Calls Try.prog 35 #[.slice A l.length c, .slice A' l.length c'] w fun e w' => e = .returned (.bool true) ∧ Below w.heap.size w w' := by
  have HW : Hid (St.Strs w w.heap.size A l) := hw
  have HW' : Hid (St.Strs w w.heap.size A' l) := hw'
  clear hw hw'
  go_enter Try.func35, Try.ntmps35
  go_wp2
  go_loopw [11] (fun i wr => ∃ (k : Nat), k ≤ l.length ∧ i = .int .i64 k ∧ Below w.heap.size w wr)
    (fun i _ => l.length - (intOf i).toNat)
  case atStart => exact ⟨0, Nat.zero_le _, rfl, Below.refl _ _⟩
  case round =>
    obtain ⟨k, hk, rfl, hb⟩ := hrel
    by_cases hlt : k < l.length
    · have hlt' : (k : Int) < (l.length : Int) := by omega
      have hk0 : (0 : Int) ≤ (k : Int) := Int.natCast_nonneg _
      obtain ⟨b, o, rfl, hB, hc⟩ := HW.out (by omega)
      obtain ⟨b', o', rfl, hB', hc'⟩ := HW'.out (by omega)
      have c0 := hc k l[k] (List.getElem?_eq_getElem hlt)
      have d0 := hc' k l[k] (List.getElem?_eq_getElem hlt)
      clear hc hc'
      rw [← hb.cell hB] at c0
      rw [← hb.cell hB'] at d0
      generalize l[k] = s at *
      have HB2 := Lib.hid hb.drew
      go_wp2
      go_quiet (fail)
      go_wp2
      go_roundw
      case rel => exact ⟨k + 1, by omega, by go_num, below_drewN hb _⟩
      case measure => simp [intOf]; omega
    · go_wp2
      go_ret
      exact ⟨rfl, hb⟩

end Go.Proofs.Ytcpiojliakgdlaa
