/- Joined: Gh Gj. -/
import Derived.Test.YtcpiojliakgdlaaU12
import Derived.Test.YtcpiojliakgdlaaU11
import Derived.Test.YtcpiojliakgdlaaU10
import Derived.Test.YtcpiojliakgdlaaU09
/- The names of what is loaded in a state. -/
namespace Go.Proofs.Ytcpiojliakgdlaa
open Go.RowKit Go.Shelf

theorem asc_ext : ∀ {a b : List Nat}, a.Pairwise (· < ·) → b.Pairwise (· < ·) → (∀ x, x ∈ a ↔ x ∈ b) → a = b
  | [], [], _, _, _ => rfl
  | [], y :: b, _, _, h => by
    have := (h y).2 List.mem_cons_self
    cases this
  | x :: a, [], _, _, h => by
    have := (h x).1 List.mem_cons_self
    cases this
  | x :: a, y :: b, ha, hb, h => by
    have ha' := List.pairwise_cons.1 ha
    have hb' := List.pairwise_cons.1 hb
    have hxy : x = y := by
      have h1 := (h x).1 List.mem_cons_self
      have h2 := (h y).2 List.mem_cons_self
      rcases List.mem_cons.1 h1 with e | e
      · exact e
      · rcases List.mem_cons.1 h2 with e2 | e2
        · exact e2.symm
        · have := hb'.1 x e
          have := ha'.1 y e2
          omega
    subst hxy
    rw [asc_ext ha'.2 hb'.2]
    intro z
    constructor
    · intro hz
      have := ha'.1 z hz
      rcases List.mem_cons.1 ((h z).1 (List.mem_cons_of_mem _ hz)) with e | e
      · omega
      · exact e
    · intro hz
      have := hb'.1 z hz
      rcases List.mem_cons.1 ((h z).2 (List.mem_cons_of_mem _ hz)) with e | e
      · omega
      · exact e
/-- The segments of which a truth is told, among the first 'k'. -/
def selIx (f : Nat → Bool) (k : Nat) : List Nat := (List.range k).filter f
theorem selIx_succ (f : Nat → Bool) (k : Nat) : selIx f (k + 1) = selIx f k ++ if f k = true then [k] else [] := by
  unfold selIx
  rw [List.range_succ, List.filter_append]
  by_cases h : f k = true <;> simp [h]
theorem selIx_len (f : Nat → Bool) (k : Nat) : (selIx f k).length ≤ k := by
  have := List.length_filter_le f (List.range k)
  simpa [selIx] using this
theorem sel_mem {T : List Nat} {n : Nat} (ha : T.Pairwise (· < ·)) (hl : ∀ j ∈ T, j < n) : selIx (fun j => decide (j ∈ T)) n = T := by
  apply asc_ext
  · exact List.Pairwise.filter _ List.pairwise_lt_range
  · exact ha
  · intro x
    unfold selIx
    rw [List.mem_filter, List.mem_range]
    constructor
    · intro h; simpa using h.2
    · intro h; exact ⟨hl x h, by simpa using h⟩

theorem kept_row {T : TypeId} {w w' : World} {b k : Nat} {cs : Array Value} (h : Lib.OthersKept 5 (some b) w w') (hr : Row w k T cs) (hk : k ≠ b) (hT : T ≠ 5) : Row w' k T cs :=
  h k _ hr (fun e => hk (by injection e)) (fun c fz e => by injection e with _ e2; exact hT e2)

set_option maxRecDepth 100000 in
set_option maxHeartbeats 1000000 in
theorem names_any (B g : Nat) (l : List Seg) (nb : Nat → Nat) (cv : Nat → Value) (f : Nat → Bool) (w : World) (h : Nodes w B g l.length l.length l nb cv) (hv : validB l = true) :
    Calls Try.prog 63 #[bitsV f, .slice (some ⟨g, 0, none⟩) l.length l.length] w fun e w' => e = .returned (.string (namesAt l (selIx f l.length))) ∧ Below w.heap.size w w' := by
  have HN := Lib.hid h
  have HV := Lib.hid hv
  have h8 := (valid_all hv).2.1
  clear h hv
  unfold bitsV bitCells
  go_enter Try.func63, Try.ntmps63
  go_wp2
  have hR0 : Row ((w.alloc (.cells (bitCells f) 64)).alloc (.cells #[.pointer none, .slice none 0 0] 90)) w.heap.size 64 (bitCells f) := (Row.new w _ _).alloc _
  have hI0 : Lib.IsBuilderF 90 5 (w.heap.size + 1) (w.heap.size + 1) (Lib.byteCells (namesAt l (selIx f 0)).data.toList) ((w.alloc (.cells (bitCells f) 64)).alloc (.cells #[.pointer none, .slice none 0 0] 90)) := by
    have := Lib.IsBuilderF.of (Lib.fresh_isBuilder 90 5 (w.alloc (.cells (bitCells f) 64)))
    rw [World.size_alloc] at this
    exact this
  have hB0 : Below w.heap.size w ((w.alloc (.cells (bitCells f) 64)).alloc (.cells #[.pointer none, .slice none 0 0] 90)) := ((Below.refl _ w).alloc (Nat.le_refl _) _).alloc (by simp) _
  go_loopw [10] (fun i wr => ∃ k : Nat, k ≤ l.length ∧ i = .int .i64 k ∧ Hid (Row wr w.heap.size 64 (bitCells f)) ∧ Hid (Lib.IsBuilderF 90 5 (w.heap.size + 1) (w.heap.size + 1) (Lib.byteCells (namesAt l (selIx f k)).data.toList) wr) ∧ Hid (Below w.heap.size w wr))
    (fun i _ => l.length - (intOf i).toNat)
  case atStart => exact ⟨0, Nat.zero_le _, rfl, hR0, hI0, hB0⟩
  case round =>
    clear hR0 hI0 hB0
    obtain ⟨k, hk, rfl, HR, HI, HB⟩ := hrel
    have hk0 : (0 : Int) ≤ (k : Int) := Int.natCast_nonneg _
    have hbz := HB.out.size
    have hlen : (Lib.byteCells (namesAt l (selIx f k)).data.toList).length = (namesAt l (selIx f k)).size := by simp [Lib.byteCells]
    have hbw : w.heap.size + 1 < wr.heap.size := by
      obtain ⟨cb, hcb⟩ := builder_cells HI.out
      exact (Array.getElem?_eq_some_iff.1 hcb).1
    by_cases hlt : k < l.length
    · have hlt' : (k : Int) < (l.length : Int) := by omega
      have hk8 : (k : Int) < 8 := by omega
      obtain ⟨cs, hrow, _, hci⟩ := HN.out.row
      have gk : wr.cell? ⟨g, k, none⟩ = some (.pointer (some ⟨nb k, 0, none⟩)) := by
        rw [HB.out.cell (p := ⟨g, k, none⟩) hrow.lt, hrow.cell]
        exact hci k hlt
      have hnk := HN.out.node k _ hlt (List.getElem?_eq_getElem hlt)
      have nk : wr.cell? ⟨nb k, 0, none⟩ = some (.string l[k].name) := (HB.out.cell (p := ⟨nb k, 0, none⟩) hnk.lt).trans (hnk.cell 0)
      have hc : wr.cell? ⟨w.heap.size, k, none⟩ = some (.bool (f k)) := by rw [HR.out.cell, bits_at _ (by omega)]
      clear hrow hci hnk
      have HS := Lib.hid (selIx_succ f k)
      cases hf : f k with
      | false =>
        rw [hf] at hc
        have HS1 : Hid (selIx f (k + 1) = selIx f k) := by
          show _ = _
          rw [HS.out, if_neg (by rw [hf]; decide), List.append_nil]
        have HI1 : Hid (Lib.IsBuilderF 90 5 (w.heap.size + 1) (w.heap.size + 1) (Lib.byteCells (namesAt l (selIx f (k + 1))).data.toList) wr) := by
          show Lib.IsBuilderF _ _ _ _ _ _
          rw [HS1.out]
          exact HI.out
        clear hf
        go_wp2
        go_roundw
        case rel => exact ⟨k + 1, by omega, by go_num, HR, HI1, HB⟩
        case measure => simp [intOf]; omega
      | true =>
        rw [hf] at hc
        have HS1 : Hid (Lib.byteCells (namesAt l (selIx f (k + 1))).data.toList = Lib.byteCells (namesAt l (selIx f k)).data.toList ++ Lib.strCells l[k].name) := by
          show _ = _
          rw [HS.out, if_pos hf, namesAt_snoc _ hlt, ByteArray.data_append, Array.toList_append]
          simp [Lib.byteCells, Lib.strCells]
        have hz1 := valid_names HV.out _ (List.getElem_mem hlt)
        have hz2 := namesAt_len (valid_names HV.out) (selIx f k)
        have hz3 := selIx_len f k
        have hl1 : (Lib.byteCells (namesAt l (selIx f k)).data.toList).length + l[k].name.size ≤ 140737488355328 := by omega
        clear hz2 hz3 hf
        generalize l[k].name = nm at *
        go_wp2_with fail
        refine (writeString_any (w.heap.size + 1) (w.heap.size + 1) _ nm _ HI.out hl1 (by omega)).mono ?_
        rintro e w2 ⟨rfl, hI1, hb1, hk1⟩
        have HI1 : Hid (Lib.IsBuilderF 90 5 (w.heap.size + 1) (w.heap.size + 1) (Lib.byteCells (namesAt l (selIx f (k + 1))).data.toList) w2) := by
          show Lib.IsBuilderF _ _ _ _ _ _
          rw [HS1.out]
          exact hI1
        have HR1 := Lib.hid (kept_row hk1 HR.out (by omega) (by decide))
        have HB1 := Lib.hid (HB.out.trans (hb1.mono (by omega)))
        clear hI1 hb1 hk1 gk nk hc
        go_wp2
        go_roundw
        case rel => exact ⟨k + 1, by omega, by go_num, HR1, HI1, HB1⟩
        case measure => simp [intOf]; omega
    · obtain rfl : k = l.length := by omega
      go_wp2_with fail
      refine (Try.Builder_String_any_k (w.heap.size + 1) (w.heap.size + 1) _ _ HI.out (by omega)).mono ?_
      rintro e w2 ⟨rfl, hI1, hb1, hk1⟩
      have HB1 := Lib.hid (HB.out.trans (hb1.mono (by omega)))
      clear hI1 hb1 hk1
      go_wp2
      go_ret
      exact ⟨rfl, HB1.out⟩

end Go.Proofs.Ytcpiojliakgdlaa

/- The state in which the path of a node is loaded. -/
namespace Go.Proofs.Ytcpiojliakgdlaa
open Go.RowKit Go.Shelf
attribute [local go_sem] Oper.semAt_some

theorem nodes_own {w : World} {B g : Nat} {l : List Seg} {nb : Nat → Nat} {cv : Nat → Value} (h : Nodes w B g l.length l.length l nb cv) (hl : l.length ≤ 1000) :
    w.ownsRow B 72 1 (.slice (some ⟨g, 0, none⟩) (List.range l.length).length l.length) (List.range l.length).length (ptrsOf nb (List.range l.length)) := by
  obtain ⟨cs, hrow, hcs, hci⟩ := h.row
  refine ⟨by simp [ptrsOf], .inr ⟨g, l.length, cs, rfl, h.low.1, hrow, by simp, by unfold maxLen; omega, by omega, ?_⟩⟩
  apply List.ext_getElem?
  intro k
  rw [List.getElem?_take]
  by_cases hk : k < l.length
  · rw [if_pos (by simpa using hk)]
    have h1 := hci k hk
    rw [← Array.getElem?_toList] at h1
    rw [h1]
    simp [ptrsOf, hk]
  · rw [if_neg (by simpa using hk)]
    simp [ptrsOf, hk]

/-- Where a node stands. -/
theorem indexAll_any (B g i : Nat) (l : List Seg) (nb : Nat → Nat) (cv : Nat → Value) (w : World) (h : Nodes w B g l.length l.length l nb cv) (hl : l.length ≤ 1000) (hi : i < l.length) :
    Calls Try.prog 150 #[.slice (some ⟨g, 0, none⟩) l.length l.length, .pointer (some ⟨nb i, 0, none⟩)] w fun e w' => e = .returned (.int .i64 i) ∧ w = w' := by
  have h1 := index_any g l.length B (List.range l.length) nb i w (nodes_own h hl) (by simpa using hl) (fun j hj => by
    have hjl : j < l.length := hj.elim (fun e => e ▸ hi) (fun h => List.mem_range.1 h)
    exact ⟨_, h.node j _ hjl (List.getElem?_eq_getElem hjl)⟩) (fun j hj he => Classical.byContradiction fun hne => h.apart i j hi (List.mem_range.1 hj) hne he)
  rw [List.length_range] at h1
  refine h1.mono ?_
  rintro e w' ⟨r, rfl, h2, h3, rfl⟩
  have h4 : 0 ≤ r := h2.2 (List.mem_range.2 hi)
  have h5 := h3 h4
  obtain ⟨q, rfl⟩ := Int.eq_ofNat_of_zero_le h4
  rw [Int.toNat_natCast] at h5
  have hq : q < l.length := by
    have := (List.getElem?_eq_some_iff.1 h5).1
    simpa using this
  rw [List.getElem?_range hq] at h5
  injection h5 with h5
  exact ⟨by rw [h5], rfl⟩

/-- What the loop keeps. -/
structure LitG (w : World) (g : Nat) (l : List Seg) (T : List Nat) (W : World) : Prop where
  state : Row W (w.heap.size + 1 + 1) 64 (bitCells fun j => decide (j ∈ T))
  res : Row W (w.heap.size + 1) 64 (bitCells fun _ => false)
  nodes : Row W w.heap.size 61 #[.slice (some ⟨g, 0, none⟩) l.length l.length]
  below : Below w.heap.size w W
theorem LitG.grown {w W W' : World} {g : Nat} {l : List Seg} {T : List Nat} {B : Nat} {row : Option Nat} (h : LitG w g l T W) (hg : W.grownBy W' row) (hB : w.heap.size ≤ B) (hr : ∀ r, row = some r → B ≤ r ∧ ∃ o : Obj, W.heap[r]? = some o ∧ o.isCells = false) : LitG w g l T W' :=
  ⟨row_grown h.state hg hr, row_grown h.res hg hr, row_grown h.nodes hg hr, h.below.grown hg h.below.size (fun k e => by have := (hr k e).1; omega)⟩
theorem LitG.step {w W : World} {g : Nat} {l : List Seg} {T : List Nat} (h : LitG w g l T W) {v : Nat} (hv : v < 8) : LitG w g l (T ++ [v]) (W.setCell ⟨w.heap.size + 1 + 1, v, none⟩ (.bool true)) := by
  refine ⟨?_, Row.far h.res (by show w.heap.size + 1 ≠ w.heap.size + 1 + 1; omega) _, Row.far h.nodes (by show w.heap.size ≠ w.heap.size + 1 + 1; omega) _, h.below.setCell (by show w.heap.size ≤ w.heap.size + 1 + 1; omega) _⟩
  have h1 := h.state.put v (.bool true)
  rw [bits_set _ hv] at h1
  rw [bits_congr (g := fun j => if j = v then true else decide (j ∈ T))]
  · exact h1
  · intro j _
    by_cases e : j = v
    · rw [if_pos e, e]
      simp
    · rw [if_neg e]
      simp [e]

set_option maxRecDepth 100000 in
set_option maxHeartbeats 4000000 in
theorem pathState_any (B g i : Nat) (l : List Seg) (nb : Nat → Nat) (cv : Nat → Value) (w : World) (h : Nodes w B g l.length l.length l nb cv) (hv : validB l = true) (hi : i < l.length) :
    Calls Try.prog 126 #[.slice (some ⟨g, 0, none⟩) l.length l.length, .pointer (some ⟨nb i, 0, none⟩)] w fun e w' => e = .returned (bitsV fun j => decide (j ∈ rp l i)) ∧ Below w.heap.size w w' := by
  have HN := Lib.hid h
  have HL : Hid _ := valid_all hv
  have HL8 : Hid (l.length ≤ 8) := HL.out.2.1
  have HR1 : Hid ((rootPath l (i + 1) i).length ≤ i + 1) := rootPath_len l (i + 1) i
  clear h
  refine (callsIn_wide (n := 22)).1 ?_
  refine callsIn_of_wp_marks Try.func126 rfl trivial ?_ rfl
  simp only [Try.ntmps126, List.size_toArray, List.length_cons, List.length_nil, Nat.reduceAdd, Nat.reduceSub, Array.replicate_succ, Array.replicate_zero, List.push_toArray, List.append_toArray, List.nil_append, List.cons_append]
  gi_wp2_with fail
  refine ⟨trivial, ?_⟩
  gi_at_call 70
  refine (callsIn_wide.2 (path_any _ _)).mono ?_
  rintro e w2 ⟨rfl, rfl⟩
  gi_wp2
  have hI0 : LitG w g l [] ((((w.alloc (.cells #[.slice (some ⟨g, 0, none⟩) l.length l.length] 61)).alloc (.cells (bitCells fun _ => false) 64)).alloc (.cells (bitCells fun _ => false) 64)).alloc (.cells #[.pointer (some ⟨nb i, 0, none⟩)] 72)) := by
    refine ⟨?_, ?_, (((Row.new w _ _).alloc _).alloc _).alloc _, ((((Below.refl _ w).alloc (Nat.le_refl _) _).alloc (by simp) _).alloc (by simp; omega) _).alloc (by simp; omega) _⟩
    · have := (Row.new ((w.alloc (.cells #[.slice (some ⟨g, 0, none⟩) l.length l.length] 61)).alloc (.cells (bitCells fun _ => false) 64)) 64 (bitCells fun _ => false)).alloc (.cells #[.pointer (some ⟨nb i, 0, none⟩)] 72)
      simpa using this
    · have := ((Row.new (w.alloc (.cells #[.slice (some ⟨g, 0, none⟩) l.length l.length] 61)) 64 (bitCells fun _ => false)).alloc (.cells (bitCells fun _ => false) 64)).alloc (.cells #[.pointer (some ⟨nb i, 0, none⟩)] 72)
      simpa using this
  have hP0 : Row ((((w.alloc (.cells #[.slice (some ⟨g, 0, none⟩) l.length l.length] 61)).alloc (.cells (bitCells fun _ => false) 64)).alloc (.cells (bitCells fun _ => false) 64)).alloc (.cells #[.pointer (some ⟨nb i, 0, none⟩)] 72)) (w.heap.size + 1 + 1 + 1) 72 #[.pointer (some ⟨nb i, 0, none⟩)] := by
    have := Row.new (((w.alloc (.cells #[.slice (some ⟨g, 0, none⟩) l.length l.length] 61)).alloc (.cells (bitCells fun _ => false) 64)).alloc (.cells (bitCells fun _ => false) 64)) 72 #[.pointer (some ⟨nb i, 0, none⟩)]
    simpa using this
  have hz0 : ((((w.alloc (.cells #[.slice (some ⟨g, 0, none⟩) l.length l.length] 61)).alloc (.cells (bitCells fun _ => false) 64)).alloc (.cells (bitCells fun _ => false) 64)).alloc (.cells #[.pointer (some ⟨nb i, 0, none⟩)] 72)).heap.size = w.heap.size + 4 := by simp
  unfold bitCells at hI0 hP0 hz0
  generalize (((w.alloc (.cells #[.slice (some ⟨g, 0, none⟩) l.length l.length] 61)).alloc (.cells #[.bool false, .bool false, .bool false, .bool false, .bool false, .bool false, .bool false, .bool false] 64)).alloc (.cells #[.bool false, .bool false, .bool false, .bool false, .bool false, .bool false, .bool false, .bool false] 64)).alloc (.cells #[.pointer (some ⟨nb i, 0, none⟩)] 72) = W0 at *
  have hlk0 : Linked W0 (w.heap.size + 1 + 1) l nb := fun q hq => by
    have h1 := HN.out.node q _ hq (List.getElem?_eq_getElem hq)
    exact ⟨by have := h1.lt; omega, (hI0.below.cell (p := ⟨nb q, 2, none⟩) h1.lt).trans (h1.cell 2)⟩
  have hseq := path1_seq l nb (w.heap.size + 1 + 1) (w.heap.size + 1 + 1 + 1) 1000 HL.out.1.down (i + 1) i (by omega) hi 21 (w.heap.size + 1 + 1 + 1) W0
    ⟨.inr (by omega), by decide, hP0⟩ hlk0 (by omega) (by have := HR1.out; have := HL8.out; omega) (by have := HL8.out; omega)
  clear hP0 hlk0
  refine wpIn_rangeFunc_R (by omega) (gf := 115) (lb := #[.pointer (some ⟨w.heap.size + 1 + 1 + 1, 0, none⟩)]) rfl (enters_of Try.func115 (by kernel_rfl) rfl) hseq (by omega) (by omega) (Below.refl _ _) (fun _ => rfl)
    (fun pre W => LitG w g l (pre.map (fun y : Ix l => y.1)) W)
    (fun _ _ _ => False)
    (fun _ _ _ _ h hg hr => h.grown hg (by omega) hr)
    (fun _ _ _ _ _ hs _ _ => hs)
    hI0
    (fun x => { tmps := #[.slice (some ⟨g, 0, none⟩) l.length l.length, .pointer (some ⟨nb i, 0, none⟩), .pointer (some ⟨w.heap.size, 0, none⟩), undef, .pointer (some ⟨w.heap.size + 1, 0, none⟩), .pointer (some ⟨w.heap.size + 1 + 1, 0, none⟩), .pointer (some ⟨nb x.1, 0, none⟩), .pointer (some ⟨nb i, 0, none⟩), .func (.func 115) #[] #[.pointer (some ⟨w.heap.size + 1 + 1 + 1, 0, none⟩)], .pointer (some ⟨nb x.1, 0, none⟩), undef, undef, undef, undef, undef], defers := [] }) ?assign ?body ?done ?stop
  case assign =>
    intro l2 x W K hK
    gi_wp2
    exact hK
  case body =>
    rintro l2 pre x W hI hlen hWz
    have c0 : W.cell? ⟨w.heap.size, 0, none⟩ = some (.slice (some ⟨g, 0, none⟩) l.length l.length) := hI.nodes.cell 0
    have hx0 : (0 : Int) ≤ (x.1 : Int) := Int.natCast_nonneg _
    have hx8 : (x.1 : Int) < 8 := by have := x.2; have := HL8.out; omega
    have hcx : W.cell? ⟨w.heap.size + 1 + 1, x.1, none⟩ = some (.bool (decide (x.1 ∈ pre.map (fun y : Ix l => y.1)))) := by
      rw [hI.state.cell, bits_at _ (by omega)]
    have hfx : W.frozen? ⟨w.heap.size + 1 + 1, x.1, none⟩ = false := hI.state.free _
    have HNW := Lib.hid (HN.out.below hI.below)
    have HI := Lib.hid hI
    clear hI
    gi_wp2_with fail
    refine ⟨trivial, ?_⟩
    gi_at_call 150
    refine (CallsIn.inRound l2 (callsIn_wide.2 (indexAll_any B g x.1 l nb cv W HNW.out (by have := HL8.out; omega) x.2))).mono ?_
    rintro e W1 ⟨rfl, rfl⟩
    gi_wp2
    refine ⟨keepsN_set _ ⟨w.heap.size + 1 + 1, x.1, none⟩ _ (by show w.heap.size + 1 + 1 < min _ _; omega), (Below.refl (w.heap.size + 1 + 1) W).setCell (p := ⟨w.heap.size + 1 + 1, x.1, none⟩) (Nat.le_refl _) _, ?_⟩
    show LitG w g l ((pre ++ [x]).map (fun y : Ix l => y.1)) _
    rw [List.map_append]
    exact HI.out.step (show x.1 < 8 by omega)
  case done =>
    rintro D xs W hD hS hI hK
    have hS' : xs.map (fun y : Ix l => y.1) = rp l i := hS
    rw [hS'] at hI
    obtain ⟨⟨c0, c1, c2, c3⟩, c4, c5, c6, c7⟩ := bits_cells hI.state
    obtain ⟨⟨d0, d1, d2, d3⟩, d4, d5, d6, d7⟩ := bits_cells hI.res
    have hfz := fun j => hI.res.free j
    have z0 := hfz 0
    have z1 := hfz 1
    have z2 := hfz 2
    have z3 := hfz 3
    have z4 := hfz 4
    have z5 := hfz 5
    have z6 := hfz 6
    have z7 := hfz 7
    have HI := Lib.hid hI
    have HRow : Hid (Row (putBits W (w.heap.size + 1) fun j => decide (j ∈ rp l i)) (w.heap.size + 1) 64 (bitCells fun j => decide (j ∈ rp l i))) := putBits_row HI.out.res
    have HBel : Hid (Below w.heap.size w (putBits W (w.heap.size + 1) fun j => decide (j ∈ rp l i))) := putBits_below HI.out.below (by omega)
    have HKK : Hid ((putBits W (w.heap.size + 1) fun j => decide (j ∈ rp l i)).heap[D]? = some (.deferred (some []))) := (putBits_block W _ _ (by omega)).trans hK
    clear hfz hI hS hS'
    gi_wp2
    refine ⟨by simp, .inl ⟨_, _, rfl, run_takeDeferred HKK.out, ?_⟩⟩
    refine ⟨_, results_cell_row (p := 4) (ty := 64) rfl _ ((putBits W (w.heap.size + 1) fun j => decide (j ∈ rp l i)).putObj D _) (w.heap.size + 1) 64 _ (0, 0) _ rfl (row_grown HRow.out (grownBy_putObj' _ D _) (B := 0) (fun r e => by cases e; exact ⟨Nat.zero_le _, _, HKK.out, rfl⟩)) Try.underlying64 rfl (by kernel_rfl), rfl, ?_⟩
    exact HBel.out.trans (belowK_b (w := w) (Nat.le_refl _) _ D _ _ (by omega) HKK.out rfl rfl)
  case stop =>
    rintro D c pre W _ _ h _
    exact h.elim

end Go.Proofs.Ytcpiojliakgdlaa
/- All states, yielded one by one. -/
namespace Go.Proofs.Ytcpiojliakgdlaa
open Go.RowKit Go.Shelf
attribute [local go_sem] Oper.semAt_some

/-- Nodes lie where all blocks below 'w' but one are kept. -/
theorem Nodes.kept {w w' : World} {B g m k bb : Nat} {l : List Seg} {nb : Nat → Nat} {cv : Nat → Value} (h : Nodes w B g m k l nb cv) (hk : Kept w.heap.size bb w w') (hbb : ∀ q, B ≤ q → q < w.heap.size → q ≠ bb) (hkm : k ≤ m) : Nodes w' B g m k l nb cv := by
  obtain ⟨cs, hg, hcs, hci⟩ := h.row
  refine ⟨⟨cs, hk.row hg hg.lt (hbb _ h.low.1 hg.lt) (by decide), hcs, hci⟩, fun i t hi ht => ?_, fun i t hi hi2 ht => ?_, fun i hi => ?_, h.apart, h.apartC, h.notg, h.low⟩
  · have h1 := h.node i t hi ht
    exact hk.row h1 h1.lt (hbb _ (h.low.2 i (by omega)) h1.lt) (by decide)
  · have h1 := h.fresh i t hi hi2 ht
    exact hk.row h1 h1.lt (hbb _ (h.low.2 i hi2) h1.lt) (by decide)
  · refine own_keep (h.kids i hi) fun b hb' => ?_
    have hlt := (h.kids i hi).lt b hb'
    rcases (h.kids i hi).2 with ⟨he, _⟩ | ⟨g', cap, cur, he, _, hh, _⟩
    · rw [he] at hb'
      cases hb'
    · rw [he] at hb'
      have : g' = b := by simpa [Value.ownBlock] using hb'
      subst this
      rw [hh]
      exact hk g' _ hlt.2 (hbb _ hlt.1 hlt.2) hh (fun c fz e => by injection e with _ e2; exact absurd e2 (by decide))

def stArgs (T : List Nat) : Array Value := #[bitsV fun j => decide (j ∈ T)]
theorem states_at {l : List Seg} {k : Nat} (h : k < l.length) : (statesIx l).take (k + 2) = (statesIx l).take (k + 1) ++ [rp l k] := by
  have h1 : k + 1 < (statesIx l).length := by simp [statesIx]; omega
  rw [List.take_succ_eq_append_getElem h1]
  congr 1
  simp [statesIx]
theorem states_len (l : List Seg) : (statesIx l).length = l.length + 1 := by simp [statesIx]

set_option maxRecDepth 100000 in
set_option maxHeartbeats 4000000 in
theorem states1_in (n : Nat) (hn : 1 ≤ n) (l' Bs bb B g : Nat) (l : List Seg) (nb : Nat → Nat) (cv : Nat → Value) (hv : validB l = true) (w0 : World) (hN : ∀ W', Kept w0.heap.size bb w0 W' → Nodes W' B g l.length l.length l nb cv) (hBs : Row w0 Bs 61 #[.slice (some ⟨g, 0, none⟩) l.length l.length]) (hBsb : Bs ≠ bb)
    (J Jx : List (List Nat) → World → Prop) (W : World) (hK0 : Kept w0.heap.size bb w0 W) (hJ : AbidesFrom W.heap.size J)
    (hY : ∀ pre x W1, J pre W1 → pre.length < l.length + 1 → YieldAt Fence.wide (n - 1) Try.prog l' (stArgs x) W1 fun e W' =>
      (e = .returned (.bool true) ∧ J (pre ++ [x]) W' ∧ Kept w0.heap.size bb W1 W') ∨ (e = .returned (.bool false) ∧ Jx (pre ++ [x]) W'))
    (h0 : J [] W) :
    CallsIn Fence.wide n Try.prog 125 #[.func (.yield l') #[] #[], .pointer (some ⟨Bs, 0, none⟩)] W fun e W' => (∃ v, e = .returned v) ∧
      ((∃ ys, ys = statesIx l ∧ J ys W') ∨ (∃ pre, pre <+: statesIx l ∧ Jx pre W')) := by
  have hl8 := (valid_all hv).2.1
  have hl1 := (valid_all hv).2.2
  refine callsIn_of_wp Try.func125 rfl trivial ?_ rfl
  simp only [Try.ntmps125, List.size_toArray, List.length_cons, List.length_nil, Nat.reduceAdd, Nat.reduceSub, Array.replicate_succ, Array.replicate_zero, List.push_toArray, List.append_toArray, List.nil_append, List.cons_append]
  have HN := Lib.hid hN
  have HBs := Lib.hid hBs
  have HV := Lib.hid hv
  have HJ : Hid (AbidesFrom W.heap.size J) := hJ
  have HK0 : Hid (Kept w0.heap.size bb w0 W) := hK0
  have HY : Hid (∀ pre x W1, J pre W1 → pre.length < l.length + 1 → YieldAt Fence.wide (n - 1) Try.prog l' (stArgs x) W1 fun e W' => ∃ b : Bool, e = .returned (.bool b) ∧ YP J Jx (Kept w0.heap.size bb) (pre ++ [x]) W1 b W') := fun pre x W1 h1 h2 => by
    obtain ⟨fn, tmps, assign, body, hy, hR⟩ := hY pre x W1 h1 h2
    refine ⟨fn, tmps, assign, body, hy, hR.mono ?_⟩
    rintro e W3 (⟨rfl, h3, h4⟩ | ⟨rfl, h3⟩)
    · exact ⟨true, rfl, h3, h4⟩
    · exact ⟨false, rfl, h3⟩
  have c0 : W.cell? ⟨Bs, 0, none⟩ = some (.slice (some ⟨g, 0, none⟩) l.length l.length) := (hK0.row hBs hBs.lt hBsb (by decide)).cell 0
  have hz : ((l.length : Int) == 0) = false := by rw [beq_eq_false_iff_ne]; omega
  obtain ⟨fn, tmps, assign, body, hy, hR⟩ := HY.out [] [] W h0 (by simp)
  have hy' : (Instr.yield l' #[.agg #[.bool false, .bool false, .bool false, .bool false, .bool false, .bool false, .bool false, .bool false]]).run Try.prog W = .ok (.round l' fn tmps assign body) W := hy
  have HR := Lib.hid hR
  clear hN hBs hv hJ hK0 hY hy hR
  gi_wp2
  refine HR.out.mono ?_
  rintro e W1 ⟨b, rfl, hyp⟩
  cases b with
  | false =>
    have HX := Lib.hid hyp.no
    clear hyp
    gi_wp2
    refine bodyPost_ret (results_none rfl _ _ _) rfl ?_
    refine ⟨⟨_, rfl⟩, .inr ⟨_, ?_, HX.out⟩⟩
    exact ⟨(List.range l.length).map (rp l), rfl⟩
  | true =>
    have HJ1 := Lib.hid hyp.yes.1
    have HK1 := Lib.hid (HK0.out.trans hyp.yes.2)
    have c1 : W1.cell? ⟨Bs, 0, none⟩ = some (.slice (some ⟨g, 0, none⟩) l.length l.length) := (HK1.out.row HBs.out HBs.out.lt hBsb (by decide)).cell 0
    clear hyp HR hy' c0
    gi_wp2
    gi_loopw [16] (fun i wr => ∃ k : Nat, k ≤ l.length ∧ i = .int .i64 k ∧ Hid (J ((statesIx l).take (k + 1)) wr) ∧ Hid (Kept w0.heap.size bb w0 wr))
      (fun i _ => l.length - (intOf i).toNat)
    case atStart => exact ⟨0, Nat.zero_le _, rfl, HJ1, HK1⟩
    case round =>
      obtain ⟨k, hk, rfl, HJk, HKk⟩ := hrel
      clear HJ1 HK1 c1
      have hk0 : (0 : Int) ≤ (k : Int) := Int.natCast_nonneg _
      by_cases hlt : k < l.length
      · have hlt' : (k : Int) < (l.length : Int) := by omega
        have HNk := Lib.hid (HN.out wr HKk.out)
        obtain ⟨cs, hrow, _, hci⟩ := HNk.out.row
        have gk : wr.cell? ⟨g, k, none⟩ = some (.pointer (some ⟨nb k, 0, none⟩)) := by rw [hrow.cell]; exact hci k hlt
        have cB : wr.cell? ⟨Bs, 0, none⟩ = some (.slice (some ⟨g, 0, none⟩) l.length l.length) := (HKk.out.row HBs.out HBs.out.lt hBsb (by decide)).cell 0
        clear hrow hci
        gi_wp2_with fail
        refine ⟨trivial, ?_⟩
        gi_at_call 126
        refine (callsIn_wide.2 (pathState_any B g k l nb cv _ HNk.out HV.out hlt)).mono ?_
        rintro e w2 ⟨rfl, hb2⟩
        have hJ2 : J ((statesIx l).take (k + 1)) w2 := HJ.out _ wr w2 none HJk.out (grownBy_of_below hb2) (fun r e => by cases e)
        obtain ⟨fn2, tmps2, assign2, body2, hy2, hR2⟩ := HY.out ((statesIx l).take (k + 1)) (rp l k) w2 hJ2 (by rw [List.length_take]; omega)
        unfold stArgs at hy2
        have HR2 := Lib.hid hR2
        have HK2 : Hid (Kept w0.heap.size bb w0 w2) := HKk.out.trans (Kept.of_below hb2)
        have HT := Lib.hid (states_at (l := l) hlt)
        clear hR2 hJ2 hb2
        gi_wp2
        refine HR2.out.mono ?_
        rintro e W3 ⟨b, rfl, hyp⟩
        cases b with
        | false =>
          have HX := Lib.hid hyp.no
          clear hyp
          gi_wp2
          refine bodyPost_ret (results_none rfl _ _ _) rfl ?_
          refine ⟨⟨_, rfl⟩, .inr ⟨_, ?_, HX.out⟩⟩
          rw [← HT.out]
          exact List.take_prefix _ _
        | true =>
          have HJ3 : Hid (J ((statesIx l).take (k + 1 + 1)) W3) := by
            show J _ _
            rw [HT.out]
            exact hyp.yes.1
          have HK3 := Lib.hid (HK2.out.trans hyp.yes.2)
          clear hyp hy2
          gi_wp2
          go_roundw
          case rel => exact ⟨k + 1, by omega, by simp, HJ3, HK3⟩
          case measure => simp [intOf]; omega
      · obtain rfl : k = l.length := by omega
        gi_wp2
        go_end0
        refine ⟨⟨_, rfl⟩, .inl ⟨_, rfl, ?_⟩⟩
        have h1 := HJk.out
        rw [List.take_of_length_le (by rw [states_len]; omega)] at h1
        exact h1

theorem states_stops (n : Nat) (hn : 1 ≤ n) (Bs bb B g : Nat) (l : List Seg) (nb : Nat → Nat) (cv : Nat → Value) (hv : validB l = true) (w : World) (hN : Nodes w B g l.length l.length l nb cv) (hbb : ∀ q, B ≤ q → q < w.heap.size → q ≠ bb) (hBs : Row w Bs 61 #[.slice (some ⟨g, 0, none⟩) l.length l.length]) (hBsb : Bs ≠ bb) :
    SeqStopsK Fence.wide n Try.prog 125 #[.pointer (some ⟨Bs, 0, none⟩)] stArgs (Kept w.heap.size bb) (fun ys => ys = statesIx l) (fun pre => pre <+: statesIx l) (statesIx l).length w := fun l' J Jx W hW hJ _ hY h0 =>
  states1_in n hn l' Bs bb B g l nb cv hv w (fun W' hk => hN.kept hk hbb (Nat.le_refl _)) hBs hBsb J Jx W (Kept.of_below hW) hJ (fun pre x W1 h1 h2 => hY pre x W1 h1 (by rw [states_len]; exact h2)) h0

theorem Kept.less {n₀ n₁ bb : Nat} {A B : World} (h : Kept n₀ bb A B) (hn : n₁ ≤ n₀) : Kept n₁ bb A B := fun k o h1 h2 h3 h4 => h k o (Nat.lt_of_lt_of_le h1 hn) h2 h3 h4
set_option maxRecDepth 100000 in
set_option maxHeartbeats 1000000 in
theorem states1_nil_in (n : Nat) (l' Bs : Nat) (J : List (List Nat) → World → Prop) (W : World) (hBs : W.cell? ⟨Bs, 0, none⟩ = some (.slice none 0 0)) (h0 : J [] W) :
    CallsIn Fence.wide n Try.prog 125 #[.func (.yield l') #[] #[], .pointer (some ⟨Bs, 0, none⟩)] W fun e W' => (∃ v, e = .returned v) ∧ J [] W' := by
  refine callsIn_of_wp Try.func125 rfl trivial ?_ rfl
  simp only [Try.ntmps125, List.size_toArray, List.length_cons, List.length_nil, Nat.reduceAdd, Nat.reduceSub, Array.replicate_succ, Array.replicate_zero, List.push_toArray, List.append_toArray, List.nil_append, List.cons_append]
  gi_wp2
  refine ⟨(fun f h => by cases h), ?_⟩
  gi_wp2
  refine bodyPost_ret (results_none rfl _ _ _) rfl ?_
  exact ⟨⟨_, rfl⟩, h0⟩
theorem states_stops_nil (n : Nat) (Bs bb : Nat) (w : World) (hBs : Row w Bs 61 #[.slice none 0 0]) :
    SeqStopsK Fence.wide n Try.prog 125 #[.pointer (some ⟨Bs, 0, none⟩)] stArgs (Kept w.heap.size bb) (fun ys => ys = []) (fun pre => pre <+: []) 0 w := fun l' J Jx W hW _ _ _ h0 => by
  refine (states1_nil_in n l' Bs J W ((hBs.below hW hBs.lt).cell 0) h0).mono ?_
  rintro e W' ⟨hv, h1⟩
  exact ⟨hv, .inl ⟨[], rfl, h1⟩⟩

set_option maxRecDepth 100000 in
set_option maxHeartbeats 400000 in
theorem statesOf_any (a : Option Addr) (len cap : Nat) (w : World) :
    Calls Try.prog 83 #[.slice a len cap] w fun e w' => e = .returned (.func (.func 125) #[] #[.pointer (some ⟨w.heap.size, 0, none⟩)]) ∧ w' = w.alloc (.cells #[.slice a len cap] 61) := by
  go_enter Try.func83, Try.ntmps83
  go_wp2
  go_ret
  exact ⟨rfl, rfl⟩

end Go.Proofs.Ytcpiojliakgdlaa
