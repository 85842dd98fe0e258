/- Joined: Ee. -/
import Derived.Test.YtcpiojliakgdlaaU20
import Derived.Test.YtcpiojliakgdlaaU06
import Derived.Test.YtcpiojliakgdlaaU17
/- The program: the room of a tree in which segments stay. -/
namespace Go.Proofs.Ytcpiojliakgdlaa
open Go.RowKit Go.Shelf
attribute [local go_sem] Oper.semAt_some

set_option maxRecDepth 100000 in
set_option maxHeartbeats 400000 in
theorem indices10_any (f : Nat → Bool) (w : World) :
    Calls Try.prog 132 #[.int .u64 (setF f : Int)] w fun e w' => e = .returned (.func (.func 151) #[] #[.pointer (some ⟨w.heap.size, 0, none⟩)]) ∧ w' = w.alloc (.cells #[.int .u64 (setF f : Int)] 113) := by
  go_enter Try.func132, Try.ntmps132
  go_wp2
  go_ret
  exact ⟨rfl, rfl⟩

/-- What place reads of nodes whose sizes may have turned. -/
def Placed10 (w : World) (l : List Seg) (sz : Nat → Int) (nb : Nat → Nat) : Prop := ∀ j, j < l.length → nb j < w.heap.size ∧ w.cell? ⟨nb j, 1, none⟩ = some (.int .i64 (sz j)) ∧ w.cell? ⟨nb j, 2, none⟩ = some (.pointer (parPtr l nb j))
theorem Placed10.below {w w' : World} {l : List Seg} {sz : Nat → Int} {nb : Nat → Nat} (h : Placed10 w l sz nb) (hb : Below w.heap.size w w') : Placed10 w' l sz nb := fun j hj => by
  obtain ⟨h1, h2, h3⟩ := h j hj
  exact ⟨Nat.lt_of_lt_of_le h1 hb.size, (hb.cell (p := ⟨nb j, 1, none⟩) h1).trans h2, (hb.cell (p := ⟨nb j, 2, none⟩) h1).trans h3⟩
/-- Sizes of 0 to 99. -/
def Small10 (l : List Seg) (sz : Nat → Int) : Prop := ∀ j, j < l.length → 0 ≤ sz j ∧ sz j ≤ 99

theorem run_end10 (a b : Int) (w : World) : (Instr.field 84 (.agg #[.int .i64 a, .int .i64 b]) 1).run Try.prog w = .ok (.int .i64 b) w := by kernel_rfl

set_option maxRecDepth 100000 in
set_option maxHeartbeats 400000 in
theorem place10_any (l : List Seg) (sz : Nat → Int) (nb : Nat → Nat) (hv : validB l = true) (hs : Small10 l sz) : ∀ i, i < l.length → ∀ w, Placed10 w l sz nb →
    Calls Try.prog 74 #[.pointer (some ⟨nb i, 0, none⟩)] w fun e w' => e = .returned (.agg #[.int .i64 (enZ10 l sz i - sz i), .int .i64 (enZ10 l sz i)]) ∧ Below w.heap.size w w' := by
  refine rp_ind (valid_all hv).1.down (fun i hi hp w hw => ?_) (fun i p hi hpi hp ih w hw => ?_)
  · obtain ⟨h1, c1, c2⟩ := hw i hi
    have hpp : parPtr l nb i = none := if_pos hp
    have HB : Hid (enZ10 l sz i - sz i = 0 ∧ enZ10 l sz i = sz i) := by
      have a := enZ10_root (sz := sz) hp
      exact ⟨by omega, a⟩
    obtain ⟨z1, z2⟩ := hs i hi
    rw [hpp] at c2
    clear hw hpp hp
    rw [HB.out.1, HB.out.2]
    generalize sz i = sx at *
    go_enter Try.func74, Try.ntmps74
    go_wp2
    refine bodyPost_ret (v := .agg #[.int .i64 0, .int .i64 sx]) (by simp [results, Try.results74, go_sem]) rfl ⟨rfl, ?_⟩
    repeat (first | exact Below.refl _ _ | refine Below.setCell ?_ (by simp) _ | refine Below.alloc ?_ (by simp; try omega) _)
  · obtain ⟨h1, c1, c2⟩ := hw i hi
    have hd := (valid_all hv).1.down i hi
    have hpp : parPtr l nb i = some ⟨nb p, 0, none⟩ := by
      unfold parPtr
      rw [if_neg (by omega), hp, Int.toNat_natCast]
    have HB : Hid (enZ10 l sz i - sz i = enZ10 l sz p ∧ enZ10 l sz i = enZ10 l sz p + sz i) := by
      have a := enZ10_step (sz := sz) (valid_all hv).1.down hi hp
      exact ⟨by omega, a⟩
    obtain ⟨z1, z2⟩ := hs i hi
    obtain ⟨e0, e3⟩ := enZ10_small hv hs (show p < l.length by omega)
    rw [hpp] at c2
    have HW := Lib.hid hw
    have HI := Lib.hid ih
    clear hw hpp hp ih hd hs
    rw [HB.out.1, HB.out.2]
    clear HB
    have hz0 : w.heap.size < w.heap.size + 1 := Nat.lt_succ_self _
    have hf1 := run_end10
    generalize enZ10 l sz p = ep at *
    generalize sz i = sx at *
    go_enter Try.func74, Try.ntmps74
    go_wp2_with fail
    refine (HI.out _ (HW.out.below ((Below.refl _ _).alloc (Nat.le_refl _) _))).mono ?_
    rintro e w1 ⟨rfl, hb1⟩
    have hb : Below w.heap.size w w1 := ((Below.refl _ w).alloc (Nat.le_refl _) _).trans (hb1.mono (by simp))
    rw [← hb.cell (p := ⟨nb i, 1, none⟩) h1] at c1
    rw [← hb.cell (p := ⟨nb i, 2, none⟩) h1] at c2
    have hr : Row w1 w.heap.size 84 #[.int .i64 0, .int .i64 0] := (Row.new w _ _).below hb1 (by simp)
    have r0 := hr.cell 0
    have r1 := hr.cell 1
    have f0 := hr.free 0
    have f1 := hr.free 1
    have hz := hr.lt
    have H := Lib.hid hb
    clear hb hb1 hr HW HI
    go_wp2
    refine bodyPost_ret (v := .agg #[.int .i64 ep, .int .i64 (ep + sx)]) (by simp [results, Try.results74, go_sem, r0, r1]) rfl ⟨rfl, ?_⟩
    repeat (first | exact H.out | refine Below.setCell ?_ (by simp) _ | refine Below.alloc ?_ (by simp; try omega) _)

set_option maxRecDepth 100000 in
set_option maxHeartbeats 400000 in
theorem endsBehind10_any (a b x y : Int) (w : World) :
    Calls Try.prog 128 #[.agg #[.int .i64 a, .int .i64 b], .agg #[.int .i64 x, .int .i64 y]] w fun e w' => e = .returned (.bool (decide (y < b))) ∧ Below w.heap.size w w' := by
  go_enter Try.func128, Try.ntmps128
  go_wp2
  go_ret
  refine ⟨ret_bool (by simp), ?_⟩
  repeat (first | exact Below.refl _ _ | refine Below.setCell ?_ (by simp) _ | refine Below.alloc ?_ (by simp; try omega) _)

/-- Of two the one that ends later, the first if neither does. -/
def laterZ10 (l : List Seg) (sz : Nat → Int) (i j : Nat) : Nat := if enZ10 l sz i < enZ10 l sz j then j else i

set_option maxRecDepth 100000 in
set_option maxHeartbeats 400000 in
theorem endingLast10_any (l : List Seg) (sz : Nat → Int) (nb : Nat → Nat) (hv : validB l = true) (hs : Small10 l sz) (i j : Nat) (hi : i < l.length) (hj : j < l.length) (w : World) (hw : Placed10 w l sz nb) :
    Calls Try.prog 90 #[.pointer (some ⟨nb i, 0, none⟩), .pointer (some ⟨nb j, 0, none⟩)] w fun e w' => e = .returned (.pointer (some ⟨nb (laterZ10 l sz i j), 0, none⟩)) ∧ Below w.heap.size w w' := by
  have HW := Lib.hid hw
  have HPI := Lib.hid (place10_any l sz nb hv hs i hi)
  have HPJ := Lib.hid (place10_any l sz nb hv hs j hj)
  have HP : Hid ((some ⟨nb (laterZ10 l sz i j), 0, none⟩ : Option Addr) = if decide (enZ10 l sz i < enZ10 l sz j) = true then some ⟨nb j, 0, none⟩ else some ⟨nb i, 0, none⟩) := by
    show _ = _
    unfold laterZ10
    by_cases h : enZ10 l sz i < enZ10 l sz j
    · rw [if_pos h, if_pos (decide_eq_true h)]
    · rw [if_neg h, if_neg (by rw [decide_eq_true_iff]; exact h)]
  have HEB := Lib.hid (fun W => endsBehind10_any (enZ10 l sz j - sz j) (enZ10 l sz j) (enZ10 l sz i - sz i) (enZ10 l sz i) W)
  generalize decide (enZ10 l sz i < enZ10 l sz j) = d at *
  generalize enZ10 l sz j - sz j = a1 at *
  generalize enZ10 l sz i - sz i = a2 at *
  generalize enZ10 l sz j = a3 at *
  generalize enZ10 l sz i = a4 at *
  clear hw hv hs
  cases d with
  | true =>
    go_enter Try.func90, Try.ntmps90
    go_wp2_with fail
    refine (HPJ.out _ HW.out).mono ?_
    rintro e w1 ⟨rfl, hb1⟩
    go_wp2_with fail
    refine (HPI.out _ (HW.out.below hb1)).mono ?_
    rintro e w2 ⟨rfl, hb2⟩
    have B2 := hb1.trans (hb2.mono hb1.size)
    clear hb1 hb2
    go_wp2_with fail
    refine (HEB.out _).mono ?_
    rintro e w3 ⟨rfl, hb3⟩
    have B3 := B2.trans (hb3.mono B2.size)
    clear B2 hb3
    go_wp2
    go_ret
    exact ⟨ret_ptr HP.out.symm, B3⟩
  | false =>
    go_enter Try.func90, Try.ntmps90
    go_wp2_with fail
    refine (HPJ.out _ HW.out).mono ?_
    rintro e w1 ⟨rfl, hb1⟩
    go_wp2_with fail
    refine (HPI.out _ (HW.out.below hb1)).mono ?_
    rintro e w2 ⟨rfl, hb2⟩
    have B2 := hb1.trans (hb2.mono hb1.size)
    clear hb1 hb2
    go_wp2_with fail
    refine (HEB.out _).mono ?_
    rintro e w3 ⟨rfl, hb3⟩
    have B3 := B2.trans (hb3.mono B2.size)
    clear B2 hb3
    go_wp2
    go_ret
    exact ⟨ret_ptr HP.out.symm, B3⟩

/-- A row of pointers to the nodes. -/
def Rowed10 (w : World) (n g : Nat) (nb : Nat → Nat) : Prop := g < w.heap.size ∧ ∀ i, i < n → w.cell? ⟨g, i, none⟩ = some (.pointer (some ⟨nb i, 0, none⟩))
theorem Rowed10.below {w w' : World} {n g : Nat} {nb : Nat → Nat} (h : Rowed10 w n g nb) (hb : Below w.heap.size w w') : Rowed10 w' n g nb := ⟨Nat.lt_of_lt_of_le h.1 hb.size, fun i hi => (hb.cell (p := ⟨g, i, none⟩) h.1).trans (h.2 i hi)⟩

set_option maxRecDepth 100000 in
set_option maxHeartbeats 400000 in
theorem fold10_any (g : Nat) (l : List Seg) (sz : Nat → Int) (nb : Nat → Nat) (w : World) (hN : Placed10 w l sz nb) (hR : Rowed10 w l.length g nb) (hv : validB l = true) (hs : Small10 l sz) :
    Calls Try.prog 89 #[.slice (some ⟨g, 0, none⟩) l.length l.length, .func (.func 90) #[] #[]] w fun e w' => e = .returned (.pointer (some ⟨nb (lastZ10 l sz (l.length - 1)), 0, none⟩)) ∧ Below w.heap.size w w' := by
  have HN := Lib.hid hN
  have HEL := Lib.hid (fun i j hi hj W h => endingLast10_any l sz nb hv hs i j hi hj W h)
  obtain ⟨-, hl8, hl1⟩ := valid_all hv
  have HC := Lib.hid hR.2
  have hg := hR.1
  have c0 := HC.out 0 (by omega)
  clear hN hv hs hR
  go_enter Try.func89, Try.ntmps89
  go_wp2
  · have H1 := Lib.hid h
    clear h
    go_loop [5, 14] (fun v i => v = .pointer (some ⟨nb 0, 0, none⟩) ∧ i = .int .i64 0) (fun _ _ => 0)
    case atStart => exact ⟨rfl, rfl⟩
    case round =>
      obtain ⟨rfl, rfl⟩ := hrel
      have HE : Hid (lastZ10 l sz (l.length - 1) = 0) := by
        show lastZ10 l sz (l.length - 1) = 0
        rw [H1.out]; rfl
      go_wp2
      go_ret
      exact ⟨ret_ptr (by rw [HE.out]), Below.refl _ _⟩
  · go_loopw [5, 14] (fun v i wr => ∃ (k : Nat), k + 1 ≤ l.length ∧ i = .int .i64 k ∧ v = .pointer (some ⟨nb (lastZ10 l sz k), 0, none⟩) ∧ Below w.heap.size w wr)
      (fun _ i _ => l.length - (intOf i).toNat)
    case atStart => exact ⟨0, by omega, rfl, rfl, Below.refl _ _⟩
    case round =>
      obtain ⟨k, hk, rfl, rfl, hb⟩ := hrel
      have hle := lastZ10_le l sz k
      by_cases hlt : k + 1 < l.length
      · have HR : Hid (nb (lastZ10 l sz (k + 1)) = nb (laterZ10 l sz (lastZ10 l sz k) (k + 1))) := rfl
        have ck : wr.cell? ⟨g, 1 + k, none⟩ = some (.pointer (some ⟨nb (k + 1), 0, none⟩)) := by
          rw [Nat.add_comm 1 k, hb.cell (p := ⟨g, k + 1, none⟩) hg]
          exact HC.out (k + 1) hlt
        clear c0
        have hlt2 : (k : Int) < ((l.length - 1 : Nat) : Int) := by omega
        have hlt3 : decide (k < l.length - 1) = true := decide_eq_true (by omega)
        have hlt4 : k < l.length - 1 := by omega
        go_wp2_with fail
        refine (HEL.out (lastZ10 l sz k) (k + 1) (by omega) hlt _ (HN.out.below hb)).mono ?_
        rintro e w1 ⟨rfl, hb1⟩
        have B1 := hb.trans (hb1.mono hb.size)
        clear hb hb1
        rw [← HR.out]
        go_wp2
        go_roundw
        case rel => exact ⟨k + 1, by omega, by go_num, rfl, B1⟩
        case measure => simp [intOf]; omega
      · obtain rfl : k = l.length - 1 := by omega
        go_wp2
        go_ret
        exact ⟨rfl, hb⟩

/-- The sizes of some nodes that are gone over, each counted once. -/
def keptR10 (l : List Seg) : List Nat → List Nat → Int
  | _, [] => 0
  | seen, x :: xs => szZ10 l (memF seen) x + keptR10 l (seen ++ [x]) xs
theorem keptR10_snoc (l : List Seg) : ∀ (xs seen : List Nat) (x : Nat), keptR10 l seen (xs ++ [x]) = keptR10 l seen xs + szZ10 l (memF (seen ++ xs)) x
  | [], seen, x => by simp [keptR10]
  | y :: xs, seen, x => by
    show szZ10 l (memF seen) y + keptR10 l (seen ++ [y]) (xs ++ [x]) = szZ10 l (memF seen) y + keptR10 l (seen ++ [y]) xs + szZ10 l (memF (seen ++ y :: xs)) x
    rw [keptR10_snoc l xs (seen ++ [y]) x, show seen ++ [y] ++ xs = seen ++ y :: xs by simp]
    omega
theorem keptR10_bd {l : List Seg} (hv : validB l = true) : ∀ (xs seen : List Nat), (∀ x ∈ xs, x < l.length) → 0 ≤ keptR10 l seen xs ∧ keptR10 l seen xs ≤ 99 * (xs.length : Int)
  | [], _, _ => by simp [keptR10]
  | x :: xs, seen, h => by
    have h1 := keptR10_bd hv xs (seen ++ [x]) (fun y hy => h y (List.mem_cons_of_mem _ hy))
    have h2 := szZ10_bd hv (memF seen) x (h x List.mem_cons_self)
    show 0 ≤ szZ10 l (memF seen) x + keptR10 l (seen ++ [x]) xs ∧ szZ10 l (memF seen) x + keptR10 l (seen ++ [x]) xs ≤ 99 * ((xs.length + 1 : Nat) : Int)
    omega
theorem keptR10_all (l : List Seg) : ∀ (xs seen : List Nat), xs.Pairwise (· < ·) → (∀ x ∈ xs, x ∉ seen) → keptR10 l seen xs = szs l xs
  | [], _, _, _ => rfl
  | x :: xs, seen, h, hn => by
    obtain ⟨h1, h2⟩ := List.pairwise_cons.1 h
    have h3 := keptR10_all l xs (seen ++ [x]) h2 (fun y hy hm => by
      rcases List.mem_append.1 hm with hm | hm
      · exact hn y (List.mem_cons_of_mem _ hy) hm
      · have := h1 y hy
        rw [List.mem_singleton.1 hm] at this
        exact Nat.lt_irrefl _ this)
    show szZ10 l (memF seen) x + keptR10 l (seen ++ [x]) xs = sizeAt l x + szs l xs
    rw [h3]
    unfold szZ10 memF
    rw [if_neg (by rw [decide_eq_true_iff]; exact hn x List.mem_cons_self)]

/-- An index of the tree as a round is handed it. -/
def fixR10 (l : List Seg) (x : Nat) : Nat := if x < l.length then x else 0
theorem fixR10_lt {l : List Seg} (h : 0 < l.length) (x : Nat) : fixR10 l x < l.length := by
  unfold fixR10
  split
  · next h => exact h
  · exact h

/-- The tree in memory while the sizes of what stays are taken away. -/
structure Zed10 (w w1 : World) (l : List Seg) (g : Nat) (nb : Nat → Nat) (cv : Nat → Value) (xs : List Nat) (X : World) : Prop where
  low : Below w.heap.size w X
  size : w1.heap.size + 3 ≤ X.heap.size
  row : ∃ cs, Row X g 72 cs ∧ ∀ i, i < l.length → cs[i]? = some (.pointer (some ⟨nb i, 0, none⟩))
  node : ∀ j s, l[j]? = some s → Row X (nb j) 108 (nodeCells s.name (szZ10 l (memF xs) j) (parPtr l nb j) (cv j))
  box : Row X w1.heap.size 61 #[.slice (some ⟨g, 0, none⟩) l.length l.length]
  sum : Row X (w1.heap.size + 1) 3 #[.int .i64 (keptR10 l [] xs)]
/-- Where the nodes lie. -/
structure At10 (w w1 : World) (l : List Seg) (g : Nat) (nb : Nat → Nat) : Prop where
  lo : w.heap.size ≤ g ∧ ∀ j, j < l.length → w.heap.size ≤ nb j
  hi : g < w1.heap.size ∧ ∀ j, j < l.length → nb j < w1.heap.size
  apart : ∀ i j, i < l.length → j < l.length → i ≠ j → nb i ≠ nb j
  far : ∀ j, j < l.length → nb j ≠ g
  le : w.heap.size ≤ w1.heap.size
theorem Nodes.at10 {w w1 : World} {l : List Seg} {g : Nat} {nb : Nat → Nat} {cv : Nat → Value} (h : Nodes w1 w.heap.size g l.length l.length l nb cv) (hb : w.heap.size ≤ w1.heap.size) : At10 w w1 l g nb := by
  obtain ⟨cs, hrow, -, -⟩ := h.row
  refine ⟨h.low, ⟨hrow.lt, fun j hj => (h.node j _ hj (List.getElem?_eq_getElem hj)).lt⟩, h.apart, fun j hj e => ?_, hb⟩
  have h1 := h.node j _ hj (List.getElem?_eq_getElem hj)
  rw [e] at h1
  have h2 : some (Obj.cells cs 72 (0, 0)) = some (Obj.cells (nodeCells l[j].name l[j].size (parPtr l nb j) (cv j)) 108 (0, 0)) := hrow.symm.trans h1
  injection h2 with h2
  injection h2 with _ h3
  exact absurd h3 (by decide)
theorem Zed10.placed {w w1 X : World} {l : List Seg} {g : Nat} {nb : Nat → Nat} {cv : Nat → Value} {xs : List Nat} (h : Zed10 w w1 l g nb cv xs X) : Placed10 X l (szZ10 l (memF xs)) nb := fun j hj => by
  have h1 := h.node j _ (List.getElem?_eq_getElem hj)
  exact ⟨h1.lt, h1.cell 1, h1.cell 2⟩
theorem Zed10.rowed {w w1 X : World} {l : List Seg} {g : Nat} {nb : Nat → Nat} {cv : Nat → Value} {xs : List Nat} (h : Zed10 w w1 l g nb cv xs X) : Rowed10 X l.length g nb := by
  obtain ⟨cs, h1, h2⟩ := h.row
  exact ⟨h1.lt, fun i hi => (h1.cell i).trans (h2 i hi)⟩
theorem Zed10.below {w w1 X Y : World} {l : List Seg} {g : Nat} {nb : Nat → Nat} {cv : Nat → Value} {xs : List Nat} (h : Zed10 w w1 l g nb cv xs X) (ha : At10 w w1 l g nb) {B : Nat} (hb : Below B X Y) (hB : w1.heap.size + 2 ≤ B) : Zed10 w w1 l g nb cv xs Y := by
  obtain ⟨cs, h1, h2⟩ := h.row
  have h3 := ha.hi
  have h4 := ha.le
  exact ⟨h.low.trans (hb.mono (by omega)), Nat.le_trans h.size hb.size, ⟨cs, h1.below hb (by omega), h2⟩, fun j s hj => (h.node j s hj).below hb (by have := h3.2 j (List.getElem?_eq_some_iff.1 hj).1; omega), h.box.below hb (by omega), h.sum.below hb (by omega)⟩
/-- One more that stays: its size is counted, then taken away. -/
theorem Zed10.step {w w1 X : World} {l : List Seg} {g : Nat} {nb : Nat → Nat} {cv : Nat → Value} {xs : List Nat} (h : Zed10 w w1 l g nb cv xs X) (ha : At10 w w1 l g nb) {i : Nat} (hi : i < l.length) :
    Zed10 w w1 l g nb cv (xs ++ [i]) ((X.setCell ⟨w1.heap.size + 1, 0, none⟩ (.int .i64 (keptR10 l [] xs + szZ10 l (memF xs) i))).setCell ⟨nb i, 1, none⟩ (.int .i64 0)) := by
  obtain ⟨cs, h1, h2⟩ := h.row
  have h3 := ha.hi.2 i hi
  have h4 := ha.lo.2 i hi
  have h5 := ha.far i hi
  have h6 := ha.le
  have h7 := ha.hi.1
  refine ⟨(h.low.setCell (by show w.heap.size ≤ w1.heap.size + 1; omega) _).setCell (by show w.heap.size ≤ nb i; omega) _, by simp [World.setCell]; exact h.size, ⟨cs, (h1.far (by show g ≠ w1.heap.size + 1; omega) _).far (by show g ≠ nb i; omega) _, h2⟩, fun j s hj => ?_, (h.box.far (by show w1.heap.size ≠ w1.heap.size + 1; omega) _).far (by show w1.heap.size ≠ nb i; omega) _, ?_⟩
  · have hjl := (List.getElem?_eq_some_iff.1 hj).1
    have h8 := (h.node j s hj).far (p := ⟨w1.heap.size + 1, 0, none⟩) (by have := ha.hi.2 j hjl; show nb j ≠ w1.heap.size + 1; omega) (.int .i64 (keptR10 l [] xs + szZ10 l (memF xs) i))
    by_cases e : j = i
    · subst e
      have h9 := h8.put 1 (.int .i64 0)
      have h10 : szZ10 l (memF (xs ++ [j])) j = 0 := by
        unfold szZ10 memF
        rw [if_pos (by simp)]
      rw [h10]
      exact h9
    · have h9 := h8.far (p := ⟨nb i, 1, none⟩) (ha.apart j i hjl hi e) (.int .i64 0)
      have h10 : szZ10 l (memF (xs ++ [i])) j = szZ10 l (memF xs) j := by
        have h11 : memF (xs ++ [i]) j = memF xs j := by
          unfold memF
          rw [decide_eq_decide, List.mem_append, List.mem_singleton]
          exact ⟨fun h => h.elim id (fun h => absurd h e), .inl⟩
        unfold szZ10
        rw [h11]
      rw [h10]
      exact h9
  · have h8 := h.sum.put 0 (.int .i64 (keptR10 l [] xs + szZ10 l (memF xs) i))
    rw [keptR10_snoc, List.nil_append]
    exact h8.far (by show w1.heap.size + 1 ≠ nb i; omega) _

end Go.Proofs.Ytcpiojliakgdlaa
