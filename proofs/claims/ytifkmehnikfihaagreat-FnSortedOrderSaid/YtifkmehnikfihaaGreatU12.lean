/- Joined: Db Dc Dd. -/
import Derived.Test.YtifkmehnikfihaaGreatU10
import Derived.Test.YtifkmehnikfihaaGreatU05
import Derived.Test.YtifkmehnikfihaaGreatU11
import Derived.WalkKit
import Derived.BigGuard
import Derived.BigCall
import Derived.CellFam
import Derived.Deep.Draws
import Derived.Deep.QuietTactic
import Derived.BigQuiet
import Derived.RegionTactic
import Derived.ChangeAlike
import Derived.BigRegion
import Derived.StillTailTactics
/- slices.SortStableFunc, its small parts: rows of numbers that are sorted, by a comparison that makes memory of its own. -/
namespace Go.Proofs.YtifkmehnikfihaaGreat
open Go.RowKit

/-- What lies in the row from off on. -/
def DataAt (w : World) (g off n : Nat) (d : Nat → Nat) : Prop := ∃ cs, Row w g 3 cs ∧ ∀ k, k < n → cs[off + k]? = some (.int .i64 (d k : Nat))
theorem DataAt.cell {w : World} {g off n : Nat} {d : Nat → Nat} (h : DataAt w g off n d) {k : Nat} (hk : k < n) : w.cell? ⟨g, off + k, none⟩ = some (.int .i64 (d k : Nat)) := by
  obtain ⟨cs, hr, hc⟩ := h
  rw [hr.cell]
  exact hc k hk
theorem DataAt.free {w : World} {g off n : Nat} {d : Nat → Nat} (h : DataAt w g off n d) (i : Nat) : w.frozen? ⟨g, i, none⟩ = false := by
  obtain ⟨cs, hr, _⟩ := h
  exact hr.free i
theorem DataAt.lt {w : World} {g off n : Nat} {d : Nat → Nat} (h : DataAt w g off n d) : g < w.heap.size := by
  obtain ⟨cs, hr, _⟩ := h
  exact hr.lt
theorem DataAt.only {w w' : World} {g off n : Nat} {d : Nat → Nat} (h : DataAt w g off n d) (hb : Below w.heap.size w w') : DataAt w' g off n d := by
  obtain ⟨cs, hr, hc⟩ := h
  exact ⟨cs, hr.below hb hr.lt, hc⟩
theorem DataAt.drewN {w : World} {g off n : Nat} {d : Nat → Nat} (h : DataAt w g off n d) (q : Nat) : DataAt (w.drewN q) g off n d := h
theorem DataAt.put {w : World} {g off n : Nat} {d : Nat → Nat} (h : DataAt w g off n d) {i : Nat} (hi : i < n) (x : Nat) : DataAt (w.setCell ⟨g, off + i, none⟩ (.int .i64 (x : Nat))) g off n (fun k => if k = i then x else d k) := by
  obtain ⟨cs, hr, hc⟩ := h
  refine ⟨_, hr.put (off + i) _, fun k hk => ?_⟩
  show _ = some (Value.int .i64 ((if k = i then x else d k : Nat) : Int))
  by_cases e : k = i
  · subst e
    rw [if_pos rfl, Array.getElem?_setIfInBounds_self_of_lt (by have := (Array.getElem?_eq_some_iff.1 (hc k hk)).1; omega)]
  · rw [if_neg e, Array.getElem?_setIfInBounds_ne (by omega)]
    exact hc k hk
theorem DataAt.same {w : World} {g off n : Nat} {d d' : Nat → Nat} (h : DataAt w g off n d) (e : ∀ k, k < n → d' k = d k) : DataAt w g off n d' := by
  obtain ⟨cs, hr, hc⟩ := h
  exact ⟨cs, hr, fun k hk => by rw [e k hk]; exact hc k hk⟩
/-- Two places that change: the one is written first, or the other one. -/
theorem DataAt.swap {w : World} {g off n : Nat} {d : Nat → Nat} (h : DataAt w g off n d) {i j : Nat} (hi : i < n) (hj : j < n) (hne : i ≠ j) :
    DataAt ((w.setCell ⟨g, off + i, none⟩ (.int .i64 (d j : Nat))).setCell ⟨g, off + j, none⟩ (.int .i64 (d i : Nat))) g off n (swap11 d i j) := by
  refine ((h.put hi (d j)).put hj (d i)).same fun k _ => ?_
  show swap11 d i j k = if k = j then d i else if k = i then d j else d k
  unfold swap11
  by_cases e : k = i
  · rw [if_pos e, if_neg (by omega), if_pos e]
  · rw [if_neg e, if_neg e]
theorem DataAt.swap' {w : World} {g off n : Nat} {d : Nat → Nat} (h : DataAt w g off n d) {i j : Nat} (hi : i < n) (hj : j < n) :
    DataAt ((w.setCell ⟨g, off + j, none⟩ (.int .i64 (d i : Nat))).setCell ⟨g, off + i, none⟩ (.int .i64 (d j : Nat))) g off n (swap11 d i j) := by
  refine ((h.put hj (d i)).put hi (d j)).same fun k _ => ?_
  show swap11 d i j k = if k = i then d j else if k = j then d i else d k
  rfl

/-- The row keeps its room. -/
def RoomKept (w w' : World) (g : Nat) : Prop := ∀ cs, Row w g 3 cs → ∃ cs', Row w' g 3 cs' ∧ cs'.size = cs.size
theorem RoomKept.refl (w : World) (g : Nat) : RoomKept w w g := fun cs h => ⟨cs, h, rfl⟩
theorem RoomKept.trans {w w' w'' : World} {g : Nat} (h : RoomKept w w' g) (k : RoomKept w' w'' g) : RoomKept w w'' g := fun cs hc => by
  obtain ⟨c1, h1, e1⟩ := h cs hc
  obtain ⟨c2, h2, e2⟩ := k c1 h1
  exact ⟨c2, h2, e2.trans e1⟩
theorem RoomKept.below {w w' : World} {g : Nat} (hb : Below w.heap.size w w') : RoomKept w w' g := fun cs hc => ⟨cs, hc.below hb hc.lt, rfl⟩
theorem RoomKept.put (w : World) (g i : Nat) (u : Value) : RoomKept w (w.setCell ⟨g, i, none⟩ u) g := fun cs hc => ⟨_, hc.put i u, by simp⟩
/-- The row holds d, and all else stands. -/
structure Rest11 (w w' : World) (g off n : Nat) (d : Nat → Nat) : Prop where
  data : DataAt w' g off n d
  only : Only w w' (· = g)
  room : RoomKept w w' g
theorem Rest11.refl {w : World} {g off n : Nat} {d : Nat → Nat} (h : DataAt w g off n d) : Rest11 w w g off n d := ⟨h, Only.refl _ _, RoomKept.refl _ _⟩
theorem Rest11.trans {w w' w'' : World} {g off n : Nat} {d d' : Nat → Nat} (h : Rest11 w w' g off n d) (k : Rest11 w' w'' g off n d') : Rest11 w w'' g off n d' := ⟨k.data, h.only.trans k.only, h.room.trans k.room⟩
theorem Rest11.below {w w' w'' : World} {g off n : Nat} {d : Nat → Nat} (h : Rest11 w w' g off n d) (hb : Below w'.heap.size w' w'') : Rest11 w w'' g off n d := ⟨h.data.only hb, h.only.andBelow hb, h.room.trans (RoomKept.below hb)⟩
theorem Rest11.drewN {w w' : World} {g off n : Nat} {d : Nat → Nat} (h : Rest11 w w' g off n d) (q : Nat) : Rest11 w (w'.drewN q) g off n d := ⟨h.data, h.only.drewN' q, h.room⟩
theorem Rest11.drew {w w' : World} {g off n : Nat} {d : Nat → Nat} (h : Rest11 w w' g off n d) : Rest11 w w'.drew g off n d := ⟨h.data, h.only.drew', h.room⟩
theorem Rest11.same {w w' : World} {g off n : Nat} {d d' : Nat → Nat} (h : Rest11 w w' g off n d) (e : ∀ k, k < n → d' k = d k) : Rest11 w w' g off n d' := ⟨h.data.same e, h.only, h.room⟩
theorem Rest11.swap {w w' : World} {g off n : Nat} {d : Nat → Nat} (h : Rest11 w w' g off n d) {i j : Nat} (hi : i < n) (hj : j < n) (hne : i ≠ j) :
    Rest11 w ((w'.setCell ⟨g, off + i, none⟩ (.int .i64 (d j : Nat))).setCell ⟨g, off + j, none⟩ (.int .i64 (d i : Nat))) g off n (swap11 d i j) := ⟨h.data.swap hi hj hne, (h.only.set _ _).set _ _, (h.room.trans (RoomKept.put _ _ _ _)).trans (RoomKept.put _ _ _ _)⟩
theorem Rest11.swap' {w w' : World} {g off n : Nat} {d : Nat → Nat} (h : Rest11 w w' g off n d) {i j : Nat} (hi : i < n) (hj : j < n) :
    Rest11 w ((w'.setCell ⟨g, off + j, none⟩ (.int .i64 (d i : Nat))).setCell ⟨g, off + i, none⟩ (.int .i64 (d j : Nat))) g off n (swap11 d i j) := ⟨h.data.swap' hi hj, (h.only.set _ _).set _ _, (h.room.trans (RoomKept.put _ _ _ _)).trans (RoomKept.put _ _ _ _)⟩

set_option maxRecDepth 100000 in
set_option maxHeartbeats 1000000 in
theorem swapRange_any (g off n cap a b m : Nat) (F : Value) (d : Nat → Nat) (w : World) (h : DataAt w g off n d) (hn : n ≤ 1000) (hab : a + m ≤ b) (hb : b + m ≤ n) :
    Calls Tryz.prog 263 #[.slice (some ⟨g, off, none⟩) n cap, .int .i64 a, .int .i64 b, .int .i64 m, F] w fun e w' => e = .returned (.tuple #[]) ∧ Rest11 w w' g off n (swaps11 d a b m) := by
  have H0 : Hid (Rest11 w w g off n (swaps11 d a b 0)) := by
    show Rest11 _ _ _ _ _ _
    rw [swaps11_zero]; exact Rest11.refl h
  clear h
  go_enter Tryz.func263, Tryz.ntmps263
  go_wp2
  go_loopw [10] (fun i wr => ∃ (k : Nat), k ≤ m ∧ i = .int .i64 k ∧ Hid (Rest11 w wr g off n (swaps11 d a b k)))
    (fun i _ => m - (intOf i).toNat)
  case atStart => exact ⟨0, Nat.zero_le _, rfl, H0⟩
  case round =>
    obtain ⟨k, hk, rfl, HR⟩ := hrel
    clear H0
    by_cases hlt : k < m
    · have hak : a + k < n := by omega
      have hbk : b + k < n := by omega
      have hcw := fun t (ht : t < n) => HR.out.data.cell ht
      have hfw := fun t => HR.out.data.free t
      have HS1 : Hid (Rest11 w (((wr.setCell ⟨g, off + (a + k), none⟩ (.int .i64 (swaps11 d a b k (b + k) : Nat))).setCell ⟨g, off + (b + k), none⟩ (.int .i64 (swaps11 d a b k (a + k) : Nat))).drew) g off n (swaps11 d a b (k + 1))) := by
        have := (HR.out.swap hak hbk (by omega)).drew
        rw [swaps11_next (by omega)] at this
        exact this
      have HS2 : Hid (Rest11 w (((wr.setCell ⟨g, off + (b + k), none⟩ (.int .i64 (swaps11 d a b k (a + k) : Nat))).setCell ⟨g, off + (a + k), none⟩ (.int .i64 (swaps11 d a b k (b + k) : Nat))).drew) g off n (swaps11 d a b (k + 1))) := by
        have := (HR.out.swap' hak hbk).drew
        rw [swaps11_next (by omega)] at this
        exact this
      have c1 := hcw (a + k) hak
      have c2 := hcw (b + k) hbk
      have f1 := hfw (off + (a + k))
      have f2 := hfw (off + (b + k))
      clear hcw hfw HR
      generalize swaps11 d a b k (a + k) = x at *
      generalize swaps11 d a b k (b + k) = y at *
      go_wp2
      go_region
      all_goals go_wp2
      all_goals go_roundw
      all_goals first
        | exact ⟨k + 1, by omega, by go_num, HS1⟩
        | exact ⟨k + 1, by omega, by go_num, HS2⟩
        | (simp [intOf]; omega)
    · have hk : k = m := by omega
      subst hk
      go_wp2
      go_end0
      exact ⟨rfl, HR.out⟩

end Go.Proofs.YtifkmehnikfihaaGreat
/- slices.rotateCmpFunc, slices.insertionSortCmpFunc. -/
namespace Go.Proofs.YtifkmehnikfihaaGreat
open Go.RowKit

set_option maxRecDepth 100000 in
set_option maxHeartbeats 1000000 in
theorem rotate_any (g off n cap a m b : Nat) (F : Value) (d : Nat → Nat) (w : World) (h : DataAt w g off n d) (hn : n ≤ 1000) (ham : a < m) (hmb : m < b) (hb : b ≤ n) :
    Calls Tryz.prog 248 #[.slice (some ⟨g, off, none⟩) n cap, .int .i64 a, .int .i64 m, .int .i64 b, F] w fun e w' => e = .returned (.tuple #[]) ∧ Rest11 w w' g off n (rot11 d a m b) := by
  have H0 := Lib.hid (Rest11.refl h)
  clear h
  go_enter Tryz.func248, Tryz.ntmps248
  go_wp2
  go_loopw [10, 11] (fun vi vj wr => ∃ (i j : Nat) (d' : Nat → Nat), vi = .int .i64 i ∧ vj = .int .i64 j ∧ 0 < i ∧ 0 < j ∧ i ≤ m ∧ m + j ≤ b ∧ Hid (Rest11 w wr g off n d') ∧ Hid (rot11 d' (m - i) m (m + j) = rot11 d a m b))
    (fun vi vj _ => (intOf vi).toNat + (intOf vj).toNat)
  case atStart => exact ⟨m - a, b - m, d, by go_num, by go_num, by omega, by omega, by omega, by omega, H0, by show _ = _; rw [show m - (m - a) = a by omega, show m + (b - m) = b by omega]⟩
  case round =>
    obtain ⟨i, j, d', rfl, rfl, hi, hj, him, hjb, HR, HE⟩ := hrel
    clear H0
    obtain ⟨p, hp⟩ : ∃ p, p + i = m := ⟨m - i, by omega⟩
    have hpi : m - i = p := by omega
    have e1 : (m : Int) - (i : Int) = (p : Int) := by omega
    rcases Nat.lt_trichotomy j i with hgt | heq | hlt
    · have HS := Lib.hid (swapRange_any g off n cap p m j F d' wr HR.out.data hn (by omega) (by omega))
      have HN : Hid (rot11 (swaps11 d' p m j) (m - (i - j)) m (m + j) = rot11 d a m b) := by
        show _ = _
        rw [← HE.out, hpi, show m - (i - j) = p + j by omega]
        exact rot11_big hp hgt
      have hne : ((i : Int) != (j : Int)) = true := by rw [bne_iff_ne]; omega
      clear hp hpi HE
      go_wp2_with fail
      refine Calls.mono HS.out ?_
      rintro e w2 ⟨rfl, hr2⟩
      have HR2 := Lib.hid (HR.out.trans hr2)
      clear hr2 HS HR hne
      go_wp2
      go_roundw
      case rel => exact ⟨i - j, j, _, by congr 1; omega, rfl, by omega, hj, by omega, hjb, HR2, HN⟩
      case measure => simp [intOf]; omega
    · subst heq
      have HS := Lib.hid (swapRange_any g off n cap p m j F d' wr HR.out.data hn (by omega) (by omega))
      have HN : Hid (swaps11 d' p m j = rot11 d a m b) := by
        show _ = _
        rw [← HE.out, hpi]
        exact rot11_same hp
      have hne : ((j : Int) != (j : Int)) = false := by simp
      clear hp hpi HE
      go_wp2_with fail
      refine Calls.mono HS.out ?_
      rw [HN.out]
      rintro e w2 ⟨rfl, hr2⟩
      have HR2 := Lib.hid (HR.out.trans hr2)
      clear hr2 HS HR hne
      go_wp2
      go_end0
      exact ⟨rfl, HR2.out⟩
    · obtain ⟨q, hq⟩ : ∃ q, q = m + j - i := ⟨_, rfl⟩
      have HS := Lib.hid (swapRange_any g off n cap p q i F d' wr HR.out.data hn (by omega) (by omega))
      have HN : Hid (rot11 (swaps11 d' p q i) (m - i) m (m + (j - i)) = rot11 d a m b) := by
        show _ = _
        rw [← HE.out, hpi, hq, show m + (j - i) = m + j - i by omega]
        exact rot11_small hp hlt
      have hne : ((i : Int) != (j : Int)) = true := by rw [bne_iff_ne]; omega
      have e2 : (m : Int) + (j : Int) - (i : Int) = (q : Int) := by omega
      clear hp hpi HE hq
      go_wp2_with fail
      refine Calls.mono HS.out ?_
      rintro e w2 ⟨rfl, hr2⟩
      have HR2 := Lib.hid (HR.out.trans hr2)
      clear hr2 HS HR hne
      go_wp2
      go_roundw
      case rel => exact ⟨i, j - i, _, rfl, by congr 1; omega, hi, by omega, him, by omega, HR2, HN⟩
      case measure => simp [intOf]; omega

/-- What the comparison says: less than nought if the one's key is less. -/
def CmpSays (g N : Nat) (key : Nat → Int) (K : Nat) (bx : Addr) (w : World) : Prop :=
  ∀ (x y : Nat) (W : World), x < N → y < N → Only w W (· = g) → Calls Tryz.prog K #[.int .i64 (x : Nat), .int .i64 (y : Nat), .pointer (some bx)] W fun e w' => (∃ r : Int, e = .returned (.int .i64 r) ∧ decide (r < 0) = decide (key x < key y)) ∧ Below W.heap.size W w'
theorem CmpSays.later {g N : Nat} {key : Nat → Int} {K : Nat} {bx : Addr} {w w' : World} (h : CmpSays g N key K bx w) (ho : Only w w' (· = g)) : CmpSays g N key K bx w' := fun x y W hx hy hW => h x y W hx hy (ho.trans hW)

set_option maxRecDepth 100000 in
set_option maxHeartbeats 2000000 in
theorem insertion_any (g off n cap a b N : Nat) (key : Nat → Int) (bx : Addr) (d : Nat → Nat) (w : World) (h : DataAt w g off n d) (hc : CmpSays g N key 116 bx w) (hd : ∀ k, k < n → d k < N) (hn : n ≤ 1000) (hab : a ≤ b) (hb : b ≤ n)
    (hinc : ∀ i j, a ≤ i → i < j → j < b → d i < d j) :
    Calls Tryz.prog 228 #[.slice (some ⟨g, off, none⟩) n cap, .int .i64 a, .int .i64 b, .func (.func 116) #[] #[.pointer (some bx)]] w fun e w' => e = .returned (.tuple #[]) ∧ ∃ d', Rest11 w w' g off n d' ∧ Sorted11 key d' a b ∧ Inside d d' a b := by
  have H0 := Lib.hid (Rest11.refl h)
  have HC := Lib.hid hc
  have HD := Lib.hid hd
  have HI := Lib.hid hinc
  have heg : ∀ args w, (callFunc 116 args).run Tryz.prog w = .ok (.enter 116 args) w := enters_of Tryz.func116 (by kernel_rfl) rfl
  clear h hc hd hinc
  go_enter Tryz.func228, Tryz.ntmps228
  go_wp2
  go_loopw [8] (fun vi wr => ∃ (i : Nat) (dk : Nat → Nat), vi = .int .i64 i ∧ a < i ∧ i ≤ b + 1 ∧ Hid (Rest11 w wr g off n dk) ∧ Hid (Sorted11 key dk a (min i b)) ∧ Hid (Inside d dk a (min i b)))
    (fun vi _ => b + 1 - (intOf vi).toNat)
  case atStart => exact ⟨a + 1, d, by go_num, by omega, by omega, H0, fun x y hx hxy hy => by omega, Inside.refl _ _ _⟩
  case round =>
    obtain ⟨i, dk, rfl, hai, hib, HR, HS, HN⟩ := hrel
    clear H0
    by_cases hlt : i < b
    · have hmin : min i b = i := by omega
      rw [hmin] at HS HN
      go_wp2
      go_loopw [9] (fun vj wr2 => ∃ (j : Nat), vj = .int .i64 j ∧ a ≤ j ∧ j ≤ i ∧ Hid (Rest11 w wr2 g off n (comes11 dk j i)) ∧ Hid (j = i ∨ key (dk i) < key (dk j)))
        (fun vj _ => (intOf vj).toNat)
      case atStart => exact ⟨i, rfl, by omega, Nat.le_refl _, by show Rest11 _ _ _ _ _ _; rw [comes11_zero]; exact HR.out, .inl rfl⟩
      case round =>
        obtain ⟨j, rfl, haj, hji, HR2, HJ⟩ := hrel
        clear HR
        -- what stands behind the inner loop
        have OUT : Hid (j = a ∨ ¬ key (dk i) < key (dk (j - 1)) → Hid (Sorted11 key (comes11 dk j i) a (min (i + 1) b)) ∧ Hid (Inside d (comes11 dk j i) a (min (i + 1) b))) := fun hs => by
          have hm : min (i + 1) b = i + 1 := by omega
          rw [hm]
          have hcr : Cross11 dk a i (i + 1) := fun x y x1 x2 y1 y2 => by
            obtain ⟨z, z1, z2, ez⟩ := HN.out.1 x x1 x2
            have hy : y = i := by omega
            rw [ez, hy, HN.out.2 i (by omega)]
            exact HI.out z i z1 z2 hlt
          exact ⟨comes_sorted HS.out hcr haj hji hs HJ.out, (HN.out.wide (Nat.le_refl _) (by omega)).trans (comes11_inside haj hji (by omega))⟩
        by_cases hja : a < j
        · obtain ⟨p, rfl⟩ : ∃ p, j = p + 1 := ⟨j - 1, by omega⟩
          have v1 : comes11 dk (p + 1) i (p + 1) = dk i := by unfold comes11; rw [if_pos rfl]
          have v2 : comes11 dk (p + 1) i p = dk p := by unfold comes11; rw [if_neg (by omega), if_neg (by omega)]
          have hp1 : p + 1 < n := by omega
          have hdi : dk i < N := by
            rw [HN.out.2 i (by omega)]; exact HD.out i (by omega)
          have hdp : dk p < N := by
            obtain ⟨z, z1, z2, ez⟩ := HN.out.1 p (by omega) (by omega)
            rw [ez]; exact HD.out z (by omega)
          have HCM := Lib.hid (HC.out (dk i) (dk p) wr.drew hdi hdp HR2.out.only.drew')
          have c1 := HR2.out.data.cell hp1
          have c2 := HR2.out.data.cell (show p < n by omega)
          rw [v1] at c1
          rw [v2] at c2
          have HSW : Hid (∀ W : World, Below wr.heap.size wr W → Rest11 w (((W.setCell ⟨g, off + (p + 1), none⟩ (.int .i64 (dk p : Nat))).setCell ⟨g, off + p, none⟩ (.int .i64 (dk i : Nat))).drew) g off n (comes11 dk p i)) := fun W hb => by
            have h1 := ((HR2.out.below hb).swap (i := p + 1) (j := p) hp1 (by omega) (by omega)).drew
            rw [v1, v2, comes11_next (by omega)] at h1
            exact h1
          have HSW' : Hid (∀ W : World, Below wr.heap.size wr W → Rest11 w (((W.setCell ⟨g, off + p, none⟩ (.int .i64 (dk i : Nat))).setCell ⟨g, off + (p + 1), none⟩ (.int .i64 (dk p : Nat))).drew) g off n (comes11 dk p i)) := fun W hb => by
            have h1 := ((HR2.out.below hb).swap' (i := p + 1) (j := p) hp1 (by omega)).drew
            rw [v1, v2, comes11_next (by omega)] at h1
            exact h1
          have HKP : Hid (key (dk i) < key (dk p) → Hid (p = i ∨ key (dk i) < key (dk p))) := fun h => .inr h
          have HGL := Lib.hid HR2.out.data.lt
          rw [show p + 1 - 1 = p by omega] at OUT
          clear hdi hdp HD
          generalize hx : dk i = x at *
          generalize hy : dk p = y at *
          have hdt : decide ((a : Int) < (p : Int) + 1) = true := decide_eq_true (by omega)
          have hle1 : (p : Int) + 1 < (n : Int) := by omega
          have hle2 : (p : Int) < (n : Int) := by omega
          have hge1 : (0 : Int) ≤ (p : Int) + 1 := by omega
          have hge2 : (0 : Int) ≤ (p : Int) := by omega
          have hwr : IntKind.i64.wrap (p : Int) = (p : Int) := IntWalk.i64_in _ (by omega)
          go_wp2_with fail
          go_still_tail 14, (by kernel_rfl)
          change wpList _ _ _ _ _ wr.drew
          have HLO := Lib.hid (fun (W : World) (h : Below wr.drew.heap.size wr.drew W) => (⟨h.os, h.tape, h.output, h.size, h.block⟩ : Below wr.heap.size wr W))
          go_wp2_with (go_at_fn 116; refine Calls.mono HCM.out ?_; rintro e w1 ⟨⟨r, rfl, hr⟩, hb1⟩; have HB1 := Lib.hid (HLO.out w1 hb1); clear hb1; have d1 := (HB1.out.cell (p := ⟨g, off + (p + 1), none⟩) HGL.out).trans c1; have d2 := (HB1.out.cell (p := ⟨g, off + p, none⟩) HGL.out).trans c2; have f1 := (HR2.out.below HB1.out).data.free (off + (p + 1)); have f2 := (HR2.out.below HB1.out).data.free (off + p); have HRW := Lib.hid (HR2.out.below HB1.out); have HS1 := Lib.hid (HSW.out w1 HB1.out); have HS2 := Lib.hid (HSW'.out w1 HB1.out); clear c1 c2 HSW HSW' HLO HCM HR2)
          · have hl : key x < key y := by assumption
            have HKQ := Lib.hid (HKP.out hl)
            clear HKP OUT hr
            go_region
            all_goals go_wp2
            all_goals go_roundw
            all_goals first
              | exact ⟨p, rfl, by omega, by omega, HS1, by rw [hy]; exact HKQ.out⟩
              | exact ⟨p, rfl, by omega, by omega, HS2, by rw [hy]; exact HKQ.out⟩
              | (show (p : Int).toNat < ((p : Int) + 1).toNat; omega)
          · have hl : key y ≤ key x := by assumption
            obtain ⟨hs1, hs2⟩ := OUT.out (.inr (by omega))
            exact ⟨⟨i + 1, _, by go_num, by omega, by omega, HRW, hs1, hs2⟩, by simp [intOf]; omega⟩
        · have hja' : j = a := by omega
          have hdf : decide ((a : Int) < (j : Int)) = false := decide_eq_false (by omega)
          obtain ⟨hs1, hs2⟩ := OUT.out (.inl hja')
          clear OUT HJ
          go_wp2_with fail
          go_quiet (fail)
          go_wp2
          go_roundw
          case rel => exact ⟨i + 1, _, by go_num, by omega, by omega, HR2.out.drewN _, hs1, hs2⟩
          case measure => simp [intOf]; omega
    · have hmin : min i b = b := by omega
      rw [hmin] at HS HN
      go_wp2
      go_end0
      exact ⟨rfl, _, HR.out, HS.out, HN.out⟩

end Go.Proofs.YtifkmehnikfihaaGreat
/- slices.symMergeCmpFunc where one of its two stretches is one place. -/
namespace Go.Proofs.YtifkmehnikfihaaGreat
open Go.RowKit

/-- What a merge leaves. -/
def Merged11 (w : World) (g off n : Nat) (key : Nat → Int) (d : Nat → Nat) (a b : Nat) (e : Ending) (w' : World) : Prop := e = .returned (.tuple #[]) ∧ ∃ d', Rest11 w w' g off n d' ∧ Sorted11 key d' a b ∧ Inside d d' a b

set_option maxRecDepth 100000 in
set_option maxHeartbeats 2000000 in
theorem symMerge_left (g off n cap a m b N : Nat) (key : Nat → Int) (bx : Addr) (d : Nat → Nat) (w : World) (h : DataAt w g off n d) (hc : CmpSays g N key 116 bx w) (hd : ∀ k, k < n → d k < N) (hn : n ≤ 1000) (hm : m = a + 1) (hmb : m < b) (hb : b ≤ n)
    (hs : Sorted11 key d m b) (hx : Cross11 d a m b) :
    Calls Tryz.prog 229 #[.slice (some ⟨g, off, none⟩) n cap, .int .i64 a, .int .i64 m, .int .i64 b, .func (.func 116) #[] #[.pointer (some bx)]] w (Merged11 w g off n key d a b) := by
  have H0 := Lib.hid (Rest11.refl h)
  have HC := Lib.hid hc
  have HD := Lib.hid hd
  have HS : Hid (∀ i, m ≤ i → i ≤ b → (i = m ∨ key (d (i - 1)) < key (d a)) → (i = b ∨ key (d a) ≤ key (d i)) → Sorted11 key (goes11 d a (i - 1)) a b ∧ Inside d (goes11 d a (i - 1)) a b) := fun i i1 i2 i3 i4 => by
    subst hm
    exact ⟨goes_sorted hs hx i1 i2 i3 (i4.imp id (fun h => by omega)), goes11_inside (by omega) (by omega)⟩
  have heg : ∀ args w, (callFunc 116 args).run Tryz.prog w = .ok (.enter 116 args) w := enters_of Tryz.func116 (by kernel_rfl) rfl
  have hma : a < m := by omega
  have e0 : (m : Int) - (a : Int) = 1 := by omega
  clear h hc hd hs hx hm
  unfold Merged11
  go_enter Tryz.func229, Tryz.ntmps229
  go_wp2
  go_loopw [10, 11] (fun vi vj wr => ∃ (i j : Nat), vi = .int .i64 i ∧ vj = .int .i64 j ∧ m ≤ i ∧ i ≤ j ∧ j ≤ b ∧ Hid (Rest11 w wr g off n d) ∧ Hid (i = m ∨ key (d (i - 1)) < key (d a)) ∧ Hid (j = b ∨ key (d a) ≤ key (d j)))
    (fun vi vj _ => (intOf vj).toNat - (intOf vi).toNat)
  case atStart => exact ⟨m, b, rfl, rfl, Nat.le_refl _, by omega, Nat.le_refl _, H0, .inl rfl, .inl rfl⟩
  case round =>
    obtain ⟨i, j, rfl, rfl, hmi, hij, hjb, HR, HI, HJ⟩ := hrel
    clear H0
    by_cases hlt : i < j
    · obtain ⟨hh, h1, h2, eh⟩ : ∃ hh : Nat, i ≤ hh ∧ hh < j ∧ ((i : Int) + (j : Int)) / 2 = (hh : Int) := ⟨(i + j) / 2, by omega, by omega, by omega⟩
      have hhn : hh < n := by omega
      have han : a < n := by omega
      have HCM := Lib.hid (HC.out (d hh) (d a) wr.drew (HD.out hh hhn) (HD.out a han) HR.out.only.drew')
      have c1 := HR.out.data.cell hhn
      have c2 := HR.out.data.cell han
      have HGL := Lib.hid HR.out.data.lt
      have HLO := Lib.hid (fun (W : World) (h : Below wr.drew.heap.size wr.drew W) => (HR.out.below (⟨h.os, h.tape, h.output, h.size, h.block⟩ : Below wr.heap.size wr W)))
      have HY : Hid (key (d hh) < key (d a) → Hid (hh + 1 = m ∨ key (d (hh + 1 - 1)) < key (d a))) := fun h => .inr (by rw [Nat.add_sub_cancel]; exact h)
      have HZ : Hid (key (d a) ≤ key (d hh) → Hid (hh = b ∨ key (d a) ≤ key (d hh))) := fun h => .inr h
      clear HR HD
      generalize hx : d hh = x at *
      generalize hy : d a = y at *
      go_wp2
      go_still_tail 9, (by kernel_rfl)
      change wpList _ _ _ _ _ wr.drew
      go_wp2_with (go_at_fn 116; refine Calls.mono HCM.out ?_; rintro e w1 ⟨⟨r, rfl, hr⟩, hb1⟩; have HRW := Lib.hid (HLO.out w1 hb1); clear hb1 HCM HLO c1 c2)
      · have hl : key x < key y := by assumption
        exact ⟨⟨hh + 1, j, by go_num, rfl, by omega, by omega, hjb, HRW, HY.out hl, HJ⟩, by simp [intOf]; omega⟩
      · have hl : key y ≤ key x := by assumption
        exact ⟨⟨i, hh, rfl, rfl, hmi, h1, by omega, HRW, HI, by rw [hx]; exact HZ.out hl⟩, by simp [intOf]; omega⟩
    · have hie : j = i := by omega
      subst hie
      have HE := Lib.hid (HS.out j hmi hjb HI.out HJ.out)
      have HG0 : Hid (Rest11 w wr g off n (goes11 d a a)) := by
        show Rest11 _ _ _ _ _ _
        rw [goes11_zero]; exact HR.out
      clear HS HI HJ HC HR HD
      go_wp2
      go_loopw [13] (fun vk wr2 => ∃ (k : Nat), vk = .int .i64 k ∧ a ≤ k ∧ k ≤ j - 1 ∧ Hid (Rest11 w wr2 g off n (goes11 d a k)))
        (fun vk _ => j - (intOf vk).toNat)
      case atStart => exact ⟨a, rfl, Nat.le_refl _, by omega, HG0⟩
      case round =>
        obtain ⟨k, rfl, hak, hkj, HR⟩ := hrel
        clear HG0
        by_cases hlt2 : k < j - 1
        · have hk1 : k + 1 < n := by omega
          have hk0 : k < n := by omega
          have c1 := HR.out.data.cell hk1
          have c2 := HR.out.data.cell hk0
          have f1 := HR.out.data.free (off + (k + 1))
          have f2 := HR.out.data.free (off + k)
          have HS1 : Hid (Rest11 w (((wr.setCell ⟨g, off + k, none⟩ (.int .i64 (goes11 d a k (k + 1) : Nat))).setCell ⟨g, off + (k + 1), none⟩ (.int .i64 (goes11 d a k k : Nat))).drew) g off n (goes11 d a (k + 1))) := by
            have := (HR.out.swap hk0 hk1 (by omega)).drew
            rw [goes11_next hak] at this
            exact this
          have HS2 : Hid (Rest11 w (((wr.setCell ⟨g, off + (k + 1), none⟩ (.int .i64 (goes11 d a k k : Nat))).setCell ⟨g, off + k, none⟩ (.int .i64 (goes11 d a k (k + 1) : Nat))).drew) g off n (goes11 d a (k + 1))) := by
            have := (HR.out.swap' hk0 hk1).drew
            rw [goes11_next hak] at this
            exact this
          have hli : (k : Int) < (j : Int) - 1 := by omega
          clear HR HE
          generalize goes11 d a k (k + 1) = x at *
          generalize goes11 d a k k = y at *
          go_wp2
          go_region
          all_goals go_wp2
          all_goals go_roundw
          all_goals first
            | exact ⟨k + 1, by go_num, by omega, by omega, HS1⟩
            | exact ⟨k + 1, by go_num, by omega, by omega, HS2⟩
            | (simp [intOf]; omega)
        · have hke : k = j - 1 := by omega
          have HR2 : Hid (Rest11 w wr g off n (goes11 d a (j - 1))) := by rw [← hke]; exact HR
          have hli : (j : Int) - 1 ≤ (k : Int) := by omega
          clear HR hke
          go_wp2
          refine bodyPost_ret (results_none (by rfl) _ _ _) rfl ?_
          exact ⟨rfl, _, HR2.out, HE.out.1, HE.out.2⟩

set_option maxRecDepth 100000 in
set_option maxHeartbeats 2000000 in
theorem symMerge_right (g off n cap a m b N : Nat) (key : Nat → Int) (bx : Addr) (d : Nat → Nat) (w : World) (h : DataAt w g off n d) (hc : CmpSays g N key 116 bx w) (hd : ∀ k, k < n → d k < N) (hn : n ≤ 1000) (ham : a + 1 < m) (hm : b = m + 1) (hb : b ≤ n)
    (hs : Sorted11 key d a m) (hx : Cross11 d a m b) :
    Calls Tryz.prog 229 #[.slice (some ⟨g, off, none⟩) n cap, .int .i64 a, .int .i64 m, .int .i64 b, .func (.func 116) #[] #[.pointer (some bx)]] w (Merged11 w g off n key d a b) := by
  have H0 := Lib.hid (Rest11.refl h)
  have HC := Lib.hid hc
  have HD := Lib.hid hd
  have HS : Hid (∀ i, a ≤ i → i ≤ m → (i = a ∨ key (d (i - 1)) ≤ key (d m)) → (i = m ∨ key (d m) < key (d i)) → Sorted11 key (comes11 d i m) a b ∧ Inside d (comes11 d i m) a b) := fun i i1 i2 i3 i4 => by
    subst hm
    exact ⟨comes_sorted hs hx i1 i2 (i3.imp id (fun h => by omega)) i4, comes11_inside i1 i2 (by omega)⟩
  have heg : ∀ args w, (callFunc 116 args).run Tryz.prog w = .ok (.enter 116 args) w := enters_of Tryz.func116 (by kernel_rfl) rfl
  have hmn : m < n := by omega
  have e0 : ¬ (m : Int) - (a : Int) = 1 := by omega
  have e0' : ((m : Int) - (a : Int) == 1) = false := by rw [beq_eq_false_iff_ne]; exact e0
  have e1 : (b : Int) - (m : Int) = 1 := by omega
  clear h hc hd hs hx hm
  unfold Merged11
  go_enter Tryz.func229, Tryz.ntmps229
  go_wp2
  go_loopw [14, 15] (fun vi vj wr => ∃ (i j : Nat), vi = .int .i64 i ∧ vj = .int .i64 j ∧ a ≤ i ∧ i ≤ j ∧ j ≤ m ∧ Hid (Rest11 w wr g off n d) ∧ Hid (i = a ∨ key (d (i - 1)) ≤ key (d m)) ∧ Hid (j = m ∨ key (d m) < key (d j)))
    (fun vi vj _ => (intOf vj).toNat - (intOf vi).toNat)
  case atStart => exact ⟨a, m, rfl, rfl, Nat.le_refl _, by omega, Nat.le_refl _, H0, .inl rfl, .inl rfl⟩
  case round =>
    obtain ⟨i, j, rfl, rfl, hmi, hij, hjb, HR, HI, HJ⟩ := hrel
    clear H0
    by_cases hlt : i < j
    · obtain ⟨hh, h1, h2, eh⟩ : ∃ hh : Nat, i ≤ hh ∧ hh < j ∧ ((i : Int) + (j : Int)) / 2 = (hh : Int) := ⟨(i + j) / 2, by omega, by omega, by omega⟩
      have hhn : hh < n := by omega
      have HCM := Lib.hid (HC.out (d m) (d hh) wr.drew (HD.out m hmn) (HD.out hh hhn) HR.out.only.drew')
      have c1 := HR.out.data.cell hhn
      have c2 := HR.out.data.cell hmn
      have HGL := Lib.hid HR.out.data.lt
      have HLO := Lib.hid (fun (W : World) (h : Below wr.drew.heap.size wr.drew W) => (HR.out.below (⟨h.os, h.tape, h.output, h.size, h.block⟩ : Below wr.heap.size wr W)))
      have HY : Hid (key (d hh) ≤ key (d m) → Hid (hh + 1 = a ∨ key (d (hh + 1 - 1)) ≤ key (d m))) := fun h => .inr (by rw [Nat.add_sub_cancel]; exact h)
      have HZ : Hid (key (d m) < key (d hh) → Hid (hh = m ∨ key (d m) < key (d hh))) := fun h => .inr h
      clear HR HD
      generalize hx : d hh = x at *
      generalize hy : d m = y at *
      go_wp2
      go_still_tail 9, (by kernel_rfl)
      change wpList _ _ _ _ _ wr.drew
      go_wp2_with (go_at_fn 116; refine Calls.mono HCM.out ?_; rintro e w1 ⟨⟨r, rfl, hr⟩, hb1⟩; have HRW := Lib.hid (HLO.out w1 hb1); clear hb1 HCM HLO c1 c2)
      all_goals first
        | (have hl0 : (!decide (key y < key x)) = false := by assumption
           have hl : key y < key x := by simpa using hl0
           exact ⟨⟨i, hh, rfl, rfl, hmi, h1, by omega, HRW, HI, by rw [hx]; exact HZ.out hl⟩, by simp [intOf]; omega⟩)
        | (have hl0 : (!decide (key y < key x)) = true := by assumption
           have hl : key x ≤ key y := by simpa using hl0
           exact ⟨⟨hh + 1, j, by go_num, rfl, by omega, by omega, hjb, HRW, HY.out hl, HJ⟩, by simp [intOf]; omega⟩)
    · have hie : j = i := by omega
      subst hie
      have HE := Lib.hid (HS.out j hmi hjb HI.out HJ.out)
      have HG0 : Hid (Rest11 w wr g off n (comes11 d m m)) := by
        show Rest11 _ _ _ _ _ _
        rw [comes11_zero]; exact HR.out
      clear HS HI HJ HC HR HD
      go_wp2
      go_loopw [17] (fun vk wr2 => ∃ (k : Nat), vk = .int .i64 k ∧ j ≤ k ∧ k ≤ m ∧ Hid (Rest11 w wr2 g off n (comes11 d k m)))
        (fun vk _ => (intOf vk).toNat)
      case atStart => exact ⟨m, rfl, hjb, Nat.le_refl _, HG0⟩
      case round =>
        obtain ⟨k, rfl, hjk, hkm, HR⟩ := hrel
        clear HG0
        by_cases hlt2 : j < k
        · obtain ⟨p, rfl⟩ : ∃ p, k = p + 1 := ⟨k - 1, by omega⟩
          have hk1 : p + 1 < n := by omega
          have hk0 : p < n := by omega
          have c1 := HR.out.data.cell hk1
          have c2 := HR.out.data.cell hk0
          have f1 := HR.out.data.free (off + (p + 1))
          have f2 := HR.out.data.free (off + p)
          have HS1 : Hid (Rest11 w (((wr.setCell ⟨g, off + (p + 1), none⟩ (.int .i64 (comes11 d (p + 1) m p : Nat))).setCell ⟨g, off + p, none⟩ (.int .i64 (comes11 d (p + 1) m (p + 1) : Nat))).drew) g off n (comes11 d p m)) := by
            have := (HR.out.swap hk1 hk0 (by omega)).drew
            rw [comes11_next (by omega)] at this
            exact this
          have HS2 : Hid (Rest11 w (((wr.setCell ⟨g, off + p, none⟩ (.int .i64 (comes11 d (p + 1) m (p + 1) : Nat))).setCell ⟨g, off + (p + 1), none⟩ (.int .i64 (comes11 d (p + 1) m p : Nat))).drew) g off n (comes11 d p m)) := by
            have := (HR.out.swap' hk1 hk0).drew
            rw [comes11_next (by omega)] at this
            exact this
          have hdt : decide ((j : Int) < (p : Int) + 1) = true := decide_eq_true (by omega)
          have hle1 : (p : Int) + 1 < (n : Int) := by omega
          have hle2 : (p : Int) < (n : Int) := by omega
          have hge1 : (0 : Int) ≤ (p : Int) + 1 := by omega
          have hge2 : (0 : Int) ≤ (p : Int) := by omega
          have hwr : IntKind.i64.wrap (p : Int) = (p : Int) := IntWalk.i64_in _ (by omega)
          clear HR HE
          generalize comes11 d (p + 1) m (p + 1) = x at *
          generalize comes11 d (p + 1) m p = y at *
          go_wp2
          go_region
          all_goals go_wp2
          all_goals go_roundw
          all_goals first
            | exact ⟨p, rfl, by omega, by omega, HS1⟩
            | exact ⟨p, rfl, by omega, by omega, HS2⟩
            | (show (p : Int).toNat < ((p : Int) + 1).toNat; omega)
        · have hke : k = j := by omega
          subst hke
          go_wp2
          refine bodyPost_ret (results_none (by rfl) _ _ _) rfl ?_
          exact ⟨rfl, _, HR.out, HE.out.1, HE.out.2⟩

end Go.Proofs.YtifkmehnikfihaaGreat
