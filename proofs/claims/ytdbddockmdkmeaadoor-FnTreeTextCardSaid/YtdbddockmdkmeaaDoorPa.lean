/- spec.l1Path and spec.l1Has. -/
import Derived.Test.YtdbddockmdkmeaaDoorPl
import Derived.Maps.AppendAt
namespace Go.Proofs.YtdbddockmdkmeaaDoor
open Go.RowKit

theorem chain_len (l : List Seg) : ∀ (f : Nat) (i : Int), (chain l f i).length ≤ f
  | 0, _ => by simp [chain]
  | f + 1, i => by
    unfold chain
    by_cases h : i < 0
    · simp [h]
    · rw [if_neg h, List.length_cons]
      have := chain_len l f (parAt l i.toNat)
      omega
def pathOf (l : List Seg) (i : Nat) : List Int := (chain l (i + 1) i).reverse
/-- A result that is a slice of integers of the call's own. -/
def IntsPost (w : World) (xs : List Int) (e : Ending) (w' : World) : Prop :=
  ∃ g cap, e = .returned (.slice (some ⟨g, 0, none⟩) xs.length cap) ∧ w'.ownsRow w.heap.size 3 1 (.slice (some ⟨g, 0, none⟩) xs.length cap) xs.length (xs.map (Value.int .i64)) ∧ Below w.heap.size w w'

theorem own_form {w : World} {base : Nat} {e : TypeId} {v : Value} {n : Nat} {xs : List Value} (h : w.ownsRow base e 1 v n xs) (hn : 0 < n) : ∃ g cap, v = .slice (some ⟨g, 0, none⟩) n cap := by
  rcases h.2 with ⟨_, rfl⟩ | ⟨g, cap, _, hv, _⟩
  · omega
  · exact ⟨g, cap, hv⟩

theorem own_next {w : World} {base base' : Nat} {e : TypeId} {g c : Nat} {n : Int} {xs : List Int} (h : w.ownsRow base' e 1 (.slice (some ⟨g, 0, none⟩) (1 + xs.length) c) (1 + xs.length) ([Value.int .i64 n] ++ xs.map (Value.int .i64))) (hb : base ≤ base') :
    w.ownsRow base e 1 (.slice (some ⟨g, 0, none⟩) (n :: xs).length c) (n :: xs).length ((n :: xs).map (Value.int .i64)) := by
  have hl : (n :: xs).length = 1 + xs.length := by rw [List.length_cons, Nat.add_comm]
  rw [hl]
  refine ⟨by simp [Nat.add_comm], .inr ?_⟩
  rcases h.2 with ⟨hv, _⟩ | ⟨g', cap, cur, hv, hg, r⟩
  · cases hv
  · exact ⟨g', cap, cur, hv, by omega, r⟩

theorem info_int : (Tryd.prog.info? 3).map (fun i => (i.zero, i.size, i.bytes)) = some (some (.int .i64 0), 1, 8) := by kernel_rfl

theorem chain_step {l : List Seg} {k : Nat} (h : Down l k) {f n : Nat} (hn : n < k) (hf : n < f) : chain l f (n : Int) = (n : Int) :: chain l f (parAt l n) := by
  have hd := h n hn
  rw [chain_fuel h f (f + 1) n (by omega) (by omega) (by omega)]
  simp only [chain, Int.toNat_natCast]
  rw [if_neg (by omega)]

set_option maxRecDepth 100000 in
set_option maxHeartbeats 400000 in
theorem l1Path_any (A : Option Addr) (l : List Seg) (c : Nat) (i : Nat) (w : World) (hw : Segs w w.heap.size A l) (hl : l.length ≤ 1048576) (hi : i < l.length) (hd : Down l (i + 1)) :
    Calls Tryd.prog 64 #[.slice A l.length c, .int .i64 i] w (IntsPost w (pathOf l i)) := by
  obtain ⟨b, o, rfl, hB, hc⟩ := hw (by omega)
  have HC := Lib.hid hc
  have HD := Lib.hid hd
  clear hc hw hd
  obtain ⟨i0, hi0, hz0, hz1, hz2⟩ := info_parts info_int
  have I0 := Lib.hid hi0
  have Z0 := Lib.hid hz0
  have Z1 := Lib.hid hz1
  have Z2 := Lib.hid hz2
  clear hi0 hz0 hz1 hz2
  go_enter Tryd.func64, Tryd.ntmps64
  go_wp2
  go_loopw [1, 5] (fun v r wr => ∃ (q : Int) (g cap : Nat) (xs : List Int), v = .int .i64 q ∧ r = .slice (some ⟨g, 0, none⟩) xs.length cap ∧ -1 ≤ q ∧ q ≤ i ∧ Hid (pathOf l i = (chain l (i + 1) q).reverse ++ xs) ∧
      wr.ownsRow w.heap.size 3 1 (.slice (some ⟨g, 0, none⟩) xs.length cap) xs.length (xs.map (Value.int .i64)) ∧ Below w.heap.size w wr)
    (fun v _ _ => (intOf v + 1).toNat)
  case atStart => exact ⟨i, w.heap.size, 0, [], rfl, rfl, by omega, by omega, (List.append_nil _).symm, World.ownsRow_lit w #[] 0 (Nat.le_refl _) (by simp [maxLen]) rfl, (Below.refl _ _).alloc (Nat.le_refl _) _⟩
  case round =>
    obtain ⟨q, g, cap, xs, rfl, rfl, hq, hqi, HX, hown, hb⟩ := hrel
    by_cases h0 : q < 0
    · have HE : Hid (pathOf l i = xs) := by
        show pathOf l i = xs
        rw [HX.out]
        simp [chain, h0]
      have HO := Lib.hid hown
      clear hown
      go_wp2
      go_ret
      refine ⟨g, cap, by rw [HE.out]; rfl, by rw [HE.out]; exact HO.out, hb⟩
    · obtain ⟨n, rfl⟩ := Int.eq_ofNat_of_zero_le (show 0 ≤ q by omega)
      have hx := Segs.get HC.out (k := n) (by omega)
      rw [← hb.cell hB] at hx
      have HQ := Lib.hid (HD.out n (by omega))
      have HG : Hid (pathOf l i = (chain l (i + 1) (parAt l n)).reverse ++ (n : Int) :: xs) := by
        show _ = _
        rw [HX.out, chain_step HD.out (by omega) (by omega)]
        simp
      have hlen : xs.length ≤ 1048576 := by
        have h1 := congrArg List.length HX.out
        have h2 := chain_len l (i + 1) i
        simp only [pathOf, List.length_append, List.length_reverse] at h1
        omega
      clear HX
      have HO := Lib.hid hown
      have HB := Lib.hid hb
      clear hown hb
      generalize parAt l n = pn at *
      go_wp2_with (at_builtin; refine wpList_append_own_at _ rfl _ _ 38 rfl wr.heap.size 3 i0 (.int .i64 0) 1 8 Tryd.underlying38 I0.out Z0.out Z1.out Z2.out rfl (by decide) _ 1 [.int .i64 n] rfl (World.ownsRow_lit wr #[.int .i64 n] 1 (Nat.le_refl _) (by simp [maxLen]) rfl) ⟨g, 0, none⟩ xs.length cap (xs.map (Value.int .i64)) rfl (by simp) ((HO.out.alloc _).cells rfl) (by simp [Value.oneCell']) (by simp [maxLen]; omega) (by omega) (by simp) ?_; intro v' w1 hown1 hgrow _ _; have hb1 : Below wr.heap.size wr w1 := ((Below.refl _ _).alloc (Nat.le_refl _) _).grown hgrow (by simp) (by intro k hk; injection hk with hk; exact Nat.le_of_eq hk); have hx1 := (hb1.cell (p := ⟨b, o + n * 3 + 2, none⟩) (Nat.lt_of_lt_of_le hB HB.out.size)).trans hx; have O1 := Lib.hid hown1; have B1 := Lib.hid hb1; clear hown1 hb1 hgrow)
      obtain ⟨g', cap', rfl⟩ := own_form O1.out (by omega)
      go_roundw
      case rel => exact ⟨pn, g', cap', (n : Int) :: xs, rfl, by rw [List.length_cons, Nat.add_comm], by have := HQ.out; omega, by have := HQ.out; omega, HG, own_next O1.out HB.out.size, HB.out.trans (B1.out.mono HB.out.size)⟩
      case measure => have := HQ.out; simp [intOf]; omega

def hasB (xs : List Int) (n : Int) : Bool := xs.any (fun x => x == n)
theorem hasB_reverse (xs : List Int) (n : Int) : hasB xs.reverse n = xs.contains n := by
  unfold hasB
  rw [List.any_reverse, Bool.eq_iff_iff, List.any_eq_true, List.contains_iff_mem]
  exact ⟨fun ⟨x, hx, he⟩ => (beq_iff_eq.1 he) ▸ hx, fun h => ⟨n, h, beq_self_eq_true n⟩⟩
theorem hasB_take {xs : List Int} {n : Int} {k : Nat} (hk : k < xs.length) : hasB (xs.take (k + 1)) n = (hasB (xs.take k) n || (xs[k] == n)) := by
  unfold hasB
  rw [List.take_succ_eq_append_getElem hk, List.any_append]
  simp only [List.any_cons, List.any_nil, Bool.or_false]

set_option maxHeartbeats 400000 in
theorem l1Has_any (g cap base : Nat) (xs : List Int) (n : Int) (w : World) (hw : w.ownsRow base 3 1 (.slice (some ⟨g, 0, none⟩) xs.length cap) xs.length (xs.map (Value.int .i64))) (hl : xs.length ≤ 2097152) :
    Calls Tryd.prog 63 #[.slice (some ⟨g, 0, none⟩) xs.length cap, .int .i64 n] w fun e w' => e = .returned (.bool (hasB xs n)) ∧ w = w' := by
  have HO := Lib.hid hw
  clear hw
  go_enter Tryd.func63, Tryd.ntmps63
  go_wp2
  go_loop [9] (fun i => ∃ (k : Nat), k ≤ xs.length ∧ i = .int .i64 k ∧ Hid (hasB (xs.take k) n = false))
    (fun i => xs.length - (intOf i).toNat)
  case atStart => exact ⟨0, Nat.zero_le _, rfl, rfl⟩
  case round =>
    obtain ⟨k, hk, rfl, HN⟩ := hrel
    by_cases hlt : k < xs.length
    · have hc : w.cell? ⟨g, k, none⟩ = some (.int .i64 xs[k]) := by
        rw [HO.out.cellAt k (by omega)]
        simp [hlt]
      have HM : Hid (xs[k] ∈ xs) := List.getElem_mem hlt
      have HT : Hid _ := hasB_take (n := n) hlt
      generalize xs[k] = x at *
      cases ht : (x == n) with
      | true =>
        have HE : Hid (hasB xs n = true) := by
          exact List.any_eq_true.2 ⟨x, HM.out, ht⟩
        go_wp2
        go_ret
        exact ⟨ret_bool HE.out.symm, rfl⟩
      | false =>
        have HE : Hid (hasB (xs.take (k + 1)) n = false) := by
          show _ = _
          rw [HT.out, HN.out, ht]; rfl
        go_wp2
        go_round
        case rel => exact ⟨k + 1, by omega, by go_num, HE⟩
        case measure => simp [intOf]; omega
    · go_wp2
      go_ret
      exact ⟨ret_bool (by rw [← HN.out, List.take_of_length_le (by omega)]), rfl⟩

end Go.Proofs.YtdbddockmdkmeaaDoor
