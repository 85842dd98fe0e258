/- Joined: Bm Bc Bn. -/
import Derived.Test.YtafpefjjeddmeaaU21
import Derived.Test.YtafpefjjeddmeaaU24
import Derived.Test.YtafpefjjeddmeaaU23
import Derived.Deep.RegionWith
import Derived.Test.YtafpefjjeddmeaaU12
import Derived.Test.YtafpefjjeddmeaaU07
/- A row of numbers that lies in an array of the call's own: what KindCounts hands back. -/
namespace Go.Proofs.Ytafpefjjeddmeaa.Sa3
open Go.RowKit
open Si (Ints Ints.below Ints.more imarked imarked_len imarked_at)

def OwnInts (w : World) (B : Nat) (v : Value) (ts : List Int) : Prop := w.ownsRow B 79 1 v ts.length (ts.map (Value.int .i64))
theorem OwnInts.far {w w' : World} {B : Nat} {v : Value} {ts : List Int} (h : OwnInts w B v ts) (hk : ∀ g, v.ownBlock = some g → w'.heap[g]? = w.heap[g]?) : OwnInts w' B v ts := by
  refine ⟨h.1, ?_⟩
  rcases h.2 with h0 | ⟨g', cap, cur, rfl, hg, hh, r⟩
  · exact .inl h0
  · exact .inr ⟨g', cap, cur, rfl, hg, (hk g' rfl).trans hh, r⟩
theorem OwnInts.below {w w' : World} {B : Nat} {v : Value} {ts : List Int} (h : OwnInts w B v ts) (hb : Below w.heap.size w w') : OwnInts w' B v ts := h.far fun g hg => hb.block g (World.ownsRow.lt h g hg).2
theorem intsCell {w : World} {B g cap : Nat} {ts : List Int} (h : OwnInts w B (.slice (some ⟨g, 0, none⟩) ts.length cap) ts) {i : Nat} {s : Int} (hi : ts[i]? = some s) : w.cell? ⟨g, i, none⟩ = some (.int .i64 s) := by
  have hlt := (List.getElem?_eq_some_iff.1 hi).1
  have := World.ownsRow.cellAt h i (by omega)
  rw [this, List.getElem?_map, hi]
  rfl
theorem intsForm {w : World} {B : Nat} {v : Value} {ts : List Int} (h : OwnInts w B v ts) : ∃ A cap, v = .slice A ts.length cap ∧ Ints w w.heap.size A ts := by
  have h' := h
  rcases h.2 with ⟨rfl, h0⟩ | ⟨g, cap, cur, rfl, hg, hh, r⟩
  · exact ⟨none, 0, by rw [h0], fun h => absurd h (by omega)⟩
  · refine ⟨_, cap, rfl, fun _ => ⟨g, 0, rfl, (Array.getElem?_eq_some_iff.1 hh).1, fun k s hk => ?_⟩⟩
    rw [Nat.zero_add]
    exact intsCell h' hk
theorem intsOf {w : World} {B n cap : Nat} {A : Option Addr} {ts : List Int} (h : OwnInts w B (.slice A n cap) ts) : Ints w w.heap.size A ts := by
  obtain ⟨A', cap', e, h'⟩ := intsForm h
  injection e with e1 e2 e3
  rw [e1]
  exact h'
theorem intsFree {w : World} {B g cap n : Nat} {ts : List Int} (h : OwnInts w B (.slice (some ⟨g, 0, none⟩) n cap) ts) (j : Nat) : w.frozen? ⟨g, j, none⟩ = false := by
  rcases h.2 with ⟨h0, _⟩ | ⟨g', cap', cur, hv, hg, hh, _⟩
  · cases h0
  · injection hv with hv1 _ hv3
    injection hv1 with hv1
    injection hv1 with hv1
    subst hv1
    exact Row.free (hh : Row w g _ cur) j
theorem intsStore {w : World} {B g cap : Nat} {ts : List Int} (h : OwnInts w B (.slice (some ⟨g, 0, none⟩) ts.length cap) ts) (i : Nat) (s : Int) :
    OwnInts (w.setCell ⟨g, i, none⟩ (.int .i64 s)) B (.slice (some ⟨g, 0, none⟩) ts.length cap) (ts.set i s) := by
  unfold OwnInts at h ⊢
  rw [List.length_set]
  refine ⟨by simp, ?_⟩
  rcases h.2 with ⟨h0, _⟩ | ⟨g', cap', cur, hv, hg, hh, h1, h2, h3, h4⟩
  · cases h0
  · injection hv with hv1 _ hv3
    injection hv1 with hv1
    injection hv1 with hv1
    subst hv1 hv3
    have hr : Row w g 79 cur := hh
    refine .inr ⟨g, cap, _, rfl, hg, hr.put i _, h1, h2, by simpa using h3, ?_⟩
    rw [List.map_set, ← h4]
    simp only [Array.toList_setIfInBounds, List.take_set]
theorem intsFar {w w' : World} {B : Nat} {v : Value} {ts : List Int} {may : Nat → Prop} (h : OwnInts w B v ts) (ho : Only w w' may) (hm : ∀ g, v.ownBlock = some g → ¬ may g) : OwnInts w' B v ts :=
  h.far fun g hg => ho.block g (World.ownsRow.lt h g hg).2 (hm g hg)
set_option maxRecDepth 100000 in
set_option maxHeartbeats 1000000 in
theorem markIntS_any (B k : Nat) (v : Value) (l : List Int) (w : World) (hown : OwnInts w B v l) (hk : k = 1) (hl : l.length ≤ 1000) :
    Calls Try.prog 34 #[v, .int .i64 k] w fun e w' => e = .returned (.int .i64 ((k + l.length : Nat) : Int)) ∧ OwnInts w' B v (imarked l k l.length) ∧ Only w w' (fun b => v.ownBlock = some b) := by
  have hk9 : k ≤ 10 := by omega
  clear hk
  obtain ⟨A, cap, rfl, -⟩ := intsForm hown
  have HO := Lib.hid hown
  clear hown
  go_enter Try.func34, Try.ntmps34
  go_wp2
  go_loopw [1, 5] (fun a c wr => ∃ (i : Nat), i ≤ l.length ∧ c = .int .i64 i ∧ a = .int .i64 ((k + i : Nat) : Int) ∧ Hid (OwnInts wr B (.slice A l.length cap) (imarked l k i)) ∧ Hid (Only w wr (fun b => (Value.slice A l.length cap).ownBlock = some b)))
    (fun _ c _ => l.length - (intOf c).toNat)
  case atStart => exact ⟨0, Nat.zero_le _, rfl, rfl, HO, St.onlyRefl _ _⟩
  case round =>
    obtain ⟨i, hi, rfl, rfl, HT, HY⟩ := hrel
    by_cases hlt : i < l.length
    · have hlt' : (i : Int) < (l.length : Int) := by omega
      have hi0 : (0 : Int) ≤ (i : Int) := Int.natCast_nonneg _
      have hml := imarked_len l k i
      have hT := HT.out
      rw [← hml] at hT
      obtain ⟨g, cap', hv⟩ := own_form hT (by omega)
      injection hv with hA _ hc
      subst hA hc
      have hold : (imarked l k i)[i]? = some ((imarked l k i)[i]'(by omega)) := List.getElem?_eq_getElem (by omega)
      have hst := fun W (hW : OwnInts W B (.slice (some ⟨g, 0, none⟩) (imarked l k i).length cap) (imarked l k i)) => intsStore hW i ((k + i : Nat) : Int)
      generalize (imarked l k i)[i]'_ = old at *
      have d0 := intsCell hT hold
      have z0 := intsFree hT i
      have hT2 := hst wr hT
      rw [hml] at hT2
      have HT2 : Hid (OwnInts (wr.setCell ⟨g, i, none⟩ (.int .i64 ((k + i : Nat) : Int))) B (.slice (some ⟨g, 0, none⟩) l.length cap) (imarked l k (i + 1))) := hT2
      clear hT hst hold hml hT2 HT
      go_wp2
      go_roundw
      case rel => exact ⟨i + 1, by omega, by go_num, congrArg (Value.int .i64) (by omega), HT2, St.onlyPut HY.out rfl _ _⟩
      case measure => simp [intOf]; omega
    · obtain rfl : i = l.length := by omega
      go_wp2
      go_ret
      exact ⟨rfl, HT.out, HY.out⟩

end Go.Proofs.Ytafpefjjeddmeaa.Sa3

namespace Go.Proofs.Ytafpefjjeddmeaa
open Go.RowKit

theorem jmark1 (B : Nat) (v : Value) (l : List Int) (w : World) (hown : Sa3.OwnInts w B v l) (hl : l.length ≤ 1000) :
    Calls Try.prog 34 #[v, .int .i64 1] w fun e w' => e = .returned (.int .i64 ((1 + l.length : Nat) : Int)) ∧ Sa3.OwnInts w' B v (Si.imarked l 1 l.length) ∧ Only w w' (fun b => v.ownBlock = some b) :=
  Sa3.markIntS_any B 1 v l w hown rfl hl

end Go.Proofs.Ytafpefjjeddmeaa
/- KindCounts on both sides. -/
namespace Go.Proofs.Ytafpefjjeddmeaa
open Go.RowKit

theorem OwnInts_three (W : World) {B : Nat} (hB : B ≤ W.heap.size) (l : List Seg) : Si.OwnInts (W.alloc (.cells #[.int .i64 0, .int .i64 0, .int .i64 0] 3)) B (.slice (some ⟨W.heap.size, 0, none⟩) 3 3) (kRow l []) := by
  have := World.ownsRow_lit (base := B) (e := 3) (size := 1) W #[.int .i64 0, .int .i64 0, .int .i64 0] 3 hB (by unfold maxLen; omega) rfl
  exact this

set_option maxRecDepth 100000 in
set_option maxHeartbeats 2000000 in
theorem specKindCounts_any (A : Option Addr) (l : List Seg) (c : Nat) (t : ByteArray) (w : World) (hw : Segs w w.heap.size A l) (hl : l.length ≤ 1048576) (hn : Short l) (ht : t.size ≤ 1048576) :
    Calls Try.prog 31 #[.slice A l.length c, .string t] w (CountsPost w l t) := by
  have HW : Hid (Segs w w.heap.size A l) := hw
  have HQ := Lib.hid (specChainsOf_any A l c t w hw hl hn ht)
  unfold CountsPost countsRes
  unfold ChainsResPost chainsRes at HQ
  cases hR : traceB l t.data.toList with
  | none =>
    rw [hR] at HQ
    have HE : Hid (∀ W : World, Below w.heap.size w W → ∃ v, Ending.returned (.tuple #[.slice (some ⟨W.heap.size, 0, none⟩) 0 0, .bool false]) = .returned (.tuple #[v, .bool (none : Option Forest).isSome]) ∧ Si.OwnInts (W.alloc (.cells #[] 3)) w.heap.size v [] ∧ Below w.heap.size w (W.alloc (.cells #[] 3))) :=
      fun W hb => ⟨_, rfl, Si.OwnInts.empty W hb.size, hb.alloc hb.size _⟩
    clear hw hn hR
    go_enter Try.func31, Try.ntmps31
    go_wp2_with fail
    refine Calls.mono HQ.out ?_
    rintro e w2 ⟨v, rfl, -, hb⟩
    go_wp2
    go_ret2
    exact HE.out _ hb
  | some f =>
    have HN : Hid ((chainsB [rootB l] f).length = f.size) := chainsB_len f [rootB l]
    have HA := Lib.hid (trace_two hR)
    have hsz := (traceB_size hR).1
    have HI := Lib.hid (fun s u W h => specKind_any A l c s u W h hl hn)
    rw [hR] at HQ
    have HQ : Hid (Calls Try.prog 12 #[.slice A l.length c, .string t] w fun e w' => ∃ v, e = .returned (.tuple #[v, .bool true]) ∧ OwnTexts w' w.heap.size v ((chainsB [rootB l] f).map strOf) ∧ Below w.heap.size w w') := HQ
    have HE : Hid (∀ (v : Value) (W : World), Si.OwnInts W w.heap.size v (kRow l (chainsB [rootB l] f)) → Below w.heap.size w W → ∃ u, Ending.returned (.tuple #[v, .bool true]) = .returned (.tuple #[u, .bool (some f).isSome]) ∧ Si.OwnInts W w.heap.size u (kRow l (chainsB [rootB l] f)) ∧ Below w.heap.size w W) :=
      fun v W h hb => ⟨v, rfl, h, hb⟩
    clear hw hn hR
    show Calls Try.prog 31 #[.slice A l.length c, .string t] w fun e w' => ∃ v, e = .returned (.tuple #[v, .bool true]) ∧ Si.OwnInts w' w.heap.size v (kRow l (chainsB [rootB l] f)) ∧ Below w.heap.size w w'
    generalize chainsB [rootB l] f = xs at *
    have HTS : Hid ((xs.map strOf).length = xs.length) := List.length_map _
    have HC : Hid (∀ k (hk : k < xs.length), (xs.map strOf)[k]? = some (strOf xs[k])) := fun k hk => by rw [List.getElem?_map, List.getElem?_eq_getElem hk]; rfl
    generalize xs.map strOf = ts at *
    have htl : ts.length ≤ 80 := by rw [HTS.out, HN.out]; exact hsz
    go_enter Try.func31, Try.ntmps31
    go_wp2_with fail
    refine Calls.mono HQ.out ?_
    rintro e w2 ⟨v, rfl, ho, hb⟩
    obtain ⟨A2, cap2, rfl, -⟩ := St.textsForm ho
    have HB := Lib.hid hb
    have HO := Lib.hid ho
    have HM0 := Lib.hid (OwnInts_three w2 hb.size l)
    have HB0 : Hid (Below w2.heap.size w2 (w2.alloc (.cells #[.int .i64 0, .int .i64 0, .int .i64 0] 3))) := (Below.refl _ w2).alloc (Nat.le_refl _) _
    clear ho hb
    go_wp2
    go_loopw [23] (fun i wr => ∃ k : Nat, k ≤ ts.length ∧ i = .int .i64 k ∧ Hid (Si.OwnInts wr w.heap.size (.slice (some ⟨w2.heap.size, 0, none⟩) 3 3) (kRow l (xs.take k))) ∧ Hid (Below w2.heap.size w2 wr) ∧ Hid (w2.heap.size < wr.heap.size))
      (fun i _ => ts.length - (intOf i).toNat)
    case atStart => exact ⟨0, Nat.zero_le _, rfl, HM0, HB0, by show _ < _; simp⟩
    case round =>
      obtain ⟨k, hk, rfl, HM, HBr, HZ⟩ := hrel
      clear HM0 HB0
      by_cases hlt : k < ts.length
      · have hkx : k < xs.length := by rw [← HTS.out]; exact hlt
        obtain ⟨⟨y, u, d, hyd, hcu, hcd⟩, hx9⟩ := HA.out xs[k] (List.getElem_mem hkx)
        obtain ⟨hkd, hj3⟩ := kNat_is y hcu hcd
        obtain ⟨b, o, hA2, hB2, hc⟩ := strsOf HO.out (by omega)
        subst hA2
        have c0 : wr.cell? ⟨b, o + k, none⟩ = some (.string (strOf xs[k])) := (HBr.out.cell (p := ⟨b, o + k, none⟩) hB2).trans (hc k _ (HC.out k hkx))
        have hsz1 : (strOf xs[k]).size = xs[k].length := by rw [str_size]
        have hlen2 : 2 ≤ xs[k].length := by rw [hyd]; simp
        have hex1 : (strOf xs[k]).extract ((strOf xs[k]).size - 2) ((strOf xs[k]).size - 1) = ⟨#[u]⟩ := by
          rw [hyd]
          exact str_pen y u d
        have hex2 : (strOf xs[k]).extract ((strOf xs[k]).size - 1) (strOf xs[k]).size = ⟨#[d]⟩ := by
          rw [hyd]
          exact str_end y u d
        have h3 : ((strOf xs[k]).size : Int) - 1 = (((strOf xs[k]).size - 1 : Nat) : Int) := by omega
        have h4 : ((strOf xs[k]).size : Int) - 2 = (((strOf xs[k]).size - 2 : Nat) : Int) := by omega
        have hzz : 2 ≤ (strOf xs[k]).size ∧ (strOf xs[k]).size ≤ 9 := by omega
        rw [← hyd] at hkd hj3
        have HSN : Hid (kRow l (xs.take (k + 1)) = (kRow l (xs.take k)).set (kNat l xs[k]) ((kCnt l (xs.take k) (kNat l xs[k]) : Int) + 1)) := by
          show _ = _
          rw [List.take_succ_eq_append_getElem hkx]
          exact kRow_snoc l _ _ rfl hj3
        have hcl := kCnt_le l (xs.take k) (kNat l xs[k])
        have hct : kCnt l (xs.take k) (kNat l xs[k]) ≤ 80 := by
          rw [List.length_take] at hcl
          omega
        have HCA : Hid ((kRow l (xs.take k))[kNat l xs[k]]? = some (kCnt l (xs.take k) (kNat l xs[k]) : Int)) := kRow_at l _ hj3
        have HLC := Lib.hid (kRow_len l (xs.take k))
        have hb_store : ∀ w3, Below wr.drew.heap.size wr.drew w3 → w3.cell? ⟨w2.heap.size, kNat l xs[k], none⟩ = some (.int .i64 (kCnt l (xs.take k) (kNat l xs[k]) : Int)) ∧ w3.frozen? ⟨w2.heap.size, kNat l xs[k], none⟩ = false ∧
            Si.OwnInts (w3.setCell ⟨w2.heap.size, kNat l xs[k], none⟩ (.int .i64 ((kCnt l (xs.take k) (kNat l xs[k]) : Int) + 1))) w.heap.size (.slice (some ⟨w2.heap.size, 0, none⟩) 3 3) (kRow l (xs.take (k + 1))) ∧
            Below w2.heap.size w2 (w3.setCell ⟨w2.heap.size, kNat l xs[k], none⟩ (.int .i64 ((kCnt l (xs.take k) (kNat l xs[k]) : Int) + 1))) ∧
            w2.heap.size < (w3.setCell ⟨w2.heap.size, kNat l xs[k], none⟩ (.int .i64 ((kCnt l (xs.take k) (kNat l xs[k]) : Int) + 1))).heap.size := fun w3 hb3 => by
          have hM3 : Si.OwnInts w3 w.heap.size (.slice (some ⟨w2.heap.size, 0, none⟩) (kRow l (xs.take k)).length 3) (kRow l (xs.take k)) := by
            rw [HLC.out]
            exact (HM.out.below (Below.refl _ wr).drew).below hb3
          have hM4 := Si.intsStore hM3 (kNat l xs[k]) ((kCnt l (xs.take k) (kNat l xs[k]) : Int) + 1)
          rw [HLC.out, ← HSN.out] at hM4
          refine ⟨Si.intsCell hM3 HCA.out, Si.intsFree hM3 _, hM4, (HBr.out.drew.trans (hb3.mono HBr.out.drew.size)).setCell (p := ⟨w2.heap.size, kNat l xs[k], none⟩) (Nat.le_refl _) _, ?_⟩
          have h1 := hb3.size
          have h2 := HZ.out
          have h3 := (Below.refl wr.heap.size wr).drew.size
          simp [World.setCell]
          omega
        have HZH := Lib.hid hb_store
        obtain ⟨p1, hp1⟩ : ∃ p1 : Nat, p1 = (strOf xs[k]).size - 1 := ⟨_, rfl⟩
        obtain ⟨p2, hp2⟩ : ∃ p2 : Nat, p2 = (strOf xs[k]).size - 2 := ⟨_, rfl⟩
        have HKC : Hid (Calls Try.prog 29 #[.slice A l.length c, .string ((strOf xs[k]).extract p2 p1), .string ((strOf xs[k]).extract p1 (strOf xs[k]).size)] wr.drew fun e w' => e = .returned (.int .i64 (kNat l xs[k] : Int)) ∧ Below wr.drew.heap.size wr.drew w') := by
          have h5 := HI.out ⟨#[u]⟩ ⟨#[d]⟩ wr.drew ((HW.out.below (HB.out.trans (HBr.out.drew.mono HB.out.size))).more (Nat.le_trans HB.out.size HBr.out.drew.size))
          show Calls _ _ _ _ _
          rw [hp1, hp2, hex1, hex2, ← hkd]
          exact h5
        have hw1 : IntKind.i64.wrap (((strOf xs[k]).size : Int) - 1) = (p1 : Int) := (IntWalk.i64_in _ (by omega)).trans (by omega)
        have hw2 : IntKind.i64.wrap (((strOf xs[k]).size : Int) - 2) = (p2 : Int) := (IntWalk.i64_in _ (by omega)).trans (by omega)
        have hq1 : (p2 : Int) ≤ (p1 : Int) := by omega
        have hq2 : (p1 : Int) ≤ ((strOf xs[k]).size : Int) := by omega
        have hw3 : IntKind.i64.wrap ((kCnt l (xs.take k) (kNat l xs[k]) : Int) + 1) = (kCnt l (xs.take k) (kNat l xs[k]) : Int) + 1 := IntWalk.i64_in _ (by omega)
        have hj0 : (0 : Int) ≤ (kNat l xs[k] : Int) := Int.natCast_nonneg _
        have hj1 : (kNat l xs[k] : Int) < 3 := by omega
        clear hc hsz1 hlen2 hex1 hex2 hcl hyd hcu hcd hkd hx9 h3 h4 hzz hp1 hp2 hb_store
        generalize strOf xs[k] = z at *
        generalize kNat l xs[k] = j at *
        generalize kCnt l (xs.take k) j = q at *
        generalize kRow l (xs.take k) = row at *
        go_wp2_with fail
        go_region_with (go_at_call 29; refine Calls.mono HKC.out ?_; rintro e w3 ⟨rfl, hb3⟩; obtain ⟨d0, z0, m4, b4, s4⟩ := HZH.out w3 hb3)
        have HM4 := Lib.hid m4
        have HB4 := Lib.hid b4
        have HZ4 := Lib.hid s4
        clear m4 b4 s4 d0 z0 hb3 HM HBr HZ HZH HKC
        go_wp2
        go_roundw
        case rel => exact ⟨k + 1, by omega, by go_num, HM4, HB4, HZ4⟩
        case measure => simp [intOf]; omega
      · have hkl : k = ts.length := by omega
        have HMF : Hid (Si.OwnInts wr w.heap.size (.slice (some ⟨w2.heap.size, 0, none⟩) 3 3) (kRow l xs)) := by
          have := HM.out
          rw [hkl, HTS.out, List.take_length] at this
          exact this
        have HFIN := Lib.hid (HE.out _ _ HMF.out (HB.out.trans (HBr.out.mono HB.out.size)))
        clear hkl
        go_wp2
        go_ret2
        exact HFIN.out

def CountsPostA (w : World) (l : List Seg) (t : ByteArray) (e : Ending) (w' : World) : Prop :=
  ∃ v, e = .returned (.tuple #[v, .bool (traceB l t.data.toList).isSome]) ∧ Sa3.OwnInts w' w.heap.size v (countsRes l t) ∧ Below w.heap.size w w'
theorem OwnInts_threeA (W : World) {B : Nat} (hB : B ≤ W.heap.size) (l : List Seg) : Sa3.OwnInts (W.alloc (.cells #[.int .i64 0, .int .i64 0, .int .i64 0] 79)) B (.slice (some ⟨W.heap.size, 0, none⟩) 3 3) (kRow l []) := by
  have := World.ownsRow_lit (base := B) (e := 79) (size := 1) W #[.int .i64 0, .int .i64 0, .int .i64 0] 3 hB (by unfold maxLen; omega) rfl
  exact this

set_option maxRecDepth 100000 in
set_option maxHeartbeats 2000000 in
theorem kindCounts_any (A : Option Addr) (l : List Seg) (c : Nat) (t : ByteArray) (w : World) (hw : Segs w w.heap.size A l) (hl : l.length ≤ 1048576) (hlc : l.length ≤ c) (hcm : c ≤ 9223372036854775807) (hn : Short l) (ht : t.size ≤ 1048576) :
    Calls Try.prog 32 #[.slice A l.length c, .string t] w (CountsPostA w l t) := by
  have HW : Hid (Segs w w.heap.size A l) := hw
  have HQ := Lib.hid (implChainsOf_any A l c t w hw hl hlc hcm hn ht)
  unfold CountsPostA countsRes
  unfold ChainsResPost chainsRes at HQ
  cases hR : traceB l t.data.toList with
  | none =>
    rw [hR] at HQ
    have HE : Hid (∀ W : World, Below w.heap.size w W → ∃ v, Ending.returned (.tuple #[.slice none 0 0, .bool false]) = .returned (.tuple #[v, .bool (none : Option Forest).isSome]) ∧ Sa3.OwnInts W w.heap.size v [] ∧ Below w.heap.size w W) :=
      fun W hb => ⟨_, rfl, World.ownsRow_nil W _ _ 1, hb⟩
    clear hw hn hR
    go_enter Try.func32, Try.ntmps32
    go_wp2_with fail
    refine Calls.mono HQ.out ?_
    rintro e w2 ⟨v, rfl, -, hb⟩
    go_wp2
    go_ret2
    exact HE.out _ hb
  | some f =>
    have HN : Hid ((chainsB [rootB l] f).length = f.size) := chainsB_len f [rootB l]
    have HA := Lib.hid (trace_two hR)
    have hsz := (traceB_size hR).1
    have HI := Lib.hid (fun s u W h => kindOf_any A l c s u W h hl hlc hcm hn)
    rw [hR] at HQ
    have HQ : Hid (Calls Try.prog 11 #[.slice A l.length c, .string t] w fun e w' => ∃ v, e = .returned (.tuple #[v, .bool true]) ∧ OwnTexts w' w.heap.size v ((chainsB [rootB l] f).map strOf) ∧ Below w.heap.size w w') := HQ
    have HE : Hid (∀ (v : Value) (W : World), Sa3.OwnInts W w.heap.size v (kRow l (chainsB [rootB l] f)) → Below w.heap.size w W → ∃ u, Ending.returned (.tuple #[v, .bool true]) = .returned (.tuple #[u, .bool (some f).isSome]) ∧ Sa3.OwnInts W w.heap.size u (kRow l (chainsB [rootB l] f)) ∧ Below w.heap.size w W) :=
      fun v W h hb => ⟨v, rfl, h, hb⟩
    clear hw hn hR
    show Calls Try.prog 32 #[.slice A l.length c, .string t] w fun e w' => ∃ v, e = .returned (.tuple #[v, .bool true]) ∧ Sa3.OwnInts w' w.heap.size v (kRow l (chainsB [rootB l] f)) ∧ Below w.heap.size w w'
    generalize chainsB [rootB l] f = xs at *
    have HTS : Hid ((xs.map strOf).length = xs.length) := List.length_map _
    have HC : Hid (∀ k (hk : k < xs.length), (xs.map strOf)[k]? = some (strOf xs[k])) := fun k hk => by rw [List.getElem?_map, List.getElem?_eq_getElem hk]; rfl
    generalize xs.map strOf = ts at *
    have htl : ts.length ≤ 80 := by rw [HTS.out, HN.out]; exact hsz
    go_enter Try.func32, Try.ntmps32
    go_wp2_with fail
    refine Calls.mono HQ.out ?_
    rintro e w2 ⟨v, rfl, ho, hb⟩
    obtain ⟨A2, cap2, rfl, -⟩ := St.textsForm ho
    have HB := Lib.hid hb
    have HO := Lib.hid ho
    have HM0 := Lib.hid (OwnInts_threeA w2 hb.size l)
    have HB0 : Hid (Below w2.heap.size w2 (w2.alloc (.cells #[.int .i64 0, .int .i64 0, .int .i64 0] 79))) := (Below.refl _ w2).alloc (Nat.le_refl _) _
    clear ho hb
    go_wp2
    go_loopw [23] (fun i wr => ∃ k : Nat, k ≤ ts.length ∧ i = .int .i64 k ∧ Hid (Sa3.OwnInts wr w.heap.size (.slice (some ⟨w2.heap.size, 0, none⟩) 3 3) (kRow l (xs.take k))) ∧ Hid (Below w2.heap.size w2 wr) ∧ Hid (w2.heap.size < wr.heap.size))
      (fun i _ => ts.length - (intOf i).toNat)
    case atStart => exact ⟨0, Nat.zero_le _, rfl, HM0, HB0, by show _ < _; simp⟩
    case round =>
      obtain ⟨k, hk, rfl, HM, HBr, HZ⟩ := hrel
      clear HM0 HB0
      by_cases hlt : k < ts.length
      · have hkx : k < xs.length := by rw [← HTS.out]; exact hlt
        obtain ⟨⟨y, u, d, hyd, hcu, hcd⟩, hx9⟩ := HA.out xs[k] (List.getElem_mem hkx)
        obtain ⟨hkd, hj3⟩ := kNat_is y hcu hcd
        obtain ⟨b, o, hA2, hB2, hc⟩ := strsOf HO.out (by omega)
        subst hA2
        have c0 : wr.cell? ⟨b, o + k, none⟩ = some (.string (strOf xs[k])) := (HBr.out.cell (p := ⟨b, o + k, none⟩) hB2).trans (hc k _ (HC.out k hkx))
        have hsz1 : (strOf xs[k]).size = xs[k].length := by rw [str_size]
        have hlen2 : 2 ≤ xs[k].length := by rw [hyd]; simp
        have hex1 : (strOf xs[k]).extract ((strOf xs[k]).size - 2) ((strOf xs[k]).size - 1) = ⟨#[u]⟩ := by
          rw [hyd]
          exact str_pen y u d
        have hex2 : (strOf xs[k]).extract ((strOf xs[k]).size - 1) (strOf xs[k]).size = ⟨#[d]⟩ := by
          rw [hyd]
          exact str_end y u d
        have h3 : ((strOf xs[k]).size : Int) - 1 = (((strOf xs[k]).size - 1 : Nat) : Int) := by omega
        have h4 : ((strOf xs[k]).size : Int) - 2 = (((strOf xs[k]).size - 2 : Nat) : Int) := by omega
        have hzz : 2 ≤ (strOf xs[k]).size ∧ (strOf xs[k]).size ≤ 9 := by omega
        rw [← hyd] at hkd hj3
        have HSN : Hid (kRow l (xs.take (k + 1)) = (kRow l (xs.take k)).set (kNat l xs[k]) ((kCnt l (xs.take k) (kNat l xs[k]) : Int) + 1)) := by
          show _ = _
          rw [List.take_succ_eq_append_getElem hkx]
          exact kRow_snoc l _ _ rfl hj3
        have hcl := kCnt_le l (xs.take k) (kNat l xs[k])
        have hct : kCnt l (xs.take k) (kNat l xs[k]) ≤ 80 := by
          rw [List.length_take] at hcl
          omega
        have HCA : Hid ((kRow l (xs.take k))[kNat l xs[k]]? = some (kCnt l (xs.take k) (kNat l xs[k]) : Int)) := kRow_at l _ hj3
        have HLC := Lib.hid (kRow_len l (xs.take k))
        have hb_store : ∀ w3, Below wr.drew.heap.size wr.drew w3 → w3.cell? ⟨w2.heap.size, kNat l xs[k], none⟩ = some (.int .i64 (kCnt l (xs.take k) (kNat l xs[k]) : Int)) ∧ w3.frozen? ⟨w2.heap.size, kNat l xs[k], none⟩ = false ∧
            Sa3.OwnInts (w3.setCell ⟨w2.heap.size, kNat l xs[k], none⟩ (.int .i64 ((kCnt l (xs.take k) (kNat l xs[k]) : Int) + 1))) w.heap.size (.slice (some ⟨w2.heap.size, 0, none⟩) 3 3) (kRow l (xs.take (k + 1))) ∧
            Below w2.heap.size w2 (w3.setCell ⟨w2.heap.size, kNat l xs[k], none⟩ (.int .i64 ((kCnt l (xs.take k) (kNat l xs[k]) : Int) + 1))) ∧
            w2.heap.size < (w3.setCell ⟨w2.heap.size, kNat l xs[k], none⟩ (.int .i64 ((kCnt l (xs.take k) (kNat l xs[k]) : Int) + 1))).heap.size := fun w3 hb3 => by
          have hM3 : Sa3.OwnInts w3 w.heap.size (.slice (some ⟨w2.heap.size, 0, none⟩) (kRow l (xs.take k)).length 3) (kRow l (xs.take k)) := by
            rw [HLC.out]
            exact (HM.out.below (Below.refl _ wr).drew).below hb3
          have hM4 := Sa3.intsStore hM3 (kNat l xs[k]) ((kCnt l (xs.take k) (kNat l xs[k]) : Int) + 1)
          rw [HLC.out, ← HSN.out] at hM4
          refine ⟨Sa3.intsCell hM3 HCA.out, Sa3.intsFree hM3 _, hM4, (HBr.out.drew.trans (hb3.mono HBr.out.drew.size)).setCell (p := ⟨w2.heap.size, kNat l xs[k], none⟩) (Nat.le_refl _) _, ?_⟩
          have h1 := hb3.size
          have h2 := HZ.out
          have h3 := (Below.refl wr.heap.size wr).drew.size
          simp [World.setCell]
          omega
        have HZH := Lib.hid hb_store
        obtain ⟨p1, hp1⟩ : ∃ p1 : Nat, p1 = (strOf xs[k]).size - 1 := ⟨_, rfl⟩
        obtain ⟨p2, hp2⟩ : ∃ p2 : Nat, p2 = (strOf xs[k]).size - 2 := ⟨_, rfl⟩
        have HKC : Hid (Calls Try.prog 30 #[.slice A l.length c, .string ((strOf xs[k]).extract p2 p1), .string ((strOf xs[k]).extract p1 (strOf xs[k]).size)] wr.drew fun e w' => e = .returned (.int .i64 (kNat l xs[k] : Int)) ∧ Below wr.drew.heap.size wr.drew w') := by
          have h5 := HI.out ⟨#[u]⟩ ⟨#[d]⟩ wr.drew ((HW.out.below (HB.out.trans (HBr.out.drew.mono HB.out.size))).more (Nat.le_trans HB.out.size HBr.out.drew.size))
          show Calls _ _ _ _ _
          rw [hp1, hp2, hex1, hex2, ← hkd]
          exact h5
        have hw1 : IntKind.i64.wrap (((strOf xs[k]).size : Int) - 1) = (p1 : Int) := (IntWalk.i64_in _ (by omega)).trans (by omega)
        have hw2 : IntKind.i64.wrap (((strOf xs[k]).size : Int) - 2) = (p2 : Int) := (IntWalk.i64_in _ (by omega)).trans (by omega)
        have hq1 : (p2 : Int) ≤ (p1 : Int) := by omega
        have hq2 : (p1 : Int) ≤ ((strOf xs[k]).size : Int) := by omega
        have hw3 : IntKind.i64.wrap ((kCnt l (xs.take k) (kNat l xs[k]) : Int) + 1) = (kCnt l (xs.take k) (kNat l xs[k]) : Int) + 1 := IntWalk.i64_in _ (by omega)
        have hj0 : (0 : Int) ≤ (kNat l xs[k] : Int) := Int.natCast_nonneg _
        have hj1 : (kNat l xs[k] : Int) < 3 := by omega
        clear hc hsz1 hlen2 hex1 hex2 hcl hyd hcu hcd hkd hx9 h3 h4 hzz hp1 hp2 hb_store
        generalize strOf xs[k] = z at *
        generalize kNat l xs[k] = j at *
        generalize kCnt l (xs.take k) j = q at *
        generalize kRow l (xs.take k) = row at *
        go_wp2_with fail
        go_region_with (go_at_call 30; refine Calls.mono HKC.out ?_; rintro e w3 ⟨rfl, hb3⟩; obtain ⟨d0, z0, m4, b4, s4⟩ := HZH.out w3 hb3)
        have HM4 := Lib.hid m4
        have HB4 := Lib.hid b4
        have HZ4 := Lib.hid s4
        clear m4 b4 s4 d0 z0 hb3 HM HBr HZ HZH HKC
        go_wp2
        go_roundw
        case rel => exact ⟨k + 1, by omega, by go_num, HM4, HB4, HZ4⟩
        case measure => simp [intOf]; omega
      · have hkl : k = ts.length := by omega
        have HMF : Hid (Sa3.OwnInts wr w.heap.size (.slice (some ⟨w2.heap.size, 0, none⟩) 3 3) (kRow l xs)) := by
          have := HM.out
          rw [hkl, HTS.out, List.take_length] at this
          exact this
        have HFIN := Lib.hid (HE.out _ _ HMF.out (HB.out.trans (HBr.out.mono HB.out.size)))
        clear hkl
        go_wp2
        go_ret2
        exact HFIN.out

end Go.Proofs.Ytafpefjjeddmeaa
/- The walk of the law FnExactKindCounts. -/
namespace Go.Proofs.Ytafpefjjeddmeaa
open Go.RowKit

theorem countsRes_le (l : List Seg) (t : ByteArray) : (countsRes l t).length ≤ 80 := by
  unfold countsRes
  cases hR : traceB l t.data.toList with
  | none => exact Nat.zero_le _
  | some f =>
    show (kRow l _).length ≤ 80
    rw [kRow_len]
    decide

set_option maxRecDepth 100000 in
set_option maxHeartbeats 4000000 in
theorem lawKindCounts_any (A : Option Addr) (l : List Seg) (c : Nat) (s : ByteArray) (w : World) (hw : Segs w w.heap.size A l) (hl : l.length ≤ maxLen) (hn : Short l) (hsz : s.size ≤ maxLen) :
    Calls Try.prog 6 #[.slice A l.length c, .string s] w fun e w' => e = .returned (.bool true) ∧ Below w.heap.size w w' := by
  have HW : Hid (Segs w w.heap.size A l) := hw
  clear hw
  unfold maxLen at hsz
  by_cases hbigs : 1048576 < s.size
  · go_enter Try.func6, Try.ntmps6
    go_wp2
    go_ret
    exact ⟨rfl, Below.refl _ _⟩
  by_cases hs : sizeLeft l < 0
  · go_enter Try.func6, Try.ntmps6
    go_wp2_with fail
    refine (szSegmentS_any _ _ _ _ HW.out hl hn).mono ?_
    rintro e w1 ⟨rfl, hb1⟩
    go_wp2
    go_ret
    exact ⟨rfl, hb1⟩
  · have hlen := sizeLeft_len hs
    have hst := countsRes_le l s
    have hlm : l.length ≤ 9223372036854775807 := Nat.le_trans hlen (by decide)
    have HSP := Lib.hid (fun A c w h => specKindCounts_any A l c s w h hlen hn (Nat.le_of_not_lt hbigs))
    have HIM := Lib.hid (fun A w h => kindCounts_any A l l.length s w h hlen (Nat.le_refl _) hlm hn (Nat.le_of_not_lt hbigs))
    unfold CountsPost at HSP
    unfold CountsPostA at HIM
    go_enter Try.func6, Try.ntmps6
    go_wp2_with fail
    refine (szSegmentS_any _ _ _ _ HW.out hl hn).mono ?_
    rintro e w1 ⟨rfl, hb1⟩
    have hs1 := (HW.out.below hb1).more hb1.size
    have HB1 : Hid (Below w.heap.size w w1) := hb1
    clear hb1
    generalize sizeLeft l = lft at *
    go_wp2_with fail
    refine (toSegmentS_any _ _ _ _ hs1 hlen).mono ?_
    rintro e w2 ⟨rfl, hb2, hx2⟩
    have HB2 : Hid (Below w.heap.size w w2) := HB1.out.trans (hb2.mono HB1.out.size)
    have HX2 := Lib.hid hx2
    clear hb2 hs1 hx2 HB1
    generalize countsRes l s = ts at *
    generalize (traceB l s.data.toList).isSome = d at *
    go_wp2_with fail
    refine (HSP.out _ _ _ HX2.out).mono ?_
    rintro e w3 ⟨v0, rfl, ho3, hb3⟩
    obtain ⟨A0, cap0, rfl, -⟩ := Si.intsForm ho3
    have HB3 : Hid (Below w.heap.size w w3) := HB2.out.trans (hb3.mono HB2.out.size)
    have HO3 : Hid (Si.OwnInts w3 w2.heap.size (.slice A0 ts.length cap0) ts) := ho3
    have HS3 : Hid (Segs w3 w3.heap.size A l) := (HW.out.below HB3.out).more HB3.out.size
    clear hb3 ho3 HX2 HSP
    go_wp2_with fail
    refine (St.toSegmentS_row _ _ _ _ HS3.out hlen).mono ?_
    rintro e w4 ⟨rfl, hb4, hx4, cs, hr4, hcs⟩
    have HB4 : Hid (Below w.heap.size w w4) := HB3.out.trans (hb4.mono HB3.out.size)
    have HO4 : Hid (Si.OwnInts w4 w2.heap.size (.slice A0 ts.length cap0) ts) := HO3.out.below hb4
    have HL4 : Hid (∀ g, (Value.slice A0 ts.length cap0).ownBlock = some g → g < w3.heap.size) := fun g hg => (World.ownsRow.lt HO3.out g hg).2
    have HX4 := Lib.hid hx4
    have HR4 := Lib.hid hr4
    have HCS := Lib.hid hcs
    have HZ4 : Hid (w3.heap.size < w4.heap.size) := hr4.lt
    clear hb4 hx4 hr4 hcs HS3 HO3
    go_wp2_with fail
    refine (HIM.out _ _ HX4.out).mono ?_
    rintro e w5 ⟨v1, rfl, ho5, hb5⟩
    obtain ⟨A1, cap1, rfl, hf5⟩ := Sa3.intsForm ho5
    have HB5 : Hid (Below w.heap.size w w5) := HB4.out.trans (hb5.mono HB4.out.size)
    have HO5 : Hid (Si.OwnInts w5 w2.heap.size (.slice A0 ts.length cap0) ts) := HO4.out.below hb5
    have HP5 : Hid (Sa3.OwnInts w5 w4.heap.size (.slice A1 ts.length cap1) ts) := ho5
    have HR5 : Hid (Row w5 w3.heap.size 36 cs) := HR4.out.below hb5 HZ4.out
    have HX5 : Hid (Segs w5 w5.heap.size (some ⟨w3.heap.size, 0, none⟩) l) := (HX4.out.below hb5).more hb5.size
    have HZ5 : Hid (w4.heap.size ≤ w5.heap.size) := hb5.size
    clear hf5 hb5 ho5 HX4 HR4 HO4
    go_wp2_with fail
    refine (Si.eqIntS_same A1 A0 ts cap1 cap0 w5 (Sa3.intsOf HP5.out) (Si.intsOf HO5.out) (by omega)).mono ?_
    rintro e w6 ⟨rfl, hb6⟩
    have HB6 : Hid (Below w.heap.size w w6) := HB5.out.trans (hb6.mono HB5.out.size)
    have HO6 : Hid (Si.OwnInts w6 w2.heap.size (.slice A0 ts.length cap0) ts) := HO5.out.below hb6
    have HP6 : Hid (Sa3.OwnInts w6 w4.heap.size (.slice A1 ts.length cap1) ts) := HP5.out.below hb6
    have HR6 : Hid (Row w6 w3.heap.size 36 cs) := HR5.out.below hb6 HR5.out.lt
    have HX6 : Hid (Segs w6 w6.heap.size (some ⟨w3.heap.size, 0, none⟩) l) := (HX5.out.below hb6).more hb6.size
    have HS6 : Hid (Segs w6 w6.heap.size A l) := (HW.out.below HB6.out).more HB6.out.size
    clear hb6 HB5 HO5 HP5 HR5 HX5 HZ5
    go_wp2_with fail
    refine (toSegmentS_any _ _ _ _ HS6.out hlen).mono ?_
    rintro e w7 ⟨rfl, hb7, hx7⟩
    have HB7 : Hid (Below w.heap.size w w7) := HB6.out.trans (hb7.mono HB6.out.size)
    have HO7 : Hid (Si.OwnInts w7 w2.heap.size (.slice A0 ts.length cap0) ts) := HO6.out.below hb7
    have HP7 : Hid (Sa3.OwnInts w7 w4.heap.size (.slice A1 ts.length cap1) ts) := HP6.out.below hb7
    have HR7 : Hid (Row w7 w3.heap.size 36 cs) := HR6.out.below hb7 HR6.out.lt
    have HX7 : Hid (Segs w7 w7.heap.size (some ⟨w3.heap.size, 0, none⟩) l) := (HX6.out.below hb7).more hb7.size
    have HY7 := Lib.hid hx7
    clear hb7 hx7 HB6 HO6 HP6 HR6 HX6 HS6
    go_wp2_with fail
    refine (eqSegmentS_same _ _ _ _ _ _ HX7.out HY7.out hlen).mono ?_
    rintro e w8 ⟨rfl, hb8⟩
    have HB8 : Hid (Below w.heap.size w w8) := HB7.out.trans (hb8.mono HB7.out.size)
    have HO8 : Hid (Si.OwnInts w8 w2.heap.size (.slice A0 ts.length cap0) ts) := HO7.out.below hb8
    have HP8 : Hid (Sa3.OwnInts w8 w4.heap.size (.slice A1 ts.length cap1) ts) := HP7.out.below hb8
    have HR8 : Hid (Row w8 w3.heap.size 36 cs) := HR7.out.below hb8 HR7.out.lt
    clear hb8 HB7 HO7 HP7 HR7 HX7 HY7
    go_wp2_with fail
    refine (mark1 w3.heap.size l.length l.length cs w8 HR8.out HCS.out hlen).mono ?_
    rintro e w9 ⟨rfl, hy9⟩
    have HB9 : Hid (Below w.heap.size w w9) := Only.below HB8.out hy9 HB8.out.size (fun k hk e => by have := HB3.out.size; omega)
    have HO9 : Hid (Si.OwnInts w9 w2.heap.size (.slice A0 ts.length cap0) ts) := Si.intsFar HO8.out hy9 (fun g hg e => by have := HL4.out g hg; omega)
    have HP9 : Hid (Sa3.OwnInts w9 w4.heap.size (.slice A1 ts.length cap1) ts) := Sa3.intsFar HP8.out hy9 (fun g hg e => by have := (World.ownsRow.lt HP8.out g hg).1; have := HZ4.out; omega)
    clear hy9 HB8 HO8 HP8 HR8 HCS
    have hq1 : ¬ ((1 + 3 * l.length : Nat) : Int) < 0 := by omega
    have hq0 : (0 : Int) ≤ ((1 + 3 * l.length : Nat) : Int) := by omega
    generalize ((1 + 3 * l.length : Nat) : Int) = q at *
    go_wp2_with fail
    refine (Si.eqIntS_same A1 A0 ts cap1 cap0 w9 (Sa3.intsOf HP9.out) (Si.intsOf HO9.out) (by omega)).mono ?_
    rintro e w10 ⟨rfl, hb10⟩
    have HB10 : Hid (Below w.heap.size w w10) := HB9.out.trans (hb10.mono HB9.out.size)
    have HO10 : Hid (Si.OwnInts w10 w2.heap.size (.slice A0 ts.length cap0) ts) := HO9.out.below hb10
    have HP10 : Hid (Sa3.OwnInts w10 w4.heap.size (.slice A1 ts.length cap1) ts) := HP9.out.below hb10
    clear hb10 HB9 HO9 HP9
    go_wp2_with fail
    refine (jmark1 _ _ ts w10 HP10.out (by omega)).mono ?_
    rintro e w11 ⟨rfl, ho11, hy11⟩
    have HB11 : Hid (Below w.heap.size w w11) := Only.below HB10.out hy11 HB10.out.size (fun k hk e => by have := (World.ownsRow.lt HP10.out k e).1; have := HB4.out.size; omega)
    have HO11 : Hid (Si.OwnInts w11 w2.heap.size (.slice A0 ts.length cap0) ts) := Si.intsFar HO10.out hy11 (fun g hg e => by have := HL4.out g hg; have := (World.ownsRow.lt HP10.out g e).1; have := HZ4.out; omega)
    have HM11 : Hid (Si.Ints w11 w11.heap.size A1 (Si.imarked ts 1 ts.length)) := Sa3.intsOf ho11
    clear ho11 hy11 HB10 HO10 HP10
    have hm1 : ¬ ((1 + ts.length : Nat) : Int) < 0 := by omega
    have hm0 : (0 : Int) ≤ ((1 + ts.length : Nat) : Int) := by omega
    have HH := Lib.hid (fun W h => iheld1 A1 ts.length cap1 ts W rfl h (by omega))
    have HMK := Lib.hid (fun W W' h hb => (Si.Ints.more (Si.Ints.below (w := W) (w' := W') (B := W.heap.size) (A := A1) (l := Si.imarked ts 1 ts.length) h hb) hb.size : Si.Ints W' W'.heap.size A1 (Si.imarked ts 1 ts.length)))
    generalize ((1 + ts.length : Nat) : Int) = m at *
    go_wp2_with fail
    refine Calls.mono (HH.out w11 HM11.out) ?_
    rintro e w12 ⟨rfl, hb12⟩
    have HB12 : Hid (Below w.heap.size w w12) := HB11.out.trans (hb12.mono HB11.out.size)
    have HO12 : Hid (Si.OwnInts w12 w2.heap.size (.slice A0 ts.length cap0) ts) := HO11.out.below hb12
    have HM12 : Hid (Si.Ints w12 w12.heap.size A1 (Si.imarked ts 1 ts.length)) := HMK.out w11 w12 HM11.out hb12
    have HS12 : Hid (Segs w12 w12.heap.size A l) := (HW.out.below HB12.out).more HB12.out.size
    clear hb12 HB11 HO11 HM11
    go_wp2_with fail
    refine (toSegmentS_any _ _ _ _ HS12.out hlen).mono ?_
    rintro e w13 ⟨rfl, hb13, hx13⟩
    have HB13 : Hid (Below w.heap.size w w13) := HB12.out.trans (hb13.mono HB12.out.size)
    have HO13 : Hid (Si.OwnInts w13 w2.heap.size (.slice A0 ts.length cap0) ts) := HO12.out.below hb13
    have HM13 : Hid (Si.Ints w13 w13.heap.size A1 (Si.imarked ts 1 ts.length)) := HMK.out w12 w13 HM12.out hb13
    have HX13 := Lib.hid hx13
    clear hb13 hx13 HB12 HO12 HM12 HS12
    go_wp2_with fail
    refine (HIM.out _ _ HX13.out).mono ?_
    rintro e w14 ⟨v2, rfl, ho14, hb14⟩
    obtain ⟨A2, cap2, rfl, hf14⟩ := Sa3.intsForm ho14
    have HB14 : Hid (Below w.heap.size w w14) := HB13.out.trans (hb14.mono HB13.out.size)
    have HO14 : Hid (Si.OwnInts w14 w2.heap.size (.slice A0 ts.length cap0) ts) := HO13.out.below hb14
    have HM14 : Hid (Si.Ints w14 w14.heap.size A1 (Si.imarked ts 1 ts.length)) := HMK.out w13 w14 HM13.out hb14
    have HF14 := Lib.hid hf14
    clear hb14 ho14 hf14 HB13 HO13 HM13 HX13
    go_wp2_with fail
    refine (Si.eqIntS_same A2 A0 ts cap2 cap0 w14 HF14.out (Si.intsOf HO14.out) (by omega)).mono ?_
    rintro e w15 ⟨rfl, hb15⟩
    have HB15 : Hid (Below w.heap.size w w15) := HB14.out.trans (hb15.mono HB14.out.size)
    have HM15 : Hid (Si.Ints w15 w15.heap.size A1 (Si.imarked ts 1 ts.length)) := HMK.out w14 w15 HM14.out hb15
    clear hb15 HB14 HO14 HM14 HF14
    go_wp2_with fail
    refine Calls.mono (HH.out w15 HM15.out) ?_
    rintro e w16 ⟨rfl, hb16⟩
    have HB16 : Hid (Below w.heap.size w w16) := HB15.out.trans (hb16.mono HB15.out.size)
    clear hb16 HB15 HM15
    go_wp2
    go_ret
    exact ⟨rfl, HB16.out⟩

end Go.Proofs.Ytafpefjjeddmeaa
