/- Joined: Ik In. -/
import Derived.Test.YtbmfbnlmdjnddaaU38
import Derived.Test.YtbmfbnlmdjnddaaU19
import Derived.Test.YtbmfbnlmdjnddaaU29
/- The walk of the law FnReached, over what its draw leaves. -/
namespace Go.Proofs.Ytbmfbnlmdjnddaa
open Go.RowKit

/-- What DrawReachedFrom leaves. -/
def ReachDrawn (w : World) (e : Ending) (w' : World) : Prop :=
  ∃ (A : Option Addr) (l : List Seg) (c : Nat) (A2 : Option Addr) (ts : List ByteArray) (c2 : Nat) (s : ByteArray), e = .returned (.tuple #[.slice A (List.length l) c, .slice A2 (List.length ts) c2, .string s]) ∧ TreeHas w' A l c ∧ St.Strs w' w'.heap.size A2 ts ∧ ts.length ≤ 100 ∧ (∀ x ∈ ts, x.size ≤ 1000) ∧ s.size ≤ 2 ∧ Below w.heap.size w w'
/-- Whether a pair leads to a segment. -/
def hit7 (name R v p : ByteArray) : Bool := sameB (p.extract 1 2) v && (sameB (p.extract 0 1) name || hasT R (p.extract 0 1))
def hitTo (name R v : ByteArray) (ts : List ByteArray) (k : Nat) : Bool := (ts.take k).any (hit7 name R v)
theorem hitTo_succ {name R v : ByteArray} {ts : List ByteArray} {k : Nat} (h : k < ts.length) : hitTo name R v ts (k + 1) = (hitTo name R v ts k || hit7 name R v ts[k]) := by
  unfold hitTo
  rw [List.take_succ_eq_append_getElem h, List.any_append]
  simp
theorem hit_all {l : List Seg} {ts : List ByteArray} (h : IsGraph l (psOf ts)) {u v : UInt8} (hv : v ∈ reachTxt l (psOf ts) u) : hitTo ⟨#[u]⟩ (strOf (reachTxt l (psOf ts) u)) ⟨#[v]⟩ ts ts.length = true := by
  obtain ⟨a, h1, h2⟩ := law_back h hv
  unfold hitTo
  rw [List.take_length, List.any_eq_true]
  obtain ⟨p, hp, e⟩ := List.mem_map.1 h1
  refine ⟨p, hp, ?_⟩
  have hpe : p = strOf [a, v] := by rw [← e]; rfl
  subst hpe
  unfold hit7
  rw [Bool.and_eq_true, Bool.or_eq_true]
  refine ⟨sameB_iff.2 rfl, ?_⟩
  rcases h2 with rfl | h2
  · exact .inl (sameB_iff.2 rfl)
  · exact .inr h2
theorem pair_of {l : List Seg} {ts : List ByteArray} (h : IsGraph l (psOf ts)) {p : ByteArray} (hp : p ∈ ts) : ∃ a b, p = strOf [a, b] ∧ [a, b] ∈ psOf ts := by
  have h1 : p.data.toList ∈ psOf ts := List.mem_map.2 ⟨p, hp, rfl⟩
  obtain ⟨a, b, e, _, _⟩ := h.two _ h1
  exact ⟨a, b, by rw [← e]; rfl, by rw [← e]; exact h1⟩

attribute [local irreducible] waysB in
set_option maxRecDepth 100000 in
set_option maxHeartbeats 4000000 in
theorem lawReached_any (hd : ∀ A0 n c0 w, n ≤ c0 → (∀ b, w.heap.size ≤ b → Bytes w b A0 n) → Calls Try.prog 10 #[.slice A0 n c0] w (ReachDrawn w)) (A0 : Option Addr) (n c0 : Nat) (w : World) (hn : n ≤ c0) (hx : ∀ b, w.heap.size ≤ b → Bytes w b A0 n) :
    Calls Try.prog 3 #[.slice A0 n c0] w fun e w' => e = .returned (.bool true) ∧ Below w.heap.size w w' := by
  by_cases hbig : 1048576 < n
  · go_enter Try.func3, Try.ntmps3
    go_wp2
    go_ret
    exact ⟨rfl, Below.refl _ _⟩
  have HD := Lib.hid (hd A0 n c0 w hn hx)
  unfold ReachDrawn at HD
  clear hd hx
  go_enter Try.func3, Try.ntmps3
  go_wp2_with fail
  refine Calls.mono HD.out ?_
  rintro e w1 ⟨A, l, c, A2, ts, c2, s, rfl, ⟨hs1, ⟨hl9, hlc, hcm⟩, hnm⟩, hst, htl, hts, hsz, hb1⟩
  have hsh : Short l := fun x hx => by have := hnm x hx; unfold maxLen; omega
  have htl' : ts.length ≤ 1048576 := by omega
  have hts' : ∀ x ∈ ts, x.size ≤ 1048576 := fun x hx => by have := hts x hx; omega
  have HIM := Lib.hid (fun W h1 h2 => implReached_any A l c A2 ts c2 s W h1 h2 (by omega) hlc hcm hsh htl' hts' (by omega))
  have HSP := Lib.hid (fun W h1 h2 => specReached_any A l c A2 ts c2 s W h1 h2 (by omega) hsh htl' hts' (by omega))
  have HRI := Lib.hid (fun W h1 h2 => implRings_any A l c A2 ts c2 W h1 h2 (by omega) hlc hcm hsh htl' hts')
  have HRS := Lib.hid (fun W h1 h2 => specRings_any A l c A2 ts c2 W h1 h2 (by omega) hsh htl' hts')
  have HB1 := Lib.hid hb1
  have HW := Lib.hid hs1
  have HT := Lib.hid hst
  have HTS := Lib.hid hts
  clear hs1 hst hnm hb1 hsh htl' hts' hts HD
  go_wp2_with fail
  refine Calls.mono (HIM.out w1 HW.out HT.out) ?_
  rintro e w2 ⟨rfl, hb2⟩
  have HB2 : Hid (Below w1.heap.size w1 w2) := hb2
  clear hb2 HIM
  go_wp2_with fail
  refine Calls.mono (HSP.out w2 ((HW.out.below HB2.out).more HB2.out.size) ((HT.out.below HB2.out).more HB2.out.size)) ?_
  rintro e w3 ⟨rfl, hb3⟩
  have HB3 : Hid (Below w1.heap.size w1 w3) := HB2.out.trans (hb3.mono HB2.out.size)
  clear hb3 HSP HB2
  generalize ringsB l ts = rg at *
  have hrr : reachOk l ts s = false → reachRes l ts s = ⟨#[]⟩ := fun h => by unfold reachRes; rw [if_neg (by rw [h]; decide)]
  cases hok : reachOk l ts s with
  | false =>
    rw [hrr hok]
    clear hrr hok
    go_wp2_with fail
    refine Calls.mono (HRI.out w3 ((HW.out.below HB3.out).more HB3.out.size) ((HT.out.below HB3.out).more HB3.out.size)) ?_
    rintro e w4 ⟨rfl, hb4⟩
    have HB4 : Hid (Below w1.heap.size w1 w4) := HB3.out.trans (hb4.mono HB3.out.size)
    clear hb4 HB3
    go_wp2_with fail
    refine Calls.mono (HRS.out w4 ((HW.out.below HB4.out).more HB4.out.size) ((HT.out.below HB4.out).more HB4.out.size)) ?_
    rintro e w5 ⟨rfl, hb5⟩
    have HB5 : Hid (Below w1.heap.size w1 w5) := HB4.out.trans (hb5.mono HB4.out.size)
    clear hb5 HB4
    go_wp2_with fail
    refine Calls.mono (HRI.out w5 ((HW.out.below HB5.out).more HB5.out.size) ((HT.out.below HB5.out).more HB5.out.size)) ?_
    rintro e w6 ⟨rfl, hb6⟩
    have HB6 : Hid (Below w1.heap.size w1 w6) := HB5.out.trans (hb6.mono HB5.out.size)
    clear hb6 HB5
    go_wp2_with fail
    refine Calls.mono (HRS.out w6 ((HW.out.below HB6.out).more HB6.out.size) ((HT.out.below HB6.out).more HB6.out.size)) ?_
    rintro e w7 ⟨rfl, hb7⟩
    have HB7 : Hid (Below w1.heap.size w1 w7) := HB6.out.trans (hb7.mono HB6.out.size)
    clear hb7 HB6
    go_wp2
    go_ret
    exact ⟨rfl, HB1.out.trans (HB7.out.mono HB1.out.size)⟩
  | true =>
    have hg : graphB l ts = true := by unfold reachOk at hok; exact (Bool.and_eq_true_iff.1 hok).1
    have hG := graph_is hg
    obtain ⟨u, rfl⟩ := taken_one hG.valid (by unfold reachOk at hok; exact (Bool.and_eq_true_iff.1 hok).2)
    have hres : reachRes l ts ⟨#[u]⟩ = strOf (reachTxt l (psOf ts) u) := by
      unfold reachRes
      rw [if_pos hok, ← reach_sorted hG.valid]
      rfl
    rw [hres]
    go_wp2_with fail
    refine Calls.mono (HRI.out w3 ((HW.out.below HB3.out).more HB3.out.size) ((HT.out.below HB3.out).more HB3.out.size)) ?_
    rintro e w4 ⟨rfl, hb4⟩
    have HB4 : Hid (Below w1.heap.size w1 w4) := HB3.out.trans (hb4.mono HB3.out.size)
    clear hb4 HB3
    go_wp2_with fail
    refine Calls.mono (HRS.out w4 ((HW.out.below HB4.out).more HB4.out.size) ((HT.out.below HB4.out).more HB4.out.size)) ?_
    rintro e w5 ⟨rfl, hb5⟩
    have HB5 : Hid (Below w1.heap.size w1 w5) := HB4.out.trans (hb5.mono HB4.out.size)
    clear hb5 HB4
    have HFW := Lib.hid (fun a b' h1 h2 => law_fwd hG (u := u) (a := a) (b := b') h1 h2)
    have HBK := Lib.hid (fun v h => hit_all hG (u := u) (v := v) h)
    have HPO := Lib.hid (fun p h => pair_of hG (p := p) h)
    have hR8 : (reachTxt l (psOf ts) u).length ≤ 9 := Nat.le_trans (reachTxt_len _ _ _) hl9
    clear hG hg hok hrr hres hsz
    generalize reachTxt l (psOf ts) u = x at *
    have HZ : Hid ((strOf x).size = x.length) := str_size x
    have HEX := Lib.hid (fun i h => str_at x (i := i) h)
    have hz9 : (strOf x).size ≤ 9 := by rw [HZ.out]; exact hR8
    have HSO := Lib.hid (fun c W => soHas_same (strOf x) c W (by omega))
    generalize hRx : strOf x = R at *
    generalize hbu : (⟨#[u]⟩ : ByteArray) = bu at *
    have HBU := Lib.hid hbu
    clear hbu hRx
    have HT5 := Lib.hid ((HT.out.below HB5.out).more HB5.out.size)
    have HSV : Hid (∀ c q, hasT R c = q → ∀ W, Calls Try.prog 15 #[.string R, .string c] W fun e w' => e = .returned (.bool q) ∧ w' = W) := fun c q h W => by have := HSO.out c W; rw [h] at this; exact this
    clear HSO HT
    go_wp2
    go_loopw [83] (fun i wr => ∃ k : Nat, k ≤ ts.length ∧ i = .int .i64 k ∧ Hid (Below w5.heap.size w5 wr))
      (fun i _ => ts.length - (intOf i).toNat)
    case atStart => exact ⟨0, Nat.zero_le _, rfl, Below.refl _ _⟩
    case round =>
      obtain ⟨k, hk, rfl, HB⟩ := hrel
      have hk0 : (0 : Int) ≤ (k : Int) := Int.natCast_nonneg _
      by_cases hlt : k < ts.length
      · have hlt' : (k : Int) < (ts.length : Int) := by omega
        obtain ⟨b9, o, rfl, hB, hc⟩ := HT5.out (by omega)
        have c1 := hc k ts[k] (List.getElem?_eq_getElem hlt)
        rw [← HB.out.cell (p := ⟨b9, o + k, none⟩) hB] at c1
        obtain ⟨a, d, hp, hab⟩ := HPO.out ts[k] (List.getElem_mem hlt)
        rw [hp] at c1
        have hfw := HFW.out a d hab
        have heq : ((⟨#[a]⟩ : ByteArray).toList == bu.toList) = decide (([a] : Txt) = [u]) := by rw [← HBU.out]; exact txt_same [a] [u]
        obtain ⟨hz2, hx1, hx2⟩ := two_cut a d
        clear hc hp hab
        generalize strOf [a, d] = p at *
        by_cases hau : ([a] : Txt) = [u]
        · have hq := hfw (.inl (by injection hau))
          rw [decide_eq_true hau] at heq
          clear hau hfw
          generalize (⟨#[a]⟩ : ByteArray) = ba at *
          generalize (⟨#[d]⟩ : ByteArray) = bd at *
          have HC2 := Lib.hid (HSV.out bd true hq)
          clear hq
          go_wp2_with fail
          refine Calls.mono (HC2.out _) ?_
          rintro e w7 ⟨rfl, rfl⟩
          go_wp2
          go_roundw
          case rel => exact ⟨k + 1, by omega, by go_num, HB⟩
          case measure => simp [intOf]; omega
        · rw [decide_eq_false hau] at heq
          cases hq1 : hasT R ⟨#[a]⟩ with
          | true =>
            have hq := hfw (.inr hq1)
            clear hau hfw
            have HC1 := Lib.hid (HSV.out _ true hq1)
            have HC2 := Lib.hid (HSV.out _ true hq)
            clear hq hq1
            generalize (⟨#[a]⟩ : ByteArray) = ba at *
            generalize (⟨#[d]⟩ : ByteArray) = bd at *
            go_wp2_with fail
            refine Calls.mono (HC1.out _) ?_
            rintro e w6 ⟨rfl, rfl⟩
            go_wp2_with fail
            refine Calls.mono (HC2.out _) ?_
            rintro e w7 ⟨rfl, rfl⟩
            go_wp2
            go_roundw
            case rel => exact ⟨k + 1, by omega, by go_num, HB⟩
            case measure => simp [intOf]; omega
          | false =>
            have HC1 := Lib.hid (HSV.out _ false hq1)
            clear hau hfw hq1
            generalize (⟨#[a]⟩ : ByteArray) = ba at *
            generalize (⟨#[d]⟩ : ByteArray) = bd at *
            go_wp2_with fail
            refine Calls.mono (HC1.out _) ?_
            rintro e w6 ⟨rfl, rfl⟩
            go_wp2
            go_roundw
            case rel => exact ⟨k + 1, by omega, by go_num, HB⟩
            case measure => simp [intOf]; omega
      · obtain rfl : k = ts.length := by omega
        go_wp2
        go_loopw [107] (fun i wr => ∃ k : Nat, k ≤ R.size ∧ i = .int .i64 k ∧ Hid (Below w5.heap.size w5 wr))
          (fun i _ => R.size - (intOf i).toNat)
        case atStart => exact ⟨0, Nat.zero_le _, rfl, HB⟩
        case round =>
          clear HB
          obtain ⟨k, hk, rfl, HB⟩ := hrel
          have hk0 : (0 : Int) ≤ (k : Int) := Int.natCast_nonneg _
          by_cases hlt : k < R.size
          · have hlt' : (k : Int) < (R.size : Int) := by omega
            have hkx : k < x.length := by have := HZ.out; omega
            have hex := HEX.out k hkx
            have HTO := Lib.hid (HBK.out x[k] (List.getElem_mem hkx))
            obtain ⟨p1, hp1⟩ : ∃ p1 : Nat, p1 = k + 1 := ⟨_, rfl⟩
            have hw1 : IntKind.i64.wrap ((k : Int) + 1) = (p1 : Int) := (IntWalk.i64_in _ (by omega)).trans (by omega)
            have hkp : (k : Int) ≤ (p1 : Int) := by omega
            have hpz : (p1 : Int) ≤ (R.size : Int) := by omega
            rw [← hp1] at hex
            have HP1E := Lib.hid hp1
            clear hp1
            generalize x[k] = y at *
            have hsy := fun d : UInt8 => (rfl : sameB ⟨#[d]⟩ ⟨#[y]⟩ = ((⟨#[d]⟩ : ByteArray).toList == (⟨#[y]⟩ : ByteArray).toList))
            generalize hby : (⟨#[y]⟩ : ByteArray) = bv at *
            clear hby
            have HSY := Lib.hid hsy
            clear hsy
            go_wp2
            go_loopw [112, 13] (fun i v wr => ∃ m : Nat, m ≤ ts.length ∧ i = .int .i64 m ∧ v = .bool (hitTo bu R bv ts m) ∧ Hid (Below w5.heap.size w5 wr))
              (fun i _ _ => ts.length - (intOf i).toNat)
            case atStart => exact ⟨0, Nat.zero_le _, rfl, rfl, HB⟩
            case round =>
              obtain ⟨m, hm, rfl, rfl, HBI⟩ := hrel
              have hm0 : (0 : Int) ≤ (m : Int) := Int.natCast_nonneg _
              by_cases hlm : m < ts.length
              · have hlm' : (m : Int) < (ts.length : Int) := by omega
                obtain ⟨b9, o, rfl, hB, hc⟩ := HT5.out (by omega)
                have c1 := hc m ts[m] (List.getElem?_eq_getElem hlm)
                rw [← HBI.out.cell (p := ⟨b9, o + m, none⟩) hB] at c1
                obtain ⟨a, d, hp, -⟩ := HPO.out ts[m] (List.getElem_mem hlm)
                have HSM := Lib.hid (hitTo_succ (name := bu) (R := R) (v := bv) hlm)
                rw [hp] at c1 HSM
                have hh : hit7 bu R bv (strOf [a, d]) = (((⟨#[d]⟩ : ByteArray).toList == bv.toList) && (((⟨#[a]⟩ : ByteArray).toList == bu.toList) || hasT R ⟨#[a]⟩)) := rfl
                rw [hh] at HSM
                obtain ⟨hz2, hx1, hx2⟩ := two_cut a d
                clear hc hp hh
                have HV := Lib.hid (HSV.out ⟨#[a]⟩)
                generalize strOf [a, d] = p at *
                generalize (⟨#[a]⟩ : ByteArray) = ba at *
                generalize (⟨#[d]⟩ : ByteArray) = bd at *
                cases hin : hitTo bu R bv ts m with
                | true =>
                  rw [hin, Bool.true_or] at HSM
                  go_wp2_with fail
                  go_quiet (fail)
                  go_wp2
                  go_roundw
                  case rel => exact ⟨m + 1, by omega, by go_num, by rw [HSM.out], below_drewN HBI.out _⟩
                  case measure => simp [intOf]; omega
                | false =>
                  rw [hin, Bool.false_or] at HSM
                  cases h1 : (bd.toList == bv.toList) with
                  | false =>
                    rw [h1, Bool.false_and] at HSM
                    go_wp2_with fail
                    go_quiet (fail)
                    go_wp2
                    go_roundw
                    case rel => exact ⟨m + 1, by omega, by go_num, by rw [HSM.out], below_drewN HBI.out _⟩
                    case measure => simp [intOf]; omega
                  | true =>
                    rw [h1, Bool.true_and] at HSM
                    cases h2 : (ba.toList == bu.toList) with
                    | true =>
                      rw [h2, Bool.true_or] at HSM
                      go_wp2_with fail
                      go_quiet (fail)
                      go_wp2
                      go_roundw
                      case rel => exact ⟨m + 1, by omega, by go_num, by rw [HSM.out], below_drewN HBI.out _⟩
                      case measure => simp [intOf]; omega
                    | false =>
                      rw [h2, Bool.false_or] at HSM
                      cases h3 : hasT R ba with
                      | true =>
                        rw [h3] at HSM
                        have HC := Lib.hid (HV.out true h3)
                        go_wp2_with fail
                        go_quiet (first | (go_at_call 15; exact Calls.quiet_of_same (HC.out _)))
                        go_wp2
                        go_roundw
                        case rel => exact ⟨m + 1, by omega, by go_num, by rw [HSM.out], below_drewN HBI.out _⟩
                        case measure => simp [intOf]; omega
                      | false =>
                        rw [h3] at HSM
                        have HC := Lib.hid (HV.out false h3)
                        go_wp2_with fail
                        go_quiet (first | (go_at_call 15; exact Calls.quiet_of_same (HC.out _)))
                        go_wp2
                        go_roundw
                        case rel => exact ⟨m + 1, by omega, by go_num, by rw [HSM.out], below_drewN HBI.out _⟩
                        case measure => simp [intOf]; omega
              · obtain rfl : m = ts.length := by omega
                rw [HTO.out]
                go_wp2
                go_roundw
                case rel => exact ⟨p1, by have := HP1E.out; omega, rfl, HBI⟩
                case measure => have := HP1E.out; simp [intOf]; omega
          · obtain rfl : k = R.size := by omega
            have HBF : Hid (Below w.heap.size w wr) := HB1.out.trans ((HB5.out.trans (HB.out.mono HB5.out.size)).mono HB1.out.size)
            go_wp2
            go_ret
            exact ⟨rfl, HBF.out⟩

end Go.Proofs.Ytbmfbnlmdjnddaa
/- Draws of a tree and pairs (and a name): what they leave. -/
namespace Go.Proofs.Ytbmfbnlmdjnddaa
open Go.RowKit

/-- A tree and pairs that are drawn. -/
def PairsHad (w : World) (e : Ending) (w' : World) : Prop :=
  ∃ (A : Option Addr) (l : List Seg) (c : Nat) (A2 : Option Addr) (ts : List ByteArray) (c2 : Nat), e = .returned (.tuple #[.slice A (List.length l) c, .slice A2 (List.length ts) c2]) ∧ TreeHas w' A l c ∧ St.Strs w' w'.heap.size A2 ts ∧ ts.length ≤ 100 ∧ (∀ x ∈ ts, x.size ≤ 1000) ∧ Below w.heap.size w w'

set_option maxRecDepth 100000 in
set_option maxHeartbeats 1000000 in
theorem drawReached_any (hgood : GoodSaid) (A0 : Option Addr) (n c0 : Nat) (w : World) (hn : n ≤ c0) (hx : ∀ b, w.heap.size ≤ b → Bytes w b A0 n) :
    Calls Try.prog 10 #[.slice A0 n c0] w (ReachDrawn w) := by
  have HO := Lib.hid (l13Open_any A0 n c0 w hn hx)
  have HP := Lib.hid (fun b w h => l7Some_any hgood b 0 w h (Nat.zero_le _))
  clear hx hgood
  unfold ReachDrawn
  go_enter Try.func10, Try.ntmps10
  go_wp2_with fail
  refine Calls.mono HO.out ?_
  rintro e w1 ⟨b, rfl, hbb, hr, hb1⟩
  have HB1 := Lib.hid hb1
  have HPP := Lib.hid (HP.out b w1 hr)
  unfold PairsSome at HPP
  clear hr hb1 HP HO
  go_wp2_with fail
  refine Calls.mono HPP.out ?_
  rintro e w2 ⟨A, l, c, A2, ts, c2, rfl, ⟨hs, hA⟩, hl, hsh, ⟨ht, hA2⟩, htl, hts, ho, hr2⟩
  have HS2 := Lib.hid hs
  have HA := Lib.hid hA
  have HL := Lib.hid hl
  have HSH := Lib.hid hsh
  have HT2 := Lib.hid ht
  have HA2 := Lib.hid hA2
  have HTS := Lib.hid hts
  have HB2 := Lib.hid (only_below HB1.out hbb ho)
  have HR2 := Lib.hid hr2
  clear hs hA hl hsh ht hA2 hts ho hr2 HPP
  go_wp2_with fail
  refine (l1Any_any b _ w2 HR2.out (by omega)).mono ?_
  rintro e w3 ⟨y, rfl, hy, ho3, hr3⟩
  have HT : Hid (TreeHas w3 A l c) := ⟨HS2.out.farO ho3 HA.out, HL.out, HSH.out⟩
  have HT3 : Hid (St.Strs w3 w3.heap.size A2 ts) := fun h0 => by
    obtain ⟨b9, o9, e9, hB, hc⟩ := HT2.out h0
    refine ⟨b9, o9, e9, Nat.lt_of_lt_of_le hB ho3.size, fun k s hk => ?_⟩
    have h1 : w3.heap[b9]? = w2.heap[b9]? := ho3.block b9 hB (fun e => by have := HA2.out b9 o9 e9; omega)
    have h2 : w3.cell? ⟨b9, o9 + k, none⟩ = w2.cell? ⟨b9, o9 + k, none⟩ := by simp only [World.cell?, h1]
    rw [h2]
    exact hc k s hk
  have HB3 := Lib.hid (only_below HB2.out hbb ho3)
  have HY := Lib.hid hy
  clear ho3 hr3 hy
  go_wp2
  refine bodyPost_ret (v := .tuple #[.slice A l.length c, .slice A2 ts.length c2, .string y]) (by simp [results, Try.results10, go_sem]) rfl ?_
  exact ⟨A, l, c, A2, ts, c2, y, rfl, HT.out, HT3.out, htl, HTS.out, HY.out, HB3.out⟩

end Go.Proofs.Ytbmfbnlmdjnddaa
