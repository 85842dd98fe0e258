/- Joined: Io Jq Rj. -/
import Derived.Test.YtbmfbnlmdjnddaaGreatU28
import Derived.Test.YtbmfbnlmdjnddaaGreatU29
import Derived.Test.YtbmfbnlmdjnddaaGreatU27
import Derived.Test.YtbmfbnlmdjnddaaGreatU09
import Derived.Lib.IndexBytes
/- What FnTogether asks of pairs that may be active at once: plain. -/
namespace Go.Proofs.YtbmfbnlmdjnddaaGreat
open Go.RowKit

theorem callP_of {l : List Seg} (hv : validB l = true) {i : Nat} (hi : i < l.length) : callP l (byteOf l i) = true := by
  have h1 : indexB l ⟨#[byteOf l i]⟩ = seek l ⟨#[byteOf l i]⟩ := if_pos hv
  have h2 : seek l ⟨#[byteOf l i]⟩ = (i : Int) := bSeek_byte hv hi
  exact decide_eq_true (by rw [h1, h2]; omega)
theorem callP_held {l : List Seg} (hv : validB l = true) {u : UInt8} (h : callP l u = true) : takenB l ⟨#[u]⟩ = true := by
  obtain ⟨i, hi, rfl⟩ := callP_byte hv h
  unfold takenB
  rw [List.any_eq_true]
  exact ⟨l[i], List.getElem_mem hi, sameB_iff.2 (nmAt_one hv hi).2⟩
/-- Each of them: two names in their order, of which one is reached from the other. -/
theorem tog_two {l : List Seg} {ts : List ByteArray} (h : graphB l ts = true) {x : Txt} (hx : x ∈ togTxt l ts) : ∃ u v, x = [u, v] ∧ ([u] : Txt) < [v] ∧ callP l u = true ∧ callP l v = true ∧
    (hasT (strOf (reachTxt l (psOf ts) u)) ⟨#[v]⟩ = true ∨ hasT (strOf (reachTxt l (psOf ts) v)) ⟨#[u]⟩ = true) := by
  have hG := graph_is h
  rw [togTxt_ok h] at hx
  rcases (putAll_mem _ _ _).1 hx with hx | hx
  · cases hx
  · unfold mades madeOf at hx
    obtain ⟨a, ha, hx⟩ := List.mem_flatMap.1 hx
    obtain ⟨b, hb, hx⟩ := List.mem_flatMap.1 hx
    have hca : callP l a = true := by
      unfold liveTxt at ha
      obtain ⟨i, hi, rfl⟩ := List.mem_map.1 ha
      exact callP_of hG.valid (List.mem_range.1 (List.mem_filter.1 hi).1)
    have hcb := reach_callP hG a b hb
    unfold sym2 at hx
    split at hx
    · next hlt =>
      rw [List.mem_singleton] at hx
      exact ⟨a, b, hx, hlt, hca, hcb, .inl (by rw [hasT_one, decide_eq_true_eq, reachTxt_mem hG]; exact hb)⟩
    · split at hx
      · next hlt =>
        rw [List.mem_singleton] at hx
        exact ⟨b, a, hx, hlt, hcb, hca, .inr (by rw [hasT_one, decide_eq_true_eq, reachTxt_mem hG]; exact hb)⟩
      · cases hx
theorem tog_asc {l : List Seg} {ts : List ByteArray} (h : graphB l ts = true) : (togTxt l ts).Pairwise (· < ·) := by
  rw [togTxt_ok h]
  exact putAll_sorted _ [] List.Pairwise.nil
theorem tog_step {l : List Seg} {ts : List ByteArray} (h : graphB l ts = true) {i : Nat} (hi : i + 1 < (togTxt l ts).length) : (togTxt l ts)[i]'(by omega) < (togTxt l ts)[i + 1] :=
  List.pairwise_iff_getElem.1 (tog_asc h) i (i + 1) (by omega) hi (by omega)
/-- How many of the first ones a test meets. -/
def cntTo {α : Type} (p : α → Bool) (T : List α) (i : Nat) : Nat := ((T.take i).filter p).length
theorem cntTo_succ {α : Type} {p : α → Bool} {T : List α} {i : Nat} (h : i < T.length) : cntTo p T (i + 1) = cntTo p T i + (if p T[i] = true then 1 else 0) := by
  unfold cntTo
  rw [List.take_succ_eq_append_getElem h, List.filter_append, List.length_append]
  congr 1
  rw [List.filter_cons]
  split <;> rfl
theorem cntTo_at {α : Type} {p : α → Bool} {T : List α} {i : Nat} (h : i < T.length) (hp : p T[i] = true) : (T.filter p)[cntTo p T i]? = some T[i] := by
  have h1 : T = T.take i ++ T[i] :: T.drop (i + 1) := by rw [← List.drop_eq_getElem_cons h, List.take_append_drop]
  have h2 : T.filter p = (T.take i).filter p ++ T[i] :: (T.drop (i + 1)).filter p := by
    conv => lhs; rw [h1]
    rw [List.filter_append, List.filter_cons, if_pos hp]
  rw [h2]
  unfold cntTo
  rw [List.getElem?_append_right (Nat.le_refl _), Nat.sub_self]
  rfl
theorem cntTo_all {α : Type} (p : α → Bool) (T : List α) : cntTo p T T.length = (T.filter p).length := by
  unfold cntTo
  rw [List.take_length]
theorem cntTo_le {α : Type} (p : α → Bool) (T : List α) (i : Nat) : cntTo p T i ≤ T.length := by
  unfold cntTo
  have h1 := List.length_filter_le p (T.take i)
  have h2 := List.length_take_le' i T
  omega
theorem cut_less (u v : UInt8) : Op.bytesLess (⟨#[u]⟩ : ByteArray).toList (⟨#[v]⟩ : ByteArray).toList = decide (([u] : Txt) < [v]) := txt_less [u] [v]

end Go.Proofs.YtbmfbnlmdjnddaaGreat
/- The program's ReachedFrom. -/
namespace Go.Proofs.YtbmfbnlmdjnddaaGreat
open Go.RowKit Go.Shelf

attribute [local irreducible] waysB in
set_option maxRecDepth 100000 in
set_option maxHeartbeats 4000000 in
theorem implReached_any (A : Option Addr) (l : List Seg) (c : Nat) (A2 : Option Addr) (ts : List ByteArray) (c2 : Nat) (s : ByteArray) (w : World) (hw : Segs w w.heap.size A l) (ht : St.Strs w w.heap.size A2 ts) (hl : l.length ≤ 1048576) (hlc : l.length ≤ c) (hcm : c ≤ 9223372036854775807) (hn : Short l) (htl : ts.length ≤ 1048576) (hts : ∀ s ∈ ts, s.size ≤ 1048576) (_hs : s.size ≤ 1048576) :
    Calls Tryz.prog 24 #[.slice A l.length c, .slice A2 ts.length c2, .string s] w fun e w' => e = .returned (.tuple #[.string (reachRes l ts s), .bool (reachOk l ts s)]) ∧ Below w.heap.size w w' := by
  have HQ := Lib.hid (graphOf_any A l c A2 ts c2 w hw ht hl hlc hcm hn htl hts)
  unfold GraphPost at HQ
  have HN := Lib.hid (fun W h => nameTaken_any A l c s W h hl)
  have HW : Hid (Segs w w.heap.size A l) := hw
  clear hw ht hn hts
  go_enter Tryz.func24, Tryz.ntmps24
  go_wp2_with fail
  refine Calls.mono HQ.out ?_
  rintro e w1 ⟨hb1, (⟨hg, rfl⟩ | ⟨hg, b, rfl, hGA⟩)⟩
  · have HR : Hid (reachRes l ts s = ⟨#[]⟩ ∧ reachOk l ts s = false) := by
      have h1 : reachOk l ts s = false := by unfold reachOk; rw [hg]; rfl
      exact ⟨by unfold reachRes; rw [if_neg (by rw [h1]; decide)], h1⟩
    clear hg
    go_wp2
    go_ret2
    exact ⟨by rw [HR.out.1, HR.out.2]; rfl, hb1⟩
  · have hG := graph_is hg
    have HB1 := Lib.hid hb1
    have HGA := Lib.hid hGA
    cases htk : takenB l s with
    | false =>
      have HR : Hid (reachRes l ts s = ⟨#[]⟩ ∧ reachOk l ts s = false) := by
        have h1 : reachOk l ts s = false := by unfold reachOk; rw [hg, htk]; rfl
        exact ⟨by unfold reachRes; rw [if_neg (by rw [h1]; decide)], h1⟩
      rw [htk] at HN
      clear hg hG hb1 hGA htk
      go_wp2_with fail
      refine Calls.mono (HN.out _ ((HW.out.below HB1.out).more HB1.out.size)) ?_
      rintro e w2 ⟨rfl, hb2⟩
      have HB2 : Hid (Below w.heap.size w w2) := HB1.out.trans (hb2.mono HB1.out.size)
      go_wp2
      go_ret2
      exact ⟨by rw [HR.out.1, HR.out.2]; rfl, HB2.out⟩
    | true =>
      obtain ⟨u, rfl⟩ := taken_one hG.valid htk
      have HR : Hid (reachRes l ts ⟨#[u]⟩ = sortedB l (reachL (psOf ts) u) ∧ reachOk l ts ⟨#[u]⟩ = true) := by
        have h1 : reachOk l ts ⟨#[u]⟩ = true := by unfold reachOk; rw [hg, htk]; rfl
        exact ⟨by unfold reachRes; rw [if_pos h1]; rfl, h1⟩
      rw [htk] at HN
      have HV := Lib.hid hG.valid
      have h8 := (valid_all hG.valid).2.1
      have HRF := Lib.hid (fun W h1 h2 => reachedFrom_any w.heap.size w1.heap.size b l (psOf ts) u W hG h1 h2)
      have hr20 := reachL_le hG u
      have HG : Hid (∀ i, decide (([byteOf l i] : Txt) ∈ (reachL (psOf ts) u).map fun c => [c]) = inB7 l (reachL (psOf ts) u) i) := fun i => by
        unfold inB7
        rw [singles_mem]
      clear hg hG hb1 hGA htk
      unfold sortedB at HR
      generalize hRL : reachL (psOf ts) u = RL at *
      generalize hg7 : inB7 l RL = g at *
      clear hRL hg7
      generalize hbu : (⟨#[u]⟩ : ByteArray) = bu at *
      have HBU := Lib.hid hbu
      clear hbu
      go_wp2_with fail
      refine Calls.mono (HN.out _ ((HW.out.below HB1.out).more HB1.out.size)) ?_
      rintro e w2 ⟨rfl, hb2⟩
      have HB2 : Hid (Below w.heap.size w w2) := HB1.out.trans (hb2.mono HB1.out.size)
      have HGA2 : Hid (GraphAt w2 w.heap.size w1.heap.size b (psOf ts)) := HGA.out.below hb2
      have hz2 := hb2.size
      clear hb2
      go_wp2_with fail
      refine Calls.mono (HRF.out _ HGA2.out hz2) ?_
      rintro e w3 ⟨rfl, hs3, hb3⟩
      have HB3 : Hid (Below w.heap.size w w3) := HB2.out.trans (hb3.mono HB2.out.size)
      have HS3 := Lib.hid hs3
      have hc3 := hs3.lt
      clear hs3 hb3
      generalize w2.heap.size = c0 at *
      have hI0 : Hid (Lib.IsBuilderF 107 5 w3.heap.size w3.heap.size (Lib.byteCells (namesAt l (selIx g 0)).data.toList) (w3.alloc (.cells #[.pointer none, .slice none 0 0] 107))) :=
        Lib.IsBuilderF.of (Lib.fresh_isBuilder 107 5 w3)
      have hB0 : Hid (Below w3.heap.size w3 (w3.alloc (.cells #[.pointer none, .slice none 0 0] 107))) := (Below.refl _ w3).alloc (Nat.le_refl _) _
      go_wp2
      go_loopw [33] (fun i wr => ∃ k : Nat, k ≤ l.length ∧ i = .int .i64 k ∧ Hid (Lib.IsBuilderF 107 5 w3.heap.size w3.heap.size (Lib.byteCells (namesAt l (selIx g k)).data.toList) wr) ∧ Hid (Below w3.heap.size w3 wr))
        (fun i _ => l.length - (intOf i).toNat)
      case atStart => exact ⟨0, Nat.zero_le _, rfl, hI0, hB0⟩
      case round =>
        clear hI0 hB0
        obtain ⟨k, hk, rfl, HI, HB⟩ := hrel
        have hk0 : (0 : Int) ≤ (k : Int) := Int.natCast_nonneg _
        have hbz := HB.out.size
        by_cases hlt : k < l.length
        · have hlt' : (k : Int) < (l.length : Int) := by omega
          obtain ⟨b9, o, rfl, hB, hc⟩ := HW.out (by omega)
          obtain ⟨d0, d1, d2⟩ := hc k l[k] (List.getElem?_eq_getElem hlt)
          clear hc
          have HBW : Hid (Below w.heap.size w wr) := HB3.out.trans (HB.out.mono HB3.out.size)
          rw [← HBW.out.cell hB] at d0 d1 d2
          have hn1 := (nmAt_one HV.out hlt).2
          have HS := Lib.hid (selIx_succ g k)
          have HGK := Lib.hid (HG.out k)
          have HNS : Hid (∀ js : List Nat, namesAt l (js ++ [k]) = namesAt l js ++ ⟨#[byteOf l k]⟩) := fun js => by rw [← hn1]; exact namesAt_snoc js hlt
          have hlook := (HS3.out.block (HB.out.block _ hc3)).look [byteOf l k] (by rw [str_size]; exact (by decide : 1 ≤ 1000))
          rw [HGK.out] at hlook
          rw [hn1] at d0
          generalize l[k] = sg at *
          have hlook' : (Instr.lookup 99 (.map (some c0)) (.string ⟨#[byteOf l k]⟩) false).run Tryz.prog (wr.alloc (.cells #[.string ⟨#[byteOf l k]⟩, .int .i64 sg.size, .int .i64 sg.par] 51)) = .ok (.bool (g k)) (wr.alloc (.cells #[.string ⟨#[byteOf l k]⟩, .int .i64 sg.size, .int .i64 sg.par] 51)) := by
            have h1 := ((HS3.out.block (HB.out.block _ hc3)).block (Y := wr.alloc (.cells #[.string ⟨#[byteOf l k]⟩, .int .i64 sg.size, .int .i64 sg.par] 51)) (Below.heap_alloc wr _ _ (by omega))).look [byteOf l k] (by rw [str_size]; exact (by decide : 1 ≤ 1000))
            rw [HGK.out] at h1
            exact h1
          clear hlook
          have HIA : Hid (Lib.IsBuilderF 107 5 w3.heap.size w3.heap.size (Lib.byteCells (namesAt l (selIx g k)).data.toList) (wr.alloc (.cells #[.string ⟨#[byteOf l k]⟩, .int .i64 sg.size, .int .i64 sg.par] 51))) := Lib.IsBuilderF.alloc HI.out _
          have HBA : Hid (Below w3.heap.size w3 (wr.alloc (.cells #[.string ⟨#[byteOf l k]⟩, .int .i64 sg.size, .int .i64 sg.par] 51))) := HB.out.alloc hbz _
          have hln : (namesAt l (selIx g k)).size ≤ 1048576 := by
            have h1 := namesAt_len (valid_names HV.out) (selIx g k)
            have h2 := selIx_len g k
            omega
          generalize byteOf l k = bt at *
          cases hf : g k with
          | false =>
            rw [hf] at hlook'
            have HI1 : Hid (Lib.IsBuilderF 107 5 w3.heap.size w3.heap.size (Lib.byteCells (namesAt l (selIx g (k + 1))).data.toList) (wr.alloc (.cells #[.string ⟨#[bt]⟩, .int .i64 sg.size, .int .i64 sg.par] 51))) := by
              show Lib.IsBuilderF _ _ _ _ _ _
              rw [HS.out, if_neg (by rw [hf]; decide), List.append_nil]
              exact HIA.out
            clear hf HS
            go_wp2
            go_roundw
            case rel => exact ⟨k + 1, by omega, by go_num, HI1, HBA⟩
            case measure => simp [intOf]; omega
          | true =>
            rw [hf] at hlook'
            have HS1 : Hid (Lib.byteCells (namesAt l (selIx g (k + 1))).data.toList = Lib.byteCells (namesAt l (selIx g k)).data.toList ++ Lib.strCells ⟨#[bt]⟩) := by
              show _ = _
              rw [HS.out, if_pos hf, HNS.out, ByteArray.data_append, Array.toList_append]
              simp [Lib.byteCells, Lib.strCells]
            have hl1 : (Lib.byteCells (namesAt l (selIx g k)).data.toList).length + (⟨#[bt]⟩ : ByteArray).size ≤ 140737488355328 := by
              have h1 : (Lib.byteCells (namesAt l (selIx g k)).data.toList).length = (namesAt l (selIx g k)).size := by simp [Lib.byteCells]
              have h2 : (⟨#[bt]⟩ : ByteArray).size = 1 := rfl
              omega
            clear hf HS
            generalize (⟨#[bt]⟩ : ByteArray) = bbt at *
            go_wp2_with fail
            refine (writeString_any w3.heap.size w3.heap.size _ bbt _ HIA.out hl1 (by simp; omega)).mono ?_
            rintro e w5 ⟨rfl, hI1, hb5, hk5⟩
            have HI1 : Hid (Lib.IsBuilderF 107 5 w3.heap.size w3.heap.size (Lib.byteCells (namesAt l (selIx g (k + 1))).data.toList) w5) := by
              show Lib.IsBuilderF _ _ _ _ _ _
              rw [HS1.out]
              exact hI1
            have HB5 : Hid (Below w3.heap.size w3 w5) := HBA.out.trans (hb5.mono (Nat.le_refl _))
            clear hI1 hb5 hk5
            go_wp2
            go_roundw
            case rel => exact ⟨k + 1, by omega, by go_num, HI1, HB5⟩
            case measure => simp [intOf]; omega
        · obtain rfl : k = l.length := by omega
          go_wp2_with fail
          refine (Tryz.Builder_String_any_k w3.heap.size w3.heap.size _ _ HI.out (by omega)).mono ?_
          rintro e w5 ⟨rfl, hI1, hb5, hk5⟩
          have HB5 : Hid (Below w.heap.size w w5) := HB3.out.trans ((HB.out.trans (hb5.mono (by omega))).mono HB3.out.size)
          clear hI1 hb5 hk5
          go_wp2
          go_ret2
          exact ⟨by rw [HBU.out, HR.out.1, HR.out.2]; rfl, HB5.out⟩

end Go.Proofs.YtbmfbnlmdjnddaaGreat
/- The reference's reading, plain: its steps at a place of the text. -/
namespace Go.Proofs.YtbmfbnlmdjnddaaGreat

theorem tw_take (p : UInt8 → Bool) : ∀ (n m : Nat) (r : List UInt8), m ≤ n → (∀ j, j < m → ∃ h : j < r.length, p r[j] = true) → (m = n ∨ r.length ≤ m ∨ ∃ h : m < r.length, p r[m] = false) → (r.take n).takeWhile p = r.take m
  | 0, 0, _, _, _, _ => by simp
  | 0, m + 1, _, h, _, _ => absurd h (by omega)
  | n + 1, 0, [], _, _, _ => rfl
  | n + 1, 0, c :: r, _, _, h2 => by
    rcases h2 with h | h | ⟨_, h⟩
    · omega
    · simp at h
    · rw [List.take_succ_cons, List.takeWhile_cons, if_neg (by simp at h; simp [h])]
      rfl
  | n + 1, m + 1, [], _, h1, _ => by
    obtain ⟨h, _⟩ := h1 0 (by omega)
    simp at h
  | n + 1, m + 1, c :: r, hm, h1, h2 => by
    obtain ⟨_, h0⟩ := h1 0 (by omega)
    rw [List.take_succ_cons, List.takeWhile_cons, if_pos (by simpa using h0), List.take_succ_cons]
    congr 1
    refine tw_take p n m r (by omega) (fun j hj => ?_) ?_
    · obtain ⟨h, h3⟩ := h1 (j + 1) (by omega)
      exact ⟨by simpa using h, by simpa using h3⟩
    · rcases h2 with h | h | ⟨h, h3⟩
      · exact .inl (by omega)
      · exact .inr (.inl (by simpa using h))
      · exact .inr (.inr ⟨by simpa using h, by simpa using h3⟩)

/-- The digits between two places. -/
theorem digs_at {t : ByteArray} {a j : Nat} (ha : a ≤ j) (hj : j ≤ t.size) (h3 : j ≤ a + 3) (h1 : ∀ i, a ≤ i → ∀ h : i < t.size, i < j → isDig t[i] = true) (h2 : j = a + 3 ∨ t.size ≤ j ∨ ∃ h : j < t.size, isDig t[j] = false) :
    digs (t.data.toList.drop a) = (t.data.toList.drop a).take (j - a) ∧ (digs (t.data.toList.drop a)).length = j - a := by
  have hl : (t.data.toList.drop a).length = t.size - a := by simp
  have e : digs (t.data.toList.drop a) = (t.data.toList.drop a).take (j - a) := by
    unfold digs
    refine tw_take isDig 3 (j - a) _ (by omega) (fun i hi => ?_) ?_
    · refine ⟨by omega, ?_⟩
      have hz : a + i < t.data.size := show a + i < t.size by omega
      have h5 : isDig (t.data[a + i]'hz) = true := h1 (a + i) (by omega) hz (by omega)
      simpa using h5
    · rcases h2 with h | h | ⟨h, h4⟩
      · exact .inl (by omega)
      · exact .inr (.inl (by omega))
      · refine .inr (.inr ⟨by omega, ?_⟩)
        have h6 : a + (j - a) = j := by omega
        have hz : j < t.data.size := h
        have h5 : isDig (t.data[j]'hz) = false := h4
        simp only [List.getElem_drop, Array.getElem_toList, h6]
        exact h5
  refine ⟨e, ?_⟩
  rw [e, List.length_take]
  omega

/-- The tree with a segment more. -/
def grow1 (tr : List Seg) (c : UInt8) (r : List UInt8) (p : Int) : List Seg := tr ++ [⟨⟨#[c]⟩, numB (digs r), p⟩]
/-- What follows the first child. -/
def sAfter (f own : Nat) (s2 : SSt) : SSt := sKids (fun x => sSeg f x own) (s2.rest.length + 1) s2

theorem sSeg_no {t : ByteArray} {k j f : Nat} {c : UInt8} {tr : List Seg} {p : Int} (h8 : tr.length ≤ 8) (hd : t.data.toList.drop k = c :: t.data.toList.drop (k + 1)) (hj : (digs (t.data.toList.drop (k + 1))).length = j - (k + 1)) (hkj : k + 1 ≤ j) (hn : nextB t j 40 = false) :
    sSeg (f + 1) ⟨t.data.toList.drop k, false, tr⟩ p = ⟨t.data.toList.drop j, !numOk (digs (t.data.toList.drop (k + 1))), grow1 tr c (t.data.toList.drop (k + 1)) p⟩ := by
  rw [hd, sSeg_open f c _ tr p h8, hj, List.drop_drop, show k + 1 + (j - (k + 1)) = j by omega]
  unfold nextB at hn
  cases hr : t.data.toList.drop j with
  | nil => rfl
  | cons d r3 =>
    rw [hr] at hn
    have : d ≠ 40 := fun e => by subst e; simp at hn
    simp only [if_neg this]
    rfl
theorem sSeg_yes {t : ByteArray} {k j f : Nat} {c : UInt8} {tr : List Seg} {p : Int} (h8 : tr.length ≤ 8) (hd : t.data.toList.drop k = c :: t.data.toList.drop (k + 1)) (hj : (digs (t.data.toList.drop (k + 1))).length = j - (k + 1)) (hkj : k + 1 ≤ j) (hn : t.data.toList.drop j = 40 :: t.data.toList.drop (j + 1)) :
    sSeg (f + 1) ⟨t.data.toList.drop k, false, tr⟩ p = sAfter f tr.length (sSeg f ⟨t.data.toList.drop (j + 1), !numOk (digs (t.data.toList.drop (k + 1))), grow1 tr c (t.data.toList.drop (k + 1)) p⟩ tr.length) := by
  rw [hd, sSeg_open f c _ tr p h8, hj, List.drop_drop, show k + 1 + (j - (k + 1)) = j by omega, hn]
  simp only [if_true]
  rfl
theorem sSeg_not {f : Nat} {r : List UInt8} {bad : Bool} {tr : List Seg} {p : Int} (h : bad = true ∨ 8 < tr.length ∨ r = [] ∨ f = 0) : sSeg f ⟨r, bad, tr⟩ p = ⟨r, true, tr⟩ := by
  cases f with
  | zero => rfl
  | succ f =>
    unfold sSeg
    rcases h with rfl | h | rfl | h
    · rfl
    · rw [if_pos (by simp [h])]
    · split <;> rfl
    · cases h
theorem sKids_comma {seg : SSt → SSt} {g : Nat} {r : List UInt8} {bad : Bool} {tr : List Seg} : sKids seg (g + 1) ⟨44 :: r, bad, tr⟩ = sKids seg g (seg ⟨r, bad, tr⟩) := by
  conv => lhs; unfold sKids
  simp only [if_true]
theorem sKids_bad {seg : SSt → SSt} {g : Nat} {r : List UInt8} {tr : List Seg} (h : ∀ d u, r = d :: u → d ≠ 44) : sKids seg (g + 1) ⟨r, true, tr⟩ = ⟨r, true, tr⟩ := by
  unfold sKids
  cases r with
  | nil => rfl
  | cons d u =>
    simp only [if_neg (h d u rfl)]
    rfl
theorem sKids_close {seg : SSt → SSt} {g : Nat} {r : List UInt8} {tr : List Seg} : sKids seg (g + 1) ⟨41 :: r, false, tr⟩ = ⟨r, false, tr⟩ := by
  conv => lhs; unfold sKids
  simp
theorem sKids_else {seg : SSt → SSt} {g : Nat} {r : List UInt8} {tr : List Seg} (h1 : ∀ d u, r = d :: u → d ≠ 44) (h2 : ∀ d u, r = d :: u → d ≠ 41) : sKids seg (g + 1) ⟨r, false, tr⟩ = ⟨r, true, tr⟩ := by
  unfold sKids
  cases r with
  | nil => rfl
  | cons d u =>
    simp [h1 d u rfl, h2 d u rfl]

end Go.Proofs.YtbmfbnlmdjnddaaGreat

/- The reference's reader: segment. -/
namespace Go.Proofs.YtbmfbnlmdjnddaaGreat
open Go.RowKit

/-- What segment has done. -/
def SpecPost (w : World) (B b : Nat) (t : ByteArray) (k : Nat) (s : SSt) (e : Ending) (w' : World) : Prop :=
  e = .returned (.tuple #[]) ∧ ∃ (k' : Nat) (v' : Value), s.rest = t.data.toList.drop k' ∧ k ≤ k' ∧ k' ≤ t.size ∧ Row w' b 238 #[.string t, .int .i64 k', .bool s.bad, v'] ∧ OwnTree w' B v' s.tree ∧ Below B w w'

theorem OwnTree.set {w : World} {B b : Nat} {v : Value} {tr : List Seg} {t : TypeId} {cs : Array Value} (h : OwnTree w B v tr) (hr : Row w b t cs) (hne : 51 ≠ t) (i : Nat) (u : Value) : OwnTree (w.setCell ⟨b, i, none⟩ u) B v tr :=
  h.far fun g hg => Below.heap_setCell w ⟨b, i, none⟩ u g (h.ne hr hne g hg)

set_option maxRecDepth 100000 in
set_option maxHeartbeats 2000000 in
theorem segment_not (B b : Nat) (t : ByteArray) (f k : Nat) (p : Int) (bad : Bool) (tr : List Seg) (v : Value) (w : World) (hk : k ≤ t.size) (hBb : B ≤ b) (hr : Row w b 238 #[.string t, .int .i64 k, .bool bad, v]) (hown : OwnTree w B v tr)
    (h : bad = true ∨ 8 < tr.length ∨ k = t.size) :
    Calls Tryz.prog 206 #[.pointer (some ⟨b, 0, none⟩), .int .i64 p] w (SpecPost w B b t k (sSeg f ⟨t.data.toList.drop k, bad, tr⟩ p)) := by
  have hS : sSeg f ⟨t.data.toList.drop k, bad, tr⟩ p = ⟨t.data.toList.drop k, true, tr⟩ := sSeg_not (by
    rcases h with h | h | h
    · exact .inl h
    · exact .inr (.inl h)
    · exact .inr (.inr (.inl (List.drop_of_length_le (by simp; omega)))))
  rw [hS]
  clear hS
  obtain ⟨A, cap, rfl, -⟩ := hown.form
  have c0 : w.cell? ⟨b, 0, none⟩ = some (.string t) := hr.cell 0
  have c1 : w.cell? ⟨b, 1, none⟩ = some (.int .i64 k) := hr.cell 1
  have c2 : w.cell? ⟨b, 2, none⟩ = some (.bool bad) := hr.cell 2
  have c3 : w.cell? ⟨b, 3, none⟩ = some (.slice A tr.length cap) := hr.cell 3
  have z2 : w.frozen? ⟨b, 2, none⟩ = false := hr.free 2
  have fin : ∀ q : Nat, SpecPost w B b t k ⟨t.data.toList.drop k, true, tr⟩ (.returned (.tuple #[])) ((w.drewN q).setCell ⟨b, 2, none⟩ (.bool true)) := fun q =>
    ⟨rfl, k, _, rfl, Nat.le_refl _, hk, Row.put (w := w.drewN q) hr 2 (.bool true), OwnTree.set (w := w.drewN q) hown hr (by decide) 2 _, (below_drewN (Below.refl B w) q).setCell hBb _⟩
  have HF := Lib.hid fin
  have hk0 : (0 : Int) ≤ (k : Int) := Int.natCast_nonneg _
  clear fin hown hr
  cases bad with
  | true =>
    go_enter Tryz.func206, Tryz.ntmps206
    go_wp2_with fail
    go_quiet (fail)
    go_wp2
    refine bodyPost_ret (results_none rfl _ _ _) rfl ?_
    exact HF.out _
  | false =>
    by_cases hlt : k < t.size
    · have h8 : 8 < tr.length := by
        rcases h with h | h | h
        · cases h
        · exact h
        · omega
      have g1 : decide (t.size ≤ k) = false := decide_eq_false (by omega)
      have g2 : decide (8 < tr.length) = true := decide_eq_true h8
      have g3 : ¬ (t.size : Int) ≤ (k : Int) := by omega
      have g4 : (8 : Int) < (tr.length : Int) := by omega
      go_enter Tryz.func206, Tryz.ntmps206
      go_wp2_with fail
      go_quiet (fail)
      go_wp2
      refine bodyPost_ret (results_none rfl _ _ _) rfl ?_
      exact HF.out _
    · have g1 : decide (t.size ≤ k) = true := decide_eq_true (by omega)
      have g3 : (t.size : Int) ≤ (k : Int) := by omega
      go_enter Tryz.func206, Tryz.ntmps206
      go_wp2_with fail
      go_quiet (fail)
      go_wp2
      refine bodyPost_ret (results_none rfl _ _ _) rfl ?_
      exact HF.out _

end Go.Proofs.YtbmfbnlmdjnddaaGreat
