/- Joined: Bg Ak Rj. -/
import Derived.Test.YteokbgfiokbojaaGreatU17
import Derived.Test.YteokbgfiokbojaaGreatU20
import Derived.Test.YteokbgfiokbojaaGreatU21
import Derived.Test.YteokbgfiokbojaaGreatU15
import Derived.Test.YteokbgfiokbojaaGreatSh
import Derived.Lib.SlKept
import Derived.Lib.SliceRun
import Derived.Lib.OwnBridge
import Derived.Sort.OwnSorted
import Derived.Sort.Grow
import Derived.Test.YteokbgfiokbojaaGreatU19
import Derived.Test.YteokbgfiokbojaaGreatU04
import Derived.Lib.IndexBytes
import Derived.Test.YteokbgfiokbojaaGreatU05
/- UnsafeChains and IsSafe on both sides. -/
namespace Go.Proofs.YteokbgfiokbojaaGreat
open Go.RowKit Go.Shelf

/-- The chains of a trace, none if it is no trace. -/
def xsRes (l : List Seg) (t : ByteArray) : List Txt := match traceB l t.data.toList with
  | none => []
  | some f => chainsB [rootB l] f
theorem chainsRes_xs (l : List Seg) (t : ByteArray) : chainsRes l t = (xsRes l t).map strOf := by
  unfold chainsRes xsRes
  cases traceB l t.data.toList with
  | none => rfl
  | some f => rfl
theorem xsRes_two {l : List Seg} {t : ByteArray} : ∀ x ∈ xsRes l t, (∃ y u v, x = y ++ [u, v]) ∧ x.length ≤ 9 := by
  unfold xsRes
  cases hR : traceB l t.data.toList with
  | none => intro x hx; cases hx
  | some f =>
    intro x hx
    obtain ⟨⟨y, u, v, e, _⟩, h9⟩ := trace_two hR x hx
    exact ⟨⟨y, u, v, e⟩, h9⟩
theorem xsRes_len (l : List Seg) (t : ByteArray) : (xsRes l t).length ≤ 80 := by
  unfold xsRes
  cases hR : traceB l t.data.toList with
  | none => exact Nat.zero_le _
  | some f =>
    show (chainsB [rootB l] f).length ≤ 80
    rw [chainsB_len]
    exact (traceB_size hR).1
def apartB (l : List Seg) (x : Txt) : Bool := !liesB l (strOf x)
def unsafeRes (l : List Seg) (t : ByteArray) : List ByteArray := (putAll [] ((xsRes l t).filter (apartB l))).map strOf
def UnsafePost (w : World) (l : List Seg) (t : ByteArray) (e : Ending) (w' : World) : Prop :=
  ∃ v, e = .returned (.tuple #[v, .bool (traceB l t.data.toList).isSome]) ∧ OwnTexts w' w.heap.size v (unsafeRes l t) ∧ Below w.heap.size w w'
theorem filter_take {p : Txt → Bool} {xs : List Txt} {k : Nat} (hk : k < xs.length) : (xs.take (k + 1)).filter p = (xs.take k).filter p ++ if p xs[k] = true then [xs[k]] else [] := by
  rw [List.take_succ_eq_append_getElem hk, List.filter_append]
  congr 1
  by_cases h : p xs[k] = true <;> simp [h]

set_option maxRecDepth 100000 in
set_option maxHeartbeats 2000000 in
theorem specUnsafe_any (A : Option Addr) (l : List Seg) (c : Nat) (t : ByteArray) (w : World) (hw : Segs w w.heap.size A l) (hl : l.length ≤ 1048576) (hn : Short l) (ht : t.size ≤ 1048576) :
    Calls Tryz.prog 7 #[.slice A l.length c, .string t] w (UnsafePost w l t) := by
  have HW : Hid (Segs w w.heap.size A l) := hw
  have HB0 : Hid (Below w.heap.size w (w.alloc (.cells #[] 9))) := (Below.refl _ w).alloc (Nat.le_refl _) _
  have HQ := Lib.hid (specChainsOf_any A l c t (w.alloc (.cells #[] 9)) ((hw.below HB0.out).more HB0.out.size) hl hn ht)
  unfold ChainsResPost at HQ
  rw [chainsRes_xs] at HQ
  unfold UnsafePost unsafeRes
  have HA := Lib.hid (xsRes_two (l := l) (t := t))
  have hx80 := xsRes_len l t
  have HL := Lib.hid (fun s W h hs => specChainLies_any A l c s W h hl hn hs)
  have HS0 : Hid (SolidTexts (w.alloc (.cells #[] 9)) w.heap.size (.slice (some ⟨w.heap.size, 0, none⟩) 0 0) []) := ⟨OwnTexts.empty w (Nat.le_refl _), fun h => by cases h⟩
  clear hw hn
  generalize xsRes l t = xs at *
  generalize (traceB l t.data.toList).isSome = d at *
  have HTS : Hid ((xs.map strOf).length = xs.length) := List.length_map _
  have HC : Hid (∀ k (hk : k < xs.length), (xs.map strOf)[k]? = some (strOf xs[k])) := fun k hk => by rw [List.getElem?_map, List.getElem?_eq_getElem hk]; rfl
  have HPL : Hid (∀ k, (putAll [] ((xs.take k).filter (apartB l))).length ≤ 200) := fun k => by
    have h1 := putAll_len ((xs.take k).filter (apartB l)) []
    have h2 := List.length_filter_le (apartB l) (xs.take k)
    rw [List.length_take] at h2
    simp only [List.length_nil] at h1
    omega
  generalize xs.map strOf = ts at *
  have htl : ts.length ≤ 80 := by rw [HTS.out]; exact hx80
  go_enter Tryz.func7, Tryz.ntmps7
  go_wp2_with fail
  refine Calls.mono HQ.out ?_
  rintro e w2 ⟨v, rfl, ho, hb⟩
  obtain ⟨A2, cap2, rfl, -⟩ := St.textsForm ho
  have HB : Hid (Below w.heap.size w w2) := HB0.out.trans (hb.mono HB0.out.size)
  have HO := Lib.hid ho
  have HS2 : Hid (SolidTexts w2 w.heap.size (.slice (some ⟨w.heap.size, 0, none⟩) 0 0) []) := ⟨HS0.out.1.below hb, HS0.out.2⟩
  clear ho hb HS0 HB0 HQ
  go_wp2
  go_loopw [6, 20] (fun o i wr => ∃ (k : Nat) (vo : Value), k ≤ ts.length ∧ i = .int .i64 k ∧ vo = o ∧ Hid (SolidTexts wr w.heap.size vo ((putAll [] ((xs.take k).filter (apartB l))).map strOf)) ∧ Hid (Below w2.heap.size w2 wr))
    (fun _ i _ => ts.length - (intOf i).toNat)
  case atStart => exact ⟨0, _, Nat.zero_le _, rfl, rfl, HS2, Below.refl _ _⟩
  case round =>
    obtain ⟨k, vo, hk, rfl, rfl, HT, HBr⟩ := hrel
    clear HS2
    have hbz := HB.out.size
    have hbr := HBr.out.size
    by_cases hlt : k < ts.length
    · have hkx : k < xs.length := by rw [← HTS.out]; exact hlt
      obtain ⟨-, hx9⟩ := HA.out xs[k] (List.getElem_mem hkx)
      obtain ⟨b, o, hA2, hB2, hc⟩ := strsOf HO.out (by omega)
      subst hA2
      have c0 : wr.cell? ⟨b, o + k, none⟩ = some (.string (strOf xs[k])) := (HBr.out.cell (p := ⟨b, o + k, none⟩) hB2).trans (hc k _ (HC.out k hkx))
      have HF := Lib.hid (filter_take (p := apartB l) hkx)
      have HLC := Lib.hid (HL.out (strOf xs[k]) wr ((HW.out.below (HB.out.trans (HBr.out.mono hbz))).more (by omega)) (by rw [str_size]; omega))
      have HPT := Lib.hid (fun W v h hB hL => l4Put_any w.heap.size v (putAll [] ((xs.take k).filter (apartB l))) xs[k] W h hB hL)
      have HSN := Lib.hid (putAll_snoc [] ((xs.take k).filter (apartB l)) xs[k])
      have HPK := Lib.hid (HPL.out k)
      clear hc hx9
      generalize hxk : xs[k] = x at *
      clear hxk
      cases hd : liesB l (strOf x) with
      | true =>
        have HF1 : Hid ((xs.take (k + 1)).filter (apartB l) = (xs.take k).filter (apartB l)) := by
          show _ = _
          rw [HF.out, if_neg (by unfold apartB; rw [hd]; decide), List.append_nil]
        rw [hd] at HLC
        clear hd HF HPT HSN
        generalize strOf x = z at *
        go_wp2_with fail
        refine Calls.mono HLC.out ?_
        rintro e w3 ⟨rfl, hb3⟩
        have HT3 : Hid (SolidTexts w3 w.heap.size vo ((putAll [] ((xs.take (k + 1)).filter (apartB l))).map strOf)) := by
          show SolidTexts _ _ _ _
          rw [HF1.out]
          exact ⟨HT.out.1.below hb3, HT.out.2⟩
        have HB3 : Hid (Below w2.heap.size w2 w3) := HBr.out.trans (hb3.mono hbr)
        clear hb3 HLC
        go_wp2
        go_roundw
        case rel => exact ⟨k + 1, _, by omega, by go_num, rfl, HT3, HB3⟩
        case measure => simp [intOf]; omega
      | false =>
        have HF1 : Hid ((xs.take (k + 1)).filter (apartB l) = (xs.take k).filter (apartB l) ++ [x]) := by
          show _ = _
          rw [HF.out, if_pos (by unfold apartB; rw [hd]; rfl)]
        rw [hd] at HLC
        clear hd HF
        generalize (xs.take k).filter (apartB l) = q at *
        generalize hz : strOf x = z at *
        go_wp2_with fail
        refine Calls.mono HLC.out ?_
        rintro e w3 ⟨rfl, hb3⟩
        have HT3 := Lib.hid (HPT.out w3 _ ⟨HT.out.1.below hb3, HT.out.2⟩ (by have := hb3.size; omega) HPK.out)
        have HB3 : Hid (Below w2.heap.size w2 w3) := HBr.out.trans (hb3.mono hbr)
        clear hb3 HLC HPT HT
        go_wp2_with fail
        refine Calls.mono HT3.out ?_
        rintro e w4 ⟨v4, rfl, hs4, hb4⟩
        have HT4 : Hid (SolidTexts w4 w.heap.size v4 ((putAll [] ((xs.take (k + 1)).filter (apartB l))).map strOf)) := by
          show SolidTexts _ _ _ _
          rw [HF1.out, HSN.out]
          exact hs4
        have HB4 : Hid (Below w2.heap.size w2 w4) := HB3.out.trans (hb4.mono HB3.out.size)
        clear hs4 hb4 HT3
        go_wp2
        go_roundw
        case rel => exact ⟨k + 1, _, by omega, by go_num, rfl, HT4, HB4⟩
        case measure => simp [intOf]; omega
    · have hkl : k = ts.length := by omega
      have HE : Hid (OwnTexts wr w.heap.size vo ((putAll [] (xs.filter (apartB l))).map strOf)) := by
        have := HT.out.1
        rw [hkl, HTS.out, List.take_length] at this
        exact this
      have HBF : Hid (Below w.heap.size w wr) := HB.out.trans (HBr.out.mono hbz)
      clear hkl HT
      go_wp2
      go_ret2
      exact ⟨_, rfl, HE.out, HBF.out⟩

end Go.Proofs.YteokbgfiokbojaaGreat
/- What the answers of chapter 6 say of a safe trace, as the law FnIsSafe asks; plain. -/
namespace Go.Proofs.YteokbgfiokbojaaGreat
open Go.RowKit

theorem callP_byte6 {l : List Seg} (hv : validB l = true) {u : UInt8} (h : callP l u = true) : byteOf l (segIx l u) = u ∧ segIx l u < l.length ∧ segIx l u = (bSeek l u).toNat ∧ 0 ≤ bSeek l u := by
  have h0 : 0 ≤ indexB l ⟨#[u]⟩ := of_decide_eq_true h
  have h1 : indexB l ⟨#[u]⟩ = bSeek l u := if_pos hv
  have hi := (callP_ix h).2
  have h2 := index_nm h0
  have h3 := namesAt_map hv [segIx l u] (fun j hj => by rw [List.mem_singleton.1 hj]; exact hi)
  have h4 : namesAt l [segIx l u] = ⟨#[u]⟩ := h2
  rw [h4] at h3
  refine ⟨?_, hi, by unfold segIx; rw [h1], by omega⟩
  have h5 : [u] = [byteOf l (segIx l u)] := h3
  injection h5 with h5
  exact h5.symm
theorem lieB_seg6 {l : List Seg} (hv : validB l = true) {u v : UInt8} (hu : callP l u = true) (hv2 : callP l v = true) : lieB l ⟨#[u]⟩ ⟨#[v]⟩ = lieIx l (segIx l u) (segIx l v) := by
  obtain ⟨-, -, e1, p1⟩ := callP_byte6 hv hu
  obtain ⟨-, -, e2, p2⟩ := callP_byte6 hv hv2
  rw [lieB_bytes hv, decide_eq_true p1, decide_eq_true p2, e1, e2]
  rfl
theorem str_cut6 (x : List UInt8) {i : Nat} (h : i < x.length) : (strOf x).extract i (i + 1) = ⟨#[x[i]]⟩ := by
  apply ByteArray.ext
  apply Array.ext'
  have e4 : ((strOf x).extract i (i + 1)).data.toList = (x.drop i).take 1 := by
    simp [strOf, ByteArray.data_extract]
  rw [e4, List.drop_eq_getElem_cons h]
  rfl
theorem lies_all6 {l : List Seg} (hv : validB l = true) {x : List UInt8} (hx : ∀ b ∈ x, callP l b = true) : liesB l (strOf x) = true ↔ ∀ b ∈ x, ∀ d ∈ x, lieIx l (segIx l b) (segIx l d) = true := by
  have hz : (strOf x).size = x.length := str_size x
  have hat : ∀ i k (hi : i < x.length) (hk : k < x.length), lieB l ((strOf x).extract k (k + 1)) ((strOf x).extract i (i + 1)) = lieIx l (segIx l x[k]) (segIx l x[i]) := fun i k hi hk => by
    rw [str_cut6 x hi, str_cut6 x hk]
    exact lieB_seg6 hv (hx _ (List.getElem_mem hk)) (hx _ (List.getElem_mem hi))
  unfold liesB liesUp
  rw [hv, Bool.and_true, all_range, hz]
  constructor
  · intro h b hb d hd
    obtain ⟨k, hk, rfl⟩ := List.getElem_of_mem hb
    obtain ⟨i, hi, rfl⟩ := List.getElem_of_mem hd
    have key : ∀ (i k : Nat) (hi : i < x.length) (hk : k < x.length), k ≤ i → lieIx l (segIx l x[k]) (segIx l x[i]) = true := fun i k hi hk hki => by
      have h1 := h i hi
      unfold liesTo at h1
      rw [all_range] at h1
      rw [← hat i k hi hk]
      exact h1 k (by omega)
    rcases Nat.le_total k i with hki | hki
    · exact key i k hi hk hki
    · rw [lieIx_comm]; exact key k i hk hi hki
  · intro h i hi
    unfold liesTo
    rw [all_range]
    intro k hk
    rw [hat i k hi (by omega)]
    exact h _ (List.getElem_mem _) _ (List.getElem_mem _)

/-- A trace is safe if and only if nothing is lost in it; then no return loads anything; each chain that is told is one, and does not lie. -/
theorem safe_says6 {l : List Seg} {t : ByteArray} {f : Forest} (h : traceB l t.data.toList = some f) (hv : validB l = true) :
    ((unsafeRes l t).length = 0 ↔ lostRes l t = ⟨#[]⟩) ∧ ((unsafeRes l t).length = 0 → backRes l t = ⟨#[]⟩) ∧ ∀ c ∈ unsafeRes l t, c ∈ chainsRes l t ∧ liesB l c = false := by
  have hf := traceB_all h
  have hxs : xsRes l t = chainsB [rootB l] f := by unfold xsRes; rw [h]
  have hlost : lostRes l t = namesAt l (selIx (lostF l (chainsB [rootB l] f)) l.length) := by unfold lostRes; rw [h]
  have htwo := trace_two h
  have hroot := (callP_root hv).1
  have hcall : ∀ x ∈ chainsB [rootB l] f, ∀ b ∈ x, callP l b = true := fun x hx b hb => chains_call6 f [rootB l] (fun b hb => by rw [List.mem_singleton.1 hb]; exact hroot) hf x hx b hb
  have hne : ∀ x ∈ chainsB [rootB l] f, x ≠ [] := fun x hx e => by
    obtain ⟨⟨y, u, v, hy, -⟩, -⟩ := htwo x hx
    rw [e] at hy
    simp at hy
  have hun : (unsafeRes l t).length = 0 ↔ ∀ x ∈ chainsB [rootB l] f, liesB l (strOf x) = true := by
    unfold unsafeRes
    rw [hxs, List.length_map]
    constructor
    · intro h0 x hx
      cases hl : liesB l (strOf x) with
      | true => rfl
      | false =>
        have hm : x ∈ putAll [] ((chainsB [rootB l] f).filter (apartB l)) := (putAll_mem _ _ _).2 (.inr (List.mem_filter.2 ⟨hx, by unfold apartB; rw [hl]; rfl⟩))
        rw [List.eq_nil_of_length_eq_zero h0] at hm
        cases hm
    · intro hall
      have : (chainsB [rootB l] f).filter (apartB l) = [] := List.filter_eq_nil_iff.2 fun x hx => by
        unfold apartB
        rw [hall x hx]
        decide
      rw [this]
      rfl
  have hends : (∀ x ∈ chainsB [rootB l] f, liesB l (strOf x) = true) ↔ ∀ x ∈ chainsB [rootB l] f, Ends6 l x := by
    constructor
    · intro hall x hx b hb
      have hlast : lastB x ∈ x := by
        obtain ⟨⟨y, u, v, hy, -⟩, -⟩ := htwo x hx
        rw [hy, (ends_of y u v).1]
        simp
      exact (lies_all6 hv (hcall x hx)).1 (hall x hx) b hb _ hlast
    · intro he x hx
      obtain ⟨i, hi⟩ := List.getElem?_of_mem hx
      exact (lies_all6 hv (hcall x hx)).2 (ends_all6 (chainsB [rootB l] f) (rootB l) (fun i x h => chain_ahead6 f [rootB l] i x h) hne he (i + 1) i x (by omega) hi)
  have hls : lostRes l t = ⟨#[]⟩ ↔ ∀ x ∈ chainsB [rootB l] f, Ends6 l x := by
    rw [hlost]
    constructor
    · intro h0 x hx b hb
      have hz : (namesAt l (selIx (lostF l (chainsB [rootB l] f)) l.length)).size = (selIx (lostF l (chainsB [rootB l] f)) l.length).length := names_size hv (fun j hj => selIx_lt hj)
      rw [h0] at hz
      have hnil := List.eq_nil_of_length_eq_zero hz.symm
      obtain ⟨e1, e2, -, -⟩ := callP_byte6 hv (hcall x hx b hb)
      have hlast : lastB x ∈ x := by
        obtain ⟨⟨y, u, v, hy, -⟩, -⟩ := htwo x hx
        rw [hy, (ends_of y u v).1]
        simp
      obtain ⟨-, -, e3, -⟩ := callP_byte6 hv (hcall x hx _ hlast)
      cases hl : lieIx l (segIx l b) (segIx l (lastB x)) with
      | true => rfl
      | false =>
        have hk := kindIx_side l (segIx l b) (segIx l (lastB x))
        rw [hl] at hk
        have hm : segIx l b ∈ selIx (lostF l (chainsB [rootB l] f)) l.length := by
          refine List.mem_filter.2 ⟨List.mem_range.2 e2, ?_⟩
          unfold lostF
          rw [decide_eq_true e2, Bool.true_and]
          refine List.any_eq_true.2 ⟨x, hx, ?_⟩
          unfold lostX
          rw [e1, decide_eq_true hb, ← e3, hk]
          rfl
        rw [hnil] at hm
        cases hm
    · intro he
      have : selIx (lostF l (chainsB [rootB l] f)) l.length = [] := List.filter_eq_nil_iff.2 fun i hi => by
        have hi := List.mem_range.1 hi
        unfold lostF
        rw [decide_eq_true hi, Bool.true_and]
        intro hany
        obtain ⟨x, hx, hlx⟩ := List.any_eq_true.1 hany
        unfold lostX at hlx
        rw [Bool.and_eq_true, decide_eq_true_eq] at hlx
        obtain ⟨hb, hk⟩ := hlx
        obtain ⟨e1, e2, e4, -⟩ := callP_byte6 hv (hcall x hx _ hb)
        have hi2 : segIx l (byteOf l i) = i := by rw [e4, bSeek_byte hv hi, Int.toNat_natCast]
        have hE := he x hx _ hb
        have hlast : lastB x ∈ x := by
          obtain ⟨⟨y, u, v, hy, -⟩, -⟩ := htwo x hx
          rw [hy, (ends_of y u v).1]
          simp
        obtain ⟨-, -, e3, -⟩ := callP_byte6 hv (hcall x hx _ hlast)
        rw [hi2, e3] at hE
        have hs := kindIx_side l i (bSeek l (lastB x)).toNat
        rw [hE, hk] at hs
        cases hs
      rw [this]
      rfl
  refine ⟨hun.trans (hends.trans hls.symm), fun h0 => back_none6 h hv hf (hends.1 (hun.1 h0)), fun c hc => ?_⟩
  unfold unsafeRes at hc
  obtain ⟨x, hx, rfl⟩ := List.mem_map.1 hc
  rw [hxs] at hx
  rcases (putAll_mem _ _ _).1 hx with hx | hx
  · cases hx
  · obtain ⟨h1, h2⟩ := List.mem_filter.1 hx
    refine ⟨?_, by unfold apartB at h2; simpa using h2⟩
    rw [chainsRes_xs, hxs]
    exact List.mem_map.2 ⟨x, h1, rfl⟩

end Go.Proofs.YteokbgfiokbojaaGreat
/- The reference's reading, plain: its steps at a place of the text. -/
namespace Go.Proofs.YteokbgfiokbojaaGreat

theorem tw_take (p : UInt8 → Bool) : ∀ (n m : Nat) (r : List UInt8), m ≤ n → (∀ j, j < m → ∃ h : j < r.length, p r[j] = true) → (m = n ∨ r.length ≤ m ∨ ∃ h : m < r.length, p r[m] = false) → (r.take n).takeWhile p = r.take m
  | 0, 0, _, _, _, _ => by simp
  | 0, m + 1, _, h, _, _ => absurd h (by omega)
  | n + 1, 0, [], _, _, _ => rfl
  | n + 1, 0, c :: r, _, _, h2 => by
    rcases h2 with h | h | ⟨_, h⟩
    · omega
    · simp at h
    · rw [List.take_succ_cons, List.takeWhile_cons, if_neg (by simp at h; simp [h])]
      rfl
  | n + 1, m + 1, [], _, h1, _ => by
    obtain ⟨h, _⟩ := h1 0 (by omega)
    simp at h
  | n + 1, m + 1, c :: r, hm, h1, h2 => by
    obtain ⟨_, h0⟩ := h1 0 (by omega)
    rw [List.take_succ_cons, List.takeWhile_cons, if_pos (by simpa using h0), List.take_succ_cons]
    congr 1
    refine tw_take p n m r (by omega) (fun j hj => ?_) ?_
    · obtain ⟨h, h3⟩ := h1 (j + 1) (by omega)
      exact ⟨by simpa using h, by simpa using h3⟩
    · rcases h2 with h | h | ⟨h, h3⟩
      · exact .inl (by omega)
      · exact .inr (.inl (by simpa using h))
      · exact .inr (.inr ⟨by simpa using h, by simpa using h3⟩)

/-- The digits between two places. -/
theorem digs_at {t : ByteArray} {a j : Nat} (ha : a ≤ j) (hj : j ≤ t.size) (h3 : j ≤ a + 3) (h1 : ∀ i, a ≤ i → ∀ h : i < t.size, i < j → isDig t[i] = true) (h2 : j = a + 3 ∨ t.size ≤ j ∨ ∃ h : j < t.size, isDig t[j] = false) :
    digs (t.data.toList.drop a) = (t.data.toList.drop a).take (j - a) ∧ (digs (t.data.toList.drop a)).length = j - a := by
  have hl : (t.data.toList.drop a).length = t.size - a := by simp
  have e : digs (t.data.toList.drop a) = (t.data.toList.drop a).take (j - a) := by
    unfold digs
    refine tw_take isDig 3 (j - a) _ (by omega) (fun i hi => ?_) ?_
    · refine ⟨by omega, ?_⟩
      have hz : a + i < t.data.size := show a + i < t.size by omega
      have h5 : isDig (t.data[a + i]'hz) = true := h1 (a + i) (by omega) hz (by omega)
      simpa using h5
    · rcases h2 with h | h | ⟨h, h4⟩
      · exact .inl (by omega)
      · exact .inr (.inl (by omega))
      · refine .inr (.inr ⟨by omega, ?_⟩)
        have h6 : a + (j - a) = j := by omega
        have hz : j < t.data.size := h
        have h5 : isDig (t.data[j]'hz) = false := h4
        simp only [List.getElem_drop, Array.getElem_toList, h6]
        exact h5
  refine ⟨e, ?_⟩
  rw [e, List.length_take]
  omega

/-- The tree with a segment more. -/
def grow1 (tr : List Seg) (c : UInt8) (r : List UInt8) (p : Int) : List Seg := tr ++ [⟨⟨#[c]⟩, numB (digs r), p⟩]
/-- What follows the first child. -/
def sAfter (f own : Nat) (s2 : SSt) : SSt := sKids (fun x => sSeg f x own) (s2.rest.length + 1) s2

theorem sSeg_no {t : ByteArray} {k j f : Nat} {c : UInt8} {tr : List Seg} {p : Int} (h8 : tr.length ≤ 8) (hd : t.data.toList.drop k = c :: t.data.toList.drop (k + 1)) (hj : (digs (t.data.toList.drop (k + 1))).length = j - (k + 1)) (hkj : k + 1 ≤ j) (hn : nextB t j 40 = false) :
    sSeg (f + 1) ⟨t.data.toList.drop k, false, tr⟩ p = ⟨t.data.toList.drop j, !numOk (digs (t.data.toList.drop (k + 1))), grow1 tr c (t.data.toList.drop (k + 1)) p⟩ := by
  rw [hd, sSeg_open f c _ tr p h8, hj, List.drop_drop, show k + 1 + (j - (k + 1)) = j by omega]
  unfold nextB at hn
  cases hr : t.data.toList.drop j with
  | nil => rfl
  | cons d r3 =>
    rw [hr] at hn
    have : d ≠ 40 := fun e => by subst e; simp at hn
    simp only [if_neg this]
    rfl
theorem sSeg_yes {t : ByteArray} {k j f : Nat} {c : UInt8} {tr : List Seg} {p : Int} (h8 : tr.length ≤ 8) (hd : t.data.toList.drop k = c :: t.data.toList.drop (k + 1)) (hj : (digs (t.data.toList.drop (k + 1))).length = j - (k + 1)) (hkj : k + 1 ≤ j) (hn : t.data.toList.drop j = 40 :: t.data.toList.drop (j + 1)) :
    sSeg (f + 1) ⟨t.data.toList.drop k, false, tr⟩ p = sAfter f tr.length (sSeg f ⟨t.data.toList.drop (j + 1), !numOk (digs (t.data.toList.drop (k + 1))), grow1 tr c (t.data.toList.drop (k + 1)) p⟩ tr.length) := by
  rw [hd, sSeg_open f c _ tr p h8, hj, List.drop_drop, show k + 1 + (j - (k + 1)) = j by omega, hn]
  simp only [if_true]
  rfl
theorem sSeg_not {f : Nat} {r : List UInt8} {bad : Bool} {tr : List Seg} {p : Int} (h : bad = true ∨ 8 < tr.length ∨ r = [] ∨ f = 0) : sSeg f ⟨r, bad, tr⟩ p = ⟨r, true, tr⟩ := by
  cases f with
  | zero => rfl
  | succ f =>
    unfold sSeg
    rcases h with rfl | h | rfl | h
    · rfl
    · rw [if_pos (by simp [h])]
    · split <;> rfl
    · cases h
theorem sKids_comma {seg : SSt → SSt} {g : Nat} {r : List UInt8} {bad : Bool} {tr : List Seg} : sKids seg (g + 1) ⟨44 :: r, bad, tr⟩ = sKids seg g (seg ⟨r, bad, tr⟩) := by
  conv => lhs; unfold sKids
  simp only [if_true]
theorem sKids_bad {seg : SSt → SSt} {g : Nat} {r : List UInt8} {tr : List Seg} (h : ∀ d u, r = d :: u → d ≠ 44) : sKids seg (g + 1) ⟨r, true, tr⟩ = ⟨r, true, tr⟩ := by
  unfold sKids
  cases r with
  | nil => rfl
  | cons d u =>
    simp only [if_neg (h d u rfl)]
    rfl
theorem sKids_close {seg : SSt → SSt} {g : Nat} {r : List UInt8} {tr : List Seg} : sKids seg (g + 1) ⟨41 :: r, false, tr⟩ = ⟨r, false, tr⟩ := by
  conv => lhs; unfold sKids
  simp
theorem sKids_else {seg : SSt → SSt} {g : Nat} {r : List UInt8} {tr : List Seg} (h1 : ∀ d u, r = d :: u → d ≠ 44) (h2 : ∀ d u, r = d :: u → d ≠ 41) : sKids seg (g + 1) ⟨r, false, tr⟩ = ⟨r, true, tr⟩ := by
  unfold sKids
  cases r with
  | nil => rfl
  | cons d u =>
    simp [h1 d u rfl, h2 d u rfl]

end Go.Proofs.YteokbgfiokbojaaGreat

/- The reference's reader: segment. -/
namespace Go.Proofs.YteokbgfiokbojaaGreat
open Go.RowKit

/-- What segment has done. -/
def SpecPost (w : World) (B b : Nat) (t : ByteArray) (k : Nat) (s : SSt) (e : Ending) (w' : World) : Prop :=
  e = .returned (.tuple #[]) ∧ ∃ (k' : Nat) (v' : Value), s.rest = t.data.toList.drop k' ∧ k ≤ k' ∧ k' ≤ t.size ∧ Row w' b 174 #[.string t, .int .i64 k', .bool s.bad, v'] ∧ OwnTree w' B v' s.tree ∧ Below B w w'

theorem OwnTree.set {w : World} {B b : Nat} {v : Value} {tr : List Seg} {t : TypeId} {cs : Array Value} (h : OwnTree w B v tr) (hr : Row w b t cs) (hne : 71 ≠ t) (i : Nat) (u : Value) : OwnTree (w.setCell ⟨b, i, none⟩ u) B v tr :=
  h.far fun g hg => Below.heap_setCell w ⟨b, i, none⟩ u g (h.ne hr hne g hg)

set_option maxRecDepth 100000 in
set_option maxHeartbeats 2000000 in
theorem segment_not (B b : Nat) (t : ByteArray) (f k : Nat) (p : Int) (bad : Bool) (tr : List Seg) (v : Value) (w : World) (hk : k ≤ t.size) (hBb : B ≤ b) (hr : Row w b 174 #[.string t, .int .i64 k, .bool bad, v]) (hown : OwnTree w B v tr)
    (h : bad = true ∨ 8 < tr.length ∨ k = t.size) :
    Calls Tryz.prog 120 #[.pointer (some ⟨b, 0, none⟩), .int .i64 p] w (SpecPost w B b t k (sSeg f ⟨t.data.toList.drop k, bad, tr⟩ p)) := by
  have hS : sSeg f ⟨t.data.toList.drop k, bad, tr⟩ p = ⟨t.data.toList.drop k, true, tr⟩ := sSeg_not (by
    rcases h with h | h | h
    · exact .inl h
    · exact .inr (.inl h)
    · exact .inr (.inr (.inl (List.drop_of_length_le (by simp; omega)))))
  rw [hS]
  clear hS
  obtain ⟨A, cap, rfl, -⟩ := hown.form
  have c0 : w.cell? ⟨b, 0, none⟩ = some (.string t) := hr.cell 0
  have c1 : w.cell? ⟨b, 1, none⟩ = some (.int .i64 k) := hr.cell 1
  have c2 : w.cell? ⟨b, 2, none⟩ = some (.bool bad) := hr.cell 2
  have c3 : w.cell? ⟨b, 3, none⟩ = some (.slice A tr.length cap) := hr.cell 3
  have z2 : w.frozen? ⟨b, 2, none⟩ = false := hr.free 2
  have fin : ∀ q : Nat, SpecPost w B b t k ⟨t.data.toList.drop k, true, tr⟩ (.returned (.tuple #[])) ((w.drewN q).setCell ⟨b, 2, none⟩ (.bool true)) := fun q =>
    ⟨rfl, k, _, rfl, Nat.le_refl _, hk, Row.put (w := w.drewN q) hr 2 (.bool true), OwnTree.set (w := w.drewN q) hown hr (by decide) 2 _, (below_drewN (Below.refl B w) q).setCell hBb _⟩
  have HF := Lib.hid fin
  have hk0 : (0 : Int) ≤ (k : Int) := Int.natCast_nonneg _
  clear fin hown hr
  cases bad with
  | true =>
    go_enter Tryz.func120, Tryz.ntmps120
    go_wp2_with fail
    go_quiet (fail)
    go_wp2
    refine bodyPost_ret (results_none rfl _ _ _) rfl ?_
    exact HF.out _
  | false =>
    by_cases hlt : k < t.size
    · have h8 : 8 < tr.length := by
        rcases h with h | h | h
        · cases h
        · exact h
        · omega
      have g1 : decide (t.size ≤ k) = false := decide_eq_false (by omega)
      have g2 : decide (8 < tr.length) = true := decide_eq_true h8
      have g3 : ¬ (t.size : Int) ≤ (k : Int) := by omega
      have g4 : (8 : Int) < (tr.length : Int) := by omega
      go_enter Tryz.func120, Tryz.ntmps120
      go_wp2_with fail
      go_quiet (fail)
      go_wp2
      refine bodyPost_ret (results_none rfl _ _ _) rfl ?_
      exact HF.out _
    · have g1 : decide (t.size ≤ k) = true := decide_eq_true (by omega)
      have g3 : (t.size : Int) ≤ (k : Int) := by omega
      go_enter Tryz.func120, Tryz.ntmps120
      go_wp2_with fail
      go_quiet (fail)
      go_wp2
      refine bodyPost_ret (results_none rfl _ _ _) rfl ?_
      exact HF.out _

end Go.Proofs.YteokbgfiokbojaaGreat
