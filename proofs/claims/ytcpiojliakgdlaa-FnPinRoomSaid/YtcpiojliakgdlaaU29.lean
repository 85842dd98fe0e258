/- Joined: Ey Ex. -/
import Derived.Test.YtcpiojliakgdlaaU28
import Derived.Test.YtcpiojliakgdlaaU21
import Derived.Test.YtcpiojliakgdlaaU27
import Derived.Test.YtcpiojliakgdlaaU03
import Derived.Test.YtcpiojliakgdlaaU12
/- The reference's AllPins. -/
namespace Go.Proofs.Ytcpiojliakgdlaa
open Go.RowKit

/-- append of several texts, as one step of a region. -/
theorem wp1_append_txts10 {o : Oper} {a : Act} {K : Act → World → Prop} {Q : Exit → Act → World → Prop} (S X : Operand)
    (ho : o.op = Op.call { callee := Callee.builtin Builtin.append, args := #[S, X], argTypes := #[40, 40] })
    (B : Nat) (v : Value) (ts ts2 : List ByteArray) (w : World) (hs : a.eval S = v) (hown : OwnTexts w B v ts) (hl : ts.length + ts2.length ≤ 1000) (hB : B ≤ w.heap.size)
    (g cap : Nat) (hx : a.eval X = .slice (some ⟨g, 0, none⟩) ts2.length cap) (B2 : Nat) (hnew : OwnTexts w B2 (.slice (some ⟨g, 0, none⟩) ts2.length cap) ts2) (hv : v ≠ .slice none 0 0)
    (h : ∀ v' w', SolidTexts w' B v' (ts ++ ts2) → Below B w w' → K (a.put o.dst v') w') :
    o.wp Try.prog a w K Q := by
  obtain ⟨i0, hi0, hz0, hz1, hz2⟩ := info_parts info_str
  have hnews : ∀ (j : Nat) (u : Value), (ts2.map Value.string)[j]? = some u → w.cell? ((⟨g, 0, none⟩ : Addr).add j) = some u := fun j u hj => by
    rw [List.getElem?_map, Option.map_eq_some_iff] at hj
    obtain ⟨s, hs, rfl⟩ := hj
    have := St.textsCell hnew hs
    rw [WideShapes.add_plain]
    rwa [Nat.zero_add]
  obtain ⟨v', w', hr, hown', hgrow, hnil, -⟩ := run_append_own_at (P := Try.prog) (w := w) B 40 o.type 9 i0 (.string ByteArray.empty) 1 16 Try.underlying40 hi0 hz0 hz1 hz2 rfl (by decide) v ts.length (ts.map Value.string) hown ⟨g, 0, none⟩ ts2.length cap (ts2.map Value.string) (by simp)
    hnews (by simp [Value.oneCell']) (by unfold maxLen; omega) (by omega) hB
  unfold Oper.wp execOp
  simp only [ho, resolve, invoke, builtin, Sem.run_bind, Sem.run_pure, Result.andThen_ok, List.map_toArray, List.map_cons, List.map_nil, hs, hx, hr]
  refine h v' w' ⟨?_, fun e => hv (hnil.1 e).1⟩ ((Below.refl B w).grown hgrow hB (fun k e => (World.ownsRow.lt hown k e).1))
  unfold OwnTexts
  rw [List.length_append, List.map_append]
  exact hown'

/-- What l10All goes over. -/
structure Rest10 (l : List Seg) (T R : List Nat) : Prop where
  pins : Pins10 l T
  asc : R.Pairwise (· < ·)
  lt : ∀ x ∈ R, 1 ≤ x ∧ x < l.length
  after : ∀ t ∈ T, ∀ x ∈ R, t < x
  len : R.length ≤ 7
theorem Rest10.at {l : List Seg} {T R : List Nat} (h : Rest10 l T R) {k : Nat} (hk : k < R.length) : Rest10 l (T ++ [R[k]]) (R.drop (k + 1)) := by
  have hm : R[k] ∈ R := List.getElem_mem hk
  have hd : ∀ x ∈ R.drop (k + 1), R[k] < x := fun x hx => by
    obtain ⟨j, hj, rfl⟩ := List.mem_iff_getElem.1 hx
    rw [List.length_drop] at hj
    rw [List.getElem_drop]
    exact List.pairwise_iff_getElem.1 h.asc k (k + 1 + j) hk (by omega) (by omega)
  refine ⟨⟨?_, fun j hj => ?_⟩, h.asc.sublist (List.drop_sublist _ _), fun x hx => h.lt x (List.mem_of_mem_drop hx), fun t ht x hx => ?_, by rw [List.length_drop]; have := h.len; omega⟩
  · rw [List.pairwise_append]
    exact ⟨h.pins.1, List.pairwise_singleton _ _, fun a ha b hb => by rw [List.mem_singleton.1 hb]; exact h.after a ha _ hm⟩
  · rcases List.mem_append.1 hj with hj | hj
    · exact h.pins.2 j hj
    · rw [List.mem_singleton.1 hj]
      have := h.lt _ hm
      omega
  · rcases List.mem_append.1 ht with ht | ht
    · exact h.after t ht x (List.mem_of_mem_drop hx)
    · rw [List.mem_singleton.1 ht]
      exact hd x hx

set_option maxRecDepth 100000 in
set_option maxHeartbeats 4000000 in
theorem l10All_any (A : Option Addr) (l : List Seg) (c : Nat) (room : Int) (hl : l.length ≤ 1048576) (hn : Short l) (hv : validB l = true) : ∀ (m : Nat) (T R : List Nat) (w : World), R.length < m → Rest10 l T R → Segs w w.heap.size A l →
    Calls Try.prog 97 #[.slice A l.length c, .string (namesAt l T), .string (namesAt l R), .int .i64 room] w (ChainsPost w ((all10 (fits10 l room) T R).map (namesAt l))) := by
  intro m
  induction m with
  | zero => intro T R w h; omega
  | succ m ih =>
    intro T R w hm hR hw
    have IH := Lib.hid ih
    have HW : Hid (Segs w w.heap.size A l) := hw
    have HRR := Lib.hid hR
    have HV := Lib.hid hv
    have h8 := (valid_all hv).2.1
    have hRl : ∀ x ∈ R, x < l.length := fun x hx => (hR.lt x hx).2
    have hlen := hR.len
    have HLR := Lib.hid (fun W h => l10Room_any A l c T W h hl hn hv hR.pins)
    have HRZ : Hid ((namesAt l R).size = R.length) := names_size hv hRl
    have hbz : (namesAt l T).size ≤ 8 := by
      rw [names_size hv hR.pins.lt]
      rcases hR.pins.len with h | h
      · omega
      · rw [h]; exact Nat.zero_le _
    have HEX : Hid (∀ k (hk : k < R.length), (namesAt l R).extract k (k + 1) = namesAt l [R[k]] ∧ (namesAt l R).extract (k + 1) (namesAt l R).size = namesAt l (R.drop (k + 1)) ∧ namesAt l T ++ namesAt l [R[k]] = namesAt l (T ++ [R[k]]) ∧ (namesAt l [R[k]]).size = 1) := fun k hk => by
      have h1 : ∀ x ∈ [R[k]], x < l.length := fun x hx => by rw [List.mem_singleton.1 hx]; exact hRl _ (List.getElem_mem hk)
      refine ⟨?_, drop_names hv hRl _, (namesAt_append10 l _ _).symm, names_size hv h1⟩
      rw [names_txt10 hv hRl, names_txt10 hv h1, str_at10 _ (by rw [List.length_map]; exact hk), List.getElem_map]
      rfl
    have HALN : Hid (∀ pre k, allR10 (fits10 l room) T R = pre ++ allR10 (fits10 l room) T (R.drop k) → pre.length ≤ 128) := fun pre k h => by
      have h1 := congrArg List.length h
      have h2 := allR10_len (fits10 l room) R T
      have h3 : 2 ^ R.length ≤ 2 ^ 7 := Nat.pow_le_pow_right (by decide) hlen
      rw [List.length_append] at h1
      omega
    have HSTEP : Hid (∀ pre k (hk : k < R.length), allR10 (fits10 l room) T R = pre ++ allR10 (fits10 l room) T (R.drop k) → allR10 (fits10 l room) T R = (pre ++ all10 (fits10 l room) (T ++ [R[k]]) (R.drop (k + 1))) ++ allR10 (fits10 l room) T (R.drop (k + 1))) := fun pre k hk h => by
      rw [h, List.drop_eq_getElem_cons hk, allR10_cons, List.append_assoc]
    have HSL : Hid (∀ k (hk : k < R.length), (all10 (fits10 l room) (T ++ [R[k]]) (R.drop (k + 1))).length ≤ 128) := fun k hk => by
      have h2 := all10_len (fits10 l room) (R.drop (k + 1)) (T ++ [R[k]])
      have h3 : 2 ^ (R.drop (k + 1)).length ≤ 2 ^ 7 := Nat.pow_le_pow_right (by decide) (by rw [List.length_drop]; omega)
      omega
    have HS0 : Hid (SolidTexts (w.alloc (.cells #[] 9)) w.heap.size (.slice (some ⟨w.heap.size, 0, none⟩) 0 0) []) := ⟨OwnTexts.empty w (Nat.le_refl _), fun h => by cases h⟩
    have HB0 : Hid (Below w.heap.size w (w.alloc (.cells #[] 9))) := (Below.refl _ w).alloc (Nat.le_refl _) _
    have HR0 : Hid (decide (room10 l T ≤ room) = fits10 l room T) := rfl
    unfold ChainsPost
    have HDEF : Hid (all10 (fits10 l room) T R = (if fits10 l room T = true then [T] else []) ++ allR10 (fits10 l room) T R) := rfl
    clear ih hR hw hv hRl hn
    obtain ⟨i0, hi0, hz0, hz1, hz2⟩ := info_parts info_str
    have I0 := Lib.hid hi0
    have Z0 := Lib.hid hz0
    have Z1 := Lib.hid hz1
    have Z2 := Lib.hid hz2
    clear hi0 hz0 hz1 hz2
    cases hf : fits10 l room T with
    | false =>
      rw [hf] at HR0 HDEF
      have hd := HR0.out
      have HD2 : Hid (all10 (fits10 l room) T R = [] ++ allR10 (fits10 l room) T R) := HDEF
      clear hf HR0 HDEF
      go_enter Try.func97, Try.ntmps97
      go_wp2_with fail
      refine (HLR.out _ ((HW.out.below HB0.out).more HB0.out.size)).mono ?_
      rintro e w1 ⟨rfl, hb1⟩
      have HB1 := Lib.hid (HB0.out.trans (hb1.mono HB0.out.size))
      have HS1 : Hid (SolidTexts w1 w.heap.size (.slice (some ⟨w.heap.size, 0, none⟩) 0 0) (([] : List (List Nat)).map (namesAt l))) := ⟨HS0.out.1.below hb1, HS0.out.2⟩
      clear hb1 HB0 HS0 HLR
      generalize room10 l T = rm at *
      go_wp2
      have HRK := Lib.hid (fun k (hk : k < R.length) => HRR.out.at hk)
      go_loopw [9, 23] (fun o i wr => ∃ (k : Nat) (pre : List (List Nat)), k ≤ R.length ∧ i = .int .i64 k ∧ Hid (allR10 (fits10 l room) T R = pre ++ allR10 (fits10 l room) T (R.drop k)) ∧ Hid (SolidTexts wr w.heap.size o ((([] : List (List Nat)) ++ pre).map (namesAt l))) ∧ Hid (Below w.heap.size w wr))
        (fun _ i _ => R.length - (intOf i).toNat)
      case atStart => exact ⟨0, [], Nat.zero_le _, rfl, rfl, HS1, HB1⟩
      case round =>
        obtain ⟨k, pre, hk, rfl, HP, HT, HB⟩ := hrel
        clear HS1 HB1
        have hk0 : (0 : Int) ≤ (k : Int) := Int.natCast_nonneg _
        by_cases hlt : k < R.length
        · have hlt' : (k : Int) < ((namesAt l R).size : Int) := by have := HRZ.out; omega
          obtain ⟨x1, x2, x3, x4⟩ := HEX.out k hlt
          have HS2 := Lib.hid (HSTEP.out pre k hlt HP.out)
          have hsl := HSL.out k hlt
          have hal := HALN.out pre k HP.out
          have hr := HRK.out k hlt
          have HQ := Lib.hid (fun W h => IH.out (T ++ [R[k]]) (R.drop (k + 1)) W (by rw [List.length_drop]; omega) hr h)
          unfold ChainsPost at HQ
          obtain ⟨k1, hk1⟩ : ∃ k1 : Nat, k1 = k + 1 := ⟨_, rfl⟩
          have hwk : IntKind.i64.wrap ((k : Int) + 1) = (k1 : Int) := (IntWalk.i64_in _ (by omega)).trans (by omega)
          have hb1 : (k : Int) ≤ (k1 : Int) := by omega
          have hb2 : (k1 : Int) ≤ ((namesAt l R).size : Int) := by have := HRZ.out; omega
          rw [← hk1] at x1 x2 HS2 HQ hsl
          have HK1 := Lib.hid hk1
          have HX1 := Lib.hid x1
          have HX2 := Lib.hid x2
          have HX3 := Lib.hid x3
          have htl : ((([] : List (List Nat)) ++ pre).map (namesAt l)).length ≤ 130 := by rw [List.length_map, List.length_append]; show 0 + pre.length ≤ 130; omega
          have hml : ((all10 (fits10 l room) (T ++ [R[k]]) (R.drop k1)).map (namesAt l)).length ≤ 128 := by rw [List.length_map]; exact hsl
          have HMA : Hid ((([] : List (List Nat)) ++ (pre ++ all10 (fits10 l room) (T ++ [R[k]]) (R.drop k1))).map (namesAt l) = (([] : List (List Nat)) ++ pre).map (namesAt l) ++ (all10 (fits10 l room) (T ++ [R[k]]) (R.drop k1)).map (namesAt l)) := by
            show _ = _
            rw [← List.append_assoc, List.map_append]
          have hbz2 : (namesAt l T).size + 1 ≤ 9223372036854775807 := by omega
          have hrz2 : (namesAt l R).size ≤ 7 := by have := HRZ.out; omega
          clear x1 x2 x3 hr hk1 hsl hal
          generalize (all10 (fits10 l room) (T ++ [R[k]]) (R.drop k1)).map (namesAt l) = ts2 at *
          generalize (([] : List (List Nat)) ++ pre).map (namesAt l) = ts1 at *
          generalize namesAt l [R[k]] = one at *
          generalize namesAt l (T ++ [R[k]]) = tk at *
          generalize namesAt l (R.drop k1) = rk at *
          obtain ⟨g, cap, rfl⟩ := HT.out.form
          have HBd := Lib.hid HB.out.drew
          have HTd := Lib.hid (HT.out.1.below ((Below.refl _ wr).drew))
          have hne : (Value.slice (some ⟨g, 0, none⟩) ts1.length cap) ≠ .slice none 0 0 := fun h => by cases h
          have HNE := Lib.hid hne
          clear hne
          go_wp2_with fail
          refine wp_region_held_drew (S := (fun W => Below w.heap.size w W)) (by kernel_rfl) ?_ (fun hHeld => ?_)
          · exact HBd.out
          refine take_at (i := 0) (d := 26) (v := .slice (some ⟨g, 0, none⟩) ts1.length cap) rfl rfl (by kernel_rfl) (by kernel_rfl) (by kernel_rfl) (fun _ _ _ h => h) (by kernel_rfl) (by (intro w hSw; (try dsimp only at hSw); go_simp)) (by assumption) ?_
          simp only [List.setIfInBounds_toArray, List.set_cons_succ, List.set_cons_zero]
          refine take_at (i := 1) (d := 27) (v := .slice A l.length c) rfl rfl (by kernel_rfl) (by kernel_rfl) (by kernel_rfl) (fun _ _ _ h => h) (by kernel_rfl) (by (intro w hSw; (try dsimp only at hSw); go_simp)) (by assumption) ?_
          simp only [List.setIfInBounds_toArray, List.set_cons_succ, List.set_cons_zero]
          refine take_at (i := 2) (d := 28) (v := .string (namesAt l T)) rfl rfl (by kernel_rfl) (by kernel_rfl) (by kernel_rfl) (fun _ _ _ h => h) (by kernel_rfl) (by (intro w hSw; (try dsimp only at hSw); go_simp)) (by assumption) ?_
          simp only [List.setIfInBounds_toArray, List.set_cons_succ, List.set_cons_zero]
          refine take_at (i := 3) (d := 29) (v := .string (namesAt l R)) rfl rfl (by kernel_rfl) (by kernel_rfl) (by kernel_rfl) (fun _ _ _ h => h) (by kernel_rfl) (by (intro w hSw; (try dsimp only at hSw); go_simp)) (by assumption) ?_
          simp only [List.setIfInBounds_toArray, List.set_cons_succ, List.set_cons_zero]
          refine take_at (i := 4) (d := 30) (v := .int .i64 (k : Nat)) rfl rfl (by kernel_rfl) (by kernel_rfl) (by kernel_rfl) (fun _ _ _ h => h) (by kernel_rfl) (by (intro w hSw; (try dsimp only at hSw); go_simp)) (by assumption) ?_
          simp only [List.setIfInBounds_toArray, List.set_cons_succ, List.set_cons_zero]
          refine take_at (i := 5) (d := 31) (v := .int .i64 (k : Nat)) rfl rfl (by kernel_rfl) (by kernel_rfl) (by kernel_rfl) (fun _ _ _ h => h) (by kernel_rfl) (by (intro w hSw; (try dsimp only at hSw); go_simp)) (by assumption) ?_
          simp only [List.setIfInBounds_toArray, List.set_cons_succ, List.set_cons_zero]
          refine take_at (i := 6) (d := 32) (v := .int .i64 (k1 : Nat)) rfl rfl (by kernel_rfl) (by kernel_rfl) (by kernel_rfl) (fun _ _ _ h => h) (by kernel_rfl) (by (intro w hSw; (try dsimp only at hSw); go_simp)) (by assumption) ?_
          simp only [List.setIfInBounds_toArray, List.set_cons_succ, List.set_cons_zero]
          refine take_at (i := 7) (d := 33) (v := .string one) rfl rfl (by kernel_rfl) (by kernel_rfl) (by kernel_rfl) (fun _ _ _ h => h) (by kernel_rfl) ((by (intro W hS; go_simp; exact HX1.out))) (by assumption) ?_
          simp only [List.setIfInBounds_toArray, List.set_cons_succ, List.set_cons_zero]
          refine take_at (i := 8) (d := 34) (v := .string tk) rfl rfl (by kernel_rfl) (by kernel_rfl) (by kernel_rfl) (fun _ _ _ h => h) (by kernel_rfl) ((by (intro W hS; go_simp; rw [if_neg (by omega), HX3.out]))) (by assumption) ?_
          simp only [List.setIfInBounds_toArray, List.set_cons_succ, List.set_cons_zero]
          refine take_at (i := 9) (d := 35) (v := .string (namesAt l R)) rfl rfl (by kernel_rfl) (by kernel_rfl) (by kernel_rfl) (fun _ _ _ h => h) (by kernel_rfl) (by (intro w hSw; (try dsimp only at hSw); go_simp)) (by assumption) ?_
          simp only [List.setIfInBounds_toArray, List.set_cons_succ, List.set_cons_zero]
          refine take_at (i := 10) (d := 36) (v := .int .i64 (k : Nat)) rfl rfl (by kernel_rfl) (by kernel_rfl) (by kernel_rfl) (fun _ _ _ h => h) (by kernel_rfl) (by (intro w hSw; (try dsimp only at hSw); go_simp)) (by assumption) ?_
          simp only [List.setIfInBounds_toArray, List.set_cons_succ, List.set_cons_zero]
          refine take_at (i := 11) (d := 37) (v := .int .i64 (k1 : Nat)) rfl rfl (by kernel_rfl) (by kernel_rfl) (by kernel_rfl) (fun _ _ _ h => h) (by kernel_rfl) (by (intro w hSw; (try dsimp only at hSw); go_simp)) (by assumption) ?_
          simp only [List.setIfInBounds_toArray, List.set_cons_succ, List.set_cons_zero]
          refine take_at (i := 12) (d := 38) (v := .string rk) rfl rfl (by kernel_rfl) (by kernel_rfl) (by kernel_rfl) (fun _ _ _ h => h) (by kernel_rfl) ((by (intro W hS; go_simp; exact HX2.out))) (by assumption) ?_
          simp only [List.setIfInBounds_toArray, List.set_cons_succ, List.set_cons_zero]
          refine take_at (i := 13) (d := 39) (v := .int .i64 room) rfl rfl (by kernel_rfl) (by kernel_rfl) (by kernel_rfl) (fun _ _ _ h => h) (by kernel_rfl) (by (intro w hSw; (try dsimp only at hSw); go_simp)) (by assumption) ?_
          simp only [List.setIfInBounds_toArray, List.set_cons_succ, List.set_cons_zero]
          refine wpAnyH_ready (rs := [14]) (by kernel_rfl) (by simp) ?_
          refine AllReadyH.cons rfl (fun K hK => ?_) AllReadyH.nil
          go_simp
          refine Calls.mono (HQ.out _ ((HW.out.below hHeld).more hHeld.size)) ?_
          rintro e w6 ⟨v6, rfl, ho6, hb6⟩
          have hs6 : Below w.heap.size w w6 := hHeld.trans (hb6.mono hHeld.size)
          have HO6 := Lib.hid ho6.1
          obtain ⟨g6, cap6, rfl⟩ := ho6.form
          have HT6 := Lib.hid (HTd.out.below hb6)
          clear ho6 hb6 hHeld
          refine hK.out _ _ hs6 (fun hHeld => ?_)
          clear hK K hs6
          refine wpAnyH_ready (rs := [15]) (by kernel_rfl) (by simp) ?_
          refine AllReadyH.cons rfl (fun K hK => ?_) AllReadyH.nil
          rw [if_pos (by rfl)]
          refine wp1_append_txts10 (.tmp 26) (.tmp 40) rfl w.heap.size (.slice (some ⟨g, 0, none⟩) ts1.length cap) ts1 ts2 w6 rfl HT6.out (by omega) hHeld.size g6 cap6 rfl _ HO6.out HNE.out ?_
          intro v7 w7 hs7 hb7
          obtain ⟨g7, cap7, rfl⟩ := hs7.form
          have HS7 := Lib.hid hs7
          have hs8 : Below w.heap.size w w7 := hHeld.trans hb7
          clear hs7 hb7 hHeld
          refine hK.out _ _ hs8 (fun hHeld => ?_)
          clear hK K hs8
          refine take_at (i := 16) (d := 9) (v := .slice (some ⟨g7, 0, none⟩) (ts1 ++ ts2).length cap7) rfl rfl (by kernel_rfl) (by kernel_rfl) (by kernel_rfl) (fun _ _ _ h => h) (by kernel_rfl) (by (intro w hSw; (try dsimp only at hSw); go_simp)) (by assumption) ?_
          simp only [List.setIfInBounds_toArray, List.set_cons_succ, List.set_cons_zero]
          refine wpAnyH_done (by kernel_rfl) ?_ _
          have HB7 : Hid (Below w.heap.size w w7) := hHeld
          clear hHeld HT6 HO6 HTd HT HB HBd
          go_wp2
          go_roundw
          case rel => exact ⟨k1, _, by have := HK1.out; omega, rfl, HS2, by rw [HMA.out]; exact HS7, HB7⟩
          case measure => have := HK1.out; simp [intOf]; omega
        · obtain rfl : k = R.length := by omega
          have HE : Hid (all10 (fits10 l room) T R = ([] : List (List Nat)) ++ pre) := by
            show _ = _
            have h1 := HP.out
            rw [List.drop_length] at h1
            rw [HD2.out, h1]
            show _ ++ (pre ++ []) = _
            rw [List.append_nil]
          have hnl : ¬ ((R.length : Nat) : Int) < ((namesAt l R).size : Int) := by have := HRZ.out; omega
          go_wp2
          go_ret
          exact ⟨_, rfl, by rw [HE.out]; exact HT.out, HB.out⟩
    | true =>
      rw [hf] at HR0 HDEF
      have hd := HR0.out
      have HD2 : Hid (all10 (fits10 l room) T R = [T] ++ allR10 (fits10 l room) T R) := HDEF
      clear hf HR0 HDEF
      go_enter Try.func97, Try.ntmps97
      go_wp2_with fail
      refine (HLR.out _ ((HW.out.below HB0.out).more HB0.out.size)).mono ?_
      rintro e w1 ⟨rfl, hb1⟩
      have HB1 := Lib.hid (HB0.out.trans (hb1.mono HB0.out.size))
      have HT1 : Hid (OwnTexts w1 w.heap.size (.slice (some ⟨w.heap.size, 0, none⟩) 0 0) []) := HS0.out.1.below hb1
      have HT2 : Hid ((w1.alloc (.cells #[.string (namesAt l T)] 9)).ownsRow w.heap.size 9 1 (.slice (some ⟨w.heap.size, 0, none⟩) 0 0) 0 []) := HT1.out.below ((Below.refl w1.heap.size w1).alloc (Nat.le_refl _) _)
      have hz1 := HB1.out.size
      clear hb1 HB0 HS0 HLR HT1
      generalize room10 l T = rm at *
      go_wp2_with (at_builtin; refine wpList_append_own_at _ rfl _ _ 40 rfl w.heap.size 9 i0 (.string ByteArray.empty) 1 16 Try.underlying40 I0.out Z0.out Z1.out Z2.out rfl (by decide) _ _ _ rfl HT2.out ⟨w1.heap.size, 0, none⟩ 1 1 [.string (namesAt l T)] rfl rfl (cell_one_new _ _ _) (by simp [Value.oneCell']) (by unfold maxLen; omega) (by omega) (by simp; omega) ?_; intro v5 w5 hown5 hgrow5 hnil5 _)
      obtain ⟨g5, cap5, rfl⟩ : ∃ g cap, v5 = .slice (some ⟨g, 0, none⟩) 1 cap := own_form hown5 (by omega)
      have HB5 : Hid (Below w.heap.size w w5) := (HB1.out.alloc hz1 _).grown hgrow5 (by simp; omega) (fun q hq => (World.ownsRow.lt HT2.out q hq).1)
      have HS1 : Hid (SolidTexts w5 w.heap.size (.slice (some ⟨g5, 0, none⟩) 1 cap5) ([T].map (namesAt l))) := ⟨hown5, fun h => by cases h⟩
      clear hown5 hgrow5 hnil5 HT2 HB1 hz1
      have HB1 := HB5
      clear HB5
      have HRK := Lib.hid (fun k (hk : k < R.length) => HRR.out.at hk)
      go_loopw [9, 23] (fun o i wr => ∃ (k : Nat) (pre : List (List Nat)), k ≤ R.length ∧ i = .int .i64 k ∧ Hid (allR10 (fits10 l room) T R = pre ++ allR10 (fits10 l room) T (R.drop k)) ∧ Hid (SolidTexts wr w.heap.size o (([T] ++ pre).map (namesAt l))) ∧ Hid (Below w.heap.size w wr))
        (fun _ i _ => R.length - (intOf i).toNat)
      case atStart => exact ⟨0, [], Nat.zero_le _, rfl, rfl, HS1, HB1⟩
      case round =>
        obtain ⟨k, pre, hk, rfl, HP, HT, HB⟩ := hrel
        clear HS1 HB1
        have hk0 : (0 : Int) ≤ (k : Int) := Int.natCast_nonneg _
        by_cases hlt : k < R.length
        · have hlt' : (k : Int) < ((namesAt l R).size : Int) := by have := HRZ.out; omega
          obtain ⟨x1, x2, x3, x4⟩ := HEX.out k hlt
          have HS2 := Lib.hid (HSTEP.out pre k hlt HP.out)
          have hsl := HSL.out k hlt
          have hal := HALN.out pre k HP.out
          have hr := HRK.out k hlt
          have HQ := Lib.hid (fun W h => IH.out (T ++ [R[k]]) (R.drop (k + 1)) W (by rw [List.length_drop]; omega) hr h)
          unfold ChainsPost at HQ
          obtain ⟨k1, hk1⟩ : ∃ k1 : Nat, k1 = k + 1 := ⟨_, rfl⟩
          have hwk : IntKind.i64.wrap ((k : Int) + 1) = (k1 : Int) := (IntWalk.i64_in _ (by omega)).trans (by omega)
          have hb1 : (k : Int) ≤ (k1 : Int) := by omega
          have hb2 : (k1 : Int) ≤ ((namesAt l R).size : Int) := by have := HRZ.out; omega
          rw [← hk1] at x1 x2 HS2 HQ hsl
          have HK1 := Lib.hid hk1
          have HX1 := Lib.hid x1
          have HX2 := Lib.hid x2
          have HX3 := Lib.hid x3
          have htl : (([T] ++ pre).map (namesAt l)).length ≤ 130 := by rw [List.length_map, List.length_append]; show 1 + pre.length ≤ 130; omega
          have hml : ((all10 (fits10 l room) (T ++ [R[k]]) (R.drop k1)).map (namesAt l)).length ≤ 128 := by rw [List.length_map]; exact hsl
          have HMA : Hid (([T] ++ (pre ++ all10 (fits10 l room) (T ++ [R[k]]) (R.drop k1))).map (namesAt l) = ([T] ++ pre).map (namesAt l) ++ (all10 (fits10 l room) (T ++ [R[k]]) (R.drop k1)).map (namesAt l)) := by
            show _ = _
            rw [← List.append_assoc, List.map_append]
          have hbz2 : (namesAt l T).size + 1 ≤ 9223372036854775807 := by omega
          have hrz2 : (namesAt l R).size ≤ 7 := by have := HRZ.out; omega
          clear x1 x2 x3 hr hk1 hsl hal
          generalize (all10 (fits10 l room) (T ++ [R[k]]) (R.drop k1)).map (namesAt l) = ts2 at *
          generalize ([T] ++ pre).map (namesAt l) = ts1 at *
          generalize namesAt l [R[k]] = one at *
          generalize namesAt l (T ++ [R[k]]) = tk at *
          generalize namesAt l (R.drop k1) = rk at *
          obtain ⟨g, cap, rfl⟩ := HT.out.form
          have HBd := Lib.hid HB.out.drew
          have HTd := Lib.hid (HT.out.1.below ((Below.refl _ wr).drew))
          have hne : (Value.slice (some ⟨g, 0, none⟩) ts1.length cap) ≠ .slice none 0 0 := fun h => by cases h
          have HNE := Lib.hid hne
          clear hne
          go_wp2_with fail
          refine wp_region_held_drew (S := (fun W => Below w.heap.size w W)) (by kernel_rfl) ?_ (fun hHeld => ?_)
          · exact HBd.out
          refine take_at (i := 0) (d := 26) (v := .slice (some ⟨g, 0, none⟩) ts1.length cap) rfl rfl (by kernel_rfl) (by kernel_rfl) (by kernel_rfl) (fun _ _ _ h => h) (by kernel_rfl) (by (intro w hSw; (try dsimp only at hSw); go_simp)) (by assumption) ?_
          simp only [List.setIfInBounds_toArray, List.set_cons_succ, List.set_cons_zero]
          refine take_at (i := 1) (d := 27) (v := .slice A l.length c) rfl rfl (by kernel_rfl) (by kernel_rfl) (by kernel_rfl) (fun _ _ _ h => h) (by kernel_rfl) (by (intro w hSw; (try dsimp only at hSw); go_simp)) (by assumption) ?_
          simp only [List.setIfInBounds_toArray, List.set_cons_succ, List.set_cons_zero]
          refine take_at (i := 2) (d := 28) (v := .string (namesAt l T)) rfl rfl (by kernel_rfl) (by kernel_rfl) (by kernel_rfl) (fun _ _ _ h => h) (by kernel_rfl) (by (intro w hSw; (try dsimp only at hSw); go_simp)) (by assumption) ?_
          simp only [List.setIfInBounds_toArray, List.set_cons_succ, List.set_cons_zero]
          refine take_at (i := 3) (d := 29) (v := .string (namesAt l R)) rfl rfl (by kernel_rfl) (by kernel_rfl) (by kernel_rfl) (fun _ _ _ h => h) (by kernel_rfl) (by (intro w hSw; (try dsimp only at hSw); go_simp)) (by assumption) ?_
          simp only [List.setIfInBounds_toArray, List.set_cons_succ, List.set_cons_zero]
          refine take_at (i := 4) (d := 30) (v := .int .i64 (k : Nat)) rfl rfl (by kernel_rfl) (by kernel_rfl) (by kernel_rfl) (fun _ _ _ h => h) (by kernel_rfl) (by (intro w hSw; (try dsimp only at hSw); go_simp)) (by assumption) ?_
          simp only [List.setIfInBounds_toArray, List.set_cons_succ, List.set_cons_zero]
          refine take_at (i := 5) (d := 31) (v := .int .i64 (k : Nat)) rfl rfl (by kernel_rfl) (by kernel_rfl) (by kernel_rfl) (fun _ _ _ h => h) (by kernel_rfl) (by (intro w hSw; (try dsimp only at hSw); go_simp)) (by assumption) ?_
          simp only [List.setIfInBounds_toArray, List.set_cons_succ, List.set_cons_zero]
          refine take_at (i := 6) (d := 32) (v := .int .i64 (k1 : Nat)) rfl rfl (by kernel_rfl) (by kernel_rfl) (by kernel_rfl) (fun _ _ _ h => h) (by kernel_rfl) (by (intro w hSw; (try dsimp only at hSw); go_simp)) (by assumption) ?_
          simp only [List.setIfInBounds_toArray, List.set_cons_succ, List.set_cons_zero]
          refine take_at (i := 7) (d := 33) (v := .string one) rfl rfl (by kernel_rfl) (by kernel_rfl) (by kernel_rfl) (fun _ _ _ h => h) (by kernel_rfl) ((by (intro W hS; go_simp; exact HX1.out))) (by assumption) ?_
          simp only [List.setIfInBounds_toArray, List.set_cons_succ, List.set_cons_zero]
          refine take_at (i := 8) (d := 34) (v := .string tk) rfl rfl (by kernel_rfl) (by kernel_rfl) (by kernel_rfl) (fun _ _ _ h => h) (by kernel_rfl) ((by (intro W hS; go_simp; rw [if_neg (by omega), HX3.out]))) (by assumption) ?_
          simp only [List.setIfInBounds_toArray, List.set_cons_succ, List.set_cons_zero]
          refine take_at (i := 9) (d := 35) (v := .string (namesAt l R)) rfl rfl (by kernel_rfl) (by kernel_rfl) (by kernel_rfl) (fun _ _ _ h => h) (by kernel_rfl) (by (intro w hSw; (try dsimp only at hSw); go_simp)) (by assumption) ?_
          simp only [List.setIfInBounds_toArray, List.set_cons_succ, List.set_cons_zero]
          refine take_at (i := 10) (d := 36) (v := .int .i64 (k : Nat)) rfl rfl (by kernel_rfl) (by kernel_rfl) (by kernel_rfl) (fun _ _ _ h => h) (by kernel_rfl) (by (intro w hSw; (try dsimp only at hSw); go_simp)) (by assumption) ?_
          simp only [List.setIfInBounds_toArray, List.set_cons_succ, List.set_cons_zero]
          refine take_at (i := 11) (d := 37) (v := .int .i64 (k1 : Nat)) rfl rfl (by kernel_rfl) (by kernel_rfl) (by kernel_rfl) (fun _ _ _ h => h) (by kernel_rfl) (by (intro w hSw; (try dsimp only at hSw); go_simp)) (by assumption) ?_
          simp only [List.setIfInBounds_toArray, List.set_cons_succ, List.set_cons_zero]
          refine take_at (i := 12) (d := 38) (v := .string rk) rfl rfl (by kernel_rfl) (by kernel_rfl) (by kernel_rfl) (fun _ _ _ h => h) (by kernel_rfl) ((by (intro W hS; go_simp; exact HX2.out))) (by assumption) ?_
          simp only [List.setIfInBounds_toArray, List.set_cons_succ, List.set_cons_zero]
          refine take_at (i := 13) (d := 39) (v := .int .i64 room) rfl rfl (by kernel_rfl) (by kernel_rfl) (by kernel_rfl) (fun _ _ _ h => h) (by kernel_rfl) (by (intro w hSw; (try dsimp only at hSw); go_simp)) (by assumption) ?_
          simp only [List.setIfInBounds_toArray, List.set_cons_succ, List.set_cons_zero]
          refine wpAnyH_ready (rs := [14]) (by kernel_rfl) (by simp) ?_
          refine AllReadyH.cons rfl (fun K hK => ?_) AllReadyH.nil
          go_simp
          refine Calls.mono (HQ.out _ ((HW.out.below hHeld).more hHeld.size)) ?_
          rintro e w6 ⟨v6, rfl, ho6, hb6⟩
          have hs6 : Below w.heap.size w w6 := hHeld.trans (hb6.mono hHeld.size)
          have HO6 := Lib.hid ho6.1
          obtain ⟨g6, cap6, rfl⟩ := ho6.form
          have HT6 := Lib.hid (HTd.out.below hb6)
          clear ho6 hb6 hHeld
          refine hK.out _ _ hs6 (fun hHeld => ?_)
          clear hK K hs6
          refine wpAnyH_ready (rs := [15]) (by kernel_rfl) (by simp) ?_
          refine AllReadyH.cons rfl (fun K hK => ?_) AllReadyH.nil
          rw [if_pos (by rfl)]
          refine wp1_append_txts10 (.tmp 26) (.tmp 40) rfl w.heap.size (.slice (some ⟨g, 0, none⟩) ts1.length cap) ts1 ts2 w6 rfl HT6.out (by omega) hHeld.size g6 cap6 rfl _ HO6.out HNE.out ?_
          intro v7 w7 hs7 hb7
          obtain ⟨g7, cap7, rfl⟩ := hs7.form
          have HS7 := Lib.hid hs7
          have hs8 : Below w.heap.size w w7 := hHeld.trans hb7
          clear hs7 hb7 hHeld
          refine hK.out _ _ hs8 (fun hHeld => ?_)
          clear hK K hs8
          refine take_at (i := 16) (d := 9) (v := .slice (some ⟨g7, 0, none⟩) (ts1 ++ ts2).length cap7) rfl rfl (by kernel_rfl) (by kernel_rfl) (by kernel_rfl) (fun _ _ _ h => h) (by kernel_rfl) (by (intro w hSw; (try dsimp only at hSw); go_simp)) (by assumption) ?_
          simp only [List.setIfInBounds_toArray, List.set_cons_succ, List.set_cons_zero]
          refine wpAnyH_done (by kernel_rfl) ?_ _
          have HB7 : Hid (Below w.heap.size w w7) := hHeld
          clear hHeld HT6 HO6 HTd HT HB HBd
          go_wp2
          go_roundw
          case rel => exact ⟨k1, _, by have := HK1.out; omega, rfl, HS2, by rw [HMA.out]; exact HS7, HB7⟩
          case measure => have := HK1.out; simp [intOf]; omega
        · obtain rfl : k = R.length := by omega
          have HE : Hid (all10 (fits10 l room) T R = [T] ++ pre) := by
            show _ = _
            have h1 := HP.out
            rw [List.drop_length] at h1
            rw [HD2.out, h1]
            show _ ++ (pre ++ []) = _
            rw [List.append_nil]
          have hnl : ¬ ((R.length : Nat) : Int) < ((namesAt l R).size : Int) := by have := HRZ.out; omega
          go_wp2
          go_ret
          exact ⟨_, rfl, by rw [HE.out]; exact HT.out, HB.out⟩

/-- All segments but the root, as the reference tells them. -/
theorem rest_names10 {l : List Seg} (hv : validB l = true) : Rest10 l [] (rest10 l.length) := by
  obtain ⟨h1, h2⟩ := rest10_asc l.length
  refine ⟨Pins10.nil, h1, fun x hx => ⟨(h2 x hx).1, (h2 x hx).2⟩, (fun t ht => by cases ht), ?_⟩
  unfold rest10
  rw [List.length_map, List.length_range]
  have := (valid_all hv).2.1
  omega

set_option maxRecDepth 100000 in
set_option maxHeartbeats 1000000 in
theorem l8Rest10_any (A : Option Addr) (l : List Seg) (c : Nat) (w : World) (hw : Segs w w.heap.size A l) (hl : l.length ≤ 1048576) (hv : validB l = true) (hn : Short l) :
    Calls Try.prog 98 #[.slice A l.length c] w fun e w' => e = .returned (.string (namesAt l (rest10 l.length))) ∧ Below w.heap.size w w' := by
  have h1 := (valid_all hv).2.1
  have h2 := (valid_all hv).2.2
  have HL := Lib.hid (specNames_any A l c w hw hl hn)
  have hns : namesStr l = namesAt l (List.range l.length) := by
    have h1 : namesStr l = seenOf l l.length := if_pos hv
    rw [h1]
    apply WideShapes.bytes_inj
    exact (range_names l l.length (Nat.le_refl _)).symm
  have hrl : ∀ j ∈ List.range l.length, j < l.length := fun j hj => List.mem_range.1 hj
  rw [hv, hns] at HL
  have hz : (namesAt l (List.range l.length)).size = l.length := by rw [names_size hv hrl, List.length_range]
  have HD : Hid ((namesAt l (List.range l.length)).extract 1 (namesAt l (List.range l.length)).size = namesAt l (rest10 l.length)) := by
    show _ = _
    rw [drop_names hv hrl]
    congr 1
    unfold rest10
    apply List.ext_getElem
    · simp
    · intro k h1 h2
      simp
      omega
  have hz1 : 1 ≤ (namesAt l (List.range l.length)).size := by rw [hz]; exact h2
  have hz8 : (namesAt l (List.range l.length)).size ≤ 8 := by rw [hz]; exact h1
  clear hw hv hn hns hz hrl
  generalize namesAt l (rest10 l.length) = r at *
  generalize namesAt l (List.range l.length) = z at *
  go_enter Try.func98, Try.ntmps98
  go_wp2_with fail
  refine Calls.mono HL.out ?_
  rintro e w1 ⟨rfl, hb1⟩
  go_wp2
  go_ret
  exact ⟨congrArg (fun x => Ending.returned (.string x)) HD.out, hb1⟩

set_option maxRecDepth 100000 in
set_option maxHeartbeats 1000000 in
theorem specAllPins_any (A : Option Addr) (l : List Seg) (c : Nat) (room : Int) (w : World) (hw : Segs w w.heap.size A l) (hl : l.length ≤ 1048576) (hn : Short l) :
    Calls Try.prog 44 #[.slice A l.length c, .int .i64 room] w (AllPost10 w l room) := by
  have HW : Hid (Segs w w.heap.size A l) := hw
  unfold AllPost10
  cases hv : validB l with
  | false =>
    have HE : Hid (pinTexts10 l room = []) := if_neg (by rw [hv]; decide)
    clear hw
    go_enter Try.func44, Try.ntmps44
    go_wp2_with fail
    refine (specTreeValid_any _ _ _ _ HW.out hl hn).mono ?_
    rw [hv]
    rintro e w1 ⟨rfl, hb1⟩
    have HB := Lib.hid hb1
    clear hb1 hv
    go_wp2
    go_ret2
    exact ⟨_, rfl, by rw [HE.out]; exact OwnTexts.empty w1 HB.out.size, HB.out.alloc HB.out.size _⟩
  | true =>
    have HRE := Lib.hid (fun W h => l8Rest10_any A l c W h hl hv hn)
    have HAL := Lib.hid (fun W h => l10All_any A l c room hl hn hv ((rest10 l.length).length + 1) [] (rest10 l.length) W (by omega) (rest_names10 hv) h)
    unfold ChainsPost at HAL
    have HE : Hid (pinTexts10 l room = (all10 (fits10 l room) [] (rest10 l.length)).map (namesAt l)) := if_pos hv
    have HN0 : Hid (namesAt l [] = ⟨#[]⟩) := rfl
    rw [← HE.out, HN0.out] at HAL
    clear hw HE HN0
    generalize namesAt l (rest10 l.length) = rs at *
    generalize pinTexts10 l room = ts at *
    go_enter Try.func44, Try.ntmps44
    go_wp2_with fail
    refine (specTreeValid_any _ _ _ _ HW.out hl hn).mono ?_
    rw [hv]
    rintro e w1 ⟨rfl, hb1⟩
    have HB1 := Lib.hid hb1
    clear hb1 hv
    go_wp2_with fail
    refine (HRE.out _ ((HW.out.below HB1.out).more HB1.out.size)).mono ?_
    rintro e w2 ⟨rfl, hb2⟩
    have HB2 := Lib.hid (HB1.out.trans (hb2.mono HB1.out.size))
    clear hb2
    go_wp2_with fail
    refine (HAL.out _ ((HW.out.below HB2.out).more HB2.out.size)).mono ?_
    rintro e w3 ⟨v, rfl, ho, hb3⟩
    obtain ⟨g, cap, rfl⟩ := ho.form
    have HO := Lib.hid ho.1
    have HB3 := Lib.hid (HB2.out.trans (hb3.mono HB2.out.size))
    have HZ2 := Lib.hid HB2.out.size
    clear ho hb3
    go_wp2
    go_ret2
    exact ⟨_, rfl, own_low HO.out HZ2.out, HB3.out⟩

end Go.Proofs.Ytcpiojliakgdlaa
/- The walk of the law FnExactAllPins. -/
namespace Go.Proofs.Ytcpiojliakgdlaa
open Go.RowKit

theorem allPins_any (A : Option Addr) (l : List Seg) (c : Nat) (room : Int) (w : World) (hw : Segs w w.heap.size A l) (hl : l.length ≤ 1048576) (hlc : l.length ≤ c) (hcm : c ≤ 9223372036854775807) (hn : Short l) :
    Calls Try.prog 43 #[.slice A l.length c, .int .i64 room] w (AllPost10 w l room) := by
  cases hv : validB l with
  | false => exact allPins_bad A l c room w hw hl hlc hcm hn hv
  | true => exact allPins_good A l c room w hw hl hlc hcm hn hv

end Go.Proofs.Ytcpiojliakgdlaa
