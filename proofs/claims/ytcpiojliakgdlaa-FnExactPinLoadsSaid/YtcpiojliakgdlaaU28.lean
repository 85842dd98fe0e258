/- Joined: Ei Ej Gq. -/
import Derived.Test.YtcpiojliakgdlaaU27
import Derived.Test.YtcpiojliakgdlaaU17
import Derived.Test.YtcpiojliakgdlaaU02
import Derived.Test.YtcpiojliakgdlaaU09
import Derived.Test.YtcpiojliakgdlaaU08
import Derived.Deep.Onto
/- The program: a run in which segments stay. -/
namespace Go.Proofs.Ytcpiojliakgdlaa
open Go.RowKit Go.Shelf

/-- The cells of needs. -/
def needCells10 (l : List Seg) (js : List Nat) : List Value := js.flatMap fun j => (bitCells (inT (rp l j))).toList
theorem needCells10_snoc (l : List Seg) (js : List Nat) (j : Nat) : needCells10 l (js ++ [j]) = needCells10 l js ++ (bitCells (inT (rp l j))).toList := by simp [needCells10]
theorem needCells10_at (l : List Seg) {js : List Nat} {k j : Nat} (h : js[k]? = some j) {i : Nat} (hi : i < 8) : (needCells10 l js)[k * 8 + i]? = some (.bool (inT (rp l j) i)) := by
  induction js generalizing k with
  | nil => simp at h
  | cons x js ih =>
    have e : needCells10 l (x :: js) = (bitCells (inT (rp l x))).toList ++ needCells10 l js := rfl
    have e8 : (bitCells (inT (rp l x))).toList.length = 8 := rfl
    rw [e]
    cases k with
    | zero =>
      simp at h
      subst h
      rw [Nat.zero_mul, Nat.zero_add, List.getElem?_append_left (by rw [e8]; exact hi), Array.getElem?_toList, bits_at _ hi]
    | succ k =>
      rw [List.getElem?_cons_succ] at h
      rw [List.getElem?_append_right (by rw [e8]; omega), e8, show (k + 1) * 8 + i - 8 = k * 8 + i by omega]
      exact ih h
theorem own_keep10 {w w' : World} {base n size : Nat} {e : TypeId} {v : Value} {xs : List Value} (h : w.ownsRow base e size v n xs) (hk : ∀ g, v.ownBlock = some g → w'.heap[g]? = w.heap[g]?) : w'.ownsRow base e size v n xs := by
  refine ⟨h.1, ?_⟩
  rcases h.2 with h0 | ⟨g', cap, cur, rfl, hg, hh, r⟩
  · exact .inl h0
  · exact .inr ⟨g', cap, cur, rfl, hg, (hk g' rfl).trans hh, r⟩
def zeroNeed10 : Value := .agg #[.bool false, .bool false, .bool false, .bool false, .bool false, .bool false, .bool false, .bool false]
theorem info_need10 : (Try.prog.info? 142).map (fun i => (i.zero, i.size, i.bytes)) = some (some zeroNeed10, 8, 8) := by kernel_rfl
/-- Needs in a row of the call's own. -/
def OwnNeeds10 (w : World) (B : Nat) (l : List Seg) (v : Value) (js : List Nat) : Prop := w.ownsRow B 142 8 v js.length (needCells10 l js)
theorem OwnNeeds10.keep {w w' : World} {B : Nat} {l : List Seg} {v : Value} {js : List Nat} (h : OwnNeeds10 w B l v js) (hk : ∀ b, B ≤ b → b < w.heap.size → w'.heap[b]? = w.heap[b]?) : OwnNeeds10 w' B l v js :=
  own_keep10 h (fun g hg => hk g (World.ownsRow.lt h g hg).1 (World.ownsRow.lt h g hg).2)
theorem OwnNeeds10.below {w w' : World} {B : Nat} {l : List Seg} {v : Value} {js : List Nat} (h : OwnNeeds10 w B l v js) (hb : Below w.heap.size w w') : OwnNeeds10 w' B l v js := h.keep (fun b _ hb2 => hb.block b hb2)
theorem OwnNeeds10.form {w : World} {B : Nat} {l : List Seg} {v : Value} {js : List Nat} (h : OwnNeeds10 w B l v js) : ∃ A c, v = .slice A js.length c := by
  rcases h.2 with ⟨h1, h2⟩ | ⟨g, cap, _, h1, _⟩
  · exact ⟨none, 0, by rw [h1, h2]⟩
  · exact ⟨_, _, h1⟩
theorem OwnNeeds10.cell {w : World} {B q cap : Nat} {l : List Seg} {js : List Nat} (h : OwnNeeds10 w B l (.slice (some ⟨q, 0, none⟩) js.length cap) js) {k j : Nat} (hk : js[k]? = some j) {i : Nat} (hi : i < 8) : w.cell? ⟨q, k * 8 + i, none⟩ = some (.bool (inT (rp l j) i)) := by
  have hlt := (List.getElem?_eq_some_iff.1 hk).1
  have := World.ownsRow.cellAt h (k * 8 + i) (by omega)
  rw [this]
  exact needCells10_at l hk hi

/-- append of one need, laid as a row of its own, as one step of a region. -/
theorem wp1_append_need10 {o : Oper} {a : Act} {K : Act → World → Prop} {Q : Exit → Act → World → Prop} (S X : Operand)
    (ho : o.op = Op.call { callee := Callee.builtin Builtin.append, args := #[S, X], argTypes := #[130, 130] })
    (B : Nat) (l : List Seg) (v : Value) (js : List Nat) (j : Nat) (w : World) (hs : a.eval S = v) (hown : OwnNeeds10 w B l v js) (hl : js.length ≤ 1000) (hB : B ≤ w.heap.size)
    (g : Nat) (hx : a.eval X = .slice (some ⟨g, 0, none⟩) 1 1) (hnew : Row w g 142 (bitCells (inT (rp l j))))
    (h : ∀ v' w', OwnNeeds10 w' B l v' (js ++ [j]) → Below B w w' → K (a.put o.dst v') w') :
    o.wp Try.prog a w K Q := by
  obtain ⟨i0, hi0, hz0, hz1, hz2⟩ := info_parts info_need10
  have hnews : ∀ (k : Nat) (y : Value), (bitCells (inT (rp l j))).toList[k]? = some y → w.cell? ((⟨g, 0, none⟩ : Addr).add k) = some y := fun k y hy => by
    have h1 := hnew.cell k
    rw [← Array.getElem?_toList, hy] at h1
    rw [← h1]
    simp only [Addr.add]
    split <;> simp_all
  obtain ⟨v', w', hr, hown', hgrow, -, -⟩ := run_append_own_at (P := Try.prog) (w := w) B 130 o.type 142 i0 zeroNeed10 8 8 Try.underlying130 hi0 hz0 hz1 hz2 rfl (by decide) v js.length (needCells10 l js) hown ⟨g, 0, none⟩ 1 1 (bitCells (inT (rp l j))).toList rfl
    hnews (by simp [bitCells, Value.oneCell']) (by unfold maxLen; omega) (by omega) hB
  unfold Oper.wp execOp
  simp only [ho, resolve, invoke, builtin, Sem.run_bind, Sem.run_pure, Result.andThen_ok, List.map_toArray, List.map_cons, List.map_nil, hs, hx, hr]
  refine h v' w' ?_ ((Below.refl B w).grown hgrow hB (fun k e => (World.ownsRow.lt hown k e).1))
  unfold OwnNeeds10
  rw [needCells10_snoc, List.length_append]
  exact hown'

/-- What newPinnedRun makes. -/
def RunMade10 (w : World) (l : List Seg) (t : ByteArray) (e : Ending) (w' : World) : Prop :=
  ∃ B g nb cv v, w.heap.size ≤ B ∧ e = .returned (.tuple #[.agg #[.slice (some ⟨g, 0, none⟩) l.length l.length, v], .bool true]) ∧ Nodes w' B g l.length l.length l nb cv ∧ OwnNeeds10 w' w.heap.size l v (needIx10 l t) ∧ Below w.heap.size w w'

/-- What the loop over the needs keeps. -/
structure Mak10 (w w2 w3 : World) (l : List Seg) (g : Nat) (v : Value) (js : List Nat) (W : World) : Prop where
  run : Row W w2.heap.size 132 #[.slice (some ⟨g, 0, none⟩) l.length l.length, v]
  same : ∀ k, k < w3.heap.size → k ≠ w2.heap.size → W.heap[k]? = w3.heap[k]?
  size : w3.heap.size ≤ W.heap.size
  needs : OwnNeeds10 W w3.heap.size l v js
  below : Below w2.heap.size w2 W
  low : Below w.heap.size w W
  le : w2.heap.size + 1 ≤ w3.heap.size
theorem Mak10.grow {w w2 w3 W W' : World} {l : List Seg} {g : Nat} {v : Value} {js : List Nat} (h : Mak10 w w2 w3 l g v js W) (hb : Below W.heap.size W W') (hw : w.heap.size ≤ w2.heap.size) : Mak10 w w2 w3 l g v js W' :=
  ⟨h.run.below hb h.run.lt, fun k hk hne => (hb.block k (by have := h.size; omega)).trans (h.same k hk hne), Nat.le_trans h.size hb.size, h.needs.below hb, h.below.trans (hb.mono (by have := h.size; have := h.le; omega)), h.low.trans (hb.mono (by have := h.size; have := h.le; omega)), h.le⟩

set_option maxRecDepth 100000 in
set_option maxHeartbeats 400000 in
theorem newRun_none (A : Option Addr) (l : List Seg) (c : Nat) (t : ByteArray) (w : World) (hw : Segs w w.heap.size A l) (hl : l.length ≤ 1048576) (hlc : l.length ≤ c) (hcm : c ≤ 9223372036854775807) (hn : Short l) (ht : t.size ≤ 1048576) (hR : traceB l t.data.toList = none) :
    Calls Try.prog 108 #[.slice A l.length c, .string t] w fun e w' => e = .returned (.tuple #[.agg #[.slice none 0 0, .slice none 0 0], .bool false]) ∧ Below w.heap.size w w' := by
  have HND := Lib.hid (fun W h => needsOf_any A l c t W h hl hlc hcm hn ht)
  rw [hR] at HND
  have hbw : Below w.heap.size w (w.alloc (.cells #[.slice none 0 0, .slice none 0 0] 132)) := (Below.refl _ w).alloc (Nat.le_refl _) _
  have HW : Hid (Segs (w.alloc (.cells #[.slice none 0 0, .slice none 0 0] 132)) (w.alloc (.cells #[.slice none 0 0, .slice none 0 0] 132)).heap.size A l) := (hw.below hbw).more hbw.size
  have HBW := Lib.hid hbw
  clear hw hn hR hbw
  generalize needsRes l t = nd at *
  go_enter Try.func108, Try.ntmps108
  go_wp2_with fail
  refine (HND.out _ HW.out).mono ?_
  rintro e w1 ⟨rfl, hb1⟩
  have hr : Row w1 w.heap.size 132 #[.slice none 0 0, .slice none 0 0] := (Row.new w _ _).below hb1 (by simp)
  have r0 := hr.cell 0
  have r1 := hr.cell 1
  have f0 := hr.free 0
  have f1 := hr.free 1
  have hp := (hr.put 0 (.slice none 0 0)).put 1 (.slice none 0 0)
  have HP := Lib.hid hp
  have HB : Hid (Below w.heap.size w ((w1.setCell ⟨w.heap.size, 0, none⟩ (.slice none 0 0)).setCell ⟨w.heap.size, 1, none⟩ (.slice none 0 0))) := ((HBW.out.trans (hb1.mono (by simp))).setCell (p := ⟨w.heap.size, 0, none⟩) (Nat.le_refl w.heap.size) _).setCell (p := ⟨w.heap.size, 1, none⟩) (Nat.le_refl w.heap.size) _
  clear hb1 hr hp
  go_wp2
  refine bodyPost_ret (v := .tuple #[.agg #[.slice none 0 0, .slice none 0 0], .bool false]) ?_ rfl ⟨rfl, HB.out⟩
  have d0 := HP.out.cell 0
  have d1 := HP.out.cell 1
  simp [results, Try.results108, go_sem, d0, d1]

end Go.Proofs.Ytcpiojliakgdlaa
/- The program's newPinnedRun where there is a trace. -/
namespace Go.Proofs.Ytcpiojliakgdlaa
open Go.RowKit Go.Shelf

/-- One need more is stored. -/
theorem Mak10.step {w w2 w3 W W' : World} {l : List Seg} {g : Nat} {v v' : Value} {js js' : List Nat} (h : Mak10 w w2 w3 l g v js W) (hb : Below w3.heap.size W W') (hn : OwnNeeds10 W' w3.heap.size l v' js') (hw : w.heap.size ≤ w2.heap.size) :
    Mak10 w w2 w3 l g v' js' (W'.setCell ⟨w2.heap.size, 1, none⟩ v') := by
  have h1 := h.le
  have h2 := (h.run.below hb (by omega)).put 1 v'
  refine ⟨h2, fun k hk hne => (Below.heap_setCell _ _ _ k hne).trans ((hb.block k hk).trans (h.same k hk hne)), by simp [World.setCell]; exact Nat.le_trans h.size hb.size, hn.keep (fun b hb1 _ => Below.heap_setCell _ _ _ b (by show b ≠ w2.heap.size; omega)), (h.below.trans (hb.mono (by omega))).setCell (p := ⟨w2.heap.size, 1, none⟩) (Nat.le_refl w2.heap.size) _, (h.low.trans (hb.mono (by omega))).setCell (p := ⟨w2.heap.size, 1, none⟩) hw _, h1⟩

theorem row_same10 {w w' : World} {b : Nat} {t : TypeId} {cs : Array Value} (h : Row w b t cs) (he : w'.heap[b]? = w.heap[b]?) : Row w' b t cs := he.trans h

set_option maxRecDepth 100000 in
set_option maxHeartbeats 4000000 in
theorem newRun_some (A : Option Addr) (l : List Seg) (c : Nat) (t : ByteArray) (w : World) (hw : Segs w w.heap.size A l) (hl : l.length ≤ 1048576) (hlc : l.length ≤ c) (hcm : c ≤ 9223372036854775807) (hn : Short l) (ht : t.size ≤ 1048576) {f : Forest} (hR : traceB l t.data.toList = some f) :
    Calls Try.prog 108 #[.slice A l.length c, .string t] w (RunMade10 w l t) := by
  obtain ⟨hv, -, -⟩ := traceB_some hR
  obtain ⟨hnm, hjs, hjz⟩ := needIx10_lt hR
  obtain ⟨-, -, hndz⟩ := need_all10 hR
  have HND := Lib.hid (fun W h => needsOf_any A l c t W h hl hlc hcm hn ht)
  rw [hR] at HND
  have HNO := Lib.hid (fun W h => nodesOf_any A l c W h hl hlc hcm hn hv)
  unfold NodesPost at HNO
  have HNN := Lib.hid (fun B g nb cv W h => nodesNamed_any B g l nb cv (needsRes l t) W h hv (by omega))
  unfold NamedEither NamedPost at HNN
  have hbw : Below w.heap.size w (w.alloc (.cells #[.slice none 0 0, .slice none 0 0] 132)) := (Below.refl _ w).alloc (Nat.le_refl _) _
  have HW : Hid (Segs (w.alloc (.cells #[.slice none 0 0, .slice none 0 0] 132)) (w.alloc (.cells #[.slice none 0 0, .slice none 0 0] 132)).heap.size A l) := (hw.below hbw).more hbw.size
  have HBW := Lib.hid hbw
  have HJ := Lib.hid hjs
  have HNM := Lib.hid hnm
  have HNF := Lib.hid (fun B g nb cv i W h hi => needFor_any B g i l nb cv W h hv hi)
  unfold RunMade10
  have HJD : Hid (namedJs l (needsRes l t).data.toList = needIx10 l t) := rfl
  rw [HJD.out] at HNN
  clear hw hn hR hbw hnm hndz hv hjs HJD
  generalize needIx10 l t = js at *
  generalize needsRes l t = nd at *
  go_enter Try.func108, Try.ntmps108
  go_wp2_with fail
  refine (HND.out _ HW.out).mono ?_
  rintro e w1 ⟨rfl, hb1⟩
  have hr1 : Row w1 w.heap.size 132 #[.slice none 0 0, .slice none 0 0] := (Row.new w _ _).below hb1 (by simp)
  have HB1 := Lib.hid (HBW.out.trans (hb1.mono (by simp)))
  have HW1 := Lib.hid ((HW.out.below hb1).more hb1.size)
  have HR1 := Lib.hid hr1
  have HZ1 : Hid (w.heap.size + 1 ≤ w1.heap.size) := by show _ ≤ _; have := hb1.size; simpa using this
  clear hb1 hr1 HND HBW HW
  go_wp2_with fail
  refine (HNO.out _ HW1.out).mono ?_
  rintro e w2 ⟨g, nb, cv, rfl, hN, hb2⟩
  have HN := Lib.hid hN
  have HR2 := Lib.hid (HR1.out.below hb2 (by have := HZ1.out; omega))
  have HB2 := Lib.hid (HB1.out.trans (hb2.mono HB1.out.size))
  have HZ2 : Hid (w.heap.size + 1 ≤ w2.heap.size ∧ w1.heap.size ≤ w2.heap.size) := by have := HZ1.out; have := hb2.size; exact ⟨by omega, this⟩
  clear hN hb2 HR1 HB1 HNO HW1
  have hbr : Below w2.heap.size w2 (w2.alloc (.cells #[.slice (some ⟨g, 0, none⟩) l.length l.length, .slice none 0 0] 132)) := (Below.refl _ w2).alloc (Nat.le_refl _) _
  have HRN : Hid (Row (w2.alloc (.cells #[.slice (some ⟨g, 0, none⟩) l.length l.length, .slice none 0 0] 132)) w2.heap.size 132 #[.slice (some ⟨g, 0, none⟩) l.length l.length, .slice none 0 0]) := Row.new w2 _ _
  have HBR := Lib.hid hbr
  have hsz : (w2.alloc (.cells #[.slice (some ⟨g, 0, none⟩) l.length l.length, .slice none 0 0] 132)).heap.size = w2.heap.size + 1 := by simp
  have HSZ := Lib.hid hsz
  clear hbr hsz
  go_wp2_with fail
  refine (HNN.out _ _ _ _ _ (HN.out.below HBR.out)).mono ?_
  rintro e w3 (⟨_, v, rfl, hown, hb3⟩ | ⟨hok, _, _⟩)
  · have hM0 : Mak10 w w2 w3 l g (.slice none 0 0) (js.take 0) w3 :=
      ⟨HRN.out.below hb3 (by rw [HSZ.out]; omega), fun _ _ _ => rfl, Nat.le_refl _, World.ownsRow_nil _ _ _ _, HBR.out.trans (hb3.mono (by rw [HSZ.out]; omega)), HB2.out.trans ((HBR.out.trans (hb3.mono (by rw [HSZ.out]; omega))).mono HB2.out.size), by have := hb3.size; rw [HSZ.out] at this; exact this⟩
    have HM0 := Lib.hid hM0
    have HR3 : Hid (Row w3 w.heap.size 132 #[.slice none 0 0, .slice none 0 0]) := HR2.out.below hM0.below (by have := HZ2.out; omega)
    have HO := Lib.hid hown
    obtain ⟨A4, c4, rfl⟩ : ∃ A4 c4, v = .slice A4 js.length c4 := by
      rcases hown.2 with ⟨h1, h2⟩ | ⟨g4, cap4, _, h, _⟩
      · exact ⟨none, 0, by rw [h1, h2]⟩
      · exact ⟨_, _, h⟩
    clear hown hb3 hM0 HRN HR2 HB2 HNN
    go_wp2
    go_loopw [34] (fun i wr => ∃ (k : Nat) (v : Value), k ≤ js.length ∧ i = .int .i64 k ∧ Hid (Mak10 w w2 w3 l g v (js.take k) wr))
      (fun i _ => js.length - (intOf i).toNat)
    case atStart => exact ⟨0, _, Nat.zero_le _, rfl, HM0⟩
    case round =>
      obtain ⟨k, v, hk, rfl, HM⟩ := hrel
      clear HM0
      have hk0 : (0 : Int) ≤ (k : Int) := Int.natCast_nonneg _
      by_cases hlt : k < js.length
      · have hlt' : (k : Int) < (js.length : Int) := by omega
        obtain ⟨q, cap, hq⟩ := own_form HO.out (by omega)
        injection hq with hq1 _ hq3
        subst hq1
        subst hq3
        obtain ⟨hq4, hq5⟩ := World.ownsRow.lt HO.out q rfl
        rw [HSZ.out] at hq4
        have hc : wr.cell? ⟨q, k, none⟩ = some (.pointer (some ⟨nb js[k], 0, none⟩)) := by
          have h1 := HO.out.cellAt k (by omega)
          have h2 : wr.cell? ⟨q, k, none⟩ = w3.cell? ⟨q, k, none⟩ := by
            unfold World.cell?
            simp only
            rw [HM.out.same q hq5 (by omega)]
          rw [h2, h1]
          simp [ptrsOf, ptrTo, hlt]
        have hjk := HJ.out js[k] (List.getElem_mem hlt)
        have HT : Hid (js.take (k + 1) = js.take k ++ [js[k]]) := List.take_succ_eq_append_getElem hlt
        have hlk : (js.take k).length ≤ 161 := by rw [List.length_take]; omega
        have HLK := Lib.hid hlk
        generalize js[k] = j at *
        clear hq4 hq5 hlk
        obtain ⟨vA, vc, rfl⟩ := HM.out.needs.form
        generalize (js.take k).length = nk at *
        have HMd := Lib.hid (HM.out.grow ((Below.refl _ wr).drew) (by have := HZ2.out; omega))
        go_wp2_with fail
        refine wp_region_held_drew (S := (fun W => (∃ u, Row W w2.heap.size 132 #[.slice (some ⟨g, 0, none⟩) l.length l.length, u]) ∧ Below w2.heap.size w2 W)) (by kernel_rfl) ?_ (fun hHeld => ?_)
        · exact ⟨⟨_, HMd.out.run⟩, HMd.out.below⟩
        refine take_at (i := 0) (d := 38) (v := .pointer (some ⟨w2.heap.size, 1, none⟩)) rfl rfl (by kernel_rfl) (by kernel_rfl) (by kernel_rfl) (fun _ _ _ h => h) (by kernel_rfl) (by (intro w hSw; (try dsimp only at hSw); go_simp)) (by assumption) ?_
        simp only [List.setIfInBounds_toArray, List.set_cons_succ, List.set_cons_zero]
        refine take_at (i := 2) (d := 40) (v := .pointer (some ⟨w2.heap.size, 0, none⟩)) rfl rfl (by kernel_rfl) (by kernel_rfl) (by kernel_rfl) (fun _ _ _ h => h) (by kernel_rfl) (by (intro w hSw; (try dsimp only at hSw); go_simp)) (by assumption) ?_
        simp only [List.setIfInBounds_toArray, List.set_cons_succ, List.set_cons_zero]
        refine take_at (i := 3) (d := 41) (v := .slice (some ⟨g, 0, none⟩) l.length l.length) rfl rfl (by kernel_rfl) (by kernel_rfl) (by kernel_rfl) (fun _ _ _ h => h) (by kernel_rfl) ((by (intro W hS; obtain ⟨u, hu⟩ := hS.1; have hcu := hu.cell 0; go_simp))) (by assumption) ?_
        simp only [List.setIfInBounds_toArray, List.set_cons_succ, List.set_cons_zero]
        refine take_at (i := 4) (d := 42) (v := .pointer (some ⟨nb j, 0, none⟩)) rfl rfl (by kernel_rfl) (by kernel_rfl) (by kernel_rfl) (fun _ _ _ h => h) (by kernel_rfl) (by (intro w hSw; (try dsimp only at hSw); go_simp)) (by assumption) ?_
        simp only [List.setIfInBounds_toArray, List.set_cons_succ, List.set_cons_zero]
        refine wpAnyH_ready (rs := [1, 5]) (by kernel_rfl) (by simp) ?_
        refine AllReadyH.cons rfl (fun K hK => ?_) (AllReadyH.cons rfl (fun K hK => ?_) AllReadyH.nil)
        ·
          have c1 := HMd.out.run.cell 1
          go_simp
          refine hK.out _ _ hHeld (fun hHeld => ?_)
          clear hK K c1
          refine wpAnyH_ready (rs := [5]) (by kernel_rfl) (by simp) ?_
          refine AllReadyH.cons rfl (fun K hK => ?_) AllReadyH.nil
          go_simp
          refine Calls.mono (HNF.out _ _ _ _ _ _ (HN.out.below HMd.out.below) hjk) ?_
          rintro e w4 ⟨rfl, hb4⟩
          have HM4 := Lib.hid (HMd.out.grow hb4 (by have := HZ2.out; omega))
          clear hb4 hHeld
          refine hK.out _ _ ⟨⟨_, HM4.out.run⟩, HM4.out.below⟩ (fun hHeld => ?_)
          clear hK K
          refine wpAnyH_ready (rs := [6]) (by kernel_rfl) (by simp) ?_
          refine AllReadyH.cons rfl (fun K hK => ?_) AllReadyH.nil
          obtain ⟨w5, hw5⟩ : ∃ w5, w5 = w4.alloc (.cells (bitCells (inT (rp l j))) 142) := ⟨_, rfl⟩
          have HM5 : Hid (Mak10 w w2 w3 l g (.slice vA nk vc) (js.take k) w5) := by rw [hw5]; exact HM4.out.grow ((Below.refl _ w4).alloc (Nat.le_refl _) _) (by have := HZ2.out; omega)
          have HR5 : Hid (Row w5 w4.heap.size 142 (bitCells (inT (rp l j)))) := by rw [hw5]; exact Row.new w4 _ _
          unfold bitCells at hw5
          unfold bitsV bitCells
          go_simp
          rw [← hw5]
          clear hHeld hw5
          refine hK.out _ _ ⟨⟨_, HM5.out.run⟩, HM5.out.below⟩ (fun hHeld => ?_)
          clear hK K
          refine wpAnyH_ready (rs := [7]) (by kernel_rfl) (by simp) ?_
          refine AllReadyH.cons rfl (fun K hK => ?_) AllReadyH.nil
          rw [if_pos (by rfl)]
          refine wp1_append_need10 (.tmp 39) (.tmp 44) rfl w3.heap.size l (.slice vA nk vc) (js.take k) j w5 rfl HM5.out.needs (by have := HLK.out; rw [List.length_take]; omega) HM5.out.size w4.heap.size rfl HR5.out ?_
          intro v6 w6 ho6 hb6
          obtain ⟨A6, n6, c6, rfl⟩ : ∃ A n c, v6 = .slice A n c := by
            obtain ⟨A, c, h⟩ := ho6.form
            exact ⟨_, _, _, h⟩
          have HR6 := Lib.hid (HM5.out.run.below hb6 (by have := HM5.out.le; omega))
          have HB6 := Lib.hid (HM5.out.below.trans (hb6.mono (by have := HM5.out.le; omega)))
          have HM7 := Lib.hid (HM5.out.step hb6 ho6 (by have := HZ2.out; omega))
          clear hHeld ho6 hb6
          refine hK.out _ _ ⟨⟨_, HR6.out⟩, HB6.out⟩ (fun hHeld => ?_)
          clear hK K
          refine take_at (i := 8) (d := 46) (v := .pointer (some ⟨w2.heap.size, 1, none⟩)) rfl rfl (by kernel_rfl) (by kernel_rfl) (by kernel_rfl) (fun _ _ _ h => h) (by kernel_rfl) (by (intro w hSw; (try dsimp only at hSw); go_simp)) (by assumption) ?_
          simp only [List.setIfInBounds_toArray, List.set_cons_succ, List.set_cons_zero]
          refine wpAnyH_ready (rs := [9]) (by kernel_rfl) (by simp) ?_
          refine AllReadyH.cons rfl (fun K hK => ?_) AllReadyH.nil
          have hc9 := HR6.out.cell 1
          have hf9 := HR6.out.free 1
          go_simp
          clear hHeld
          refine hK.out _ _ ⟨⟨_, HM7.out.run⟩, HM7.out.below⟩ (fun hHeld => ?_)
          clear hK K hHeld hc9 hf9
          refine wpAnyH_done (by kernel_rfl) ?_ _
          have HM8 : Hid (Mak10 w w2 w3 l g (.slice A6 n6 c6) (js.take (k + 1)) (w6.setCell ⟨w2.heap.size, 1, none⟩ (.slice A6 n6 c6))) := by
            show Mak10 _ _ _ _ _ _ _ _
            rw [HT.out]
            exact HM7.out
          generalize w6.setCell ⟨w2.heap.size, 1, none⟩ (.slice A6 n6 c6) = w7 at *
          clear HM7 HR6 HB6 HM5 HR5 HM4 HM HMd hc
          go_wp2
          go_roundw
          case rel => exact ⟨k + 1, .slice A6 n6 c6, by omega, by go_num, HM8⟩
          case measure => simp [intOf]; omega
        ·
          go_simp
          refine Calls.mono (HNF.out _ _ _ _ _ _ (HN.out.below HMd.out.below) hjk) ?_
          rintro e w4 ⟨rfl, hb4⟩
          have HM4 := Lib.hid (HMd.out.grow hb4 (by have := HZ2.out; omega))
          clear hb4 hHeld
          refine hK.out _ _ ⟨⟨_, HM4.out.run⟩, HM4.out.below⟩ (fun hHeld => ?_)
          clear hK K
          refine wpAnyH_ready (rs := [1, 6]) (by kernel_rfl) (by simp) ?_
          refine AllReadyH.cons rfl (fun K hK => ?_) (AllReadyH.cons rfl (fun K hK => ?_) AllReadyH.nil)
          ·
            have c1 := HM4.out.run.cell 1
            go_simp
            refine hK.out _ _ hHeld (fun hHeld => ?_)
            clear hK K c1
            refine wpAnyH_ready (rs := [6]) (by kernel_rfl) (by simp) ?_
            refine AllReadyH.cons rfl (fun K hK => ?_) AllReadyH.nil
            obtain ⟨w5, hw5⟩ : ∃ w5, w5 = w4.alloc (.cells (bitCells (inT (rp l j))) 142) := ⟨_, rfl⟩
            have HM5 : Hid (Mak10 w w2 w3 l g (.slice vA nk vc) (js.take k) w5) := by rw [hw5]; exact HM4.out.grow ((Below.refl _ w4).alloc (Nat.le_refl _) _) (by have := HZ2.out; omega)
            have HR5 : Hid (Row w5 w4.heap.size 142 (bitCells (inT (rp l j)))) := by rw [hw5]; exact Row.new w4 _ _
            unfold bitCells at hw5
            unfold bitsV bitCells
            go_simp
            rw [← hw5]
            clear hHeld hw5
            refine hK.out _ _ ⟨⟨_, HM5.out.run⟩, HM5.out.below⟩ (fun hHeld => ?_)
            clear hK K
            refine wpAnyH_ready (rs := [7]) (by kernel_rfl) (by simp) ?_
            refine AllReadyH.cons rfl (fun K hK => ?_) AllReadyH.nil
            rw [if_pos (by rfl)]
            refine wp1_append_need10 (.tmp 39) (.tmp 44) rfl w3.heap.size l (.slice vA nk vc) (js.take k) j w5 rfl HM5.out.needs (by have := HLK.out; rw [List.length_take]; omega) HM5.out.size w4.heap.size rfl HR5.out ?_
            intro v6 w6 ho6 hb6
            obtain ⟨A6, n6, c6, rfl⟩ : ∃ A n c, v6 = .slice A n c := by
              obtain ⟨A, c, h⟩ := ho6.form
              exact ⟨_, _, _, h⟩
            have HR6 := Lib.hid (HM5.out.run.below hb6 (by have := HM5.out.le; omega))
            have HB6 := Lib.hid (HM5.out.below.trans (hb6.mono (by have := HM5.out.le; omega)))
            have HM7 := Lib.hid (HM5.out.step hb6 ho6 (by have := HZ2.out; omega))
            clear hHeld ho6 hb6
            refine hK.out _ _ ⟨⟨_, HR6.out⟩, HB6.out⟩ (fun hHeld => ?_)
            clear hK K
            refine take_at (i := 8) (d := 46) (v := .pointer (some ⟨w2.heap.size, 1, none⟩)) rfl rfl (by kernel_rfl) (by kernel_rfl) (by kernel_rfl) (fun _ _ _ h => h) (by kernel_rfl) (by (intro w hSw; (try dsimp only at hSw); go_simp)) (by assumption) ?_
            simp only [List.setIfInBounds_toArray, List.set_cons_succ, List.set_cons_zero]
            refine wpAnyH_ready (rs := [9]) (by kernel_rfl) (by simp) ?_
            refine AllReadyH.cons rfl (fun K hK => ?_) AllReadyH.nil
            have hc9 := HR6.out.cell 1
            have hf9 := HR6.out.free 1
            go_simp
            clear hHeld
            refine hK.out _ _ ⟨⟨_, HM7.out.run⟩, HM7.out.below⟩ (fun hHeld => ?_)
            clear hK K hHeld hc9 hf9
            refine wpAnyH_done (by kernel_rfl) ?_ _
            have HM8 : Hid (Mak10 w w2 w3 l g (.slice A6 n6 c6) (js.take (k + 1)) (w6.setCell ⟨w2.heap.size, 1, none⟩ (.slice A6 n6 c6))) := by
              show Mak10 _ _ _ _ _ _ _ _
              rw [HT.out]
              exact HM7.out
            generalize w6.setCell ⟨w2.heap.size, 1, none⟩ (.slice A6 n6 c6) = w7 at *
            clear HM7 HR6 HB6 HM5 HR5 HM4 HM HMd hc
            go_wp2
            go_roundw
            case rel => exact ⟨k + 1, .slice A6 n6 c6, by omega, by go_num, HM8⟩
            case measure => simp [intOf]; omega
          ·
            obtain ⟨w5, hw5⟩ : ∃ w5, w5 = w4.alloc (.cells (bitCells (inT (rp l j))) 142) := ⟨_, rfl⟩
            have HM5 : Hid (Mak10 w w2 w3 l g (.slice vA nk vc) (js.take k) w5) := by rw [hw5]; exact HM4.out.grow ((Below.refl _ w4).alloc (Nat.le_refl _) _) (by have := HZ2.out; omega)
            have HR5 : Hid (Row w5 w4.heap.size 142 (bitCells (inT (rp l j)))) := by rw [hw5]; exact Row.new w4 _ _
            unfold bitCells at hw5
            unfold bitsV bitCells
            go_simp
            rw [← hw5]
            clear hHeld hw5
            refine hK.out _ _ ⟨⟨_, HM5.out.run⟩, HM5.out.below⟩ (fun hHeld => ?_)
            clear hK K
            refine wpAnyH_ready (rs := [1]) (by kernel_rfl) (by simp) ?_
            refine AllReadyH.cons rfl (fun K hK => ?_) AllReadyH.nil
            have c1 := HM5.out.run.cell 1
            go_simp
            refine hK.out _ _ hHeld (fun hHeld => ?_)
            clear hK K c1
            refine wpAnyH_ready (rs := [7]) (by kernel_rfl) (by simp) ?_
            refine AllReadyH.cons rfl (fun K hK => ?_) AllReadyH.nil
            rw [if_pos (by rfl)]
            refine wp1_append_need10 (.tmp 39) (.tmp 44) rfl w3.heap.size l (.slice vA nk vc) (js.take k) j w5 rfl HM5.out.needs (by have := HLK.out; rw [List.length_take]; omega) HM5.out.size w4.heap.size rfl HR5.out ?_
            intro v6 w6 ho6 hb6
            obtain ⟨A6, n6, c6, rfl⟩ : ∃ A n c, v6 = .slice A n c := by
              obtain ⟨A, c, h⟩ := ho6.form
              exact ⟨_, _, _, h⟩
            have HR6 := Lib.hid (HM5.out.run.below hb6 (by have := HM5.out.le; omega))
            have HB6 := Lib.hid (HM5.out.below.trans (hb6.mono (by have := HM5.out.le; omega)))
            have HM7 := Lib.hid (HM5.out.step hb6 ho6 (by have := HZ2.out; omega))
            clear hHeld ho6 hb6
            refine hK.out _ _ ⟨⟨_, HR6.out⟩, HB6.out⟩ (fun hHeld => ?_)
            clear hK K
            refine take_at (i := 8) (d := 46) (v := .pointer (some ⟨w2.heap.size, 1, none⟩)) rfl rfl (by kernel_rfl) (by kernel_rfl) (by kernel_rfl) (fun _ _ _ h => h) (by kernel_rfl) (by (intro w hSw; (try dsimp only at hSw); go_simp)) (by assumption) ?_
            simp only [List.setIfInBounds_toArray, List.set_cons_succ, List.set_cons_zero]
            refine wpAnyH_ready (rs := [9]) (by kernel_rfl) (by simp) ?_
            refine AllReadyH.cons rfl (fun K hK => ?_) AllReadyH.nil
            have hc9 := HR6.out.cell 1
            have hf9 := HR6.out.free 1
            go_simp
            clear hHeld
            refine hK.out _ _ ⟨⟨_, HM7.out.run⟩, HM7.out.below⟩ (fun hHeld => ?_)
            clear hK K hHeld hc9 hf9
            refine wpAnyH_done (by kernel_rfl) ?_ _
            have HM8 : Hid (Mak10 w w2 w3 l g (.slice A6 n6 c6) (js.take (k + 1)) (w6.setCell ⟨w2.heap.size, 1, none⟩ (.slice A6 n6 c6))) := by
              show Mak10 _ _ _ _ _ _ _ _
              rw [HT.out]
              exact HM7.out
            generalize w6.setCell ⟨w2.heap.size, 1, none⟩ (.slice A6 n6 c6) = w7 at *
            clear HM7 HR6 HB6 HM5 HR5 HM4 HM HMd hc
            go_wp2
            go_roundw
            case rel => exact ⟨k + 1, .slice A6 n6 c6, by omega, by go_num, HM8⟩
            case measure => simp [intOf]; omega
      · obtain rfl : k = js.length := by omega
        obtain ⟨vA, nk, vc, rfl⟩ : ∃ A n c, v = .slice A n c := by
          obtain ⟨A, c, h⟩ := HM.out.needs.form
          exact ⟨_, _, _, h⟩
        have hrun := HM.out.run
        have c0 := hrun.cell 0
        have c1 := hrun.cell 1
        have hne : w.heap.size ≠ w2.heap.size := by have := HZ2.out; omega
        have hr := row_same10 HR3.out (HM.out.same w.heap.size (by have := HM.out.le; have := HZ2.out; omega) hne)
        have r0 := hr.cell 0
        have r1 := hr.cell 1
        have f0 := hr.free 0
        have f1 := hr.free 1
        have hp := (hr.put 0 (.slice (some ⟨g, 0, none⟩) l.length l.length)).put 1 (.slice vA nk vc)
        have HP := Lib.hid hp
        have HFIN : Hid (∃ B g' nb' cv' v', w.heap.size ≤ B ∧ Ending.returned (.tuple #[.agg #[.slice (some ⟨g, 0, none⟩) l.length l.length, .slice vA nk vc], .bool true]) = .returned (.tuple #[.agg #[.slice (some ⟨g', 0, none⟩) l.length l.length, v'], .bool true]) ∧ Nodes ((wr.setCell ⟨w.heap.size, 0, none⟩ (.slice (some ⟨g, 0, none⟩) l.length l.length)).setCell ⟨w.heap.size, 1, none⟩ (.slice vA nk vc)) B g' l.length l.length l nb' cv' ∧ OwnNeeds10 ((wr.setCell ⟨w.heap.size, 0, none⟩ (.slice (some ⟨g, 0, none⟩) l.length l.length)).setCell ⟨w.heap.size, 1, none⟩ (.slice vA nk vc)) w.heap.size l v' js ∧ Below w.heap.size w ((wr.setCell ⟨w.heap.size, 0, none⟩ (.slice (some ⟨g, 0, none⟩) l.length l.length)).setCell ⟨w.heap.size, 1, none⟩ (.slice vA nk vc))) := by
          have hz := HZ2.out
          have hz1 := HZ1.out
          have hle := HM.out.le
          have hm := HM.out.needs
          rw [List.take_length] at hm
          refine ⟨w1.heap.size, g, nb, cv, .slice vA nk vc, by omega, rfl, ?_, ?_, ?_⟩
          · refine HN.out.kept (bb := w.heap.size) (fun q o hq hne ho _ => ?_) (fun q hq _ => by omega) (Nat.le_refl _)
            exact (Below.heap_setCell _ _ _ q hne).trans ((Below.heap_setCell _ _ _ q hne).trans ((HM.out.below.block q hq).trans ho))
          · have h1 : OwnNeeds10 wr w.heap.size l (.slice vA nk vc) js := own_low hm (by omega)
            refine own_keep10 h1 (fun q hq => ?_)
            have h2 := (World.ownsRow.lt hm q hq).1
            exact (Below.heap_setCell _ _ _ q (by show q ≠ w.heap.size; omega)).trans (Below.heap_setCell _ _ _ q (by show q ≠ w.heap.size; omega))
          · exact (HM.out.low.setCell (p := ⟨w.heap.size, 0, none⟩) (Nat.le_refl w.heap.size) _).setCell (p := ⟨w.heap.size, 1, none⟩) (Nat.le_refl w.heap.size) _
        clear hrun hr hp HM HN HR3 HO HNF hne
        go_wp2
        refine bodyPost_ret (v := .tuple #[.agg #[.slice (some ⟨g, 0, none⟩) l.length l.length, .slice vA nk vc], .bool true]) ?_ rfl ?_
        · have d0 := HP.out.cell 0
          have d1 := HP.out.cell 1
          simp [results, Try.results108, go_sem, d0, d1]
        · exact HFIN.out
  · rw [HNM.out] at hok
    cases hok

end Go.Proofs.Ytcpiojliakgdlaa
/- impl.NeedAll. -/
namespace Go.Proofs.Ytcpiojliakgdlaa
open Go.RowKit Go.Shelf

end Go.Proofs.Ytcpiojliakgdlaa

/- impl.NeedAll, all ways; impl.CheapestNeed. -/
namespace Go.Proofs.Ytcpiojliakgdlaa
open Go.RowKit Go.Shelf

end Go.Proofs.Ytcpiojliakgdlaa
