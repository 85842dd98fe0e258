/- impl.CommonOf where both are found. -/
import Derived.Test.YtbmfjfhmdpmlbaaCs
namespace Go.Proofs.Ytbmfjfhmdpmlbaa
open Go.RowKit Go.Shelf
attribute [local go_sem] Oper.semAt_some

theorem row_grown {W W' : World} {b : Nat} {t : TypeId} {cs : Array Value} {row : Option Nat} (h : Row W b t cs) (hg : W.grownBy W' row) {B : Nat} (hr : ∀ r, row = some r → B ≤ r ∧ ∃ o : Obj, W.heap[r]? = some o ∧ o.isCells = false) : Row W' b t cs :=
  (hg.block b h.lt (fun he => by
    obtain ⟨_, o, ho, hc⟩ := hr b he.symm
    have h' : W.heap[b]? = some (.cells cs t (0, 0)) := h
    rw [h'] at ho
    injection ho with ho
    subst ho
    cases hc)).trans h
theorem keepsN_set {B : Nat} (W : World) (p : Addr) (v : Value) (hp : p.block < B) : KeepsN B W (W.setCell p v) :=
  ⟨by simp, fun k o hk ho _ => (Below.heap_setCell W p v k (by omega)).trans ho⟩
theorem keepsN_drew (B : Nat) (W : World) : KeepsN B W W.drew := ⟨Nat.le_refl _, fun _ _ _ h _ => h⟩

/-- What the loop keeps: the box of the answer, the box of the names. -/
structure Loop2 (w1 : World) (l : List Seg) (R : List Nat) (nm : ByteArray) (b2 : Nat) (T : List Nat) (W : World) : Prop where
  box : Row W w1.heap.size 9 #[.string (lastNm l T)]
  names : Row W b2 9 #[.string nm]
  below : Below w1.heap.size w1 W
  all : ∀ v ∈ T, v ∈ R
theorem Loop2.grown {w1 W W' : World} {l : List Seg} {R T : List Nat} {nm : ByteArray} {b2 B : Nat} {row : Option Nat} (h : Loop2 w1 l R nm b2 T W) (hg : W.grownBy W' row) (hB : w1.heap.size ≤ B) (hr : ∀ r, row = some r → B ≤ r ∧ ∃ o : Obj, W.heap[r]? = some o ∧ o.isCells = false) : Loop2 w1 l R nm b2 T W' :=
  ⟨row_grown h.box hg hr, row_grown h.names hg hr, h.below.grown hg h.below.size (fun k e => by have := (hr k e).1; omega), h.all⟩
theorem Loop2.drew {w1 W : World} {l : List Seg} {R T : List Nat} {nm : ByteArray} {b2 : Nat} (h : Loop2 w1 l R nm b2 T W) : Loop2 w1 l R nm b2 T W.drew := ⟨h.box, h.names, h.below.drew, h.all⟩
theorem Loop2.step {w1 W : World} {l : List Seg} {R T : List Nat} {nm a : ByteArray} {b2 : Nat} (h : Loop2 w1 l R nm b2 T W) (hb2 : w1.heap.size < b2) {v : Nat} (hv : v < l.length) (hR : v ∈ R) (ha : l[v].name = a) :
    Loop2 w1 l R nm b2 (T ++ [v]) (W.setCell ⟨w1.heap.size, 0, none⟩ (.string a)) := by
  refine ⟨?_, Row.far h.names (by show b2 ≠ w1.heap.size; omega) _, h.below.setCell (Nat.le_refl _) _, fun u hu => ?_⟩
  · have := Row.put h.box 0 (.string a)
    rw [lastNm_snoc T hv, ha]
    exact this
  · rcases List.mem_append.1 hu with hu | hu
    · exact h.all u hu
    · rw [List.mem_singleton.1 hu]; exact hR

set_option maxRecDepth 100000 in
set_option maxHeartbeats 4000000 in
theorem commonOf_found (A : Option Addr) (l : List Seg) (c : Nat) (s t : ByteArray) (w : World) (hw : Segs w w.heap.size A l) (hl : l.length ≤ 1048576) (hlc : l.length ≤ c) (hcm : c ≤ 9223372036854775807) (hn : Short l) (hs : 0 ≤ indexB l s) (ht : 0 ≤ indexB l t) :
    Calls Try.prog 31 #[.slice A l.length c, .string s, .string t] w fun e w' => e = .returned (.tuple #[.string (comStr l s t), .bool (comOk l s t)]) ∧ Below w.heap.size w w' := by
  have hv := index_valid hs
  have HW : Hid (Segs w w.heap.size A l) := hw
  have HO : Hid (comOk l s t = true) := by
    show _ = _
    unfold comOk hasSeg
    rw [decide_eq_true hs, decide_eq_true ht]
    rfl
  have HE := Lib.hid (fun T => com_end (T := T) hs ht)
  have hi1 : indexB l s = seek l s := if_pos hv
  have hi2 : indexB l t = seek l t := if_pos hv
  have hu : (indexB l s).toNat < l.length := by
    rcases indexB_bd l s with a1 | ⟨_, a1⟩ <;> omega
  have hv2 : (indexB l t).toNat < l.length := by
    rcases indexB_bd l t with a1 | ⟨_, a1⟩ <;> omega
  have HP : Hid (∀ nb, foundPtr l nb s = some ⟨nb (indexB l s).toNat, 0, none⟩) := fun nb => by
    unfold foundPtr
    rw [hi1, if_neg (by omega)]
  have HQ : Hid (∀ nb, foundPtr l nb t = some ⟨nb (indexB l t).toNat, 0, none⟩) := fun nb => by
    unfold foundPtr
    rw [hi2, if_neg (by omega)]
  clear hi1 hi2 hw hs ht
  have HX : Hid (pathIx l s = rootPath l ((indexB l s).toNat + 1) (indexB l s).toNat ∧ pathIx l t = rootPath l ((indexB l t).toNat + 1) (indexB l t).toNat) := ⟨rfl, rfl⟩
  generalize (indexB l s).toNat = i at *
  generalize (indexB l t).toNat = j at *
  have HL : Hid _ := valid_all hv
  have HNM : Hid _ := valid_names hv
  have HR1 : Hid ((rootPath l (i + 1) i).length ≤ i + 1) := rootPath_len l (i + 1) i
  have HR2 : Hid ((rootPath l (j + 1) j).length ≤ j + 1) := rootPath_len l (j + 1) j
  have HL8 : Hid (l.length ≤ 8) := HL.out.2.1
  refine (callsIn_wide (n := 22)).1 ?_
  refine callsIn_of_wp_marks Try.func31 rfl trivial ?_ rfl
  simp only [Try.ntmps31, List.size_toArray, List.length_cons, List.length_nil, Nat.reduceAdd, Nat.reduceSub, Array.replicate_succ, Array.replicate_zero, List.push_toArray, List.append_toArray, List.nil_append, List.cons_append]
  gi_wp2_with fail
  refine ⟨trivial, ?_⟩
  gi_at_call 81
  refine (callsIn_wide.2 (nodesOf_any _ _ _ _ HW.out hl hlc hcm hn hv)).mono ?_
  rintro e w1 ⟨g, nb, cv, rfl, hN, hb1⟩
  have HN := Lib.hid hN
  clear hN
  gi_wp2_with fail
  refine ⟨trivial, ?_⟩
  gi_at_call 80
  refine (callsIn_wide.2 (findNode_any _ _ _ _ _ _ _ HN.out hl)).mono ?_
  rw [HP.out nb]
  rintro e w2 ⟨rfl, rfl⟩
  gi_wp2_with fail
  refine ⟨trivial, ?_⟩
  gi_at_call 80
  refine (callsIn_wide.2 (findNode_any _ _ _ _ _ _ _ HN.out hl)).mono ?_
  rw [HQ.out nb]
  rintro e w2 ⟨rfl, rfl⟩
  gi_wp2_with fail
  refine ⟨trivial, ?_⟩
  gi_at_call 83
  refine (callsIn_wide.2 (path_any _ _)).mono ?_
  rintro e w2 ⟨rfl, rfl⟩
  gi_wp2_with fail
  refine ⟨trivial, ?_⟩
  gi_at_call 82
  obtain ⟨W2, hW2⟩ : ∃ W2, (w1.alloc (.cells #[.string ⟨#[]⟩] 9)).alloc (.cells #[.pointer (some ⟨nb j, 0, none⟩)] 63) = W2 := ⟨_, rfl⟩
  rw [hW2]
  have hz2 : W2.heap.size = w1.heap.size + 2 := by rw [← hW2]; simp
  have hbox2 : Row W2 w1.heap.size 9 #[.string ⟨#[]⟩] := by rw [← hW2]; exact (Row.new _ _ _).alloc _
  have hrow2 : Row W2 (w1.heap.size + 1) 63 #[.pointer (some ⟨nb j, 0, none⟩)] := by
    rw [← hW2]
    have := Row.new (w1.alloc (.cells #[.string ⟨#[]⟩] 9)) 63 #[.pointer (some ⟨nb j, 0, none⟩)]
    rwa [World.size_alloc] at this
  have hb2 : Below w1.heap.size w1 W2 := by rw [← hW2]; exact ((Below.refl _ w1).alloc (Nat.le_refl _) _).alloc (by simp) _
  clear hW2
  have hlk1 : ∀ q, q < l.length → nb q < w1.heap.size ∧ w1.cell? ⟨nb q, 2, none⟩ = some (.pointer (parPtr l nb q)) := fun q hq => by
    have h1 := HN.out.node q _ hq (List.getElem?_eq_getElem hq)
    exact ⟨h1.lt, h1.cell 2⟩
  have hnm1 : ∀ x : Ix l, w1.cell? ⟨nb x.1, 0, none⟩ = some (.string (l[x.1]'x.2).name) := fun x => (HN.out.node x.1 _ x.2 (List.getElem?_eq_getElem x.2)).cell 0
  have hlk2 : Linked W2 W2.heap.size l nb := fun q hq => ⟨by have := (hlk1 q hq).1; omega, (hb2.cell (p := ⟨nb q, 2, none⟩) (hlk1 q hq).1).trans (hlk1 q hq).2⟩
  have hseq2 := path1_seq l nb W2.heap.size (W2.heap.size + 3) 1000 HL.out.1.down (j + 1) j (by omega) hv2 19 (w1.heap.size + 1) W2
    ⟨.inl (by omega), by decide, hrow2⟩ hlk2 (Nat.le_refl _) (by have := HR2.out; have := HL8.out; omega) (by have := HL8.out; omega)
  refine (callsIn_wide.2 (joinNamesR_any W2 l nb (fun x => (hb2.cell (p := ⟨nb x.1, 0, none⟩) (hlk1 x.1 x.2).1).trans (hnm1 x)) HNM.out _ _ 1000 (Nat.le_refl _) (enters_of Try.func135 (by kernel_rfl) rfl) hseq2)).mono ?_
  rintro e w3 ⟨⟨ys, hys, rfl⟩, hb3⟩
  have hsz3 := hb3.size
  have hbox3 : Row w3 w1.heap.size 9 #[.string ⟨#[]⟩] := hbox2.below hb3 (by omega)
  have hb13 : Below w1.heap.size w1 w3 := hb2.trans (hb3.mono (by omega))
  have hnames : (⟨(nameBytes l ys).toArray⟩ : ByteArray) = namesAt l (rootPath l (j + 1) j) := by
    unfold namesAt
    rw [← hys]
    have hm : ∀ ys : List (Ix l), nameBytes l ys = (ys.map (·.1)).flatMap (nmAt l) := fun ys => by
      induction ys with
      | nil => rfl
      | cons y ys ih =>
        show (l[y.1]'y.2).name.data.toList ++ nameBytes l ys = nmAt l y.1 ++ (ys.map (·.1)).flatMap (nmAt l)
        rw [ih, nmAt_of y.2]
    rw [hm]
  rw [hnames]
  clear hnames hys hseq2 hlk2 hrow2 hbox2 hb3 ys
  have HR : Hid (∀ v ∈ rootPath l (j + 1) j, v < l.length) := rootPath_lt HL.out.1.down (j + 1) j hv2
  generalize hnmv : namesAt l (rootPath l (j + 1) j) = nm at *
  have HNV := Lib.hid hnmv
  clear hnmv
  generalize rootPath l (j + 1) j = R at *
  gi_wp2_with fail
  refine ⟨trivial, ?_⟩
  gi_at_call 83
  refine (callsIn_wide.2 (path_any _ _)).mono ?_
  rintro e w4 ⟨rfl, rfl⟩
  gi_wp2
  have hbox4 : Row ((w3.alloc (.cells #[.string nm] 9)).alloc (.cells #[.pointer (some ⟨nb i, 0, none⟩)] 63)) w1.heap.size 9 #[.string ⟨#[]⟩] := (hbox3.alloc _).alloc _
  have hnam4 : Row ((w3.alloc (.cells #[.string nm] 9)).alloc (.cells #[.pointer (some ⟨nb i, 0, none⟩)] 63)) w3.heap.size 9 #[.string nm] := (Row.new _ _ _).alloc _
  have hrow4 : Row ((w3.alloc (.cells #[.string nm] 9)).alloc (.cells #[.pointer (some ⟨nb i, 0, none⟩)] 63)) (w3.heap.size + 1) 63 #[.pointer (some ⟨nb i, 0, none⟩)] := by
    have := Row.new (w3.alloc (.cells #[.string nm] 9)) 63 #[.pointer (some ⟨nb i, 0, none⟩)]
    rwa [World.size_alloc] at this
  have hb4 : Below w1.heap.size w1 ((w3.alloc (.cells #[.string nm] 9)).alloc (.cells #[.pointer (some ⟨nb i, 0, none⟩)] 63)) := (hb13.alloc (by omega) _).alloc (by simp; omega) _
  have hz4 : ((w3.alloc (.cells #[.string nm] 9)).alloc (.cells #[.pointer (some ⟨nb i, 0, none⟩)] 63)).heap.size = w3.heap.size + 2 := by simp
  generalize (w3.alloc (.cells #[.string nm] 9)).alloc (.cells #[.pointer (some ⟨nb i, 0, none⟩)] 63) = W4 at *
  have hlk4 : Linked W4 w1.heap.size l nb := fun q hq => ⟨(hlk1 q hq).1, (hb4.cell (p := ⟨nb q, 2, none⟩) (hlk1 q hq).1).trans (hlk1 q hq).2⟩
  have hseq4 := path1_seq l nb w1.heap.size (w1.heap.size + 1) 1000 HL.out.1.down (i + 1) i (by omega) hu 21 (w3.heap.size + 1) W4
    ⟨.inr (by omega), by decide, hrow4⟩ hlk4 hb4.size (by have := HR1.out; have := HL8.out; omega) (by have := HL8.out; omega)
  have h0 : Loop2 w1 l R nm w3.heap.size [] W4 := ⟨hbox4, hnam4, hb4, fun v h => by cases h⟩
  clear hbox4 hnam4 hb4 hlk4 hbox3 hb13 hrow4
  refine wpIn_rangeFunc_R (by omega) (gf := 135) (lb := #[.pointer (some ⟨w3.heap.size + 1, 0, none⟩)]) rfl (enters_of Try.func135 (by kernel_rfl) rfl) hseq4 (by omega) (by omega) (Below.refl _ _) (fun _ => rfl)
    (fun pre W => Loop2 w1 l R nm w3.heap.size (pre.map (fun y : Ix l => y.1)) W)
    (fun c pre W => c = .exit 0 ∧ ∃ T x, pre.map (fun y : Ix l => y.1) = T ++ [x] ∧ x ∉ R ∧ Loop2 w1 l R nm w3.heap.size T W)
    (fun _ _ _ _ h hg hr => h.grown hg (by omega) hr)
    (fun _ _ _ _ _ h hg hr => by
      obtain ⟨hc, T, x, h1, h2, h3⟩ := h
      exact ⟨hc, T, x, h1, h2, h3.grown hg (by omega) hr⟩)
    h0
    (fun x => { tmps := #[.slice A l.length c, .string s, .string t, undef, undef, undef, .string ⟨#[]⟩, .bool false, .slice (some ⟨g, 0, none⟩) l.length l.length, .pointer (some ⟨nb i, 0, none⟩), .pointer (some ⟨nb j, 0, none⟩), .pointer (some ⟨w1.heap.size, 0, none⟩), .pointer (some ⟨w3.heap.size, 0, none⟩), .pointer (some ⟨nb x.1, 0, none⟩), .slice A l.length c, .slice (some ⟨g, 0, none⟩) l.length l.length, .slice (some ⟨g, 0, none⟩) l.length l.length, .string s, .pointer (some ⟨nb i, 0, none⟩), .slice (some ⟨g, 0, none⟩) l.length l.length, .string t, .pointer (some ⟨nb j, 0, none⟩), .pointer (some ⟨nb i, 0, none⟩), .bool false, .bool false, .pointer (some ⟨nb j, 0, none⟩), .bool false, .bool false, .pointer (some ⟨nb j, 0, none⟩), .func (.func 135) #[] #[.pointer (some ⟨w1.heap.size + 1, 0, none⟩)], .string nm, .pointer (some ⟨nb i, 0, none⟩), .func (.func 135) #[] #[.pointer (some ⟨w3.heap.size + 1, 0, none⟩)], .pointer (some ⟨nb x.1, 0, none⟩), undef, undef, undef, undef, undef, undef, undef, undef, undef, undef, undef, undef], defers := [] }) ?assign ?body ?done ?stop
  case assign =>
    intro l x W K hK
    gi_wp2
    exact hK
  case body =>
    rintro l' pre x W hI hlen hWz
    have hlt := (hlk1 x.1 x.2).1
    have hN1 := (nmAt_one hv x.2).2
    have nk : W.cell? ⟨nb x.1, 0, none⟩ = some (.string ⟨#[byteOf l x.1]⟩) := by
      rw [← hN1]
      exact (hI.below.cell (p := ⟨nb x.1, 0, none⟩) hlt).trans (hnm1 x)
    have nk2 : W.cell? ⟨w3.heap.size, 0, none⟩ = some (.string nm) := hI.names.cell 0
    have nk3 : W.cell? ⟨w1.heap.size, 0, none⟩ = some (.string (lastNm l (pre.map (·.1)))) := hI.box.cell 0
    have nk4 : W.frozen? ⟨w1.heap.size, 0, none⟩ = false := hI.box.free 0
    have hmx : Try.prog.follows .mixedOrders = true := by kernel_rfl
    have hdec := has_name hv HR.out x.2
    rw [HNV.out] at hdec
    by_cases hm : x.1 ∈ R
    · have hcon : ∀ W, Calls Try.prog 95 #[.string nm, .string ⟨#[byteOf l x.1]⟩] W fun e w' => e = .returned (.bool true) ∧ w' = W := fun W => by
        have h := Try.strings_Contains_one nm (byteOf l x.1) W
        rw [hdec, decide_eq_true hm] at h
        exact h
      clear hdec
      have HI := Lib.hid hI
      clear hI
      gi_wp2
      gi_region_with_o (refine ⟨trivial, ?_⟩; gi_at_call 95; refine (CallsIn.inRound l' (callsIn_wide.2 (hcon _))).mono ?_; rintro e w' ⟨rfl, rfl⟩)
      all_goals gi_wp2
      all_goals exact ⟨(keepsN_set _ ⟨w1.heap.size, 0, none⟩ _ (by show w1.heap.size < min _ _; omega)).trans (keepsN_drew _ _), ((Below.refl w1.heap.size W).setCell (Nat.le_refl _) _).drew, by show Loop2 _ _ _ _ _ ((pre ++ [x]).map (fun y : Ix l => y.1)) _; rw [List.map_append]; exact (HI.out.step (by omega) x.2 hm hN1).drew⟩
    · have hcon : ∀ W, Calls Try.prog 95 #[.string nm, .string ⟨#[byteOf l x.1]⟩] W fun e w' => e = .returned (.bool false) ∧ w' = W := fun W => by
        have h := Try.strings_Contains_one nm (byteOf l x.1) W
        rw [hdec, decide_eq_false hm] at h
        exact h
      clear hdec
      have HI := Lib.hid hI
      clear hI
      gi_wp2
      gi_region_with_o (refine ⟨trivial, ?_⟩; gi_at_call 95; refine (CallsIn.inRound l' (callsIn_wide.2 (hcon _))).mono ?_; rintro e w' ⟨rfl, rfl⟩)
      all_goals gi_wp2
      all_goals exact ⟨keepsN_drew _ _, rfl, pre.map (fun y : Ix l => y.1), x.1, by simp, hm, HI.out.drew⟩
  case done =>
    rintro D xs W hD hS hI hK
    have nk3 : W.cell? ⟨w1.heap.size, 0, none⟩ = some (.string (lastNm l (xs.map (·.1)))) := hI.box.cell 0
    have hS' : xs.map (fun y : Ix l => y.1) = rootPath l (i + 1) i := hS
    have hall := hI.all
    rw [hS'] at hall
    have HV := Lib.hid (HE.out (rootPath l (i + 1) i) (by rw [HX.out.1]; exact List.prefix_rfl) (by rw [HX.out.2]; exact hall) (.inl HX.out.1.symm))
    have HB := Lib.hid (hb1.trans (hI.below.mono hb1.size))
    clear hall
    gi_wp2
    refine ⟨by simp, .inl ⟨_, _, rfl, run_takeDeferred hK, ?_⟩⟩
    exact ⟨_, results_tmp2 (t := 6) (u := 7) rfl _ _ _, ret_two HV.out.symm HO.out.symm, HB.out.trans (belowK_b (w := w) (Nat.le_refl _) W D _ _ (by have := hb1.size; omega) hK rfl rfl)⟩
  case stop =>
    rintro D c pre W hD hSp ⟨rfl, T, x, hT, hx, hI⟩ hK
    have nk3 : W.cell? ⟨w1.heap.size, 0, none⟩ = some (.string (lastNm l T)) := hI.box.cell 0
    have hT2 : T ++ [x] <+: rootPath l (i + 1) i := hT ▸ hSp
    have HV := Lib.hid (HE.out T (by rw [HX.out.1]; exact (List.prefix_append T [x]).trans hT2) (by rw [HX.out.2]; exact hI.all) (.inr ⟨x, by rw [HX.out.1]; exact hT2, by rw [HX.out.2]; exact hx⟩))
    have HB := Lib.hid (hb1.trans (hI.below.mono hb1.size))
    gi_wp2
    refine ⟨by simp, .inl ⟨_, _, rfl, run_takeDeferred hK, ?_⟩⟩
    exact ⟨_, results_tmp2 (t := 6) (u := 7) rfl _ _ _, ret_two HV.out.symm HO.out.symm, HB.out.trans (belowK_b (w := w) (Nat.le_refl _) W D _ _ (by have := hb1.size; omega) hK rfl rfl)⟩

theorem commonOf_any (A : Option Addr) (l : List Seg) (c : Nat) (s t : ByteArray) (w : World) (hw : Segs w w.heap.size A l) (hl : l.length ≤ 1048576) (hlc : l.length ≤ c) (hcm : c ≤ 9223372036854775807) (hn : Short l) :
    Calls Try.prog 31 #[.slice A l.length c, .string s, .string t] w fun e w' => e = .returned (.tuple #[.string (comStr l s t), .bool (comOk l s t)]) ∧ Below w.heap.size w w' := by
  by_cases hs : 0 ≤ indexB l s
  · by_cases ht : 0 ≤ indexB l t
    · exact commonOf_found A l c s t w hw hl hlc hcm hn hs ht
    · exact commonOf_none A l c s t w hw hl hlc hcm hn (.inr (by omega))
  · exact commonOf_none A l c s t w hw hl hlc hcm hn (.inl (by omega))

end Go.Proofs.Ytbmfjfhmdpmlbaa
