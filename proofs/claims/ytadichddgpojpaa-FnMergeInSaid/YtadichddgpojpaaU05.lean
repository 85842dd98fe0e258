/- Joined: Tt Ix Ad Nd. -/
import Derived.Test.YtadichddgpojpaaU04
import Derived.Test.YtadichddgpojpaaU01
/- Totals of sizes: the program's and the model's. -/
namespace Go.Proofs.Ytadichddgpojpaa
open Go.RowKit

def sumTo (l : List Seg) (k : Nat) : Int := ((l.take k).map Seg.size).sum
theorem sumTo_succ {l : List Seg} {k : Nat} (hk : k < l.length) : sumTo l (k + 1) = sumTo l k + l[k].size := by
  unfold sumTo
  rw [List.take_succ_eq_append_getElem hk, List.map_append, List.sum_append_int]
  simp
theorem valid_all {l : List Seg} (h : validB l = true) : AllOk l l.length ∧ l.length ≤ 8 ∧ 1 ≤ l.length := by
  unfold validB at h
  simp only [Bool.and_eq_true, decide_eq_true_eq] at h
  exact ⟨allB_iff.1 h.2, h.1.2, h.1.1⟩
theorem valid_size {l : List Seg} (h : validB l = true) {k : Nat} (hk : k < l.length) : 1 ≤ l[k].size ∧ l[k].size ≤ 99 := by
  have := (valid_all h).1 k hk
  rw [segOk_of hk] at this
  simp only [Bool.and_eq_true] at this
  have hs := this.1.2
  unfold sizeOk at hs
  simp only [Bool.and_eq_true, decide_eq_true_eq] at hs
  exact hs
theorem sumTo_le {l : List Seg} (h : validB l = true) : ∀ k : Nat, k ≤ l.length → 0 ≤ sumTo l k ∧ sumTo l k ≤ 99 * k
  | 0, _ => by simp [sumTo]
  | k + 1, hk => by
    have h1 := sumTo_le h k (by omega)
    have h2 := valid_size h (show k < l.length by omega)
    rw [sumTo_succ (by omega)]
    omega
def totalB (l : List Seg) : Int := if validB l = true then sumTo l l.length else -1

set_option maxRecDepth 100000 in
set_option maxHeartbeats 400000 in
theorem totalSize_any (A : Option Addr) (l : List Seg) (c : Nat) (w : World) (hw : Segs w w.heap.size A l) (hl : l.length ≤ 1048576) (hlc : l.length ≤ c) (hcm : c ≤ 9223372036854775807) (hn : Short l) :
    Calls Try.prog 24 #[.slice A l.length c] w fun e w' => e = .returned (.int .i64 (totalB l)) ∧ Below w.heap.size w w' := by
  have HW : Hid (Segs w w.heap.size A l) := hw
  clear hw
  cases hv : validB l with
  | false =>
    have HF : Hid (totalB l = -1) := if_neg (by rw [hv]; decide)
    go_enter Try.func24, Try.ntmps24
    go_wp2_with fail
    refine (treeValid_any _ _ _ _ HW.out hl hlc hcm hn).mono ?_
    rw [hv]
    rintro e w1 ⟨rfl, hb1⟩
    go_wp2
    go_ret
    exact ⟨ret_int HF.out.symm, hb1⟩
  | true =>
    have HF : Hid (totalB l = sumTo l l.length) := if_pos hv
    go_enter Try.func24, Try.ntmps24
    go_wp2_with fail
    refine (treeValid_any _ _ _ _ HW.out hl hlc hcm hn).mono ?_
    rw [hv]
    rintro e w1 ⟨rfl, hb1⟩
    have hl8 := (valid_all hv).2.1
    have HV := Lib.hid hv
    clear hv
    go_wp2
    go_loopw [3, 11] (fun s i wr => ∃ (k : Nat) (n : Int), k ≤ l.length ∧ i = .int .i64 k ∧ s = .int .i64 n ∧ Hid (n = sumTo l k) ∧ Below w.heap.size w wr)
      (fun _ i _ => l.length - (intOf i).toNat)
    case atStart => exact ⟨0, 0, Nat.zero_le _, rfl, rfl, rfl, hb1⟩
    case round =>
      obtain ⟨k, n, hk, rfl, rfl, HN, hb⟩ := hrel
      clear hb1
      by_cases hlt : k < l.length
      · obtain ⟨b, o, rfl, hB, hc⟩ := HW.out (by omega)
        obtain ⟨c0, c1, c2⟩ := hc k l[k] (List.getElem?_eq_getElem hlt)
        clear hc
        rw [← hb.cell hB] at c0 c1 c2
        have HS : Hid _ := sumTo_succ hlt
        have hz := valid_size HV.out hlt
        have hn0 : 0 ≤ n ∧ n ≤ 99 * (k : Int) := by rw [HN.out]; exact sumTo_le HV.out k hk
        obtain ⟨z1, z2⟩ := hz
        obtain ⟨n1, n2⟩ := hn0
        have n3 : n ≤ 800 := by omega
        clear n2
        generalize l[k] = x at *
        have HX : Hid (n + x.size = sumTo l (k + 1)) := by rw [HS.out, ← HN.out]; rfl
        clear HS HN
        go_wp2
        go_roundw
        case rel => exact ⟨k + 1, _, by omega, by go_num, rfl, HX, hb.alloc hb.size _⟩
        case measure => simp [intOf]; omega
      · obtain rfl : k = l.length := by omega
        go_wp2
        go_ret
        exact ⟨ret_int (by rw [HF.out]; exact HN.out), hb⟩

end Go.Proofs.Ytadichddgpojpaa
/- Which segment has a name: the model's side. -/
namespace Go.Proofs.Ytadichddgpojpaa
open Go.RowKit

def seekFrom (s : ByteArray) : List Seg → Nat → Int
  | [], _ => -1
  | x :: l, k => if sameB x.name s = true then (k : Int) else seekFrom s l (k + 1)
def seek (l : List Seg) (s : ByteArray) : Int := seekFrom s l 0
theorem seekFrom_bd (s : ByteArray) : ∀ (l : List Seg) (k : Nat), seekFrom s l k = -1 ∨ ((k : Int) ≤ seekFrom s l k ∧ seekFrom s l k < k + l.length)
  | [], k => .inl rfl
  | x :: l, k => by
    unfold seekFrom
    by_cases h : sameB x.name s = true
    · rw [if_pos h]; right; simp only [List.length_cons]; omega
    · rw [if_neg h]
      rcases seekFrom_bd s l (k + 1) with h1 | h1
      · exact .inl h1
      · right; simp only [List.length_cons]; omega
theorem seek_bd (l : List Seg) (s : ByteArray) : seek l s = -1 ∨ (0 ≤ seek l s ∧ seek l s < l.length) := by
  have := seekFrom_bd s l 0
  simpa [seek] using this
theorem seekFrom_drop (l : List Seg) (s : ByteArray) (k : Nat) (hk : k < l.length) : seekFrom s (l.drop k) k = if sameB l[k].name s = true then (k : Int) else seekFrom s (l.drop (k + 1)) (k + 1) := by
  rw [List.drop_eq_getElem_cons hk]
  rfl
theorem seekFrom_name (s : ByteArray) : ∀ (l : List Seg) (k j : Nat), seekFrom s l k = ((k + j : Nat) : Int) → ∃ x, l[j]? = some x ∧ x.name = s
  | [], k, j, h => by simp [seekFrom] at h; omega
  | x :: l, k, j, h => by
    unfold seekFrom at h
    by_cases hx : sameB x.name s = true
    · rw [if_pos hx] at h
      obtain rfl : j = 0 := by omega
      exact ⟨x, rfl, sameB_iff.1 hx⟩
    · rw [if_neg hx] at h
      rcases seekFrom_bd s l (k + 1) with h1 | h1
      · omega
      · obtain ⟨j', rfl⟩ : ∃ j', j = j' + 1 := ⟨j - 1, by omega⟩
        obtain ⟨y, hy, hn⟩ := seekFrom_name s l (k + 1) j' (by rw [h]; omega)
        exact ⟨y, by simpa using hy, hn⟩
theorem seek_name {l : List Seg} {s : ByteArray} {j : Nat} (h : seek l s = (j : Int)) : ∃ x, l[j]? = some x ∧ x.name = s :=
  seekFrom_name s l 0 j (by rw [Nat.zero_add]; exact h)

/-- The index of a name within a valid list, or -1. -/
def indexB (l : List Seg) (s : ByteArray) : Int := if validB l = true then seek l s else -1

set_option maxRecDepth 100000 in
set_option maxHeartbeats 400000 in
theorem l1Index_any (A : Option Addr) (l : List Seg) (c : Nat) (s : ByteArray) (w : World) (hw : Segs w w.heap.size A l) (hl : l.length ≤ 1048576) (hn : Short l) :
    Calls Try.prog 54 #[.slice A l.length c, .string s] w fun e w' => e = .returned (.int .i64 (indexB l s)) ∧ Below w.heap.size w w' := by
  have HW : Hid (Segs w w.heap.size A l) := hw
  clear hw
  cases hv : validB l with
  | false =>
    have HF : Hid (indexB l s = -1) := if_neg (by rw [hv]; decide)
    go_enter Try.func54, Try.ntmps54
    go_wp2_with fail
    refine (specTreeValid_any _ _ _ _ HW.out hl hn).mono ?_
    rw [hv]
    rintro e w1 ⟨rfl, hb1⟩
    go_wp2
    go_ret
    exact ⟨ret_int HF.out.symm, hb1⟩
  | true =>
    have HF : Hid (indexB l s = seek l s) := if_pos hv
    go_enter Try.func54, Try.ntmps54
    go_wp2_with fail
    refine (specTreeValid_any _ _ _ _ HW.out hl hn).mono ?_
    rw [hv]
    rintro e w1 ⟨rfl, hb1⟩
    clear hv
    go_wp2
    go_loopw [12] (fun i wr => ∃ (k : Nat), k ≤ l.length ∧ i = .int .i64 k ∧ Hid (seek l s = seekFrom s (l.drop k) k) ∧ Below w.heap.size w wr)
      (fun i _ => l.length - (intOf i).toNat)
    case atStart => exact ⟨0, Nat.zero_le _, rfl, rfl, hb1⟩
    case round =>
      obtain ⟨k, hk, rfl, HN, hb⟩ := hrel
      clear hb1
      by_cases hlt : k < l.length
      · obtain ⟨b, o, rfl, hB, hc⟩ := HW.out (by omega)
        obtain ⟨c0, c1, c2⟩ := hc k l[k] (List.getElem?_eq_getElem hlt)
        clear hc
        rw [← hb.cell hB] at c0 c1 c2
        have HD : Hid _ := seekFrom_drop l s k hlt
        generalize l[k] = x at *
        cases ht : (x.name.toList == s.toList) with
        | true =>
          have HE : Hid (indexB l s = k) := by
            show _ = _
            rw [HF.out, HN.out, HD.out]
            exact if_pos ht
          go_wp2
          go_ret
          exact ⟨ret_int HE.out.symm, hb.alloc hb.size _⟩
        | false =>
          have HE : Hid (seek l s = seekFrom s (l.drop (k + 1)) (k + 1)) := by
            show _ = _
            rw [HN.out, HD.out]
            exact if_neg (by rw [show sameB x.name s = false from ht]; decide)
          go_wp2
          go_roundw
          case rel => exact ⟨k + 1, by omega, by go_num, HE, hb.alloc hb.size _⟩
          case measure => simp [intOf]; omega
      · go_wp2
        go_ret
        exact ⟨ret_int (by rw [HF.out, HN.out, List.drop_of_length_le (by omega)]; rfl), hb⟩

def sizeAt (l : List Seg) (i : Nat) : Int := match l[i]? with
  | some s => s.size
  | none => -1
def sizeB (l : List Seg) (s : ByteArray) : Int := if indexB l s < 0 then -1 else sizeAt l (indexB l s).toNat
theorem sizeAt_of {l : List Seg} {k : Nat} (h : k < l.length) : sizeAt l k = l[k].size := by unfold sizeAt; rw [List.getElem?_eq_getElem h]
theorem indexB_bd (l : List Seg) (s : ByteArray) : indexB l s = -1 ∨ (0 ≤ indexB l s ∧ indexB l s < l.length) := by
  unfold indexB
  split
  · exact seek_bd l s
  · exact .inl rfl

set_option maxRecDepth 100000 in
set_option maxHeartbeats 400000 in
theorem specSizeOf_any (A : Option Addr) (l : List Seg) (c : Nat) (s : ByteArray) (w : World) (hw : Segs w w.heap.size A l) (hl : l.length ≤ 1048576) (hn : Short l) :
    Calls Try.prog 142 #[.slice A l.length c, .string s] w fun e w' => e = .returned (.int .i64 (sizeB l s)) ∧ Below w.heap.size w w' := by
  have HW : Hid (Segs w w.heap.size A l) := hw
  clear hw
  rcases indexB_bd l s with hi | ⟨h0, hi⟩
  · have HF : Hid (sizeB l s = -1) := if_pos (by omega)
    have HI := Lib.hid hi
    clear hi
    go_enter Try.func142, Try.ntmps142
    go_wp2_with fail
    refine (l1Index_any _ _ _ _ _ HW.out hl hn).mono ?_
    rw [HI.out]
    rintro e w1 ⟨rfl, hb1⟩
    go_wp2
    go_ret
    exact ⟨ret_int HF.out.symm, hb1⟩
  · obtain ⟨k, hk⟩ := Int.eq_ofNat_of_zero_le h0
    have HI := Lib.hid hk
    have hkl : k < l.length := by omega
    have HF : Hid (sizeB l s = l[k].size) := by
      show sizeB l s = _
      unfold sizeB
      rw [if_neg (by omega), hk, Int.toNat_natCast, sizeAt_of hkl]
    clear hk hi h0
    obtain ⟨b, o, rfl, hB, hc⟩ := HW.out (by omega)
    obtain ⟨c0, c1, c2⟩ := hc k l[k] (List.getElem?_eq_getElem hkl)
    clear hc c0 c2
    generalize l[k] = x at *
    go_enter Try.func142, Try.ntmps142
    go_wp2_with fail
    refine (l1Index_any _ _ _ _ _ HW.out hl hn).mono ?_
    rw [HI.out]
    rintro e w1 ⟨rfl, hb1⟩
    rw [← hb1.cell hB] at c1
    go_wp2
    go_ret
    exact ⟨ret_int HF.out.symm, hb1⟩

end Go.Proofs.Ytadichddgpojpaa
/- One node adopts another. -/
namespace Go.Proofs.Ytadichddgpojpaa
open Go.RowKit

theorem own_ne {w : World} {base g n : Nat} {e t : TypeId} {v : Value} {xs : List Value} {cs : Array Value} (h : w.ownsRow base e 1 v n xs) (hr : Row w g t cs) (hne : e ≠ t) : v.ownBlock ≠ some g := by
  rcases h.2 with ⟨rfl, _⟩ | ⟨g', cap, cur, rfl, _, hh, _⟩
  · simp [Value.ownBlock]
  · intro he
    have : g' = g := by simpa [Value.ownBlock] using he
    subst this
    unfold Row at hr
    rw [hh] at hr
    injection hr with hr
    injection hr with _ ht
    exact hne ht
theorem own_keep {w w' : World} {base n : Nat} {e : TypeId} {v : Value} {xs : List Value} (h : w.ownsRow base e 1 v n xs) (hk : ∀ g, v.ownBlock = some g → w'.heap[g]? = w.heap[g]?) : w'.ownsRow base e 1 v n xs := by
  refine ⟨h.1, ?_⟩
  rcases h.2 with h0 | ⟨g', cap, cur, rfl, hg, hh, r⟩
  · exact .inl h0
  · exact .inr ⟨g', cap, cur, rfl, hg, (hk g' rfl).trans hh, r⟩
theorem own_set {w : World} {base g n : Nat} {e t : TypeId} {v : Value} {xs : List Value} {cs : Array Value} (h : w.ownsRow base e 1 v n xs) (hr : Row w g t cs) (hne : e ≠ t) (i : Nat) (u : Value) : (w.setCell ⟨g, i, none⟩ u).ownsRow base e 1 v n xs :=
  own_keep h fun k hk => Below.heap_setCell w _ u k (fun he => own_ne h hr hne (by rw [hk, he]))

/-- All blocks but those that 'may' names are as they were. -/
structure Only (w w' : World) (may : Nat → Prop) : Prop where
  os : w'.os = w.os
  tape : w'.tape = w.tape
  output : w'.output = w.output
  size : w.heap.size ≤ w'.heap.size
  block : ∀ k, k < w.heap.size → ¬ may k → w'.heap[k]? = w.heap[k]?

theorem Only.below {w0 w w' : World} {B : Nat} {may : Nat → Prop} (hb : Below B w0 w) (h : Only w w' may) (hB : B ≤ w.heap.size) (hm : ∀ k, k < B → ¬ may k) : Below B w0 w' :=
  hb.trans ⟨h.os, h.tape, h.output, h.size, fun k hk => h.block k (by omega) (hm k hk)⟩
theorem Only.row {w w' : World} {may : Nat → Prop} (h : Only w w' may) {g : Nat} {t : TypeId} {cs : Array Value} (hr : Row w g t cs) (hg : ¬ may g) : Row w' g t cs := (h.block g hr.lt hg).trans hr

def nodeCells (nm : ByteArray) (sz : Int) (pp : Option Addr) (cv : Value) : Array Value := #[.string nm, .int .i64 sz, .pointer pp, cv]
def ptrTo (b : Nat) : Value := .pointer (some ⟨b, 0, none⟩)

/-- What is behind 'p.adopt(c)'. -/
def Adopted (w : World) (B p c n : Nat) (nm nm' : ByteArray) (sz sz' : Int) (pp' : Option Addr) (cc cv : Value) (xs : List Value) (e : Ending) (w' : World) : Prop :=
  e = .returned (.tuple #[]) ∧ ∃ v', Row w' c 59 (nodeCells nm sz (some ⟨p, 0, none⟩) cc) ∧ Row w' p 59 (nodeCells nm' sz' pp' v') ∧
    w'.ownsRow B 56 1 v' (n + 1) (xs ++ [ptrTo c]) ∧ (v'.ownBlock = cv.ownBlock ∨ ∃ g, v'.ownBlock = some g ∧ w.heap.size ≤ g) ∧
    Only w w' (fun k => k = p ∨ k = c ∨ some k = cv.ownBlock)

theorem info_ptr : (Try.prog.info? 56).map (fun i => (i.zero, i.size, i.bytes)) = some (some (.pointer none), 1, 8) := by kernel_rfl

theorem adopt_end {w w1 : World} {B p c n : Nat} {nm nm' : ByteArray} {sz sz' : Int} {pp pp' : Option Addr} {cc cv v' : Value} {xs : List Value} {t : TypeId} {o : Obj}
    (hc : Row w c 59 (nodeCells nm sz pp cc)) (hp : Row w p 59 (nodeCells nm' sz' pp' cv)) (hpc : p ≠ c) (hcv : w.ownsRow B 56 1 cv n xs)
    (hown : w1.ownsRow B 56 1 v' (n + 1) (xs ++ [ptrTo c])) (hgrow : ((w.setCell ⟨c, 2, none⟩ (ptrTo p)).alloc o).grownBy w1 cv.ownBlock)
    (hat : v'.ownBlock = cv.ownBlock ∨ v'.ownBlock = some ((w.setCell ⟨c, 2, none⟩ (ptrTo p)).alloc o).heap.size) (_ht : t = t) :
    Adopted w B p c n nm nm' sz sz' pp' cc cv xs (.returned (.tuple #[])) (w1.setCell ⟨p, 3, none⟩ v') := by
  have hne1 : cv.ownBlock ≠ some c := own_ne hcv hc (by decide)
  have hne2 : cv.ownBlock ≠ some p := own_ne hcv hp (by decide)
  have hz : ((w.setCell ⟨c, 2, none⟩ (ptrTo p)).alloc o).heap.size = w.heap.size + 1 := by simp [World.setCell, World.alloc]
  have hc0 : Row (w.setCell ⟨c, 2, none⟩ (ptrTo p)) c 59 (nodeCells nm sz (some ⟨p, 0, none⟩) cc) := hc.put 2 _
  have hp0 : Row (w.setCell ⟨c, 2, none⟩ (ptrTo p)) p 59 (nodeCells nm' sz' pp' cv) := hp.far hpc _
  have hc1 : Row w1 c 59 (nodeCells nm sz (some ⟨p, 0, none⟩) cc) := (hgrow.block c (hc0.alloc o).lt (Ne.symm hne1)).trans (hc0.alloc o)
  have hp1 : Row w1 p 59 (nodeCells nm' sz' pp' cv) := (hgrow.block p (hp0.alloc o).lt (Ne.symm hne2)).trans (hp0.alloc o)
  refine ⟨rfl, v', hc1.far (Ne.symm hpc) _, hp1.put 3 v', own_set hown hp1 (by decide) 3 v', ?_, ?_⟩
  · rcases hat with h | h
    · exact .inl h
    · exact .inr ⟨_, h, by rw [hz]; omega⟩
  · refine ⟨hgrow.os, hgrow.tape, hgrow.output, ?_, fun k hk hm => ?_⟩
    · have := hgrow.size
      rw [hz] at this
      simp [World.setCell]
      omega
    · have h1 : k ≠ p := fun h => hm (.inl h)
      have h2 : k ≠ c := fun h => hm (.inr (.inl h))
      have h3 : some k ≠ cv.ownBlock := fun h => hm (.inr (.inr h))
      rw [Below.heap_setCell _ _ _ _ h1, hgrow.block k (by rw [hz]; omega) h3, Below.heap_alloc _ _ _ (by simpa [World.setCell] using hk), Below.heap_setCell _ _ _ _ h2]

theorem size_set (w : World) (a : Addr) (y : Value) : (w.setCell a y).heap.size = w.heap.size := by simp [World.setCell]
theorem cell_new_set (w : World) (a : Addr) (y x : Value) (t : TypeId) : ∀ j u, [x][j]? = some u → ((w.setCell a y).alloc (.cells #[x] t)).cell? ((⟨w.heap.size, 0, none⟩ : Addr).add j) = some u := by
  have h := cell_one_new (w.setCell a y) x t
  rw [size_set] at h
  exact h

theorem adopt_row {w w1 : World} {B p c n : Nat} {nm nm' : ByteArray} {sz sz' : Int} {pp pp' : Option Addr} {cc cv : Value} {xs : List Value} {o : Obj}
    (_hc : Row w c 59 (nodeCells nm sz pp cc)) (hp : Row w p 59 (nodeCells nm' sz' pp' cv)) (hpc : p ≠ c) (hcv : w.ownsRow B 56 1 cv n xs)
    (hgrow : ((w.setCell ⟨c, 2, none⟩ (ptrTo p)).alloc o).grownBy w1 cv.ownBlock) : Row w1 p 59 (nodeCells nm' sz' pp' cv) := by
  have hne2 : cv.ownBlock ≠ some p := own_ne hcv hp (by decide)
  have hp0 : Row (w.setCell ⟨c, 2, none⟩ (ptrTo p)) p 59 (nodeCells nm' sz' pp' cv) := hp.far hpc _
  exact (hgrow.block p (hp0.alloc o).lt (Ne.symm hne2)).trans (hp0.alloc o)

set_option maxRecDepth 100000 in
set_option maxHeartbeats 400000 in
theorem adopt_any (B p c n : Nat) (nm nm' : ByteArray) (sz sz' : Int) (pp pp' : Option Addr) (cc cv : Value) (xs : List Value) (w : World)
    (hc : Row w c 59 (nodeCells nm sz pp cc)) (hp : Row w p 59 (nodeCells nm' sz' pp' cv)) (hpc : p ≠ c) (hcv : w.ownsRow B 56 1 cv n xs) (hB : B ≤ w.heap.size) (hn : n ≤ 1000) :
    Calls Try.prog 92 #[.pointer (some ⟨p, 0, none⟩), .pointer (some ⟨c, 0, none⟩)] w (Adopted w B p c n nm nm' sz sz' pp' cc cv xs) := by
  obtain ⟨i0, hi0, hz0, hz1, hz2⟩ := info_parts info_ptr
  have I0 := Lib.hid hi0
  have Z0 := Lib.hid hz0
  have Z1 := Lib.hid hz1
  have Z2 := Lib.hid hz2
  clear hi0 hz0 hz1 hz2
  have e2 : w.cell? ⟨c, 2, none⟩ = some (.pointer pp) := hc.cell 2
  have e3 : w.cell? ⟨p, 3, none⟩ = some cv := hp.cell 3
  have f2 := hc.free 2
  have f3 := hp.free 3
  have HC := Lib.hid hc
  have HP := Lib.hid hp
  have HO := Lib.hid hcv
  have HE := Lib.hid hcv.2
  clear hc hp hcv
  have hl : ∃ A nn cc', cv = .slice A nn cc' := by
    rcases HE.out with ⟨rfl, _⟩ | ⟨g, cap, _, rfl, _⟩
    · exact ⟨_, _, _, rfl⟩
    · exact ⟨_, _, _, rfl⟩
  obtain ⟨A, nn, cc', rfl⟩ := hl
  clear HE
  go_enter Try.func92, Try.ntmps92
  go_wp2_with (at_builtin; go_must (refine wpList_append_own_at _ rfl _ _ 54 rfl B 56 i0 (.pointer none) 1 8 Try.underlying54 I0.out Z0.out Z1.out Z2.out rfl (by decide) _ n xs rfl ((own_set HO.out HC.out (by decide) _ _).alloc _) ⟨w.heap.size, 0, none⟩ 1 1 [ptrTo c] rfl rfl (cell_new_set _ _ _ _ _) (by simp [ptrTo, Value.oneCell']) (by simp [maxLen]; omega) (by omega) (by simp [World.setCell]; omega) ?_); intro v' w1 hown1 hgrow _ hat; obtain ⟨g', cap', rfl⟩ := own_form hown1 (by omega); have H1 := Lib.hid hown1; have H2 := Lib.hid hgrow; have H3 := Lib.hid hat; have hp1 := adopt_row HC.out HP.out hpc HO.out hgrow; have g3 := hp1.free 3; have g4 : w1.cell? ⟨p, 3, none⟩ = some (.slice A nn cc') := hp1.cell 3; clear hown1 hgrow hat hp1)
  go_end0
  exact adopt_end HC.out HP.out hpc HO.out H1.out H2.out H3.out (t := 0) rfl

end Go.Proofs.Ytadichddgpojpaa
/- The nodes of a tree in memory: what holds while they are made. -/
namespace Go.Proofs.Ytadichddgpojpaa
open Go.RowKit

def upd {α : Type} (f : Nat → α) (k : Nat) (x : α) : Nat → α := fun j => if j = k then x else f j
theorem upd_same {α : Type} (f : Nat → α) (k : Nat) (x : α) : upd f k x k = x := if_pos rfl
theorem upd_ne {α : Type} (f : Nat → α) {k j : Nat} (x : α) (h : j ≠ k) : upd f k x j = f j := if_neg h

def kidsOf (l : List Seg) (i k : Nat) : List Nat := (List.range k).filter (fun j => decide (parAt l j = (i : Int)))
theorem kidsOf_succ (l : List Seg) (i k : Nat) : kidsOf l i (k + 1) = kidsOf l i k ++ if parAt l k = (i : Int) then [k] else [] := by
  unfold kidsOf
  rw [List.range_succ, List.filter_append]
  by_cases h : parAt l k = (i : Int) <;> simp [h]
theorem kidsOf_lt {l : List Seg} {i k j : Nat} (h : j ∈ kidsOf l i k) : j < k := by
  unfold kidsOf at h
  exact List.mem_range.1 (List.mem_filter.1 h).1
theorem kidsOf_par {l : List Seg} {i k j : Nat} (h : j ∈ kidsOf l i k) : parAt l j = (i : Int) := by
  unfold kidsOf at h
  simpa using (List.mem_filter.1 h).2
theorem kidsOf_none {l : List Seg} {i k : Nat} (hd : Down l k) (hk : k ≤ i) : kidsOf l i k = [] := by
  apply List.eq_nil_iff_forall_not_mem.2
  intro j hj
  have h1 := kidsOf_lt hj
  have h2 := kidsOf_par hj
  have h3 := hd j h1
  omega
theorem kidsOf_len (l : List Seg) (i k : Nat) : (kidsOf l i k).length ≤ k := by
  have := List.length_filter_le (fun j => decide (parAt l j = (i : Int))) (List.range k)
  simpa [kidsOf] using this

def nilKids : Value := .slice none 0 0
def parPtr (l : List Seg) (nb : Nat → Nat) (i : Nat) : Option Addr := if parAt l i < 0 then none else some ⟨nb (parAt l i).toNat, 0, none⟩
def ptrsOf (nb : Nat → Nat) (ks : List Nat) : List Value := ks.map fun j => ptrTo (nb j)
theorem ptrsOf_upd {nb : Nat → Nat} {k x : Nat} {ks : List Nat} (h : ∀ j ∈ ks, j ≠ k) : ptrsOf (upd nb k x) ks = ptrsOf nb ks :=
  List.map_congr_left fun j hj => by rw [upd_ne nb x (h j hj)]

/-- 'm' nodes are made, 'k' of them have been adopted (or are the root). -/
structure Nodes (w : World) (B g m k : Nat) (l : List Seg) (nb : Nat → Nat) (cv : Nat → Value) : Prop where
  row : ∃ cs, Row w g 56 cs ∧ cs.size = l.length ∧ ∀ i, i < m → cs[i]? = some (ptrTo (nb i))
  node : ∀ i s, i < k → l[i]? = some s → Row w (nb i) 59 (nodeCells s.name s.size (parPtr l nb i) (cv i))
  fresh : ∀ i s, k ≤ i → i < m → l[i]? = some s → Row w (nb i) 59 (nodeCells s.name s.size none nilKids)
  kids : ∀ i, i < k → w.ownsRow B 56 1 (cv i) (kidsOf l i k).length (ptrsOf nb (kidsOf l i k))
  apart : ∀ i j, i < m → j < m → i ≠ j → nb i ≠ nb j
  apartC : ∀ i j, i < k → j < k → i ≠ j → (cv i).ownBlock = none ∨ (cv i).ownBlock ≠ (cv j).ownBlock
  notg : ∀ i, i < k → (cv i).ownBlock ≠ some g
  low : B ≤ g ∧ ∀ i, i < m → B ≤ nb i

theorem parPtr_upd {l : List Seg} {nb : Nat → Nat} {i k x : Nat} (hd : Down l k) (hi : i < k) : parPtr l (upd nb k x) i = parPtr l nb i := by
  unfold parPtr
  have := hd i hi
  by_cases h : parAt l i < 0
  · rw [if_pos h, if_pos h]
  · rw [if_neg h, if_neg h, upd_ne nb x (by omega)]

/-- A node more is made and stored. -/
theorem Nodes.made {w : World} {B g k : Nat} {l : List Seg} {nb : Nat → Nat} {cv : Nat → Value} (h : Nodes w B g k k l nb cv) (hd : Down l k) {s : Seg} (hk : k < l.length) (hs : l[k]? = some s) (hB : B ≤ w.heap.size) (o : Obj) :
    Nodes (((w.alloc o).alloc (.cells (nodeCells s.name s.size none nilKids) 59)).setCell ⟨g, k, none⟩ (ptrTo (w.heap.size + 1))) B g (k + 1) k l (upd nb k (w.heap.size + 1)) cv := by
  have hz : (w.alloc o).heap.size = w.heap.size + 1 := by simp
  have hnew : Row ((w.alloc o).alloc (.cells (nodeCells s.name s.size none nilKids) 59)) (w.heap.size + 1) 59 (nodeCells s.name s.size none nilKids) := by
    have := Row.new (w.alloc o) 59 (nodeCells s.name s.size none nilKids)
    rw [hz] at this
    exact this
  obtain ⟨cs, hg, hcs, hci⟩ := h.row
  have hgl := hg.lt
  have hg2 : Row ((w.alloc o).alloc (.cells (nodeCells s.name s.size none nilKids) 59)) g 56 cs := (hg.alloc o).alloc _
  have hold : ∀ i t, i < k → l[i]? = some t → nb i ≠ g := fun i t hi ht he => by
    have h1 := h.node i t hi ht
    unfold Row at h1 hg
    rw [he, hg] at h1
    injection h1 with h1
    injection h1 with _ h2
    exact absurd h2 (by decide)
  have hlt : ∀ i, i < k → nb i < w.heap.size := fun i hi => (h.node i l[i] hi (List.getElem?_eq_getElem (by omega))).lt
  refine ⟨⟨_, hg2.put k _, by simpa using hcs, fun i hi => ?_⟩, fun i t hi ht => ?_, fun i t hi hi2 ht => ?_, fun i hi => ?_, fun i j hi hj hne => ?_, h.apartC, h.notg, h.low.1, fun i hi => ?_⟩
  · rcases Nat.lt_or_ge i k with hlt' | hge
    · rw [Array.getElem?_setIfInBounds_ne (by omega), hci i hlt', upd_ne nb _ (by omega)]
    · obtain rfl : i = k := by omega
      rw [Array.getElem?_setIfInBounds_self_of_lt (by omega), upd_same]
  · rw [parPtr_upd hd hi, upd_ne nb _ (by omega)]
    exact (((h.node i t hi ht).alloc o).alloc _).far (hold i t hi ht) _
  · obtain rfl : i = k := by omega
    rw [hs] at ht
    injection ht with ht
    subst ht
    rw [upd_same]
    exact hnew.far (p := ⟨g, i, none⟩) (show w.heap.size + 1 ≠ g by omega) _
  · rw [ptrsOf_upd fun j hj => by have := kidsOf_lt hj; omega]
    have h1 := ((h.kids i hi).alloc o).alloc (.cells (nodeCells s.name s.size none nilKids) 59)
    exact own_keep h1 fun b hb => Below.heap_setCell _ _ _ _ (fun he => h.notg i hi (by rw [hb, he]))
  · rcases Nat.lt_or_ge i k with h1 | h1 <;> rcases Nat.lt_or_ge j k with h2 | h2
    · rw [upd_ne nb _ (by omega), upd_ne nb _ (by omega)]
      exact h.apart i j h1 h2 hne
    · obtain rfl : j = k := by omega
      rw [upd_ne nb _ (by omega), upd_same]
      have := hlt i h1
      omega
    · obtain rfl : i = k := by omega
      rw [upd_same, upd_ne nb _ (by omega)]
      have := hlt j h2
      omega
    · omega
  · rcases Nat.lt_or_ge i k with h1 | h1
    · rw [upd_ne nb _ (by omega)]
      exact h.low.2 i h1
    · obtain rfl : i = k := by omega
      rw [upd_same]
      omega

theorem own_nil (w : World) (B : Nat) : w.ownsRow B 56 1 nilKids 0 [] := World.ownsRow_nil w B _ 1

/-- The root is adopted by none. -/
theorem Nodes.root {w : World} {B g k : Nat} {l : List Seg} {nb : Nat → Nat} {cv : Nat → Value} (h : Nodes w B g (k + 1) k l nb cv) (hd : Down l (k + 1)) (hk : k < l.length) (hp : parAt l k < 0) :
    Nodes w B g (k + 1) (k + 1) l nb (upd cv k nilKids) := by
  have hkids : ∀ i, i < k → kidsOf l i (k + 1) = kidsOf l i k := fun i _ => by rw [kidsOf_succ, if_neg (by omega), List.append_nil]
  refine ⟨h.row, fun i t hi ht => ?_, fun i t hi hi2 ht => absurd hi (by omega), fun i hi => ?_, h.apart, fun i j hi hj hne => ?_, fun i hi => ?_, h.low⟩
  · rcases Nat.lt_or_ge i k with h1 | h1
    · rw [upd_ne cv _ (by omega)]
      exact h.node i t h1 ht
    · obtain rfl : i = k := by omega
      rw [upd_same]
      have := h.fresh i t (Nat.le_refl _) (by omega) ht
      unfold parPtr
      rw [if_pos hp]
      exact this
  · rcases Nat.lt_or_ge i k with h1 | h1
    · rw [upd_ne cv _ (by omega), hkids i h1]
      exact h.kids i h1
    · obtain rfl : i = k := by omega
      rw [upd_same, kidsOf_succ, if_neg (by omega), List.append_nil, kidsOf_none (hd.mono (by omega)) (Nat.le_refl _)]
      exact own_nil w B
  · rcases Nat.lt_or_ge i k with h1 | h1
    · rcases Nat.lt_or_ge j k with h2 | h2
      · rw [upd_ne cv _ (by omega), upd_ne cv _ (by omega)]
        exact h.apartC i j h1 h2 hne
      · obtain rfl : j = k := by omega
        rw [upd_ne cv _ (by omega), upd_same]
        cases hb : (cv i).ownBlock with
        | none => exact .inl rfl
        | some b => exact .inr (by simp [nilKids, Value.ownBlock])
    · obtain rfl : i = k := by omega
      rw [upd_same]
      exact .inl rfl
  · rcases Nat.lt_or_ge i k with h1 | h1
    · rw [upd_ne cv _ (by omega)]
      exact h.notg i h1
    · obtain rfl : i = k := by omega
      rw [upd_same]
      simp [nilKids, Value.ownBlock]

/-- The new node is adopted by its parent. -/
theorem Nodes.child {w w' : World} {B g k p : Nat} {l : List Seg} {nb : Nat → Nat} {cv : Nat → Value} {s sp : Seg} {e : Ending} (h : Nodes w B g (k + 1) k l nb cv) (hd : Down l (k + 1)) (hk : k < l.length) (hs : l[k]? = some s) (hsp : l[p]? = some sp)
    (hp : parAt l k = (p : Int)) (hpk : p < k)
    (ha : Adopted w B (nb p) (nb k) (kidsOf l p k).length s.name sp.name s.size sp.size (parPtr l nb p) nilKids (cv p) (ptrsOf nb (kidsOf l p k)) e w') :
    ∃ v', Nodes w' B g (k + 1) (k + 1) l nb (upd (upd cv k nilKids) p v') := by
  obtain ⟨_, v', hc, hpr, hown, hat, honly⟩ := ha
  refine ⟨v', ?_⟩
  have hr := h.root
  have hkidsP : kidsOf l p (k + 1) = kidsOf l p k ++ [k] := by rw [kidsOf_succ, if_pos hp]
  have hkids : ∀ i, i ≠ p → kidsOf l i (k + 1) = kidsOf l i k := fun i hi => by rw [kidsOf_succ, if_neg (by omega), List.append_nil]
  obtain ⟨cs, hg, hcs, hci⟩ := h.row
  have hnode : ∀ i, i < k + 1 → ∃ c, Row w (nb i) 59 c := fun i hi => by
    rcases Nat.lt_or_ge i k with h1 | h1
    · exact ⟨_, h.node i _ h1 (List.getElem?_eq_getElem (by omega))⟩
    · exact ⟨_, h.fresh i _ h1 hi (List.getElem?_eq_getElem (by omega))⟩
  have hgn : ∀ i, i < k + 1 → g ≠ nb i := fun i hi he => by
    obtain ⟨c, h1⟩ := hnode i hi
    unfold Row at h1 hg
    rw [← he, hg] at h1
    injection h1 with h1
    injection h1 with _ h2
    exact absurd h2 (by decide)
  have hcvn : ∀ i j, i < k → j < k + 1 → (cv i).ownBlock ≠ some (nb j) := fun i j hi hj => by
    obtain ⟨c, h1⟩ := hnode j hj
    exact own_ne (h.kids i hi) h1 (by decide)
  have hgmay : ¬ (g = nb p ∨ g = nb k ∨ some g = (cv p).ownBlock) := by
    rintro (he | he | he)
    · exact hgn p (by omega) he
    · exact hgn k (by omega) he
    · exact h.notg p hpk he.symm
  have hlts : ∀ i, i < k → ∀ b, (cv i).ownBlock = some b → b < w.heap.size := fun i hi b hb => ((h.kids i hi).lt b hb).2
  refine ⟨⟨cs, honly.row hg hgmay, hcs, hci⟩, fun i t hi ht => ?_, fun i t hi hi2 ht => absurd hi (by omega), fun i hi => ?_, h.apart, ?_, fun i hi => ?_, h.low⟩
  · rcases Nat.lt_or_ge i k with h1 | h1
    · by_cases hip : i = p
      · subst hip
        rw [hsp] at ht
        injection ht with ht
        subst ht
        rw [upd_same]
        exact hpr
      · rw [upd_ne _ _ hip, upd_ne _ _ (by omega)]
        refine honly.row (h.node i t h1 ht) ?_
        rintro (he | he | he)
        · exact h.apart i p (by omega) (by omega) hip he
        · exact h.apart i k (by omega) (by omega) (by omega) he
        · exact hcvn p i hpk hi he.symm
    · obtain rfl : i = k := by omega
      rw [upd_ne _ _ (by omega), upd_same]
      rw [hs] at ht
      injection ht with ht
      subst ht
      unfold parPtr
      rw [if_neg (by omega), hp, Int.toNat_natCast]
      exact hc
  · by_cases hip : i = p
    · subst hip
      rw [upd_same, hkidsP, List.length_append]
      have : ptrsOf nb (kidsOf l i k ++ [k]) = ptrsOf nb (kidsOf l i k) ++ [ptrTo (nb k)] := by simp [ptrsOf]
      rw [this]
      exact hown
    · rw [upd_ne _ _ hip, hkids i hip]
      rcases Nat.lt_or_ge i k with h1 | h1
      · rw [upd_ne _ _ (by omega)]
        refine own_keep (h.kids i h1) fun b hb => honly.block b (hlts i h1 b hb) ?_
        rintro (he | he | he)
        · exact hcvn i p h1 (by omega) (by rw [hb, he])
        · exact hcvn i k h1 (by omega) (by rw [hb, he])
        · rcases h.apartC i p h1 hpk hip with h2 | h2
          · rw [hb] at h2; cases h2
          · exact h2 (by rw [hb, he])
      · obtain rfl : i = k := by omega
        rw [upd_same, kidsOf_none (hd.mono (by omega)) (Nat.le_refl _)]
        exact own_nil w' B
  · have hv : ∀ j, j < k → j ≠ p → v'.ownBlock = none ∨ v'.ownBlock ≠ (cv j).ownBlock := fun j hj hjp => by
      rcases hat with h1 | ⟨b, h1, h2⟩
      · rw [h1]
        exact h.apartC p j hpk hj (Ne.symm hjp)
      · right
        rw [h1]
        intro he
        have := hlts j hj b he.symm
        omega
    intro i j hi hj hne
    by_cases hip : i = p
    · subst hip
      rw [upd_same, upd_ne _ _ (Ne.symm hne)]
      rcases Nat.lt_or_ge j k with h2 | h2
      · rw [upd_ne _ _ (by omega)]
        exact hv j h2 (Ne.symm hne)
      · obtain rfl : j = k := by omega
        rw [upd_same]
        cases hb : v'.ownBlock with
        | none => exact .inl rfl
        | some b => exact .inr (by simp [nilKids, Value.ownBlock])
    · rw [upd_ne _ _ hip]
      rcases Nat.lt_or_ge i k with h1 | h1
      · rw [upd_ne _ _ (by omega)]
        by_cases hjp : j = p
        · subst hjp
          rw [upd_same]
          rcases hv i h1 hip with h2 | h2
          · rw [h2]
            cases (cv i).ownBlock with
            | none => exact .inl rfl
            | some b => exact .inr (by simp)
          · exact .inr (Ne.symm h2)
        · rw [upd_ne _ _ hjp]
          rcases Nat.lt_or_ge j k with h2 | h2
          · rw [upd_ne _ _ (by omega)]
            exact h.apartC i j h1 h2 hne
          · obtain rfl : j = k := by omega
            rw [upd_same]
            cases hb : (cv i).ownBlock with
            | none => exact .inl rfl
            | some b => exact .inr (by simp [nilKids, Value.ownBlock])
      · obtain rfl : i = k := by omega
        rw [upd_same]
        exact .inl rfl
  · by_cases hip : i = p
    · subst hip
      rw [upd_same]
      rcases hat with h1 | ⟨b, h1, h2⟩
      · rw [h1]
        exact h.notg i hpk
      · rw [h1]
        intro he
        injection he with he
        have := hg.lt
        omega
    · rw [upd_ne _ _ hip]
      rcases Nat.lt_or_ge i k with h1 | h1
      · rw [upd_ne _ _ (by omega)]
        exact h.notg i h1
      · obtain rfl : i = k := by omega
        rw [upd_same]
        simp [nilKids, Value.ownBlock]

end Go.Proofs.Ytadichddgpojpaa
