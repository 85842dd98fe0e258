/- Joined: Do Dq. -/
import Derived.Test.YtifkmehnikfihaaU26
import Derived.Test.YtifkmehnikfihaaU21
import Derived.Test.YtifkmehnikfihaaU13
import Derived.Test.YtifkmehnikfihaaU12
/- The reference's SortedOrder. -/
namespace Go.Proofs.Ytifkmehnikfihaa
open Go.RowKit

/-- Who is called outermost; nobody where nothing was read. -/
def headsR (l : List Seg) (t : ByteArray) : List UInt8 := match traceB l t.data.toList with
  | none => []
  | some f => headsB f
theorem sortNat_nil (l : List Seg) : sortNat l [] = [] := List.flatMap_eq_nil_iff.2 fun _ _ => rfl
theorem sortRes_is (l : List Seg) (t : ByteArray) : sortRes l t = (sortNat l (headsR l t)).map fun (k : Nat) => (k : Int) := by
  unfold sortRes headsR
  cases traceB l t.data.toList with
  | none => rw [sortNat_nil]; rfl
  | some f => rfl
theorem topsRes_heads (l : List Seg) (t : ByteArray) : (topsRes l t).length = (headsR l t).length := by
  unfold topsRes headsR
  cases traceB l t.data.toList with
  | none => rfl
  | some f => show ((topsB f).map strOf).length = (headsB f).length; rw [List.length_map, topsB_len, headsB_len]
/-- What stands when all of the first k segments' calls are taken, and of the next one's those below i. -/
def sortPre (l : List Seg) (cs : List UInt8) (k i : Nat) : List Nat := (List.range k).flatMap (groupB l cs) ++ (List.range i).filter fun j => cs.getD j 0 == byteOf l k
theorem sortPre_start (l : List Seg) (cs : List UInt8) : sortPre l cs 0 0 = [] := rfl
theorem sortPre_next (l : List Seg) (cs : List UInt8) (k i : Nat) : sortPre l cs k (i + 1) = if cs.getD i 0 == byteOf l k then sortPre l cs k i ++ [i] else sortPre l cs k i := by
  unfold sortPre
  rw [List.range_succ, List.filter_append, ← List.append_assoc]
  by_cases h : (cs.getD i 0 == byteOf l k) = true
  · rw [if_pos h, List.filter_cons_of_pos (by exact h), List.filter_nil]
  · rw [if_neg h, List.filter_cons_of_neg (by exact h), List.filter_nil, List.append_nil]
theorem sortPre_row (l : List Seg) (cs : List UInt8) (k : Nat) : sortPre l cs (k + 1) 0 = sortPre l cs k cs.length := by
  unfold sortPre
  rw [List.range_succ, List.flatMap_append, List.flatMap_cons, List.flatMap_nil, List.append_nil]
  show _ ++ [] = _
  rw [List.append_nil]; rfl
theorem sortPre_all (l : List Seg) (cs : List UInt8) : sortPre l cs l.length 0 = sortNat l cs := by
  unfold sortPre sortNat
  show _ ++ [] = _
  rw [List.append_nil]
theorem flat_len {α β : Type} {f : α → List β} {n : Nat} (h : ∀ a, (f a).length ≤ n) : ∀ xs : List α, (xs.flatMap f).length ≤ xs.length * n
  | [] => Nat.zero_le _
  | a :: xs => by
    rw [List.flatMap_cons, List.length_append, List.length_cons, Nat.succ_mul]
    have := h a
    have := flat_len h xs
    omega
theorem sortPre_len (l : List Seg) (cs : List UInt8) (k i : Nat) : (sortPre l cs k i).length ≤ k * cs.length + i := by
  unfold sortPre
  rw [List.length_append]
  have h1 := flat_len (f := groupB l cs) (n := cs.length) (fun t => by
    unfold groupB
    have := List.length_filter_le (fun i => cs.getD i 0 == byteOf l t) (List.range cs.length)
    rw [List.length_range] at this; exact this) (List.range k)
  have h2 := List.length_filter_le (fun j => cs.getD j 0 == byteOf l k) (List.range i)
  rw [List.length_range] at h1 h2
  omega
def sortInts (l : List Seg) (t : ByteArray) (k i : Nat) : List Int := (sortPre l (headsR l t) k i).map fun (k : Nat) => (k : Int)
/-- What one test of the inner loop meets. -/
theorem sort_round (l : List Seg) (t : ByteArray) (k i : Nat) (hk : k < l.length) (hi : i < (topsRes l t).length) :
    (traceB l t.data.toList).isSome = true ∧ (sortInts l t k i).length ≤ 10000 ∧ ∃ c x b, (topsRes l t)[i] = strOf (c :: x) ∧ l[k].name = ⟨#[b]⟩ ∧ sortInts l t k (i + 1) = if c == b then sortInts l t k i ++ [(i : Int)] else sortInts l t k i := by
  have hth := topsRes_heads l t
  have h80 := topsRes_le l t
  have hi2 := hi
  unfold topsRes at hi2
  cases hR : traceB l t.data.toList with
  | none => rw [hR] at hi2; cases hi2
  | some f =>
    obtain ⟨hv, -, -⟩ := traceB_some hR
    refine ⟨rfl, ?_, ?_⟩
    · unfold sortInts
      rw [List.length_map]
      have h1 := sortPre_len l (headsR l t) k i
      have h8 := (valid_all hv).2.1
      have : k * (headsR l t).length ≤ 8 * 80 := Nat.mul_le_mul (by omega) (by omega)
      omega
    · have e1 : topsRes l t = (topsB f).map strOf := by unfold topsRes; rw [hR]
      have e2 : headsR l t = headsB f := by unfold headsR; rw [hR]
      have hif : i < (topsB f).length := by rw [e1, List.length_map] at hi; exact hi
      rcases headsB_tops f i with ⟨h, _⟩ | ⟨c, x, h1, h2⟩
      · rw [List.getElem?_eq_getElem hif] at h; cases h
      · refine ⟨c, x, byteOf l k, ?_, (nmAt_one hv hk).2, ?_⟩
        · have : (topsRes l t)[i]? = some (strOf (c :: x)) := by rw [e1, List.getElem?_map, h1]; rfl
          rw [List.getElem?_eq_getElem hi] at this
          injection this
        · unfold sortInts
          rw [sortPre_next, e2]
          have : (headsB f).getD i 0 = c := by rw [List.getD_eq_getElem?_getD, h2]; rfl
          rw [this]
          by_cases hb : (c == byteOf l k) = true
          · rw [if_pos hb, if_pos hb, List.map_append]; rfl
          · rw [if_neg hb, if_neg hb]

set_option maxRecDepth 100000 in
/-- Numbers put behind numbers, and what else stands. -/
theorem wp_appJ11 {ops : Array Oper} {rest : List Oper} {o : Oper} {a : Act} {Q : Exit → Act → World → Prop} (hgd : o.guard = none) (S X : Operand)
    (ho : o.op = Op.call { callee := Callee.builtin Builtin.append, args := #[S, X], argTypes := #[34, 34] })
    (B : Nat) (v : Value) (ts : List Int) (W : World) (hs : a.eval S = v) (hown : Si.OwnInts W B v ts) (htl : ts.length ≤ 10000) (hB : B ≤ W.heap.size)
    (g : Nat) (u : Int) (hx : a.eval X = .slice (some ⟨g, 0, none⟩) 1 1) (hnew : W.cell? ⟨g, 0, none⟩ = some (.int .i64 u))
    (h : ∀ v' w', Si.OwnInts w' B v' (ts ++ [u]) → Below B W w' → (∀ k, k < W.heap.size → v.ownBlock ≠ some k → w'.heap[k]? = W.heap[k]?) → (∀ k, k < W.heap.size → v.ownBlock ≠ some k → v'.ownBlock ≠ some k) → wpList Try.prog ops Q rest (a.put o.dst v') w') :
    wpList Try.prog ops Q (o :: rest) a W := by
  obtain ⟨i0, hi, hz0, hz1, hz2⟩ := info_parts info_int
  refine wpList_append_own_at W hgd S X 34 ho B 3 i0 (.int .i64 0) 1 8 Try.underlying34 hi hz0 hz1 hz2 rfl (by decide) v ts.length (ts.map (Value.int .i64)) hs hown ⟨g, 0, none⟩ 1 1 [.int .i64 u] hx rfl ?_ ?_ (by unfold maxLen; omega) (by omega) hB ?_
  · intro j x hj
    have hj0 : j = 0 := by have := (List.getElem?_eq_some_iff.1 hj).1; simp at this; omega
    subst hj0
    simp at hj
    subst hj
    exact hnew
  · intro x hx'
    rw [List.mem_singleton.1 hx']
    rfl
  · intro v' w' h1 h2 h3 h4
    refine h v' w' ?_ ?_ ?_ ?_
    · show w'.ownsRow B _ 1 v' (ts ++ [u]).length ((ts ++ [u]).map (Value.int .i64))
      rw [List.length_append, List.map_append]
      exact h1
    · exact (Below.refl B W).grown h2 hB (fun k e => (World.ownsRow.lt hown k e).1)
    · exact fun k hk hne => h2.block k hk (fun e => hne e.symm)
    · intro k hk hne e
      rcases h4 with h4 | h4
      · rw [h4] at e; exact hne e
      · rw [h4] at e; injection e with e; omega
theorem own_keep11 {w w' : World} {B : Nat} {e : TypeId} {size : Nat} {v : Value} {n : Nat} {xs : List Value} (h : w.ownsRow B e size v n xs) (hk : ∀ k, v.ownBlock = some k → w'.heap[k]? = w.heap[k]?) : w'.ownsRow B e size v n xs := by
  refine ⟨h.1, ?_⟩
  rcases h.2 with h0 | ⟨g, cap, cur, rfl, h1, h2, h3⟩
  · exact .inl h0
  · exact .inr ⟨g, cap, cur, rfl, h1, (hk g rfl).trans h2, h3⟩
theorem own_lt {w : World} {B : Nat} {e : TypeId} {size : Nat} {v : Value} {n : Nat} {xs : List Value} (h : w.ownsRow B e size v n xs) {k : Nat} (hk : v.ownBlock = some k) : B ≤ k ∧ k < w.heap.size := by
  have := World.ownsRow.lt h k hk
  omega

theorem first_of (c : UInt8) (x : List UInt8) : (strOf (c :: x)).extract 0 1 = ⟨#[c]⟩ := by
  apply ByteArray.ext
  unfold strOf
  simp
theorem str_one_eq (c b : UInt8) : sameB (⟨#[c]⟩ : ByteArray) ⟨#[b]⟩ = (c == b) := by
  by_cases h : c = b
  · subst h; rw [beq_self_eq_true]; exact sameB_iff.2 rfl
  · rw [beq_false_of_ne h, ← Bool.not_eq_true]
    intro e
    have e := sameB_iff.1 e
    injection e with e; injection e with e; injection e with e
    exact h e

set_option maxRecDepth 100000 in
set_option maxHeartbeats 4000000 in
theorem specSortedOrder_any (A : Option Addr) (l : List Seg) (c : Nat) (t : ByteArray) (w : World) (hw : Segs w w.heap.size A l) (hl : l.length ≤ 1048576) (hn : Short l) (ht : t.size ≤ 1048576) :
    Calls Try.prog 19 #[.slice A l.length c, .string t] w (SortPost w l t) := by
  have HB1 : Hid (Below w.heap.size w (w.alloc (.cells #[] 3))) := (Below.refl _ w).alloc (Nat.le_refl _) _
  have HQ := Lib.hid (l11Top_any A l c t (w.alloc (.cells #[] 3)) ((hw.below HB1.out).more HB1.out.size) hl hn ht)
  have HW := Lib.hid hw
  have HO1 : Hid (Si.OwnInts (w.alloc (.cells #[] 3)) w.heap.size (.slice (some ⟨w.heap.size, 0, none⟩) 0 0) (sortInts l t 0 0)) :=
    ⟨rfl, .inr ⟨w.heap.size, 0, #[], rfl, Nat.le_refl _, heap_alloc_new _ _, Nat.le_refl _, by unfold maxLen; omega, rfl, rfl⟩⟩
  have HRND := Lib.hid (sort_round l t)
  have h80 := topsRes_le l t
  have HROW : Hid (∀ k, sortInts l t (k + 1) 0 = sortInts l t k (topsRes l t).length) := fun k => by
    unfold sortInts; rw [sortPre_row, topsRes_heads]
  have HALL : Hid (sortInts l t l.length 0 = sortRes l t) := by
    show _ = _
    unfold sortInts; rw [sortPre_all, sortRes_is]
  unfold TopsPost at HQ
  unfold SortPost
  generalize (traceB l t.data.toList).isSome = d at *
  generalize topsRes l t = ts at *
  generalize sortRes l t = R0 at *
  generalize sortInts l t = pre at *
  clear hw hn
  go_enter Try.func19, Try.ntmps19
  go_wp2_with fail
  refine Calls.mono HQ.out ?_
  rintro e w2 ⟨v, rfl, ho, hb⟩
  rw [World.size_alloc] at ho hb
  obtain ⟨A3, cap3, rfl, -⟩ := St.textsForm ho
  have HT2 : Hid (OwnTexts w2 w.heap.size (.slice A3 ts.length cap3) ts) := own_low ho (by omega)
  have HB2 : Hid (Below w.heap.size w w2) := HB1.out.trans (hb.mono (by omega))
  have HO2 : Hid (Si.OwnInts w2 w.heap.size (.slice (some ⟨w.heap.size, 0, none⟩) 0 0) (pre 0 0)) := own_keep11 HO1.out fun k hk => by
    injection hk with hk
    exact hb.block _ (by have : w.heap.size = k := hk; omega)
  have HD2 : Hid (∀ k, (Value.slice (some ⟨w.heap.size, 0, none⟩) 0 0).ownBlock = some k → (Value.slice A3 ts.length cap3).ownBlock ≠ some k) := fun k h1 h2 => by
    have := (own_lt ho h2).1
    injection h1 with h1
    have : w.heap.size = k := h1
    omega
  clear ho hb HQ HO1 HB1
  go_wp2
  go_loopw [6, 22] (fun o i wr => ∃ (k : Nat), k ≤ l.length ∧ i = .int .i64 k ∧ Hid (Si.OwnInts wr w.heap.size o (pre k 0)) ∧ Hid (OwnTexts wr w.heap.size (.slice A3 ts.length cap3) ts) ∧ Hid (∀ b, o.ownBlock = some b → (Value.slice A3 ts.length cap3).ownBlock ≠ some b) ∧ Hid (Below w.heap.size w wr))
    (fun _ i _ => l.length - (intOf i).toNat)
  case atStart => exact ⟨0, Nat.zero_le _, rfl, HO2, HT2, HD2, HB2⟩
  case round =>
    obtain ⟨k, hk, rfl, HO, HT, HD, HB⟩ := hrel
    clear HO2 HT2 HD2 HB2
    by_cases hlt : k < l.length
    · obtain ⟨b, o, rfl, hB, hcs⟩ := (HW.out.below HB.out) (by omega)
      obtain ⟨c0, c1, c2⟩ := hcs k l[k] (List.getElem?_eq_getElem hlt)
      have HRN := Lib.hid (fun i => HRND.out k i hlt)
      clear hcs
      generalize l[k].name = nm at *
      generalize l[k].size = sz at *
      generalize l[k].par = pr at *
      obtain ⟨A1, cap1, rfl, -⟩ := Si.intsForm HO.out
      have HOq : Hid (Si.OwnInts (wr.alloc (.cells #[.string nm, .int .i64 sz, .int .i64 pr] 46)) w.heap.size (.slice A1 (pre k 0).length cap1) (pre k 0)) := HO.out.below ((Below.refl _ wr).alloc (Nat.le_refl _) _)
      have HTq : Hid (OwnTexts (wr.alloc (.cells #[.string nm, .int .i64 sz, .int .i64 pr] 46)) w.heap.size (.slice A3 ts.length cap3) ts) := HT.out.below ((Below.refl _ wr).alloc (Nat.le_refl _) _)
      have HBq : Hid (Below w.heap.size w (wr.alloc (.cells #[.string nm, .int .i64 sz, .int .i64 pr] 46))) := HB.out.alloc HB.out.size _
      have HRq : Hid (Row (wr.alloc (.cells #[.string nm, .int .i64 sz, .int .i64 pr] 46)) wr.heap.size 46 #[.string nm, .int .i64 sz, .int .i64 pr]) := Row.new wr _ _
      have HNq : Hid ((Value.slice A1 (pre k 0).length cap1).ownBlock ≠ some wr.heap.size ∧ (Value.slice A3 ts.length cap3).ownBlock ≠ some wr.heap.size) := ⟨fun h => by have := (own_lt HO.out h).2; omega, fun h => by have := (own_lt HT.out h).2; omega⟩
      go_wp2
      go_loopw [6, 28] (fun o i ws => ∃ (j : Nat), j ≤ ts.length ∧ i = .int .i64 j ∧ Hid (Si.OwnInts ws w.heap.size o (pre k j)) ∧ Hid (OwnTexts ws w.heap.size (.slice A3 ts.length cap3) ts) ∧ Hid (∀ b, o.ownBlock = some b → (Value.slice A3 ts.length cap3).ownBlock ≠ some b) ∧ Hid (Below w.heap.size w ws) ∧ Hid (Row ws wr.heap.size 46 #[.string nm, .int .i64 sz, .int .i64 pr]) ∧ Hid (o.ownBlock ≠ some wr.heap.size ∧ (Value.slice A3 ts.length cap3).ownBlock ≠ some wr.heap.size))
        (fun _ i _ => ts.length - (intOf i).toNat)
      case atStart => exact ⟨0, Nat.zero_le _, rfl, HOq, HTq, HD, HBq, HRq, HNq⟩
      case round =>
        obtain ⟨j, hj, rfl, HO2, HT2, HD2, HB2, HR2, HN2⟩ := hrel
        clear HOq HTq HD HBq HRq HNq HO HT HB c0 c1 c2
        by_cases hjt : j < ts.length
        · obtain ⟨hd, hpl, ch, x, bn, htj, rfl, hnx⟩ := HRN.out j hjt
          subst hd
          obtain ⟨A6, cap6, h6, HSS⟩ := St.textsForm HT2.out
          injection h6 with h61 _ h63
          subst h61 h63
          obtain ⟨b2, o2, rfl, hB2, hcs2⟩ := HSS (by omega)
          have e1 := hcs2 j ts[j] (List.getElem?_eq_getElem hjt)
          rw [htj] at e1
          have e2 := HR2.out.cell 0
          obtain ⟨A5, cap5, rfl, -⟩ := Si.intsForm HO2.out
          have hfs : 1 ≤ (strOf (ch :: x)).size := by
            unfold strOf
            show 1 ≤ (ch :: x).toArray.size
            rw [List.size_toArray, List.length_cons]; omega
          have hfx := first_of ch x
          generalize strOf (ch :: x) = tx at *
          clear hcs2 htj HSS HRN
          have HNX := Lib.hid hnx
          clear hnx
          go_wp2_with fail
          go_quiet (fail)
          have HO9 : Hid (Si.OwnInts (wr.drewN nq) w.heap.size (.slice A5 (pre k j).length cap5) (pre k j)) := HO2.out
          have HT9 : Hid (OwnTexts (wr.drewN nq) w.heap.size (.slice (some ⟨b2, o2, none⟩) ts.length cap3) ts) := HT2.out
          have HB9 : Hid (Below w.heap.size w (wr.drewN nq)) := HB2.out.trans ⟨rfl, rfl, rfl, Nat.le_refl _, fun _ _ => rfl⟩
          have HR9 : Hid (Row (wr.drewN nq) _ 46 #[.string ⟨#[bn]⟩, .int .i64 sz, .int .i64 pr]) := HR2.out
          clear HO2 HT2 HB2 HR2 e1 e2
          generalize wr.drewN nq = w9 at *
          have hz9 := HB9.out.size
          cases hcb : ch == bn with
          | false =>
            rw [hcb] at HNX
            have HP : Hid (pre k (j + 1) = pre k j) := HNX.out
            go_wp2
            go_roundw
            case rel => exact ⟨j + 1, by omega, by go_num, by rw [HP.out]; exact HO9, HT9, HD2, HB9, HR9, HN2⟩
            case measure => simp [intOf]; omega
          | true =>
            rw [hcb] at HNX
            have HP : Hid (pre k (j + 1) = pre k j ++ [(j : Int)]) := HNX.out
            have HT6 : Hid (Si.OwnInts (w9.alloc (.cells #[.int .i64 j] 3)) w.heap.size (.slice A5 (pre k j).length cap5) (pre k j)) := HO9.out.below ((Below.refl _ w9).alloc (Nat.le_refl _) _)
            have HN6 : Hid ((w9.alloc (.cells #[.int .i64 j] 3)).cell? ⟨w9.heap.size, 0, none⟩ = some (.int .i64 j)) := Row.cell (Row.new w9 3 #[.int .i64 j]) 0
            have HT10 : Hid (OwnTexts (w9.alloc (.cells #[.int .i64 j] 3)) w.heap.size (.slice (some ⟨b2, o2, none⟩) ts.length cap3) ts) := HT9.out.below ((Below.refl _ w9).alloc (Nat.le_refl _) _)
            have HR10 : Hid (Row (w9.alloc (.cells #[.int .i64 j] 3)) _ 46 #[.string ⟨#[bn]⟩, .int .i64 sz, .int .i64 pr]) := HR9.out.below ((Below.refl _ w9).alloc (Nat.le_refl _) _) HR9.out.lt
            have HB10 : Hid (Below w.heap.size w (w9.alloc (.cells #[.int .i64 j] 3))) := HB9.out.alloc hz9 _
            clear HO9 HT9 HB9 HR9 HNX
            go_wp2_with (at_builtin; go_loud (refine wp_appJ11 rfl (.tmp 41) (.tmp 43) rfl w.heap.size _ (pre k j) _ rfl HT6.out hpl (by simp; omega) w9.heap.size (j : Int) rfl HN6.out ?_); intro v7 w7 ho7 hb7 hk7 ha7; have HO7 := Lib.hid ho7; have HB7 := Lib.hid (HB10.out.trans hb7); have HT7 := Lib.hid (own_keep11 HT10.out fun b hb => hk7 b (own_lt HT10.out hb).2 fun h => HD2.out b h hb); have HR7 := Lib.hid ((hk7 _ HR10.out.lt HN2.out.1).trans HR10.out); have HD7 := Lib.hid (fun b (h : v7.ownBlock = some b) (hb : (Value.slice (some ⟨b2, o2, none⟩) ts.length cap3).ownBlock = some b) => ha7 b (own_lt HT10.out hb).2 (fun h2 => HD2.out b h2 hb) h); have HN7 := Lib.hid (And.intro (ha7 _ HR10.out.lt HN2.out.1) HN2.out.2); clear ho7 hb7 hk7 ha7 HN6 HT6 HT10 HR10 HB10)
            rw [← HP.out] at HO7
            go_roundw
            case rel => exact ⟨j + 1, by omega, by go_num, HO7, HT7, HD7, HB7, HR7, HN7⟩
            case measure => simp [intOf]; omega
        · have hje : j = ts.length := by omega
          subst hje
          rw [← HROW.out] at HO2
          go_wp2
          go_roundw
          case rel => exact ⟨k + 1, by omega, by go_num, HO2, HT2, HD2, HB2⟩
          case measure => simp [intOf]; omega
    · have hke : k = l.length := by omega
      subst hke
      rw [HALL.out] at HO
      go_wp2
      go_ret2
      exact ⟨_, rfl, HO.out, HB.out⟩

end Go.Proofs.Ytifkmehnikfihaa
/- The walk of the law FnExactSortedOrder. -/
namespace Go.Proofs.Ytifkmehnikfihaa
open Go.RowKit

theorem sortRes_le (l : List Seg) (t : ByteArray) : (sortRes l t).length ≤ 80 := by
  unfold sortRes
  cases hR : traceB l t.data.toList with
  | none => exact Nat.zero_le _
  | some f =>
    show ((sortNat l (headsB f)).map _).length ≤ 80
    obtain ⟨hv, -, -⟩ := traceB_some hR
    have hn : ((sortNat l (headsB f)).map fun (k : Nat) => (k : Int)).Nodup := by
      rw [List.Nodup, List.pairwise_map]
      exact (sortNat_sorted hv).imp fun {x y} h e => by
        have : x = y := by omega
        subst this; exact h.irrefl
    have h1 := nodup_le f.len _ hn (fun x hx => by
      obtain ⟨y, hy, rfl⟩ := List.mem_map.1 hx
      have := (sortNat_mem hv (headsB_all f (traceB_all hR)) y).1 hy
      rw [headsB_len] at this
      omega)
    have h3 := (traceB_size hR).1
    have h4 := f.len_size
    omega

set_option maxRecDepth 100000 in
set_option maxHeartbeats 4000000 in
theorem lawSortedOrder_any (A : Option Addr) (l : List Seg) (c : Nat) (s : ByteArray) (w : World) (hw : Segs w w.heap.size A l) (hl : l.length ≤ maxLen) (hn : Short l) (hsz : s.size ≤ maxLen) :
    Calls Try.prog 5 #[.slice A l.length c, .string s] w fun e w' => e = .returned (.bool true) ∧ Below w.heap.size w w' := by
  have HW : Hid (Segs w w.heap.size A l) := hw
  clear hw
  unfold maxLen at hsz
  by_cases hbigs : 1048576 < s.size
  · go_enter Try.func5, Try.ntmps5
    go_wp2
    go_ret
    exact ⟨rfl, Below.refl _ _⟩
  by_cases hs : sizeLeft l < 0
  · go_enter Try.func5, Try.ntmps5
    go_wp2_with fail
    refine (szSegmentS_any _ _ _ _ HW.out hl hn).mono ?_
    rintro e w1 ⟨rfl, hb1⟩
    go_wp2
    go_ret
    exact ⟨rfl, hb1⟩
  · have hlen := sizeLeft_len hs
    have hst := sortRes_le l s
    have hlm : l.length ≤ 9223372036854775807 := Nat.le_trans hlen (by decide)
    have HSP := Lib.hid (fun A c w h => specSortedOrder_any A l c s w h hlen hn (Nat.le_of_not_lt hbigs))
    have HIM := Lib.hid (fun A w h => implSortedOrder_any A l l.length s w h hlen (Nat.le_refl _) hlm hn (Nat.le_of_not_lt hbigs))
    unfold SortPost at HSP HIM
    go_enter Try.func5, Try.ntmps5
    go_wp2_with fail
    refine (szSegmentS_any _ _ _ _ HW.out hl hn).mono ?_
    rintro e w1 ⟨rfl, hb1⟩
    have hs1 := (HW.out.below hb1).more hb1.size
    have HB1 : Hid (Below w.heap.size w w1) := hb1
    clear hb1
    generalize sizeLeft l = lft at *
    go_wp2_with fail
    refine (toSegmentS_any _ _ _ _ hs1 hlen).mono ?_
    rintro e w2 ⟨rfl, hb2, hx2⟩
    have HB2 : Hid (Below w.heap.size w w2) := HB1.out.trans (hb2.mono HB1.out.size)
    have HX2 := Lib.hid hx2
    clear hb2 hs1 hx2 HB1
    generalize sortRes l s = ts at *
    generalize (traceB l s.data.toList).isSome = d at *
    go_wp2_with fail
    refine (HSP.out _ _ _ HX2.out).mono ?_
    rintro e w3 ⟨v0, rfl, ho3, hb3⟩
    obtain ⟨A0, cap0, rfl, -⟩ := Si.intsForm ho3
    have HB3 : Hid (Below w.heap.size w w3) := HB2.out.trans (hb3.mono HB2.out.size)
    have HO3 : Hid (Si.OwnInts w3 w2.heap.size (.slice A0 ts.length cap0) ts) := ho3
    have HS3 : Hid (Segs w3 w3.heap.size A l) := (HW.out.below HB3.out).more HB3.out.size
    clear hb3 ho3 HX2 HSP
    go_wp2_with fail
    refine (St.toSegmentS_row _ _ _ _ HS3.out hlen).mono ?_
    rintro e w4 ⟨rfl, hb4, hx4, cs, hr4, hcs⟩
    have HB4 : Hid (Below w.heap.size w w4) := HB3.out.trans (hb4.mono HB3.out.size)
    have HO4 : Hid (Si.OwnInts w4 w2.heap.size (.slice A0 ts.length cap0) ts) := HO3.out.below hb4
    have HL4 : Hid (∀ g, (Value.slice A0 ts.length cap0).ownBlock = some g → g < w3.heap.size) := fun g hg => (World.ownsRow.lt HO3.out g hg).2
    have HX4 := Lib.hid hx4
    have HR4 := Lib.hid hr4
    have HCS := Lib.hid hcs
    have HZ4 : Hid (w3.heap.size < w4.heap.size) := hr4.lt
    clear hb4 hx4 hr4 hcs HS3 HO3
    go_wp2_with fail
    refine (HIM.out _ _ HX4.out).mono ?_
    rintro e w5 ⟨v1, rfl, ho5, hb5⟩
    obtain ⟨A1, cap1, rfl, hf5⟩ := Si.intsForm ho5
    have HB5 : Hid (Below w.heap.size w w5) := HB4.out.trans (hb5.mono HB4.out.size)
    have HO5 : Hid (Si.OwnInts w5 w2.heap.size (.slice A0 ts.length cap0) ts) := HO4.out.below hb5
    have HP5 : Hid (Si.OwnInts w5 w4.heap.size (.slice A1 ts.length cap1) ts) := ho5
    have HR5 : Hid (Row w5 w3.heap.size 46 cs) := HR4.out.below hb5 HZ4.out
    have HX5 : Hid (Segs w5 w5.heap.size (some ⟨w3.heap.size, 0, none⟩) l) := (HX4.out.below hb5).more hb5.size
    have HZ5 : Hid (w4.heap.size ≤ w5.heap.size) := hb5.size
    clear hf5 hb5 ho5 HX4 HR4 HO4
    go_wp2_with fail
    refine (Si.eqIntS_same A1 A0 ts cap1 cap0 w5 (Si.intsOf HP5.out) (Si.intsOf HO5.out) (by omega)).mono ?_
    rintro e w6 ⟨rfl, hb6⟩
    have HB6 : Hid (Below w.heap.size w w6) := HB5.out.trans (hb6.mono HB5.out.size)
    have HO6 : Hid (Si.OwnInts w6 w2.heap.size (.slice A0 ts.length cap0) ts) := HO5.out.below hb6
    have HP6 : Hid (Si.OwnInts w6 w4.heap.size (.slice A1 ts.length cap1) ts) := HP5.out.below hb6
    have HR6 : Hid (Row w6 w3.heap.size 46 cs) := HR5.out.below hb6 HR5.out.lt
    have HX6 : Hid (Segs w6 w6.heap.size (some ⟨w3.heap.size, 0, none⟩) l) := (HX5.out.below hb6).more hb6.size
    have HS6 : Hid (Segs w6 w6.heap.size A l) := (HW.out.below HB6.out).more HB6.out.size
    clear hb6 HB5 HO5 HP5 HR5 HX5 HZ5
    go_wp2_with fail
    refine (toSegmentS_any _ _ _ _ HS6.out hlen).mono ?_
    rintro e w7 ⟨rfl, hb7, hx7⟩
    have HB7 : Hid (Below w.heap.size w w7) := HB6.out.trans (hb7.mono HB6.out.size)
    have HO7 : Hid (Si.OwnInts w7 w2.heap.size (.slice A0 ts.length cap0) ts) := HO6.out.below hb7
    have HP7 : Hid (Si.OwnInts w7 w4.heap.size (.slice A1 ts.length cap1) ts) := HP6.out.below hb7
    have HR7 : Hid (Row w7 w3.heap.size 46 cs) := HR6.out.below hb7 HR6.out.lt
    have HX7 : Hid (Segs w7 w7.heap.size (some ⟨w3.heap.size, 0, none⟩) l) := (HX6.out.below hb7).more hb7.size
    have HY7 := Lib.hid hx7
    clear hb7 hx7 HB6 HO6 HP6 HR6 HX6 HS6
    go_wp2_with fail
    refine (eqSegmentS_same _ _ _ _ _ _ HX7.out HY7.out hlen).mono ?_
    rintro e w8 ⟨rfl, hb8⟩
    have HB8 : Hid (Below w.heap.size w w8) := HB7.out.trans (hb8.mono HB7.out.size)
    have HO8 : Hid (Si.OwnInts w8 w2.heap.size (.slice A0 ts.length cap0) ts) := HO7.out.below hb8
    have HP8 : Hid (Si.OwnInts w8 w4.heap.size (.slice A1 ts.length cap1) ts) := HP7.out.below hb8
    have HR8 : Hid (Row w8 w3.heap.size 46 cs) := HR7.out.below hb8 HR7.out.lt
    clear hb8 HB7 HO7 HP7 HR7 HX7 HY7
    go_wp2_with fail
    refine (mark1 w3.heap.size l.length l.length cs w8 HR8.out HCS.out hlen).mono ?_
    rintro e w9 ⟨rfl, hy9⟩
    have HB9 : Hid (Below w.heap.size w w9) := Only.below HB8.out hy9 HB8.out.size (fun k hk e => by have := HB3.out.size; omega)
    have HO9 : Hid (Si.OwnInts w9 w2.heap.size (.slice A0 ts.length cap0) ts) := Si.intsFar HO8.out hy9 (fun g hg e => by have := HL4.out g hg; omega)
    have HP9 : Hid (Si.OwnInts w9 w4.heap.size (.slice A1 ts.length cap1) ts) := Si.intsFar HP8.out hy9 (fun g hg e => by have := (World.ownsRow.lt HP8.out g hg).1; have := HZ4.out; omega)
    clear hy9 HB8 HO8 HP8 HR8 HCS
    have hq1 : ¬ ((1 + 3 * l.length : Nat) : Int) < 0 := by omega
    have hq0 : (0 : Int) ≤ ((1 + 3 * l.length : Nat) : Int) := by omega
    generalize ((1 + 3 * l.length : Nat) : Int) = q at *
    go_wp2_with fail
    refine (Si.eqIntS_same A1 A0 ts cap1 cap0 w9 (Si.intsOf HP9.out) (Si.intsOf HO9.out) (by omega)).mono ?_
    rintro e w10 ⟨rfl, hb10⟩
    have HB10 : Hid (Below w.heap.size w w10) := HB9.out.trans (hb10.mono HB9.out.size)
    have HO10 : Hid (Si.OwnInts w10 w2.heap.size (.slice A0 ts.length cap0) ts) := HO9.out.below hb10
    have HP10 : Hid (Si.OwnInts w10 w4.heap.size (.slice A1 ts.length cap1) ts) := HP9.out.below hb10
    clear hb10 HB9 HO9 HP9
    go_wp2_with fail
    refine (imark1 _ _ ts w10 HP10.out (by omega)).mono ?_
    rintro e w11 ⟨rfl, ho11, hy11⟩
    have HB11 : Hid (Below w.heap.size w w11) := Only.below HB10.out hy11 HB10.out.size (fun k hk e => by have := (World.ownsRow.lt HP10.out k e).1; have := HB4.out.size; omega)
    have HO11 : Hid (Si.OwnInts w11 w2.heap.size (.slice A0 ts.length cap0) ts) := Si.intsFar HO10.out hy11 (fun g hg e => by have := HL4.out g hg; have := (World.ownsRow.lt HP10.out g e).1; have := HZ4.out; omega)
    have HM11 : Hid (Si.Ints w11 w11.heap.size A1 (Si.imarked ts 1 ts.length)) := Si.intsOf ho11
    clear ho11 hy11 HB10 HO10 HP10
    have hm1 : ¬ ((1 + ts.length : Nat) : Int) < 0 := by omega
    have hm0 : (0 : Int) ≤ ((1 + ts.length : Nat) : Int) := by omega
    have HH := Lib.hid (fun W h => iheld1 A1 ts.length cap1 ts W rfl h (by omega))
    have HMK := Lib.hid (fun W W' h hb => (Si.Ints.more (Si.Ints.below (w := W) (w' := W') (B := W.heap.size) (A := A1) (l := Si.imarked ts 1 ts.length) h hb) hb.size : Si.Ints W' W'.heap.size A1 (Si.imarked ts 1 ts.length)))
    generalize ((1 + ts.length : Nat) : Int) = m at *
    go_wp2_with fail
    refine Calls.mono (HH.out w11 HM11.out) ?_
    rintro e w12 ⟨rfl, hb12⟩
    have HB12 : Hid (Below w.heap.size w w12) := HB11.out.trans (hb12.mono HB11.out.size)
    have HO12 : Hid (Si.OwnInts w12 w2.heap.size (.slice A0 ts.length cap0) ts) := HO11.out.below hb12
    have HM12 : Hid (Si.Ints w12 w12.heap.size A1 (Si.imarked ts 1 ts.length)) := HMK.out w11 w12 HM11.out hb12
    have HS12 : Hid (Segs w12 w12.heap.size A l) := (HW.out.below HB12.out).more HB12.out.size
    clear hb12 HB11 HO11 HM11
    go_wp2_with fail
    refine (toSegmentS_any _ _ _ _ HS12.out hlen).mono ?_
    rintro e w13 ⟨rfl, hb13, hx13⟩
    have HB13 : Hid (Below w.heap.size w w13) := HB12.out.trans (hb13.mono HB12.out.size)
    have HO13 : Hid (Si.OwnInts w13 w2.heap.size (.slice A0 ts.length cap0) ts) := HO12.out.below hb13
    have HM13 : Hid (Si.Ints w13 w13.heap.size A1 (Si.imarked ts 1 ts.length)) := HMK.out w12 w13 HM12.out hb13
    have HX13 := Lib.hid hx13
    clear hb13 hx13 HB12 HO12 HM12 HS12
    go_wp2_with fail
    refine (HIM.out _ _ HX13.out).mono ?_
    rintro e w14 ⟨v2, rfl, ho14, hb14⟩
    obtain ⟨A2, cap2, rfl, hf14⟩ := Si.intsForm ho14
    have HB14 : Hid (Below w.heap.size w w14) := HB13.out.trans (hb14.mono HB13.out.size)
    have HO14 : Hid (Si.OwnInts w14 w2.heap.size (.slice A0 ts.length cap0) ts) := HO13.out.below hb14
    have HM14 : Hid (Si.Ints w14 w14.heap.size A1 (Si.imarked ts 1 ts.length)) := HMK.out w13 w14 HM13.out hb14
    have HF14 := Lib.hid hf14
    clear hb14 ho14 hf14 HB13 HO13 HM13 HX13
    go_wp2_with fail
    refine (Si.eqIntS_same A2 A0 ts cap2 cap0 w14 HF14.out (Si.intsOf HO14.out) (by omega)).mono ?_
    rintro e w15 ⟨rfl, hb15⟩
    have HB15 : Hid (Below w.heap.size w w15) := HB14.out.trans (hb15.mono HB14.out.size)
    have HM15 : Hid (Si.Ints w15 w15.heap.size A1 (Si.imarked ts 1 ts.length)) := HMK.out w14 w15 HM14.out hb15
    clear hb15 HB14 HO14 HM14 HF14
    go_wp2_with fail
    refine Calls.mono (HH.out w15 HM15.out) ?_
    rintro e w16 ⟨rfl, hb16⟩
    have HB16 : Hid (Below w.heap.size w w16) := HB15.out.trans (hb16.mono HB15.out.size)
    clear hb16 HB15 HM15
    go_wp2
    go_ret
    exact ⟨rfl, HB16.out⟩

end Go.Proofs.Ytifkmehnikfihaa
