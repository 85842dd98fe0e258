/- Joined: Bo. -/
import Derived.Test.YteokbgfiokbojaaGreatU20
import Derived.Test.YteokbgfiokbojaaGreatU12
import Derived.Sort.Walk0
import Derived.BigRegion
/- spec.l4Put: a text put into its place in a row of texts. -/
namespace Go.Proofs.YteokbgfiokbojaaGreat
open Go.RowKit

theorem txt_less (x y : Txt) : Op.bytesLess (strOf x).toList (strOf y).toList = decide (x < y) := by
  rw [bytesLess_eq, ByteArray.toList_eq, ByteArray.toList_eq]
  rfl
theorem txt_same (x y : Txt) : ((strOf x).toList == (strOf y).toList) = decide (x = y) := by
  rw [ByteArray.toList_eq, ByteArray.toList_eq]
  show (x == y) = _
  by_cases h : x = y
  · subst h; simp
  · rw [decide_eq_false h]; simpa using h
theorem tw_at {L : List Txt} {s : Txt} : ∀ {k : Nat}, k ≤ L.length → (∀ j, j < k → ∀ x, L[j]? = some x → x < s) → (∀ x, L[k]? = some x → ¬ x < s) → L.takeWhile (fun x => decide (x < s)) = L.take k ∧ L.dropWhile (fun x => decide (x < s)) = L.drop k := by
  induction L with
  | nil => intro k hk _ _; exact ⟨by simp, by simp⟩
  | cons y L ih =>
    intro k hk hlo hhi
    cases k with
    | zero =>
      have := hhi y rfl
      rw [List.takeWhile_cons, List.dropWhile_cons, if_neg (by simpa using this), if_neg (by simpa using this)]
      exact ⟨rfl, rfl⟩
    | succ k =>
      have h0 := hlo 0 (by omega) y rfl
      obtain ⟨h1, h2⟩ := ih (k := k) (by simpa using hk) (fun j hj x hx => hlo (j + 1) (by omega) x hx) (fun x hx => hhi x hx)
      rw [List.takeWhile_cons, List.dropWhile_cons, if_pos (by simpa using h0), if_pos (by simpa using h0), h1, h2]
      exact ⟨rfl, rfl⟩
theorem putB_at {L : List Txt} {s : Txt} {k : Nat} (hk : k ≤ L.length) (hlo : ∀ j, j < k → ∀ x, L[j]? = some x → x < s) (hhi : ∀ x, L[k]? = some x → ¬ x < s) :
    (L[k]? = some s → putB L s = L) ∧ (L[k]? ≠ some s → putB L s = L.take k ++ [s] ++ L.drop k) := by
  obtain ⟨h1, h2⟩ := tw_at hk hlo hhi
  have h3 : (L.drop k).head? = L[k]? := by rw [List.head?_drop]
  unfold putB
  rw [h1, h2, h3]
  constructor
  · intro h; rw [if_pos h]
  · intro h; rw [if_neg h]; simp

theorem oper_append_txt {w : World} {o : Oper} {a : Act} {K : Act → World → Prop} {Q : Exit → Act → World → Prop} (s x : Operand)
    (ho : o.op = .call { callee := .builtin .append, args := #[s, x], argTypes := #[27, 27] })
    (base n : Nat) (v : Value) (xs : List Value) (hs : a.eval s = v) (hown : w.ownsRow base 9 1 v n xs) (ad : Addr) (m c : Nat) (news : List Value) (hx : a.eval x = .slice (some ad) m c) (hl : news.length = m)
    (hnews : ∀ j y, news[j]? = some y → w.cell? (ad.add j) = some y) (h1 : ∀ y ∈ news, y.oneCell' = true) (hn : n + m ≤ 1000) (hbase : base ≤ w.heap.size)
    (h : ∀ v' w', w'.ownsRow base 9 1 v' (n + m) (xs ++ news) → w.grownBy w' v.ownBlock → (v' = .slice none 0 0 ↔ v = .slice none 0 0 ∧ m = 0) → (v'.ownBlock = v.ownBlock ∨ v'.ownBlock = some w.heap.size) → K (a.put o.dst v') w') :
    o.wp Tryz.prog a w K Q := by
  obtain ⟨i0, hi, hz0, hz1, hz2⟩ := info_parts info_str
  obtain ⟨v', w', hr, h2, h3, h4, h5⟩ := run_append_own_at (P := Tryz.prog) w base 27 o.type 9 i0 (.string ByteArray.empty) 1 16 Tryz.underlying27 hi hz0 hz1 hz2 rfl (by decide) v n xs hown ad m c news (by rw [hl, Nat.mul_one]) hnews h1 (by unfold maxLen; omega) (by omega) hbase
  unfold Oper.wp
  simp [execOp, ho, resolve, invoke, builtin, hs, hx, hr, Result.andThen]
  exact h v' w' h2 h3 h4 h5

theorem sl_ite {P : Prop} [Decidable P] (a b : Addr) (m c : Nat) : Value.slice (if P then some a else some b) m c = .slice (some (if P then a else b)) m c := by split <;> rfl
def txtV (x : Txt) : Value := .string (strOf x)
theorem cell_block {W W' : World} {b : Nat} (h : W'.heap[b]? = W.heap[b]?) : W'.cell? ⟨b, 0, none⟩ = W.cell? ⟨b, 0, none⟩ := by
  simp only [World.cell?, h]
theorem cell_new0 (W : World) (u : Value) (t : TypeId) : (W.alloc (.cells #[u] t)).cell? ⟨W.heap.size, 0, none⟩ = some u := by
  have h := cell_one_new W u t 0 u rfl
  rw [WideShapes.add_plain] at h
  exact h
def PutPost (w : World) (B : Nat) (L : List Txt) (e : Ending) (w' : World) : Prop := ∃ v, e = .returned v ∧ SolidTexts w' B v (L.map strOf) ∧ Below w.heap.size w w'

set_option maxRecDepth 100000 in
set_option maxHeartbeats 4000000 in
theorem l4Put_any (B : Nat) (v : Value) (L : List Txt) (s : Txt) (w : World) (hown : SolidTexts w B v (L.map strOf)) (hB : B ≤ w.heap.size) (hL : L.length ≤ 200) :
    Calls Tryz.prog 22 #[v, .string (strOf s)] w (PutPost w B (putB L s)) := by
  obtain ⟨g, cap, rfl⟩ := hown.form
  have HT := Lib.hid hown
  have hcap : L.length ≤ cap := by
    rcases hown.1.2 with ⟨h0, _⟩ | ⟨g', cap', cur, e, _, _, h1, _⟩
    · cases h0
    · injection e with e1 e2 e3
      rw [e3]
      simpa using h1
  have hcapm : cap ≤ maxLen := by
    rcases hown.1.2 with ⟨h0, _⟩ | ⟨g', cap', cur, e, _, _, h1, h2, _⟩
    · cases h0
    · injection e with e1 e2 e3
      rw [e3]
      exact h2
  unfold maxLen at hcapm
  have hlen : (L.map strOf).length = L.length := List.length_map _
  rw [hlen]
  have hgl : g < w.heap.size := (World.ownsRow.lt hown.1 g rfl).2
  have HCELL : Hid (∀ W, Below w.heap.size w W → ∀ (j : Nat) (x : Txt), L[j]? = some x → W.cell? ⟨g, j, none⟩ = some (.string (strOf x))) := by
    show ∀ W, _
    intro W hb j x hj
    rw [hb.cell (p := ⟨g, j, none⟩) hgl]
    have h1 : (L.map strOf)[j]? = some (strOf x) := by rw [List.getElem?_map, hj]; rfl
    have h2 := hown.1
    rw [hlen] at h2
    have := St.textsCell (ts := L.map strOf) hown.1 h1
    exact this
  have HLE := Lib.hid (fun x => txt_less x s)
  have HEQ := Lib.hid (fun x => txt_same x s)
  clear hown
  go_enter Tryz.func22, Tryz.ntmps22
  go_wp2
  go_loop [5] (fun i => ∃ k : Nat, k ≤ L.length ∧ i = .int .i64 k ∧ Hid (∀ j, j < k → ∀ x, L[j]? = some x → x < s)) (fun i => L.length - (intOf i).toNat)
  case atStart => exact ⟨0, Nat.zero_le _, rfl, fun j hj => absurd hj (Nat.not_lt_zero _)⟩
  case round =>
    obtain ⟨k, hk, rfl, HLO⟩ := hrel
    have hk0 : (0 : Int) ≤ (k : Int) := Int.natCast_nonneg _
    by_cases hlt : k < L.length
    · have hlt' : (k : Int) < (L.length : Int) := by omega
      have hx : L[k]? = some L[k] := List.getElem?_eq_getElem hlt
      have c0 := HCELL.out w (Below.refl _ _) k _ hx
      have HX := Lib.hid hx
      have hle := HLE.out L[k]
      have heq := HEQ.out L[k]
      clear hx
      generalize L[k] = x at *
      by_cases hls : x < s
      · have HLO1 : Hid (∀ j, j < k + 1 → ∀ x, L[j]? = some x → x < s) := by
          show ∀ j, _
          intro j hj y hy
          by_cases hjk : j = k
          · subst hjk
            rw [HX.out] at hy
            injection hy with hy
            subst hy
            exact hls
          · exact HLO.out j (by omega) y hy
        rw [decide_eq_true hls] at hle
        clear heq
        go_wp2
        go_round
        case rel => exact ⟨k + 1, by omega, by go_num, HLO1⟩
        case measure => simp [intOf]; omega
      · have hput := putB_at (L := L) (s := s) (k := k) hk HLO.out (fun y hy => by rw [HX.out] at hy; injection hy with hy; subst hy; exact hls)
        rw [decide_eq_false hls] at hle
        by_cases hes : x = s
        · have HP : Hid (putB L s = L) := hput.1 (by rw [HX.out, hes])
          rw [decide_eq_true hes] at heq
          clear hput hes
          go_wp2
          go_ret
          exact ⟨_, rfl, by rw [HP.out, ← hlen]; exact HT.out, Below.refl _ _⟩
        · have HP : Hid (putB L s = L.take k ++ [s] ++ L.drop k) := hput.2 (by rw [HX.out]; intro h; injection h with h; exact hes h)
          rw [decide_eq_false hes] at heq
          clear hput hes hls HX HLO HT HLE HEQ
          have hkn : k + (L.length - k) = L.length := by omega
          have hkc : (k : Int) ≤ (cap : Int) := by omega
          have hmx : Tryz.prog.follows .mixedOrders = true := by kernel_rfl
          have HN1 : Hid (∀ W, Below w.heap.size w W → ∀ j u, ((L.take k).map txtV)[j]? = some u → W.cell? ((⟨g, 0, none⟩ : Addr).add j) = some u) := by
            show ∀ W, _
            intro W hb j u hj
            rw [List.getElem?_map, Option.map_eq_some_iff] at hj
            obtain ⟨x, hx, rfl⟩ := hj
            rw [WideShapes.add_plain, Nat.zero_add]
            refine HCELL.out W hb j x ?_
            rw [List.getElem?_take] at hx
            split at hx
            · exact hx
            · cases hx
          have HN2 : Hid (∀ W, Below w.heap.size w W → ∀ ad : Addr, (cap = k ∨ ad = ⟨g, k, none⟩) → ∀ j u, ((L.drop k).map txtV)[j]? = some u → W.cell? (ad.add j) = some u) := by
            show ∀ W, _
            intro W hb ad had j u hj
            rw [List.getElem?_map, Option.map_eq_some_iff] at hj
            obtain ⟨x, hx, rfl⟩ := hj
            rw [List.getElem?_drop] at hx
            rcases had with hck | rfl
            · have := (List.getElem?_eq_some_iff.1 hx).1
              omega
            · rw [WideShapes.add_plain]
              exact HCELL.out W hb (k + j) x hx
          have HFIN : Hid (∀ (v5 : Value) (W5 : World), W5.ownsRow w.heap.size 9 1 v5 (k + 1 + (L.length - k)) ((L.take k).map txtV ++ [.string (strOf s)] ++ (L.drop k).map txtV) → v5 ≠ .slice none 0 0 → Below w.heap.size w W5 → PutPost w B (putB L s) (.returned v5) W5) := by
            show ∀ (v5 : Value) (W5 : World), _
            intro v5 W5 h1 h2 h3
            refine ⟨v5, rfl, ⟨?_, h2⟩, h3⟩
            rw [HP.out]
            unfold OwnTexts
            have e1 : ((L.take k ++ [s] ++ L.drop k).map strOf).length = k + 1 + (L.length - k) := by simp <;> omega
            have e2 : ((L.take k ++ [s] ++ L.drop k).map strOf).map Value.string = (L.take k).map txtV ++ [.string (strOf s)] ++ (L.drop k).map txtV := by rw [List.map_map, List.map_append, List.map_append]; rfl
            rw [e1, e2]
            exact own_low h1 hB
          have hl1 : ((L.take k).map txtV).length = k := by rw [List.length_map, List.length_take]; omega
          have hl2 : ((L.drop k).map txtV).length = L.length - k := by rw [List.length_map, List.length_drop]
          have hone1 : ∀ y ∈ (L.take k).map txtV, y.oneCell' = true := fun y hy => by obtain ⟨x, _, rfl⟩ := List.mem_map.1 hy; rfl
          have hone2 : ∀ y ∈ (L.drop k).map txtV, y.oneCell' = true := fun y hy => by obtain ⟨x, _, rfl⟩ := List.mem_map.1 hy; rfl
          have HL1 := Lib.hid hl1
          have HL2 := Lib.hid hl2
          have HO1 := Lib.hid hone1
          have HO2 := Lib.hid hone2
          clear hl1 hl2 hone1 hone2 HCELL HP hlen
          generalize (L.take k).map txtV = xs1 at *
          generalize (L.drop k).map txtV = xs2 at *
          go_wp2_with fail
          refine wp_region_any (by assumption) ?_
          change wpAny _ _ _ _ _ _ _ (World.drew _)
          have HB : Hid (Below w.heap.size w w.drew) := (Below.refl _ w).drew
          generalize w.drew = Wc at *
          refine wpAny_take (i := 1) (v := ?_) rfl (by kernel_rfl) (by kernel_rfl) (by kernel_rfl) (fun _ _ _ h => h) (Or.inl ⟨by rfl, by (intro w; go_simp; try with_reducible rfl)⟩) ?_
          refine wpAny_take (i := 2) (v := ?_) rfl (by kernel_rfl) (by kernel_rfl) (by kernel_rfl) (fun _ _ _ h => h) (Or.inl ⟨by rfl, by (intro w; go_simp; try with_reducible rfl)⟩) ?_
          refine wpAny_take (i := 3) (v := ?_) rfl (by kernel_rfl) (by kernel_rfl) (by kernel_rfl) (fun _ _ _ h => h) (Or.inl ⟨by rfl, by (intro w; go_simp; try with_reducible rfl)⟩) ?_
          refine wpAny_take (i := 5) (v := ?_) rfl (by kernel_rfl) (by kernel_rfl) (by kernel_rfl) (fun _ _ _ h => h) (Or.inl ⟨by rfl, by (intro w; go_simp; try with_reducible rfl)⟩) ?_
          refine wpAny_take (i := 8) (v := ?_) rfl (by kernel_rfl) (by kernel_rfl) (by kernel_rfl) (fun _ _ _ h => h) (Or.inl ⟨by rfl, by (intro w; go_simp; try with_reducible rfl)⟩) ?_
          refine wpAny_take (i := 9) (v := ?_) rfl (by kernel_rfl) (by kernel_rfl) (by kernel_rfl) (fun _ _ _ h => h) (Or.inl ⟨by rfl, by (intro w; go_simp; try with_reducible rfl)⟩) ?_
          refine wpAny_take (i := 10) (v := ?_) rfl (by kernel_rfl) (by kernel_rfl) (by kernel_rfl) (fun _ _ _ h => h) (Or.inl ⟨by rfl, by (intro w; go_simp; try with_reducible rfl)⟩) ?_
          refine wpAny_ready (rs := [0, 6]) (by kernel_rfl) (by simp) ?_
          refine AllReady.cons rfl (fun K hK => ?_) (AllReady.cons rfl (fun K hK => ?_) AllReady.nil)
          · go_simp
            refine hK _ _ ?_
            clear hK K
            have HR' : Hid ((Wc.alloc (.cells #[] 9)).ownsRow w.heap.size 9 1 (.slice (some ⟨Wc.heap.size, 0, none⟩) 0 0) 0 []) := World.ownsRow_lit Wc #[] 0 HB.out.size (by simp [maxLen]) rfl
            have HB' : Hid (Below w.heap.size w (Wc.alloc (.cells #[] 9))) := HB.out.alloc HB.out.size _
            have HG' : Hid (Wc.heap.size < (Wc.alloc (.cells #[] 9)).heap.size) := by show _ < _; simp
            clear HB 
            generalize hg3 : Wc.heap.size = g3 at *
            generalize Wc.alloc (.cells #[] 9) = W3 at *
            clear hg3
            clear Wc
            obtain ⟨Wc, hWW⟩ : ∃ X, X = W3 := ⟨_, rfl⟩
            subst hWW
            have HB := HB'
            clear HB'
            have HR := HR'
            clear HR'
            have HG := HG'
            clear HG'
            refine wpAny_ready (rs := [4, 6]) (by kernel_rfl) (by simp) ?_
            refine AllReady.cons rfl (fun K hK => ?_) (AllReady.cons rfl (fun K hK => ?_) AllReady.nil)
            · rw [if_pos (by rfl)]
              refine oper_append_txt _ _ rfl w.heap.size 0 (.slice (some ⟨g3, 0, none⟩) 0 0) [] rfl HR.out ⟨g, 0, none⟩ k cap xs1 rfl HL1.out (HN1.out Wc HB.out) HO1.out (by omega) HB.out.size ?_
              intro v7 W7 hown7 hgrow7 hnil7 hblk7
              refine hK _ _ ?_
              clear hK K
              rw [Nat.zero_add, List.nil_append] at hown7
              have HR7 := Lib.hid hown7
              have HV7 : Hid (v7 ≠ .slice none 0 0) := fun h => by have := (hnil7.1 h).1; cases this
              have HB7 : Hid (Below w.heap.size w W7) := HB.out.grown hgrow7 HB.out.size (fun q hq => (World.ownsRow.lt HR.out q hq).1)
              clear hown7 hgrow7 hnil7 hblk7 HR HB HG 
              refine wpAny_ready (rs := [6]) (by kernel_rfl) (by simp) ?_
              refine AllReady.cons rfl (fun K hK => ?_) AllReady.nil
              go_simp
              refine hK _ _ ?_
              clear hK K
              have HS' : Hid ((W7.alloc (.cells #[.string (strOf s)] 9)).cell? ⟨W7.heap.size, 0, none⟩ = some (.string (strOf s)) ∧ v7.ownBlock ≠ some W7.heap.size) := ⟨cell_new0 _ _ _, fun e => by have := (World.ownsRow.lt HR7.out _ e).2; omega⟩
              have HB' : Hid (Below w.heap.size w (W7.alloc (.cells #[.string (strOf s)] 9))) := HB7.out.alloc HB7.out.size _
              have HR' : Hid ((W7.alloc (.cells #[.string (strOf s)] 9)).ownsRow w.heap.size 9 1 v7 k xs1) := HR7.out.alloc _
              clear HB7 HR7
              generalize hgs : W7.heap.size = gs at *
              generalize W7.alloc (.cells #[.string (strOf s)] 9) = W3 at *
              clear hgs
              clear W7
              obtain ⟨W7, hWW⟩ : ∃ X, X = W3 := ⟨_, rfl⟩
              subst hWW
              have HB7 := HB'
              clear HB'
              have HS7 := HS'
              clear HS'
              have HR7 := HR'
              clear HR'
              refine wpAny_ready (rs := [7]) (by kernel_rfl) (by simp) ?_
              refine AllReady.cons rfl (fun K hK => ?_) AllReady.nil
              rw [if_pos (by rfl)]
              refine oper_append_txt _ _ rfl w.heap.size k v7 xs1 rfl HR7.out ⟨gs, 0, none⟩ 1 1 [.string (strOf s)] rfl rfl (fun j u hj => by cases j with | zero => (injection hj with hj; subst hj; exact HS7.out.1) | succ j => cases hj) (by simp [Value.oneCell']) (by omega) HB7.out.size ?_
              intro v8 W8 hown8 hgrow8 hnil8 _
              refine hK _ _ ?_
              clear hK K
              have HR8 := Lib.hid hown8
              have HB8 : Hid (Below w.heap.size w W8) := HB7.out.grown hgrow8 HB7.out.size (fun q hq => (World.ownsRow.lt HR7.out q hq).1)
              have HV8 : Hid (v8 ≠ .slice none 0 0) := fun h => by have := (hnil8.1 h).2; cases this
              clear hown8 hgrow8 hnil8 HR7 HB7 HS7 HV7
              refine wpAny_ready (rs := [11]) (by kernel_rfl) (by simp) ?_
              refine AllReady.cons rfl (fun K hK => ?_) AllReady.nil
              rw [if_pos (by rfl)]
              refine oper_append_txt _ _ rfl w.heap.size (k + 1) v8 (xs1 ++ [.string (strOf s)]) rfl HR8.out (if cap = k then ⟨g, 0, none⟩ else ⟨g, k, none⟩) (L.length - k) (cap - k) xs2 (sl_ite (P := cap = k) ⟨g, 0, none⟩ ⟨g, k, none⟩ (L.length - k) (cap - k)) HL2.out (HN2.out W8 HB8.out _ (by by_cases hck : cap = k; exact .inl hck; exact .inr (if_neg hck))) HO2.out (by omega) HB8.out.size ?_
              intro v9 W9 hown9 hgrow9 hnil9 _
              refine hK _ _ ?_
              clear hK K
              have HB9 : Hid (Below w.heap.size w W9) := HB8.out.grown hgrow9 HB8.out.size (fun q hq => (World.ownsRow.lt HR8.out q hq).1)
              have HF := Lib.hid (HFIN.out v9 W9 hown9 (fun h => HV8.out (hnil9.1 h).1) HB9.out)
              clear hown9 hgrow9 hnil9 HR8 HB8 HV8 HFIN HN1 HN2 HL1 HL2 HO1 HO2
              refine wpAny_ready (rs := [12]) (by kernel_rfl) (by simp) ?_
              refine AllReady.cons rfl (fun K hK => ?_) AllReady.nil
              go_simp
              refine hK _ _ ?_
              clear hK K
              refine wpAny_done (by kernel_rfl) ?_ _
              go_wp2
              all_goals go_ret
              all_goals exact HF.out
            · go_simp
              refine hK _ _ ?_
              clear hK K
              have HS' : Hid ((Wc.alloc (.cells #[.string (strOf s)] 9)).cell? ⟨Wc.heap.size, 0, none⟩ = some (.string (strOf s)) ∧ Wc.heap.size < (Wc.alloc (.cells #[.string (strOf s)] 9)).heap.size ∧ w.heap.size ≤ Wc.heap.size ∧ g3 ≠ Wc.heap.size) := ⟨cell_new0 _ _ _, by simp, HB.out.size, fun e => by have := HG.out; omega⟩
              have HB' : Hid (Below w.heap.size w (Wc.alloc (.cells #[.string (strOf s)] 9))) := HB.out.alloc HB.out.size _
              have HR' : Hid ((Wc.alloc (.cells #[.string (strOf s)] 9)).ownsRow w.heap.size 9 1 (.slice (some ⟨g3, 0, none⟩) 0 0) 0 []) := HR.out.alloc _
              clear HB HR HG
              generalize hgs : Wc.heap.size = gs at *
              generalize Wc.alloc (.cells #[.string (strOf s)] 9) = W3 at *
              clear hgs
              clear Wc
              obtain ⟨Wc, hWW⟩ : ∃ X, X = W3 := ⟨_, rfl⟩
              subst hWW
              have HB := HB'
              clear HB'
              have HS := HS'
              clear HS'
              have HR := HR'
              clear HR'
              refine wpAny_ready (rs := [4]) (by kernel_rfl) (by simp) ?_
              refine AllReady.cons rfl (fun K hK => ?_) AllReady.nil
              rw [if_pos (by rfl)]
              refine oper_append_txt _ _ rfl w.heap.size 0 (.slice (some ⟨g3, 0, none⟩) 0 0) [] rfl HR.out ⟨g, 0, none⟩ k cap xs1 rfl HL1.out (HN1.out Wc HB.out) HO1.out (by omega) HB.out.size ?_
              intro v7 W7 hown7 hgrow7 hnil7 hblk7
              refine hK _ _ ?_
              clear hK K
              rw [Nat.zero_add, List.nil_append] at hown7
              have HR7 := Lib.hid hown7
              have HV7 : Hid (v7 ≠ .slice none 0 0) := fun h => by have := (hnil7.1 h).1; cases this
              have HB7 : Hid (Below w.heap.size w W7) := HB.out.grown hgrow7 HB.out.size (fun q hq => (World.ownsRow.lt HR.out q hq).1)
              have HS7 : Hid (W7.cell? ⟨gs, 0, none⟩ = some (.string (strOf s)) ∧ v7.ownBlock ≠ some gs) := ⟨(cell_block (hgrow7.block gs HS.out.2.1 (fun e => by injection e with e; exact HS.out.2.2.2 e.symm))).trans HS.out.1, fun e => by rcases hblk7 with h | h <;> rw [e] at h <;> injection h with h <;> first | exact HS.out.2.2.2 h.symm | (have := HS.out.2.1; omega)⟩
              clear hown7 hgrow7 hnil7 hblk7 HR HB HS
              refine wpAny_ready (rs := [7]) (by kernel_rfl) (by simp) ?_
              refine AllReady.cons rfl (fun K hK => ?_) AllReady.nil
              rw [if_pos (by rfl)]
              refine oper_append_txt _ _ rfl w.heap.size k v7 xs1 rfl HR7.out ⟨gs, 0, none⟩ 1 1 [.string (strOf s)] rfl rfl (fun j u hj => by cases j with | zero => (injection hj with hj; subst hj; exact HS7.out.1) | succ j => cases hj) (by simp [Value.oneCell']) (by omega) HB7.out.size ?_
              intro v8 W8 hown8 hgrow8 hnil8 _
              refine hK _ _ ?_
              clear hK K
              have HR8 := Lib.hid hown8
              have HB8 : Hid (Below w.heap.size w W8) := HB7.out.grown hgrow8 HB7.out.size (fun q hq => (World.ownsRow.lt HR7.out q hq).1)
              have HV8 : Hid (v8 ≠ .slice none 0 0) := fun h => by have := (hnil8.1 h).2; cases this
              clear hown8 hgrow8 hnil8 HR7 HB7 HS7 HV7
              refine wpAny_ready (rs := [11]) (by kernel_rfl) (by simp) ?_
              refine AllReady.cons rfl (fun K hK => ?_) AllReady.nil
              rw [if_pos (by rfl)]
              refine oper_append_txt _ _ rfl w.heap.size (k + 1) v8 (xs1 ++ [.string (strOf s)]) rfl HR8.out (if cap = k then ⟨g, 0, none⟩ else ⟨g, k, none⟩) (L.length - k) (cap - k) xs2 (sl_ite (P := cap = k) ⟨g, 0, none⟩ ⟨g, k, none⟩ (L.length - k) (cap - k)) HL2.out (HN2.out W8 HB8.out _ (by by_cases hck : cap = k; exact .inl hck; exact .inr (if_neg hck))) HO2.out (by omega) HB8.out.size ?_
              intro v9 W9 hown9 hgrow9 hnil9 _
              refine hK _ _ ?_
              clear hK K
              have HB9 : Hid (Below w.heap.size w W9) := HB8.out.grown hgrow9 HB8.out.size (fun q hq => (World.ownsRow.lt HR8.out q hq).1)
              have HF := Lib.hid (HFIN.out v9 W9 hown9 (fun h => HV8.out (hnil9.1 h).1) HB9.out)
              clear hown9 hgrow9 hnil9 HR8 HB8 HV8 HFIN HN1 HN2 HL1 HL2 HO1 HO2
              refine wpAny_ready (rs := [12]) (by kernel_rfl) (by simp) ?_
              refine AllReady.cons rfl (fun K hK => ?_) AllReady.nil
              go_simp
              refine hK _ _ ?_
              clear hK K
              refine wpAny_done (by kernel_rfl) ?_ _
              go_wp2
              all_goals go_ret
              all_goals exact HF.out
          · go_simp
            refine hK _ _ ?_
            clear hK K
            have HS' : Hid ((Wc.alloc (.cells #[.string (strOf s)] 9)).cell? ⟨Wc.heap.size, 0, none⟩ = some (.string (strOf s)) ∧ Wc.heap.size < (Wc.alloc (.cells #[.string (strOf s)] 9)).heap.size ∧ w.heap.size ≤ Wc.heap.size) := ⟨cell_new0 _ _ _, by simp, HB.out.size⟩
            have HB' : Hid (Below w.heap.size w (Wc.alloc (.cells #[.string (strOf s)] 9))) := HB.out.alloc HB.out.size _
            clear HB
            generalize hgs : Wc.heap.size = gs at *
            generalize Wc.alloc (.cells #[.string (strOf s)] 9) = W3 at *
            clear hgs
            clear Wc
            obtain ⟨Wc, hWW⟩ : ∃ X, X = W3 := ⟨_, rfl⟩
            subst hWW
            have HB := HB'
            clear HB'
            have HS := HS'
            clear HS'
            refine wpAny_ready (rs := [0]) (by kernel_rfl) (by simp) ?_
            refine AllReady.cons rfl (fun K hK => ?_) AllReady.nil
            go_simp
            refine hK _ _ ?_
            clear hK K
            have HR' : Hid ((Wc.alloc (.cells #[] 9)).ownsRow w.heap.size 9 1 (.slice (some ⟨Wc.heap.size, 0, none⟩) 0 0) 0 []) := World.ownsRow_lit Wc #[] 0 HB.out.size (by simp [maxLen]) rfl
            have HB' : Hid (Below w.heap.size w (Wc.alloc (.cells #[] 9))) := HB.out.alloc HB.out.size _
            have HS' : Hid ((Wc.alloc (.cells #[] 9)).cell? ⟨gs, 0, none⟩ = some (.string (strOf s)) ∧ gs < Wc.heap.size ∧ w.heap.size ≤ gs) := ⟨(((Below.refl _ Wc).alloc (Nat.le_refl _) _).cell (p := ⟨gs, 0, none⟩) HS.out.2.1).trans HS.out.1, HS.out.2.1, HS.out.2.2⟩
            have HG' : Hid (Wc.heap.size < (Wc.alloc (.cells #[] 9)).heap.size) := by show _ < _; simp
            clear HB HS
            generalize hg3 : Wc.heap.size = g3 at *
            generalize Wc.alloc (.cells #[] 9) = W3 at *
            clear hg3
            clear Wc
            obtain ⟨Wc, hWW⟩ : ∃ X, X = W3 := ⟨_, rfl⟩
            subst hWW
            have HB := HB'
            clear HB'
            have HR := HR'
            clear HR'
            have HG := HG'
            clear HG'
            have HS := HS'
            clear HS'
            refine wpAny_ready (rs := [4]) (by kernel_rfl) (by simp) ?_
            refine AllReady.cons rfl (fun K hK => ?_) AllReady.nil
            rw [if_pos (by rfl)]
            refine oper_append_txt _ _ rfl w.heap.size 0 (.slice (some ⟨g3, 0, none⟩) 0 0) [] rfl HR.out ⟨g, 0, none⟩ k cap xs1 rfl HL1.out (HN1.out Wc HB.out) HO1.out (by omega) HB.out.size ?_
            intro v7 W7 hown7 hgrow7 hnil7 hblk7
            refine hK _ _ ?_
            clear hK K
            rw [Nat.zero_add, List.nil_append] at hown7
            have HR7 := Lib.hid hown7
            have HV7 : Hid (v7 ≠ .slice none 0 0) := fun h => by have := (hnil7.1 h).1; cases this
            have HB7 : Hid (Below w.heap.size w W7) := HB.out.grown hgrow7 HB.out.size (fun q hq => (World.ownsRow.lt HR.out q hq).1)
            have HS7 : Hid (W7.cell? ⟨gs, 0, none⟩ = some (.string (strOf s)) ∧ v7.ownBlock ≠ some gs) := ⟨(cell_block (hgrow7.block gs (by have := HS.out.2.1; have := HG.out; omega) (fun e => by injection e with e; have h2 : gs = g3 := e; have := HS.out.2.1; omega))).trans HS.out.1, fun e => Or.elim hblk7 (fun h => by rw [e] at h; injection h with h; have h2 : gs = g3 := h; have := HS.out.2.1; omega) (fun h => by rw [e] at h; injection h with h; have := HS.out.2.1; have := HG.out; omega)⟩
            clear hown7 hgrow7 hnil7 hblk7 HR HB HG HS
            refine wpAny_ready (rs := [7]) (by kernel_rfl) (by simp) ?_
            refine AllReady.cons rfl (fun K hK => ?_) AllReady.nil
            rw [if_pos (by rfl)]
            refine oper_append_txt _ _ rfl w.heap.size k v7 xs1 rfl HR7.out ⟨gs, 0, none⟩ 1 1 [.string (strOf s)] rfl rfl (fun j u hj => by cases j with | zero => (injection hj with hj; subst hj; exact HS7.out.1) | succ j => cases hj) (by simp [Value.oneCell']) (by omega) HB7.out.size ?_
            intro v8 W8 hown8 hgrow8 hnil8 _
            refine hK _ _ ?_
            clear hK K
            have HR8 := Lib.hid hown8
            have HB8 : Hid (Below w.heap.size w W8) := HB7.out.grown hgrow8 HB7.out.size (fun q hq => (World.ownsRow.lt HR7.out q hq).1)
            have HV8 : Hid (v8 ≠ .slice none 0 0) := fun h => by have := (hnil8.1 h).2; cases this
            clear hown8 hgrow8 hnil8 HR7 HB7 HS7 HV7
            refine wpAny_ready (rs := [11]) (by kernel_rfl) (by simp) ?_
            refine AllReady.cons rfl (fun K hK => ?_) AllReady.nil
            rw [if_pos (by rfl)]
            refine oper_append_txt _ _ rfl w.heap.size (k + 1) v8 (xs1 ++ [.string (strOf s)]) rfl HR8.out (if cap = k then ⟨g, 0, none⟩ else ⟨g, k, none⟩) (L.length - k) (cap - k) xs2 (sl_ite (P := cap = k) ⟨g, 0, none⟩ ⟨g, k, none⟩ (L.length - k) (cap - k)) HL2.out (HN2.out W8 HB8.out _ (by by_cases hck : cap = k; exact .inl hck; exact .inr (if_neg hck))) HO2.out (by omega) HB8.out.size ?_
            intro v9 W9 hown9 hgrow9 hnil9 _
            refine hK _ _ ?_
            clear hK K
            have HB9 : Hid (Below w.heap.size w W9) := HB8.out.grown hgrow9 HB8.out.size (fun q hq => (World.ownsRow.lt HR8.out q hq).1)
            have HF := Lib.hid (HFIN.out v9 W9 hown9 (fun h => HV8.out (hnil9.1 h).1) HB9.out)
            clear hown9 hgrow9 hnil9 HR8 HB8 HV8 HFIN HN1 HN2 HL1 HL2 HO1 HO2
            refine wpAny_ready (rs := [12]) (by kernel_rfl) (by simp) ?_
            refine AllReady.cons rfl (fun K hK => ?_) AllReady.nil
            go_simp
            refine hK _ _ ?_
            clear hK K
            refine wpAny_done (by kernel_rfl) ?_ _
            go_wp2
            all_goals go_ret
            all_goals exact HF.out
    · have hn1 : L[k]? = none := List.getElem?_eq_none (by omega)
      have HP : Hid (putB L s = L.take k ++ [s] ++ L.drop k) := (putB_at (L := L) (s := s) hk HLO.out (fun y hy => by rw [hn1] at hy; cases hy)).2 (by rw [hn1]; intro h; cases h)
      have hlt' : ¬ (k : Int) < (L.length : Int) := by omega
      clear HLO HT HLE HEQ hn1
      have hkn : k + (L.length - k) = L.length := by omega
      have hkc : (k : Int) ≤ (cap : Int) := by omega
      have hmx : Tryz.prog.follows .mixedOrders = true := by kernel_rfl
      have HN1 : Hid (∀ W, Below w.heap.size w W → ∀ j u, ((L.take k).map txtV)[j]? = some u → W.cell? ((⟨g, 0, none⟩ : Addr).add j) = some u) := by
        show ∀ W, _
        intro W hb j u hj
        rw [List.getElem?_map, Option.map_eq_some_iff] at hj
        obtain ⟨x, hx, rfl⟩ := hj
        rw [WideShapes.add_plain, Nat.zero_add]
        refine HCELL.out W hb j x ?_
        rw [List.getElem?_take] at hx
        split at hx
        · exact hx
        · cases hx
      have HN2 : Hid (∀ W, Below w.heap.size w W → ∀ ad : Addr, (cap = k ∨ ad = ⟨g, k, none⟩) → ∀ j u, ((L.drop k).map txtV)[j]? = some u → W.cell? (ad.add j) = some u) := by
        show ∀ W, _
        intro W hb ad had j u hj
        rw [List.getElem?_map, Option.map_eq_some_iff] at hj
        obtain ⟨x, hx, rfl⟩ := hj
        rw [List.getElem?_drop] at hx
        rcases had with hck | rfl
        · have := (List.getElem?_eq_some_iff.1 hx).1
          omega
        · rw [WideShapes.add_plain]
          exact HCELL.out W hb (k + j) x hx
      have HFIN : Hid (∀ (v5 : Value) (W5 : World), W5.ownsRow w.heap.size 9 1 v5 (k + 1 + (L.length - k)) ((L.take k).map txtV ++ [.string (strOf s)] ++ (L.drop k).map txtV) → v5 ≠ .slice none 0 0 → Below w.heap.size w W5 → PutPost w B (putB L s) (.returned v5) W5) := by
        show ∀ (v5 : Value) (W5 : World), _
        intro v5 W5 h1 h2 h3
        refine ⟨v5, rfl, ⟨?_, h2⟩, h3⟩
        rw [HP.out]
        unfold OwnTexts
        have e1 : ((L.take k ++ [s] ++ L.drop k).map strOf).length = k + 1 + (L.length - k) := by simp <;> omega
        have e2 : ((L.take k ++ [s] ++ L.drop k).map strOf).map Value.string = (L.take k).map txtV ++ [.string (strOf s)] ++ (L.drop k).map txtV := by rw [List.map_map, List.map_append, List.map_append]; rfl
        rw [e1, e2]
        exact own_low h1 hB
      have hl1 : ((L.take k).map txtV).length = k := by rw [List.length_map, List.length_take]; omega
      have hl2 : ((L.drop k).map txtV).length = L.length - k := by rw [List.length_map, List.length_drop]
      have hone1 : ∀ y ∈ (L.take k).map txtV, y.oneCell' = true := fun y hy => by obtain ⟨x, _, rfl⟩ := List.mem_map.1 hy; rfl
      have hone2 : ∀ y ∈ (L.drop k).map txtV, y.oneCell' = true := fun y hy => by obtain ⟨x, _, rfl⟩ := List.mem_map.1 hy; rfl
      have HL1 := Lib.hid hl1
      have HL2 := Lib.hid hl2
      have HO1 := Lib.hid hone1
      have HO2 := Lib.hid hone2
      clear hl1 hl2 hone1 hone2 HCELL HP hlen
      generalize (L.take k).map txtV = xs1 at *
      generalize (L.drop k).map txtV = xs2 at *
      go_wp2_with fail
      refine wp_region_any (by assumption) ?_
      change wpAny _ _ _ _ _ _ _ (World.drew _)
      have HB : Hid (Below w.heap.size w w.drew) := (Below.refl _ w).drew
      generalize w.drew = Wc at *
      refine wpAny_take (i := 1) (v := ?_) rfl (by kernel_rfl) (by kernel_rfl) (by kernel_rfl) (fun _ _ _ h => h) (Or.inl ⟨by rfl, by (intro w; go_simp; try with_reducible rfl)⟩) ?_
      refine wpAny_take (i := 2) (v := ?_) rfl (by kernel_rfl) (by kernel_rfl) (by kernel_rfl) (fun _ _ _ h => h) (Or.inl ⟨by rfl, by (intro w; go_simp; try with_reducible rfl)⟩) ?_
      refine wpAny_take (i := 3) (v := ?_) rfl (by kernel_rfl) (by kernel_rfl) (by kernel_rfl) (fun _ _ _ h => h) (Or.inl ⟨by rfl, by (intro w; go_simp; try with_reducible rfl)⟩) ?_
      refine wpAny_take (i := 5) (v := ?_) rfl (by kernel_rfl) (by kernel_rfl) (by kernel_rfl) (fun _ _ _ h => h) (Or.inl ⟨by rfl, by (intro w; go_simp; try with_reducible rfl)⟩) ?_
      refine wpAny_take (i := 8) (v := ?_) rfl (by kernel_rfl) (by kernel_rfl) (by kernel_rfl) (fun _ _ _ h => h) (Or.inl ⟨by rfl, by (intro w; go_simp; try with_reducible rfl)⟩) ?_
      refine wpAny_take (i := 9) (v := ?_) rfl (by kernel_rfl) (by kernel_rfl) (by kernel_rfl) (fun _ _ _ h => h) (Or.inl ⟨by rfl, by (intro w; go_simp; try with_reducible rfl)⟩) ?_
      refine wpAny_take (i := 10) (v := ?_) rfl (by kernel_rfl) (by kernel_rfl) (by kernel_rfl) (fun _ _ _ h => h) (Or.inl ⟨by rfl, by (intro w; go_simp; try with_reducible rfl)⟩) ?_
      refine wpAny_ready (rs := [0, 6]) (by kernel_rfl) (by simp) ?_
      refine AllReady.cons rfl (fun K hK => ?_) (AllReady.cons rfl (fun K hK => ?_) AllReady.nil)
      · go_simp
        refine hK _ _ ?_
        clear hK K
        have HR' : Hid ((Wc.alloc (.cells #[] 9)).ownsRow w.heap.size 9 1 (.slice (some ⟨Wc.heap.size, 0, none⟩) 0 0) 0 []) := World.ownsRow_lit Wc #[] 0 HB.out.size (by simp [maxLen]) rfl
        have HB' : Hid (Below w.heap.size w (Wc.alloc (.cells #[] 9))) := HB.out.alloc HB.out.size _
        have HG' : Hid (Wc.heap.size < (Wc.alloc (.cells #[] 9)).heap.size) := by show _ < _; simp
        clear HB 
        generalize hg3 : Wc.heap.size = g3 at *
        generalize Wc.alloc (.cells #[] 9) = W3 at *
        clear hg3
        clear Wc
        obtain ⟨Wc, hWW⟩ : ∃ X, X = W3 := ⟨_, rfl⟩
        subst hWW
        have HB := HB'
        clear HB'
        have HR := HR'
        clear HR'
        have HG := HG'
        clear HG'
        refine wpAny_ready (rs := [4, 6]) (by kernel_rfl) (by simp) ?_
        refine AllReady.cons rfl (fun K hK => ?_) (AllReady.cons rfl (fun K hK => ?_) AllReady.nil)
        · rw [if_pos (by rfl)]
          refine oper_append_txt _ _ rfl w.heap.size 0 (.slice (some ⟨g3, 0, none⟩) 0 0) [] rfl HR.out ⟨g, 0, none⟩ k cap xs1 rfl HL1.out (HN1.out Wc HB.out) HO1.out (by omega) HB.out.size ?_
          intro v7 W7 hown7 hgrow7 hnil7 hblk7
          refine hK _ _ ?_
          clear hK K
          rw [Nat.zero_add, List.nil_append] at hown7
          have HR7 := Lib.hid hown7
          have HV7 : Hid (v7 ≠ .slice none 0 0) := fun h => by have := (hnil7.1 h).1; cases this
          have HB7 : Hid (Below w.heap.size w W7) := HB.out.grown hgrow7 HB.out.size (fun q hq => (World.ownsRow.lt HR.out q hq).1)
          clear hown7 hgrow7 hnil7 hblk7 HR HB HG 
          refine wpAny_ready (rs := [6]) (by kernel_rfl) (by simp) ?_
          refine AllReady.cons rfl (fun K hK => ?_) AllReady.nil
          go_simp
          refine hK _ _ ?_
          clear hK K
          have HS' : Hid ((W7.alloc (.cells #[.string (strOf s)] 9)).cell? ⟨W7.heap.size, 0, none⟩ = some (.string (strOf s)) ∧ v7.ownBlock ≠ some W7.heap.size) := ⟨cell_new0 _ _ _, fun e => by have := (World.ownsRow.lt HR7.out _ e).2; omega⟩
          have HB' : Hid (Below w.heap.size w (W7.alloc (.cells #[.string (strOf s)] 9))) := HB7.out.alloc HB7.out.size _
          have HR' : Hid ((W7.alloc (.cells #[.string (strOf s)] 9)).ownsRow w.heap.size 9 1 v7 k xs1) := HR7.out.alloc _
          clear HB7 HR7
          generalize hgs : W7.heap.size = gs at *
          generalize W7.alloc (.cells #[.string (strOf s)] 9) = W3 at *
          clear hgs
          clear W7
          obtain ⟨W7, hWW⟩ : ∃ X, X = W3 := ⟨_, rfl⟩
          subst hWW
          have HB7 := HB'
          clear HB'
          have HS7 := HS'
          clear HS'
          have HR7 := HR'
          clear HR'
          refine wpAny_ready (rs := [7]) (by kernel_rfl) (by simp) ?_
          refine AllReady.cons rfl (fun K hK => ?_) AllReady.nil
          rw [if_pos (by rfl)]
          refine oper_append_txt _ _ rfl w.heap.size k v7 xs1 rfl HR7.out ⟨gs, 0, none⟩ 1 1 [.string (strOf s)] rfl rfl (fun j u hj => by cases j with | zero => (injection hj with hj; subst hj; exact HS7.out.1) | succ j => cases hj) (by simp [Value.oneCell']) (by omega) HB7.out.size ?_
          intro v8 W8 hown8 hgrow8 hnil8 _
          refine hK _ _ ?_
          clear hK K
          have HR8 := Lib.hid hown8
          have HB8 : Hid (Below w.heap.size w W8) := HB7.out.grown hgrow8 HB7.out.size (fun q hq => (World.ownsRow.lt HR7.out q hq).1)
          have HV8 : Hid (v8 ≠ .slice none 0 0) := fun h => by have := (hnil8.1 h).2; cases this
          clear hown8 hgrow8 hnil8 HR7 HB7 HS7 HV7
          refine wpAny_ready (rs := [11]) (by kernel_rfl) (by simp) ?_
          refine AllReady.cons rfl (fun K hK => ?_) AllReady.nil
          rw [if_pos (by rfl)]
          refine oper_append_txt _ _ rfl w.heap.size (k + 1) v8 (xs1 ++ [.string (strOf s)]) rfl HR8.out (if cap = k then ⟨g, 0, none⟩ else ⟨g, k, none⟩) (L.length - k) (cap - k) xs2 (sl_ite (P := cap = k) ⟨g, 0, none⟩ ⟨g, k, none⟩ (L.length - k) (cap - k)) HL2.out (HN2.out W8 HB8.out _ (by by_cases hck : cap = k; exact .inl hck; exact .inr (if_neg hck))) HO2.out (by omega) HB8.out.size ?_
          intro v9 W9 hown9 hgrow9 hnil9 _
          refine hK _ _ ?_
          clear hK K
          have HB9 : Hid (Below w.heap.size w W9) := HB8.out.grown hgrow9 HB8.out.size (fun q hq => (World.ownsRow.lt HR8.out q hq).1)
          have HF := Lib.hid (HFIN.out v9 W9 hown9 (fun h => HV8.out (hnil9.1 h).1) HB9.out)
          clear hown9 hgrow9 hnil9 HR8 HB8 HV8 HFIN HN1 HN2 HL1 HL2 HO1 HO2
          refine wpAny_ready (rs := [12]) (by kernel_rfl) (by simp) ?_
          refine AllReady.cons rfl (fun K hK => ?_) AllReady.nil
          go_simp
          refine hK _ _ ?_
          clear hK K
          refine wpAny_done (by kernel_rfl) ?_ _
          go_wp2
          all_goals go_ret
          all_goals exact HF.out
        · go_simp
          refine hK _ _ ?_
          clear hK K
          have HS' : Hid ((Wc.alloc (.cells #[.string (strOf s)] 9)).cell? ⟨Wc.heap.size, 0, none⟩ = some (.string (strOf s)) ∧ Wc.heap.size < (Wc.alloc (.cells #[.string (strOf s)] 9)).heap.size ∧ w.heap.size ≤ Wc.heap.size ∧ g3 ≠ Wc.heap.size) := ⟨cell_new0 _ _ _, by simp, HB.out.size, fun e => by have := HG.out; omega⟩
          have HB' : Hid (Below w.heap.size w (Wc.alloc (.cells #[.string (strOf s)] 9))) := HB.out.alloc HB.out.size _
          have HR' : Hid ((Wc.alloc (.cells #[.string (strOf s)] 9)).ownsRow w.heap.size 9 1 (.slice (some ⟨g3, 0, none⟩) 0 0) 0 []) := HR.out.alloc _
          clear HB HR HG
          generalize hgs : Wc.heap.size = gs at *
          generalize Wc.alloc (.cells #[.string (strOf s)] 9) = W3 at *
          clear hgs
          clear Wc
          obtain ⟨Wc, hWW⟩ : ∃ X, X = W3 := ⟨_, rfl⟩
          subst hWW
          have HB := HB'
          clear HB'
          have HS := HS'
          clear HS'
          have HR := HR'
          clear HR'
          refine wpAny_ready (rs := [4]) (by kernel_rfl) (by simp) ?_
          refine AllReady.cons rfl (fun K hK => ?_) AllReady.nil
          rw [if_pos (by rfl)]
          refine oper_append_txt _ _ rfl w.heap.size 0 (.slice (some ⟨g3, 0, none⟩) 0 0) [] rfl HR.out ⟨g, 0, none⟩ k cap xs1 rfl HL1.out (HN1.out Wc HB.out) HO1.out (by omega) HB.out.size ?_
          intro v7 W7 hown7 hgrow7 hnil7 hblk7
          refine hK _ _ ?_
          clear hK K
          rw [Nat.zero_add, List.nil_append] at hown7
          have HR7 := Lib.hid hown7
          have HV7 : Hid (v7 ≠ .slice none 0 0) := fun h => by have := (hnil7.1 h).1; cases this
          have HB7 : Hid (Below w.heap.size w W7) := HB.out.grown hgrow7 HB.out.size (fun q hq => (World.ownsRow.lt HR.out q hq).1)
          have HS7 : Hid (W7.cell? ⟨gs, 0, none⟩ = some (.string (strOf s)) ∧ v7.ownBlock ≠ some gs) := ⟨(cell_block (hgrow7.block gs HS.out.2.1 (fun e => by injection e with e; exact HS.out.2.2.2 e.symm))).trans HS.out.1, fun e => by rcases hblk7 with h | h <;> rw [e] at h <;> injection h with h <;> first | exact HS.out.2.2.2 h.symm | (have := HS.out.2.1; omega)⟩
          clear hown7 hgrow7 hnil7 hblk7 HR HB HS
          refine wpAny_ready (rs := [7]) (by kernel_rfl) (by simp) ?_
          refine AllReady.cons rfl (fun K hK => ?_) AllReady.nil
          rw [if_pos (by rfl)]
          refine oper_append_txt _ _ rfl w.heap.size k v7 xs1 rfl HR7.out ⟨gs, 0, none⟩ 1 1 [.string (strOf s)] rfl rfl (fun j u hj => by cases j with | zero => (injection hj with hj; subst hj; exact HS7.out.1) | succ j => cases hj) (by simp [Value.oneCell']) (by omega) HB7.out.size ?_
          intro v8 W8 hown8 hgrow8 hnil8 _
          refine hK _ _ ?_
          clear hK K
          have HR8 := Lib.hid hown8
          have HB8 : Hid (Below w.heap.size w W8) := HB7.out.grown hgrow8 HB7.out.size (fun q hq => (World.ownsRow.lt HR7.out q hq).1)
          have HV8 : Hid (v8 ≠ .slice none 0 0) := fun h => by have := (hnil8.1 h).2; cases this
          clear hown8 hgrow8 hnil8 HR7 HB7 HS7 HV7
          refine wpAny_ready (rs := [11]) (by kernel_rfl) (by simp) ?_
          refine AllReady.cons rfl (fun K hK => ?_) AllReady.nil
          rw [if_pos (by rfl)]
          refine oper_append_txt _ _ rfl w.heap.size (k + 1) v8 (xs1 ++ [.string (strOf s)]) rfl HR8.out (if cap = k then ⟨g, 0, none⟩ else ⟨g, k, none⟩) (L.length - k) (cap - k) xs2 (sl_ite (P := cap = k) ⟨g, 0, none⟩ ⟨g, k, none⟩ (L.length - k) (cap - k)) HL2.out (HN2.out W8 HB8.out _ (by by_cases hck : cap = k; exact .inl hck; exact .inr (if_neg hck))) HO2.out (by omega) HB8.out.size ?_
          intro v9 W9 hown9 hgrow9 hnil9 _
          refine hK _ _ ?_
          clear hK K
          have HB9 : Hid (Below w.heap.size w W9) := HB8.out.grown hgrow9 HB8.out.size (fun q hq => (World.ownsRow.lt HR8.out q hq).1)
          have HF := Lib.hid (HFIN.out v9 W9 hown9 (fun h => HV8.out (hnil9.1 h).1) HB9.out)
          clear hown9 hgrow9 hnil9 HR8 HB8 HV8 HFIN HN1 HN2 HL1 HL2 HO1 HO2
          refine wpAny_ready (rs := [12]) (by kernel_rfl) (by simp) ?_
          refine AllReady.cons rfl (fun K hK => ?_) AllReady.nil
          go_simp
          refine hK _ _ ?_
          clear hK K
          refine wpAny_done (by kernel_rfl) ?_ _
          go_wp2
          all_goals go_ret
          all_goals exact HF.out
      · go_simp
        refine hK _ _ ?_
        clear hK K
        have HS' : Hid ((Wc.alloc (.cells #[.string (strOf s)] 9)).cell? ⟨Wc.heap.size, 0, none⟩ = some (.string (strOf s)) ∧ Wc.heap.size < (Wc.alloc (.cells #[.string (strOf s)] 9)).heap.size ∧ w.heap.size ≤ Wc.heap.size) := ⟨cell_new0 _ _ _, by simp, HB.out.size⟩
        have HB' : Hid (Below w.heap.size w (Wc.alloc (.cells #[.string (strOf s)] 9))) := HB.out.alloc HB.out.size _
        clear HB
        generalize hgs : Wc.heap.size = gs at *
        generalize Wc.alloc (.cells #[.string (strOf s)] 9) = W3 at *
        clear hgs
        clear Wc
        obtain ⟨Wc, hWW⟩ : ∃ X, X = W3 := ⟨_, rfl⟩
        subst hWW
        have HB := HB'
        clear HB'
        have HS := HS'
        clear HS'
        refine wpAny_ready (rs := [0]) (by kernel_rfl) (by simp) ?_
        refine AllReady.cons rfl (fun K hK => ?_) AllReady.nil
        go_simp
        refine hK _ _ ?_
        clear hK K
        have HR' : Hid ((Wc.alloc (.cells #[] 9)).ownsRow w.heap.size 9 1 (.slice (some ⟨Wc.heap.size, 0, none⟩) 0 0) 0 []) := World.ownsRow_lit Wc #[] 0 HB.out.size (by simp [maxLen]) rfl
        have HB' : Hid (Below w.heap.size w (Wc.alloc (.cells #[] 9))) := HB.out.alloc HB.out.size _
        have HS' : Hid ((Wc.alloc (.cells #[] 9)).cell? ⟨gs, 0, none⟩ = some (.string (strOf s)) ∧ gs < Wc.heap.size ∧ w.heap.size ≤ gs) := ⟨(((Below.refl _ Wc).alloc (Nat.le_refl _) _).cell (p := ⟨gs, 0, none⟩) HS.out.2.1).trans HS.out.1, HS.out.2.1, HS.out.2.2⟩
        have HG' : Hid (Wc.heap.size < (Wc.alloc (.cells #[] 9)).heap.size) := by show _ < _; simp
        clear HB HS
        generalize hg3 : Wc.heap.size = g3 at *
        generalize Wc.alloc (.cells #[] 9) = W3 at *
        clear hg3
        clear Wc
        obtain ⟨Wc, hWW⟩ : ∃ X, X = W3 := ⟨_, rfl⟩
        subst hWW
        have HB := HB'
        clear HB'
        have HR := HR'
        clear HR'
        have HG := HG'
        clear HG'
        have HS := HS'
        clear HS'
        refine wpAny_ready (rs := [4]) (by kernel_rfl) (by simp) ?_
        refine AllReady.cons rfl (fun K hK => ?_) AllReady.nil
        rw [if_pos (by rfl)]
        refine oper_append_txt _ _ rfl w.heap.size 0 (.slice (some ⟨g3, 0, none⟩) 0 0) [] rfl HR.out ⟨g, 0, none⟩ k cap xs1 rfl HL1.out (HN1.out Wc HB.out) HO1.out (by omega) HB.out.size ?_
        intro v7 W7 hown7 hgrow7 hnil7 hblk7
        refine hK _ _ ?_
        clear hK K
        rw [Nat.zero_add, List.nil_append] at hown7
        have HR7 := Lib.hid hown7
        have HV7 : Hid (v7 ≠ .slice none 0 0) := fun h => by have := (hnil7.1 h).1; cases this
        have HB7 : Hid (Below w.heap.size w W7) := HB.out.grown hgrow7 HB.out.size (fun q hq => (World.ownsRow.lt HR.out q hq).1)
        have HS7 : Hid (W7.cell? ⟨gs, 0, none⟩ = some (.string (strOf s)) ∧ v7.ownBlock ≠ some gs) := ⟨(cell_block (hgrow7.block gs (by have := HS.out.2.1; have := HG.out; omega) (fun e => by injection e with e; have h2 : gs = g3 := e; have := HS.out.2.1; omega))).trans HS.out.1, fun e => Or.elim hblk7 (fun h => by rw [e] at h; injection h with h; have h2 : gs = g3 := h; have := HS.out.2.1; omega) (fun h => by rw [e] at h; injection h with h; have := HS.out.2.1; have := HG.out; omega)⟩
        clear hown7 hgrow7 hnil7 hblk7 HR HB HG HS
        refine wpAny_ready (rs := [7]) (by kernel_rfl) (by simp) ?_
        refine AllReady.cons rfl (fun K hK => ?_) AllReady.nil
        rw [if_pos (by rfl)]
        refine oper_append_txt _ _ rfl w.heap.size k v7 xs1 rfl HR7.out ⟨gs, 0, none⟩ 1 1 [.string (strOf s)] rfl rfl (fun j u hj => by cases j with | zero => (injection hj with hj; subst hj; exact HS7.out.1) | succ j => cases hj) (by simp [Value.oneCell']) (by omega) HB7.out.size ?_
        intro v8 W8 hown8 hgrow8 hnil8 _
        refine hK _ _ ?_
        clear hK K
        have HR8 := Lib.hid hown8
        have HB8 : Hid (Below w.heap.size w W8) := HB7.out.grown hgrow8 HB7.out.size (fun q hq => (World.ownsRow.lt HR7.out q hq).1)
        have HV8 : Hid (v8 ≠ .slice none 0 0) := fun h => by have := (hnil8.1 h).2; cases this
        clear hown8 hgrow8 hnil8 HR7 HB7 HS7 HV7
        refine wpAny_ready (rs := [11]) (by kernel_rfl) (by simp) ?_
        refine AllReady.cons rfl (fun K hK => ?_) AllReady.nil
        rw [if_pos (by rfl)]
        refine oper_append_txt _ _ rfl w.heap.size (k + 1) v8 (xs1 ++ [.string (strOf s)]) rfl HR8.out (if cap = k then ⟨g, 0, none⟩ else ⟨g, k, none⟩) (L.length - k) (cap - k) xs2 (sl_ite (P := cap = k) ⟨g, 0, none⟩ ⟨g, k, none⟩ (L.length - k) (cap - k)) HL2.out (HN2.out W8 HB8.out _ (by by_cases hck : cap = k; exact .inl hck; exact .inr (if_neg hck))) HO2.out (by omega) HB8.out.size ?_
        intro v9 W9 hown9 hgrow9 hnil9 _
        refine hK _ _ ?_
        clear hK K
        have HB9 : Hid (Below w.heap.size w W9) := HB8.out.grown hgrow9 HB8.out.size (fun q hq => (World.ownsRow.lt HR8.out q hq).1)
        have HF := Lib.hid (HFIN.out v9 W9 hown9 (fun h => HV8.out (hnil9.1 h).1) HB9.out)
        clear hown9 hgrow9 hnil9 HR8 HB8 HV8 HFIN HN1 HN2 HL1 HL2 HO1 HO2
        refine wpAny_ready (rs := [12]) (by kernel_rfl) (by simp) ?_
        refine AllReady.cons rfl (fun K hK => ?_) AllReady.nil
        go_simp
        refine hK _ _ ?_
        clear hK K
        refine wpAny_done (by kernel_rfl) ?_ _
        go_wp2
        all_goals go_ret
        all_goals exact HF.out

end Go.Proofs.YteokbgfiokbojaaGreat
