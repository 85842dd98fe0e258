/- The program's FormatNumbers. -/
import Derived.Test.YtdbddockmdkmeaaDoorMc
import Derived.Test.YtdbddockmdkmeaaDoorMl
import Derived.Lib.AppendIntMem
namespace Go.Proofs.YtdbddockmdkmeaaDoor
open Go.RowKit

/-- The powers of ten lie where the library reads them, whatever is made from here on. -/
def Pow12 (w : World) : Prop := Lib.TabBelow Tryd.prog w.heap.size w "internal/strconv.uint64pow10" .u64 Lib.pow10Tab
theorem Pow12.of {w : World} (h : Lib.TabIs Tryd.prog w "internal/strconv.uint64pow10" .u64 Lib.pow10Tab) : Pow12 w := Lib.tabBelow_of_tabIs h
theorem Pow12.below {w w' : World} (h : Pow12 w) (hb : Below w.heap.size w w') : Pow12 w' :=
  Pow12.of ((h.on hb).here)
theorem itoa12_any (n : Int) (w : World) (h : Pow12 w) (h0 : -9223372036854775808 ≤ n) (h1 : n ≤ 9223372036854775807) :
    Calls Tryd.prog 94 #[.int .i64 n] w fun e w' => e = .returned (.string (txt12 (Lib.itoa n))) ∧ Below w.heap.size w w' := by
  refine (Tryd.strconv_Itoa n h0 h1 w h.here).mono ?_
  rintro e w' ⟨rfl, k, os, rfl⟩
  exact ⟨rfl, Lib.below_grow _ _ (Nat.le_refl _) _ _⟩

set_option maxRecDepth 100000 in
/-- A text put behind texts. -/
theorem wp_appT12 {ops : Array Oper} {rest : List Oper} {o : Oper} {a : Act} {Q : Exit → Act → World → Prop} (hgd : o.guard = none) (S X : Operand)
    (ho : o.op = Op.call { callee := Callee.builtin Builtin.append, args := #[S, X], argTypes := #[79, 79] })
    (B : Nat) (v : Value) (ts : List ByteArray) (W : World) (hs : a.eval S = v) (hown : OwnTexts W B v ts) (htl : ts.length ≤ 100000000) (hB : B ≤ W.heap.size)
    (g : Nat) (u : ByteArray) (hx : a.eval X = .slice (some ⟨g, 0, none⟩) 1 1) (hnew : W.cell? ⟨g, 0, none⟩ = some (.string u))
    (h : ∀ v' w', OwnTexts w' B v' (ts ++ [u]) → Below B W w' → wpList Tryd.prog ops Q rest (a.put o.dst v') w') :
    wpList Tryd.prog ops Q (o :: rest) a W := by
  obtain ⟨i0, hi, hz0, hz1, hz2⟩ := info_parts info_str
  refine wpList_append_own W hgd S X 79 ho B 9 i0 (.string ByteArray.empty) 1 16 Tryd.underlying79 hi hz0 hz1 hz2 rfl (by decide) v ts.length (ts.map Value.string) hs hown ⟨g, 0, none⟩ 1 1 [.string u] hx rfl ?_ ?_ (by unfold maxLen; omega) (by omega) hB ?_
  · intro j x hj
    have hj0 : j = 0 := by have := (List.getElem?_eq_some_iff.1 hj).1; simp at this; omega
    subst hj0
    simp at hj
    subst hj
    exact hnew
  · intro x hx'
    rw [List.mem_singleton.1 hx']
    rfl
  · intro v' w' h1 h2 h3
    refine h v' w' ?_ ?_
    · show w'.ownsRow B _ 1 v' (ts ++ [u]).length ((ts ++ [u]).map Value.string)
      rw [List.length_append, List.map_append]
      exact h1
    · exact (Below.refl B W).grown h2 hB (fun k e => (World.ownsRow.lt hown k e).1)

/-- The texts of numbers. -/
def numTexts (xs : List Int) : List ByteArray := xs.map fun x => txt12 (Lib.itoa x)
theorem dash_num (x : Int) : dash12 (txt12 (Lib.itoa x)) = txt12 (Lib.itoa x) := by
  unfold dash12
  rw [if_neg]
  intro e
  have h0 : (txt12 (Lib.itoa x)).toList = [] := List.isEmpty_iff.1 e
  have e : sameB (txt12 (Lib.itoa x)) ⟨#[]⟩ = true := by
    unfold sameB
    rw [h0]
    unfold ByteArray.toList ByteArray.toList.loop
    decide
  have h2 := congrArg ByteArray.size (sameB_iff.1 e)
  rw [txt12_size] at h2
  exact itoa_ne x (List.eq_nil_of_length_eq_zero h2)
theorem thTo_nums (xs : List Int) : ∀ k, k ≤ xs.length → thTo (numTexts xs) k = txt12 (fmtB (xs.take k))
  | 0, _ => rfl
  | k + 1, hk => by
    have hk' : k < xs.length := by omega
    have hl : k < (numTexts xs).length := by unfold numTexts; rw [List.length_map]; exact hk'
    have e : (numTexts xs)[k] = txt12 (Lib.itoa xs[k]) := List.getElem_map _
    rw [thTo_succ hl, e, dash_num, fmtB_take hk', thTo_nums xs k (by omega)]
    by_cases h0 : k = 0
    · rw [if_pos h0, if_pos h0]; exact nil_app12 _
    · rw [if_neg h0, if_neg h0]
      show txt12 _ ++ txt12 [32] ++ txt12 _ = _
      rw [txt12_app, txt12_app, List.append_assoc]
      rfl
theorem thRes_nums (xs : List Int) : thRes (numTexts xs) = fmtRes xs := by
  have hl : (numTexts xs).length = xs.length := by unfold numTexts; rw [List.length_map]
  unfold thRes fmtRes
  rw [hl]
  by_cases h : xs = []
  · rw [if_pos h, if_pos (by rw [h]; rfl)]; rfl
  · rw [if_neg h, if_neg (fun e => h (List.eq_nil_of_length_eq_zero e)), thTo_nums xs _ (Nat.le_refl _), List.take_length]
theorem numTexts_next {xs : List Int} {k : Nat} (hk : k < xs.length) : numTexts (xs.take (k + 1)) = numTexts (xs.take k) ++ [txt12 (Lib.itoa xs[k])] := by
  unfold numTexts
  rw [List.take_succ_eq_append_getElem hk, List.map_append]
  rfl

set_option maxRecDepth 100000 in
set_option maxHeartbeats 1000000 in
theorem formatNumbers_any (A : Option Addr) (xs : List Int) (c : Nat) (w : World) (hw : Si.Ints w w.heap.size A xs) (hp : Pow12 w) (hl : xs.length ≤ 1048576) (hr : ∀ x ∈ xs, -9223372036854775808 ≤ x ∧ x ≤ 9223372036854775807) :
    Calls Tryd.prog 38 #[.slice A xs.length c] w fun e w' => e = .returned (.string (fmtRes xs)) ∧ Below w.heap.size w w' := by
  have HW := Lib.hid hw
  have HR := Lib.hid hr
  have HP := Lib.hid hp
  have HS0 : Hid (OwnTexts w w.heap.size (.slice none 0 0) (numTexts (xs.take 0))) := World.ownsRow_nil _ _ _ _
  clear hw hr hp
  go_enter Tryd.func38, Tryd.ntmps38
  go_wp2
  go_loopw [3, 8] (fun s i wr => ∃ (k : Nat), i = .int .i64 k ∧ k ≤ xs.length ∧ Hid (OwnTexts wr w.heap.size s (numTexts (xs.take k))) ∧ Hid (Below w.heap.size w wr))
    (fun _ i _ => xs.length - (intOf i).toNat)
  case atStart => exact ⟨0, rfl, Nat.zero_le _, HS0, Lib.hid (Below.refl _ _)⟩
  case round =>
    obtain ⟨k, rfl, hk, HT, HB⟩ := hrel
    clear HS0
    by_cases hlt : k < xs.length
    · have hlt' : (k : Int) < (xs.length : Int) := by omega
      obtain ⟨b, o, rfl, hb, hcs⟩ := HW.out (by omega)
      have e1 := hcs k xs[k] (List.getElem?_eq_getElem hlt)
      rw [← HB.out.cell hb] at e1
      obtain ⟨hx0, hx1⟩ := HR.out xs[k] (List.getElem_mem hlt)
      have HNX := Lib.hid (numTexts_next hlt)
      have htl : (numTexts (xs.take k)).length ≤ 100000000 := by unfold numTexts; rw [List.length_map, List.length_take]; omega
      have HPW : Hid (Pow12 wr) := HP.out.below HB.out
      clear hcs
      generalize xs[k] = x at *
      obtain ⟨A1, cap1, rfl, -⟩ := St.textsForm HT.out
      generalize numTexts (xs.take k) = ts at *
      go_wp2_with fail
      refine (itoa12_any x wr HPW.out hx0 hx1).mono ?_
      rintro e w2 ⟨rfl, hb2⟩
      generalize txt12 (Lib.itoa x) = y at *
      have hz2 := hb2.size
      have hz := HB.out.size
      have HB2 : Hid (Below w.heap.size w w2) := HB.out.trans (hb2.mono hz)
      have HT6 : Hid (OwnTexts (w2.alloc (.cells #[.string y] 9)) w.heap.size (.slice A1 ts.length cap1) ts) := (HT.out.below hb2).below ((Below.refl _ w2).alloc (Nat.le_refl _) _)
      have HN6 : Hid ((w2.alloc (.cells #[.string y] 9)).cell? ⟨w2.heap.size, 0, none⟩ = some (.string y)) := Row.cell (Row.new w2 9 #[.string y]) 0
      clear hb2
      go_wp2_with (at_builtin; go_loud (refine wp_appT12 rfl (.tmp 12) (.tmp 15) rfl w.heap.size _ ts _ rfl HT6.out htl (by simp; omega) w2.heap.size y rfl HN6.out ?_); intro v7 w7 ho7 hb7; have HO7 := Lib.hid ho7; have HB7 : Hid (Below w.heap.size w w7) := (HB2.out.alloc HB2.out.size _).trans hb7; clear ho7 hb7 HT6 HN6)
      rw [← HNX.out] at HO7
      clear HT HB2 HB HNX
      go_roundw
      case rel => exact ⟨k + 1, by go_num, by omega, HO7, HB7⟩
      case measure => simp [intOf]; omega
    · have hke : k = xs.length := by omega
      rw [hke, List.take_length] at HT
      have HF := Lib.hid (thRes_nums xs)
      have hxs : ∀ x ∈ numTexts xs, x.size ≤ 20 := fun x hx => by
        obtain ⟨n, hn, rfl⟩ := List.mem_map.1 hx
        obtain ⟨h0, h1⟩ := HR.out n hn
        rw [txt12_size]
        exact itoa_len n h0 h1
      have hnl : (numTexts xs).length = xs.length := by unfold numTexts; rw [List.length_map]
      obtain ⟨A1, cap1, rfl, HS⟩ := St.textsForm HT.out
      have HQ := Lib.hid (formatThings_any 20 A1 (numTexts xs) cap1 wr HS hxs (by rw [hnl]; omega))
      rw [HF.out] at HQ
      clear HS hxs HT HR
      rw [hnl] at HQ
      have HNL : Hid ((numTexts xs).length = xs.length) := hnl
      clear hnl HF
      generalize hgt : numTexts xs = ts at *
      clear hgt
      have hts : ts.length = xs.length := HNL.out
      clear hts
      rw [HNL.out]
      go_wp2_with fail
      refine HQ.out.mono ?_
      rintro e w3 ⟨rfl, hb3⟩
      have HB3 := Lib.hid (HB.out.trans (hb3.mono HB.out.size))
      clear hb3
      go_wp2
      go_ret
      exact ⟨rfl, HB3.out⟩

end Go.Proofs.YtdbddockmdkmeaaDoor
