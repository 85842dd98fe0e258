/- The reference cuts a text. -/
import Derived.Test.YtdbddockmdkmeaaDoorMj
import Derived.Test.YtdbddockmdkmeaaDoorTx
namespace Go.Proofs.YtdbddockmdkmeaaDoor
open Go.RowKit

set_option maxRecDepth 100000 in
/-- Texts put behind texts: append, where what is put behind lies somewhere else. -/
theorem wp_app12 {ops : Array Oper} {rest : List Oper} {o : Oper} {a : Act} {Q : Exit → Act → World → Prop} (hgd : o.guard = none) (S X : Operand)
    (ho : o.op = Op.call { callee := Callee.builtin Builtin.append, args := #[S, X], argTypes := #[79, 79] })
    (B : Nat) (v : Value) (ts : List ByteArray) (W : World) (hs : a.eval S = v) (hown : OwnTexts W B v ts) (htl : ts.length ≤ 100000000) (hB : B ≤ W.heap.size)
    (g off m c : Nat) (us : List ByteArray) (hx : a.eval X = .slice (some ⟨g, off, none⟩) m c) (hm : us.length = m) (hul : us.length ≤ 1000)
    (hnew : ∀ j x, us[j]? = some x → W.cell? ⟨g, off + j, none⟩ = some (.string x))
    (h : ∀ v' w', OwnTexts w' B v' (ts ++ us) → Below B W w' → (∀ k, k < W.heap.size → v.ownBlock ≠ some k → w'.heap[k]? = W.heap[k]?) → (v' = .slice none 0 0 ↔ v = .slice none 0 0 ∧ m = 0) → wpList Tryd.prog ops Q rest (a.put o.dst v') w') :
    wpList Tryd.prog ops Q (o :: rest) a W := by
  obtain ⟨i0, hi, hz0, hz1, hz2⟩ := info_parts info_str
  refine wpList_append_own W hgd S X 79 ho B 9 i0 (.string ByteArray.empty) 1 16 Tryd.underlying79 hi hz0 hz1 hz2 rfl (by decide) v ts.length (ts.map Value.string) hs hown ⟨g, off, none⟩ m c (us.map Value.string) hx (by rw [List.length_map, hm, Nat.mul_one]) ?_ ?_ (by unfold maxLen; omega) (by omega) hB ?_
  · intro j u hj
    rw [List.getElem?_map] at hj
    rw [Addr.add_lit]
    cases hu : us[j]? with
    | none => rw [hu] at hj; cases hj
    | some x =>
      rw [hu] at hj
      injection hj with hj
      rw [← hj]
      exact hnew j x hu
  · intro u hu
    obtain ⟨x, _, rfl⟩ := List.mem_map.1 hu
    rfl
  · intro v' w' h1 h2 h3
    refine h v' w' ?_ ?_ ?_ h3
    · show w'.ownsRow B _ 1 v' (ts ++ us).length ((ts ++ us).map Value.string)
      rw [List.length_append, List.map_append, hm]
      exact h1
    · exact (Below.refl B W).grown h2 hB (fun k e => (World.ownsRow.lt hown k e).1)
    · exact fun k hk hne => h2.block k hk (fun e => hne e.symm)


/-- What stands after i steps: the pieces, and where the next one begins. -/
def cutSt (s : ByteArray) (c : UInt8) : Nat → List ByteArray × Nat
  | 0 => ([], 0)
  | i + 1 => if (i == s.size || s.data.toList.getD i 0 == c) = true then ((cutSt s c i).1 ++ [s.extract (cutSt s c i).2 i], i + 1) else cutSt s c i
def cutRes (s : ByteArray) (c : UInt8) : List ByteArray := (cutSt s c (s.size + 1)).1
theorem cutSt_le (s : ByteArray) (c : UInt8) : ∀ i, (cutSt s c i).2 ≤ i ∧ (cutSt s c i).1.length ≤ i
  | 0 => ⟨Nat.le_refl _, Nat.le_refl _⟩
  | i + 1 => by
    have h := cutSt_le s c i
    show (if _ then _ else _ : List ByteArray × Nat).2 ≤ _ ∧ (if _ then _ else _ : List ByteArray × Nat).1.length ≤ _
    split
    · exact ⟨Nat.le_refl _, by rw [List.length_append]; show _ + 1 ≤ _; omega⟩
    · exact ⟨by omega, by omega⟩
theorem at12 (s : ByteArray) (i : Nat) (h : i < s.size) : s.data.toList.getD i 0 = s[i] := by
  have h' : i < s.data.toList.length := by simpa using h
  rw [List.getD_eq_getElem?_getD, List.getElem?_eq_getElem h']
  simp
  rfl

set_option maxRecDepth 100000 in
set_option maxHeartbeats 1000000 in
theorem l13Cut_any (s : ByteArray) (c : UInt8) (w : World) (hs : s.size ≤ 1048576) :
    Calls Tryd.prog 92 #[.string s, .int .u8 c.toNat] w fun e w' => (∃ v, e = .returned v ∧ OwnTexts w' w.heap.size v (cutRes s c)) ∧ Below w.heap.size w w' := by
  have HO1 : Hid (OwnTexts (w.alloc (.cells #[] 9)) w.heap.size (.slice (some ⟨w.heap.size, 0, none⟩) 0 0) (cutSt s c 0).1) := OwnTexts.empty w (Nat.le_refl _)
  have HB1 : Hid (Below w.heap.size w (w.alloc (.cells #[] 9))) := (Below.refl _ w).alloc (Nat.le_refl _) _
  have HLE := Lib.hid (cutSt_le s c)
  have HNX : Hid (∀ i, cutSt s c (i + 1) = if (i == s.size || s.data.toList.getD i 0 == c) = true then ((cutSt s c i).1 ++ [s.extract (cutSt s c i).2 i], i + 1) else cutSt s c i) := fun i => rfl
  have HRS : Hid (cutRes s c = (cutSt s c (s.size + 1)).1) := rfl
  have HZ : Hid ((cutSt s c 0).2 = 0) := rfl
  generalize cutRes s c = R at *
  generalize cutSt s c = st at *
  go_enter Tryd.func92, Tryd.ntmps92
  go_wp2
  go_loopw [5, 6, 7] (fun v f i wr => ∃ (k m : Nat), f = .int .i64 m ∧ i = .int .i64 k ∧ k ≤ s.size + 1 ∧ m ≤ k ∧ Hid (m = (st k).2) ∧ Hid (OwnTexts wr w.heap.size v (st k).1) ∧ Hid (Below w.heap.size w wr))
    (fun _ _ i _ => s.size + 1 - (intOf i).toNat)
  case atStart => exact ⟨0, 0, rfl, rfl, by omega, by omega, Lib.hid HZ.out.symm, HO1, HB1⟩
  case round =>
    obtain ⟨k, m, rfl, rfl, hk, hm, HM, HO, HB⟩ := hrel
    clear HO1 HB1 HZ
    obtain ⟨A1, cap1, rfl, -⟩ := St.textsForm HO.out
    have hz := HB.out.size
    by_cases hlt : k ≤ s.size
    · have hlt' : (k : Int) ≤ (s.size : Int) := by omega
      have hml : (m : Int) ≤ (k : Int) := by omega
      have hm0 : (0 : Int) ≤ (m : Int) := Int.natCast_nonneg _
      have hk0 : (0 : Int) ≤ (k : Int) := Int.natCast_nonneg _
      have htl := (HLE.out k).2
      have HN := Lib.hid (HNX.out k)
      obtain ⟨ts, HTS⟩ : ∃ ts, Hid (ts = (st k).1) := ⟨_, rfl⟩
      rw [← HTS.out] at HO htl
      rw [← HTS.out]
      have HT6 : Hid (OwnTexts (wr.alloc (.cells #[.string (s.extract m k)] 9)) w.heap.size (.slice A1 ts.length cap1) ts) := HO.out.below ((Below.refl _ wr).alloc (Nat.le_refl _) _)
      have HN6 : Hid (∀ j x, [s.extract m k][j]? = some x → (wr.alloc (.cells #[.string (s.extract m k)] 9)).cell? ⟨wr.heap.size, 0 + j, none⟩ = some (.string x)) := by
        intro j x hj
        have hj0 : j = 0 := by have := (List.getElem?_eq_some_iff.1 hj).1; simp at this; omega
        subst hj0
        simp at hj
        subst hj
        exact Row.cell (Row.new wr 9 #[.string (s.extract m k)]) 0
      by_cases heq : k = s.size
      · have hc1 : ((k : Int) == (s.size : Int)) = true := by rw [heq]; simp
        have HST : Hid (st (k + 1) = (ts ++ [s.extract m k], k + 1)) := by
          show _ = _
          rw [HN.out, if_pos (by rw [heq]; simp), ← HTS.out, ← HM.out]
        clear heq HN HTS HM
        go_wp2_with (at_builtin; go_loud (refine wp_app12 rfl (.tmp 26) (.tmp 31) rfl w.heap.size _ ts _ rfl HT6.out (by omega) (by simp; omega) wr.heap.size 0 1 1 [s.extract m k] rfl rfl (by simp) HN6.out ?_); intro v7 w7 ho7 hb7 _ _; have HO7 := Lib.hid ho7; have HB7 : Hid (Below w.heap.size w w7) := (HB.out.alloc hz _).trans hb7; clear ho7 hb7 HN6 HT6 HO HB)
        go_roundw
        case rel => exact ⟨k + 1, k + 1, by go_num, by go_num, by omega, by omega, by rw [HST.out]; exact Lib.hid rfl, by rw [HST.out]; exact HO7, HB7⟩
        case measure => simp [intOf]; omega
      · have hlt2 : k < s.size := by omega
        have hlt3 : (k : Int) < (s.size : Int) := by omega
        have hc1 : ((k : Int) == (s.size : Int)) = false := by rw [beq_eq_false_iff_ne]; omega
        have hat := at12 s k hlt2
        by_cases he : s[k] = c
        · have ht : ((s[k].toNat : Int) == (c.toNat : Int)) = true := by rw [he]; simp
          have HST : Hid (st (k + 1) = (ts ++ [s.extract m k], k + 1)) := by
            show _ = _
            rw [HN.out, if_pos (by rw [hat, he]; simp), ← HTS.out, ← HM.out]
          clear heq HN HTS HM he hat
          go_wp2_with (at_builtin; go_loud (refine wp_app12 rfl (.tmp 26) (.tmp 31) rfl w.heap.size _ ts _ rfl HT6.out (by omega) (by simp; omega) wr.heap.size 0 1 1 [s.extract m k] rfl rfl (by simp) HN6.out ?_); intro v7 w7 ho7 hb7 _ _; have HO7 := Lib.hid ho7; have HB7 : Hid (Below w.heap.size w w7) := (HB.out.alloc hz _).trans hb7; clear ho7 hb7 HN6 HT6 HO HB)
          go_roundw
          case rel => exact ⟨k + 1, k + 1, by go_num, by go_num, by omega, by omega, by rw [HST.out]; exact Lib.hid rfl, by rw [HST.out]; exact HO7, HB7⟩
          case measure => simp [intOf]; omega
        · have ht : ((s[k].toNat : Int) == (c.toNat : Int)) = false := by
            rw [beq_eq_false_iff_ne]
            exact fun e => he (UInt8.toNat_inj.1 (by omega))
          have HST : Hid (st (k + 1) = st k) := by
            show _ = _
            rw [HN.out, if_neg (by rw [hat]; simp; exact ⟨heq, he⟩)]
          have HM2 : Hid (m = (st (k + 1)).2) := by show _ = _; rw [HST.out]; exact HM.out
          have HO2 : Hid (OwnTexts wr w.heap.size (.slice A1 ts.length cap1) (st (k + 1)).1) := by rw [HST.out, ← HTS.out]; exact HO
          clear heq HN HTS HM he hat HT6 HN6
          go_wp2
          go_roundw
          case rel => exact ⟨k + 1, m, rfl, by go_num, by omega, by omega, HM2, HO2, HB⟩
          case measure => simp [intOf]; omega
    · have hke : k = s.size + 1 := by omega
      have HR : Hid (R = (st k).1) := by show _ = _; rw [HRS.out, hke]
      have hlt' : ¬ (k : Int) ≤ (s.size : Int) := by omega
      clear HRS hke
      go_wp2
      go_ret
      exact ⟨⟨_, rfl, by rw [HR.out]; exact HO.out⟩, HB.out⟩

end Go.Proofs.YtdbddockmdkmeaaDoor
