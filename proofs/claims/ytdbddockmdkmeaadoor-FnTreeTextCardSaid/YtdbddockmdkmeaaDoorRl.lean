/- The reference's reader: segment, by induction. -/
import Derived.Test.YtdbddockmdkmeaaDoorRj
import Derived.IntWalk
namespace Go.Proofs.YtdbddockmdkmeaaDoor
open Go.RowKit

theorem tw_mem (p : UInt8 → Bool) : ∀ (r : List UInt8) (x : UInt8), x ∈ r.takeWhile p → p x = true
  | [], x, h => by simp at h
  | c :: r, x, h => by
    rw [List.takeWhile_cons] at h
    by_cases hc : p c = true
    · rw [if_pos hc] at h
      rcases List.mem_cons.1 h with rfl | h
      · exact hc
      · exact tw_mem p r x h
    · rw [if_neg hc] at h
      cases h
theorem OwnTree.alloc {w : World} {B : Nat} {v : Value} {tr : List Seg} (h : OwnTree w B v tr) (o : Obj) : OwnTree (w.alloc o) B v tr := h.far fun g hg => Below.heap_alloc w o g (World.ownsRow.lt h g hg).2
/-- The number that stands between two places. -/
theorem l13Num_at (t : ByteArray) (a j : Nat) (w : World) (ha : a ≤ j) (hj : j ≤ t.size) (hz : j ≤ a + 3) (hd : digs (t.data.toList.drop a) = (t.data.toList.drop a).take (j - a)) :
    Calls Tryd.prog 93 #[.string (t.extract a j)] w fun e w' => e = .returned (.tuple #[.int .i64 (numB (digs (t.data.toList.drop a))), .bool (numOk (digs (t.data.toList.drop a)))]) ∧ w' = w := by
  have e : (t.extract a j).data.toList = digs (t.data.toList.drop a) := by rw [Lib.extract_data, hd]
  have hs : (t.extract a j).size = j - a := by
    rw [Lib.size_eq, e, hd, List.length_take, List.length_drop]
    have h2 : t.data.toList.length = t.size := by simp
    rw [h2]
    omega
  have h := l13Num_digs (t.extract a j) w (fun i hi => by
    have hm : ∀ (s : ByteArray) (h : i < s.size), s[i] ∈ s.data.toList := fun s h => by
      have h3 : s[i] = s.data.toList[i]'(by simpa using h) := by simp; rfl
      rw [h3]
      exact List.getElem_mem _
    have hm := hm _ hi
    rw [e] at hm
    exact tw_mem isDig _ _ hm) (by omega)
  rw [e] at h
  exact h.mono fun e w' ⟨h1, h2⟩ => ⟨h1, h2.symm⟩

theorem inB_dig (c : UInt8) : inB c.toNat 48 57 = isDig c := by
  unfold inB isDig
  congr 1 <;> (apply decide_eq_decide.2; omega)
theorem l1In_dig (c : UInt8) (w : World) :
    Calls Tryd.prog 62 #[.int .i64 c.toNat, .int .i64 48, .int .i64 57] w fun e w' => e = .returned (.bool (isDig c)) ∧ w' = w := by
  refine (l1In_any _ _ _ _).mono ?_
  rintro e w' ⟨rfl, rfl⟩
  exact ⟨by rw [inB_dig], rfl⟩

set_option maxRecDepth 100000 in
set_option maxHeartbeats 20000000 in
theorem segment_any (B b : Nat) (t : ByteArray) (ht : t.size ≤ 1048576) : ∀ (f k : Nat) (p : Int) (bad : Bool) (tr : List Seg) (v : Value) (w : World), 10 ≤ f + tr.length → k ≤ t.size → B ≤ b →
    Row w b 82 #[.string t, .int .i64 k, .bool bad, v] → OwnTree w B v tr →
    Calls Tryd.prog 69 #[.pointer (some ⟨b, 0, none⟩), .int .i64 p] w (SpecPost w B b t k (sSeg f ⟨t.data.toList.drop k, bad, tr⟩ p)) := by
  intro f
  induction f with
  | zero => exact fun k p bad tr v w hl hk hBb hr hown => segment_not B b t 0 k p bad tr v w hk hBb hr hown (.inr (.inl (by omega)))
  | succ f ih =>
    intro k p bad tr v w hl hk hBb hr hown
    by_cases hnot : bad = true ∨ 8 < tr.length ∨ k = t.size
    · exact segment_not B b t (f + 1) k p bad tr v w hk hBb hr hown hnot
    have hbad : bad = false := by
      cases bad with
      | true => exact absurd (.inl rfl) hnot
      | false => rfl
    subst hbad
    have h8 : tr.length ≤ 8 := Nat.le_of_not_lt fun h => hnot (.inr (.inl h))
    have hlt : k < t.size := Nat.lt_of_le_of_ne hk fun h => hnot (.inr (.inr h))
    clear hnot
    have hd : t.data.toList.drop k = t[k] :: t.data.toList.drop (k + 1) := List.drop_eq_getElem_cons (by simpa using hlt)
    have hx : t.extract k (k + 1) = ⟨#[t[k]]⟩ := by
      rw [Lib.extract_eq, hd]
      simp
    obtain ⟨A, cap, rfl, -⟩ := hown.form
    have c0 : w.cell? ⟨b, 0, none⟩ = some (.string t) := hr.cell 0
    have c1 : w.cell? ⟨b, 1, none⟩ = some (.int .i64 k) := hr.cell 1
    have c2 : w.cell? ⟨b, 2, none⟩ = some (.bool false) := hr.cell 2
    have c3 : w.cell? ⟨b, 3, none⟩ = some (.slice A tr.length cap) := hr.cell 3
    have z1 : w.frozen? ⟨b, 1, none⟩ = false := hr.free 1
    have HR := Lib.hid hr
    have HO := Lib.hid hown
    have IH := Lib.hid ih
    have HD := Lib.hid hd
    have HX := Lib.hid hx
    have hk0 : (0 : Int) ≤ (k : Int) := Int.natCast_nonneg _
    have hk1 : (k : Int) < (t.size : Int) := by omega
    have g1 : decide (t.size ≤ k) = false := decide_eq_false (by omega)
    have g2 : decide (8 < tr.length) = false := decide_eq_false (by omega)
    have g3 : ¬ (t.size : Int) ≤ (k : Int) := by omega
    have g4 : ¬ (8 : Int) < (tr.length : Int) := by omega
    clear hr hown ih hd hx
    go_enter Tryd.func69, Tryd.ntmps69
    go_wp2_with fail
    go_quiet (fail)
    obtain ⟨q1, rfl⟩ : ∃ q, q = nq := ⟨nq, rfl⟩
    go_wp2_with fail
    have s1 : IntKind.i64.wrap ((k : Int) + 1) = (k : Int) + 1 := IntWalk.i64_in _ (by omega)
    have s2 : (0 : Int) ≤ (k : Int) + 1 := by omega
    have s3 : ((k : Int) + 1).toNat = k + 1 := by omega
    have s4 : (k : Int) ≤ (k : Int) + 1 := by omega
    have s5 : (k : Int) + 1 ≤ (t.size : Int) := by omega
    go_quiet (fail)
    go_wp2_with fail
    rw [HX.out]
    have HR1 : Hid (Row ((w.drewN (q1 + nq)).setCell ⟨b, 1, none⟩ (.int .i64 ((k : Int) + 1))) b 82 #[.string t, .int .i64 ((k + 1 : Nat) : Int), .bool false, .slice A tr.length cap]) := Row.put (w := w.drewN (q1 + nq)) HR.out 1 _
    have HO1 : Hid (OwnTree ((w.drewN (q1 + nq)).setCell ⟨b, 1, none⟩ (.int .i64 ((k : Int) + 1))) B (.slice A tr.length cap) tr) := OwnTree.set (w := w.drewN (q1 + nq)) HO.out HR.out (by decide) 1 _
    have HB1 : Hid (Below B w ((w.drewN (q1 + nq)).setCell ⟨b, 1, none⟩ (.int .i64 ((k : Int) + 1)))) := (below_drewN (Below.refl B w) _).setCell hBb _
    generalize (w.drewN (q1 + nq)).setCell ⟨b, 1, none⟩ (.int .i64 ((k : Int) + 1)) = W1 at *
    clear c0 c1 c2 c3 z1 g1 g2 g3 g4 s1 s2 s3 s4 s5 HR HO HX
    generalize t[k] = c at *
    go_loopw [61] (fun _ wr => ∃ (j : Nat), k + 1 ≤ j ∧ j ≤ t.size ∧ j ≤ k + 1 + 3 ∧ Hid (∀ i, k + 1 ≤ i → ∀ h : i < t.size, i < j → isDig t[i] = true) ∧ Hid (Row wr b 82 #[.string t, .int .i64 j, .bool false, .slice A tr.length cap]) ∧
        Hid (OwnTree wr B (.slice A tr.length cap) tr) ∧ Hid (Below B w wr) ∧ wr.cell? ⟨b, 1, none⟩ = some (.int .i64 j))
      (fun _ wr => leftAt t b wr)
    case atStart => exact ⟨k + 1, Nat.le_refl _, by omega, by omega, fun i h1 _ h2 => absurd h2 (by omega), HR1, HO1, HB1, HR1.out.cell 1⟩
    case round =>
      obtain ⟨j, hj1, hj2, hj3, HDG, HR, HO, HB, c1⟩ := hrel
      clear HR1 HO1 HB1
      have c0 : wr.cell? ⟨b, 0, none⟩ = some (.string t) := HR.out.cell 0
      have c2 : wr.cell? ⟨b, 2, none⟩ = some (.bool false) := HR.out.cell 2
      have c3 : wr.cell? ⟨b, 3, none⟩ = some (.slice A tr.length cap) := HR.out.cell 3
      have z1 : wr.frozen? ⟨b, 1, none⟩ = false := HR.out.free 1
      have z2 : wr.frozen? ⟨b, 2, none⟩ = false := HR.out.free 2
      have z3 : wr.frozen? ⟨b, 3, none⟩ = false := HR.out.free 3
      have LM := Lib.hid (leftAt_of (t := t) c1)
      have hj0 : (0 : Int) ≤ (j : Int) := Int.natCast_nonneg _
      have w3 : IntKind.i64.wrap ((k : Int) + 1 + 3) = (k : Int) + 1 + 3 := IntWalk.i64_in _ (by omega)
      by_cases hgo : ∃ h : j < t.size, isDig t[j] = true ∧ j < k + 1 + 3
      · obtain ⟨hjl, hdj, hj4⟩ := hgo
        have a1 : decide (j < t.size) = true := decide_eq_true hjl
        have a2 : (j : Int) < (t.size : Int) := by omega
        have a3 : (j : Int) < (k : Int) + 1 + 3 := by omega
        have a4 : (t[j].toNat : Int) < 256 := by have := t[j].toNat_lt; omega
        have HN : Hid (∀ i, k + 1 ≤ i → ∀ h : i < t.size, i < j + 1 → isDig t[i] = true) := fun i h1 h2 h3 => by
          rcases Nat.lt_or_ge i j with h4 | h4
          · exact HDG.out i h1 h2 h4
          · obtain rfl : i = j := by omega
            exact hdj
        have HL := Lib.hid (fun w => (by have h := l1In_dig t[j] w; rw [hdj] at h; exact h : Calls Tryd.prog 62 #[.int .i64 (t[j].toNat : Int), .int .i64 48, .int .i64 57] w fun e w' => e = .returned (.bool true) ∧ w' = w))
        clear hdj
        go_wp2_with fail
        go_quiet ((go_at_call 62; exact Calls.quiet_of_same (HL.out _)))
        go_wp2
        go_roundw
        case rel =>
          have hrow := fun q => Row.put (w := wr.drewN q) HR.out 1 (.int .i64 ((j : Int) + 1))
          exact ⟨j + 1, by omega, by omega, by omega, HN, hrow _, OwnTree.set (w := wr.drewN _) HO.out HR.out (by decide) 1 _, (below_drewN HB.out _).setCell hBb _, Row.cell (hrow _) 1⟩
        case measure =>
          have hrow := fun q => Row.put (w := wr.drewN q) HR.out 1 (.int .i64 ((j : Int) + 1))
          rw [LM.out, leftAt_of (k := j + 1) (Row.cell (hrow _) 1)]
          omega
      · have HE := Lib.hid (digs_at hj1 hj2 hj3 HDG.out (by
          rcases Nat.lt_or_ge j t.size with h1 | h1
          · by_cases h2 : isDig t[j] = true
            · exact .inl (by have : ¬ j < k + 1 + 3 := fun h3 => hgo ⟨h1, h2, h3⟩
                             omega)
            · exact .inr (.inr ⟨h1, by simpa using h2⟩)
          · exact .inr (.inl h1)))
        have HN13 := Lib.hid (fun w => l13Num_at t (k + 1) j w hj1 hj2 hj3 HE.out.1)
        have HEL := Lib.hid HE.out.2
        have s2 : (0 : Int) ≤ (k : Int) + 1 := by omega
        have s3 : ((k : Int) + 1).toNat = k + 1 := by omega
        have s4 : (k : Int) + 1 ≤ (j : Int) := by omega
        have s5 : (j : Int) ≤ (t.size : Int) := by omega
        have hex : (∃ h1 : j < t.size, isDig t[j] = true ∧ ¬ j < k + 1 + 3) ∨ (∃ h1 : j < t.size, isDig t[j] = false) ∨ t.size ≤ j := by
          rcases Nat.lt_or_ge j t.size with h1 | h1
          · by_cases h2 : isDig t[j] = true
            · exact .inl ⟨h1, h2, fun h3 => hgo ⟨h1, h2, h3⟩⟩
            · exact .inr (.inl ⟨h1, by simpa using h2⟩)
          · exact .inr (.inr h1)
        clear hgo HE HDG
        rcases hex with ⟨h1, h2, h3⟩ | ⟨h1, h2⟩ | h1
        case' inl =>
          have a1 : decide (j < t.size) = true := decide_eq_true h1
          have a2 : (j : Int) < (t.size : Int) := by omega
          have a3 : ¬ (j : Int) < (k : Int) + 1 + 3 := by omega
          have a4 : (t[j].toNat : Int) < 256 := by have := t[j].toNat_lt; omega
          have a5 : decide ((j : Int) < (k : Int) + 1 + 3) = false := decide_eq_false a3
          have HL := Lib.hid (fun w => (by have h := l1In_dig t[j] w; rw [h2] at h; exact h : Calls Tryd.prog 62 #[.int .i64 (t[j].toNat : Int), .int .i64 48, .int .i64 57] w fun e w' => e = .returned (.bool true) ∧ w' = w))
          clear h2 h3
        case' inr.inl =>
          have a1 : decide (j < t.size) = true := decide_eq_true h1
          have a2 : (j : Int) < (t.size : Int) := by omega
          have a4 : (t[j].toNat : Int) < 256 := by have := t[j].toNat_lt; omega
          have HL := Lib.hid (fun w => (by have h := l1In_dig t[j] w; rw [h2] at h; exact h : Calls Tryd.prog 62 #[.int .i64 (t[j].toNat : Int), .int .i64 48, .int .i64 57] w fun e w' => e = .returned (.bool false) ∧ w' = w))
          clear h2
        case' inr.inr =>
          have a1 : decide (j < t.size) = false := decide_eq_false (by omega)
          have a2 : ¬ (j : Int) < (t.size : Int) := by omega
        all_goals
          go_wp2_with fail
          go_quiet ((go_at_call 62; exact Calls.quiet_of_same (HL.out _)))
          go_wp2_with fail
          have HR2 : Hid (Row (wr.drewN nq) b 82 #[.string t, .int .i64 j, .bool false, .slice A tr.length cap]) := HR
          have HO2 : Hid (OwnTree (wr.drewN nq) B (.slice A tr.length cap) tr) := HO
          have HB2 : Hid (Below B w (wr.drewN nq)) := below_drewN HB.out nq
          clear c0 c1 c2 c3 z1 z2 z3 LM w3 HR HO HB
          generalize wr.drewN nq = W2 at *
          try clear HL
          try clear a5
          try clear a4
          try clear a3
          try generalize ((k : Int) + 1 + 3) = k13 at *
          try generalize t[j].toNat = cj at *
          try clear a1
          try clear a2
          try clear h1
          have c0 : W2.cell? ⟨b, 0, none⟩ = some (.string t) := HR2.out.cell 0
          have c1 : W2.cell? ⟨b, 1, none⟩ = some (.int .i64 j) := HR2.out.cell 1
          have c2 : W2.cell? ⟨b, 2, none⟩ = some (.bool false) := HR2.out.cell 2
          have c3 : W2.cell? ⟨b, 3, none⟩ = some (.slice A tr.length cap) := HR2.out.cell 3
          have z2 : W2.frozen? ⟨b, 2, none⟩ = false := HR2.out.free 2
          have hbw := HR2.out.lt
          have hBw : B ≤ W2.heap.size := by omega
          have HNE := Lib.hid (HO2.out.ne HR2.out (by decide))
          go_quiet ((go_at_call 93; exact Calls.quiet_of_same (HN13.out _)))
          generalize hDS : digs (t.data.toList.drop (k + 1)) = ds at *
          have HDS := Lib.hid hDS
          clear hDS c1 HN13 s2 s3 s4 s5
          have HR3 : Hid (Row ((W2.drewN nq).setCell ⟨b, 2, none⟩ (.bool (!numOk ds))) b 82 #[.string t, .int .i64 j, .bool (!numOk ds), .slice A tr.length cap]) := Row.put (w := W2.drewN nq) HR2.out 2 (.bool (!numOk ds))
          have HO3 : Hid (OwnTree ((W2.drewN nq).setCell ⟨b, 2, none⟩ (.bool (!numOk ds))) B (.slice A tr.length cap) tr) := OwnTree.set (w := W2.drewN nq) HO2.out HR2.out (by decide) 2 _
          have HB3 : Hid (Below B w ((W2.drewN nq).setCell ⟨b, 2, none⟩ (.bool (!numOk ds)))) := (below_drewN HB2.out nq).setCell hBb _
          have HNW := Lib.hid (by
            have h := World.news_of_block (cs := #[.string ⟨#[c]⟩, .int .i64 (numB ds), .int .i64 p]) (t := 66) (fr := (0, 0)) (heap_alloc_new ((W2.drewN nq).setCell ⟨b, 2, none⟩ (.bool (!numOk ds))) (.cells #[.string ⟨#[c]⟩, .int .i64 (numB ds), .int .i64 p] 66))
            rw [size_set] at h
            exact h : ∀ i u, [Value.string ⟨#[c]⟩, .int .i64 (numB ds), .int .i64 p][i]? = some u → (((W2.drewN nq).setCell ⟨b, 2, none⟩ (.bool (!numOk ds))).alloc (.cells #[.string ⟨#[c]⟩, .int .i64 (numB ds), .int .i64 p] 66)).cell? ((⟨W2.heap.size, 0, none⟩ : Addr).add i) = some u)
          obtain ⟨i0, hi0, hz0, hz1, hz2⟩ := info_parts info_seg
          have I0 := Lib.hid hi0
          have Z0 := Lib.hid hz0
          have Z1 := Lib.hid hz1
          have Z2 := Lib.hid hz2
          clear hi0 hz0 hz1 hz2
          go_wp2_with (at_builtin; refine wpList_append_own_at _ rfl _ _ 23 rfl B 66 i0 zeroSeg 3 32 Tryd.underlying23 I0.out Z0.out Z1.out Z2.out rfl (by decide) _ _ _ rfl (HO3.out.alloc (.cells #[.string ⟨#[c]⟩, .int .i64 (numB ds), .int .i64 p] 66)) ⟨W2.heap.size, 0, none⟩ 1 1 [.string ⟨#[c]⟩, .int .i64 (numB ds), .int .i64 p] rfl rfl HNW.out (by simp [Value.oneCell']) (by unfold maxLen; omega) (by omega) (by simp; omega) ?_; intro v3 w3 hown3 hgrow _ _; obtain ⟨g3, cap3, rfl, hg3, hlt3⟩ := hown3.form (by omega); have hrow3 : Row w3 b 82 #[.string t, .int .i64 j, .bool (!numOk ds), .slice A tr.length cap] := (hgrow.block b (by simp; omega) (fun he => HNE.out b he.symm rfl)).trans (HR3.out.alloc _); have d3 : w3.cell? ⟨b, 3, none⟩ = some (.slice A tr.length cap) := hrow3.cell 3; have y3 : w3.frozen? ⟨b, 3, none⟩ = false := hrow3.free 3; have hb3 := Lib.hid hgrow; have HO4 := Lib.hid hown3; have HR4 := Lib.hid hrow3; clear hown3 hgrow hrow3)
          have hT5 : OwnTree w3 B (.slice (some ⟨g3, 0, none⟩) (tr.length + 1) cap3) (tr ++ [⟨⟨#[c]⟩, numB ds, p⟩]) := by
            unfold OwnTree
            rw [segCells_snoc, List.length_append]
            exact HO4.out
          have HT5 := Lib.hid (hT5.far (w' := w3.setCell ⟨b, 3, none⟩ (.slice (some ⟨g3, 0, none⟩) (tr.length + 1) cap3)) (fun g hg => Below.heap_setCell w3 ⟨b, 3, none⟩ _ g (hT5.ne HR4.out (by decide) g hg)))
          have HR5 : Hid (Row (w3.setCell ⟨b, 3, none⟩ (.slice (some ⟨g3, 0, none⟩) (tr.length + 1) cap3)) b 82 #[.string t, .int .i64 j, .bool (!numOk ds), .slice (some ⟨g3, 0, none⟩) (tr.length + 1) cap3]) := HR4.out.put 3 _
          have HB5 : Hid (Below B w (w3.setCell ⟨b, 3, none⟩ (.slice (some ⟨g3, 0, none⟩) (tr.length + 1) cap3))) := ((HB3.out.alloc (by simp; omega) _).grown hb3.out (by simp; omega) (fun k e => (World.ownsRow.lt HO3.out k e).1)).setCell hBb _
          clear hT5 HO4 HR4 hb3 HO3 HR3 HB3 HNE HNW I0 Z0 Z1 Z2 c0 c2 c3 z2 d3 y3 hg3 hlt3 HR2 HO2 HB2 hBw hbw
          generalize w3.setCell ⟨b, 3, none⟩ (.slice (some ⟨g3, 0, none⟩) (tr.length + 1) cap3) = W5 at *
          have hlen1 : 10 ≤ f + (tr ++ [(⟨⟨#[c]⟩, numB ds, p⟩ : Seg)]).length := by simp; omega
          have hjl : (digs (t.data.toList.drop (k + 1))).length = j - (k + 1) := by rw [HDS.out]; exact HEL.out
          have HJL := Lib.hid hjl
          clear hjl
          have HX := Lib.hid (sees_any b t j (!numOk ds) _ 40 W5 HR5.out hj2 ht)
          refine Calls.mono HX.out ?_
          clear HX
          cases hnx : nextB t j 40 with
          | false =>
            have HS : Hid (sSeg (f + 1) ⟨t.data.toList.drop k, false, tr⟩ p = ⟨t.data.toList.drop j, !numOk ds, tr ++ [⟨⟨#[c]⟩, numB ds, p⟩]⟩) := by
              have h := sSeg_no (f := f) (p := p) h8 HD.out HJL.out hj1 hnx
              unfold grow1 at h
              rw [HDS.out] at h
              exact h
            rintro e w6 ⟨rfl, ho6, hr6⟩
            rw [stepB_no hnx] at hr6
            have HT6 := Lib.hid (HT5.out.only HR5.out (by decide) ho6)
            have HR6 := Lib.hid hr6
            have HB6 := Lib.hid (Only.below HB5.out ho6 (by have := HR5.out.lt; omega) (fun k h1 => by omega))
            clear hr6 ho6 hnx
            go_wp2
            refine bodyPost_ret (results_none rfl _ _ _) rfl ?_
            rw [HS.out]
            exact ⟨rfl, j, _, rfl, by omega, hj2, HR6.out, HT6.out, HB6.out⟩
          | true =>
            obtain ⟨hd2, hlt2⟩ := nextB_head hj2 hnx
            have HS2 : Hid (sSeg (f + 1) ⟨t.data.toList.drop k, false, tr⟩ p = sAfter f tr.length (sSeg f ⟨t.data.toList.drop (j + 1), !numOk ds, tr ++ [⟨⟨#[c]⟩, numB ds, p⟩]⟩ tr.length)) := by
              have h := sSeg_yes (f := f) (p := p) h8 HD.out HJL.out hj1 hd2
              unfold grow1 at h
              rw [HDS.out] at h
              exact h
            rintro e w6 ⟨rfl, ho6, hr6⟩
            rw [stepB_yes hnx] at hr6
            have HT6 := Lib.hid (HT5.out.only HR5.out (by decide) ho6)
            have HR6 := Lib.hid hr6
            have HB6 := Lib.hid (Only.below HB5.out ho6 (by have := HR5.out.lt; omega) (fun k h1 => by omega))
            clear hr6 ho6 hnx hd2 HT5 HR5 HB5
            go_wp2_with fail
            have HQ := Lib.hid (IH.out (j + 1) tr.length (!numOk ds) (tr ++ [⟨⟨#[c]⟩, numB ds, p⟩]) _ w6 hlen1 (by omega) hBb HR6.out HT6.out)
            refine Calls.mono HQ.out ?_
            rintro e w7 ⟨rfl, k3, v7, hrest, hk3, hk3s, hr7, ho7, hb7⟩
            have hgr := (sSeg_grows f ⟨t.data.toList.drop (j + 1), !numOk ds, tr ++ [⟨⟨#[c]⟩, numB ds, p⟩]⟩ tr.length).1.length_le
            generalize sSeg f ⟨t.data.toList.drop (j + 1), !numOk ds, tr ++ [⟨⟨#[c]⟩, numB ds, p⟩]⟩ tr.length = s7 at *
            obtain ⟨rest7, bad7, tr7⟩ := s7
            dsimp only at hrest hr7 ho7 hgr
            subst hrest
            have hl7 : 10 ≤ f + tr7.length := by omega
            have HS3 : Hid (sSeg (f + 1) ⟨t.data.toList.drop k, false, tr⟩ p = sKids (fun x => sSeg f x tr.length) (t.size - k3 + 1) ⟨t.data.toList.drop k3, bad7, tr7⟩) := by
              show _ = _
              rw [HS2.out]
              show sKids _ _ _ = _
              rw [List.length_drop]
              rfl
            have HR7 := Lib.hid hr7
            have HT7 := Lib.hid ho7
            have HB7 := Lib.hid (HB6.out.trans hb7)
            clear hr7 ho7 hb7 HQ HT6 HR6 HB6 HS2 hgr
            go_wp2
            go_loopw [143] (fun _ wr => ∃ (k4 g : Nat) (bad4 : Bool) (tr4 : List Seg) (v4 : Value), j + 1 ≤ k4 ∧ k4 ≤ t.size ∧ t.size < k4 + g ∧ 10 ≤ f + tr4.length ∧ Hid (sSeg (f + 1) ⟨t.data.toList.drop k, false, tr⟩ p = sKids (fun x => sSeg f x tr.length) g ⟨t.data.toList.drop k4, bad4, tr4⟩) ∧
                Hid (Row wr b 82 #[.string t, .int .i64 k4, .bool bad4, v4]) ∧ Hid (OwnTree wr B v4 tr4) ∧ Hid (Below B w wr) ∧ wr.cell? ⟨b, 1, none⟩ = some (.int .i64 k4))
              (fun _ wr => leftAt t b wr)
            case atStart => exact ⟨k3, t.size - k3 + 1, bad7, tr7, v7, hk3, hk3s, by omega, hl7, HS3, HR7, HT7, HB7, HR7.out.cell 1⟩
            case round =>
              obtain ⟨k4, g, bad4, tr4, v4, hk4j, hk4, hg, hl4, HI, HR, HT, HB, c1⟩ := hrel
              have LM := Lib.hid (leftAt_of (t := t) c1)
              clear c1 HS3 HR7 HT7 HB7
              obtain ⟨g', rfl⟩ : ∃ g', g = g' + 1 := ⟨g - 1, by omega⟩
              have HX := Lib.hid (sees_any b t k4 bad4 _ 44 _ HR.out hk4 ht)
              cases hn44 : nextB t k4 44 with
              | true =>
                obtain ⟨hd4, hlt4⟩ := nextB_head hk4 hn44
                have HI4 : Hid (sSeg (f + 1) ⟨t.data.toList.drop k, false, tr⟩ p = sKids (fun x => sSeg f x tr.length) g' (sSeg f ⟨t.data.toList.drop (k4 + 1), bad4, tr4⟩ tr.length)) := by
                  show _ = _
                  rw [HI.out, hd4]
                  exact sKids_comma
                clear hd4 HI
                go_wp2_with fail
                refine Calls.mono HX.out ?_
                rw [hn44]
                rintro e w8 ⟨rfl, ho8, hr8⟩
                rw [stepB_yes hn44] at hr8
                have HT8 := Lib.hid (HT.out.only HR.out (by decide) ho8)
                have HR8 := Lib.hid hr8
                have HB8 := Lib.hid (Only.below HB.out ho8 (by have := HR.out.lt; omega) (fun k h1 => by omega))
                clear hr8 ho8 hn44 HT HR HB HX
                go_wp2_with fail
                have HQ := Lib.hid (IH.out (k4 + 1) tr.length bad4 tr4 _ w8 hl4 (by omega) hBb HR8.out HT8.out)
                refine Calls.mono HQ.out ?_
                rintro e w9 ⟨rfl, k5, v9, hrest, hk5, hk5s, hr9, ho9, hb9⟩
                have hgr := (sSeg_grows f ⟨t.data.toList.drop (k4 + 1), bad4, tr4⟩ tr.length).1.length_le
                generalize sSeg f ⟨t.data.toList.drop (k4 + 1), bad4, tr4⟩ tr.length = s9 at *
                obtain ⟨rest9, bad9, tr9⟩ := s9
                dsimp only at hrest hr9 ho9 hgr
                subst hrest
                have hl9 : 10 ≤ f + tr9.length := by omega
                have HR9 := Lib.hid hr9
                have HT9 := Lib.hid ho9
                have HB9 := Lib.hid (HB8.out.trans hb9)
                clear hr9 ho9 hb9 HQ HT8 HR8 HB8 hgr
                go_wp2
                go_roundw
                case rel => exact ⟨k5, g', bad9, tr9, v9, by omega, hk5s, by omega, hl9, HI4, HR9, HT9, HB9, HR9.out.cell 1⟩
                case measure =>
                  rw [LM.out, leftAt_of (k := k5) (HR9.out.cell 1)]
                  omega
              | false =>
                have HO4 := Lib.hid (nextB_other hn44)
                go_wp2_with fail
                refine Calls.mono HX.out ?_
                rw [hn44]
                rintro e w8 ⟨rfl, ho8, hr8⟩
                rw [stepB_no hn44] at hr8
                have HT8 := Lib.hid (HT.out.only HR.out (by decide) ho8)
                have HR8 := Lib.hid hr8
                have HB8 := Lib.hid (Only.below HB.out ho8 (by have := HR.out.lt; omega) (fun k h1 => by omega))
                clear hr8 ho8 hn44 HT HR HB HX
                have c2 : w8.cell? ⟨b, 2, none⟩ = some (.bool bad4) := HR8.out.cell 2
                have z2 : w8.frozen? ⟨b, 2, none⟩ = false := HR8.out.free 2
                cases bad4 with
                | true =>
                  have HN : Hid (sSeg (f + 1) ⟨t.data.toList.drop k, false, tr⟩ p = ⟨t.data.toList.drop k4, true, tr4⟩) := by
                    show _ = _
                    rw [HI.out]
                    exact sKids_bad HO4.out
                  have hF : SpecPost w B b t k ⟨t.data.toList.drop k4, true, tr4⟩ (.returned (.tuple #[])) (w8.setCell ⟨b, 2, none⟩ (.bool true)) := ⟨rfl, k4, _, rfl, by omega, hk4, Row.put HR8.out 2 (.bool true), OwnTree.set HT8.out HR8.out (by decide) 2 _, HB8.out.setCell hBb _⟩
                  have HF := Lib.hid hF
                  clear hF
                  go_wp2
                  go_end0
                  rw [HN.out]
                  exact HF.out
                | false =>
                  go_wp2_with fail
                  have HX := Lib.hid (sees_any b t k4 false _ 41 w8 HR8.out hk4 ht)
                  refine Calls.mono HX.out ?_
                  cases hn41 : nextB t k4 41 with
                  | true =>
                    obtain ⟨hd4, hlt4⟩ := nextB_head hk4 hn41
                    have HN : Hid (sSeg (f + 1) ⟨t.data.toList.drop k, false, tr⟩ p = ⟨t.data.toList.drop (k4 + 1), false, tr4⟩) := by
                      show _ = _
                      rw [HI.out, hd4]
                      exact sKids_close
                    rintro e w9 ⟨rfl, ho9, hr9⟩
                    rw [stepB_yes hn41] at hr9
                    have HT9 := Lib.hid (HT8.out.only HR8.out (by decide) ho9)
                    have HB9 := Lib.hid (Only.below HB8.out ho9 (by have := HR8.out.lt; omega) (fun k h1 => by omega))
                    have hF : SpecPost w B b t k ⟨t.data.toList.drop (k4 + 1), false, tr4⟩ (.returned (.tuple #[])) (w9.setCell ⟨b, 2, none⟩ (.bool false)) := ⟨rfl, k4 + 1, _, rfl, by omega, by omega, Row.put hr9 2 (.bool false), OwnTree.set HT9.out hr9 (by decide) 2 _, HB9.out.setCell hBb _⟩
                    have HF := Lib.hid hF
                    clear hF
                    have e2 : w9.cell? ⟨b, 2, none⟩ = some (.bool false) := hr9.cell 2
                    have y2 : w9.frozen? ⟨b, 2, none⟩ = false := hr9.free 2
                    clear hr9 ho9 hn41 hd4
                    go_wp2
                    go_end0
                    rw [HN.out]
                    exact HF.out
                  | false =>
                    have HN : Hid (sSeg (f + 1) ⟨t.data.toList.drop k, false, tr⟩ p = ⟨t.data.toList.drop k4, true, tr4⟩) := by
                      show _ = _
                      rw [HI.out]
                      exact sKids_else HO4.out (nextB_other hn41)
                    rintro e w9 ⟨rfl, ho9, hr9⟩
                    rw [stepB_no hn41] at hr9
                    have HT9 := Lib.hid (HT8.out.only HR8.out (by decide) ho9)
                    have HB9 := Lib.hid (Only.below HB8.out ho9 (by have := HR8.out.lt; omega) (fun k h1 => by omega))
                    have hF : SpecPost w B b t k ⟨t.data.toList.drop k4, true, tr4⟩ (.returned (.tuple #[])) (w9.setCell ⟨b, 2, none⟩ (.bool true)) := ⟨rfl, k4, _, rfl, by omega, hk4, Row.put hr9 2 (.bool true), OwnTree.set HT9.out hr9 (by decide) 2 _, HB9.out.setCell hBb _⟩
                    have HF := Lib.hid hF
                    clear hF
                    have e2 : w9.cell? ⟨b, 2, none⟩ = some (.bool false) := hr9.cell 2
                    have y2 : w9.frozen? ⟨b, 2, none⟩ = false := hr9.free 2
                    clear hr9 ho9 hn41
                    go_wp2
                    go_end0
                    rw [HN.out]
                    exact HF.out

end Go.Proofs.YtdbddockmdkmeaaDoor
