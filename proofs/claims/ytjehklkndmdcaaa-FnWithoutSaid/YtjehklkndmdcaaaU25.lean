/- Joined: Fj Xd Wz Fw Ft. -/
import Derived.Test.YtjehklkndmdcaaaU09
import Derived.Test.YtjehklkndmdcaaaU16
import Derived.Lib.FrozenHead2
import Derived.Test.YtjehklkndmdcaaaU08
/- A trace twice, plain; which letters stand in a trace. -/
namespace Go.Proofs.Ytjehklkndmdcaaa
open Go.RowKit

theorem callA_some {P : UInt8 → Bool} {d : Nat} {c : UInt8} {s : List UInt8} {k : Forest} {r1 : List UInt8} (h : callA P d c s = some (k, r1)) : ∃ d', d = d' + 1 ∧ P c = true ∧
    ((k = .nil ∧ r1 = s ∧ ∀ x u, s = x :: u → x ≠ 40) ∨ (∃ s', s = 40 :: s' ∧ k.isNil = false ∧ calls P d' s' = some (k, 41 :: r1))) := by
  cases d with
  | zero => rw [callA_zero] at h; cases h
  | succ d =>
    refine ⟨d, rfl, ?_⟩
    cases hP : P c with
    | false => rw [callA_no hP] at h; cases h
    | true =>
      refine ⟨rfl, ?_⟩
      cases s with
      | nil =>
        rw [callA_leaf hP (fun x u e => by cases e)] at h
        injection h with h
        injection h with h1 h2
        exact .inl ⟨h1.symm, h2.symm, fun x u e => by cases e⟩
      | cons x u =>
        by_cases hx : x = 40
        · subst hx
          rw [callA_open hP] at h
          refine .inr ⟨u, rfl, ?_⟩
          unfold closed at h
          split at h
          · cases h
          · cases h
          · cases h
          · next c' k' f' x' r' h7 =>
            split at h
            · next h8 =>
              injection h with h
              injection h with h1 h2
              subst h1 h2 h8
              exact ⟨rfl, h7⟩
            · cases h
        · rw [callA_leaf hP (fun y v e => by injection e with e1 e2; rw [← e1]; exact hx)] at h
          injection h with h
          injection h with h1 h2
          exact .inl ⟨h1.symm, h2.symm, fun y v e => by injection e with e1 e2; rw [← e1]; exact hx⟩

theorem calls_some_cons {P : UInt8 → Bool} {d : Nat} {c : UInt8} {s : List UInt8} {f : Forest} {r : List UInt8} (hc : c ≠ 41) (h : calls P d (c :: s) = some (f, r)) :
    ∃ k r1 f', callA P d c s = some (k, r1) ∧ calls P d r1 = some (f', r) ∧ f = .cons c k f' := by
  rw [calls_cons P d s hc] at h
  unfold thenBy at h
  split at h
  · cases h
  · next k r1 h2 =>
    split at h
    · cases h
    · next f' r2 h4 =>
      injection h with h
      injection h with h1 h2'
      subst h1 h2'
      exact ⟨k, r1, f', h2, h4, rfl⟩

theorem calls_more {P : UInt8 → Bool} {u : List UInt8} (hu : ∀ x v, u = x :: v → x ≠ 40) : ∀ (n d : Nat) (s : List UInt8), s.length ≤ n → ∀ f r, calls P d s = some (f, r) → calls P d (s ++ u) = if r = [] then ahead f (calls P d u) else some (f, r ++ u)
  | n, d, [], _, f, r, h => by
    rw [calls_nil] at h
    injection h with h
    injection h with h1 h2
    subst h1 h2
    rw [if_pos rfl, List.nil_append, ahead_nil]
  | 0, d, c :: s, hn, f, r, h => absurd hn (by simp)
  | n + 1, d, c :: s, hn, f, r, h => by
    by_cases hc : c = 41
    · subst hc
      rw [calls_close] at h
      injection h with h
      injection h with h1 h2
      subst h1 h2
      rw [if_neg (by simp), List.cons_append, calls_close]
    · obtain ⟨k, r1, f', h1, h2, rfl⟩ := calls_some_cons hc h
      have hl : r1.length ≤ s.length := callA_less P d c s k r1 h1
      have hn' : s.length ≤ n := by simpa using hn
      have h3 : callA P d c (s ++ u) = some (k, r1 ++ u) := by
        obtain ⟨d', rfl, hP, ⟨rfl, rfl, hx⟩ | ⟨s', rfl, hk, hcs⟩⟩ := callA_some h1
        · refine callA_leaf hP fun x v e => ?_
          cases r1 with
          | nil => exact hu x v e
          | cons y w => injection e with e1 e2; rw [← e1]; exact hx y w rfl
        · have := calls_more hu n d' s' (by simp at hn'; omega) _ _ hcs
          rw [if_neg (by simp)] at this
          rw [List.cons_append, callA_open hP, this]
          exact closed_app hk _
      rw [List.cons_append, calls_step .nil hc h3 |> (ahead_nil _).symm.trans, calls_more hu n d r1 (by omega) _ _ h2]
      split
      · rw [ahead_ahead]; rfl
      · rfl

theorem trace_head {l : List Seg} {d : Nat} {t : List UInt8} {f : Forest} (h : calls (callP l) d t = some (f, [])) : ∀ x v, t = x :: v → x ≠ 40 := by
  rintro x v rfl rfl
  obtain ⟨k, r1, f', h1, _⟩ := calls_some_cons (by decide) h
  rw [callA_no (callP_open l)] at h1
  cases h1

/-- A trace twice is one, unless it is too long. -/
theorem traceB_twice {l : List Seg} {t : List UInt8} {f : Forest} (h : traceB l t = some f) : traceB l (t ++ t) = if t.length + t.length ≤ 80 then some (f.app f) else none := by
  obtain ⟨h1, h2, h3⟩ := traceB_some h
  rw [traceB_eq, h1, Bool.true_and, List.length_append]
  by_cases hl : t.length + t.length ≤ 80
  · rw [if_pos (decide_eq_true hl), if_pos hl, calls_more (trace_head h3) _ _ _ (Nat.le_refl _) _ _ h3, if_pos rfl, h3]
    rfl
  · rw [if_neg (by simpa using hl), if_neg hl]

/-- All letters of calls are names. -/
def Forest.all (P : UInt8 → Bool) : Forest → Prop
  | .nil => True
  | .cons c k r => P c = true ∧ k.all P ∧ r.all P
theorem calls_all {P : UInt8 → Bool} : ∀ (n d : Nat) (s : List UInt8), s.length ≤ n → ∀ f r, calls P d s = some (f, r) → f.all P
  | n, d, [], _, f, r, h => by
    rw [calls_nil] at h
    injection h with h
    injection h with h1 h2
    subst h1
    exact trivial
  | 0, d, c :: s, hn, f, r, h => absurd hn (by simp)
  | n + 1, d, c :: s, hn, f, r, h => by
    by_cases hc : c = 41
    · subst hc
      rw [calls_close] at h
      injection h with h
      injection h with h1 h2
      subst h1
      exact trivial
    · obtain ⟨k, r1, f', h1, h2, rfl⟩ := calls_some_cons hc h
      have hl : r1.length ≤ s.length := callA_less P d c s k r1 h1
      have hn' : s.length ≤ n := by simpa using hn
      obtain ⟨d', rfl, hP, h4⟩ := callA_some h1
      refine ⟨hP, ?_, calls_all n _ r1 (by omega) _ _ h2⟩
      rcases h4 with ⟨rfl, _⟩ | ⟨s', rfl, _, hcs⟩
      · exact trivial
      · exact calls_all n d' s' (by simp at hn'; omega) _ _ hcs
theorem traceB_all {l : List Seg} {t : List UInt8} {f : Forest} (h : traceB l t = some f) : f.all (callP l) := by
  obtain ⟨_, _, h3⟩ := traceB_some h
  exact calls_all _ _ _ (Nat.le_refl _) _ _ h3

end Go.Proofs.Ytjehklkndmdcaaa
/- The law FnWithout: what is written is read again, plain; what is left of calls. -/
namespace Go.Proofs.Ytjehklkndmdcaaa
open Go.RowKit

/-- What was read is what is written. -/
theorem rd_text (P : UInt8 → Bool) : ∀ (n d : Nat) (s : List UInt8) f r, rd P n d s = some (f, r) → s = textB f ++ r
  | 0, _, _, _, _, e => by cases e
  | n + 1, d, [], f, r, e => by
    injection e with e
    injection e with e1 e2
    subst e1 e2
    rfl
  | n + 1, d, c :: s, f, r, e => by
    unfold rd at e
    split at e
    · injection e with e
      injection e with e1 e2
      subst e1 e2
      rfl
    · unfold thenBy at e
      split at e
      · cases e
      · next k r1 h2 =>
        split at e
        · cases e
        · next f' r2 h4 =>
          injection e with e
          injection e with e1 e2
          subst e1 e2
          have h5 := rd_text P n d r1 _ _ h4
          have h6 : s = (if k.isNil = true then [] else 40 :: (textB k ++ [41])) ++ r1 := by
            unfold callBy at h2
            split at h2
            · cases h2
            · next d' =>
              split at h2
              · unfold innerBy at h2
                split at h2
                · injection h2 with h2
                  injection h2 with h2 h3
                  subst h2 h3
                  rfl
                · next x u =>
                  split at h2
                  · next hx40 =>
                    unfold closed at h2
                    split at h2
                    · cases h2
                    · cases h2
                    · cases h2
                    · next c' k' f'' x' r'' h7 =>
                      split at h2
                      · next hx41 =>
                        injection h2 with h2
                        injection h2 with h2 h3
                        subst h2 h3
                        have h8 := rd_text P n d' u _ _ h7
                        rw [hx40, h8, hx41]
                        show _ = 40 :: (textB _ ++ [41]) ++ _
                        simp
                      · cases h2
                  · injection h2 with h2
                    injection h2 with h2 h3
                    subst h2 h3
                    rfl
              · cases h2
          show c :: s = c :: (_ ++ textB f') ++ r2
          rw [h6, h5]
          simp
theorem calls_text {P : UInt8 → Bool} {d : Nat} {s : List UInt8} {f : Forest} {r : List UInt8} (h : calls P d s = some (f, r)) : s = textB f ++ r := rd_text P _ d s f r h
/-- What is written is read. -/
theorem text_calls {P : UInt8 → Bool} (hP : ∀ c, P c = true → c ≠ 40 ∧ c ≠ 41) : ∀ (f : Forest) (d : Nat) (r : List UInt8), f.all P → f.deep ≤ d → (r = [] ∨ ∃ u, r = 41 :: u) → calls P d (textB f ++ r) = some (f, r)
  | .nil, d, r, _, _, hr => by
    rcases hr with rfl | ⟨u, rfl⟩
    · exact calls_nil P d
    · exact calls_close P d u
  | .cons c k g, d, r, ha, hd, hr => by
    obtain ⟨hc, hk, hg⟩ := ha
    have hd1 : k.deep + 1 ≤ d := Nat.le_trans (Nat.le_max_left _ _) hd
    have hd2 : g.deep ≤ d := Nat.le_trans (Nat.le_max_right _ _) hd
    obtain ⟨e, rfl⟩ : ∃ e, d = e + 1 := ⟨d - 1, by omega⟩
    have ihg := text_calls hP g (e + 1) r hg hd2 hr
    have hA : callA P (e + 1) c ((if k.isNil = true then [] else 40 :: (textB k ++ [41])) ++ (textB g ++ r)) = some (k, textB g ++ r) := by
      cases k with
      | nil =>
        show callA P (e + 1) c (textB g ++ r) = _
        refine callA_leaf hc ?_
        intro x u hx
        cases g with
        | nil =>
          rcases hr with rfl | ⟨v, rfl⟩
          · cases hx
          · injection hx with h1 h2
            rw [← h1]
            decide
        | cons c' k' g' =>
          injection hx with h1 h2
          rw [← h1]
          exact (hP c' hg.1).1
      | cons c' k' f' =>
        show callA P (e + 1) c (40 :: (textB (.cons c' k' f') ++ [41]) ++ (textB g ++ r)) = _
        rw [List.cons_append, List.append_assoc, callA_open hc]
        rw [text_calls hP (.cons c' k' f') e ([41] ++ (textB g ++ r)) hk (by omega) (.inr ⟨_, rfl⟩)]
        rfl
    show calls P (e + 1) (c :: ((if k.isNil = true then [] else 40 :: (textB k ++ [41])) ++ textB g) ++ r) = _
    rw [List.cons_append, List.append_assoc, calls_cons P (e + 1) _ (hP c hc).2, hA]
    unfold thenBy
    dsimp only
    rw [ihg]
theorem callP_sign {l : List Seg} (c : UInt8) (h : callP l c = true) : c ≠ 40 ∧ c ≠ 41 := by
  have := callP_letter h
  refine ⟨fun e => ?_, fun e => ?_⟩
  all_goals
    subst e
    exact absurd this.1 (by decide)

theorem lessB_all {P : UInt8 → Bool} (n : ByteArray) : ∀ f : Forest, f.all P → (lessB n f).all P
  | .nil, _ => trivial
  | .cons c k r, h => by
    obtain ⟨h1, h2, h3⟩ := h
    show (if _ then lessB n r else .cons c (lessB n k) (lessB n r) : Forest).all P
    split
    · exact lessB_all n r h3
    · exact ⟨h1, lessB_all n k h2, lessB_all n r h3⟩
theorem lessB_le (n : ByteArray) : ∀ f : Forest, (lessB n f).size ≤ f.size ∧ (lessB n f).deep ≤ f.deep ∧ (textB (lessB n f)).length ≤ (textB f).length
  | .nil => ⟨Nat.le_refl _, Nat.le_refl _, Nat.le_refl _⟩
  | .cons c k r => by
    obtain ⟨k1, k2, k3⟩ := lessB_le n k
    obtain ⟨r1, r2, r3⟩ := lessB_le n r
    have hz : (textB (.cons c k r)).length = 1 + ((if k.isNil = true then 0 else (textB k).length + 2) + (textB r).length) := by
      show (c :: ((if k.isNil = true then [] else 40 :: (textB k ++ [41])) ++ textB r)).length = _
      rw [List.length_cons, List.length_append]
      split <;> simp <;> omega
    show (if _ then lessB n r else .cons c (lessB n k) (lessB n r) : Forest).size ≤ k.size + r.size + 1 ∧ (if _ then lessB n r else .cons c (lessB n k) (lessB n r) : Forest).deep ≤ max (k.deep + 1) r.deep ∧ (textB (if _ then lessB n r else .cons c (lessB n k) (lessB n r))).length ≤ _
    split
    · refine ⟨by omega, by omega, ?_⟩
      rw [hz]; omega
    · refine ⟨by show (lessB n k).size + (lessB n r).size + 1 ≤ _; omega, by show max ((lessB n k).deep + 1) (lessB n r).deep ≤ _; omega, ?_⟩
      rw [hz]
      show (c :: ((if (lessB n k).isNil = true then [] else 40 :: (textB (lessB n k) ++ [41])) ++ textB (lessB n r))).length ≤ _
      rw [List.length_cons, List.length_append]
      cases k with
      | nil =>
        show _ + _ + 1 ≤ 1 + (0 + _)
        show 0 + _ + 1 ≤ _
        omega
      | cons c' k' f' =>
        show _ ≤ 1 + ((textB (.cons c' k' f')).length + 2 + (textB r).length)
        split
        · simp only [List.length_nil]; omega
        · simp only [List.length_cons, List.length_append, List.length_nil]; omega
theorem lessB_again (n : ByteArray) : ∀ f : Forest, lessB n (lessB n f) = lessB n f
  | .nil => rfl
  | .cons c k r => by
    show lessB n (if (⟨#[c]⟩ : ByteArray) = n then lessB n r else .cons c (lessB n k) (lessB n r)) = if (⟨#[c]⟩ : ByteArray) = n then lessB n r else .cons c (lessB n k) (lessB n r)
    by_cases h : (⟨#[c]⟩ : ByteArray) = n
    · rw [if_pos h]; exact lessB_again n r
    · rw [if_neg h]
      show (if (⟨#[c]⟩ : ByteArray) = n then _ else Forest.cons c (lessB n (lessB n k)) (lessB n (lessB n r))) = _
      rw [if_neg h, lessB_again n k, lessB_again n r]

end Go.Proofs.Ytjehklkndmdcaaa
/- A byte written into a Builder. -/
namespace Go.Proofs.Ytjehklkndmdcaaa
open Go.RowKit

/-- What a writing call of one byte has done. -/
def WroteB (w : World) (B b : Nat) (bs : List Value) (e : Ending) (w' : World) : Prop :=
  e = .returned .nilIface ∧ Lib.IsBuilderF 45 5 B b bs w' ∧ Below B w w' ∧ Lib.OthersKept 5 (some b) w w'

set_option maxRecDepth 100000 in
set_option maxHeartbeats 1000000 in
theorem writeByte_any (B b : Nat) (bs : List Value) (n : Int) (w : World) (h : Lib.IsBuilderF 45 5 B b bs w) (hlen : bs.length ≤ 1000000) (hBw : B ≤ w.heap.size) :
    Calls Try.prog 100 #[.pointer (some ⟨b, 0, none⟩), .int .u8 n] w (WroteB w B b (bs ++ [.int .u8 n])) := by
  obtain ⟨i0, hi, hz0, hz1, hz2⟩ := info_parts info_byte
  have I0 := Lib.hid hi
  have Z0 := Lib.hid hz0
  have Z1 := Lib.hid hz1
  have Z2 := Lib.hid hz2
  clear hi hz0 hz1 hz2
  go_enter Try.func100, Try.ntmps100
  go_wp2_with fail
  refine (copyCheck_any B b bs _ h).mono ?_
  rintro e w1 ⟨rfl, h1, hb1, hk1⟩
  obtain ⟨hB, v, hbk, hown, hne⟩ := h1
  have c0 : w1.cell? ⟨b, 0, none⟩ = some (.pointer (some ⟨b, 0, none⟩)) := by rw [Lib.cell_of_heap hbk]; rfl
  have c1 : w1.cell? ⟨b, 1, none⟩ = some v := by rw [Lib.cell_of_heap hbk]; rfl
  have hz1 := hb1.size
  have HNW := Lib.hid (cell_one_new w1 (.int .u8 n) 5)
  have HO := Lib.hid (hown.alloc (.cells #[.int .u8 n] 5))
  have HOWN := Lib.hid hown
  clear hown
  go_wp2_with (at_builtin; go_must (refine wpList_append_ownF _ rfl _ _ 22 rfl B 5 i0 (.int .u8 0) 1 1 Try.underlying22 I0.out Z0.out Z1.out Z2.out rfl (by decide) v bs.length bs rfl HO.out ⟨w1.heap.size, 0, none⟩ 1 1 [.int .u8 n] rfl rfl HNW.out (by simp [Value.oneCell']) (by unfold maxLen; omega) (by omega) (by simp; omega) ?_))
  intro v' w2 hown' hgrow' _
  have hgrow : World.grownBy (w1.alloc (.cells #[.int .u8 n] 5)) w2 v.ownBlock := hgrow'
  clear hgrow'
  have hlt : b < w1.heap.size := (Array.getElem?_eq_some_iff.1 hbk).1
  have hb2 : w2.heap[b]? = some (.cells #[.pointer (some ⟨b, 0, none⟩), v] 45 (0, 0)) := (hgrow.block b (by simp; omega) (fun e => hne e.symm)).trans ((Below.heap_alloc w1 _ b hlt).trans hbk)
  have d1 : w2.cell? ⟨b, 1, none⟩ = some v := by rw [Lib.cell_of_heap hb2]; rfl
  have f1 : w2.frozen? ⟨b, 1, none⟩ = false := Lib.frozen_of_heap hb2 1
  obtain ⟨ao, n', cap, rfl⟩ : ∃ ao n' cap, v' = .slice ao n' cap := by
    rcases hown'.2 with ⟨hv, _⟩ | ⟨g, cap, cur, fz, hv, _⟩
    · exact ⟨_, _, _, hv⟩
    · exact ⟨_, _, _, hv⟩
  have HK := Lib.hid (((hk1.alloc (.cells #[.int .u8 n] 5)).grown hgrow (Lib.ownsRowF_kind HO.out)).setCell ⟨b, 1, none⟩ rfl (.slice ao n' cap))
  have HP := Lib.hid (Lib.BuilderAtF.put (T := 45) (e := 5) hB hb2 (bs' := bs ++ [.int .u8 n]) (by simpa using hown') (by decide))
  have HW := Lib.hid (((hb1.alloc (by omega) (.cells #[.int .u8 n] 5)).grown hgrow (by simp; omega) (fun k hk => (HOWN.out.lt k hk).1)).setCell (p := ⟨b, 1, none⟩) hB (.slice ao n' cap))
  clear hown' hgrow hbk hb2 c0 c1 HO HOWN HNW hk1
  go_wp2
  go_ret
  exact ⟨rfl, .inr HP.out, HW.out, HK.out⟩

theorem kept_rowW {w w' : World} {b X : Nat} {T : TypeId} {cs : Array Value} (hk : Lib.OthersKept 5 (some b) w w') (hr : Row w X T cs) (h1 : X ≠ b) (h2 : T ≠ 5) : Row w' X T cs :=
  hk X _ hr (fun e => by injection e with e; exact h1 e) (fun c fz e => by injection e with _ e; exact h2 e)
theorem isB_ltW' {B b : Nat} {bs : List Value} {w : World} (h : Lib.IsBuilderF 45 5 B b bs w) : B ≤ w.heap.size := by
  rcases h with h | h
  · obtain ⟨h1, v, hb, _⟩ := h; have := (Array.getElem?_eq_some_iff.1 hb).1; omega
  · obtain ⟨h1, v, hb, _⟩ := h; have := (Array.getElem?_eq_some_iff.1 hb).1; omega
theorem isB_ltW {B b : Nat} {bs : List Value} {w : World} (h : Lib.IsBuilderF 45 5 B b bs w) : b < w.heap.size := by
  rcases h with h | h
  · obtain ⟨_, v, hb, _⟩ := h; exact (Array.getElem?_eq_some_iff.1 hb).1
  · obtain ⟨_, v, hb, _⟩ := h; exact (Array.getElem?_eq_some_iff.1 hb).1

end Go.Proofs.Ytjehklkndmdcaaa
/- The program's Without: what is left, and its text. -/
namespace Go.Proofs.Ytjehklkndmdcaaa
open Go.RowKit

theorem meth_write_leaf (c : UInt8) (w : World) : (method 260 117 (.agg #[.string ⟨#[c]⟩]) "loop.example/segmentrooms/impl.write").run Try.prog w = .ok (116, .agg #[.string ⟨#[c]⟩]) w := by kernel_rfl
theorem meth_write_branch (c : UInt8) (A : Option Addr) (n cap : Nat) (w : World) : (method 260 119 (.agg #[.string ⟨#[c]⟩, .slice A n cap]) "loop.example/segmentrooms/impl.write").run Try.prog w = .ok (118, .agg #[.string ⟨#[c]⟩, .slice A n cap]) w := by kernel_rfl

/-- What the builder holds behind a call that writes. -/
def Written (w : World) (B b : Nat) (s : List UInt8) (e : Ending) (w' : World) : Prop :=
  e = .returned (.tuple #[]) ∧ Lib.IsBuilderF 45 5 B b (Lib.byteCells s) w' ∧ Below B w w' ∧ Lib.OthersKept 5 (some b) w w'

set_option maxRecDepth 100000 in
set_option maxHeartbeats 1000000 in
theorem leafWrite_any (B b : Nat) (c : UInt8) (s : List UInt8) (w : World) (h : Lib.IsBuilderF 45 5 B b (Lib.byteCells s) w) (hs : s.length ≤ 100000) (hBw : B ≤ w.heap.size) :
    Calls Try.prog 116 #[.agg #[.string ⟨#[c]⟩], .pointer (some ⟨b, 0, none⟩)] w (Written w B b (s ++ [c])) := by
  have HI := Lib.hid (h.alloc (.cells #[.string ⟨#[c]⟩] 117))
  have HB : Hid (Below B w (w.alloc (.cells #[.string ⟨#[c]⟩] 117))) := (Below.refl _ w).alloc hBw _
  have HK : Hid (Lib.OthersKept 5 (some b) w (w.alloc (.cells #[.string ⟨#[c]⟩] 117))) := (Lib.OthersKept.refl _ _ w).alloc _
  have c0 : (w.alloc (.cells #[.string ⟨#[c]⟩] 117)).cell? ⟨w.heap.size, 0, none⟩ = some (.string ⟨#[c]⟩) := Row.cell (Row.new w 117 #[.string ⟨#[c]⟩]) 0
  clear h
  go_enter Try.func116, Try.ntmps116
  go_wp2_with fail
  generalize w.alloc (.cells #[.string ⟨#[c]⟩] 117) = W1 at *
  refine (writeString_any B b _ ⟨#[c]⟩ _ HI.out (by rw [byteCells_len]; show _ + 1 ≤ _; omega) (by have := HB.out.size; omega)).mono ?_
  rintro e w2 ⟨rfl, hI2, hb2, hk2⟩
  rw [strCells_one, ← byteCells_app] at hI2
  have HI2 := Lib.hid hI2
  have HB2 := Lib.hid (HB.out.trans hb2)
  have HK2 := Lib.hid (HK.out.trans hk2)
  clear hI2 hb2 hk2
  go_wp2
  go_end0
  exact ⟨rfl, HI2.out, HB2.out, HK2.out⟩

set_option maxRecDepth 100000 in
set_option maxHeartbeats 1000000 in
theorem branchWrite_of (B b : Nat) (c : UInt8) (k : Forest) (A : Option Addr) (cap : Nat) (s : List UInt8) (w : World) (h : Lib.IsBuilderF 45 5 B b (Lib.byteCells s) w) (hs : s.length + (textB k).length ≤ 90000) (hBw : B ≤ w.heap.size)
    (hk : ∀ W, Below B w W → Lib.OthersKept 5 (some b) w W → Lib.IsBuilderF 45 5 B b (Lib.byteCells (s ++ [c] ++ [40])) W → Calls Try.prog 39 #[.pointer (some ⟨b, 0, none⟩), .slice A k.len cap] W (Written W B b (s ++ [c] ++ [40] ++ textB k))) :
    Calls Try.prog 118 #[.agg #[.string ⟨#[c]⟩, .slice A k.len cap], .pointer (some ⟨b, 0, none⟩)] w (Written w B b (s ++ [c] ++ [40] ++ textB k ++ [41])) := by
  have HI := Lib.hid (h.alloc (.cells #[.string ⟨#[c]⟩, .slice A k.len cap] 119))
  have HB : Hid (Below B w (w.alloc (.cells #[.string ⟨#[c]⟩, .slice A k.len cap] 119))) := (Below.refl _ w).alloc hBw _
  have HO1 : Hid (Lib.OthersKept 5 (some b) w (w.alloc (.cells #[.string ⟨#[c]⟩, .slice A k.len cap] 119))) := (Lib.OthersKept.refl _ _ w).alloc _
  have HK := Lib.hid hk
  have hbX : w.heap.size ≠ b := by have := isB_ltW h; omega
  have HR : Hid (Row (w.alloc (.cells #[.string ⟨#[c]⟩, .slice A k.len cap] 119)) w.heap.size 119 #[.string ⟨#[c]⟩, .slice A k.len cap]) := Row.new w _ _
  have c0 : (w.alloc (.cells #[.string ⟨#[c]⟩, .slice A k.len cap] 119)).cell? ⟨w.heap.size, 0, none⟩ = some (.string ⟨#[c]⟩) := HR.out.cell 0
  clear h hk
  go_enter Try.func118, Try.ntmps118
  go_wp2_with fail
  generalize w.alloc (.cells #[.string ⟨#[c]⟩, .slice A k.len cap] 119) = W1 at *
  refine (leafWrite_any B b c s _ HI.out (by omega) (by have := HB.out.size; omega)).mono ?_
  rintro e w2 ⟨rfl, hI2, hb2, hk2⟩
  have HO2 := Lib.hid (HO1.out.trans hk2)
  have HI2 := Lib.hid hI2
  have HB2 := Lib.hid (HB.out.trans hb2)
  have HR2 : Hid (Row w2 w.heap.size 119 #[.string ⟨#[c]⟩, .slice A k.len cap]) := kept_rowW hk2 HR.out hbX (by decide)
  clear hI2 hb2 hk2 c0
  go_wp2_with fail
  refine (writeByte_any B b _ 40 _ HI2.out (by rw [byteCells_len]; simp; omega) (by have := HB2.out.size; omega)).mono ?_
  rintro e w3 ⟨rfl, hI3, hb3, hk3⟩
  have HI3 : Hid (Lib.IsBuilderF 45 5 B b (Lib.byteCells (s ++ [c] ++ [40])) w3) := by
    show Lib.IsBuilderF _ _ _ _ _ _
    rw [byteCells_app]
    exact hI3
  have HB3 := Lib.hid (HB2.out.trans hb3)
  have HO3 := Lib.hid (HO2.out.trans hk3)
  have c1 : w3.cell? ⟨w.heap.size, 1, none⟩ = some (.slice A k.len cap) := (kept_rowW hk3 HR2.out hbX (by decide)).cell 1
  clear hI3 hb3 hk3 HR2 HR HI2 HI
  go_wp2_with fail
  refine (HK.out w3 HB3.out HO3.out HI3.out).mono ?_
  rintro e w4 ⟨rfl, hI4, hb4, hk4⟩
  have HO4 := Lib.hid (HO3.out.trans hk4)
  have HI4 := Lib.hid hI4
  have HB4 := Lib.hid (HB3.out.trans hb4)
  clear hI4 hb4 c1 hk4
  go_wp2_with fail
  refine (writeByte_any B b _ 41 _ HI4.out (by rw [byteCells_len]; simp; omega) (by have := HB4.out.size; omega)).mono ?_
  rintro e w5 ⟨rfl, hI5, hb5, hk5⟩
  have HO5 := Lib.hid (HO4.out.trans hk5)
  have HI5 : Hid (Lib.IsBuilderF 45 5 B b (Lib.byteCells (s ++ [c] ++ [40] ++ textB k ++ [41])) w5) := by
    show Lib.IsBuilderF _ _ _ _ _ _
    rw [byteCells_app]
    exact hI5
  have HB5 := Lib.hid (HB4.out.trans hb5)
  clear hI5 hb5 hk5
  go_wp2
  go_end0
  exact ⟨rfl, HI5.out, HB5.out, HO5.out⟩

/-- A row of calls. -/
def CRow (w : World) (q : Nat) : Prop := ∃ cs, Row w q 86 cs
/-- Rows of calls that a builder's writes leave as they are. -/
def SafeC (w : World) (b : Nat) (q : Nat) : Prop := q ≠ b ∧ CRow w q
theorem SafeC.keep {w w' : World} {b q : Nat} (h : SafeC w b q) (hk : Lib.OthersKept 5 (some b) w w') : SafeC w' b q ∧ w'.heap[q]? = w.heap[q]? := by
  obtain ⟨h1, cs, h2⟩ := h
  have h3 : Row w' q 86 cs := kept_rowW hk h2 h1 (by decide)
  exact ⟨⟨h1, cs, h3⟩, (h3 : w'.heap[q]? = _).trans (h2 : w.heap[q]? = _).symm⟩
/-- What the range over calls has before it. -/
def LeftK (w : World) (b : Nat) (f : Forest) (A : Option Addr) (pre rest : Forest) : Prop := f = pre.app rest ∧ (rest.isNil = false → ∃ g, A = some ⟨g, 0, none⟩ ∧ SafeC w b g ∧ Cells w (SafeC w b) rest g pre.len)
theorem LeftK.start {w : World} {b : Nat} {f : Forest} {v : Value} (h : SliceIs w (SafeC w b) v f) : ∃ A cap, v = .slice A f.len cap ∧ LeftK w b f A .nil f := by
  obtain ⟨A, cap, e, h⟩ := h
  refine ⟨A, cap, e, rfl, fun hr => ?_⟩
  rw [Forest.isNil_len] at hr
  have hl : f.len ≠ 0 := of_decide_eq_false hr
  exact h (by omega)
theorem LeftK.kept {w w' : World} {b : Nat} {f pre rest : Forest} {A : Option Addr} (h : LeftK w b f A pre rest) (hk : Lib.OthersKept 5 (some b) w w') : LeftK w' b f A pre rest := by
  refine ⟨h.1, fun hr => ?_⟩
  obtain ⟨g, e, h1, h2⟩ := h.2 hr
  exact ⟨g, e, (h1.keep hk).1, Cells.keep (fun q hq => hq.keep hk) rest g _ (h1.keep hk).2 h2⟩
theorem SliceIs.kept {w w' : World} {b : Nat} {f : Forest} {v : Value} (h : SliceIs w (SafeC w b) v f) (hk : Lib.OthersKept 5 (some b) w w') : SliceIs w' (SafeC w' b) v f := h.keep fun _ hq => hq.keep hk
/-- One call is taken. -/
theorem LeftK.take {w : World} {b : Nat} {f pre k r : Forest} {c : UInt8} {A : Option Addr} (h : LeftK w b f A pre (.cons c k r)) :
    LeftK w b f A (pre.app (.cons c k .nil)) r ∧ pre.len < f.len ∧ k.size < f.size ∧ ∃ g u, A = some ⟨g, 0, none⟩ ∧ w.cell? ⟨g, pre.len, none⟩ = some u ∧ IsCall w (SafeC w b) c k u := by
  obtain ⟨h1, h2⟩ := h
  obtain ⟨g, e, h3, h4⟩ := h2 rfl
  obtain ⟨⟨u, c0, hu⟩, hr⟩ := h4
  have hl : (pre.app (.cons c k .nil)).len = pre.len + 1 := by rw [Forest.app_len]; rfl
  refine ⟨⟨?_, fun _ => ⟨g, e, h3, ?_⟩⟩, ?_, ?_, g, u, e, c0, hu⟩
  · rw [Forest.app_assoc]; exact h1
  · rw [hl]; exact hr
  · rw [h1, Forest.app_len]; show pre.len < pre.len + (r.len + 1); omega
  · rw [h1, Forest.app_size]; show k.size < pre.size + (k.size + r.size + 1); omega
theorem LeftK.done {w : World} {b : Nat} {f pre : Forest} {A : Option Addr} (h : LeftK w b f A pre .nil) : f = pre := by rw [h.1, Forest.app_nil]

/-- What a call writes. -/
theorem callWrite_of (B b : Nat) (c : UInt8) (k : Forest) (v : Value) (s : List UInt8) (w : World) (hu : IsCall w (SafeC w b) c k v) (h : Lib.IsBuilderF 45 5 B b (Lib.byteCells s) w) (hs : s.length + (textB k).length ≤ 90000) (hBw : B ≤ w.heap.size)
    (hk : ∀ (W : World) (u : Value) (s' : List UInt8), k.isNil = false → s'.length ≤ s.length + 2 → SliceIs W (SafeC W b) u k → Below B w W → Lib.IsBuilderF 45 5 B b (Lib.byteCells s') W → Calls Try.prog 39 #[.pointer (some ⟨b, 0, none⟩), u] W (Written W B b (s' ++ textB k))) :
    ∃ T x K y, v = .iface T x ∧ (∀ w : World, (method 260 T x "loop.example/segmentrooms/impl.write").run Try.prog w = .ok (K, y) w) ∧ (∀ w : World, (callFunc K #[y, .pointer (some ⟨b, 0, none⟩)]).run Try.prog w = .ok (.enter K #[y, .pointer (some ⟨b, 0, none⟩)]) w) ∧
      Calls Try.prog K #[y, .pointer (some ⟨b, 0, none⟩)] w (Written w B b (s ++ textOne c k)) := by
  rcases hu with ⟨h1, rfl⟩ | ⟨h1, q, cap, rfl, hq, hc⟩
  · refine ⟨_, _, _, _, rfl, meth_write_leaf c, fun w => enters_of Try.func116 (by kernel_rfl) rfl _ w, ?_⟩
    have e1 : textOne c k = [c] := by unfold textOne; rw [if_pos h1]
    rw [e1]
    exact leafWrite_any B b c s w h (by omega) hBw
  · refine ⟨_, _, _, _, rfl, meth_write_branch c _ _ _, fun w => enters_of Try.func118 (by kernel_rfl) rfl _ w, ?_⟩
    have e1 : s ++ textOne c k = s ++ [c] ++ [40] ++ textB k ++ [41] := by unfold textOne; rw [if_neg (by rw [h1]; decide)]; simp
    rw [e1]
    exact branchWrite_of B b c k _ cap s w h hs hBw fun W hb ho hi => hk W _ _ h1 (by simp) ⟨_, cap, rfl, fun _ => ⟨q, rfl, (hq.keep ho).1, Cells.keep (fun x hx => hx.keep ho) k q 0 (hq.keep ho).2 hc⟩⟩ hb hi

set_option maxRecDepth 100000 in
set_option maxHeartbeats 1000000 in
theorem writeCalls_any (B b : Nat) : ∀ (m : Nat) (f : Forest) (v : Value) (s : List UInt8) (w : World), f.size < m → s.length + 3 * f.size ≤ 80000 → SliceIs w (SafeC w b) v f → Lib.IsBuilderF 45 5 B b (Lib.byteCells s) w → B ≤ w.heap.size →
    Calls Try.prog 39 #[.pointer (some ⟨b, 0, none⟩), v] w (Written w B b (s ++ textB f)) := by
  intro m
  induction m with
  | zero => intro f v s w h; omega
  | succ m ih =>
    intro f v s w hm hs hv hI hBw
    obtain ⟨A, cap, rfl, hl0⟩ := LeftK.start hv
    have IH := Lib.hid ih
    have HL0 := Lib.hid hl0
    have HI0 := Lib.hid hI
    have hfl : f.len ≤ 80000 := by have := f.len_size; omega
    clear ih hv hl0 hI
    go_enter Try.func39, Try.ntmps39
    go_wp2
    go_loopw [8] (fun i wr => ∃ (pre rest : Forest), i = .int .i64 pre.len ∧ Hid (LeftK wr b f A pre rest) ∧ Hid (Lib.IsBuilderF 45 5 B b (Lib.byteCells (s ++ textB pre)) wr) ∧ Hid (Below B w wr) ∧ Hid (Lib.OthersKept 5 (some b) w wr))
      (fun i _ => f.len - (intOf i).toNat)
    case atStart => exact ⟨.nil, f, rfl, HL0, by show Lib.IsBuilderF _ _ _ _ _ _; rw [show textB .nil = [] from rfl, List.append_nil]; exact HI0.out, Below.refl _ _, Lib.OthersKept.refl _ _ _⟩
    case round =>
      obtain ⟨pre, rest, rfl, HL, HI, HB, HO⟩ := hrel
      clear HL0 HI0
      cases rest with
      | nil =>
        have HE := Lib.hid HL.out.done
        have hle : ¬ (pre.len < f.len) := by rw [HE.out]; omega
        go_wp2
        go_end0
        exact ⟨rfl, by rw [HE.out]; exact HI.out, HB.out, HO.out⟩
      | cons c k r =>
        obtain ⟨hnext, hlt, hks, g, u, rfl, c0, hu⟩ := HL.out.take
        have hz := HB.out.size
        have hBr : B ≤ wr.heap.size := by omega
        have hpl := textB_len pre
        have hkl := textB_len k
        have hps : pre.size + (k.size + r.size + 1) = f.size := by rw [HL.out.1, Forest.app_size]; rfl
        have hl1 : (s ++ textB pre).length + 3 * k.size + 3 ≤ 80000 := by rw [List.length_append]; omega
        have HNX := Lib.hid hnext
        have HLN : Hid ((pre.app (.cons c k .nil)).len = pre.len + 1) := by show _ = _; rw [Forest.app_len]; rfl
        have HNB : Hid (s ++ textB (pre.app (.cons c k .nil)) = s ++ textB pre ++ textOne c k) := by
          show _ = _
          rw [textB_app, textB_one, List.append_assoc]
        obtain ⟨T, x, K, y, rfl, hmt, hen, hc⟩ := callWrite_of B b c k u _ wr hu HI.out (by omega) hBr (fun W u' s' _ hs' hsl _ hi' => IH.out k u' s' W (by omega) (by omega) hsl hi' (isB_ltW' hi'))
        have HC := Lib.hid hc
        clear hnext hpl hkl hc hu
        go_wp2_with fail
        refine HC.out.mono ?_
        rintro e w2 ⟨rfl, hI2, hb2, hk2⟩
        rw [← HNB.out] at hI2
        have HI2 := Lib.hid hI2
        have HB2 := Lib.hid (HB.out.trans hb2)
        have HL2 := Lib.hid (HNX.out.kept hk2)
        have HO2 := Lib.hid (HO.out.trans hk2)
        clear hI2 hb2 hk2 HC HNX HL HI HB HO hmt hen c0
        go_wp2
        go_roundw
        case rel => exact ⟨_, r, by rw [HLN.out]; go_num, HL2, HI2, HB2, HO2⟩
        case measure => simp [intOf]; omega

end Go.Proofs.Ytjehklkndmdcaaa
/- The program's callsWithout. -/
namespace Go.Proofs.Ytjehklkndmdcaaa
open Go.RowKit

theorem CRow.keep {w w' : World} {q : Nat} (h : CRow w q) (hq : w'.heap[q]? = w.heap[q]?) : CRow w' q := by
  obtain ⟨cs, h⟩ := h
  exact ⟨cs, hq.trans h⟩
/-- A slice of calls of the call's own, each row of calls being known as one. -/
def OwnT (w : World) (B : Nat) (v : Value) (f : Forest) : Prop :=
  ∃ xs, w.ownsRow B 86 1 v f.len xs ∧ Vals w (fun q => B ≤ q ∧ q < w.heap.size ∧ v.ownBlock ≠ some q ∧ CRow w q) f xs
theorem OwnT.lt {w : World} {B : Nat} {v : Value} {f : Forest} (h : OwnT w B v f) : ∀ x, v.ownBlock = some x → B ≤ x ∧ x < w.heap.size := by
  obtain ⟨xs, hown, _⟩ := h
  exact fun x e => hown.lt x e
theorem OwnT.nil (w : World) (B : Nat) : OwnT w B (.slice none 0 0) .nil := ⟨[], World.ownsRow_nil w B _ 1, rfl⟩
theorem OwnT.far {w w' : World} {B : Nat} {v : Value} {f : Forest} (h : OwnT w B v f) (hb : Below w.heap.size w w') : OwnT w' B v f := by
  have hl := h.lt
  obtain ⟨xs, hown, hv⟩ := h
  exact ⟨xs, own_keep hown fun g hg => hb.block g (hl g hg).2, Vals.keep (fun q h => ⟨⟨h.1, Nat.lt_of_lt_of_le h.2.1 hb.size, h.2.2.1, h.2.2.2.keep (hb.block q h.2.1)⟩, hb.block q h.2.1⟩) f xs hv⟩
theorem OwnT.form {w : World} {B : Nat} {v : Value} {f : Forest} (h : OwnT w B v f) (hf : f.isNil = false) : ∃ g cap, v = .slice (some ⟨g, 0, none⟩) f.len cap ∧ (B ≤ g ∧ g < w.heap.size ∧ CRow w g) ∧ Cells w (fun q => B ≤ q ∧ q < w.heap.size ∧ CRow w q) f g 0 := by
  obtain ⟨xs, hown, hv⟩ := h
  rw [Forest.isNil_len] at hf
  have hl : f.len ≠ 0 := of_decide_eq_false hf
  have hx := Vals.len f xs hv
  rcases hown.2 with ⟨rfl, h0⟩ | ⟨g, cap, cur, rfl, hg, hh, r⟩
  · exact absurd h0 hl
  · refine ⟨g, cap, rfl, ⟨hg, (Array.getElem?_eq_some_iff.1 hh).1, cur, hh⟩, ?_⟩
    refine Vals.cells f xs 0 (Vals.keep (fun q h => ⟨⟨h.1, h.2.1, h.2.2.2⟩, rfl⟩) f xs hv) fun i hi => ?_
    rw [Nat.zero_add]
    exact World.ownsRow.cellAt hown i (by omega)
theorem OwnT.slice {w : World} {B : Nat} {v : Value} {f : Forest} (h : OwnT w B v f) : SliceIs w (fun q => B ≤ q ∧ q < w.heap.size ∧ CRow w q) v f := by
  cases hf : f.isNil with
  | false =>
    obtain ⟨g, cap, e, h1, h2⟩ := h.form hf
    exact ⟨_, cap, e, fun _ => ⟨g, rfl, h1, h2⟩⟩
  | true =>
    rw [Forest.isNil_len] at hf
    have hl : f.len = 0 := of_decide_eq_true hf
    obtain ⟨xs, hown, hv⟩ := h
    rcases hown.2 with ⟨rfl, h0⟩ | ⟨g, cap, cur, rfl, hg, hh, r⟩
    · exact ⟨none, 0, by rw [hl], fun h => by omega⟩
    · exact ⟨_, cap, rfl, fun h => by omega⟩
theorem OwnT.more {w W w' : World} {B c0 : Nat} {v v' u : Value} {f k : Forest} {c : UInt8} {xs : List Value} (hv : Vals w (fun q => B ≤ q ∧ q < w.heap.size ∧ v.ownBlock ≠ some q ∧ CRow w q) f xs)
    (hu : IsCall w (fun q => c0 ≤ q ∧ q < w.heap.size ∧ CRow w q) c k u) (hc0 : B ≤ c0) (hvc : ∀ q, v.ownBlock = some q → q < c0)
    (hW : Below w.heap.size w W) (hg : W.grownBy w' v.ownBlock) (hown' : w'.ownsRow B 86 1 v' (f.len + 1) (xs ++ [u])) (hat : v'.ownBlock = v.ownBlock ∨ v'.ownBlock = some W.heap.size) :
    OwnT w' B v' (f.app (.cons c k .nil)) := by
  have hs := hW.size
  have hs2 := hg.size
  have keep : ∀ q, q < w.heap.size → v.ownBlock ≠ some q → w'.heap[q]? = w.heap[q]? := fun q h1 h2 => (hg.block q (by omega) (fun e => h2 e.symm)).trans (hW.block q h1)
  have ne : ∀ q, q < w.heap.size → v.ownBlock ≠ some q → v'.ownBlock ≠ some q := fun q h1 h2 => by
    rcases hat with e | e
    · rw [e]; exact h2
    · rw [e]; intro he; injection he with he; omega
  refine ⟨xs ++ [u], by rw [Forest.app_len]; exact hown', Vals.snoc ?_ f xs (Vals.keep (fun q h => ⟨⟨h.1, by omega, ne q h.2.1 h.2.2.1, h.2.2.2.keep (keep q h.2.1 h.2.2.1)⟩, keep q h.2.1 h.2.2.1⟩) f xs hv)⟩
  refine hu.keep fun q h => ?_
  have h2 : v.ownBlock ≠ some q := fun e => by have := hvc q e; omega
  exact ⟨⟨by omega, by omega, ne q h.2.1 h2, h.2.2.keep (keep q h.2.1 h2)⟩, keep q h.2.1 h2⟩

theorem newCall_any (B : Nat) (c : UInt8) (k : Forest) (v : Value) (w : World) (h : OwnT w B v k) :
    Calls Try.prog 58 #[.string ⟨#[c]⟩, v] w fun e w' => ∃ u, e = .returned u ∧ IsCall w (fun q => B ≤ q ∧ q < w.heap.size ∧ CRow w q) c k u ∧ w = w' := by
  cases hk : k.isNil with
  | true =>
    obtain ⟨A, cap, rfl, -⟩ := h.slice
    have h0 : k.len = 0 := by rw [Forest.isNil_len] at hk; exact of_decide_eq_true hk
    rw [h0]
    exact (newCall_leaf c A cap w).mono fun e w' ⟨he, hw⟩ => ⟨_, he, .inl ⟨hk, rfl⟩, hw⟩
  | false =>
    obtain ⟨g, cap, rfl, h1, h3⟩ := h.form hk
    have h0 : 0 < k.len := by rw [Forest.isNil_len] at hk; have := of_decide_eq_false hk; omega
    exact (newCall_branch c g k.len cap w h0).mono fun e w' ⟨he, hw⟩ => ⟨_, he, .inr ⟨hk, g, cap, rfl, h1, h3⟩, hw⟩
def LeftPost (w : World) (f : Forest) (e : Ending) (w' : World) : Prop := ∃ v, e = .returned v ∧ OwnT w' w.heap.size v f ∧ Below w.heap.size w w'

set_option maxRecDepth 100000 in
set_option maxHeartbeats 4000000 in
theorem callsWithout_any (n : ByteArray) : ∀ (m : Nat) (f : Forest) (v : Value) (w : World), f.size < m → f.size ≤ 1000 → SliceIs w (· < w.heap.size) v f →
    Calls Try.prog 40 #[v, .string n] w (LeftPost w (lessB n f)) := by
  intro m
  induction m with
  | zero => intro f v w h; omega
  | succ m ih =>
    intro f v w hm h80 hv
    obtain ⟨A, cap, rfl, hl0⟩ := LeftC.start hv
    have IH := Lib.hid ih
    have HL0 := Lib.hid hl0
    have hfl : f.len ≤ 1000 := Nat.le_trans f.len_size h80
    clear ih hv hl0
    obtain ⟨i0, hi0, hz0, hz1, hz2'⟩ := info_parts info_call
    have I0 := Lib.hid hi0
    have Z0 := Lib.hid hz0
    have Z1 := Lib.hid hz1
    have Z2 := Lib.hid hz2'
    clear hi0 hz0 hz1 hz2'
    go_enter Try.func40, Try.ntmps40
    go_wp2
    go_loopw [5, 10] (fun o i wr => ∃ (pre rest : Forest), i = .int .i64 pre.len ∧ Hid (OwnT wr w.heap.size o (lessB n pre)) ∧ Hid (LeftC wr w.heap.size f A pre rest) ∧ Hid (Below w.heap.size w wr))
      (fun _ i _ => f.len - (intOf i).toNat)
    case atStart => exact ⟨.nil, f, rfl, OwnT.nil _ _, HL0, Below.refl _ _⟩
    case round =>
      obtain ⟨pre, rest, rfl, HT, HL, HB⟩ := hrel
      clear HL0
      cases rest with
      | nil =>
        have HE := Lib.hid HL.out.done
        have hle : ¬ (pre.len < f.len) := by rw [HE.out]; omega
        go_wp2
        go_ret
        exact ⟨_, rfl, by rw [HE.out]; exact HT.out, HB.out⟩
      | cons c k r =>
        obtain ⟨hnext, hlt, hks, g, u, rfl, hg, c0, hu⟩ := HL.out.take
        obtain ⟨T, x, kv, rfl, hf, hkv⟩ := hu.facts
        obtain ⟨K, z, o, hmt, hen, hc⟩ := hf.calls
        have hnm := hf.name
        have HC := Lib.hid hc
        have HKV := Lib.hid hkv
        have HNX := Lib.hid hnext
        have hz := HB.out.size
        obtain ⟨A5, cap5, rfl, -⟩ := HT.out.slice
        have hps : pre.size + (k.size + r.size + 1) = f.size := by rw [HL.out.1, Forest.app_size]; rfl
        have hpl : (lessB n pre).len ≤ 1000 := by have := lessB_len n pre; have := pre.len_size; omega
        have HLN : Hid ((pre.app (.cons c k .nil)).len = pre.len + 1) := by show _ = _; rw [Forest.app_len]; rfl
        have HNM := Lib.hid (leafName_any c)
        have HNC := Lib.hid (fun B k v w h => newCall_any B c k v w h)
        have HIC := Lib.hid (fun (w : World) (S : Nat → Prop) (k : Forest) (u : Value) (h : IsCall w S c k u) => h.iface)
        by_cases hcn : (⟨#[c]⟩ : ByteArray) = n
        · have HLE : Hid (lessB n (pre.app (.cons c k .nil)) = lessB n pre) := by
            show _ = _
            rw [lessB_app, lessB_yes k hcn, Forest.app_nil]
          have HB1 : Hid (Below wr.heap.size wr (wr.alloc (.cells #[.string ⟨#[c]⟩] 117))) := (Below.refl _ wr).alloc (Nat.le_refl _) _
          have HT1 := Lib.hid (HT.out.far HB1.out)
          have HL1 := Lib.hid (HNX.out.below (HB1.out.mono hz))
          have HBB := Lib.hid (HB.out.trans (HB1.out.mono hz))
          clear hnext hf hkv hc hu HT HL HB HB1 HC HKV HNX HNC HIC
          rw [hcn] at HNM hnm HT1 HL1 HBB
          clear hcn
          go_wp2_with fail
          refine (HNM.out _).mono ?_
          rintro e w2 ⟨rfl, rfl⟩
          go_wp2
          go_roundw
          case rel => exact ⟨_, r, by rw [HLN.out]; go_num, by show OwnT _ _ _ _; rw [HLE.out]; exact HT1.out, HL1.out, HBB.out⟩
          case measure => simp [intOf]; omega
        · have HLE : Hid (lessB n (pre.app (.cons c k .nil)) = (lessB n pre).app (.cons c (lessB n k) .nil)) := by
            show _ = _
            rw [lessB_app, lessB_no k hcn]
          have HQ := Lib.hid (fun W h => IH.out k kv W (by omega) (by omega) h)
          clear hnext hf hkv hc hu HL
          generalize lessB n pre = F at *
          generalize lessB n k = k2 at *
          generalize hy : (⟨#[c]⟩ : ByteArray) = y at *
          have hne : ¬ y.toList = n.toList := fun e => hcn (by rw [ByteArray.toList_eq, ByteArray.toList_eq] at e; exact ByteArray.ext (Array.toList_inj.1 e))
          have hn2 : (y.toList == n.toList) = false := by simp [hne]
          have hn3 : (y.toList != n.toList) = true := by simp [hne]
          clear hy hcn
          go_wp2_with fail
          refine (HNM.out _).mono ?_
          rintro e w1 ⟨rfl, rfl⟩
          have hB1 : Below wr.heap.size wr (wr.alloc (.cells #[.string y] 117)) := (Below.refl _ wr).alloc (Nat.le_refl _) _
          have HB1 := Lib.hid hB1
          clear hB1
          go_wp2_with fail
          generalize wr.alloc (.cells #[.string y] 117) = W1 at *
          clear hne hn2 hn3
          refine (HNM.out _).mono ?_
          rintro e w2 ⟨rfl, rfl⟩
          have HB2 : Hid (Below wr.heap.size wr (W1.alloc (.cells #[.string y] 117))) := HB1.out.alloc HB1.out.size _
          clear HB1
          go_wp2_with fail
          generalize W1.alloc (.cells #[.string y] 117) = W2 at *
          refine (HC.out _).mono ?_
          rintro e w3 ⟨rfl, rfl⟩
          have HB3 : Hid (Below wr.heap.size wr (W2.alloc o)) := HB2.out.alloc HB2.out.size _
          clear HB2
          go_wp2_with fail
          generalize W2.alloc o = W3 at *
          have hkv3 : SliceIs W3 (· < W3.heap.size) kv k := (HKV.out.below (HB3.out.mono hz)).keep fun q hq => ⟨Nat.lt_of_lt_of_le hq (Nat.le_trans hz HB3.out.size), rfl⟩
          refine (HQ.out W3 hkv3).mono ?_
          rintro e w4 ⟨v4, rfl, ho4, hb4⟩
          have HO4 := Lib.hid ho4
          have HB4 : Hid (Below wr.heap.size wr w4) := HB3.out.trans (hb4.mono HB3.out.size)
          have HT4 : Hid (OwnT w4 w.heap.size (.slice A5 F.len cap5) F) := HT.out.far HB4.out
          have HOL := Lib.hid HT.out.lt
          obtain ⟨A6, cap6, rfl, -⟩ := ho4.slice
          clear ho4 hb4 hkv3 HQ
          go_wp2_with fail
          refine (HNC.out W3.heap.size k2 _ w4 HO4.out).mono ?_
          rintro e w5 ⟨u5, rfl, hu5, rfl⟩
          obtain ⟨t6, x6, rfl⟩ := HIC.out _ _ _ _ hu5
          obtain ⟨xs, hown, hvals⟩ := HT4.out
          have HU5 := Lib.hid hu5
          have HOWN := Lib.hid hown
          have HVAL := Lib.hid hvals
          have HZ : Hid (w.heap.size ≤ w4.heap.size ∧ wr.heap.size ≤ W3.heap.size ∧ w.heap.size ≤ W3.heap.size) := ⟨Nat.le_trans hz HB4.out.size, HB3.out.size, Nat.le_trans hz HB3.out.size⟩
          have HNW := Lib.hid (World.news_of_block (cs := #[.iface t6 x6]) (t := 86) (fr := (0, 0)) (heap_alloc_new w4 (.cells #[.iface t6 x6] 86)))
          clear hu5 hown hvals HT HT4 HO4 HB3 HNC HIC HNM HC HKV
          go_wp2_with (at_builtin; go_loud (refine wpList_append_own_at _ rfl _ _ 40 rfl w.heap.size 86 i0 .nilIface 1 16 Try.underlying40 I0.out Z0.out Z1.out Z2.out rfl (by decide) _ F.len xs rfl (HOWN.out.alloc _) ⟨w4.heap.size, 0, none⟩ 1 1 [.iface t6 x6] rfl rfl HNW.out (by simp [Value.oneCell']) (by unfold maxLen; omega) (by omega) (by have := HZ.out.1; simp; omega) ?_); intro v7 w7 hown7 hgrow7' _ hat7; have hgrow7 : World.grownBy _ w7 (Value.slice A5 F.len cap5).ownBlock := hgrow7'; have H7 := Lib.hid hown7; have HG := Lib.hid hgrow7; have HA := Lib.hid hat7; clear hown7 hgrow7 hgrow7' hat7)
          have HB7 : Hid (Below w.heap.size wr w7) := ((HB4.out.mono hz).alloc HZ.out.1 (.cells #[.iface t6 x6] 86)).grown HG.out (by have := HZ.out.1; simp; omega) (fun q hq => (HOL.out q hq).1)
          have HT7 : Hid (OwnT w7 w.heap.size v7 (F.app (.cons c k2 .nil))) :=
            OwnT.more HVAL.out HU5.out HZ.out.2.2 (fun q e => by have := (HOL.out q e).2; have := HZ.out.2.1; omega) ((Below.refl _ w4).alloc (Nat.le_refl _) (.cells #[.iface t6 x6] 86)) HG.out H7.out HA.out
          have HL7 := Lib.hid (HNX.out.below HB7.out)
          have HBB := Lib.hid (HB.out.trans HB7.out)
          clear HB7 HG H7 HA HVAL HU5 HOWN HNW HNX HB HB4 HOL HZ hmt hen hnm c0
          go_wp2
          go_roundw
          case rel => exact ⟨_, r, by rw [HLN.out]; go_num, by show OwnT _ _ _ _; rw [HLE.out]; exact HT7.out, HL7.out, HBB.out⟩
          case measure => simp [intOf]; omega

end Go.Proofs.Ytjehklkndmdcaaa
