/- Joined: Fk Fi Fm Fp Fq Fr Fs Ga Ah Wa. -/
import Derived.Test.YtcpiojliakgdlaaGreatDoorU20
import Derived.Test.YtcpiojliakgdlaaGreatDoorU04
import Derived.Test.YtcpiojliakgdlaaGreatDoorU18
import Derived.Test.YtcpiojliakgdlaaGreatDoorU19
import Derived.Test.YtcpiojliakgdlaaGreatDoorU14
import Derived.Maps.AppendAt
import Derived.Deep.AppendLies
import Derived.BigQuiet
import Derived.WalkLawsBesides
import Derived.Test.YtcpiojliakgdlaaGreatDoorU17
import Derived.Test.YtcpiojliakgdlaaGreatDoorU07
import Derived.Test.YtcpiojliakgdlaaGreatDoorU01
/- The reference's l4Read and TraceValid by their contracts. -/
namespace Go.Proofs.YtcpiojliakgdlaaGreatDoor
open Go.RowKit

/-- What l4Read has done. -/
def ReadPost (w : World) (R : Option Forest) (e : Ending) (w' : World) : Prop :=
  ∃ v, e = .returned (.tuple #[v, .bool R.isSome]) ∧ ((∃ f, R = some f ∧ IsKids w' (fun q => w.heap.size ≤ q ∧ q < w'.heap.size) f v) ∨ (R = none ∧ ∃ A cap, v = .slice A 0 cap)) ∧ Below w.heap.size w w'

set_option maxRecDepth 100000 in
set_option maxHeartbeats 4000000 in
theorem l4Read_any (A : Option Addr) (l : List Seg) (c : Nat) (t : ByteArray) (w : World) (hw : Segs w w.heap.size A l) (hl : l.length ≤ 1048576) (hn : Short l) (ht : t.size ≤ 1048576) :
    Calls Tryz.prog 58 #[.slice A l.length c, .string t] w (ReadPost w (traceB l t.data.toList)) := by
  have HW : Hid (Segs w w.heap.size A l) := hw
  have hlen : t.data.toList.length = t.size := by simp
  have HT : Hid (traceB l t.data.toList = if (validB l && decide (t.size ≤ 80)) = true then whole (calls (callP l) 8 t.data.toList) else none) := by
    show _ = _
    rw [traceB_eq, hlen]
  have HLEN := Lib.hid hlen
  clear hw hlen
  have HB0 : Hid (Below w.heap.size w (w.alloc (.cells #[.string t, .int .i64 0, .bool false, .slice A l.length c, .int .i64 0] 121))) := (Below.refl _ w).alloc (Nat.le_refl _) _
  have HR0 : Hid (Row (w.alloc (.cells #[.string t, .int .i64 0, .bool false, .slice A l.length c, .int .i64 0] 121)) w.heap.size 121 (rdCells t ((0 : Nat) : Int) false (.slice A l.length c) 0)) := Row.new w _ _
  have HN : Hid (∀ (R : Option Forest) (W : World), R = none → Below w.heap.size w W → ReadPost w R (.returned (.tuple #[.slice (some ⟨W.heap.size, 0, none⟩) 0 0, .bool false])) (W.alloc (.cells #[] 131))) := fun R W h0 h1 => by
    subst h0
    exact ⟨_, rfl, .inr ⟨rfl, _, _, rfl⟩, h1.alloc h1.size _⟩
  go_enter Tryz.func58, Tryz.ntmps58
  go_wp2_with fail
  generalize w.alloc (.cells #[.string t, .int .i64 0, .bool false, .slice A l.length c, .int .i64 0] 121) = W1 at *
  have HWX : Hid (Segs W1 w.heap.size A l) := HW.out.below HB0.out
  have HQ := Lib.hid (specCalls_any w.heap.size t ht A l c hl hn 8 0 0 W1 (by omega) (by omega) (by omega) HWX.out HR0.out)
  refine Calls.mono HQ.out ?_
  rintro e w2 ⟨v, rfl, ho, (⟨F, k, hk, how, hr, hc⟩ | ⟨a, A', n', cap', rfl, ha0, ha1, hr, hc⟩)⟩
  · rw [List.drop_zero] at hc
    obtain ⟨A2, cap2, rfl⟩ := how.form
    have HB2 : Hid (Below w.heap.size w w2) := HB0.out.trans (ho.belowRow (Nat.le_of_lt HR0.out.lt))
    have hbw := HR0.out.lt
    have HZ : Hid (w.heap.size < W1.heap.size) := hbw
    have HS2 : Hid (Segs w2 w2.heap.size A l) := (HW.out.below HB2.out).more HB2.out.size
    have HK2 := Lib.hid how.kids
    have c1 : w2.cell? ⟨w.heap.size, 1, none⟩ = some (.int .i64 k) := hr.cell 1
    have c2 : w2.cell? ⟨w.heap.size, 2, none⟩ = some (.bool false) := hr.cell 2
    have HC := Lib.hid hc
    clear HQ HR0 HB0 HWX ho how hr hc hbw
    by_cases hke : k = t.size
    · have HWH : Hid (whole (calls (callP l) 8 t.data.toList) = some F) := by
        show _ = _
        rw [HC.out, hke, List.drop_of_length_le (by rw [HLEN.out]; exact Nat.le_refl _)]
        rfl
      have hneq : ((k : Int) != (t.size : Int)) = false := by rw [hke]; simp
      have heq : (k : Int) = (t.size : Int) := by omega
      by_cases h80 : 80 < t.size
      · have h80' : ¬ (t.size ≤ 80) := by omega
        have h80i : (80 : Int) < (t.size : Int) := by omega
        have HR : Hid (traceB l t.data.toList = none) := by
          show _ = _
          rw [HT.out, if_neg (by simp [h80'])]
        clear HT HC HWH hke
        have q : decide (80 < t.size) = true := decide_eq_true h80
        go_wp2
        go_ret2
        exact HN.out _ _ HR.out HB2.out
      · have h80' : t.size ≤ 80 := by omega
        have h80i : ¬ (80 : Int) < (t.size : Int) := by omega
        have q : decide (80 < t.size) = false := decide_eq_false h80
        have HTV := Lib.hid (specTreeValid_any A l c w2 HS2.out hl hn)
        cases hv : validB l with
        | false =>
          have HR : Hid (traceB l t.data.toList = none) := by
            show _ = _
            rw [HT.out, hv]; rfl
          clear HT HC HWH hke
          go_wp2_with fail
          refine Calls.mono HTV.out ?_
          rw [hv]
          clear HTV hv
          rintro e w3 ⟨rfl, hb3⟩
          have HB3 := Lib.hid (HB2.out.trans (hb3.mono HB2.out.size))
          clear hb3
          go_wp2
          go_ret2
          exact HN.out _ _ HR.out HB3.out
        | true =>
          have HR : Hid (traceB l t.data.toList = some F) := by
            show _ = _
            rw [HT.out, hv, decide_eq_true h80', HWH.out]; rfl
          clear HT HC HWH hke
          go_wp2_with fail
          refine Calls.mono HTV.out ?_
          rw [hv]
          clear HTV hv
          rintro e w3 ⟨rfl, hb3⟩
          have HB3 := Lib.hid (HB2.out.trans (hb3.mono HB2.out.size))
          have HK3 : Hid (IsKids w3 (fun q => w.heap.size ≤ q ∧ q < w3.heap.size) F (.slice A2 F.len cap2)) :=
            HK2.out.keep fun q hq => ⟨⟨by have := HZ.out; omega, Nat.lt_of_lt_of_le hq.2 hb3.size⟩, hb3.block q hq.2⟩
          clear hb3
          go_wp2
          go_ret2
          exact ⟨_, by rw [HR.out]; rfl, .inl ⟨F, HR.out, HK3.out⟩, HB3.out⟩
    · have HR : Hid (traceB l t.data.toList = none) := by
        show _ = _
        rw [HT.out, HC.out]
        have hd : t.data.toList.drop k = t[k]'(by omega) :: t.data.toList.drop (k + 1) := List.drop_eq_getElem_cons (by rw [HLEN.out]; omega)
        rw [hd]
        split <;> rfl
      have hneq : ((k : Int) != (t.size : Int)) = true := by rw [bne_iff_ne]; omega
      have hne' : ¬ (k : Int) = (t.size : Int) := by omega
      clear HT HC hke
      go_wp2
      go_ret2
      exact HN.out _ _ HR.out HB2.out
  · rw [List.drop_zero] at hc
    have HR : Hid (traceB l t.data.toList = none) := by
      show _ = _
      rw [HT.out, hc]
      split <;> rfl
    have HB2 : Hid (Below w.heap.size w w2) := HB0.out.trans (ho.belowRow (Nat.le_of_lt HR0.out.lt))
    have c2 : w2.cell? ⟨w.heap.size, 2, none⟩ = some (.bool true) := hr.cell 2
    clear HQ HR0 HB0 HWX ho hr hc HT
    go_wp2
    go_ret2
    exact HN.out _ _ HR.out HB2.out

set_option maxRecDepth 100000 in
set_option maxHeartbeats 400000 in
theorem specTraceValid_any (A : Option Addr) (l : List Seg) (c : Nat) (t : ByteArray) (w : World) (hw : Segs w w.heap.size A l) (hl : l.length ≤ 1048576) (hn : Short l) (ht : t.size ≤ 1048576) :
    Calls Tryz.prog 35 #[.slice A l.length c, .string t] w fun e w' => e = .returned (.bool (traceB l t.data.toList).isSome) ∧ Below w.heap.size w w' := by
  have HQ := Lib.hid (l4Read_any A l c t w hw hl hn ht)
  clear hw hn
  generalize traceB l t.data.toList = R at *
  go_enter Tryz.func35, Tryz.ntmps35
  go_wp2_with fail
  refine Calls.mono HQ.out ?_
  rintro e w2 ⟨v, rfl, -, hb⟩
  go_wp2
  go_ret
  exact ⟨rfl, hb⟩

end Go.Proofs.YtcpiojliakgdlaaGreatDoor
/- What a trace tells, plain: needs, chains, texts, calls that are left. -/
namespace Go.Proofs.YtcpiojliakgdlaaGreatDoor
open Go.RowKit

/-- Who is active at each call, behind some that are active before. -/
def chainsB (a : List UInt8) : Forest → List (List UInt8)
  | .nil => []
  | .cons c k r => (a ++ [c]) :: (chainsB (a ++ [c]) k ++ chainsB a r)
theorem chainsB_app (a : List UInt8) : ∀ f g : Forest, chainsB a (f.app g) = chainsB a f ++ chainsB a g
  | .nil, _ => rfl
  | .cons c k r, g => by
    show (a ++ [c]) :: (chainsB (a ++ [c]) k ++ chainsB a (r.app g)) = ((a ++ [c]) :: (chainsB (a ++ [c]) k ++ chainsB a r)) ++ chainsB a g
    rw [chainsB_app a r g]; simp
theorem chainsB_one (a : List UInt8) (c : UInt8) (k : Forest) : chainsB a (.cons c k .nil) = (a ++ [c]) :: chainsB (a ++ [c]) k := by
  show (a ++ [c]) :: (chainsB (a ++ [c]) k ++ []) = _
  rw [List.append_nil]
theorem chainsB_len : ∀ (f : Forest) (a : List UInt8), (chainsB a f).length = f.size
  | .nil, _ => rfl
  | .cons c k r, a => by
    show ((a ++ [c]) :: (chainsB (a ++ [c]) k ++ chainsB a r)).length = k.size + r.size + 1
    simp [chainsB_len k, chainsB_len r]
/-- How many calls are read out of a text: no more than it has bytes. -/
theorem rd_size (P : UInt8 → Bool) : ∀ (n d : Nat) (s : List UInt8) f r, rd P n d s = some (f, r) → f.size + r.length ≤ s.length ∧ f.deep ≤ d
  | 0, _, _, _, _, e => by cases e
  | n + 1, d, [], f, r, e => by
    injection e with e
    injection e with e1 e2
    subst e1 e2
    exact ⟨Nat.le_refl _, Nat.zero_le _⟩
  | n + 1, d, c :: s, f, r, e => by
    unfold rd at e
    split at e
    · injection e with e
      injection e with e1 e2
      subst e1 e2
      exact ⟨Nat.le_of_eq (Nat.zero_add _), Nat.zero_le _⟩
    · unfold thenBy at e
      split at e
      · cases e
      · next k r1 h2 =>
        split at e
        · cases e
        · next f' r2 h4 =>
          injection e with e
          injection e with e1 e2
          subst e1 e2
          have h5 := rd_size P n d r1 _ _ h4
          have h6 : k.size + r1.length ≤ s.length ∧ k.deep + 1 ≤ d := by
            unfold callBy at h2
            split at h2
            · cases h2
            · next d' =>
              split at h2
              · unfold innerBy at h2
                split at h2
                · injection h2 with h2
                  injection h2 with h2 h3
                  subst h2 h3
                  exact ⟨Nat.le_refl _, by show 0 + 1 ≤ d' + 1; omega⟩
                · next x u =>
                  split at h2
                  · unfold closed at h2
                    split at h2
                    · cases h2
                    · cases h2
                    · cases h2
                    · next c' k' f'' x' r'' h7 =>
                      split at h2
                      · injection h2 with h2
                        injection h2 with h2 h3
                        subst h2 h3
                        have h8 := rd_size P n d' u _ _ h7
                        simp at h8 ⊢
                        omega
                      · cases h2
                  · injection h2 with h2
                    injection h2 with h2 h3
                    subst h2 h3
                    exact ⟨by show 0 + _ ≤ _; omega, by show 0 + 1 ≤ d' + 1; omega⟩
              · cases h2
          refine ⟨?_, ?_⟩
          · show k.size + f'.size + 1 + r2.length ≤ s.length + 1
            omega
          · show max (k.deep + 1) f'.deep ≤ d
            omega
theorem calls_size {P : UInt8 → Bool} {d : Nat} {s : List UInt8} {f : Forest} {r : List UInt8} (h : calls P d s = some (f, r)) : f.size + r.length ≤ s.length ∧ f.deep ≤ d := rd_size P _ d s f r h
theorem whole_some {g : Got} {f : Forest} (h : whole g = some f) : g = some (f, []) := by
  unfold whole at h
  split at h
  · injection h with h; subst h; rfl
  · cases h
theorem traceB_some {l : List Seg} {t : List UInt8} {f : Forest} (h : traceB l t = some f) : validB l = true ∧ t.length ≤ 80 ∧ calls (callP l) 8 t = some (f, []) := by
  rw [traceB_eq] at h
  split at h
  · next h1 =>
    simp only [Bool.and_eq_true, decide_eq_true_eq] at h1
    exact ⟨h1.1, h1.2, whole_some h⟩
  · cases h
theorem traceB_size {l : List Seg} {t : List UInt8} {f : Forest} (h : traceB l t = some f) : f.size ≤ 80 ∧ f.deep ≤ 8 := by
  obtain ⟨_, h2, h3⟩ := traceB_some h
  have := calls_size h3
  simp at this
  omega

def strOf (x : List UInt8) : ByteArray := ⟨x.toArray⟩
theorem bytes_cat (x y : List UInt8) : (⟨x.toArray⟩ : ByteArray) ++ ⟨y.toArray⟩ = ⟨(x ++ y).toArray⟩ := by
  apply ByteArray.ext
  simp [ByteArray.data_append]
theorem bytes_size (x : List UInt8) : (⟨x.toArray⟩ : ByteArray).size = x.length := by simp [ByteArray.size]
theorem Forest.app_size : ∀ f g : Forest, (f.app g).size = f.size + g.size
  | .nil, g => by show g.size = 0 + g.size; omega
  | .cons c k r, g => by show k.size + (r.app g).size + 1 = k.size + r.size + 1 + g.size; rw [Forest.app_size r]; omega

theorem Forest.deep_app : ∀ (pre : Forest) (c : UInt8) (k r : Forest), k.deep + 1 ≤ (pre.app (.cons c k r)).deep
  | .nil, _, k, r => by show k.deep + 1 ≤ max (k.deep + 1) r.deep; omega
  | .cons _ k' p, c, k, r => by
    have := Forest.deep_app p c k r
    show _ ≤ max (k'.deep + 1) (p.app (.cons c k r)).deep
    omega
/-- The root's letter. -/
def rootB (l : List Seg) : UInt8 := match l with
  | s :: _ => s.name.data.toList.headD 0
  | [] => 0
theorem root_name {l : List Seg} (hv : validB l = true) : ∃ s, l[0]? = some s ∧ s.name = ⟨#[rootB l]⟩ := by
  have h1 : 1 ≤ l.length := by
    unfold validB at hv
    simp only [Bool.and_eq_true, decide_eq_true_eq] at hv
    exact hv.1.1
  cases l with
  | nil => simp at h1
  | cons s r =>
    obtain ⟨d, hd, _, _⟩ := nameOk_one (validB_names hv (s := s) (by simp))
    refine ⟨s, rfl, ?_⟩
    show s.name = ⟨#[s.name.data.toList.headD 0]⟩
    rw [hd]; rfl
/-- The root's name in memory. -/
theorem Segs.root {w : World} {B : Nat} {A : Option Addr} {l : List Seg} (h : Segs w B A l) (hv : validB l = true) : ∃ b o, A = some ⟨b, o, none⟩ ∧ b < B ∧ w.cell? ⟨b, o, none⟩ = some (.string ⟨#[rootB l]⟩) := by
  obtain ⟨s, hs, hn⟩ := root_name hv
  obtain ⟨b, o, e, hB, hc⟩ := h (List.getElem?_eq_some_iff.1 hs).1
  have := (hc 0 s hs).1
  rw [hn] at this
  simp only [Nat.zero_mul, Nat.add_zero] at this
  exact ⟨b, o, e, hB, this⟩

end Go.Proofs.YtcpiojliakgdlaaGreatDoor
/- The reference's needs and texts of calls. -/
namespace Go.Proofs.YtcpiojliakgdlaaGreatDoor
open Go.RowKit

theorem SCells.kids {w : World} {S : Nat → Prop} {c : UInt8} {k r : Forest} {g o : Nat} (h : SCells w S (.cons c k r) g o) : w.cell? ⟨g, o, none⟩ = some (.string ⟨#[c]⟩) ∧ (∃ v, w.cell? ⟨g, o + 1, none⟩ = some v ∧ IsKids w S k v) ∧ SCells w S r g (o + 2) := by
  obtain ⟨h1, ⟨A, cap, h2, h3⟩, h4⟩ := h
  exact ⟨h1, ⟨_, h2, A, cap, rfl, h3⟩, h4⟩
theorem SCells.below {w w' : World} {f : Forest} {g o B : Nat} (h : SCells w (· < B) f g o) (hb : Below B w w') (hg : g < B) : SCells w' (· < B) f g o :=
  SCells.keep (fun q hq => ⟨hq, hb.block q hq⟩) f g o (hb.block g hg) h
theorem IsKids.below {w w' : World} {f : Forest} {v : Value} {B : Nat} (h : IsKids w (· < B) f v) (hb : Below B w w') : IsKids w' (· < B) f v :=
  h.keep fun q hq => ⟨hq, hb.block q hq⟩
theorem IsKids.up {w : World} {f : Forest} {v : Value} {B B' : Nat} (h : IsKids w (· < B) f v) (hB : B ≤ B') : IsKids w (· < B') f v :=
  h.keep fun _ hq => ⟨Nat.lt_of_lt_of_le hq hB, rfl⟩

/-- What the range over calls has before it. -/
def LeftS (w : World) (B : Nat) (f : Forest) (A : Option Addr) (pre rest : Forest) : Prop := f = pre.app rest ∧ (rest.isNil = false → ∃ g, A = some ⟨g, 0, none⟩ ∧ g < B ∧ SCells w (· < B) rest g (pre.len * 2))
theorem LeftS.start {w : World} {B : Nat} {f : Forest} {A : Option Addr} (h : f.isNil = false → ∃ g, A = some ⟨g, 0, none⟩ ∧ g < B ∧ SCells w (· < B) f g 0) : LeftS w B f A .nil f := ⟨rfl, h⟩
theorem LeftS.below {w w' : World} {B : Nat} {f pre rest : Forest} {A : Option Addr} (h : LeftS w B f A pre rest) (hb : Below B w w') : LeftS w' B f A pre rest := by
  refine ⟨h.1, fun hr => ?_⟩
  obtain ⟨g, e, h1, h2⟩ := h.2 hr
  exact ⟨g, e, h1, h2.below hb h1⟩
/-- One call is taken. -/
theorem LeftS.take {w : World} {B : Nat} {f pre k r : Forest} {c : UInt8} {A : Option Addr} (h : LeftS w B f A pre (.cons c k r)) :
    LeftS w B f A (pre.app (.cons c k .nil)) r ∧ pre.len < f.len ∧ k.size < f.size ∧ ∃ g v, A = some ⟨g, 0, none⟩ ∧ g < B ∧ w.cell? ⟨g, pre.len * 2, none⟩ = some (.string ⟨#[c]⟩) ∧ w.cell? ⟨g, pre.len * 2 + 1, none⟩ = some v ∧ IsKids w (· < B) k v := by
  obtain ⟨h1, h2⟩ := h
  obtain ⟨g, e, h3, h4⟩ := h2 rfl
  obtain ⟨c0, ⟨v, c1, hv⟩, hr⟩ := h4.kids
  have hl : (pre.app (.cons c k .nil)).len = pre.len + 1 := by rw [Forest.app_len]; rfl
  refine ⟨⟨?_, fun _ => ⟨g, e, h3, ?_⟩⟩, ?_, ?_, g, v, e, h3, c0, c1, hv⟩
  · rw [Forest.app_assoc]; exact h1
  · rw [hl, show (pre.len + 1) * 2 = pre.len * 2 + 2 by omega]; exact hr
  · rw [h1, Forest.app_len]; show pre.len < pre.len + (r.len + 1); omega
  · rw [h1, Forest.app_size]; show k.size < pre.size + (k.size + r.size + 1); omega
theorem LeftS.done {w : World} {B : Nat} {f pre : Forest} {A : Option Addr} (h : LeftS w B f A pre .nil) : f = pre := by rw [h.1, Forest.app_nil]

end Go.Proofs.YtcpiojliakgdlaaGreatDoor
/- The reference's chains, texts and calls that are left. -/
namespace Go.Proofs.YtcpiojliakgdlaaGreatDoor
open Go.RowKit

/-- A row of texts that is no nil. -/
def SolidTexts (w : World) (B : Nat) (v : Value) (ts : List ByteArray) : Prop := OwnTexts w B v ts ∧ v ≠ .slice none 0 0
theorem SolidTexts.form {w : World} {B : Nat} {v : Value} {ts : List ByteArray} (h : SolidTexts w B v ts) : ∃ g cap, v = .slice (some ⟨g, 0, none⟩) ts.length cap := by
  rcases h.1.2 with ⟨h0, _⟩ | ⟨g, cap, cur, e, _⟩
  · exact absurd h0 h.2
  · exact ⟨g, cap, e⟩
end Go.Proofs.YtcpiojliakgdlaaGreatDoor
/- The reference's texts of calls. -/
namespace Go.Proofs.YtcpiojliakgdlaaGreatDoor
open Go.RowKit

end Go.Proofs.YtcpiojliakgdlaaGreatDoor
/- The reference's calls that are left. -/
namespace Go.Proofs.YtcpiojliakgdlaaGreatDoor
open Go.RowKit

/-- A slice of the reference's calls that is no nil. -/
def SolidS (w : World) (B : Nat) (v : Value) (f : Forest) : Prop := OwnS w B v f ∧ v ≠ .slice none 0 0
theorem SolidS.form {w : World} {B : Nat} {v : Value} {f : Forest} (h : SolidS w B v f) : ∃ g cap, v = .slice (some ⟨g, 0, none⟩) f.len cap := by
  obtain ⟨⟨xs, hown, _⟩, hn⟩ := h
  rcases hown.2 with ⟨h0, _⟩ | ⟨g, cap, cur, e, _⟩
  · exact absurd h0 hn
  · exact ⟨g, cap, e⟩
theorem SolidS.below {w w' : World} {B : Nat} {v : Value} {f : Forest} (h : SolidS w B v f) (hb : Below w.heap.size w w') : SolidS w' B v f :=
  ⟨h.1.far hb.size fun q _ h2 => hb.block q h2, h.2⟩
/-- What holds in a round while one call is put behind those that are left. -/
structure LessHeld (w : World) (X : Nat) (c : UInt8) (kv v : Value) (F f pre k r : Forest) (A : Option Addr) (w' : World) : Prop where
  box : Row w' X 131 #[.string ⟨#[c]⟩, kv]
  own : SolidS w' w.heap.size v F
  left : LeftS w' w.heap.size f A (pre.app (.cons c k .nil)) r
  kids : IsKids w' (· < w.heap.size) k kv
  below : Below w.heap.size w w'
theorem LessHeld.later {w : World} {X : Nat} {c : UInt8} {kv v : Value} {F f pre k r : Forest} {A : Option Addr} {w1 w2 : World} (h : LessHeld w X c kv v F f pre k r A w1) (hb : Below w1.heap.size w1 w2) : LessHeld w X c kv v F f pre k r A w2 :=
  ⟨h.box.below hb h.box.lt, h.own.below hb, h.left.below (hb.mono h.below.size), h.kids.below (hb.mono h.below.size), h.below.trans (hb.mono h.below.size)⟩

end Go.Proofs.YtcpiojliakgdlaaGreatDoor
/- The reference's NeedsOf, ChainsOf, CountCalls, DepthOf. -/
namespace Go.Proofs.YtcpiojliakgdlaaGreatDoor
open Go.RowKit

theorem own_low {w : World} {B B' : Nat} {e : TypeId} {size : Nat} {v : Value} {n : Nat} {xs : List Value} (h : w.ownsRow B e size v n xs) (hB : B' ≤ B) : w.ownsRow B' e size v n xs := by
  refine ⟨h.1, ?_⟩
  rcases h.2 with h0 | ⟨g, cap, cur, e1, hg, r⟩
  · exact .inl h0
  · exact .inr ⟨g, cap, cur, e1, by omega, r⟩
/-- The chains of a trace. -/
def chainsRes (l : List Seg) (t : ByteArray) : List ByteArray := match traceB l t.data.toList with
  | none => []
  | some f => (chainsB [rootB l] f).map strOf
def ChainsResPost (w : World) (l : List Seg) (t : ByteArray) (e : Ending) (w' : World) : Prop :=
  ∃ v, e = .returned (.tuple #[v, .bool (traceB l t.data.toList).isSome]) ∧ OwnTexts w' w.heap.size v (chainsRes l t) ∧ Below w.heap.size w w'

def countRes (l : List Seg) (t : ByteArray) : Int := match traceB l t.data.toList with
  | none => -1
  | some f => f.size
theorem chainsRes_len {l : List Seg} {t : ByteArray} {f : Forest} (h : traceB l t.data.toList = some f) : (chainsRes l t).length = f.size := by
  unfold chainsRes
  rw [h]
  show ((chainsB [rootB l] f).map strOf).length = _
  rw [List.length_map, chainsB_len]

end Go.Proofs.YtcpiojliakgdlaaGreatDoor
/- States, needs and what they load: no program. -/
namespace Go.Proofs.YtcpiojliakgdlaaGreatDoor
open Go.RowKit

def IsState (l : List Seg) (T : List Nat) : Prop := T = [] ∨ ∃ j, j < l.length ∧ T = rp l j
theorem IsState.lt {l : List Seg} (hd : Down l l.length) {T : List Nat} (h : IsState l T) : ∀ j ∈ T, j < l.length := by
  rcases h with rfl | ⟨i, hi, rfl⟩
  · intro j hj; cases hj
  · intro j hj
    have := rp_le hd i hi j hj
    omega
theorem seek_nm {l : List Seg} (hv : validB l = true) {i : Nat} (hi : i < l.length) : indexB l (namesAt l [i]) = (i : Int) := by
  have h1 : indexB l (namesAt l [i]) = seek l (namesAt l [i]) := if_pos hv
  have h2 : 0 ≤ indexB l (namesAt l [i]) := by
    rw [h1]
    have key : ∀ (k : Nat), k ≤ i → seek l (namesAt l [i]) = seekFrom (namesAt l [i]) (l.drop k) k ∨ 0 ≤ seek l (namesAt l [i]) := by
      intro k
      induction k with
      | zero => intro _; exact .inl rfl
      | succ k ih =>
        intro hk
        rcases ih (by omega) with h | h
        · rw [seekFrom_drop l _ k (by omega)] at h
          by_cases hs : sameB (l[k]'(by omega)).name (namesAt l [i]) = true
          · rw [if_pos hs] at h; right; omega
          · rw [if_neg hs] at h; exact .inl h
        · exact .inr h
    rcases key i (Nat.le_refl _) with h | h
    · rw [seekFrom_drop l _ i hi, if_pos (sameB_iff.2 ?_)] at h
      · omega
      · rw [(nmAt_one hv hi).2]
        show _ = (⟨([i].flatMap (nmAt l)).toArray⟩ : ByteArray)
        rw [List.flatMap_cons, (nmAt_one hv hi).1]
        rfl
    · exact h
  have h3 := index_nm h2
  have h4 := namesAt_one_inj hv (index_lt h2) hi h3
  omega

end Go.Proofs.YtcpiojliakgdlaaGreatDoor

/- Costs, needs one after the other, the cheapest need: no program. -/
namespace Go.Proofs.YtcpiojliakgdlaaGreatDoor
open Go.RowKit

end Go.Proofs.YtcpiojliakgdlaaGreatDoor
/- What the law FnRoomLeft asks beside XKq, XKr: a resized segment has the size; a trace with one name for another counts as many calls; plain. -/
namespace Go.Proofs.YtcpiojliakgdlaaGreatDoor
open Go.RowKit

theorem one_name10 {l : List Seg} (hv : validB l = true) {i : Nat} (hi : i < l.length) : namesAt l [i] = l[i].name := by
  rw [(nmAt_one hv hi).2]
  show (⟨([i].flatMap (nmAt l)).toArray⟩ : ByteArray) = _
  rw [List.flatMap_cons, (nmAt_one hv hi).1]
  rfl
theorem resize_parts10 {l : List Seg} {s : ByteArray} {z : Int} (h : resizeOk l s z = true) : 0 ≤ indexB l s ∧ sizeOk z = true := by
  unfold resizeOk at h
  rw [Bool.and_eq_true, decide_eq_true_eq] at h
  exact h
theorem resize_size10 {l : List Seg} {s : ByteArray} {z : Int} (h : resizeOk l s z = true) : sizeB (resizeL l s z) s = z := by
  obtain ⟨h0, hz⟩ := resize_parts10 h
  obtain ⟨hv, hi⟩ := index9_valid h0
  have e : resizeL l s z = l.set (ix9 l s) ⟨nmAt9 l (ix9 l s), z, parAt l (ix9 l s)⟩ := if_pos h
  have hv' := grown9_valid hv hi hz
  have hi' : ix9 l s < (l.set (ix9 l s) ⟨nmAt9 l (ix9 l s), z, parAt l (ix9 l s)⟩).length := by rw [List.length_set]; exact hi
  have hat : (l.set (ix9 l s) ⟨nmAt9 l (ix9 l s), z, parAt l (ix9 l s)⟩)[ix9 l s]'hi' = ⟨nmAt9 l (ix9 l s), z, parAt l (ix9 l s)⟩ := List.getElem_set_self _
  have hn : namesAt (l.set (ix9 l s) ⟨nmAt9 l (ix9 l s), z, parAt l (ix9 l s)⟩) [ix9 l s] = s := by
    rw [one_name10 hv' hi', hat]
    exact nameIx9 h0
  have hx := seek_nm hv' hi'
  rw [hn] at hx
  rw [e]
  unfold sizeB
  rw [if_neg (by omega), hx, Int.toNat_natCast, sizeAt_of hi', hat]
theorem resize_short10 (l : List Seg) (s : ByteArray) (z : Int) : Short (resizeL l s z) ∧ (resizeL l s z).length ≤ 9 := by
  cases h : resizeOk l s z with
  | false =>
    have e : resizeL l s z = [] := if_neg (by rw [h]; decide)
    rw [e]
    exact ⟨(fun x hx => nomatch hx), Nat.zero_le _⟩
  | true =>
    obtain ⟨h0, hz⟩ := resize_parts10 h
    obtain ⟨hv, hi⟩ := index9_valid h0
    have e : resizeL l s z = l.set (ix9 l s) ⟨nmAt9 l (ix9 l s), z, parAt l (ix9 l s)⟩ := if_pos h
    have hv' := grown9_valid hv hi hz
    rw [e]
    refine ⟨fun x hx => ?_, by rw [List.length_set]; have := (valid_all hv).2.1; omega⟩
    obtain ⟨c, hc, -⟩ := nameOk_one (validB_names hv' hx)
    rw [hc]
    exact (by decide : 1 ≤ maxLen)
theorem names_res10 {l : List Seg} {t s x : ByteArray} (h : namesOk9 l t s x = true) : countRes l (namesIn9 l t s x) = countRes l t := by
  have h1 := names9_count h
  unfold countRes
  cases h2 : traceB l (namesIn9 l t s x).data.toList with
  | none =>
    cases h3 : traceB l t.data.toList with
    | none => rfl
    | some f => rw [h2, h3] at h1; cases h1
  | some g =>
    cases h3 : traceB l t.data.toList with
    | none => rw [h2, h3] at h1; cases h1
    | some f =>
      rw [h2, h3] at h1
      injection h1 with h1
      show (g.size : Int) = (f.size : Int)
      rw [h1]
theorem names_size10 {l : List Seg} {t s x : ByteArray} : (namesIn9 l t s x).size ≤ t.size := by
  unfold namesIn9
  split
  · show (t.data.toList.map (sw9 (hd9 s) (hd9 x))).toArray.size ≤ t.size
    simp
  · exact Nat.zero_le _
theorem left_off10 {l : List Seg} {s : ByteArray} (h : leftB l s < 0) : leftB l s = -1 := by
  by_cases h0 : indexB l s < 0
  · exact if_pos h0
  · have := (left9_says (l := l) (s := s) (by omega)).lo
    omega
theorem left_in10 {l : List Seg} {s : ByteArray} (h : ¬ leftB l s < 0) : LeftSays l s := by
  by_cases h0 : indexB l s < 0
  · have : leftB l s = -1 := if_pos h0
    omega
  · exact left9_says (by omega)

end Go.Proofs.YtcpiojliakgdlaaGreatDoor
/- Draws of traces: calls within a tree. -/
namespace Go.Proofs.YtcpiojliakgdlaaGreatDoor
open Go.RowKit

/-- What a draw of a text leaves. -/
def TextDrawn (b P Q n : Nat) (w : World) (e : Ending) (w' : World) : Prop := ∃ x : ByteArray, e = .returned (.string x) ∧ x.size ≤ n ∧ Only w w' (· = b) ∧ Rd w' b (P + Q)
theorem TextDrawn.weak {b P Q n Q' n' : Nat} {w : World} {e : Ending} {w' : World} (h : TextDrawn b P Q n w e w') (hQ : Q ≤ Q') (hn : n ≤ n') : TextDrawn b P Q' n' w e w' := by
  obtain ⟨x, h1, h2, h3, h4⟩ := h
  exact ⟨x, h1, Nat.le_trans h2 hn, h3, h4.weak (by omega)⟩
def countNums : List Int := [2, 1, 3, 2]

set_option maxRecDepth 100000 in
set_option maxHeartbeats 2000000 in
theorem l4Draw_any (b c : Nat) (A : Option Addr) (l : List Seg) (h1 : 1 ≤ l.length) (h9 : l.length ≤ 9) (hnm : ∀ s ∈ l, s.name.size ≤ 1) (hA : ∀ g o, A = some ⟨g, o, none⟩ → b < g) :
    ∀ (d : Nat), d ≤ 3 → ∀ (P : Nat) (w : World), P + 4 * 6 ^ d ≤ 10000 → Rd w b P → Segs w w.heap.size A l →
    Calls Tryz.prog 71 #[.pointer (some ⟨b, 0, none⟩), .slice A l.length c, .int .i64 d] w (TextDrawn b P (4 * 6 ^ d) (3 * 6 ^ d) w) := by
  intro d
  induction d with
  | zero =>
    intro _ P w hP hr hw
    have hP : P ≤ 9996 := by have h : P + 4 * 6 ^ 0 ≤ 10000 := hP; rw [Nat.pow_zero] at h; omega
    have HW : Hid (Segs w w.heap.size A l) := hw
    have HNM := Lib.hid hnm
    have HAA := Lib.hid hA
    have HR := Lib.hid (hr.alloc (.cells #[.int .i64 2, .int .i64 1, .int .i64 3, .int .i64 2] 3))
    have HX := Lib.hid (nums_new w b 3 countNums hr.lt)
    have hbw := hr.lt
    clear hr hw hnm hA
    go_enter Tryz.func71, Tryz.ntmps71
    go_wp2_with fail
    refine (num_any b P w.heap.size 0 4 4 (· ∈ countNums) _ HR.out (by omega) (by omega) (by omega) HX.out).mono ?_
    rintro e w1 ⟨n, rfl, hn, ho, hr1⟩
    have HO := Lib.hid ho.fresh
    have HR1 := Lib.hid hr1
    obtain ⟨m, rfl, hm3⟩ : ∃ m : Nat, n = (m : Int) ∧ m ≤ 3 := by
      have h : ∀ x ∈ countNums, 0 ≤ x ∧ x ≤ 3 := by decide
      obtain ⟨h2, h3⟩ := h n hn
      exact ⟨n.toNat, by omega, by omega⟩
    clear ho hr1 hn HX HR
    go_wp2
    go_loopw [7, 11] (fun s i wr => ∃ (k : Nat) (x : ByteArray), k ≤ m ∧ s = .string x ∧ i = .int .i64 k ∧ x.size ≤ k ∧ Hid (Only w wr (· = b)) ∧ Hid (Rd wr b (P + 1 + k)))
      (fun _ i _ => m - (intOf i).toNat)
    case atStart => exact ⟨0, _, Nat.zero_le _, rfl, rfl, Nat.le_refl _, HO, HR1⟩
    case round =>
      obtain ⟨k, x, hk, rfl, rfl, hx, HOk, HRk⟩ := hrel
      clear HO HR1
      by_cases hlt : k < m
      · have hlt' : (k : Int) < (m : Int) := by omega
        go_wp2_with fail
        refine (draw_any b (P + 1 + k) l.length _ HRk.out (by omega) (by omega) (by omega)).mono ?_
        rintro e w2 ⟨v, rfl, ⟨hv0, hv1⟩, ho2, hr2⟩
        obtain ⟨j, rfl⟩ := Int.eq_ofNat_of_zero_le hv0
        have hj : j < l.length := by have := hv1 (by omega); omega
        have hj' : (j : Int) < (l.length : Int) := by omega
        have hj0 : (0 : Int) ≤ (j : Int) := Int.natCast_nonneg _
        have HO2 := Lib.hid (HOk.out.trans ho2)
        have HR2 := Lib.hid (hr2.weak (Q := P + 1 + (k + 1)) (by omega))
        have hsg : Segs w2 w2.heap.size A l := HW.out.farO HO2.out HAA.out
        obtain ⟨g, o, rfl, hgB, hc⟩ := hsg (by omega)
        obtain ⟨e1, e2, e3⟩ := hc j _ (List.getElem?_eq_getElem hj)
        have hns := HNM.out _ (List.getElem_mem hj)
        have hxs : (x ++ l[j].name).size ≤ k + 1 := by rw [ByteArray.size_append]; omega
        clear hc ho2 hr2 hv0 hv1 hsg HOk HRk
        generalize l[j] = sg at *
        go_wp2
        go_roundw
        case rel => exact ⟨k + 1, _, by omega, rfl, by go_num, hxs, HO2, HR2⟩
        case measure => simp [intOf]; omega
      · obtain rfl : k = m := by omega
        go_wp2
        go_ret
        exact ⟨x, rfl, by omega, HOk.out, HRk.out.weak (by omega)⟩
  | succ d ih =>
    intro hd P w hP hr hw
    have hK : 1 ≤ 6 ^ d ∧ 6 ^ d ≤ 36 := by
      have : d = 0 ∨ d = 1 ∨ d = 2 := by omega
      rcases this with rfl | rfl | rfl <;> decide
    have hK2 : 6 ^ (d + 1) = 6 * 6 ^ d := by rw [Nat.pow_succ]; omega
    have IH := Lib.hid (fun P w hP hr hw => ih (by omega) P w hP hr hw)
    rw [hK2] at hP ⊢
    clear ih hK2
    generalize 6 ^ d = K at *
    have HW : Hid (Segs w w.heap.size A l) := hw
    have HNM := Lib.hid hnm
    have HAA := Lib.hid hA
    have HR := Lib.hid (hr.alloc (.cells #[.int .i64 2, .int .i64 1, .int .i64 3, .int .i64 2] 3))
    have HX := Lib.hid (nums_new w b 3 countNums hr.lt)
    have hbw := hr.lt
    clear hr hw hnm hA
    go_enter Tryz.func71, Tryz.ntmps71
    go_wp2_with fail
    refine (num_any b P w.heap.size 0 4 4 (· ∈ countNums) _ HR.out (by omega) (by omega) (by omega) HX.out).mono ?_
    rintro e w1 ⟨n, rfl, hn, ho, hr1⟩
    have HO := Lib.hid ho.fresh
    have HR1 := Lib.hid hr1
    obtain ⟨m, rfl, hm3⟩ : ∃ m : Nat, n = (m : Int) ∧ m ≤ 3 := by
      have h : ∀ x ∈ countNums, 0 ≤ x ∧ x ≤ 3 := by decide
      obtain ⟨h2, h3⟩ := h n hn
      exact ⟨n.toNat, by omega, by omega⟩
    clear ho hr1 hn HX HR
    go_wp2
    go_loopw [7, 11] (fun s i wr => ∃ (k z q : Nat) (x : ByteArray), k ≤ m ∧ s = .string x ∧ i = .int .i64 k ∧ x.size ≤ z ∧ Hid (z = k * (3 + 3 * K)) ∧ Hid (q = k * (2 + 4 * K)) ∧ z ≤ 1000 ∧ q ≤ 1000 ∧ Hid (Only w wr (· = b)) ∧ Hid (Rd wr b (P + 1 + q)))
      (fun _ i _ => m - (intOf i).toNat)
    case atStart => exact ⟨0, 0, 0, _, Nat.zero_le _, rfl, rfl, Nat.le_refl _, Lib.hid (by omega), Lib.hid (by omega), by omega, by omega, HO, HR1⟩
    case round =>
      obtain ⟨k, z, q, x, hk, rfl, rfl, hx, HZ, HQ, hz9, hq9, HOk, HRk⟩ := hrel
      clear HO HR1
      by_cases hlt : k < m
      · have hlt' : (k : Int) < (m : Int) := by omega
        have hzz : z + (3 + 3 * K) ≤ 1000 ∧ q + (2 + 4 * K) ≤ 1000 ∧ q ≤ 4 + 8 * K := by
          rw [HZ.out, HQ.out]
          have : k = 0 ∨ k = 1 ∨ k = 2 := by omega
          rcases this with rfl | rfl | rfl <;> omega
        have HZN : Hid (z + (3 + 3 * K) = (k + 1) * (3 + 3 * K)) := Lib.hid ((congrArg (· + (3 + 3 * K)) HZ.out).trans (Nat.succ_mul k (3 + 3 * K)).symm)
        have HQN : Hid (q + (2 + 4 * K) = (k + 1) * (2 + 4 * K)) := Lib.hid ((congrArg (· + (2 + 4 * K)) HQ.out).trans (Nat.succ_mul k (2 + 4 * K)).symm)
        go_wp2_with fail
        refine (draw_any b (P + 1 + q) l.length _ HRk.out (by omega) (by omega) (by omega)).mono ?_
        rintro e w2 ⟨v, rfl, ⟨hv0, hv1⟩, ho2, hr2⟩
        obtain ⟨j, rfl⟩ := Int.eq_ofNat_of_zero_le hv0
        have hj : j < l.length := by have := hv1 (by omega); omega
        have hj' : (j : Int) < (l.length : Int) := by omega
        have hj0 : (0 : Int) ≤ (j : Int) := Int.natCast_nonneg _
        have HO2 := Lib.hid (HOk.out.trans ho2)
        have HR2 := Lib.hid hr2
        have hsg : Segs w2 w2.heap.size A l := HW.out.farO HO2.out HAA.out
        obtain ⟨g, o, rfl, hgB, hc⟩ := hsg (by omega)
        obtain ⟨e1, e2, e3⟩ := hc j _ (List.getElem?_eq_getElem hj)
        have hns := HNM.out _ (List.getElem_mem hj)
        have hxs : (x ++ l[j].name).size ≤ z + 1 := by rw [ByteArray.size_append]; omega
        clear hc ho2 hr2 hv0 hv1 hsg HOk HRk
        generalize l[j] = sg at *
        have hd0 : (0 : Int) < ((d + 1 : Nat) : Int) := by omega
        go_wp2_with fail
        refine (draw_any b (P + 1 + q + 1) 3 _ HR2.out (by omega) (by omega) (by omega)).mono ?_
        rintro e w3 ⟨u, rfl, ⟨hu0, hu1⟩, ho3, hr3⟩
        have HO3 := Lib.hid (HO2.out.trans ho3)
        have HR3 := Lib.hid hr3
        clear ho3 hr3 hu1
        generalize x ++ sg.name = y at *
        by_cases hu : u = 0
        · subst hu
          go_wp2_with fail
          refine (IH.out (P + 1 + q + 2) _ (by omega) HR3.out (HW.out.farO HO3.out HAA.out)).mono ?_
          rintro e w4 ⟨r, rfl, hrs, ho4, hr4⟩
          have HO4 := Lib.hid (HO3.out.trans ho4)
          have HR4 := Lib.hid (hr4.weak (Q := P + 1 + (q + (2 + 4 * K))) (by omega))
          have hys : (y ++ ⟨#[40]⟩ ++ r ++ ⟨#[41]⟩).size ≤ z + (3 + 3 * K) := by
            have a1 : (⟨#[40]⟩ : ByteArray).size = 1 := rfl
            have a2 : (⟨#[41]⟩ : ByteArray).size = 1 := rfl
            rw [ByteArray.size_append, ByteArray.size_append, ByteArray.size_append, a1, a2]
            omega
          have hr6 : r.size ≤ 200 := by omega
          have hy6 : y.size ≤ 2000 := by omega
          clear ho4 hr4 HR3 HO3 HR2 HO2 e1
          go_wp2
          go_roundw
          case rel => exact ⟨k + 1, _, _, _, by omega, rfl, by go_num, hys, HZN, HQN, hzz.1, hzz.2.1, HO4, HR4⟩
          case measure => simp [intOf]; omega
        · have HR4 := Lib.hid (HR3.out.weak (Q := P + 1 + (q + (2 + 4 * K))) (by omega))
          clear HR3 HR2 HO2 e1
          go_wp2
          go_roundw
          case rel => exact ⟨k + 1, _, _, _, by omega, rfl, by go_num, by omega, HZN, HQN, hzz.1, hzz.2.1, HO3, HR4⟩
          case measure => simp [intOf]; omega
      · obtain rfl : k = m := by omega
        have hkz : z ≤ 18 * K ∧ 1 + q ≤ 24 * K := by
          rw [HZ.out, HQ.out]
          have : k = 0 ∨ k = 1 ∨ k = 2 ∨ k = 3 := by omega
          rcases this with rfl | rfl | rfl | rfl <;> omega
        go_wp2
        go_ret
        exact ⟨x, rfl, by omega, HOk.out, HRk.out.weak (by omega)⟩

end Go.Proofs.YtcpiojliakgdlaaGreatDoor
