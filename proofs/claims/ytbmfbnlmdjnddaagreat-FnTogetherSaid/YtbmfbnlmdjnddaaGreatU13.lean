/- Joined: Fk Fi Fm Lk Tx Fp Fq Fr Fs Fj Ti Gy. -/
import Derived.Test.YtbmfbnlmdjnddaaGreatU12
import Derived.Test.YtbmfbnlmdjnddaaGreatU03
import Derived.Test.YtbmfbnlmdjnddaaGreatU11
import Derived.Test.YtbmfbnlmdjnddaaGreatU02
import Derived.Test.YtbmfbnlmdjnddaaGreatU04
import Derived.BigQuiet
import Derived.Maps.AppendAt
import Derived.Deep.AppendLies
import Derived.WalkLawsBesides
/- The reference's l4Read and TraceValid by their contracts. -/
namespace Go.Proofs.YtbmfbnlmdjnddaaGreat
open Go.RowKit

/-- What l4Read has done. -/
def ReadPost (w : World) (R : Option Forest) (e : Ending) (w' : World) : Prop :=
  ∃ v, e = .returned (.tuple #[v, .bool R.isSome]) ∧ ((∃ f, R = some f ∧ IsKids w' (fun q => w.heap.size ≤ q ∧ q < w'.heap.size) f v) ∨ (R = none ∧ ∃ A cap, v = .slice A 0 cap)) ∧ Below w.heap.size w w'

set_option maxRecDepth 100000 in
set_option maxHeartbeats 4000000 in
theorem l4Read_any (A : Option Addr) (l : List Seg) (c : Nat) (t : ByteArray) (w : World) (hw : Segs w w.heap.size A l) (hl : l.length ≤ 1048576) (hn : Short l) (ht : t.size ≤ 1048576) :
    Calls Tryz.prog 119 #[.slice A l.length c, .string t] w (ReadPost w (traceB l t.data.toList)) := by
  have HW : Hid (Segs w w.heap.size A l) := hw
  have hlen : t.data.toList.length = t.size := by simp
  have HT : Hid (traceB l t.data.toList = if (validB l && decide (t.size ≤ 80)) = true then whole (calls (callP l) 8 t.data.toList) else none) := by
    show _ = _
    rw [traceB_eq, hlen]
  have HLEN := Lib.hid hlen
  clear hw hlen
  have HB0 : Hid (Below w.heap.size w (w.alloc (.cells #[.string t, .int .i64 0, .bool false, .slice A l.length c, .int .i64 0] 213))) := (Below.refl _ w).alloc (Nat.le_refl _) _
  have HR0 : Hid (Row (w.alloc (.cells #[.string t, .int .i64 0, .bool false, .slice A l.length c, .int .i64 0] 213)) w.heap.size 213 (rdCells t ((0 : Nat) : Int) false (.slice A l.length c) 0)) := Row.new w _ _
  have HN : Hid (∀ (R : Option Forest) (W : World), R = none → Below w.heap.size w W → ReadPost w R (.returned (.tuple #[.slice (some ⟨W.heap.size, 0, none⟩) 0 0, .bool false])) (W.alloc (.cells #[] 216))) := fun R W h0 h1 => by
    subst h0
    exact ⟨_, rfl, .inr ⟨rfl, _, _, rfl⟩, h1.alloc h1.size _⟩
  go_enter Tryz.func119, Tryz.ntmps119
  go_wp2_with fail
  generalize w.alloc (.cells #[.string t, .int .i64 0, .bool false, .slice A l.length c, .int .i64 0] 213) = W1 at *
  have HWX : Hid (Segs W1 w.heap.size A l) := HW.out.below HB0.out
  have HQ := Lib.hid (specCalls_any w.heap.size t ht A l c hl hn 8 0 0 W1 (by omega) (by omega) (by omega) HWX.out HR0.out)
  refine Calls.mono HQ.out ?_
  rintro e w2 ⟨v, rfl, ho, (⟨F, k, hk, how, hr, hc⟩ | ⟨a, A', n', cap', rfl, ha0, ha1, hr, hc⟩)⟩
  · rw [List.drop_zero] at hc
    obtain ⟨A2, cap2, rfl⟩ := how.form
    have HB2 : Hid (Below w.heap.size w w2) := HB0.out.trans (ho.belowRow (Nat.le_of_lt HR0.out.lt))
    have hbw := HR0.out.lt
    have HZ : Hid (w.heap.size < W1.heap.size) := hbw
    have HS2 : Hid (Segs w2 w2.heap.size A l) := (HW.out.below HB2.out).more HB2.out.size
    have HK2 := Lib.hid how.kids
    have c1 : w2.cell? ⟨w.heap.size, 1, none⟩ = some (.int .i64 k) := hr.cell 1
    have c2 : w2.cell? ⟨w.heap.size, 2, none⟩ = some (.bool false) := hr.cell 2
    have HC := Lib.hid hc
    clear HQ HR0 HB0 HWX ho how hr hc hbw
    by_cases hke : k = t.size
    · have HWH : Hid (whole (calls (callP l) 8 t.data.toList) = some F) := by
        show _ = _
        rw [HC.out, hke, List.drop_of_length_le (by rw [HLEN.out]; exact Nat.le_refl _)]
        rfl
      have hneq : ((k : Int) != (t.size : Int)) = false := by rw [hke]; simp
      have heq : (k : Int) = (t.size : Int) := by omega
      by_cases h80 : 80 < t.size
      · have h80' : ¬ (t.size ≤ 80) := by omega
        have h80i : (80 : Int) < (t.size : Int) := by omega
        have HR : Hid (traceB l t.data.toList = none) := by
          show _ = _
          rw [HT.out, if_neg (by simp [h80'])]
        clear HT HC HWH hke
        have q : decide (80 < t.size) = true := decide_eq_true h80
        go_wp2
        go_ret2
        exact HN.out _ _ HR.out HB2.out
      · have h80' : t.size ≤ 80 := by omega
        have h80i : ¬ (80 : Int) < (t.size : Int) := by omega
        have q : decide (80 < t.size) = false := decide_eq_false h80
        have HTV := Lib.hid (specTreeValid_any A l c w2 HS2.out hl hn)
        cases hv : validB l with
        | false =>
          have HR : Hid (traceB l t.data.toList = none) := by
            show _ = _
            rw [HT.out, hv]; rfl
          clear HT HC HWH hke
          go_wp2_with fail
          refine Calls.mono HTV.out ?_
          rw [hv]
          clear HTV hv
          rintro e w3 ⟨rfl, hb3⟩
          have HB3 := Lib.hid (HB2.out.trans (hb3.mono HB2.out.size))
          clear hb3
          go_wp2
          go_ret2
          exact HN.out _ _ HR.out HB3.out
        | true =>
          have HR : Hid (traceB l t.data.toList = some F) := by
            show _ = _
            rw [HT.out, hv, decide_eq_true h80', HWH.out]; rfl
          clear HT HC HWH hke
          go_wp2_with fail
          refine Calls.mono HTV.out ?_
          rw [hv]
          clear HTV hv
          rintro e w3 ⟨rfl, hb3⟩
          have HB3 := Lib.hid (HB2.out.trans (hb3.mono HB2.out.size))
          have HK3 : Hid (IsKids w3 (fun q => w.heap.size ≤ q ∧ q < w3.heap.size) F (.slice A2 F.len cap2)) :=
            HK2.out.keep fun q hq => ⟨⟨by have := HZ.out; omega, Nat.lt_of_lt_of_le hq.2 hb3.size⟩, hb3.block q hq.2⟩
          clear hb3
          go_wp2
          go_ret2
          exact ⟨_, by rw [HR.out]; rfl, .inl ⟨F, HR.out, HK3.out⟩, HB3.out⟩
    · have HR : Hid (traceB l t.data.toList = none) := by
        show _ = _
        rw [HT.out, HC.out]
        have hd : t.data.toList.drop k = t[k]'(by omega) :: t.data.toList.drop (k + 1) := List.drop_eq_getElem_cons (by rw [HLEN.out]; omega)
        rw [hd]
        split <;> rfl
      have hneq : ((k : Int) != (t.size : Int)) = true := by rw [bne_iff_ne]; omega
      have hne' : ¬ (k : Int) = (t.size : Int) := by omega
      clear HT HC hke
      go_wp2
      go_ret2
      exact HN.out _ _ HR.out HB2.out
  · rw [List.drop_zero] at hc
    have HR : Hid (traceB l t.data.toList = none) := by
      show _ = _
      rw [HT.out, hc]
      split <;> rfl
    have HB2 : Hid (Below w.heap.size w w2) := HB0.out.trans (ho.belowRow (Nat.le_of_lt HR0.out.lt))
    have c2 : w2.cell? ⟨w.heap.size, 2, none⟩ = some (.bool true) := hr.cell 2
    clear HQ HR0 HB0 HWX ho hr hc HT
    go_wp2
    go_ret2
    exact HN.out _ _ HR.out HB2.out

end Go.Proofs.YtbmfbnlmdjnddaaGreat
/- What a trace tells, plain: needs, chains, texts, calls that are left. -/
namespace Go.Proofs.YtbmfbnlmdjnddaaGreat
open Go.RowKit

/-- Who is active at each call, behind some that are active before. -/
def chainsB (a : List UInt8) : Forest → List (List UInt8)
  | .nil => []
  | .cons c k r => (a ++ [c]) :: (chainsB (a ++ [c]) k ++ chainsB a r)
theorem chainsB_app (a : List UInt8) : ∀ f g : Forest, chainsB a (f.app g) = chainsB a f ++ chainsB a g
  | .nil, _ => rfl
  | .cons c k r, g => by
    show (a ++ [c]) :: (chainsB (a ++ [c]) k ++ chainsB a (r.app g)) = ((a ++ [c]) :: (chainsB (a ++ [c]) k ++ chainsB a r)) ++ chainsB a g
    rw [chainsB_app a r g]; simp
theorem chainsB_one (a : List UInt8) (c : UInt8) (k : Forest) : chainsB a (.cons c k .nil) = (a ++ [c]) :: chainsB (a ++ [c]) k := by
  show (a ++ [c]) :: (chainsB (a ++ [c]) k ++ []) = _
  rw [List.append_nil]
theorem chainsB_len : ∀ (f : Forest) (a : List UInt8), (chainsB a f).length = f.size
  | .nil, _ => rfl
  | .cons c k r, a => by
    show ((a ++ [c]) :: (chainsB (a ++ [c]) k ++ chainsB a r)).length = k.size + r.size + 1
    simp [chainsB_len k, chainsB_len r]
/-- How long a chain may be. -/
theorem chainsB_bound : ∀ (f : Forest) (a : List UInt8), ∀ x ∈ chainsB a f, x.length ≤ a.length + f.deep ∧ a.length < x.length
  | .nil, _, x, h => by cases h
  | .cons c k r, a, x, h => by
    have h' : x ∈ (a ++ [c]) :: (chainsB (a ++ [c]) k ++ chainsB a r) := h
    show x.length ≤ a.length + max (k.deep + 1) r.deep ∧ _
    rcases List.mem_cons.1 h' with rfl | h'
    · simp; omega
    · rcases List.mem_append.1 h' with h' | h'
      · have := chainsB_bound k _ x h'
        simp at this; omega
      · have := chainsB_bound r _ x h'
        omega

/-- How many calls are read out of a text: no more than it has bytes. -/
theorem rd_size (P : UInt8 → Bool) : ∀ (n d : Nat) (s : List UInt8) f r, rd P n d s = some (f, r) → f.size + r.length ≤ s.length ∧ f.deep ≤ d
  | 0, _, _, _, _, e => by cases e
  | n + 1, d, [], f, r, e => by
    injection e with e
    injection e with e1 e2
    subst e1 e2
    exact ⟨Nat.le_refl _, Nat.zero_le _⟩
  | n + 1, d, c :: s, f, r, e => by
    unfold rd at e
    split at e
    · injection e with e
      injection e with e1 e2
      subst e1 e2
      exact ⟨Nat.le_of_eq (Nat.zero_add _), Nat.zero_le _⟩
    · unfold thenBy at e
      split at e
      · cases e
      · next k r1 h2 =>
        split at e
        · cases e
        · next f' r2 h4 =>
          injection e with e
          injection e with e1 e2
          subst e1 e2
          have h5 := rd_size P n d r1 _ _ h4
          have h6 : k.size + r1.length ≤ s.length ∧ k.deep + 1 ≤ d := by
            unfold callBy at h2
            split at h2
            · cases h2
            · next d' =>
              split at h2
              · unfold innerBy at h2
                split at h2
                · injection h2 with h2
                  injection h2 with h2 h3
                  subst h2 h3
                  exact ⟨Nat.le_refl _, by show 0 + 1 ≤ d' + 1; omega⟩
                · next x u =>
                  split at h2
                  · unfold closed at h2
                    split at h2
                    · cases h2
                    · cases h2
                    · cases h2
                    · next c' k' f'' x' r'' h7 =>
                      split at h2
                      · injection h2 with h2
                        injection h2 with h2 h3
                        subst h2 h3
                        have h8 := rd_size P n d' u _ _ h7
                        simp at h8 ⊢
                        omega
                      · cases h2
                  · injection h2 with h2
                    injection h2 with h2 h3
                    subst h2 h3
                    exact ⟨by show 0 + _ ≤ _; omega, by show 0 + 1 ≤ d' + 1; omega⟩
              · cases h2
          refine ⟨?_, ?_⟩
          · show k.size + f'.size + 1 + r2.length ≤ s.length + 1
            omega
          · show max (k.deep + 1) f'.deep ≤ d
            omega
theorem calls_size {P : UInt8 → Bool} {d : Nat} {s : List UInt8} {f : Forest} {r : List UInt8} (h : calls P d s = some (f, r)) : f.size + r.length ≤ s.length ∧ f.deep ≤ d := rd_size P _ d s f r h
theorem whole_some {g : Got} {f : Forest} (h : whole g = some f) : g = some (f, []) := by
  unfold whole at h
  split at h
  · injection h with h; subst h; rfl
  · cases h
theorem traceB_some {l : List Seg} {t : List UInt8} {f : Forest} (h : traceB l t = some f) : validB l = true ∧ t.length ≤ 80 ∧ calls (callP l) 8 t = some (f, []) := by
  rw [traceB_eq] at h
  split at h
  · next h1 =>
    simp only [Bool.and_eq_true, decide_eq_true_eq] at h1
    exact ⟨h1.1, h1.2, whole_some h⟩
  · cases h
theorem traceB_size {l : List Seg} {t : List UInt8} {f : Forest} (h : traceB l t = some f) : f.size ≤ 80 ∧ f.deep ≤ 8 := by
  obtain ⟨_, h2, h3⟩ := traceB_some h
  have := calls_size h3
  simp at this
  omega

def strOf (x : List UInt8) : ByteArray := ⟨x.toArray⟩
theorem bytes_cat (x y : List UInt8) : (⟨x.toArray⟩ : ByteArray) ++ ⟨y.toArray⟩ = ⟨(x ++ y).toArray⟩ := by
  apply ByteArray.ext
  simp [ByteArray.data_append]
theorem bytes_size (x : List UInt8) : (⟨x.toArray⟩ : ByteArray).size = x.length := by simp [ByteArray.size]
theorem Forest.app_size : ∀ f g : Forest, (f.app g).size = f.size + g.size
  | .nil, g => by show g.size = 0 + g.size; omega
  | .cons c k r, g => by show k.size + (r.app g).size + 1 = k.size + r.size + 1 + g.size; rw [Forest.app_size r]; omega

theorem Forest.deep_app : ∀ (pre : Forest) (c : UInt8) (k r : Forest), k.deep + 1 ≤ (pre.app (.cons c k r)).deep
  | .nil, _, k, r => by show k.deep + 1 ≤ max (k.deep + 1) r.deep; omega
  | .cons _ k' p, c, k, r => by
    have := Forest.deep_app p c k r
    show _ ≤ max (k'.deep + 1) (p.app (.cons c k r)).deep
    omega
/-- The root's letter. -/
def rootB (l : List Seg) : UInt8 := match l with
  | s :: _ => s.name.data.toList.headD 0
  | [] => 0
theorem root_name {l : List Seg} (hv : validB l = true) : ∃ s, l[0]? = some s ∧ s.name = ⟨#[rootB l]⟩ := by
  have h1 : 1 ≤ l.length := by
    unfold validB at hv
    simp only [Bool.and_eq_true, decide_eq_true_eq] at hv
    exact hv.1.1
  cases l with
  | nil => simp at h1
  | cons s r =>
    obtain ⟨d, hd, _, _⟩ := nameOk_one (validB_names hv (s := s) (by simp))
    refine ⟨s, rfl, ?_⟩
    show s.name = ⟨#[s.name.data.toList.headD 0]⟩
    rw [hd]; rfl
/-- The root's name in memory. -/
theorem Segs.root {w : World} {B : Nat} {A : Option Addr} {l : List Seg} (h : Segs w B A l) (hv : validB l = true) : ∃ b o, A = some ⟨b, o, none⟩ ∧ b < B ∧ w.cell? ⟨b, o, none⟩ = some (.string ⟨#[rootB l]⟩) := by
  obtain ⟨s, hs, hn⟩ := root_name hv
  obtain ⟨b, o, e, hB, hc⟩ := h (List.getElem?_eq_some_iff.1 hs).1
  have := (hc 0 s hs).1
  rw [hn] at this
  simp only [Nat.zero_mul, Nat.add_zero] at this
  exact ⟨b, o, e, hB, this⟩

end Go.Proofs.YtbmfbnlmdjnddaaGreat
/- The reference's needs and texts of calls. -/
namespace Go.Proofs.YtbmfbnlmdjnddaaGreat
open Go.RowKit

/-- What of the reference's calls is left behind those that were taken. -/
theorem IsKids.nil_or {w : World} {S : Nat → Prop} {f : Forest} {v : Value} (h : IsKids w S f v) : ∃ A cap, v = .slice A f.len cap ∧ (f.isNil = false → ∃ g, A = some ⟨g, 0, none⟩ ∧ S g ∧ SCells w S f g 0) := h
theorem SCells.kids {w : World} {S : Nat → Prop} {c : UInt8} {k r : Forest} {g o : Nat} (h : SCells w S (.cons c k r) g o) : w.cell? ⟨g, o, none⟩ = some (.string ⟨#[c]⟩) ∧ (∃ v, w.cell? ⟨g, o + 1, none⟩ = some v ∧ IsKids w S k v) ∧ SCells w S r g (o + 2) := by
  obtain ⟨h1, ⟨A, cap, h2, h3⟩, h4⟩ := h
  exact ⟨h1, ⟨_, h2, A, cap, rfl, h3⟩, h4⟩
theorem SCells.below {w w' : World} {f : Forest} {g o B : Nat} (h : SCells w (· < B) f g o) (hb : Below B w w') (hg : g < B) : SCells w' (· < B) f g o :=
  SCells.keep (fun q hq => ⟨hq, hb.block q hq⟩) f g o (hb.block g hg) h
theorem IsKids.below {w w' : World} {f : Forest} {v : Value} {B : Nat} (h : IsKids w (· < B) f v) (hb : Below B w w') : IsKids w' (· < B) f v :=
  h.keep fun q hq => ⟨hq, hb.block q hq⟩
theorem IsKids.up {w : World} {f : Forest} {v : Value} {B B' : Nat} (h : IsKids w (· < B) f v) (hB : B ≤ B') : IsKids w (· < B') f v :=
  h.keep fun _ hq => ⟨Nat.lt_of_lt_of_le hq hB, rfl⟩

/-- What the range over calls has before it. -/
def LeftS (w : World) (B : Nat) (f : Forest) (A : Option Addr) (pre rest : Forest) : Prop := f = pre.app rest ∧ (rest.isNil = false → ∃ g, A = some ⟨g, 0, none⟩ ∧ g < B ∧ SCells w (· < B) rest g (pre.len * 2))
theorem LeftS.start {w : World} {B : Nat} {f : Forest} {A : Option Addr} (h : f.isNil = false → ∃ g, A = some ⟨g, 0, none⟩ ∧ g < B ∧ SCells w (· < B) f g 0) : LeftS w B f A .nil f := ⟨rfl, h⟩
theorem LeftS.below {w w' : World} {B : Nat} {f pre rest : Forest} {A : Option Addr} (h : LeftS w B f A pre rest) (hb : Below B w w') : LeftS w' B f A pre rest := by
  refine ⟨h.1, fun hr => ?_⟩
  obtain ⟨g, e, h1, h2⟩ := h.2 hr
  exact ⟨g, e, h1, h2.below hb h1⟩
/-- One call is taken. -/
theorem LeftS.take {w : World} {B : Nat} {f pre k r : Forest} {c : UInt8} {A : Option Addr} (h : LeftS w B f A pre (.cons c k r)) :
    LeftS w B f A (pre.app (.cons c k .nil)) r ∧ pre.len < f.len ∧ k.size < f.size ∧ ∃ g v, A = some ⟨g, 0, none⟩ ∧ g < B ∧ w.cell? ⟨g, pre.len * 2, none⟩ = some (.string ⟨#[c]⟩) ∧ w.cell? ⟨g, pre.len * 2 + 1, none⟩ = some v ∧ IsKids w (· < B) k v := by
  obtain ⟨h1, h2⟩ := h
  obtain ⟨g, e, h3, h4⟩ := h2 rfl
  obtain ⟨c0, ⟨v, c1, hv⟩, hr⟩ := h4.kids
  have hl : (pre.app (.cons c k .nil)).len = pre.len + 1 := by rw [Forest.app_len]; rfl
  refine ⟨⟨?_, fun _ => ⟨g, e, h3, ?_⟩⟩, ?_, ?_, g, v, e, h3, c0, c1, hv⟩
  · rw [Forest.app_assoc]; exact h1
  · rw [hl, show (pre.len + 1) * 2 = pre.len * 2 + 2 by omega]; exact hr
  · rw [h1, Forest.app_len]; show pre.len < pre.len + (r.len + 1); omega
  · rw [h1, Forest.app_size]; show k.size < pre.size + (k.size + r.size + 1); omega
theorem LeftS.done {w : World} {B : Nat} {f pre : Forest} {A : Option Addr} (h : LeftS w B f A pre .nil) : f = pre := by rw [h.1, Forest.app_nil]

end Go.Proofs.YtbmfbnlmdjnddaaGreat
/- A list that is not too large. -/
namespace Go.Proofs.YtbmfbnlmdjnddaaGreat
open Go.RowKit

end Go.Proofs.YtbmfbnlmdjnddaaGreat
/- A row of texts of the call's own; marks in segments and in texts: what a law writes into what it was given, and whether it is held. -/
namespace Go.Proofs.YtbmfbnlmdjnddaaGreat
open Go.RowKit

/-- Texts in a row of the call's own. -/
def OwnTexts (w : World) (B : Nat) (v : Value) (ts : List ByteArray) : Prop := w.ownsRow B 9 1 v ts.length (ts.map Value.string)
theorem OwnTexts.far {w w' : World} {B : Nat} {v : Value} {ts : List ByteArray} (h : OwnTexts w B v ts) (hk : ∀ g, v.ownBlock = some g → w'.heap[g]? = w.heap[g]?) : OwnTexts w' B v ts := by
  refine ⟨h.1, ?_⟩
  rcases h.2 with h0 | ⟨g', cap, cur, rfl, hg, hh, r⟩
  · exact .inl h0
  · exact .inr ⟨g', cap, cur, rfl, hg, (hk g' rfl).trans hh, r⟩
theorem OwnTexts.below {w w' : World} {B : Nat} {v : Value} {ts : List ByteArray} (h : OwnTexts w B v ts) (hb : Below w.heap.size w w') : OwnTexts w' B v ts := h.far fun g hg => hb.block g (World.ownsRow.lt h g hg).2
theorem info_str : (Tryz.prog.info? 9).map (fun i => (i.zero, i.size, i.bytes)) = some (some (.string ByteArray.empty), 1, 16) := by kernel_rfl

theorem OwnTexts.empty (w : World) {B : Nat} (hB : B ≤ w.heap.size) : OwnTexts (w.alloc (.cells #[] 9)) B (.slice (some ⟨w.heap.size, 0, none⟩) 0 0) [] :=
  World.ownsRow_lit w #[] 0 hB (by simp [maxLen]) rfl
theorem OwnTexts.one (w : World) {B : Nat} (hB : B ≤ w.heap.size) (s : ByteArray) : OwnTexts (w.alloc (.cells #[.string s] 9)) B (.slice (some ⟨w.heap.size, 0, none⟩) 1 1) [s] :=
  World.ownsRow_lit w #[.string s] 1 hB (by simp [maxLen]) rfl
theorem OwnTexts.form {w : World} {B : Nat} {v : Value} {ts : List ByteArray} (h : OwnTexts w B v ts) (hn : 0 < ts.length) : ∃ g cap, v = .slice (some ⟨g, 0, none⟩) ts.length cap := own_form h hn

end Go.Proofs.YtbmfbnlmdjnddaaGreat
namespace Go.Proofs.YtbmfbnlmdjnddaaGreat.St
open Go.RowKit

/-- A slice of texts in memory below 'B'. -/
def Strs (w : World) (B : Nat) (A : Option Addr) (ts : List ByteArray) : Prop :=
  0 < ts.length → ∃ b o, A = some ⟨b, o, none⟩ ∧ b < B ∧ ∀ (k : Nat) (s : ByteArray), ts[k]? = some s → w.cell? ⟨b, o + k, none⟩ = some (.string s)
theorem Strs.below {w w' : World} {B : Nat} {A : Option Addr} {l : List ByteArray} (h : Strs w B A l) (hb : Below B w w') : Strs w' B A l := fun hl => by
  obtain ⟨b, o, e, hB, hc⟩ := h hl
  refine ⟨b, o, e, hB, fun k s hk => ?_⟩
  rw [hb.cell hB]
  exact hc k s hk
theorem Strs.more {w : World} {B B' : Nat} {A : Option Addr} {l : List ByteArray} (h : Strs w B A l) (hB : B ≤ B') : Strs w B' A l := fun hl => by
  obtain ⟨b, o, e, hb, hc⟩ := h hl
  exact ⟨b, o, e, Nat.lt_of_lt_of_le hb hB, hc⟩
theorem textsCell {w : World} {B g cap : Nat} {ts : List ByteArray} (h : OwnTexts w B (.slice (some ⟨g, 0, none⟩) ts.length cap) ts) {i : Nat} {s : ByteArray} (hi : ts[i]? = some s) : w.cell? ⟨g, i, none⟩ = some (.string s) := by
  have hlt := (List.getElem?_eq_some_iff.1 hi).1
  have := World.ownsRow.cellAt h i (by omega)
  rw [this, List.getElem?_map, hi]
  rfl
theorem textsForm {w : World} {B : Nat} {v : Value} {ts : List ByteArray} (h : OwnTexts w B v ts) : ∃ A cap, v = .slice A ts.length cap ∧ Strs w w.heap.size A ts := by
  have h' := h
  rcases h.2 with ⟨rfl, h0⟩ | ⟨g, cap, cur, rfl, hg, hh, r⟩
  · exact ⟨none, 0, by rw [h0], fun h => absurd h (by omega)⟩
  · refine ⟨_, cap, rfl, fun _ => ⟨g, 0, rfl, (Array.getElem?_eq_some_iff.1 hh).1, fun k s hk => ?_⟩⟩
    rw [Nat.zero_add]
    exact textsCell h' hk
theorem textsFree {w : World} {B g cap n : Nat} {ts : List ByteArray} (h : OwnTexts w B (.slice (some ⟨g, 0, none⟩) n cap) ts) (j : Nat) : w.frozen? ⟨g, j, none⟩ = false := by
  rcases h.2 with ⟨h0, _⟩ | ⟨g', cap', cur, hv, hg, hh, _⟩
  · cases h0
  · injection hv with hv1 _ hv3
    injection hv1 with hv1
    injection hv1 with hv1
    subst hv1
    exact Row.free (hh : Row w g _ cur) j
theorem textsStore {w : World} {B g cap : Nat} {ts : List ByteArray} (h : OwnTexts w B (.slice (some ⟨g, 0, none⟩) ts.length cap) ts) (i : Nat) (s : ByteArray) :
    OwnTexts (w.setCell ⟨g, i, none⟩ (.string s)) B (.slice (some ⟨g, 0, none⟩) ts.length cap) (ts.set i s) := by
  unfold OwnTexts at h ⊢
  rw [List.length_set]
  refine ⟨by simp, ?_⟩
  rcases h.2 with ⟨h0, _⟩ | ⟨g', cap', cur, hv, hg, hh, h1, h2, h3, h4⟩
  · cases h0
  · injection hv with hv1 _ hv3
    injection hv1 with hv1
    injection hv1 with hv1
    subst hv1 hv3
    have hr : Row w g 9 cur := hh
    refine .inr ⟨g, cap, _, rfl, hg, hr.put i _, h1, h2, by simpa using h3, ?_⟩
    rw [List.map_set, ← h4]
    simp only [Array.toList_setIfInBounds, List.take_set]
end Go.Proofs.YtbmfbnlmdjnddaaGreat.St

namespace Go.Proofs.YtbmfbnlmdjnddaaGreat
open Go.RowKit

theorem strsOf {w : World} {B n cap : Nat} {A : Option Addr} {ts : List ByteArray} (h : OwnTexts w B (.slice A n cap) ts) : St.Strs w w.heap.size A ts := by
  obtain ⟨A', cap', e, h'⟩ := St.textsForm h
  injection e with e1 e2 e3
  rw [e1]
  exact h'

end Go.Proofs.YtbmfbnlmdjnddaaGreat
/- The reference's chains, texts and calls that are left. -/
namespace Go.Proofs.YtbmfbnlmdjnddaaGreat
open Go.RowKit

/-- A row of texts that is no nil. -/
def SolidTexts (w : World) (B : Nat) (v : Value) (ts : List ByteArray) : Prop := OwnTexts w B v ts ∧ v ≠ .slice none 0 0
theorem SolidTexts.form {w : World} {B : Nat} {v : Value} {ts : List ByteArray} (h : SolidTexts w B v ts) : ∃ g cap, v = .slice (some ⟨g, 0, none⟩) ts.length cap := by
  rcases h.1.2 with ⟨h0, _⟩ | ⟨g, cap, cur, e, _⟩
  · exact absurd h0 h.2
  · exact ⟨g, cap, e⟩
def ChainsPost (w : World) (L : List ByteArray) (e : Ending) (w' : World) : Prop := ∃ v, e = .returned v ∧ SolidTexts w' w.heap.size v L ∧ Below w.heap.size w w'

set_option maxRecDepth 100000 in
set_option maxHeartbeats 2000000 in
theorem l4Chains_any : ∀ (n : Nat) (f : Forest) (a : List UInt8) (v : Value) (w : World), f.size < n → f.size + a.length ≤ 1000 → IsKids w (· < w.heap.size) f v →
    Calls Tryz.prog 120 #[.string (strOf a), v] w (ChainsPost w ((chainsB a f).map strOf)) := by
  intro n
  induction n with
  | zero => intro f a v w h; omega
  | succ n ih =>
    intro f a v w hn h80 hk
    obtain ⟨A, cap, rfl, hcs⟩ := hk.nil_or
    have IH := Lib.hid ih
    have HL0 : Hid (LeftS w w.heap.size f A .nil f) := LeftS.start hcs
    have hfl : f.len ≤ 1000 := by have := f.len_size; omega
    have hal : (strOf a).size ≤ 1000 := by unfold strOf; rw [bytes_size]; omega
    clear ih hk hcs
    obtain ⟨i0, hi0, hz0, hz1, hz2⟩ := info_parts info_str
    have I0 := Lib.hid hi0
    have Z0 := Lib.hid hz0
    have Z1 := Lib.hid hz1
    have Z2 := Lib.hid hz2
    clear hi0 hz0 hz1 hz2
    have HS0 : Hid (SolidTexts (w.alloc (.cells #[] 9)) w.heap.size (.slice (some ⟨w.heap.size, 0, none⟩) 0 0) []) := ⟨OwnTexts.empty w (Nat.le_refl _), fun h => by cases h⟩
    have HB0 : Hid (Below w.heap.size w (w.alloc (.cells #[] 9))) := (Below.refl _ w).alloc (Nat.le_refl _) _
    go_enter Tryz.func120, Tryz.ntmps120
    go_wp2
    go_loopw [5, 11] (fun o i wr => ∃ (pre rest : Forest), i = .int .i64 pre.len ∧ Hid (SolidTexts wr w.heap.size o ((chainsB a pre).map strOf)) ∧ Hid (LeftS wr w.heap.size f A pre rest) ∧ Hid (Below w.heap.size w wr))
      (fun _ i _ => f.len - (intOf i).toNat)
    case atStart => exact ⟨.nil, f, rfl, HS0, HL0.out.below HB0.out, HB0.out⟩
    case round =>
      obtain ⟨pre, rest, rfl, HT, HL, HB⟩ := hrel
      clear HL0 HS0 HB0
      cases rest with
      | nil =>
        have HE := Lib.hid HL.out.done
        have hle : ¬ (pre.len < f.len) := by rw [HE.out]; omega
        go_wp2
        go_ret
        exact ⟨_, rfl, by rw [HE.out]; exact HT.out, HB.out⟩
      | cons c k r =>
        obtain ⟨hnext, hlt, hks, g, u, rfl, hg, c0, c1, hu⟩ := HL.out.take
        obtain ⟨g1, cap1, rfl⟩ := HT.out.form
        obtain ⟨A2, cap2, rfl, -⟩ := id hu
        have HU := Lib.hid hu
        have HNX := Lib.hid hnext
        have hz := HB.out.size
        have hpl := chainsB_len pre a
        have hkl := chainsB_len k (a ++ [c])
        have hps : pre.size + (k.size + r.size + 1) = f.size := by rw [HL.out.1, Forest.app_size]; rfl
        have htl : ((chainsB a pre).map strOf).length ≤ 1000 := by rw [List.length_map, hpl]; omega
        have hkm : ((chainsB (a ++ [c]) k).map strOf).length ≤ 1000 := by rw [List.length_map, hkl]; omega
        have hx : strOf a ++ ⟨#[c]⟩ = strOf (a ++ [c]) := bytes_cat a [c]
        have HX := Lib.hid hx
        have HLN : Hid ((pre.app (.cons c k .nil)).len = pre.len + 1) := by show _ = _; rw [Forest.app_len]; rfl
        have HCH : Hid ((chainsB a (pre.app (.cons c k .nil))).map strOf = (chainsB a pre).map strOf ++ [strOf (a ++ [c])] ++ (chainsB (a ++ [c]) k).map strOf) := by
          show _ = _
          rw [chainsB_app, chainsB_one, List.map_append, List.map_cons, List.append_assoc]
          rfl
        have HO1 := Lib.hid HT.out.1
        have HQ := Lib.hid (fun W h => IH.out k (a ++ [c]) (.slice A2 k.len cap2) W (by omega) (by simp; omega) h)
        clear hnext hu hpl hkl hx HT
        generalize (chainsB a pre).map strOf = ts at *
        generalize (chainsB (a ++ [c]) k).map strOf = ts2 at *
        have HB1 : Hid (Below w.heap.size w ((wr.alloc (.cells #[.string ⟨#[c]⟩, .slice A2 k.len cap2] 216)).alloc (.cells #[.string (strOf a ++ ⟨#[c]⟩)] 9))) := (HB.out.alloc hz _).alloc (by simp; omega) _
        have HT1 : Hid (OwnTexts ((wr.alloc (.cells #[.string ⟨#[c]⟩, .slice A2 k.len cap2] 216)).alloc (.cells #[.string (strOf a ++ ⟨#[c]⟩)] 9)) w.heap.size (.slice (some ⟨g1, 0, none⟩) ts.length cap1) ts) := (HO1.out.below ((Below.refl wr.heap.size wr).alloc (Nat.le_refl _) _)).below ((Below.refl _ _).alloc (Nat.le_refl _) _)
        have HR1 : Hid (Row ((wr.alloc (.cells #[.string ⟨#[c]⟩, .slice A2 k.len cap2] 216)).alloc (.cells #[.string (strOf a ++ ⟨#[c]⟩)] 9)) wr.heap.size 216 #[.string ⟨#[c]⟩, .slice A2 k.len cap2]) := (Row.new wr _ _).alloc _
        have HBW : Hid (Below wr.heap.size wr ((wr.alloc (.cells #[.string ⟨#[c]⟩, .slice A2 k.len cap2] 216)).alloc (.cells #[.string (strOf a ++ ⟨#[c]⟩)] 9))) := ((Below.refl _ wr).alloc (Nat.le_refl _) _).alloc (by simp) _
        have HZ1 : Hid (((wr.alloc (.cells #[.string ⟨#[c]⟩, .slice A2 k.len cap2] 216)).alloc (.cells #[.string (strOf a ++ ⟨#[c]⟩)] 9)).heap.size = wr.heap.size + 2) := by show _ = _; simp
        have hg1 : g1 < wr.heap.size := (World.ownsRow.lt HO1.out g1 rfl).2
        have hg1w : w.heap.size ≤ g1 := (World.ownsRow.lt HO1.out g1 rfl).1
        have HNW : Hid (∀ j u, [Value.string (strOf a ++ ⟨#[c]⟩)][j]? = some u → ((wr.alloc (.cells #[.string ⟨#[c]⟩, .slice A2 k.len cap2] 216)).alloc (.cells #[.string (strOf a ++ ⟨#[c]⟩)] 9)).cell? ((⟨wr.heap.size + 1, 0, none⟩ : Addr).add j) = some u) := by
          have := cell_one_new (wr.alloc (.cells #[.string ⟨#[c]⟩, .slice A2 k.len cap2] 216)) (.string (strOf a ++ ⟨#[c]⟩)) 9
          rw [World.size_alloc] at this
          exact this
        clear HO1
        go_wp2_with (at_builtin; refine wpList_append_own_at _ rfl _ _ 29 rfl w.heap.size 9 i0 (.string ByteArray.empty) 1 16 Tryz.underlying29 I0.out Z0.out Z1.out Z2.out rfl (by decide) _ _ _ rfl HT1.out ⟨wr.heap.size + 1, 0, none⟩ 1 1 [.string (strOf a ++ ⟨#[c]⟩)] rfl rfl HNW.out (by simp [Value.oneCell']) (by unfold maxLen; omega) (by omega) (by have := HZ1.out; omega) ?_; intro v5 w5 hown5 hgrow5' _ _; have hgrow5 : World.grownBy _ w5 (some g1) := hgrow5'; clear hgrow5'; obtain ⟨g5, cap5, rfl⟩ := own_form hown5 (by omega); have H5 := Lib.hid hown5; have hr5 : Row w5 wr.heap.size 216 #[.string ⟨#[c]⟩, .slice A2 k.len cap2] := (hgrow5.block _ HR1.out.lt (fun e => by injection e with e; omega)).trans HR1.out; have HG5 := Lib.hid hgrow5; have d0 := hr5.cell 0; have d1 := hr5.cell 1; simp at d0 d1; clear hown5 hgrow5)
        have hzz := HZ1.out
        have HB5 : Hid (Below w.heap.size w w5) := HB1.out.grown HG5.out (by omega) (fun q hq => by injection hq with hq; omega)
        have HW5 : Hid (Below w.heap.size wr w5) := (HBW.out.mono hz).grown HG5.out (by omega) (fun q hq => by injection hq with hq; omega)
        rw [HX.out] at H5 ⊢
        have HL5 := Lib.hid (HNX.out.below HW5.out)
        have HU5 : Hid (IsKids w5 (· < w5.heap.size) k (.slice A2 k.len cap2)) := (HU.out.below HW5.out).up HB5.out.size
        clear HT1 HR1 HB1 HBW HG5 HNX HU HW5 hzz HZ1 HNW hr5
        refine (HQ.out w5 HU5.out).mono ?_
        rintro e w6 ⟨v6, rfl, ⟨ho6, hn6⟩, hb6⟩
        obtain ⟨g6, cap6, rfl⟩ := SolidTexts.form ⟨ho6, hn6⟩
        have HO6 := Lib.hid ho6
        have HB6 : Hid (Below w.heap.size w w6) := HB5.out.trans (hb6.mono HB5.out.size)
        have HL6 := Lib.hid (HL5.out.below (hb6.mono HB5.out.size))
        have HT6 : Hid (w6.ownsRow w.heap.size 9 1 (.slice (some ⟨g5, 0, none⟩) (ts.length + 1) cap5) (ts.length + 1) (ts.map Value.string ++ [.string (strOf (a ++ [c]))])) := own_keep H5.out fun g hg => hb6.block g (H5.out.lt g hg).2
        have HNW6 : Hid (∀ j u, (ts2.map Value.string)[j]? = some u → w6.cell? ((⟨g6, 0, none⟩ : Addr).add j) = some u) := fun j u hj => by
          rw [List.getElem?_map, Option.map_eq_some_iff] at hj
          obtain ⟨s, hs, rfl⟩ := hj
          have := St.textsCell HO6.out hs
          rw [WideShapes.add_plain]
          rwa [Nat.zero_add]
        have hg5 : w.heap.size ≤ g5 := (H5.out.lt g5 rfl).1
        clear ho6 hn6 hb6 H5 HB5 HL5 HU5 HQ d0 d1
        go_wp2_with (at_builtin; refine wpList_append_own_at _ rfl _ _ 29 rfl w.heap.size 9 i0 (.string ByteArray.empty) 1 16 Tryz.underlying29 I0.out Z0.out Z1.out Z2.out rfl (by decide) _ _ _ rfl HT6.out ⟨g6, 0, none⟩ ts2.length cap6 (ts2.map Value.string) rfl (by simp) HNW6.out (by simp [Value.oneCell']) (by unfold maxLen; omega) (by omega) HB6.out.size ?_; intro v7 w7 hown7 hgrow7' hnil7 _; have hgrow7 : World.grownBy _ w7 (some g5) := hgrow7'; clear hgrow7'; have H7 := Lib.hid hown7; have HG7 := Lib.hid hgrow7; have HN7 := Lib.hid hnil7; clear hown7 hgrow7 hnil7)
        have HB7 : Hid (Below w.heap.size w w7) := HB6.out.grown HG7.out HB6.out.size (fun q hq => by injection hq with hq; omega)
        have HL7 : Hid (LeftS w7 w.heap.size f (some ⟨g, 0, none⟩) (pre.app (.cons c k .nil)) r) := HL6.out.below ((Below.refl _ w6).grown HG7.out HB6.out.size (fun q hq => by injection hq with hq; omega))
        have HT7 : Hid (SolidTexts w7 w.heap.size v7 ((chainsB a (pre.app (.cons c k .nil))).map strOf)) := by
          refine ⟨?_, fun h => by have := (HN7.out.1 h).1; cases this⟩
          unfold OwnTexts
          rw [HCH.out, List.length_append, List.length_append, List.map_append, List.map_append]
          exact H7.out
        clear HT6 HO6 HNW6 HB6 HL6 HG7 H7 HN7
        go_roundw
        case rel => exact ⟨_, r, by rw [HLN.out]; go_num, HT7, HL7, HB7⟩
        case measure => simp [intOf]; omega

end Go.Proofs.YtbmfbnlmdjnddaaGreat
/- The reference's texts of calls. -/
namespace Go.Proofs.YtbmfbnlmdjnddaaGreat
open Go.RowKit

theorem str_size (x : List UInt8) : (strOf x).size = x.length := bytes_size x
end Go.Proofs.YtbmfbnlmdjnddaaGreat
/- The reference's calls that are left. -/
namespace Go.Proofs.YtbmfbnlmdjnddaaGreat
open Go.RowKit

/-- A slice of the reference's calls that is no nil. -/
def SolidS (w : World) (B : Nat) (v : Value) (f : Forest) : Prop := OwnS w B v f ∧ v ≠ .slice none 0 0
theorem SolidS.form {w : World} {B : Nat} {v : Value} {f : Forest} (h : SolidS w B v f) : ∃ g cap, v = .slice (some ⟨g, 0, none⟩) f.len cap := by
  obtain ⟨⟨xs, hown, _⟩, hn⟩ := h
  rcases hown.2 with ⟨h0, _⟩ | ⟨g, cap, cur, e, _⟩
  · exact absurd h0 hn
  · exact ⟨g, cap, e⟩
theorem SolidS.below {w w' : World} {B : Nat} {v : Value} {f : Forest} (h : SolidS w B v f) (hb : Below w.heap.size w w') : SolidS w' B v f :=
  ⟨h.1.far hb.size fun q _ h2 => hb.block q h2, h.2⟩
/-- What holds in a round while one call is put behind those that are left. -/
structure LessHeld (w : World) (X : Nat) (c : UInt8) (kv v : Value) (F f pre k r : Forest) (A : Option Addr) (w' : World) : Prop where
  box : Row w' X 216 #[.string ⟨#[c]⟩, kv]
  own : SolidS w' w.heap.size v F
  left : LeftS w' w.heap.size f A (pre.app (.cons c k .nil)) r
  kids : IsKids w' (· < w.heap.size) k kv
  below : Below w.heap.size w w'
theorem LessHeld.later {w : World} {X : Nat} {c : UInt8} {kv v : Value} {F f pre k r : Forest} {A : Option Addr} {w1 w2 : World} (h : LessHeld w X c kv v F f pre k r A w1) (hb : Below w1.heap.size w1 w2) : LessHeld w X c kv v F f pre k r A w2 :=
  ⟨h.box.below hb h.box.lt, h.own.below hb, h.left.below (hb.mono h.below.size), h.kids.below (hb.mono h.below.size), h.below.trans (hb.mono h.below.size)⟩

end Go.Proofs.YtbmfbnlmdjnddaaGreat
/- The reference's NeedsOf, ChainsOf, CountCalls, DepthOf. -/
namespace Go.Proofs.YtbmfbnlmdjnddaaGreat
open Go.RowKit

theorem own_low {w : World} {B B' : Nat} {e : TypeId} {size : Nat} {v : Value} {n : Nat} {xs : List Value} (h : w.ownsRow B e size v n xs) (hB : B' ≤ B) : w.ownsRow B' e size v n xs := by
  refine ⟨h.1, ?_⟩
  rcases h.2 with h0 | ⟨g, cap, cur, e1, hg, r⟩
  · exact .inl h0
  · exact .inr ⟨g, cap, cur, e1, by omega, r⟩
/-- The chains of a trace. -/
def chainsRes (l : List Seg) (t : ByteArray) : List ByteArray := match traceB l t.data.toList with
  | none => []
  | some f => (chainsB [rootB l] f).map strOf
def ChainsResPost (w : World) (l : List Seg) (t : ByteArray) (e : Ending) (w' : World) : Prop :=
  ∃ v, e = .returned (.tuple #[v, .bool (traceB l t.data.toList).isSome]) ∧ OwnTexts w' w.heap.size v (chainsRes l t) ∧ Below w.heap.size w w'

set_option maxRecDepth 100000 in
set_option maxHeartbeats 1000000 in
theorem specChainsOf_any (A : Option Addr) (l : List Seg) (c : Nat) (t : ByteArray) (w : World) (hw : Segs w w.heap.size A l) (hl : l.length ≤ 1048576) (hn : Short l) (ht : t.size ≤ 1048576) :
    Calls Tryz.prog 56 #[.slice A l.length c, .string t] w (ChainsResPost w l t) := by
  have HQ := Lib.hid (l4Read_any A l c t w hw hl hn ht)
  have HW : Hid (Segs w w.heap.size A l) := hw
  unfold ChainsResPost chainsRes
  cases hR : traceB l t.data.toList with
  | none =>
    rw [hR] at HQ
    have HE : Hid (∀ W : World, Below w.heap.size w W → ∃ v, Ending.returned (.tuple #[.slice (some ⟨W.heap.size, 0, none⟩) 0 0, .bool false]) = .returned (.tuple #[v, .bool (none : Option Forest).isSome]) ∧ OwnTexts (W.alloc (.cells #[] 9)) w.heap.size v [] ∧ Below w.heap.size w (W.alloc (.cells #[] 9))) :=
      fun W hb => ⟨_, rfl, OwnTexts.empty W hb.size, hb.alloc hb.size _⟩
    clear hw hn hR
    go_enter Tryz.func56, Tryz.ntmps56
    go_wp2_with fail
    refine Calls.mono HQ.out ?_
    rintro e w2 ⟨v, rfl, -, hb⟩
    go_wp2
    go_ret2
    exact HE.out _ hb
  | some f =>
    obtain ⟨hv, h80, hcl⟩ := traceB_some hR
    have hsz := (traceB_size hR).1
    have HV := Lib.hid hv
    have hl1 := (valid_all hv).2.2
    rw [hR] at HQ
    have HE : Hid (∀ (v : Value) (W : World), SolidTexts W w.heap.size v ((chainsB [rootB l] f).map strOf) → Below w.heap.size w W → ∃ u, Ending.returned (.tuple #[v, .bool true]) = .returned (.tuple #[u, .bool (some f).isSome]) ∧ OwnTexts W w.heap.size u ((chainsB [rootB l] f).map strOf) ∧ Below w.heap.size w W) :=
      fun v W h hb => ⟨v, rfl, h.1, hb⟩
    clear hw hn hR h80 hcl hv
    go_enter Tryz.func56, Tryz.ntmps56
    go_wp2_with fail
    refine Calls.mono HQ.out ?_
    rintro e w2 ⟨v, rfl, (⟨f', hf', hsl⟩ | ⟨h0, -⟩), hb⟩
    · obtain rfl : f = f' := by injection hf'
      have HSL : Hid (IsKids w2 (· < w2.heap.size) f v) := hsl.keep fun q hq => ⟨hq.2, rfl⟩
      have HB := Lib.hid hb
      obtain ⟨b0, o0, rfl, hB0, c0⟩ := (HW.out.below hb).root HV.out
      clear hsl hb hf' HQ
      go_wp2_with fail
      refine (l4Chains_any (f.size + 1) f [rootB l] v w2 (by omega) (by simp; omega) HSL.out).mono ?_
      rintro e w3 ⟨v3, rfl, hs3, hb3⟩
      have HB3 := Lib.hid (HB.out.trans (hb3.mono HB.out.size))
      have HS3 : Hid (SolidTexts w3 w.heap.size v3 ((chainsB [rootB l] f).map strOf)) := ⟨own_low hs3.1 HB.out.size, hs3.2⟩
      clear hb3 hs3
      go_wp2
      go_ret2
      exact HE.out _ _ HS3.out HB3.out
    · cases h0

end Go.Proofs.YtbmfbnlmdjnddaaGreat
/- A trace twice, plain; which letters stand in a trace. -/
namespace Go.Proofs.YtbmfbnlmdjnddaaGreat
open Go.RowKit

theorem callA_some {P : UInt8 → Bool} {d : Nat} {c : UInt8} {s : List UInt8} {k : Forest} {r1 : List UInt8} (h : callA P d c s = some (k, r1)) : ∃ d', d = d' + 1 ∧ P c = true ∧
    ((k = .nil ∧ r1 = s ∧ ∀ x u, s = x :: u → x ≠ 40) ∨ (∃ s', s = 40 :: s' ∧ k.isNil = false ∧ calls P d' s' = some (k, 41 :: r1))) := by
  cases d with
  | zero => rw [callA_zero] at h; cases h
  | succ d =>
    refine ⟨d, rfl, ?_⟩
    cases hP : P c with
    | false => rw [callA_no hP] at h; cases h
    | true =>
      refine ⟨rfl, ?_⟩
      cases s with
      | nil =>
        rw [callA_leaf hP (fun x u e => by cases e)] at h
        injection h with h
        injection h with h1 h2
        exact .inl ⟨h1.symm, h2.symm, fun x u e => by cases e⟩
      | cons x u =>
        by_cases hx : x = 40
        · subst hx
          rw [callA_open hP] at h
          refine .inr ⟨u, rfl, ?_⟩
          unfold closed at h
          split at h
          · cases h
          · cases h
          · cases h
          · next c' k' f' x' r' h7 =>
            split at h
            · next h8 =>
              injection h with h
              injection h with h1 h2
              subst h1 h2 h8
              exact ⟨rfl, h7⟩
            · cases h
        · rw [callA_leaf hP (fun y v e => by injection e with e1 e2; rw [← e1]; exact hx)] at h
          injection h with h
          injection h with h1 h2
          exact .inl ⟨h1.symm, h2.symm, fun y v e => by injection e with e1 e2; rw [← e1]; exact hx⟩

theorem calls_some_cons {P : UInt8 → Bool} {d : Nat} {c : UInt8} {s : List UInt8} {f : Forest} {r : List UInt8} (hc : c ≠ 41) (h : calls P d (c :: s) = some (f, r)) :
    ∃ k r1 f', callA P d c s = some (k, r1) ∧ calls P d r1 = some (f', r) ∧ f = .cons c k f' := by
  rw [calls_cons P d s hc] at h
  unfold thenBy at h
  split at h
  · cases h
  · next k r1 h2 =>
    split at h
    · cases h
    · next f' r2 h4 =>
      injection h with h
      injection h with h1 h2'
      subst h1 h2'
      exact ⟨k, r1, f', h2, h4, rfl⟩

/-- All letters of calls are names. -/
def Forest.all (P : UInt8 → Bool) : Forest → Prop
  | .nil => True
  | .cons c k r => P c = true ∧ k.all P ∧ r.all P
theorem calls_all {P : UInt8 → Bool} : ∀ (n d : Nat) (s : List UInt8), s.length ≤ n → ∀ f r, calls P d s = some (f, r) → f.all P
  | n, d, [], _, f, r, h => by
    rw [calls_nil] at h
    injection h with h
    injection h with h1 h2
    subst h1
    exact trivial
  | 0, d, c :: s, hn, f, r, h => absurd hn (by simp)
  | n + 1, d, c :: s, hn, f, r, h => by
    by_cases hc : c = 41
    · subst hc
      rw [calls_close] at h
      injection h with h
      injection h with h1 h2
      subst h1
      exact trivial
    · obtain ⟨k, r1, f', h1, h2, rfl⟩ := calls_some_cons hc h
      have hl : r1.length ≤ s.length := callA_less P d c s k r1 h1
      have hn' : s.length ≤ n := by simpa using hn
      obtain ⟨d', rfl, hP, h4⟩ := callA_some h1
      refine ⟨hP, ?_, calls_all n _ r1 (by omega) _ _ h2⟩
      rcases h4 with ⟨rfl, _⟩ | ⟨s', rfl, _, hcs⟩
      · exact trivial
      · exact calls_all n d' s' (by simp at hn'; omega) _ _ hcs
theorem traceB_all {l : List Seg} {t : List UInt8} {f : Forest} (h : traceB l t = some f) : f.all (callP l) := by
  obtain ⟨_, _, h3⟩ := traceB_some h
  exact calls_all _ _ _ (Nat.le_refl _) _ _ h3

end Go.Proofs.YtbmfbnlmdjnddaaGreat
/- A row of numbers of the call's own; marks in numbers: what a law writes into what it was given, and whether it is held. -/
namespace Go.Proofs.YtbmfbnlmdjnddaaGreat.Si
open Go.RowKit

/-- Numbers in a row of the call's own. -/
def OwnInts (w : World) (B : Nat) (v : Value) (ts : List Int) : Prop := w.ownsRow B 3 1 v ts.length (ts.map (Value.int .i64))
theorem OwnInts.far {w w' : World} {B : Nat} {v : Value} {ts : List Int} (h : OwnInts w B v ts) (hk : ∀ g, v.ownBlock = some g → w'.heap[g]? = w.heap[g]?) : OwnInts w' B v ts := by
  refine ⟨h.1, ?_⟩
  rcases h.2 with h0 | ⟨g', cap, cur, rfl, hg, hh, r⟩
  · exact .inl h0
  · exact .inr ⟨g', cap, cur, rfl, hg, (hk g' rfl).trans hh, r⟩
theorem OwnInts.below {w w' : World} {B : Nat} {v : Value} {ts : List Int} (h : OwnInts w B v ts) (hb : Below w.heap.size w w') : OwnInts w' B v ts := h.far fun g hg => hb.block g (World.ownsRow.lt h g hg).2
theorem OwnInts.empty (w : World) {B : Nat} (hB : B ≤ w.heap.size) : OwnInts (w.alloc (.cells #[] 3)) B (.slice (some ⟨w.heap.size, 0, none⟩) 0 0) [] :=
  World.ownsRow_lit w #[] 0 hB (by simp [maxLen]) rfl
/-- A slice of numbers in memory below 'B'. -/
def Ints (w : World) (B : Nat) (A : Option Addr) (ts : List Int) : Prop :=
  0 < ts.length → ∃ b o, A = some ⟨b, o, none⟩ ∧ b < B ∧ ∀ (k : Nat) (s : Int), ts[k]? = some s → w.cell? ⟨b, o + k, none⟩ = some (.int .i64 s)
theorem Ints.below {w w' : World} {B : Nat} {A : Option Addr} {l : List Int} (h : Ints w B A l) (hb : Below B w w') : Ints w' B A l := fun hl => by
  obtain ⟨b, o, e, hB, hc⟩ := h hl
  refine ⟨b, o, e, hB, fun k s hk => ?_⟩
  rw [hb.cell hB]
  exact hc k s hk
theorem Ints.more {w : World} {B B' : Nat} {A : Option Addr} {l : List Int} (h : Ints w B A l) (hB : B ≤ B') : Ints w B' A l := fun hl => by
  obtain ⟨b, o, e, hb, hc⟩ := h hl
  exact ⟨b, o, e, Nat.lt_of_lt_of_le hb hB, hc⟩
end Go.Proofs.YtbmfbnlmdjnddaaGreat.Si

namespace Go.Proofs.YtbmfbnlmdjnddaaGreat
open Go.RowKit

end Go.Proofs.YtbmfbnlmdjnddaaGreat
/- How often each segment is called: plain, and the reference's. -/
namespace Go.Proofs.YtbmfbnlmdjnddaaGreat
open Go.RowKit

def lastB (x : List UInt8) : UInt8 := x.getLastD 0
theorem str_last (p : List UInt8) (d : UInt8) : (strOf (p ++ [d])).extract ((strOf (p ++ [d])).size - 1) (strOf (p ++ [d])).size = ⟨#[d]⟩ := by
  have hs : (strOf (p ++ [d])).size = p.length + 1 := by rw [str_size]; simp
  rw [hs]
  apply ByteArray.ext
  rw [ByteArray.data_extract]
  apply Array.ext'
  simp [strOf]
theorem lastB_snoc (y : List UInt8) (c : UInt8) : lastB (y ++ [c]) = c := by simp [lastB]
end Go.Proofs.YtbmfbnlmdjnddaaGreat
