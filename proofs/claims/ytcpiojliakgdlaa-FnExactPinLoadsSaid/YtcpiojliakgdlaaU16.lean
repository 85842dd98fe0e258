/- Joined: Fk Fi Fm Fp Fq Fr Fs Fj Ti Gy Fn. -/
import Derived.Test.YtcpiojliakgdlaaU15
import Derived.Test.YtcpiojliakgdlaaU03
import Derived.Test.YtcpiojliakgdlaaU13
import Derived.Test.YtcpiojliakgdlaaU08
import Derived.Maps.AppendAt
import Derived.Deep.AppendLies
import Derived.BigQuiet
import Derived.WalkLawsBesides
import Derived.Test.YtcpiojliakgdlaaU12
import Derived.Test.YtcpiojliakgdlaaU04
/- The reference's l4Read and TraceValid by their contracts. -/
namespace Go.Proofs.Ytcpiojliakgdlaa
open Go.RowKit

/-- What l4Read has done. -/
def ReadPost (w : World) (R : Option Forest) (e : Ending) (w' : World) : Prop :=
  ∃ v, e = .returned (.tuple #[v, .bool R.isSome]) ∧ ((∃ f, R = some f ∧ IsKids w' (fun q => w.heap.size ≤ q ∧ q < w'.heap.size) f v) ∨ (R = none ∧ ∃ A cap, v = .slice A 0 cap)) ∧ Below w.heap.size w w'

set_option maxRecDepth 100000 in
set_option maxHeartbeats 4000000 in
theorem l4Read_any (A : Option Addr) (l : List Seg) (c : Nat) (t : ByteArray) (w : World) (hw : Segs w w.heap.size A l) (hl : l.length ≤ 1048576) (hn : Short l) (ht : t.size ≤ 1048576) :
    Calls Try.prog 144 #[.slice A l.length c, .string t] w (ReadPost w (traceB l t.data.toList)) := by
  have HW : Hid (Segs w w.heap.size A l) := hw
  have hlen : t.data.toList.length = t.size := by simp
  have HT : Hid (traceB l t.data.toList = if (validB l && decide (t.size ≤ 80)) = true then whole (calls (callP l) 8 t.data.toList) else none) := by
    show _ = _
    rw [traceB_eq, hlen]
  have HLEN := Lib.hid hlen
  clear hw hlen
  have HB0 : Hid (Below w.heap.size w (w.alloc (.cells #[.string t, .int .i64 0, .bool false, .slice A l.length c, .int .i64 0] 178))) := (Below.refl _ w).alloc (Nat.le_refl _) _
  have HR0 : Hid (Row (w.alloc (.cells #[.string t, .int .i64 0, .bool false, .slice A l.length c, .int .i64 0] 178)) w.heap.size 178 (rdCells t ((0 : Nat) : Int) false (.slice A l.length c) 0)) := Row.new w _ _
  have HN : Hid (∀ (R : Option Forest) (W : World), R = none → Below w.heap.size w W → ReadPost w R (.returned (.tuple #[.slice (some ⟨W.heap.size, 0, none⟩) 0 0, .bool false])) (W.alloc (.cells #[] 181))) := fun R W h0 h1 => by
    subst h0
    exact ⟨_, rfl, .inr ⟨rfl, _, _, rfl⟩, h1.alloc h1.size _⟩
  go_enter Try.func144, Try.ntmps144
  go_wp2_with fail
  generalize w.alloc (.cells #[.string t, .int .i64 0, .bool false, .slice A l.length c, .int .i64 0] 178) = W1 at *
  have HWX : Hid (Segs W1 w.heap.size A l) := HW.out.below HB0.out
  have HQ := Lib.hid (specCalls_any w.heap.size t ht A l c hl hn 8 0 0 W1 (by omega) (by omega) (by omega) HWX.out HR0.out)
  refine Calls.mono HQ.out ?_
  rintro e w2 ⟨v, rfl, ho, (⟨F, k, hk, how, hr, hc⟩ | ⟨a, A', n', cap', rfl, ha0, ha1, hr, hc⟩)⟩
  · rw [List.drop_zero] at hc
    obtain ⟨A2, cap2, rfl⟩ := how.form
    have HB2 : Hid (Below w.heap.size w w2) := HB0.out.trans (ho.belowRow (Nat.le_of_lt HR0.out.lt))
    have hbw := HR0.out.lt
    have HZ : Hid (w.heap.size < W1.heap.size) := hbw
    have HS2 : Hid (Segs w2 w2.heap.size A l) := (HW.out.below HB2.out).more HB2.out.size
    have HK2 := Lib.hid how.kids
    have c1 : w2.cell? ⟨w.heap.size, 1, none⟩ = some (.int .i64 k) := hr.cell 1
    have c2 : w2.cell? ⟨w.heap.size, 2, none⟩ = some (.bool false) := hr.cell 2
    have HC := Lib.hid hc
    clear HQ HR0 HB0 HWX ho how hr hc hbw
    by_cases hke : k = t.size
    · have HWH : Hid (whole (calls (callP l) 8 t.data.toList) = some F) := by
        show _ = _
        rw [HC.out, hke, List.drop_of_length_le (by rw [HLEN.out]; exact Nat.le_refl _)]
        rfl
      have hneq : ((k : Int) != (t.size : Int)) = false := by rw [hke]; simp
      have heq : (k : Int) = (t.size : Int) := by omega
      by_cases h80 : 80 < t.size
      · have h80' : ¬ (t.size ≤ 80) := by omega
        have h80i : (80 : Int) < (t.size : Int) := by omega
        have HR : Hid (traceB l t.data.toList = none) := by
          show _ = _
          rw [HT.out, if_neg (by simp [h80'])]
        clear HT HC HWH hke
        have q : decide (80 < t.size) = true := decide_eq_true h80
        go_wp2
        go_ret2
        exact HN.out _ _ HR.out HB2.out
      · have h80' : t.size ≤ 80 := by omega
        have h80i : ¬ (80 : Int) < (t.size : Int) := by omega
        have q : decide (80 < t.size) = false := decide_eq_false h80
        have HTV := Lib.hid (specTreeValid_any A l c w2 HS2.out hl hn)
        cases hv : validB l with
        | false =>
          have HR : Hid (traceB l t.data.toList = none) := by
            show _ = _
            rw [HT.out, hv]; rfl
          clear HT HC HWH hke
          go_wp2_with fail
          refine Calls.mono HTV.out ?_
          rw [hv]
          clear HTV hv
          rintro e w3 ⟨rfl, hb3⟩
          have HB3 := Lib.hid (HB2.out.trans (hb3.mono HB2.out.size))
          clear hb3
          go_wp2
          go_ret2
          exact HN.out _ _ HR.out HB3.out
        | true =>
          have HR : Hid (traceB l t.data.toList = some F) := by
            show _ = _
            rw [HT.out, hv, decide_eq_true h80', HWH.out]; rfl
          clear HT HC HWH hke
          go_wp2_with fail
          refine Calls.mono HTV.out ?_
          rw [hv]
          clear HTV hv
          rintro e w3 ⟨rfl, hb3⟩
          have HB3 := Lib.hid (HB2.out.trans (hb3.mono HB2.out.size))
          have HK3 : Hid (IsKids w3 (fun q => w.heap.size ≤ q ∧ q < w3.heap.size) F (.slice A2 F.len cap2)) :=
            HK2.out.keep fun q hq => ⟨⟨by have := HZ.out; omega, Nat.lt_of_lt_of_le hq.2 hb3.size⟩, hb3.block q hq.2⟩
          clear hb3
          go_wp2
          go_ret2
          exact ⟨_, by rw [HR.out]; rfl, .inl ⟨F, HR.out, HK3.out⟩, HB3.out⟩
    · have HR : Hid (traceB l t.data.toList = none) := by
        show _ = _
        rw [HT.out, HC.out]
        have hd : t.data.toList.drop k = t[k]'(by omega) :: t.data.toList.drop (k + 1) := List.drop_eq_getElem_cons (by rw [HLEN.out]; omega)
        rw [hd]
        split <;> rfl
      have hneq : ((k : Int) != (t.size : Int)) = true := by rw [bne_iff_ne]; omega
      have hne' : ¬ (k : Int) = (t.size : Int) := by omega
      clear HT HC hke
      go_wp2
      go_ret2
      exact HN.out _ _ HR.out HB2.out
  · rw [List.drop_zero] at hc
    have HR : Hid (traceB l t.data.toList = none) := by
      show _ = _
      rw [HT.out, hc]
      split <;> rfl
    have HB2 : Hid (Below w.heap.size w w2) := HB0.out.trans (ho.belowRow (Nat.le_of_lt HR0.out.lt))
    have c2 : w2.cell? ⟨w.heap.size, 2, none⟩ = some (.bool true) := hr.cell 2
    clear HQ HR0 HB0 HWX ho hr hc HT
    go_wp2
    go_ret2
    exact HN.out _ _ HR.out HB2.out

end Go.Proofs.Ytcpiojliakgdlaa
/- What a trace tells, plain: needs, chains, texts, calls that are left. -/
namespace Go.Proofs.Ytcpiojliakgdlaa
open Go.RowKit

/-- What is needed behind a caller: each call, what is needed within it, and the caller again. -/
def needsB (a : UInt8) : Forest → List UInt8
  | .nil => []
  | .cons c k r => c :: (needsB c k ++ (a :: needsB a r))
theorem needsB_app (a : UInt8) : ∀ f g : Forest, needsB a (f.app g) = needsB a f ++ needsB a g
  | .nil, _ => rfl
  | .cons c k r, g => by
    show c :: (needsB c k ++ (a :: needsB a (r.app g))) = (c :: (needsB c k ++ (a :: needsB a r))) ++ needsB a g
    rw [needsB_app a r g]; simp
theorem needsB_one (a c : UInt8) (k : Forest) : needsB a (.cons c k .nil) = c :: (needsB c k ++ [a]) := rfl
theorem needsB_len (a : UInt8) : ∀ f : Forest, (needsB a f).length = 2 * f.size
  | .nil => rfl
  | .cons c k r => by
    show (c :: (needsB c k ++ (a :: needsB a r))).length = 2 * (k.size + r.size + 1)
    simp [needsB_len c k, needsB_len a r]; omega

/-- Who is active at each call, behind some that are active before. -/
def chainsB (a : List UInt8) : Forest → List (List UInt8)
  | .nil => []
  | .cons c k r => (a ++ [c]) :: (chainsB (a ++ [c]) k ++ chainsB a r)
/-- How many calls are read out of a text: no more than it has bytes. -/
theorem rd_size (P : UInt8 → Bool) : ∀ (n d : Nat) (s : List UInt8) f r, rd P n d s = some (f, r) → f.size + r.length ≤ s.length ∧ f.deep ≤ d
  | 0, _, _, _, _, e => by cases e
  | n + 1, d, [], f, r, e => by
    injection e with e
    injection e with e1 e2
    subst e1 e2
    exact ⟨Nat.le_refl _, Nat.zero_le _⟩
  | n + 1, d, c :: s, f, r, e => by
    unfold rd at e
    split at e
    · injection e with e
      injection e with e1 e2
      subst e1 e2
      exact ⟨Nat.le_of_eq (Nat.zero_add _), Nat.zero_le _⟩
    · unfold thenBy at e
      split at e
      · cases e
      · next k r1 h2 =>
        split at e
        · cases e
        · next f' r2 h4 =>
          injection e with e
          injection e with e1 e2
          subst e1 e2
          have h5 := rd_size P n d r1 _ _ h4
          have h6 : k.size + r1.length ≤ s.length ∧ k.deep + 1 ≤ d := by
            unfold callBy at h2
            split at h2
            · cases h2
            · next d' =>
              split at h2
              · unfold innerBy at h2
                split at h2
                · injection h2 with h2
                  injection h2 with h2 h3
                  subst h2 h3
                  exact ⟨Nat.le_refl _, by show 0 + 1 ≤ d' + 1; omega⟩
                · next x u =>
                  split at h2
                  · unfold closed at h2
                    split at h2
                    · cases h2
                    · cases h2
                    · cases h2
                    · next c' k' f'' x' r'' h7 =>
                      split at h2
                      · injection h2 with h2
                        injection h2 with h2 h3
                        subst h2 h3
                        have h8 := rd_size P n d' u _ _ h7
                        simp at h8 ⊢
                        omega
                      · cases h2
                  · injection h2 with h2
                    injection h2 with h2 h3
                    subst h2 h3
                    exact ⟨by show 0 + _ ≤ _; omega, by show 0 + 1 ≤ d' + 1; omega⟩
              · cases h2
          refine ⟨?_, ?_⟩
          · show k.size + f'.size + 1 + r2.length ≤ s.length + 1
            omega
          · show max (k.deep + 1) f'.deep ≤ d
            omega
theorem calls_size {P : UInt8 → Bool} {d : Nat} {s : List UInt8} {f : Forest} {r : List UInt8} (h : calls P d s = some (f, r)) : f.size + r.length ≤ s.length ∧ f.deep ≤ d := rd_size P _ d s f r h
theorem whole_some {g : Got} {f : Forest} (h : whole g = some f) : g = some (f, []) := by
  unfold whole at h
  split at h
  · injection h with h; subst h; rfl
  · cases h
theorem traceB_some {l : List Seg} {t : List UInt8} {f : Forest} (h : traceB l t = some f) : validB l = true ∧ t.length ≤ 80 ∧ calls (callP l) 8 t = some (f, []) := by
  rw [traceB_eq] at h
  split at h
  · next h1 =>
    simp only [Bool.and_eq_true, decide_eq_true_eq] at h1
    exact ⟨h1.1, h1.2, whole_some h⟩
  · cases h
theorem traceB_size {l : List Seg} {t : List UInt8} {f : Forest} (h : traceB l t = some f) : f.size ≤ 80 ∧ f.deep ≤ 8 := by
  obtain ⟨_, h2, h3⟩ := traceB_some h
  have := calls_size h3
  simp at this
  omega

def strOf (x : List UInt8) : ByteArray := ⟨x.toArray⟩
theorem bytes_cat (x y : List UInt8) : (⟨x.toArray⟩ : ByteArray) ++ ⟨y.toArray⟩ = ⟨(x ++ y).toArray⟩ := by
  apply ByteArray.ext
  simp [ByteArray.data_append]
theorem bytes_cat3 (x y z : List UInt8) : (⟨x.toArray⟩ : ByteArray) ++ ⟨y.toArray⟩ ++ ⟨z.toArray⟩ = ⟨(x ++ y ++ z).toArray⟩ := by
  apply ByteArray.ext
  simp [ByteArray.data_append]
theorem bytes_size (x : List UInt8) : (⟨x.toArray⟩ : ByteArray).size = x.length := by simp [ByteArray.size]
theorem Forest.app_size : ∀ f g : Forest, (f.app g).size = f.size + g.size
  | .nil, g => by show g.size = 0 + g.size; omega
  | .cons c k r, g => by show k.size + (r.app g).size + 1 = k.size + r.size + 1 + g.size; rw [Forest.app_size r]; omega

/-- The root's letter. -/
def rootB (l : List Seg) : UInt8 := match l with
  | s :: _ => s.name.data.toList.headD 0
  | [] => 0
theorem root_name {l : List Seg} (hv : validB l = true) : ∃ s, l[0]? = some s ∧ s.name = ⟨#[rootB l]⟩ := by
  have h1 : 1 ≤ l.length := by
    unfold validB at hv
    simp only [Bool.and_eq_true, decide_eq_true_eq] at hv
    exact hv.1.1
  cases l with
  | nil => simp at h1
  | cons s r =>
    obtain ⟨d, hd, _, _⟩ := nameOk_one (validB_names hv (s := s) (by simp))
    refine ⟨s, rfl, ?_⟩
    show s.name = ⟨#[s.name.data.toList.headD 0]⟩
    rw [hd]; rfl
/-- The root's name in memory. -/
theorem Segs.root {w : World} {B : Nat} {A : Option Addr} {l : List Seg} (h : Segs w B A l) (hv : validB l = true) : ∃ b o, A = some ⟨b, o, none⟩ ∧ b < B ∧ w.cell? ⟨b, o, none⟩ = some (.string ⟨#[rootB l]⟩) := by
  obtain ⟨s, hs, hn⟩ := root_name hv
  obtain ⟨b, o, e, hB, hc⟩ := h (List.getElem?_eq_some_iff.1 hs).1
  have := (hc 0 s hs).1
  rw [hn] at this
  simp only [Nat.zero_mul, Nat.add_zero] at this
  exact ⟨b, o, e, hB, this⟩

/-- What a trace needs. -/
def needsRes (l : List Seg) (t : ByteArray) : ByteArray := match traceB l t.data.toList with
  | none => ⟨#[]⟩
  | some f => ⟨(rootB l :: needsB (rootB l) f).toArray⟩

end Go.Proofs.Ytcpiojliakgdlaa
/- The reference's needs and texts of calls. -/
namespace Go.Proofs.Ytcpiojliakgdlaa
open Go.RowKit

/-- What of the reference's calls is left behind those that were taken. -/
theorem IsKids.nil_or {w : World} {S : Nat → Prop} {f : Forest} {v : Value} (h : IsKids w S f v) : ∃ A cap, v = .slice A f.len cap ∧ (f.isNil = false → ∃ g, A = some ⟨g, 0, none⟩ ∧ S g ∧ SCells w S f g 0) := h
theorem SCells.kids {w : World} {S : Nat → Prop} {c : UInt8} {k r : Forest} {g o : Nat} (h : SCells w S (.cons c k r) g o) : w.cell? ⟨g, o, none⟩ = some (.string ⟨#[c]⟩) ∧ (∃ v, w.cell? ⟨g, o + 1, none⟩ = some v ∧ IsKids w S k v) ∧ SCells w S r g (o + 2) := by
  obtain ⟨h1, ⟨A, cap, h2, h3⟩, h4⟩ := h
  exact ⟨h1, ⟨_, h2, A, cap, rfl, h3⟩, h4⟩
theorem SCells.below {w w' : World} {f : Forest} {g o B : Nat} (h : SCells w (· < B) f g o) (hb : Below B w w') (hg : g < B) : SCells w' (· < B) f g o :=
  SCells.keep (fun q hq => ⟨hq, hb.block q hq⟩) f g o (hb.block g hg) h
theorem IsKids.below {w w' : World} {f : Forest} {v : Value} {B : Nat} (h : IsKids w (· < B) f v) (hb : Below B w w') : IsKids w' (· < B) f v :=
  h.keep fun q hq => ⟨hq, hb.block q hq⟩
theorem IsKids.up {w : World} {f : Forest} {v : Value} {B B' : Nat} (h : IsKids w (· < B) f v) (hB : B ≤ B') : IsKids w (· < B') f v :=
  h.keep fun _ hq => ⟨Nat.lt_of_lt_of_le hq hB, rfl⟩

/-- What the range over calls has before it. -/
def LeftS (w : World) (B : Nat) (f : Forest) (A : Option Addr) (pre rest : Forest) : Prop := f = pre.app rest ∧ (rest.isNil = false → ∃ g, A = some ⟨g, 0, none⟩ ∧ g < B ∧ SCells w (· < B) rest g (pre.len * 2))
theorem LeftS.start {w : World} {B : Nat} {f : Forest} {A : Option Addr} (h : f.isNil = false → ∃ g, A = some ⟨g, 0, none⟩ ∧ g < B ∧ SCells w (· < B) f g 0) : LeftS w B f A .nil f := ⟨rfl, h⟩
theorem LeftS.below {w w' : World} {B : Nat} {f pre rest : Forest} {A : Option Addr} (h : LeftS w B f A pre rest) (hb : Below B w w') : LeftS w' B f A pre rest := by
  refine ⟨h.1, fun hr => ?_⟩
  obtain ⟨g, e, h1, h2⟩ := h.2 hr
  exact ⟨g, e, h1, h2.below hb h1⟩
/-- One call is taken. -/
theorem LeftS.take {w : World} {B : Nat} {f pre k r : Forest} {c : UInt8} {A : Option Addr} (h : LeftS w B f A pre (.cons c k r)) :
    LeftS w B f A (pre.app (.cons c k .nil)) r ∧ pre.len < f.len ∧ k.size < f.size ∧ ∃ g v, A = some ⟨g, 0, none⟩ ∧ g < B ∧ w.cell? ⟨g, pre.len * 2, none⟩ = some (.string ⟨#[c]⟩) ∧ w.cell? ⟨g, pre.len * 2 + 1, none⟩ = some v ∧ IsKids w (· < B) k v := by
  obtain ⟨h1, h2⟩ := h
  obtain ⟨g, e, h3, h4⟩ := h2 rfl
  obtain ⟨c0, ⟨v, c1, hv⟩, hr⟩ := h4.kids
  have hl : (pre.app (.cons c k .nil)).len = pre.len + 1 := by rw [Forest.app_len]; rfl
  refine ⟨⟨?_, fun _ => ⟨g, e, h3, ?_⟩⟩, ?_, ?_, g, v, e, h3, c0, c1, hv⟩
  · rw [Forest.app_assoc]; exact h1
  · rw [hl, show (pre.len + 1) * 2 = pre.len * 2 + 2 by omega]; exact hr
  · rw [h1, Forest.app_len]; show pre.len < pre.len + (r.len + 1); omega
  · rw [h1, Forest.app_size]; show k.size < pre.size + (k.size + r.size + 1); omega
theorem LeftS.done {w : World} {B : Nat} {f pre : Forest} {A : Option Addr} (h : LeftS w B f A pre .nil) : f = pre := by rw [h.1, Forest.app_nil]

set_option maxRecDepth 100000 in
set_option maxHeartbeats 1000000 in
theorem l4Needs_any : ∀ (n : Nat) (f : Forest) (a : UInt8) (v : Value) (w : World), f.size < n → f.size ≤ 1000 → IsKids w (· < w.heap.size) f v →
    Calls Try.prog 145 #[.string ⟨#[a]⟩, v] w fun e w' => e = .returned (.string ⟨(a :: needsB a f).toArray⟩) ∧ Below w.heap.size w w' := by
  intro n
  induction n with
  | zero => intro f a v w h; omega
  | succ n ih =>
    intro f a v w hn h80 hk
    obtain ⟨A, cap, rfl, hcs⟩ := hk.nil_or
    have IH := Lib.hid ih
    have HL0 : Hid (LeftS w w.heap.size f A .nil f) := LeftS.start hcs
    have hfl : f.len ≤ 1000 := Nat.le_trans f.len_size h80
    clear ih hk hcs
    go_enter Try.func145, Try.ntmps145
    go_wp2
    go_loopw [5, 11] (fun s i wr => ∃ (pre rest : Forest) (x : ByteArray), s = .string x ∧ i = .int .i64 pre.len ∧ Hid (x = ⟨(a :: needsB a pre).toArray⟩) ∧ Hid (LeftS wr w.heap.size f A pre rest) ∧ Hid (Below w.heap.size w wr))
      (fun _ i _ => f.len - (intOf i).toNat)
    case atStart => exact ⟨.nil, f, _, rfl, rfl, rfl, HL0, Below.refl _ _⟩
    case round =>
      obtain ⟨pre, rest, x, rfl, rfl, HX, HL, HB⟩ := hrel
      clear HL0
      cases rest with
      | nil =>
        have HE := Lib.hid HL.out.done
        have hle : ¬ (pre.len < f.len) := by rw [HE.out]; omega
        go_wp2
        go_ret
        exact ⟨by rw [HX.out, HE.out]; rfl, HB.out⟩
      | cons c k r =>
        obtain ⟨hnext, hlt, hks, g, u, rfl, hg, c0, c1, hu⟩ := HL.out.take
        have HNX := Lib.hid hnext
        have hz := HB.out.size
        obtain ⟨A2, cap2, rfl, -⟩ := id hu
        have hu' := (hu.up hz).below ((Below.refl wr.heap.size wr).alloc (Nat.le_refl _) (.cells #[.string ⟨#[c]⟩, .slice A2 k.len cap2] 181))
        have HQ := Lib.hid (IH.out k c _ (wr.alloc (.cells #[.string ⟨#[c]⟩, .slice A2 k.len cap2] 181)) (by omega) (by omega) (hu'.up (by simp)))
        have hnl := needsB_len c k
        have hpl := needsB_len a pre
        have hps : pre.size ≤ f.size := by rw [HL.out.1, Forest.app_size]; omega
        have hxs : x.size ≤ 3000 := by rw [HX.out, bytes_size]; simp; omega
        have HXN : Hid (x ++ ⟨(c :: needsB c k).toArray⟩ ++ ⟨#[a]⟩ = ⟨(a :: needsB a (pre.app (.cons c k .nil))).toArray⟩) := by
          show _ = _
          rw [HX.out]
          refine (bytes_cat3 _ _ [a]).trans ?_
          rw [needsB_app, needsB_one]
          simp
        have hys : (⟨(c :: needsB c k).toArray⟩ : ByteArray).size ≤ 3000 := by rw [bytes_size]; simp; omega
        have HLN : Hid ((pre.app (.cons c k .nil)).len = pre.len + 1) := by show _ = _; rw [Forest.app_len]; rfl
        clear hnext hu hu' hnl hpl hps
        generalize hyy : (⟨(c :: needsB c k).toArray⟩ : ByteArray) = y at *
        clear hyy
        go_wp2_with fail
        refine Calls.mono HQ.out ?_
        rintro e w1 ⟨rfl, hb1⟩
        have HB1 : Hid (Below w.heap.size w w1) := (HB.out.alloc hz _).trans (hb1.mono (by simp; omega))
        have HL1 : Hid (LeftS w1 w.heap.size f (some ⟨g, 0, none⟩) (pre.app (.cons c k .nil)) r) := HNX.out.below (((Below.refl _ wr).alloc hz _).trans (hb1.mono (by simp; omega)))
        clear hb1 HQ HNX HL HB
        go_wp2
        go_roundw
        case rel => exact ⟨_, r, _, rfl, by rw [HLN.out]; go_num, HXN, HL1, HB1⟩
        case measure => simp [intOf]; omega

end Go.Proofs.Ytcpiojliakgdlaa
/- The reference's chains, texts and calls that are left. -/
namespace Go.Proofs.Ytcpiojliakgdlaa
open Go.RowKit

/-- A row of texts that is no nil. -/
def SolidTexts (w : World) (B : Nat) (v : Value) (ts : List ByteArray) : Prop := OwnTexts w B v ts ∧ v ≠ .slice none 0 0
theorem SolidTexts.form {w : World} {B : Nat} {v : Value} {ts : List ByteArray} (h : SolidTexts w B v ts) : ∃ g cap, v = .slice (some ⟨g, 0, none⟩) ts.length cap := by
  rcases h.1.2 with ⟨h0, _⟩ | ⟨g, cap, cur, e, _⟩
  · exact absurd h0 h.2
  · exact ⟨g, cap, e⟩
def ChainsPost (w : World) (L : List ByteArray) (e : Ending) (w' : World) : Prop := ∃ v, e = .returned v ∧ SolidTexts w' w.heap.size v L ∧ Below w.heap.size w w'

end Go.Proofs.Ytcpiojliakgdlaa
/- The reference's texts of calls. -/
namespace Go.Proofs.Ytcpiojliakgdlaa
open Go.RowKit

theorem str_size (x : List UInt8) : (strOf x).size = x.length := bytes_size x
end Go.Proofs.Ytcpiojliakgdlaa
/- The reference's calls that are left. -/
namespace Go.Proofs.Ytcpiojliakgdlaa
open Go.RowKit

/-- A slice of the reference's calls that is no nil. -/
def SolidS (w : World) (B : Nat) (v : Value) (f : Forest) : Prop := OwnS w B v f ∧ v ≠ .slice none 0 0
theorem SolidS.form {w : World} {B : Nat} {v : Value} {f : Forest} (h : SolidS w B v f) : ∃ g cap, v = .slice (some ⟨g, 0, none⟩) f.len cap := by
  obtain ⟨⟨xs, hown, _⟩, hn⟩ := h
  rcases hown.2 with ⟨h0, _⟩ | ⟨g, cap, cur, e, _⟩
  · exact absurd h0 hn
  · exact ⟨g, cap, e⟩
theorem SolidS.below {w w' : World} {B : Nat} {v : Value} {f : Forest} (h : SolidS w B v f) (hb : Below w.heap.size w w') : SolidS w' B v f :=
  ⟨h.1.far hb.size fun q _ h2 => hb.block q h2, h.2⟩
/-- What holds in a round while one call is put behind those that are left. -/
structure LessHeld (w : World) (X : Nat) (c : UInt8) (kv v : Value) (F f pre k r : Forest) (A : Option Addr) (w' : World) : Prop where
  box : Row w' X 181 #[.string ⟨#[c]⟩, kv]
  own : SolidS w' w.heap.size v F
  left : LeftS w' w.heap.size f A (pre.app (.cons c k .nil)) r
  kids : IsKids w' (· < w.heap.size) k kv
  below : Below w.heap.size w w'
theorem LessHeld.later {w : World} {X : Nat} {c : UInt8} {kv v : Value} {F f pre k r : Forest} {A : Option Addr} {w1 w2 : World} (h : LessHeld w X c kv v F f pre k r A w1) (hb : Below w1.heap.size w1 w2) : LessHeld w X c kv v F f pre k r A w2 :=
  ⟨h.box.below hb h.box.lt, h.own.below hb, h.left.below (hb.mono h.below.size), h.kids.below (hb.mono h.below.size), h.below.trans (hb.mono h.below.size)⟩

end Go.Proofs.Ytcpiojliakgdlaa
/- The reference's NeedsOf, ChainsOf, CountCalls, DepthOf. -/
namespace Go.Proofs.Ytcpiojliakgdlaa
open Go.RowKit

theorem own_low {w : World} {B B' : Nat} {e : TypeId} {size : Nat} {v : Value} {n : Nat} {xs : List Value} (h : w.ownsRow B e size v n xs) (hB : B' ≤ B) : w.ownsRow B' e size v n xs := by
  refine ⟨h.1, ?_⟩
  rcases h.2 with h0 | ⟨g, cap, cur, e1, hg, r⟩
  · exact .inl h0
  · exact .inr ⟨g, cap, cur, e1, by omega, r⟩
set_option maxRecDepth 100000 in
set_option maxHeartbeats 1000000 in
theorem specNeedsOf_any (A : Option Addr) (l : List Seg) (c : Nat) (t : ByteArray) (w : World) (hw : Segs w w.heap.size A l) (hl : l.length ≤ 1048576) (hn : Short l) (ht : t.size ≤ 1048576) :
    Calls Try.prog 106 #[.slice A l.length c, .string t] w fun e w' => e = .returned (.tuple #[.string (needsRes l t), .bool (traceB l t.data.toList).isSome]) ∧ Below w.heap.size w w' := by
  have HQ := Lib.hid (l4Read_any A l c t w hw hl hn ht)
  have HW : Hid (Segs w w.heap.size A l) := hw
  unfold needsRes
  cases hR : traceB l t.data.toList with
  | none =>
    rw [hR] at HQ
    clear hw hn hR
    go_enter Try.func106, Try.ntmps106
    go_wp2_with fail
    refine Calls.mono HQ.out ?_
    rintro e w2 ⟨v, rfl, -, hb⟩
    go_wp2
    go_ret2
    exact ⟨rfl, hb⟩
  | some f =>
    obtain ⟨hv, h80, hcl⟩ := traceB_some hR
    have hsz := (traceB_size hR).1
    have HV := Lib.hid hv
    have hl1 := (valid_all hv).2.2
    rw [hR] at HQ
    clear hw hn hR h80 hcl hv
    go_enter Try.func106, Try.ntmps106
    go_wp2_with fail
    refine Calls.mono HQ.out ?_
    rintro e w2 ⟨v, rfl, (⟨f', hf', hsl⟩ | ⟨h0, -⟩), hb⟩
    · obtain rfl : f = f' := by injection hf'
      have HSL : Hid (IsKids w2 (· < w2.heap.size) f v) := hsl.keep fun q hq => ⟨hq.2, rfl⟩
      have HB := Lib.hid hb
      obtain ⟨b0, o0, rfl, hB0, c0⟩ := (HW.out.below hb).root HV.out
      clear hsl hb hf' HQ
      go_wp2_with fail
      refine (l4Needs_any (f.size + 1) f (rootB l) v w2 (by omega) (by omega) HSL.out).mono ?_
      rintro e w3 ⟨rfl, hb3⟩
      have HB3 := Lib.hid (HB.out.trans (hb3.mono HB.out.size))
      clear hb3
      go_wp2
      go_ret2
      exact ⟨rfl, HB3.out⟩
    · cases h0

end Go.Proofs.Ytcpiojliakgdlaa
/- A trace twice, plain; which letters stand in a trace. -/
namespace Go.Proofs.Ytcpiojliakgdlaa
open Go.RowKit

theorem callA_some {P : UInt8 → Bool} {d : Nat} {c : UInt8} {s : List UInt8} {k : Forest} {r1 : List UInt8} (h : callA P d c s = some (k, r1)) : ∃ d', d = d' + 1 ∧ P c = true ∧
    ((k = .nil ∧ r1 = s ∧ ∀ x u, s = x :: u → x ≠ 40) ∨ (∃ s', s = 40 :: s' ∧ k.isNil = false ∧ calls P d' s' = some (k, 41 :: r1))) := by
  cases d with
  | zero => rw [callA_zero] at h; cases h
  | succ d =>
    refine ⟨d, rfl, ?_⟩
    cases hP : P c with
    | false => rw [callA_no hP] at h; cases h
    | true =>
      refine ⟨rfl, ?_⟩
      cases s with
      | nil =>
        rw [callA_leaf hP (fun x u e => by cases e)] at h
        injection h with h
        injection h with h1 h2
        exact .inl ⟨h1.symm, h2.symm, fun x u e => by cases e⟩
      | cons x u =>
        by_cases hx : x = 40
        · subst hx
          rw [callA_open hP] at h
          refine .inr ⟨u, rfl, ?_⟩
          unfold closed at h
          split at h
          · cases h
          · cases h
          · cases h
          · next c' k' f' x' r' h7 =>
            split at h
            · next h8 =>
              injection h with h
              injection h with h1 h2
              subst h1 h2 h8
              exact ⟨rfl, h7⟩
            · cases h
        · rw [callA_leaf hP (fun y v e => by injection e with e1 e2; rw [← e1]; exact hx)] at h
          injection h with h
          injection h with h1 h2
          exact .inl ⟨h1.symm, h2.symm, fun y v e => by injection e with e1 e2; rw [← e1]; exact hx⟩

theorem calls_some_cons {P : UInt8 → Bool} {d : Nat} {c : UInt8} {s : List UInt8} {f : Forest} {r : List UInt8} (hc : c ≠ 41) (h : calls P d (c :: s) = some (f, r)) :
    ∃ k r1 f', callA P d c s = some (k, r1) ∧ calls P d r1 = some (f', r) ∧ f = .cons c k f' := by
  rw [calls_cons P d s hc] at h
  unfold thenBy at h
  split at h
  · cases h
  · next k r1 h2 =>
    split at h
    · cases h
    · next f' r2 h4 =>
      injection h with h
      injection h with h1 h2'
      subst h1 h2'
      exact ⟨k, r1, f', h2, h4, rfl⟩

/-- All letters of calls are names. -/
def Forest.all (P : UInt8 → Bool) : Forest → Prop
  | .nil => True
  | .cons c k r => P c = true ∧ k.all P ∧ r.all P
theorem calls_all {P : UInt8 → Bool} : ∀ (n d : Nat) (s : List UInt8), s.length ≤ n → ∀ f r, calls P d s = some (f, r) → f.all P
  | n, d, [], _, f, r, h => by
    rw [calls_nil] at h
    injection h with h
    injection h with h1 h2
    subst h1
    exact trivial
  | 0, d, c :: s, hn, f, r, h => absurd hn (by simp)
  | n + 1, d, c :: s, hn, f, r, h => by
    by_cases hc : c = 41
    · subst hc
      rw [calls_close] at h
      injection h with h
      injection h with h1 h2
      subst h1
      exact trivial
    · obtain ⟨k, r1, f', h1, h2, rfl⟩ := calls_some_cons hc h
      have hl : r1.length ≤ s.length := callA_less P d c s k r1 h1
      have hn' : s.length ≤ n := by simpa using hn
      obtain ⟨d', rfl, hP, h4⟩ := callA_some h1
      refine ⟨hP, ?_, calls_all n _ r1 (by omega) _ _ h2⟩
      rcases h4 with ⟨rfl, _⟩ | ⟨s', rfl, _, hcs⟩
      · exact trivial
      · exact calls_all n d' s' (by simp at hn'; omega) _ _ hcs
theorem traceB_all {l : List Seg} {t : List UInt8} {f : Forest} (h : traceB l t = some f) : f.all (callP l) := by
  obtain ⟨_, _, h3⟩ := traceB_some h
  exact calls_all _ _ _ (Nat.le_refl _) _ _ h3

end Go.Proofs.Ytcpiojliakgdlaa
/- A row of numbers of the call's own; marks in numbers: what a law writes into what it was given, and whether it is held. -/
namespace Go.Proofs.Ytcpiojliakgdlaa.Si
open Go.RowKit

/-- Numbers in a row of the call's own. -/
def OwnInts (w : World) (B : Nat) (v : Value) (ts : List Int) : Prop := w.ownsRow B 3 1 v ts.length (ts.map (Value.int .i64))
theorem OwnInts.far {w w' : World} {B : Nat} {v : Value} {ts : List Int} (h : OwnInts w B v ts) (hk : ∀ g, v.ownBlock = some g → w'.heap[g]? = w.heap[g]?) : OwnInts w' B v ts := by
  refine ⟨h.1, ?_⟩
  rcases h.2 with h0 | ⟨g', cap, cur, rfl, hg, hh, r⟩
  · exact .inl h0
  · exact .inr ⟨g', cap, cur, rfl, hg, (hk g' rfl).trans hh, r⟩
theorem OwnInts.below {w w' : World} {B : Nat} {v : Value} {ts : List Int} (h : OwnInts w B v ts) (hb : Below w.heap.size w w') : OwnInts w' B v ts := h.far fun g hg => hb.block g (World.ownsRow.lt h g hg).2
theorem OwnInts.empty (w : World) {B : Nat} (hB : B ≤ w.heap.size) : OwnInts (w.alloc (.cells #[] 3)) B (.slice (some ⟨w.heap.size, 0, none⟩) 0 0) [] :=
  World.ownsRow_lit w #[] 0 hB (by simp [maxLen]) rfl
/-- A slice of numbers in memory below 'B'. -/
def Ints (w : World) (B : Nat) (A : Option Addr) (ts : List Int) : Prop :=
  0 < ts.length → ∃ b o, A = some ⟨b, o, none⟩ ∧ b < B ∧ ∀ (k : Nat) (s : Int), ts[k]? = some s → w.cell? ⟨b, o + k, none⟩ = some (.int .i64 s)
theorem Ints.below {w w' : World} {B : Nat} {A : Option Addr} {l : List Int} (h : Ints w B A l) (hb : Below B w w') : Ints w' B A l := fun hl => by
  obtain ⟨b, o, e, hB, hc⟩ := h hl
  refine ⟨b, o, e, hB, fun k s hk => ?_⟩
  rw [hb.cell hB]
  exact hc k s hk
theorem Ints.more {w : World} {B B' : Nat} {A : Option Addr} {l : List Int} (h : Ints w B A l) (hB : B ≤ B') : Ints w B' A l := fun hl => by
  obtain ⟨b, o, e, hb, hc⟩ := h hl
  exact ⟨b, o, e, Nat.lt_of_lt_of_le hb hB, hc⟩
end Go.Proofs.Ytcpiojliakgdlaa.Si

namespace Go.Proofs.Ytcpiojliakgdlaa
open Go.RowKit

end Go.Proofs.Ytcpiojliakgdlaa
/- How often each segment is called: plain, and the reference's. -/
namespace Go.Proofs.Ytcpiojliakgdlaa
open Go.RowKit

def lastB (x : List UInt8) : UInt8 := x.getLastD 0
end Go.Proofs.Ytcpiojliakgdlaa
/- The program's calls: their methods, and what is needed for them, written out. -/
namespace Go.Proofs.Ytcpiojliakgdlaa
open Go.RowKit

theorem meth_name_leaf (c : UInt8) (w : World) : (method 326 205 (.agg #[.string ⟨#[c]⟩]) "loop.example/segmentrooms/impl.name").run Try.prog w = .ok (195, .agg #[.string ⟨#[c]⟩]) w := by kernel_rfl
theorem meth_calls_leaf (c : UInt8) (w : World) : (method 326 205 (.agg #[.string ⟨#[c]⟩]) "loop.example/segmentrooms/impl.calls").run Try.prog w = .ok (194, .agg #[.string ⟨#[c]⟩]) w := by kernel_rfl
theorem meth_name_branch (c : UInt8) (A : Option Addr) (n cap : Nat) (w : World) : (method 326 207 (.agg #[.string ⟨#[c]⟩, .slice A n cap]) "loop.example/segmentrooms/impl.name").run Try.prog w = .ok (195, .agg #[.string ⟨#[c]⟩]) w := by kernel_rfl
theorem meth_calls_branch (c : UInt8) (A : Option Addr) (n cap : Nat) (w : World) : (method 326 207 (.agg #[.string ⟨#[c]⟩, .slice A n cap]) "loop.example/segmentrooms/impl.calls").run Try.prog w = .ok (197, .agg #[.string ⟨#[c]⟩, .slice A n cap]) w := by kernel_rfl

set_option maxRecDepth 100000 in
theorem leafName_any (c : UInt8) (w : World) : Calls Try.prog 195 #[.agg #[.string ⟨#[c]⟩]] w fun e w' => e = .returned (.string ⟨#[c]⟩) ∧ w' = w.alloc (.cells #[.string ⟨#[c]⟩] 205) := by
  go_enter Try.func195, Try.ntmps195
  go_wp2
  go_ret
  exact ⟨rfl, rfl⟩
set_option maxRecDepth 100000 in
theorem leafCalls_any (c : UInt8) (w : World) : Calls Try.prog 194 #[.agg #[.string ⟨#[c]⟩]] w fun e w' => e = .returned (.slice none 0 0) ∧ w' = w.alloc (.cells #[.string ⟨#[c]⟩] 205) := by
  go_enter Try.func194, Try.ntmps194
  go_wp2
  go_ret
  exact ⟨rfl, rfl⟩
set_option maxRecDepth 100000 in
theorem branchCalls_any (c : UInt8) (A : Option Addr) (n cap : Nat) (w : World) : Calls Try.prog 197 #[.agg #[.string ⟨#[c]⟩, .slice A n cap]] w fun e w' => e = .returned (.slice A n cap) ∧ w' = w.alloc (.cells #[.string ⟨#[c]⟩, .slice A n cap] 207) := by
  go_enter Try.func197, Try.ntmps197
  go_wp2
  go_ret
  exact ⟨rfl, rfl⟩

/-- What the methods of a call say, whichever of the two it is. -/
structure CallFacts (T : TypeId) (x : Value) (c : UInt8) (kv : Value) : Prop where
  name : ∀ w : World, (method 326 T x "loop.example/segmentrooms/impl.name").run Try.prog w = .ok (195, .agg #[.string ⟨#[c]⟩]) w
  calls : ∃ K y o, (∀ w : World, (method 326 T x "loop.example/segmentrooms/impl.calls").run Try.prog w = .ok (K, y) w) ∧ (∀ w : World, (callFunc K #[y]).run Try.prog w = .ok (.enter K #[y]) w) ∧ ∀ w : World, Calls Try.prog K #[y] w fun e w' => e = .returned kv ∧ w' = w.alloc o
theorem IsCall.facts {w : World} {S : Nat → Prop} {c : UInt8} {k : Forest} {v : Value} (h : IsCall w S c k v) : ∃ T x kv, v = .iface T x ∧ CallFacts T x c kv ∧ SliceIs w S kv k := by
  rcases h with ⟨h1, rfl⟩ | ⟨h1, q, cap, rfl, hs, hk⟩
  · have h0 : k.len = 0 := by rw [Forest.isNil_len] at h1; exact of_decide_eq_true h1
    exact ⟨_, _, .slice none 0 0, rfl, ⟨meth_name_leaf c, _, _, _, meth_calls_leaf c, fun w => enters_of Try.func194 (by kernel_rfl) rfl _ w, leafCalls_any c⟩, none, 0, by rw [h0], fun h => by omega⟩
  · exact ⟨_, _, .slice (some ⟨q, 0, none⟩) k.len cap, rfl, ⟨meth_name_branch c _ _ _, _, _, _, meth_calls_branch c _ _ _, fun w => enters_of Try.func197 (by kernel_rfl) rfl _ w, branchCalls_any c _ _ _⟩, _, cap, rfl, fun _ => ⟨q, rfl, hs, hk⟩⟩

end Go.Proofs.Ytcpiojliakgdlaa
