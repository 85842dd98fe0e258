/- Joined: Fi Fm Fp Fx. -/
import Derived.Test.YtbmfbnlmdjnddaaU20
import Derived.Test.YtbmfbnlmdjnddaaU10
import Derived.Maps.AppendAt
import Derived.Deep.AppendLies
import Derived.Test.YtbmfbnlmdjnddaaU02
import Derived.Deep.DeepCutAuto
import Derived.BigRegion
import Derived.BigQuiet
/- What a trace tells, plain: needs, chains, texts, calls that are left. -/
namespace Go.Proofs.Ytbmfbnlmdjnddaa
open Go.RowKit

/-- What is needed behind a caller: each call, what is needed within it, and the caller again. -/
def needsB (a : UInt8) : Forest → List UInt8
  | .nil => []
  | .cons c k r => c :: (needsB c k ++ (a :: needsB a r))
theorem needsB_app (a : UInt8) : ∀ f g : Forest, needsB a (f.app g) = needsB a f ++ needsB a g
  | .nil, _ => rfl
  | .cons c k r, g => by
    show c :: (needsB c k ++ (a :: needsB a (r.app g))) = (c :: (needsB c k ++ (a :: needsB a r))) ++ needsB a g
    rw [needsB_app a r g]; simp
theorem needsB_one (a c : UInt8) (k : Forest) : needsB a (.cons c k .nil) = c :: (needsB c k ++ [a]) := rfl
theorem needsB_len (a : UInt8) : ∀ f : Forest, (needsB a f).length = 2 * f.size
  | .nil => rfl
  | .cons c k r => by
    show (c :: (needsB c k ++ (a :: needsB a r))).length = 2 * (k.size + r.size + 1)
    simp [needsB_len c k, needsB_len a r]; omega

/-- Who is active at each call, behind some that are active before. -/
def chainsB (a : List UInt8) : Forest → List (List UInt8)
  | .nil => []
  | .cons c k r => (a ++ [c]) :: (chainsB (a ++ [c]) k ++ chainsB a r)
theorem chainsB_app (a : List UInt8) : ∀ f g : Forest, chainsB a (f.app g) = chainsB a f ++ chainsB a g
  | .nil, _ => rfl
  | .cons c k r, g => by
    show (a ++ [c]) :: (chainsB (a ++ [c]) k ++ chainsB a (r.app g)) = ((a ++ [c]) :: (chainsB (a ++ [c]) k ++ chainsB a r)) ++ chainsB a g
    rw [chainsB_app a r g]; simp
theorem chainsB_one (a : List UInt8) (c : UInt8) (k : Forest) : chainsB a (.cons c k .nil) = (a ++ [c]) :: chainsB (a ++ [c]) k := by
  show (a ++ [c]) :: (chainsB (a ++ [c]) k ++ []) = _
  rw [List.append_nil]
theorem chainsB_len : ∀ (f : Forest) (a : List UInt8), (chainsB a f).length = f.size
  | .nil, _ => rfl
  | .cons c k r, a => by
    show ((a ++ [c]) :: (chainsB (a ++ [c]) k ++ chainsB a r)).length = k.size + r.size + 1
    simp [chainsB_len k, chainsB_len r]
theorem chainsB_pre (p : List UInt8) : ∀ (f : Forest) (a : List UInt8), chainsB (p ++ a) f = (chainsB a f).map (p ++ ·)
  | .nil, _ => rfl
  | .cons c k r, a => by
    show (p ++ a ++ [c]) :: (chainsB (p ++ a ++ [c]) k ++ chainsB (p ++ a) r) = ((a ++ [c]) :: (chainsB (a ++ [c]) k ++ chainsB a r)).map (p ++ ·)
    rw [List.append_assoc, chainsB_pre p k, chainsB_pre p r]; simp
/-- How long a chain may be. -/
theorem chainsB_bound : ∀ (f : Forest) (a : List UInt8), ∀ x ∈ chainsB a f, x.length ≤ a.length + f.deep ∧ a.length < x.length
  | .nil, _, x, h => by cases h
  | .cons c k r, a, x, h => by
    have h' : x ∈ (a ++ [c]) :: (chainsB (a ++ [c]) k ++ chainsB a r) := h
    show x.length ≤ a.length + max (k.deep + 1) r.deep ∧ _
    rcases List.mem_cons.1 h' with rfl | h'
    · simp; omega
    · rcases List.mem_append.1 h' with h' | h'
      · have := chainsB_bound k _ x h'
        simp at this; omega
      · have := chainsB_bound r _ x h'
        omega

/-- The text of calls. -/
def textB : Forest → List UInt8
  | .nil => []
  | .cons c k r => c :: ((if k.isNil = true then [] else 40 :: (textB k ++ [41])) ++ textB r)
def textOne (c : UInt8) (k : Forest) : List UInt8 := c :: (if k.isNil = true then [] else 40 :: (textB k ++ [41]))
theorem textB_cons (c : UInt8) (k r : Forest) : textB (.cons c k r) = textOne c k ++ textB r := rfl
theorem textB_app : ∀ f g : Forest, textB (f.app g) = textB f ++ textB g
  | .nil, _ => rfl
  | .cons c k r, g => by
    show textOne c k ++ textB (r.app g) = (textOne c k ++ textB r) ++ textB g
    rw [textB_app r g, List.append_assoc]
theorem textB_one (c : UInt8) (k : Forest) : textB (.cons c k .nil) = textOne c k := by
  show textOne c k ++ [] = _
  rw [List.append_nil]
theorem textB_len : ∀ f : Forest, (textB f).length ≤ 3 * f.size
  | .nil => Nat.le_refl 0
  | .cons c k r => by
    have h1 := textB_len k
    have h2 := textB_len r
    show (c :: ((if k.isNil = true then [] else 40 :: (textB k ++ [41])) ++ textB r)).length ≤ 3 * (k.size + r.size + 1)
    split <;> simp <;> omega

/-- The calls without those of a segment. -/
def lessB (n : ByteArray) : Forest → Forest
  | .nil => .nil
  | .cons c k r => if (⟨#[c]⟩ : ByteArray) = n then lessB n r else .cons c (lessB n k) (lessB n r)
theorem lessB_app (n : ByteArray) : ∀ f g : Forest, lessB n (f.app g) = (lessB n f).app (lessB n g)
  | .nil, _ => rfl
  | .cons c k r, g => by
    show (if _ then lessB n (r.app g) else .cons c (lessB n k) (lessB n (r.app g))) = Forest.app (if _ then _ else _) _
    rw [lessB_app n r g]
    split <;> rfl
theorem lessB_yes {n : ByteArray} {c : UInt8} (k : Forest) (h : (⟨#[c]⟩ : ByteArray) = n) : lessB n (.cons c k .nil) = .nil := by
  show (if _ then Forest.nil else _) = _
  rw [if_pos h]
theorem lessB_no {n : ByteArray} {c : UInt8} (k : Forest) (h : ¬ (⟨#[c]⟩ : ByteArray) = n) : lessB n (.cons c k .nil) = .cons c (lessB n k) .nil := by
  show (if _ then Forest.nil else _) = _
  rw [if_neg h]; rfl
theorem lessB_size (n : ByteArray) : ∀ f : Forest, (lessB n f).size ≤ f.size
  | .nil => Nat.le_refl 0
  | .cons c k r => by
    have h1 := lessB_size n k
    have h2 := lessB_size n r
    show Forest.size (if _ then _ else _) ≤ k.size + r.size + 1
    split
    · omega
    · show (lessB n k).size + (lessB n r).size + 1 ≤ _; omega
theorem lessB_len (n : ByteArray) : ∀ f : Forest, (lessB n f).len ≤ f.len
  | .nil => Nat.le_refl 0
  | .cons c k r => by
    have h2 := lessB_len n r
    show Forest.len (if _ then _ else _) ≤ r.len + 1
    split
    · omega
    · show (lessB n r).len + 1 ≤ _; omega

/-- How many calls are read out of a text: no more than it has bytes. -/
theorem rd_size (P : UInt8 → Bool) : ∀ (n d : Nat) (s : List UInt8) f r, rd P n d s = some (f, r) → f.size + r.length ≤ s.length ∧ f.deep ≤ d
  | 0, _, _, _, _, e => by cases e
  | n + 1, d, [], f, r, e => by
    injection e with e
    injection e with e1 e2
    subst e1 e2
    exact ⟨Nat.le_refl _, Nat.zero_le _⟩
  | n + 1, d, c :: s, f, r, e => by
    unfold rd at e
    split at e
    · injection e with e
      injection e with e1 e2
      subst e1 e2
      exact ⟨Nat.le_of_eq (Nat.zero_add _), Nat.zero_le _⟩
    · unfold thenBy at e
      split at e
      · cases e
      · next k r1 h2 =>
        split at e
        · cases e
        · next f' r2 h4 =>
          injection e with e
          injection e with e1 e2
          subst e1 e2
          have h5 := rd_size P n d r1 _ _ h4
          have h6 : k.size + r1.length ≤ s.length ∧ k.deep + 1 ≤ d := by
            unfold callBy at h2
            split at h2
            · cases h2
            · next d' =>
              split at h2
              · unfold innerBy at h2
                split at h2
                · injection h2 with h2
                  injection h2 with h2 h3
                  subst h2 h3
                  exact ⟨Nat.le_refl _, by show 0 + 1 ≤ d' + 1; omega⟩
                · next x u =>
                  split at h2
                  · unfold closed at h2
                    split at h2
                    · cases h2
                    · cases h2
                    · cases h2
                    · next c' k' f'' x' r'' h7 =>
                      split at h2
                      · injection h2 with h2
                        injection h2 with h2 h3
                        subst h2 h3
                        have h8 := rd_size P n d' u _ _ h7
                        simp at h8 ⊢
                        omega
                      · cases h2
                  · injection h2 with h2
                    injection h2 with h2 h3
                    subst h2 h3
                    exact ⟨by show 0 + _ ≤ _; omega, by show 0 + 1 ≤ d' + 1; omega⟩
              · cases h2
          refine ⟨?_, ?_⟩
          · show k.size + f'.size + 1 + r2.length ≤ s.length + 1
            omega
          · show max (k.deep + 1) f'.deep ≤ d
            omega
theorem calls_size {P : UInt8 → Bool} {d : Nat} {s : List UInt8} {f : Forest} {r : List UInt8} (h : calls P d s = some (f, r)) : f.size + r.length ≤ s.length ∧ f.deep ≤ d := rd_size P _ d s f r h
theorem whole_some {g : Got} {f : Forest} (h : whole g = some f) : g = some (f, []) := by
  unfold whole at h
  split at h
  · injection h with h; subst h; rfl
  · cases h
theorem traceB_some {l : List Seg} {t : List UInt8} {f : Forest} (h : traceB l t = some f) : validB l = true ∧ t.length ≤ 80 ∧ calls (callP l) 8 t = some (f, []) := by
  rw [traceB_eq] at h
  split at h
  · next h1 =>
    simp only [Bool.and_eq_true, decide_eq_true_eq] at h1
    exact ⟨h1.1, h1.2, whole_some h⟩
  · cases h
theorem traceB_size {l : List Seg} {t : List UInt8} {f : Forest} (h : traceB l t = some f) : f.size ≤ 80 ∧ f.deep ≤ 8 := by
  obtain ⟨_, h2, h3⟩ := traceB_some h
  have := calls_size h3
  simp at this
  omega

def strOf (x : List UInt8) : ByteArray := ⟨x.toArray⟩
theorem bytes_cat (x y : List UInt8) : (⟨x.toArray⟩ : ByteArray) ++ ⟨y.toArray⟩ = ⟨(x ++ y).toArray⟩ := by
  apply ByteArray.ext
  simp [ByteArray.data_append]
theorem bytes_cat3 (x y z : List UInt8) : (⟨x.toArray⟩ : ByteArray) ++ ⟨y.toArray⟩ ++ ⟨z.toArray⟩ = ⟨(x ++ y ++ z).toArray⟩ := by
  apply ByteArray.ext
  simp [ByteArray.data_append]
theorem bytes_size (x : List UInt8) : (⟨x.toArray⟩ : ByteArray).size = x.length := by simp [ByteArray.size]
theorem Forest.app_size : ∀ f g : Forest, (f.app g).size = f.size + g.size
  | .nil, g => by show g.size = 0 + g.size; omega
  | .cons c k r, g => by show k.size + (r.app g).size + 1 = k.size + r.size + 1 + g.size; rw [Forest.app_size r]; omega

theorem Forest.deep_app : ∀ (pre : Forest) (c : UInt8) (k r : Forest), k.deep + 1 ≤ (pre.app (.cons c k r)).deep
  | .nil, _, k, r => by show k.deep + 1 ≤ max (k.deep + 1) r.deep; omega
  | .cons _ k' p, c, k, r => by
    have := Forest.deep_app p c k r
    show _ ≤ max (k'.deep + 1) (p.app (.cons c k r)).deep
    omega
/-- The root's letter. -/
def rootB (l : List Seg) : UInt8 := match l with
  | s :: _ => s.name.data.toList.headD 0
  | [] => 0
theorem root_name {l : List Seg} (hv : validB l = true) : ∃ s, l[0]? = some s ∧ s.name = ⟨#[rootB l]⟩ := by
  have h1 : 1 ≤ l.length := by
    unfold validB at hv
    simp only [Bool.and_eq_true, decide_eq_true_eq] at hv
    exact hv.1.1
  cases l with
  | nil => simp at h1
  | cons s r =>
    obtain ⟨d, hd, _, _⟩ := nameOk_one (validB_names hv (s := s) (by simp))
    refine ⟨s, rfl, ?_⟩
    show s.name = ⟨#[s.name.data.toList.headD 0]⟩
    rw [hd]; rfl
/-- The root's name in memory. -/
theorem Segs.root {w : World} {B : Nat} {A : Option Addr} {l : List Seg} (h : Segs w B A l) (hv : validB l = true) : ∃ b o, A = some ⟨b, o, none⟩ ∧ b < B ∧ w.cell? ⟨b, o, none⟩ = some (.string ⟨#[rootB l]⟩) := by
  obtain ⟨s, hs, hn⟩ := root_name hv
  obtain ⟨b, o, e, hB, hc⟩ := h (List.getElem?_eq_some_iff.1 hs).1
  have := (hc 0 s hs).1
  rw [hn] at this
  simp only [Nat.zero_mul, Nat.add_zero] at this
  exact ⟨b, o, e, hB, this⟩

/-- What a trace needs. -/
def needsRes (l : List Seg) (t : ByteArray) : ByteArray := match traceB l t.data.toList with
  | none => ⟨#[]⟩
  | some f => ⟨(rootB l :: needsB (rootB l) f).toArray⟩

end Go.Proofs.Ytbmfbnlmdjnddaa
/- The reference's needs and texts of calls. -/
namespace Go.Proofs.Ytbmfbnlmdjnddaa
open Go.RowKit

/-- What of the reference's calls is left behind those that were taken. -/
theorem IsKids.nil_or {w : World} {S : Nat → Prop} {f : Forest} {v : Value} (h : IsKids w S f v) : ∃ A cap, v = .slice A f.len cap ∧ (f.isNil = false → ∃ g, A = some ⟨g, 0, none⟩ ∧ S g ∧ SCells w S f g 0) := h
theorem SCells.kids {w : World} {S : Nat → Prop} {c : UInt8} {k r : Forest} {g o : Nat} (h : SCells w S (.cons c k r) g o) : w.cell? ⟨g, o, none⟩ = some (.string ⟨#[c]⟩) ∧ (∃ v, w.cell? ⟨g, o + 1, none⟩ = some v ∧ IsKids w S k v) ∧ SCells w S r g (o + 2) := by
  obtain ⟨h1, ⟨A, cap, h2, h3⟩, h4⟩ := h
  exact ⟨h1, ⟨_, h2, A, cap, rfl, h3⟩, h4⟩
theorem SCells.below {w w' : World} {f : Forest} {g o B : Nat} (h : SCells w (· < B) f g o) (hb : Below B w w') (hg : g < B) : SCells w' (· < B) f g o :=
  SCells.keep (fun q hq => ⟨hq, hb.block q hq⟩) f g o (hb.block g hg) h
theorem IsKids.below {w w' : World} {f : Forest} {v : Value} {B : Nat} (h : IsKids w (· < B) f v) (hb : Below B w w') : IsKids w' (· < B) f v :=
  h.keep fun q hq => ⟨hq, hb.block q hq⟩
theorem IsKids.up {w : World} {f : Forest} {v : Value} {B B' : Nat} (h : IsKids w (· < B) f v) (hB : B ≤ B') : IsKids w (· < B') f v :=
  h.keep fun _ hq => ⟨Nat.lt_of_lt_of_le hq hB, rfl⟩

/-- What the range over calls has before it. -/
def LeftS (w : World) (B : Nat) (f : Forest) (A : Option Addr) (pre rest : Forest) : Prop := f = pre.app rest ∧ (rest.isNil = false → ∃ g, A = some ⟨g, 0, none⟩ ∧ g < B ∧ SCells w (· < B) rest g (pre.len * 2))
theorem LeftS.start {w : World} {B : Nat} {f : Forest} {A : Option Addr} (h : f.isNil = false → ∃ g, A = some ⟨g, 0, none⟩ ∧ g < B ∧ SCells w (· < B) f g 0) : LeftS w B f A .nil f := ⟨rfl, h⟩
theorem LeftS.below {w w' : World} {B : Nat} {f pre rest : Forest} {A : Option Addr} (h : LeftS w B f A pre rest) (hb : Below B w w') : LeftS w' B f A pre rest := by
  refine ⟨h.1, fun hr => ?_⟩
  obtain ⟨g, e, h1, h2⟩ := h.2 hr
  exact ⟨g, e, h1, h2.below hb h1⟩
/-- One call is taken. -/
theorem LeftS.take {w : World} {B : Nat} {f pre k r : Forest} {c : UInt8} {A : Option Addr} (h : LeftS w B f A pre (.cons c k r)) :
    LeftS w B f A (pre.app (.cons c k .nil)) r ∧ pre.len < f.len ∧ k.size < f.size ∧ ∃ g v, A = some ⟨g, 0, none⟩ ∧ g < B ∧ w.cell? ⟨g, pre.len * 2, none⟩ = some (.string ⟨#[c]⟩) ∧ w.cell? ⟨g, pre.len * 2 + 1, none⟩ = some v ∧ IsKids w (· < B) k v := by
  obtain ⟨h1, h2⟩ := h
  obtain ⟨g, e, h3, h4⟩ := h2 rfl
  obtain ⟨c0, ⟨v, c1, hv⟩, hr⟩ := h4.kids
  have hl : (pre.app (.cons c k .nil)).len = pre.len + 1 := by rw [Forest.app_len]; rfl
  refine ⟨⟨?_, fun _ => ⟨g, e, h3, ?_⟩⟩, ?_, ?_, g, v, e, h3, c0, c1, hv⟩
  · rw [Forest.app_assoc]; exact h1
  · rw [hl, show (pre.len + 1) * 2 = pre.len * 2 + 2 by omega]; exact hr
  · rw [h1, Forest.app_len]; show pre.len < pre.len + (r.len + 1); omega
  · rw [h1, Forest.app_size]; show k.size < pre.size + (k.size + r.size + 1); omega
theorem LeftS.done {w : World} {B : Nat} {f pre : Forest} {A : Option Addr} (h : LeftS w B f A pre .nil) : f = pre := by rw [h.1, Forest.app_nil]

end Go.Proofs.Ytbmfbnlmdjnddaa
/- The reference's chains, texts and calls that are left. -/
namespace Go.Proofs.Ytbmfbnlmdjnddaa
open Go.RowKit

/-- A row of texts that is no nil. -/
def SolidTexts (w : World) (B : Nat) (v : Value) (ts : List ByteArray) : Prop := OwnTexts w B v ts ∧ v ≠ .slice none 0 0
theorem SolidTexts.form {w : World} {B : Nat} {v : Value} {ts : List ByteArray} (h : SolidTexts w B v ts) : ∃ g cap, v = .slice (some ⟨g, 0, none⟩) ts.length cap := by
  rcases h.1.2 with ⟨h0, _⟩ | ⟨g, cap, cur, e, _⟩
  · exact absurd h0 h.2
  · exact ⟨g, cap, e⟩
def ChainsPost (w : World) (L : List ByteArray) (e : Ending) (w' : World) : Prop := ∃ v, e = .returned v ∧ SolidTexts w' w.heap.size v L ∧ Below w.heap.size w w'

end Go.Proofs.Ytbmfbnlmdjnddaa
/- A region that reads before it stores: its reading steps, one by one. -/
namespace Go.Proofs.Ytbmfbnlmdjnddaa
open Go.RowKit

section
variable {P : Program} {ops : Array Oper} {w : World} {Q : Act → Prop}
/-- An operation of a region that only reads yields 'v'. -/
theorem still_put {d : Nat} {v : Value} {tmps tmps' : Array Value} {o : Oper} {rest : List Oper} (hd : o.dst = some d) (hw : Region.wanted o (yielded ops tmps) = true) (hs : tmps.setIfInBounds d v = tmps')
    (hy : (execOp (Act.eval ⟨tmps, []⟩) o).run P w = .ok (.value v) w) (h : wpStill P ops w Q rest ⟨tmps', []⟩) : wpStill P ops w Q (o :: rest) ⟨tmps, []⟩ := by
  subst hs
  unfold wpStill
  rw [if_pos hw]
  unfold Oper.still
  rw [hy, Oper.stillUpon_value, hd]
  exact h
/-- An operation that its guard passes over. -/
theorem still_skip {d : Nat} {tmps tmps' : Array Value} {o : Oper} {rest : List Oper} (hd : o.dst = some d) (hw : Region.wanted o (yielded ops tmps) = false) (hs : tmps.setIfInBounds d undef = tmps')
    (h : wpStill P ops w Q rest ⟨tmps', []⟩) : wpStill P ops w Q (o :: rest) ⟨tmps, []⟩ := by
  subst hs
  unfold wpStill
  rw [if_neg (by rw [hw]; decide), hd]
  exact h
end

section
variable {ρ : Operand → Value} {o : Oper} {x y : Operand} {w : World}
theorem hy_loadB {a : Addr} {v : Value} (ho : o.op = .load 4 x) (hx : ρ x = .pointer (some a)) (hc : w.cell? a = some v) : (execOp ρ o).run Try.prog w = .ok (.value v) w := by
  unfold execOp
  rw [ho]
  simp [hx, go_sem, hc]
theorem hy_loadI {a : Addr} {v : Value} (ho : o.op = .load 3 x) (hx : ρ x = .pointer (some a)) (hc : w.cell? a = some v) : (execOp ρ o).run Try.prog w = .ok (.value v) w := by
  unfold execOp
  rw [ho]
  simp [hx, go_sem, hc]
theorem hy_loadT {a : Addr} {v : Value} (ho : o.op = .load 9 x) (hx : ρ x = .pointer (some a)) (hc : w.cell? a = some v) : (execOp ρ o).run Try.prog w = .ok (.value v) w := by
  unfold execOp
  rw [ho]
  simp [hx, go_sem, hc]
theorem hy_lenT {s : ByteArray} (ho : o.op = .call { callee := .builtin .len, args := #[x], argTypes := #[9] }) (hx : ρ x = .string s) : (execOp ρ o).run Try.prog w = .ok (.value (.int .i64 s.size)) w := by
  unfold execOp
  rw [ho]
  simp [resolve, invoke, builtin, hx, go_sem, run_len_string w 9 o.type s (P := Try.prog) (by kernel_rfl)]
theorem hy_eql {t u : TypeId} {A B : Int} {q : Bool} (ho : o.op = .binOp .eql t x y u) (hx : ρ x = .int .i64 A) (hy : ρ y = .int .i64 B) (hq : (A == B) = q) : (execOp ρ o).run Try.prog w = .ok (.value (.bool q)) w := by
  unfold execOp
  rw [ho]
  subst hq
  simp [hx, hy, go_sem]
theorem hy_geq {t u : TypeId} {A B : Int} {q : Bool} (ho : o.op = .binOp .geq t x y u) (hx : ρ x = .int .i64 A) (hy : ρ y = .int .i64 B) (hq : decide (B ≤ A) = q) : (execOp ρ o).run Try.prog w = .ok (.value (.bool q)) w := by
  unfold execOp
  rw [ho]
  subst hq
  simp [hx, hy, go_sem]
end

/-- The operations of a region of a function's text. -/
def regionOps (i : Nat) : Code → Option (Array Oper)
  | .region j ops _ => if j = i then some ops else none
  | .seq a b => (regionOps i a).or (regionOps i b)
  | .cond _ a b => (regionOps i a).or (regionOps i b)
  | .block _ b => regionOps i b
  | .loop b => regionOps i b
  | .scope b => regionOps i b
  | .rangeFunc _ _ a b => (regionOps i a).or (regionOps i b)
  | _ => none
theorem lexHead_step {md : Region.Mode} {ops : Array Oper} {g f k : Nat} {listed listed' : Array Bool} (h1 : (Region.ready md ops listed).contains k = true) (h2 : Region.free md ops listed k = true) (h3 : listed.setIfInBounds k true = listed')
    (h : Region.lexHead md ops g f (k + 1) listed' = true) : Region.lexHead md ops g (f + 1) k listed = true := by
  subst h3
  unfold Region.lexHead
  rw [h1, h2, h]
  rfl
theorem lexHead_eq {md : Region.Mode} {ops : Array Oper} {g f k : Nat} {listed listed' : Array Bool} (h : listed = listed') (H : Region.lexHead md ops g f k listed' = true) : Region.lexHead md ops g f k listed = true := h ▸ H
end Go.Proofs.Ytbmfbnlmdjnddaa
