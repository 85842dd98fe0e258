/- Joined: Rq Rw Rs Fb Fc. -/
import Derived.Test.YtcpiojliakgdlaaU11
import Derived.Test.YtcpiojliakgdlaaU04
import Derived.BigQuiet
import Derived.Laws.IdiomStrings
import Derived.Maps.AppendAt
import Derived.Deep.AppendLies
import Derived.Defers
import Derived.Recover
import Derived.Test.YtcpiojliakgdlaaU10
import Derived.Test.YtcpiojliakgdlaaSh
/- The program's way and the reference's to read a tree give the same tree: plain. -/
namespace Go.Proofs.Ytcpiojliakgdlaa

/-- A mark stays; a tree only grows. -/
def Grows (s t : SSt) : Prop := s.tree <+: t.tree ∧ (s.bad = true → t.bad = true)
theorem Grows.refl (s : SSt) : Grows s s := ⟨List.prefix_rfl, id⟩
theorem Grows.trans {s t u : SSt} (h : Grows s t) (k : Grows t u) : Grows s u := ⟨h.1.trans k.1, fun x => k.2 (h.2 x)⟩
end Go.Proofs.Ytcpiojliakgdlaa

/- The two ways to read a tree meet: plain. -/
namespace Go.Proofs.Ytcpiojliakgdlaa

/-- The reference will not take it. -/
def Lost (s : SSt) : Prop := s.bad = true ∨ ¬ Fine s.tree
theorem Lost.grows {s t : SSt} (h : Lost s) (g : Grows s t) : Lost t := h.elim (fun x => .inl (g.2 x)) (fun x => .inr fun y => x (y.pre g.1))
/-- One place of the recursion: what both say. -/
def Both (i : Option Read) (s : SSt) (r : List UInt8) (tr : List Seg) : Prop :=
  (∀ r' t', i = some (r', t') → s = ⟨r', false, t'⟩ ∧ Fine t' ∧ tr <+: t' ∧ r'.length ≤ r.length) ∧ (i = none → Lost s)
theorem Both.lost {s : SSt} {r : List UInt8} {tr : List Seg} (h : Lost s) : Both none s r tr := ⟨fun _ _ e => (by cases e), fun _ => h⟩
end Go.Proofs.Ytcpiojliakgdlaa

/- A tree that was read has its parents in place; the two readings' answers. Plain. -/
namespace Go.Proofs.Ytcpiojliakgdlaa

theorem parAt_pre {l m : List Seg} (h : l <+: m) {i : Nat} (hi : i < l.length) : parAt m i = parAt l i := by
  obtain ⟨r, rfl⟩ := h
  unfold parAt
  rw [List.getElem?_append_left hi]
theorem Down.pre {l m : List Seg} {k : Nat} (h : Down l k) (hp : l <+: m) (hk : k ≤ l.length) : Down m k := fun j hj => by
  rw [parAt_pre hp (by omega)]
  exact h j hj
end Go.Proofs.Ytcpiojliakgdlaa
/- The two readers' smallest steps: sees and skip. -/
namespace Go.Proofs.Ytcpiojliakgdlaa
open Go.RowKit

theorem Only.refl (w : World) (may : Nat → Prop) : Only w w may := ⟨rfl, rfl, rfl, Nat.le_refl _, fun _ _ _ => rfl⟩
theorem Only.trans {w w1 w2 : World} {may : Nat → Prop} (h : Only w w1 may) (h' : Only w1 w2 may) : Only w w2 may :=
  ⟨h'.os.trans h.os, h'.tape.trans h.tape, h'.output.trans h.output, Nat.le_trans h.size h'.size, fun k hk hm => (h'.block k (Nat.lt_of_lt_of_le hk h.size) hm).trans (h.block k hk hm)⟩
theorem Only.drew' {w w' : World} {may : Nat → Prop} (h : Only w w' may) : Only w w'.drew may := ⟨h.os, h.tape, h.output, h.size, h.block⟩
theorem Only.drewN' {w w' : World} {may : Nat → Prop} (h : Only w w' may) (n : Nat) : Only w (w'.drewN n) may := ⟨h.os, h.tape, h.output, h.size, h.block⟩
theorem Only.set {w w' : World} {b : Nat} (h : Only w w' (· = b)) (i : Nat) (u : Value) : Only w (w'.setCell ⟨b, i, none⟩ u) (· = b) := by
  have hb : Below 0 w' (w'.setCell ⟨b, i, none⟩ u) := (Below.refl 0 w').setCell (Nat.zero_le _) u
  exact ⟨hb.os.trans h.os, hb.tape.trans h.tape, hb.output.trans h.output, by have := h.size; have := hb.size; omega, fun k hk hm => (Below.heap_setCell w' ⟨b, i, none⟩ u k hm).trans (h.block k hk hm)⟩

/-- Is this byte next? -/
def nextB (t : ByteArray) (k : Nat) (c : UInt8) : Bool := (t.data.toList.drop k).head? == some c
theorem nextB_at {t : ByteArray} {k : Nat} (c : UInt8) (h : k < t.size) : nextB t k c = decide (t[k] = c) := by
  unfold nextB
  rw [List.drop_eq_getElem_cons (by simpa using h), List.head?_cons]
  by_cases e : t[k] = c
  · rw [decide_eq_true e, ← e]
    exact beq_self_eq_true _
  · rw [decide_eq_false e]
    exact beq_eq_false_iff_ne.2 (fun h => e (by injection h))
theorem nextB_end {t : ByteArray} {k : Nat} (c : UInt8) (h : t.size ≤ k) : nextB t k c = false := by
  unfold nextB
  rw [List.drop_of_length_le (by simpa using h)]
  rfl

end Go.Proofs.Ytcpiojliakgdlaa

/- The program's reader: skip, expectEnd. -/
namespace Go.Proofs.Ytcpiojliakgdlaa
open Go.RowKit

/-- The program's reader has given up. -/
def Died (e : Ending) : Prop := ∃ m : ByteArray, e = .panicked [{ v := .iface 9 (.string m), recovered := false }]

end Go.Proofs.Ytcpiojliakgdlaa

/- The program's reader: readSize. -/
namespace Go.Proofs.Ytcpiojliakgdlaa
open Go.RowKit

end Go.Proofs.Ytcpiojliakgdlaa

/- The program's reader: readName. -/
namespace Go.Proofs.Ytcpiojliakgdlaa
open Go.RowKit

theorem Only.andBelow {w w1 w2 : World} {may : Nat → Prop} (h : Only w w1 may) (hb : Below w1.heap.size w1 w2) : Only w w2 may :=
  ⟨hb.os.trans h.os, hb.tape.trans h.tape, hb.output.trans h.output, Nat.le_trans h.size hb.size, fun k hk hm => (hb.block k (Nat.lt_of_lt_of_le hk h.size)).trans (h.block k hk hm)⟩

end Go.Proofs.Ytcpiojliakgdlaa

/- The reference's number of a text of at most three digits. -/
namespace Go.Proofs.Ytcpiojliakgdlaa
open Go.RowKit

end Go.Proofs.Ytcpiojliakgdlaa
/- The program's reader: readSegment. -/
namespace Go.Proofs.Ytcpiojliakgdlaa
open Go.RowKit

/-- The cells of a tree. -/
def segCells (l : List Seg) : List Value := l.flatMap fun s => [.string s.name, .int .i64 s.size, .int .i64 s.par]
theorem segCells_len (l : List Seg) : (segCells l).length = l.length * 3 := by
  induction l with
  | nil => rfl
  | cons s l ih => simp only [segCells, List.flatMap_cons, List.length_append, List.length_cons, List.length_nil] at ih ⊢; omega
theorem segCells_at {l : List Seg} {k : Nat} {s : Seg} (h : l[k]? = some s) : (segCells l)[k * 3]? = some (.string s.name) ∧ (segCells l)[k * 3 + 1]? = some (.int .i64 s.size) ∧ (segCells l)[k * 3 + 2]? = some (.int .i64 s.par) := by
  induction l generalizing k with
  | nil => simp at h
  | cons x l ih =>
    cases k with
    | zero =>
      simp at h
      subst h
      exact ⟨rfl, rfl, rfl⟩
    | succ k =>
      rw [List.getElem?_cons_succ] at h
      have e : ∀ i, (segCells (x :: l))[i + 3]? = (segCells l)[i]? := fun i => by
        show ([Value.string x.name, .int .i64 x.size, .int .i64 x.par] ++ segCells l)[i + 3]? = _
        rw [List.getElem?_append_right (by simp)]
        simp
      obtain ⟨a, b, c⟩ := ih h
      rw [show (k + 1) * 3 = k * 3 + 3 by omega, show k * 3 + 3 + 1 = k * 3 + 1 + 3 by omega, show k * 3 + 3 + 2 = k * 3 + 2 + 3 by omega, e, e, e]
      exact ⟨a, b, c⟩

/-- A tree of the reader's own: the slice's value, and its cells. -/
def OwnTree (w : World) (B : Nat) (v : Value) (tr : List Seg) : Prop := w.ownsRow B 99 3 v tr.length (segCells tr)
theorem OwnTree.form {w : World} {B : Nat} {v : Value} {tr : List Seg} (h : OwnTree w B v tr) : ∃ A cap, v = .slice A tr.length cap ∧ Segs w w.heap.size A tr := by
  rcases h.2 with ⟨rfl, h0⟩ | ⟨g, cap, cur, rfl, hg, hh, r⟩
  · exact ⟨none, 0, by rw [h0], fun h => absurd h (by omega)⟩
  · refine ⟨_, cap, rfl, fun _ => ⟨g, 0, rfl, (Array.getElem?_eq_some_iff.1 hh).1, fun k s hk => ?_⟩⟩
    obtain ⟨a, b, c⟩ := segCells_at hk
    have hk' := (List.getElem?_eq_some_iff.1 hk).1
    have hz := segCells_len tr
    have ha : ∀ i, i < tr.length * 3 → w.cell? ⟨g, i, none⟩ = (segCells tr)[i]? := fun i hi => World.ownsRow.cellAt h i (by omega)
    simp only [Nat.zero_add]
    rw [ha _ (by omega), ha _ (by omega), ha _ (by omega)]
    exact ⟨a, b, c⟩

theorem OwnTree.far {w w' : World} {B : Nat} {v : Value} {tr : List Seg} (h : OwnTree w B v tr) (hk : ∀ g, v.ownBlock = some g → w'.heap[g]? = w.heap[g]?) : OwnTree w' B v tr := by
  refine ⟨h.1, ?_⟩
  rcases h.2 with h0 | ⟨g', cap, cur, rfl, hg, hh, r⟩
  · exact .inl h0
  · exact .inr ⟨g', cap, cur, rfl, hg, (hk g' rfl).trans hh, r⟩
/-- The reader's block is not the tree's. -/
theorem OwnTree.ne {w : World} {B : Nat} {v : Value} {tr : List Seg} (h : OwnTree w B v tr) {b : Nat} {t : TypeId} {cs : Array Value} (hr : Row w b t cs) (hne : 99 ≠ t) : ∀ g, v.ownBlock = some g → g ≠ b := by
  rintro g hg rfl
  rcases h.2 with ⟨rfl, _⟩ | ⟨g', cap, cur, rfl, _, hh, _⟩
  · simp [Value.ownBlock] at hg
  · have : g' = g := by simpa [Value.ownBlock] using hg
    subst this
    unfold Row at hr
    rw [hh] at hr
    injection hr with hr
    injection hr with _ ht
    exact hne ht
theorem OwnTree.only {w w' : World} {B b : Nat} {v : Value} {tr : List Seg} {t : TypeId} {cs : Array Value} (h : OwnTree w B v tr) (hr : Row w b t cs) (hne : 99 ≠ t) (ho : Only w w' (· = b)) : OwnTree w' B v tr :=
  h.far fun g hg => ho.block g (by
    rcases h.2 with ⟨rfl, _⟩ | ⟨g', cap, cur, rfl, _, hh, _⟩
    · simp [Value.ownBlock] at hg
    · have : g' = g := by simpa [Value.ownBlock] using hg
      subst this
      exact (Array.getElem?_eq_some_iff.1 hh).1) (h.ne hr hne g hg)

theorem nextB_head {t : ByteArray} {k : Nat} {c : UInt8} (hk : k ≤ t.size) (h : nextB t k c = true) : t.data.toList.drop k = c :: t.data.toList.drop (k + 1) ∧ k < t.size := by
  by_cases hlt : k < t.size
  · refine ⟨?_, hlt⟩
    rw [nextB_at c hlt, decide_eq_true_iff] at h
    rw [List.drop_eq_getElem_cons (by simpa using hlt), ← h]
    rfl
  · rw [nextB_end c (by omega)] at h
    cases h
theorem nextB_other {t : ByteArray} {k : Nat} {c : UInt8} (h : nextB t k c = false) : ∀ d r, t.data.toList.drop k = d :: r → d ≠ c := fun d r hd he => by
  unfold nextB at h
  rw [hd, List.head?_cons, he] at h
  simp at h

end Go.Proofs.Ytcpiojliakgdlaa

/- The program's ParseTree: it recovers. -/
namespace Go.Proofs.Ytcpiojliakgdlaa
open Go.RowKit

end Go.Proofs.Ytcpiojliakgdlaa

/- The program's ParseTree by its contract. -/
namespace Go.Proofs.Ytcpiojliakgdlaa
open Go.RowKit

theorem OwnTree.base {w : World} {B B' : Nat} {v : Value} {tr : List Seg} (h : OwnTree w B v tr) (hB : B' ≤ B) : OwnTree w B' v tr := by
  refine ⟨h.1, ?_⟩
  rcases h.2 with h0 | ⟨g', cap, cur, rfl, hg, hh, r⟩
  · exact .inl h0
  · exact .inr ⟨g', cap, cur, rfl, Nat.le_trans hB hg, hh, r⟩

end Go.Proofs.Ytcpiojliakgdlaa
/- The program's reader of traces: skip, readName, newCall. -/
namespace Go.Proofs.Ytcpiojliakgdlaa
open Go.RowKit

/-- Is this byte the next one? -/
def headIs (s : List UInt8) (c : UInt8) : Bool := match s with
  | [] => false
  | x :: _ => decide (x = c)
/-- What is left behind it. -/
def tailIf (s : List UInt8) (c : UInt8) : List UInt8 := if headIs s c = true then s.drop 1 else s
theorem headIs_yes {s : List UInt8} {c : UInt8} (h : headIs s c = true) : ∃ r, s = c :: r ∧ tailIf s c = r := by
  cases s with
  | nil => cases h
  | cons x r =>
    have hx : x = c := of_decide_eq_true h
    refine ⟨r, by rw [hx], ?_⟩
    unfold tailIf
    rw [if_pos h]; rfl
theorem headIs_no {s : List UInt8} {c : UInt8} (h : headIs s c = false) : (∀ x u, s = x :: u → x ≠ c) ∧ tailIf s c = s := by
  refine ⟨fun x u e hx => ?_, ?_⟩
  · subst e
    exact absurd hx (of_decide_eq_false h)
  · unfold tailIf
    rw [if_neg (by rw [h]; decide)]
theorem hasPrefix_one (s : List UInt8) (c : UInt8) : Lib.hasPrefix s [c] = headIs s c := by
  unfold Lib.hasPrefix headIs
  cases s with
  | nil => rfl
  | cons x r =>
    rw [List.isPrefixOf_cons_cons]
    dsimp only
    by_cases h : x = c
    · subst h; simp
    · rw [decide_eq_false h, show (c == x) = false from beq_eq_false_iff_ne.2 (fun e => h e.symm)]; rfl
theorem trimPrefix_one (s : List UInt8) (c : UInt8) : Lib.trimPrefix s [c] = tailIf s c := by
  unfold Lib.trimPrefix tailIf
  rw [hasPrefix_one]
  rfl

set_option maxRecDepth 100000 in
set_option maxHeartbeats 400000 in
theorem traceSkip_raw (b : Nat) (nv : Value) (s p : ByteArray) (w : World) (hr : Row w b 190 #[nv, .string s]) :
    Calls Try.prog 169 #[.pointer (some ⟨b, 0, none⟩), .string p] w fun e w' => e = .returned (.bool (Lib.hasPrefix s.data.toList p.data.toList)) ∧ w' = w.setCell ⟨b, 1, none⟩ (.string ⟨(Lib.trimPrefix s.data.toList p.data.toList).toArray⟩) := by
  have c1 : w.cell? ⟨b, 1, none⟩ = some (.string s) := hr.cell 1
  have z1 : w.frozen? ⟨b, 1, none⟩ = false := hr.free 1
  clear hr
  go_enter Try.func169, Try.ntmps169
  go_wp2_with fail
  refine (Try.strings_CutPrefix s p _).mono ?_
  rintro e w' ⟨rfl, hw⟩
  rw [hw]
  go_wp2
  go_ret
  exact ⟨rfl, rfl⟩

/-- One byte is passed over if it stands next. -/
theorem traceSkip_any (b : Nat) (nv : Value) (s : List UInt8) (c : UInt8) (w : World) (hr : Row w b 190 #[nv, .string ⟨s.toArray⟩]) :
    Calls Try.prog 169 #[.pointer (some ⟨b, 0, none⟩), .string ⟨#[c]⟩] w fun e w' => e = .returned (.bool (headIs s c)) ∧ Row w' b 190 #[nv, .string ⟨(tailIf s c).toArray⟩] ∧ Only w w' (· = b) := by
  refine (traceSkip_raw b nv ⟨s.toArray⟩ ⟨#[c]⟩ w hr).mono ?_
  rintro e w' ⟨rfl, rfl⟩
  have h1 : Lib.hasPrefix (⟨s.toArray⟩ : ByteArray).data.toList (⟨#[c]⟩ : ByteArray).data.toList = headIs s c := hasPrefix_one s c
  have h2 : Lib.trimPrefix (⟨s.toArray⟩ : ByteArray).data.toList (⟨#[c]⟩ : ByteArray).data.toList = tailIf s c := trimPrefix_one s c
  rw [h1, h2]
  exact ⟨rfl, hr.put 1 _, (Only.refl w _).set 1 _⟩

/-- The nodes' names lie below block 'b'. -/
def Known (w : World) (b g : Nat) (l : List Seg) (nb : Nat → Nat) : Prop :=
  g < b ∧ ∀ i x, l[i]? = some x → nb i < b ∧ w.cell? ⟨g, i, none⟩ = some (.pointer (some ⟨nb i, 0, none⟩)) ∧ w.cell? ⟨nb i, 0, none⟩ = some (.string x.name)
theorem Known.below {w w' : World} {b g : Nat} {l : List Seg} {nb : Nat → Nat} (h : Known w b g l nb) (hb : Below b w w') : Known w' b g l nb :=
  ⟨h.1, fun i x hx => by
    obtain ⟨h1, h2, h3⟩ := h.2 i x hx
    exact ⟨h1, (hb.cell (p := ⟨g, i, none⟩) h.1).trans h2, (hb.cell (p := ⟨nb i, 0, none⟩) h1).trans h3⟩⟩
theorem Only.belowRow {w w' : World} {b : Nat} (ho : Only w w' (· = b)) (hb : b ≤ w.heap.size) : Below b w w' :=
  Only.below (Below.refl b w) ho hb (fun k h1 h2 => by omega)

theorem taken_take_succ {l : List Seg} {c d : UInt8} {k : Nat} (hk : k < l.length) (hd : l[k].name = ⟨#[d]⟩) (hcd : c ≠ d) (h : takenB (l.take k) ⟨#[c]⟩ = false) : takenB (l.take (k + 1)) ⟨#[c]⟩ = false := by
  rw [takenB_take_succ hk, h, hd]
  rw [Bool.false_or, Bool.eq_false_iff]
  intro he
  have := sameB_iff.1 he
  injection this with this
  have h3 : [d] = [c] := congrArg Array.toList this
  injection h3 with h3
  exact hcd h3.symm
theorem callP_at {l : List Seg} (hv : validB l = true) {c : UInt8} {k : Nat} (hk : k < l.length) (hd : l[k].name = ⟨#[c]⟩) : callP l c = true := by
  rw [callP_taken hv]
  exact List.any_eq_true.2 ⟨l[k], List.getElem_mem hk, sameB_iff.2 hd⟩

/-- What readName has done. -/
def TraceName (w : World) (b : Nat) (l : List Seg) (nv : Value) (s : List UInt8) (e : Ending) (w' : World) : Prop :=
  ((∃ c r, s = c :: r ∧ callP l c = true ∧ e = .returned (.string ⟨#[c]⟩) ∧ Row w' b 190 #[nv, .string ⟨r.toArray⟩]) ∨ ((∀ c r, s = c :: r → callP l c = false) ∧ Died e)) ∧ Only w w' (· = b)

set_option maxRecDepth 100000 in
set_option maxHeartbeats 1000000 in
theorem traceName_any (b g : Nat) (l : List Seg) (nb : Nat → Nat) (s : List UInt8) (w : World) (hk : Known w b g l nb) (hv : validB l = true) (hr : Row w b 190 #[.slice (some ⟨g, 0, none⟩) l.length l.length, .string ⟨s.toArray⟩]) :
    Calls Try.prog 168 #[.pointer (some ⟨b, 0, none⟩)] w (TraceName w b l (.slice (some ⟨g, 0, none⟩) l.length l.length) s) := by
  have hl8 := (valid_all hv).2.1
  have HV := Lib.hid hv
  have HK : Hid (Known w b g l nb) := hk
  have c0 : w.cell? ⟨b, 0, none⟩ = some (.slice (some ⟨g, 0, none⟩) l.length l.length) := hr.cell 0
  have HR := Lib.hid hr
  have hbw := hr.lt
  clear hv hk hr
  go_enter Try.func168, Try.ntmps168
  go_wp2
  go_loopw [10] (fun i wr => ∃ k : Nat, k ≤ l.length ∧ i = .int .i64 k ∧ Row wr b 190 #[.slice (some ⟨g, 0, none⟩) l.length l.length, .string ⟨s.toArray⟩] ∧ Only w wr (· = b) ∧ Hid (∀ c r, s = c :: r → takenB (l.take k) ⟨#[c]⟩ = false))
    (fun i _ => l.length - (intOf i).toNat)
  case atStart => exact ⟨0, Nat.zero_le _, rfl, HR.out, Only.refl _ _, fun c r _ => rfl⟩
  case round =>
    obtain ⟨k, hk, rfl, hr, ho, HT⟩ := hrel
    clear c0
    by_cases hlt : k < l.length
    · obtain ⟨hnb, gk, nk⟩ := (HK.out.below (ho.belowRow (Nat.le_of_lt hbw))).2 k l[k] (List.getElem?_eq_getElem hlt)
      obtain ⟨d, hd, -, -⟩ := nameOk_one (validB_names HV.out (List.getElem_mem hlt))
      rw [hd] at nk
      have HD := Lib.hid hd
      have HR1 := Lib.hid hr
      have HO := Lib.hid ho
      have hwz := hr.lt
      clear hd hr ho
      cases hh : headIs s d with
      | true =>
        obtain ⟨r, hs, htl⟩ := headIs_yes hh
        have HH := Lib.hid hh
        have HTL := Lib.hid htl
        have HS := Lib.hid hs
        clear hh htl hs
        go_wp2_with fail
        refine (traceSkip_any b _ s d _ HR1.out).mono ?_
        rw [HH.out, HTL.out]
        rintro e w1 ⟨rfl, hr1, ho1⟩
        have nk1 : w1.cell? ⟨nb k, 0, none⟩ = some (.string ⟨#[d]⟩) := ((ho1.belowRow (Nat.le_of_lt hwz)).cell (p := ⟨nb k, 0, none⟩) hnb).trans nk
        have HR2 := Lib.hid hr1
        have HO2 := Lib.hid (HO.out.trans ho1)
        clear hr1 ho1
        go_wp2
        go_ret
        exact ⟨.inl ⟨d, r, HS.out, callP_at HV.out hlt HD.out, rfl, HR2.out⟩, HO2.out⟩
      | false =>
        obtain ⟨hs, htl⟩ := headIs_no hh
        have HH := Lib.hid hh
        have HTL := Lib.hid htl
        have HS := Lib.hid hs
        clear hh htl hs
        go_wp2_with fail
        refine (traceSkip_any b _ s d _ HR1.out).mono ?_
        rw [HH.out, HTL.out]
        rintro e w1 ⟨rfl, hr1, ho1⟩
        have HR2 := Lib.hid hr1
        have HO2 := Lib.hid (HO.out.trans ho1)
        clear hr1 ho1
        go_wp2
        go_roundw
        case rel => exact ⟨k + 1, by omega, by go_num, HR2.out, HO2.out, fun c r e => taken_take_succ hlt HD.out (HS.out c r e) (HT.out c r e)⟩
        case measure => simp [intOf]; omega
    · obtain rfl : k = l.length := by omega
      have HN : Hid (∀ c r, s = c :: r → callP l c = false) := fun c r e => by
        rw [callP_taken HV.out]
        have := HT.out c r e
        rwa [List.take_length] at this
      have HO := Lib.hid ho
      clear ho hr
      go_wp2
      exact ⟨rfl, .inr ⟨HN.out, _, rfl⟩, HO.out⟩

/-- A call that makes none, and one that makes some. -/
def leafV (c : UInt8) : Value := .iface 205 (.agg #[.string ⟨#[c]⟩])
def branchV (c : UInt8) (g n cap : Nat) : Value := .iface 207 (.agg #[.string ⟨#[c]⟩, .slice (some ⟨g, 0, none⟩) n cap])

set_option maxRecDepth 100000 in
theorem newCall_leaf (c : UInt8) (A : Option Addr) (cap : Nat) (w : World) :
    Calls Try.prog 170 #[.string ⟨#[c]⟩, .slice A 0 cap] w fun e w' => e = .returned (leafV c) ∧ w = w' := by
  go_enter Try.func170, Try.ntmps170
  go_wp2
  go_ret
  exact ⟨rfl, rfl⟩
set_option maxRecDepth 100000 in
theorem newCall_branch (c : UInt8) (g n cap : Nat) (w : World) (hn : 0 < n) :
    Calls Try.prog 170 #[.string ⟨#[c]⟩, .slice (some ⟨g, 0, none⟩) n cap] w fun e w' => e = .returned (branchV c g n cap) ∧ w = w' := by
  have h0 : ((n : Int) == 0) = false := by rw [beq_eq_false_iff_ne]; omega
  have h1 : ¬ (n : Int) = 0 := by omega
  go_enter Try.func170, Try.ntmps170
  go_wp2
  go_ret
  exact ⟨rfl, rfl⟩

end Go.Proofs.Ytcpiojliakgdlaa
/- The program's calls in memory, and how one is read: readCall. -/
namespace Go.Proofs.Ytcpiojliakgdlaa
open Go.RowKit

theorem cell_same {w w' : World} {g : Nat} (h : w'.heap[g]? = w.heap[g]?) (i : Nat) : w'.cell? ⟨g, i, none⟩ = w.cell? ⟨g, i, none⟩ := by
  simp [World.cell?, h]

/-- The calls 'f' lie in block 'g' from place 'o' on, those within them in blocks that 'S' names. -/
def Cells (w : World) (S : Nat → Prop) : Forest → Nat → Nat → Prop
  | .nil, _, _ => True
  | .cons c k r, g, o => (∃ v, w.cell? ⟨g, o, none⟩ = some v ∧ ((k.isNil = true ∧ v = leafV c) ∨ (k.isNil = false ∧ ∃ h cap, v = branchV c h k.len cap ∧ S h ∧ Cells w S k h 0))) ∧ Cells w S r g (o + 1)
def IsCall (w : World) (S : Nat → Prop) (c : UInt8) (k : Forest) (v : Value) : Prop :=
  (k.isNil = true ∧ v = leafV c) ∨ (k.isNil = false ∧ ∃ h cap, v = branchV c h k.len cap ∧ S h ∧ Cells w S k h 0)
theorem Cells.keep {w w' : World} {S S' : Nat → Prop} (hS : ∀ q, S q → S' q ∧ w'.heap[q]? = w.heap[q]?) : ∀ (f : Forest) (g o : Nat), w'.heap[g]? = w.heap[g]? → Cells w S f g o → Cells w' S' f g o
  | .nil, _, _, _, _ => trivial
  | .cons c k r, g, o, hg, h => by
    obtain ⟨⟨v, hv, hc⟩, hr⟩ := h
    refine ⟨⟨v, (cell_same hg o).trans hv, ?_⟩, Cells.keep hS r g (o + 1) hg hr⟩
    rcases hc with hc | ⟨h1, q, cap, e, hs, hk⟩
    · exact .inl hc
    · exact .inr ⟨h1, q, cap, e, (hS q hs).1, Cells.keep hS k q 0 (hS q hs).2 hk⟩
theorem IsCall.keep {w w' : World} {S S' : Nat → Prop} (hS : ∀ q, S q → S' q ∧ w'.heap[q]? = w.heap[q]?) {c : UInt8} {k : Forest} {v : Value} (h : IsCall w S c k v) : IsCall w' S' c k v := by
  rcases h with hc | ⟨h1, q, cap, e, hs, hk⟩
  · exact .inl hc
  · exact .inr ⟨h1, q, cap, e, (hS q hs).1, Cells.keep hS k q 0 (hS q hs).2 hk⟩

/-- A list of values is the calls 'f'. -/
def Vals (w : World) (S : Nat → Prop) : Forest → List Value → Prop
  | .nil, xs => xs = []
  | .cons c k r, xs => ∃ v vs, xs = v :: vs ∧ IsCall w S c k v ∧ Vals w S r vs
theorem Vals.keep {w w' : World} {S S' : Nat → Prop} (hS : ∀ q, S q → S' q ∧ w'.heap[q]? = w.heap[q]?) : ∀ (f : Forest) (xs : List Value), Vals w S f xs → Vals w' S' f xs
  | .nil, _, h => h
  | .cons c k r, xs, h => by
    obtain ⟨v, vs, e, hc, hr⟩ := h
    exact ⟨v, vs, e, hc.keep hS, Vals.keep hS r vs hr⟩
theorem Vals.snoc {w : World} {S : Nat → Prop} {c : UInt8} {k : Forest} {v : Value} (hc : IsCall w S c k v) : ∀ (f : Forest) (xs : List Value), Vals w S f xs → Vals w S (f.app (.cons c k .nil)) (xs ++ [v])
  | .nil, xs, h => by
    have h' : xs = [] := h
    subst h'
    exact ⟨v, [], rfl, hc, rfl⟩
  | .cons c' k' r, xs, h => by
    obtain ⟨v', vs, e, hc', hr⟩ := h
    subst e
    exact ⟨v', vs ++ [v], rfl, hc', Vals.snoc hc r vs hr⟩
theorem Vals.len {w : World} {S : Nat → Prop} : ∀ (f : Forest) (xs : List Value), Vals w S f xs → xs.length = f.len
  | .nil, xs, h => by
    have h' : xs = [] := h
    subst h'; rfl
  | .cons c k r, xs, h => by
    obtain ⟨v, vs, e, _, hr⟩ := h
    subst e
    show vs.length + 1 = r.len + 1
    rw [Vals.len r vs hr]
theorem Vals.cells {w : World} {S : Nat → Prop} {g : Nat} : ∀ (f : Forest) (xs : List Value) (o : Nat), Vals w S f xs → (∀ i, i < xs.length → w.cell? ⟨g, o + i, none⟩ = xs[i]?) → Cells w S f g o
  | .nil, _, _, _, _ => trivial
  | .cons c k r, xs, o, h, hx => by
    obtain ⟨v, vs, e, hc, hr⟩ := h
    subst e
    refine ⟨⟨v, ?_, hc⟩, Vals.cells r vs (o + 1) hr fun i hi => ?_⟩
    · exact hx 0 (by simp)
    · have := hx (i + 1) (by simp; omega)
      rw [show o + 1 + i = o + (i + 1) by omega, this]
      simp

/-- A slice of calls that the reader makes, block 'B' and later being its own. -/
def OwnCalls (w : World) (B : Nat) (v : Value) (f : Forest) : Prop :=
  ∃ xs, w.ownsRow B 193 1 v f.len xs ∧ Vals w (fun q => B ≤ q ∧ q < w.heap.size ∧ v.ownBlock ≠ some q) f xs
/-- A slice of calls that is read. -/
def SliceIs (w : World) (S : Nat → Prop) (v : Value) (f : Forest) : Prop :=
  ∃ A cap, v = .slice A f.len cap ∧ (0 < f.len → ∃ g, A = some ⟨g, 0, none⟩ ∧ S g ∧ Cells w S f g 0)
theorem SliceIs.keep {w w' : World} {S S' : Nat → Prop} (hS : ∀ q, S q → S' q ∧ w'.heap[q]? = w.heap[q]?) {v : Value} {f : Forest} (h : SliceIs w S v f) : SliceIs w' S' v f := by
  obtain ⟨A, cap, e, h⟩ := h
  refine ⟨A, cap, e, fun hl => ?_⟩
  obtain ⟨g, e1, hs, hc⟩ := h hl
  exact ⟨g, e1, (hS g hs).1, Cells.keep hS f g 0 (hS g hs).2 hc⟩
theorem OwnCalls.form {w : World} {B : Nat} {v : Value} {f : Forest} (h : OwnCalls w B v f) (hf : f.isNil = false) : ∃ g cap, v = .slice (some ⟨g, 0, none⟩) f.len cap ∧ B ≤ g ∧ g < w.heap.size ∧ Cells w (fun q => B ≤ q ∧ q < w.heap.size) f g 0 := by
  obtain ⟨xs, hown, hv⟩ := h
  rw [Forest.isNil_len] at hf
  have hl : f.len ≠ 0 := of_decide_eq_false hf
  have hx := Vals.len f xs hv
  rcases hown.2 with ⟨rfl, h0⟩ | ⟨g, cap, cur, rfl, hg, hh, r⟩
  · exact absurd h0 hl
  · refine ⟨g, cap, rfl, hg, (Array.getElem?_eq_some_iff.1 hh).1, ?_⟩
    refine Vals.cells f xs 0 (Vals.keep (fun q h => ⟨⟨h.1, h.2.1⟩, rfl⟩) f xs hv) fun i hi => ?_
    rw [Nat.zero_add]
    exact World.ownsRow.cellAt hown i (by omega)
theorem OwnCalls.slice {w : World} {B : Nat} {v : Value} {f : Forest} (h : OwnCalls w B v f) : SliceIs w (fun q => B ≤ q ∧ q < w.heap.size) v f := by
  cases hf : f.isNil with
  | false =>
    obtain ⟨g, cap, e, h1, h2, h3⟩ := h.form hf
    exact ⟨_, cap, e, fun _ => ⟨g, rfl, ⟨h1, h2⟩, h3⟩⟩
  | true =>
    rw [Forest.isNil_len] at hf
    have hl : f.len = 0 := of_decide_eq_true hf
    obtain ⟨xs, hown, hv⟩ := h
    rcases hown.2 with ⟨rfl, h0⟩ | ⟨g, cap, cur, rfl, hg, hh, r⟩
    · exact ⟨none, 0, by rw [hl], fun h => by omega⟩
    · exact ⟨_, cap, rfl, fun h => by omega⟩
theorem OwnCalls.nil (w : World) (B : Nat) : OwnCalls w B (.slice none 0 0) .nil := ⟨[], World.ownsRow_nil w B _ 1, rfl⟩
/-- What is written elsewhere leaves the slice as it is. -/
theorem OwnCalls.only {w w' : World} {B b : Nat} {v : Value} {f : Forest} (h : OwnCalls w B v f) (ho : Only w w' (· = b)) (hb : b < B) : OwnCalls w' B v f := by
  obtain ⟨xs, hown, hv⟩ := h
  refine ⟨xs, own_keep hown fun g hg => ?_, Vals.keep (fun q h => ⟨⟨h.1, Nat.lt_of_lt_of_le h.2.1 ho.size, h.2.2⟩, ho.block q h.2.1 (by have := h.1; omega)⟩) f xs hv⟩
  have := hown.lt g hg
  exact ho.block g this.2 (by omega)
/-- One more call is appended. -/
theorem OwnCalls.more {w W w' : World} {B c0 : Nat} {v v' u : Value} {f k : Forest} {c : UInt8} {xs : List Value} (hv : Vals w (fun q => B ≤ q ∧ q < w.heap.size ∧ v.ownBlock ≠ some q) f xs) 
    (hu : IsCall w (fun q => c0 ≤ q ∧ q < w.heap.size) c k u) (hc0 : B ≤ c0) (hvc : ∀ q, v.ownBlock = some q → q < c0)
    (hW : Below w.heap.size w W) (hg : W.grownBy w' v.ownBlock) (hown' : w'.ownsRow B 193 1 v' (f.len + 1) (xs ++ [u])) (hat : v'.ownBlock = v.ownBlock ∨ v'.ownBlock = some W.heap.size) :
    OwnCalls w' B v' (f.app (.cons c k .nil)) := by
  have hs := hW.size
  have hs2 := hg.size
  have keep : ∀ q, q < w.heap.size → v.ownBlock ≠ some q → w'.heap[q]? = w.heap[q]? := fun q h1 h2 => (hg.block q (by omega) (fun e => h2 e.symm)).trans (hW.block q h1)
  have ne : ∀ q, q < w.heap.size → v.ownBlock ≠ some q → v'.ownBlock ≠ some q := fun q h1 h2 => by
    rcases hat with e | e
    · rw [e]; exact h2
    · rw [e]; intro he; injection he with he; omega
  refine ⟨xs ++ [u], by rw [Forest.app_len]; exact hown', Vals.snoc ?_ f xs (Vals.keep (fun q h => ⟨⟨h.1, by omega, ne q h.2.1 h.2.2⟩, keep q h.2.1 h.2.2⟩) f xs hv)⟩
  refine hu.keep fun q h => ?_
  have h2 : v.ownBlock ≠ some q := fun e => by have := hvc q e; omega
  exact ⟨⟨by omega, by omega, ne q h.2 h2⟩, keep q h.2 h2⟩

/-- What one call reads. -/
def named (c : UInt8) : Got → Option (UInt8 × Forest × List UInt8)
  | none => none
  | some (k, r) => some (c, k, r)
def readA (P : UInt8 → Bool) (d : Nat) : List UInt8 → Option (UInt8 × Forest × List UInt8)
  | [] => none
  | c :: r => named c (callA P d c r)
theorem readA_zero (P : UInt8 → Bool) (s : List UInt8) : readA P 0 s = none := by cases s <;> rfl
theorem readA_no {P : UInt8 → Bool} {d : Nat} {s : List UInt8} (h : ∀ c r, s = c :: r → P c = false) : readA P d s = none := by
  cases s with
  | nil => rfl
  | cons c r => unfold readA; dsimp only; rw [callA_no (h c r rfl)]; rfl
theorem readA_some {P : UInt8 → Bool} {d : Nat} {s r' : List UInt8} {c : UInt8} {k : Forest} (hP : P 41 = false) (h : readA P d s = some (c, k, r')) : ∃ r, s = c :: r ∧ callA P d c r = some (k, r') ∧ c ≠ 41 ∧ r'.length < s.length := by
  cases s with
  | nil => cases h
  | cons x r =>
    unfold readA named at h
    dsimp only at h
    cases hc : callA P d x r with
    | none => rw [hc] at h; cases h
    | some y =>
      rw [hc] at h
      injection h with h
      injection h with h1 h2
      injection h2 with h2 h3
      subst h1
      refine ⟨r, rfl, ?_, ?_, ?_⟩
      · rw [hc, ← h2, ← h3]
      · rintro rfl
        rw [callA_no hP] at hc
        cases hc
      · have := callA_less P d x r y.1 y.2 (by rw [hc])
        rw [← h3]
        simp
        omega
theorem closed_app {f : Forest} (h : f.isNil = false) (u : List UInt8) : closed (some (f, 41 :: u)) = some (f, u) := by
  cases f with
  | nil => cases h
  | cons c k r => rfl
theorem closed_end (f : Forest) : closed (some (f, [])) = none := by cases f <;> rfl
theorem closed_first {P : UInt8 → Bool} {d : Nat} {s : List UInt8} (h : readA P d s = none) : closed (calls P d s) = none := by
  cases s with
  | nil => rfl
  | cons c r =>
    by_cases hc : c = 41
    · subst hc; rfl
    · have h1 : callA P d c r = none := by
        unfold readA named at h
        dsimp only at h
        cases hx : callA P d c r with
        | none => rfl
        | some y => rw [hx] at h; cases h
      rw [calls_cons P d r hc, h1]; rfl
theorem closed_next {P : UInt8 → Bool} {d : Nat} {s : List UInt8} (f : Forest) (h : readA P d s = none) (hs : ∀ x u, s = x :: u → x ≠ 41) : closed (ahead f (calls P d s)) = none := by
  cases s with
  | nil => rw [calls_nil]; show closed (some (f.app .nil, [])) = none; exact closed_end _
  | cons c r =>
    have h1 : callA P d c r = none := by
      unfold readA named at h
      dsimp only at h
      cases hx : callA P d c r with
      | none => rfl
      | some y => rw [hx] at h; cases h
    rw [calls_fail f (hs c r rfl) h1]; rfl
theorem ahead_step {P : UInt8 → Bool} {d : Nat} {s r' : List UInt8} {c : UInt8} {k : Forest} (f : Forest) (hP : P 41 = false) (h : readA P d s = some (c, k, r')) : ahead f (calls P d s) = ahead (f.app (.cons c k .nil)) (calls P d r') := by
  obtain ⟨r, rfl, h1, h2, _⟩ := readA_some hP h
  exact calls_step f h2 h1
theorem ahead_shut {P : UInt8 → Bool} {d : Nat} (f : Forest) (u : List UInt8) : ahead f (calls P d (41 :: u)) = some (f, 41 :: u) := by
  rw [calls_close]; show some (f.app .nil, 41 :: u) = _; rw [Forest.app_nil]
theorem ahead_end {P : UInt8 → Bool} {d : Nat} (f : Forest) : ahead f (calls P d []) = some (f, []) := by
  rw [calls_nil]; show some (f.app .nil, []) = _; rw [Forest.app_nil]
theorem readA_leaf {P : UInt8 → Bool} {d : Nat} {c : UInt8} {r : List UInt8} (h : P c = true) (hr : ∀ x u, r = x :: u → x ≠ 40) : readA P (d + 1) (c :: r) = some (c, .nil, r) := by
  unfold readA; dsimp only; rw [callA_leaf h hr]; rfl
theorem readA_open {P : UInt8 → Bool} {d : Nat} {c : UInt8} {r : List UInt8} (h : P c = true) : readA P (d + 1) (c :: 40 :: r) = named c (closed (calls P d r)) := by
  unfold readA; dsimp only; rw [callA_open h]

/-- What readCall has done. -/
def CallPost (w : World) (b : Nat) (nv : Value) (R : Option (UInt8 × Forest × List UInt8)) (e : Ending) (w' : World) : Prop :=
  ((∃ c k r v, R = some (c, k, r) ∧ e = .returned v ∧ IsCall w' (fun q => w.heap.size ≤ q ∧ q < w'.heap.size) c k v ∧ Row w' b 190 #[nv, .string ⟨r.toArray⟩]) ∨ (R = none ∧ Died e)) ∧ Only w w' (· = b)

theorem info_call : (Try.prog.info? 193).map (fun i => (i.zero, i.size, i.bytes)) = some (some .nilIface, 1, 16) := by kernel_rfl
theorem IsCall.one {w : World} {S : Nat → Prop} {c : UInt8} {k : Forest} {v : Value} (h : IsCall w S c k v) : v.oneCell' = true := by
  rcases h with ⟨_, rfl⟩ | ⟨_, q, cap, rfl, _⟩ <;> rfl
theorem IsCall.iface {w : World} {S : Nat → Prop} {c : UInt8} {k : Forest} {v : Value} (h : IsCall w S c k v) : ∃ t x, v = .iface t x := by
  rcases h with ⟨_, rfl⟩ | ⟨_, q, cap, rfl, _⟩ <;> exact ⟨_, _, rfl⟩
/-- How much is left to read. -/
def restAt (b : Nat) (w : World) : Nat := match w.cell? ⟨b, 1, none⟩ with
  | some (.string x) => x.size
  | _ => 0
theorem restAt_of {b : Nat} {w : World} {nv : Value} {s : List UInt8} (h : Row w b 190 #[nv, .string ⟨s.toArray⟩]) : restAt b w = s.length := by
  unfold restAt
  rw [h.cell 1]
  rfl

end Go.Proofs.Ytcpiojliakgdlaa
