/- Joined: Fc Fd Fe. -/
import Derived.Test.YtcpiojliakgdlaaGreatDoorU17
import Derived.Maps.AppendAt
import Derived.Deep.AppendLies
import Derived.Defers
import Derived.Recover
/- The program's calls in memory, and how one is read: readCall. -/
namespace Go.Proofs.YtcpiojliakgdlaaGreatDoor
open Go.RowKit

theorem cell_same {w w' : World} {g : Nat} (h : w'.heap[g]? = w.heap[g]?) (i : Nat) : w'.cell? ⟨g, i, none⟩ = w.cell? ⟨g, i, none⟩ := by
  simp [World.cell?, h]

/-- The calls 'f' lie in block 'g' from place 'o' on, those within them in blocks that 'S' names. -/
def Cells (w : World) (S : Nat → Prop) : Forest → Nat → Nat → Prop
  | .nil, _, _ => True
  | .cons c k r, g, o => (∃ v, w.cell? ⟨g, o, none⟩ = some v ∧ ((k.isNil = true ∧ v = leafV c) ∨ (k.isNil = false ∧ ∃ h cap, v = branchV c h k.len cap ∧ S h ∧ Cells w S k h 0))) ∧ Cells w S r g (o + 1)
def IsCall (w : World) (S : Nat → Prop) (c : UInt8) (k : Forest) (v : Value) : Prop :=
  (k.isNil = true ∧ v = leafV c) ∨ (k.isNil = false ∧ ∃ h cap, v = branchV c h k.len cap ∧ S h ∧ Cells w S k h 0)
theorem Cells.keep {w w' : World} {S S' : Nat → Prop} (hS : ∀ q, S q → S' q ∧ w'.heap[q]? = w.heap[q]?) : ∀ (f : Forest) (g o : Nat), w'.heap[g]? = w.heap[g]? → Cells w S f g o → Cells w' S' f g o
  | .nil, _, _, _, _ => trivial
  | .cons c k r, g, o, hg, h => by
    obtain ⟨⟨v, hv, hc⟩, hr⟩ := h
    refine ⟨⟨v, (cell_same hg o).trans hv, ?_⟩, Cells.keep hS r g (o + 1) hg hr⟩
    rcases hc with hc | ⟨h1, q, cap, e, hs, hk⟩
    · exact .inl hc
    · exact .inr ⟨h1, q, cap, e, (hS q hs).1, Cells.keep hS k q 0 (hS q hs).2 hk⟩
theorem IsCall.keep {w w' : World} {S S' : Nat → Prop} (hS : ∀ q, S q → S' q ∧ w'.heap[q]? = w.heap[q]?) {c : UInt8} {k : Forest} {v : Value} (h : IsCall w S c k v) : IsCall w' S' c k v := by
  rcases h with hc | ⟨h1, q, cap, e, hs, hk⟩
  · exact .inl hc
  · exact .inr ⟨h1, q, cap, e, (hS q hs).1, Cells.keep hS k q 0 (hS q hs).2 hk⟩

/-- A list of values is the calls 'f'. -/
def Vals (w : World) (S : Nat → Prop) : Forest → List Value → Prop
  | .nil, xs => xs = []
  | .cons c k r, xs => ∃ v vs, xs = v :: vs ∧ IsCall w S c k v ∧ Vals w S r vs
theorem Vals.keep {w w' : World} {S S' : Nat → Prop} (hS : ∀ q, S q → S' q ∧ w'.heap[q]? = w.heap[q]?) : ∀ (f : Forest) (xs : List Value), Vals w S f xs → Vals w' S' f xs
  | .nil, _, h => h
  | .cons c k r, xs, h => by
    obtain ⟨v, vs, e, hc, hr⟩ := h
    exact ⟨v, vs, e, hc.keep hS, Vals.keep hS r vs hr⟩
theorem Vals.snoc {w : World} {S : Nat → Prop} {c : UInt8} {k : Forest} {v : Value} (hc : IsCall w S c k v) : ∀ (f : Forest) (xs : List Value), Vals w S f xs → Vals w S (f.app (.cons c k .nil)) (xs ++ [v])
  | .nil, xs, h => by
    have h' : xs = [] := h
    subst h'
    exact ⟨v, [], rfl, hc, rfl⟩
  | .cons c' k' r, xs, h => by
    obtain ⟨v', vs, e, hc', hr⟩ := h
    subst e
    exact ⟨v', vs ++ [v], rfl, hc', Vals.snoc hc r vs hr⟩
theorem Vals.len {w : World} {S : Nat → Prop} : ∀ (f : Forest) (xs : List Value), Vals w S f xs → xs.length = f.len
  | .nil, xs, h => by
    have h' : xs = [] := h
    subst h'; rfl
  | .cons c k r, xs, h => by
    obtain ⟨v, vs, e, _, hr⟩ := h
    subst e
    show vs.length + 1 = r.len + 1
    rw [Vals.len r vs hr]
theorem Vals.cells {w : World} {S : Nat → Prop} {g : Nat} : ∀ (f : Forest) (xs : List Value) (o : Nat), Vals w S f xs → (∀ i, i < xs.length → w.cell? ⟨g, o + i, none⟩ = xs[i]?) → Cells w S f g o
  | .nil, _, _, _, _ => trivial
  | .cons c k r, xs, o, h, hx => by
    obtain ⟨v, vs, e, hc, hr⟩ := h
    subst e
    refine ⟨⟨v, ?_, hc⟩, Vals.cells r vs (o + 1) hr fun i hi => ?_⟩
    · exact hx 0 (by simp)
    · have := hx (i + 1) (by simp; omega)
      rw [show o + 1 + i = o + (i + 1) by omega, this]
      simp

/-- A slice of calls that the reader makes, block 'B' and later being its own. -/
def OwnCalls (w : World) (B : Nat) (v : Value) (f : Forest) : Prop :=
  ∃ xs, w.ownsRow B 125 1 v f.len xs ∧ Vals w (fun q => B ≤ q ∧ q < w.heap.size ∧ v.ownBlock ≠ some q) f xs
/-- A slice of calls that is read. -/
def SliceIs (w : World) (S : Nat → Prop) (v : Value) (f : Forest) : Prop :=
  ∃ A cap, v = .slice A f.len cap ∧ (0 < f.len → ∃ g, A = some ⟨g, 0, none⟩ ∧ S g ∧ Cells w S f g 0)
theorem SliceIs.keep {w w' : World} {S S' : Nat → Prop} (hS : ∀ q, S q → S' q ∧ w'.heap[q]? = w.heap[q]?) {v : Value} {f : Forest} (h : SliceIs w S v f) : SliceIs w' S' v f := by
  obtain ⟨A, cap, e, h⟩ := h
  refine ⟨A, cap, e, fun hl => ?_⟩
  obtain ⟨g, e1, hs, hc⟩ := h hl
  exact ⟨g, e1, (hS g hs).1, Cells.keep hS f g 0 (hS g hs).2 hc⟩
theorem OwnCalls.form {w : World} {B : Nat} {v : Value} {f : Forest} (h : OwnCalls w B v f) (hf : f.isNil = false) : ∃ g cap, v = .slice (some ⟨g, 0, none⟩) f.len cap ∧ B ≤ g ∧ g < w.heap.size ∧ Cells w (fun q => B ≤ q ∧ q < w.heap.size) f g 0 := by
  obtain ⟨xs, hown, hv⟩ := h
  rw [Forest.isNil_len] at hf
  have hl : f.len ≠ 0 := of_decide_eq_false hf
  have hx := Vals.len f xs hv
  rcases hown.2 with ⟨rfl, h0⟩ | ⟨g, cap, cur, rfl, hg, hh, r⟩
  · exact absurd h0 hl
  · refine ⟨g, cap, rfl, hg, (Array.getElem?_eq_some_iff.1 hh).1, ?_⟩
    refine Vals.cells f xs 0 (Vals.keep (fun q h => ⟨⟨h.1, h.2.1⟩, rfl⟩) f xs hv) fun i hi => ?_
    rw [Nat.zero_add]
    exact World.ownsRow.cellAt hown i (by omega)
theorem OwnCalls.slice {w : World} {B : Nat} {v : Value} {f : Forest} (h : OwnCalls w B v f) : SliceIs w (fun q => B ≤ q ∧ q < w.heap.size) v f := by
  cases hf : f.isNil with
  | false =>
    obtain ⟨g, cap, e, h1, h2, h3⟩ := h.form hf
    exact ⟨_, cap, e, fun _ => ⟨g, rfl, ⟨h1, h2⟩, h3⟩⟩
  | true =>
    rw [Forest.isNil_len] at hf
    have hl : f.len = 0 := of_decide_eq_true hf
    obtain ⟨xs, hown, hv⟩ := h
    rcases hown.2 with ⟨rfl, h0⟩ | ⟨g, cap, cur, rfl, hg, hh, r⟩
    · exact ⟨none, 0, by rw [hl], fun h => by omega⟩
    · exact ⟨_, cap, rfl, fun h => by omega⟩
theorem OwnCalls.nil (w : World) (B : Nat) : OwnCalls w B (.slice none 0 0) .nil := ⟨[], World.ownsRow_nil w B _ 1, rfl⟩
/-- What is written elsewhere leaves the slice as it is. -/
theorem OwnCalls.only {w w' : World} {B b : Nat} {v : Value} {f : Forest} (h : OwnCalls w B v f) (ho : Only w w' (· = b)) (hb : b < B) : OwnCalls w' B v f := by
  obtain ⟨xs, hown, hv⟩ := h
  refine ⟨xs, own_keep hown fun g hg => ?_, Vals.keep (fun q h => ⟨⟨h.1, Nat.lt_of_lt_of_le h.2.1 ho.size, h.2.2⟩, ho.block q h.2.1 (by have := h.1; omega)⟩) f xs hv⟩
  have := hown.lt g hg
  exact ho.block g this.2 (by omega)
/-- One more call is appended. -/
theorem OwnCalls.more {w W w' : World} {B c0 : Nat} {v v' u : Value} {f k : Forest} {c : UInt8} {xs : List Value} (hv : Vals w (fun q => B ≤ q ∧ q < w.heap.size ∧ v.ownBlock ≠ some q) f xs) 
    (hu : IsCall w (fun q => c0 ≤ q ∧ q < w.heap.size) c k u) (hc0 : B ≤ c0) (hvc : ∀ q, v.ownBlock = some q → q < c0)
    (hW : Below w.heap.size w W) (hg : W.grownBy w' v.ownBlock) (hown' : w'.ownsRow B 125 1 v' (f.len + 1) (xs ++ [u])) (hat : v'.ownBlock = v.ownBlock ∨ v'.ownBlock = some W.heap.size) :
    OwnCalls w' B v' (f.app (.cons c k .nil)) := by
  have hs := hW.size
  have hs2 := hg.size
  have keep : ∀ q, q < w.heap.size → v.ownBlock ≠ some q → w'.heap[q]? = w.heap[q]? := fun q h1 h2 => (hg.block q (by omega) (fun e => h2 e.symm)).trans (hW.block q h1)
  have ne : ∀ q, q < w.heap.size → v.ownBlock ≠ some q → v'.ownBlock ≠ some q := fun q h1 h2 => by
    rcases hat with e | e
    · rw [e]; exact h2
    · rw [e]; intro he; injection he with he; omega
  refine ⟨xs ++ [u], by rw [Forest.app_len]; exact hown', Vals.snoc ?_ f xs (Vals.keep (fun q h => ⟨⟨h.1, by omega, ne q h.2.1 h.2.2⟩, keep q h.2.1 h.2.2⟩) f xs hv)⟩
  refine hu.keep fun q h => ?_
  have h2 : v.ownBlock ≠ some q := fun e => by have := hvc q e; omega
  exact ⟨⟨by omega, by omega, ne q h.2 h2⟩, keep q h.2 h2⟩

/-- What one call reads. -/
def named (c : UInt8) : Got → Option (UInt8 × Forest × List UInt8)
  | none => none
  | some (k, r) => some (c, k, r)
def readA (P : UInt8 → Bool) (d : Nat) : List UInt8 → Option (UInt8 × Forest × List UInt8)
  | [] => none
  | c :: r => named c (callA P d c r)
theorem readA_zero (P : UInt8 → Bool) (s : List UInt8) : readA P 0 s = none := by cases s <;> rfl
theorem readA_no {P : UInt8 → Bool} {d : Nat} {s : List UInt8} (h : ∀ c r, s = c :: r → P c = false) : readA P d s = none := by
  cases s with
  | nil => rfl
  | cons c r => unfold readA; dsimp only; rw [callA_no (h c r rfl)]; rfl
theorem readA_some {P : UInt8 → Bool} {d : Nat} {s r' : List UInt8} {c : UInt8} {k : Forest} (hP : P 41 = false) (h : readA P d s = some (c, k, r')) : ∃ r, s = c :: r ∧ callA P d c r = some (k, r') ∧ c ≠ 41 ∧ r'.length < s.length := by
  cases s with
  | nil => cases h
  | cons x r =>
    unfold readA named at h
    dsimp only at h
    cases hc : callA P d x r with
    | none => rw [hc] at h; cases h
    | some y =>
      rw [hc] at h
      injection h with h
      injection h with h1 h2
      injection h2 with h2 h3
      subst h1
      refine ⟨r, rfl, ?_, ?_, ?_⟩
      · rw [hc, ← h2, ← h3]
      · rintro rfl
        rw [callA_no hP] at hc
        cases hc
      · have := callA_less P d x r y.1 y.2 (by rw [hc])
        rw [← h3]
        simp
        omega
theorem closed_app {f : Forest} (h : f.isNil = false) (u : List UInt8) : closed (some (f, 41 :: u)) = some (f, u) := by
  cases f with
  | nil => cases h
  | cons c k r => rfl
theorem closed_end (f : Forest) : closed (some (f, [])) = none := by cases f <;> rfl
theorem closed_first {P : UInt8 → Bool} {d : Nat} {s : List UInt8} (h : readA P d s = none) : closed (calls P d s) = none := by
  cases s with
  | nil => rfl
  | cons c r =>
    by_cases hc : c = 41
    · subst hc; rfl
    · have h1 : callA P d c r = none := by
        unfold readA named at h
        dsimp only at h
        cases hx : callA P d c r with
        | none => rfl
        | some y => rw [hx] at h; cases h
      rw [calls_cons P d r hc, h1]; rfl
theorem closed_next {P : UInt8 → Bool} {d : Nat} {s : List UInt8} (f : Forest) (h : readA P d s = none) (hs : ∀ x u, s = x :: u → x ≠ 41) : closed (ahead f (calls P d s)) = none := by
  cases s with
  | nil => rw [calls_nil]; show closed (some (f.app .nil, [])) = none; exact closed_end _
  | cons c r =>
    have h1 : callA P d c r = none := by
      unfold readA named at h
      dsimp only at h
      cases hx : callA P d c r with
      | none => rfl
      | some y => rw [hx] at h; cases h
    rw [calls_fail f (hs c r rfl) h1]; rfl
theorem ahead_step {P : UInt8 → Bool} {d : Nat} {s r' : List UInt8} {c : UInt8} {k : Forest} (f : Forest) (hP : P 41 = false) (h : readA P d s = some (c, k, r')) : ahead f (calls P d s) = ahead (f.app (.cons c k .nil)) (calls P d r') := by
  obtain ⟨r, rfl, h1, h2, _⟩ := readA_some hP h
  exact calls_step f h2 h1
theorem ahead_shut {P : UInt8 → Bool} {d : Nat} (f : Forest) (u : List UInt8) : ahead f (calls P d (41 :: u)) = some (f, 41 :: u) := by
  rw [calls_close]; show some (f.app .nil, 41 :: u) = _; rw [Forest.app_nil]
theorem ahead_end {P : UInt8 → Bool} {d : Nat} (f : Forest) : ahead f (calls P d []) = some (f, []) := by
  rw [calls_nil]; show some (f.app .nil, []) = _; rw [Forest.app_nil]
theorem readA_leaf {P : UInt8 → Bool} {d : Nat} {c : UInt8} {r : List UInt8} (h : P c = true) (hr : ∀ x u, r = x :: u → x ≠ 40) : readA P (d + 1) (c :: r) = some (c, .nil, r) := by
  unfold readA; dsimp only; rw [callA_leaf h hr]; rfl
theorem readA_open {P : UInt8 → Bool} {d : Nat} {c : UInt8} {r : List UInt8} (h : P c = true) : readA P (d + 1) (c :: 40 :: r) = named c (closed (calls P d r)) := by
  unfold readA; dsimp only; rw [callA_open h]

/-- What readCall has done. -/
def CallPost (w : World) (b : Nat) (nv : Value) (R : Option (UInt8 × Forest × List UInt8)) (e : Ending) (w' : World) : Prop :=
  ((∃ c k r v, R = some (c, k, r) ∧ e = .returned v ∧ IsCall w' (fun q => w.heap.size ≤ q ∧ q < w'.heap.size) c k v ∧ Row w' b 105 #[nv, .string ⟨r.toArray⟩]) ∨ (R = none ∧ Died e)) ∧ Only w w' (· = b)

theorem info_call : (Tryz.prog.info? 125).map (fun i => (i.zero, i.size, i.bytes)) = some (some .nilIface, 1, 16) := by kernel_rfl
theorem IsCall.one {w : World} {S : Nat → Prop} {c : UInt8} {k : Forest} {v : Value} (h : IsCall w S c k v) : v.oneCell' = true := by
  rcases h with ⟨_, rfl⟩ | ⟨_, q, cap, rfl, _⟩ <;> rfl
theorem IsCall.iface {w : World} {S : Nat → Prop} {c : UInt8} {k : Forest} {v : Value} (h : IsCall w S c k v) : ∃ t x, v = .iface t x := by
  rcases h with ⟨_, rfl⟩ | ⟨_, q, cap, rfl, _⟩ <;> exact ⟨_, _, rfl⟩
/-- How much is left to read. -/
def restAt (b : Nat) (w : World) : Nat := match w.cell? ⟨b, 1, none⟩ with
  | some (.string x) => x.size
  | _ => 0
theorem restAt_of {b : Nat} {w : World} {nv : Value} {s : List UInt8} (h : Row w b 105 #[nv, .string ⟨s.toArray⟩]) : restAt b w = s.length := by
  unfold restAt
  rw [h.cell 1]
  rfl

end Go.Proofs.YtcpiojliakgdlaaGreatDoor
/- The program's reader of traces: readCall, readOutermost. -/
namespace Go.Proofs.YtcpiojliakgdlaaGreatDoor
open Go.RowKit

/-- The first call of a list: a slice of one. -/
theorem OwnCalls.one {w : World} {B c0 : Nat} {u : Value} {c : UInt8} {k : Forest} (hB : B ≤ c0) (hB2 : B ≤ w.heap.size) (hu : IsCall w (fun q => c0 ≤ q ∧ q < w.heap.size) c k u) :
    OwnCalls (w.alloc (.cells #[u] 125)) B (.slice (some ⟨w.heap.size, 0, none⟩) 1 1) (.cons c k .nil) := by
  refine ⟨[u], World.ownsRow_lit w #[u] 1 hB2 (by simp [maxLen]) rfl, u, [], rfl, ?_, rfl⟩
  refine hu.keep fun q h => ⟨⟨by omega, by simp; omega, ?_⟩, Below.heap_alloc w _ q h.2⟩
  intro e
  have : w.heap.size = q := by simpa [Value.ownBlock] using e
  omega

theorem Only.andLow {w w1 w2 : World} {may : Nat → Prop} (h : Only w w1 may) (hb : Below w.heap.size w1 w2) : Only w w2 may :=
  ⟨hb.os.trans h.os, hb.tape.trans h.tape, hb.output.trans h.output, Nat.le_trans h.size hb.size, fun k hk hm => (hb.block k hk).trans (h.block k hk hm)⟩
theorem OwnCalls.lt {w : World} {B : Nat} {v : Value} {f : Forest} (h : OwnCalls w B v f) : ∀ x, v.ownBlock = some x → B ≤ x ∧ x < w.heap.size := by
  obtain ⟨xs, hown, _⟩ := h
  exact fun x e => hown.lt x e

theorem Row.only {w w' : World} {b g : Nat} {t : TypeId} {cs : Array Value} (h : Row w g t cs) (ho : Only w w' (· = b)) (hg : g ≠ b) : Row w' g t cs := ho.row h hg

set_option maxRecDepth 100000 in
set_option maxHeartbeats 4000000 in
theorem readCall_any (b g : Nat) (l : List Seg) (nb : Nat → Nat) (hv : validB l = true) : ∀ (d : Nat) (s : List UInt8) (p : Int) (w : World), p = 9 - (d : Int) → d ≤ 8 → s.length ≤ 1048576 → Known w b g l nb →
    Row w b 105 #[.slice (some ⟨g, 0, none⟩) l.length l.length, .string ⟨s.toArray⟩] →
    Calls Tryz.prog 84 #[.pointer (some ⟨b, 0, none⟩), .int .i64 p] w (CallPost w b (.slice (some ⟨g, 0, none⟩) l.length l.length) (readA (callP l) d s)) := by
  intro d
  induction d with
  | zero =>
    intro s p w hp hd hs hk hr
    have h1 : ¬ p ≤ 8 := by omega
    have h2 : 8 < p := by omega
    have HR : Hid (readA (callP l) 0 s = none) := readA_zero _ s
    clear hp hd hk hr
    go_enter Tryz.func84, Tryz.ntmps84
    go_wp2
    exact ⟨rfl, .inr ⟨HR.out, _, rfl⟩, Only.refl _ _⟩
  | succ d ih =>
    intro s p w hp hd hs hk hr
    have IH := Lib.hid ih
    have HK : Hid (Known w b g l nb) := hk
    have HR := Lib.hid hr
    have HV := Lib.hid hv
    have h1 : p ≤ 8 := by omega
    have h0 : 1 ≤ p := by omega
    have HP : Hid (p + 1 = 9 - (d : Int)) := by show _ = _; omega
    have hbw := hr.lt
    clear ih hk hr hp hv
    go_enter Tryz.func84, Tryz.ntmps84
    go_wp2_with fail
    refine (traceName_any b g l nb s w HK.out HV.out HR.out).mono ?_
    rintro e w1 ⟨(⟨c, r, hsc, hcp, rfl, hr1⟩ | ⟨hno, m, rfl⟩), ho1⟩
    · have HS := Lib.hid hsc
      have HC := Lib.hid hcp
      have HR1 := Lib.hid hr1
      have HO1 := Lib.hid ho1
      have hsl : r.length < s.length := by rw [hsc]; simp
      clear hsc hcp hr1 ho1
      have HX := Lib.hid (traceSkip_any b _ r 40 w1 HR1.out)
      go_wp2_with fail
      refine Calls.mono HX.out ?_
      cases hh : headIs r 40 with
      | false =>
        obtain ⟨hne, htl⟩ := headIs_no hh
        rw [htl]
        have HN : Hid (readA (callP l) (d + 1) s = some (c, .nil, r)) := by
          show _ = _
          rw [HS.out]
          exact readA_leaf HC.out hne
        clear hh htl hne
        rintro e w2 ⟨rfl, hr2, ho2⟩
        have HR2 := Lib.hid hr2
        have HO2 := Lib.hid (HO1.out.trans ho2)
        clear hr2 ho2
        go_wp2_with fail
        refine (newCall_leaf c none 0 _).mono ?_
        rintro e w3 ⟨rfl, rfl⟩
        have HI : Hid (∀ S, IsCall w2 S c .nil (leafV c)) := fun S => .inl ⟨rfl, rfl⟩
        unfold leafV at HI ⊢
        go_wp2
        go_ret
        exact ⟨.inl ⟨c, .nil, r, _, HN.out, rfl, HI.out _, HR2.out⟩, HO2.out⟩
      | true =>
        obtain ⟨r1, hrc, htl⟩ := headIs_yes hh
        rw [htl]
        have HN : Hid (readA (callP l) (d + 1) s = named c (closed (calls (callP l) d r1))) := by
          show _ = _
          rw [HS.out, hrc]
          exact readA_open HC.out
        have hrl : r1.length < r.length := by rw [hrc]; simp
        clear hh htl hrc
        rintro e w2 ⟨rfl, hr2, ho2⟩
        have HR2 := Lib.hid hr2
        have HO2 := Lib.hid (HO1.out.trans ho2)
        have hz2 : w.heap.size ≤ w2.heap.size := (HO1.out.trans ho2).size
        have HQ := Lib.hid (IH.out r1 (p + 1) w2 HP.out (by omega) (by omega) (HK.out.below ((HO1.out.trans ho2).belowRow (Nat.le_of_lt hbw))) hr2)
        clear hr2 ho2 HX HS HR1 HO1 HR
        go_wp2_with fail
        refine Calls.mono HQ.out ?_
        rintro e w3 ⟨(⟨c1, k1, r2, v1, hq, rfl, hic, hr3⟩ | ⟨hq, m, rfl⟩), ho3⟩
        · obtain ⟨r1', hr1', hca, hc41, hlen⟩ := readA_some (callP_shut l) hq
          have HE : Hid (readA (callP l) (d + 1) s = named c (closed (ahead (.cons c1 k1 .nil) (calls (callP l) d r2)))) := by
            show _ = _
            rw [HN.out, ← ahead_nil (calls (callP l) d r1), ahead_step .nil (callP_shut l) hq]
            rfl
          obtain ⟨t1, x1, rfl⟩ := hic.iface
          have hz3 : w2.heap.size ≤ w3.heap.size := ho3.size
          have HW := Lib.hid (OwnCalls.one (B := w.heap.size) hz2 (by omega) hic)
          have HR3 : Hid (Row (w3.alloc (.cells #[.iface t1 x1] 125)) b 105 #[.slice (some ⟨g, 0, none⟩) l.length l.length, .string ⟨r2.toArray⟩]) := hr3.alloc _
          have HO3 : Hid (Only w (w3.alloc (.cells #[.iface t1 x1] 125)) (· = b)) := by
            refine Only.trans (HO2.out.trans ho3) ?_
            have hb : Below w3.heap.size w3 (w3.alloc (.cells #[.iface t1 x1] 125)) := (Below.refl _ w3).alloc (Nat.le_refl _) _
            exact (Only.refl w3 _).andBelow hb
          clear hq hca hr1' hic hr3 ho3 HQ HN HO2 HR2
          go_wp2_with fail
          generalize w3.alloc (.cells #[.iface t1 x1] 125) = W3 at *
          go_loopw [6] (fun v wr => ∃ (F : Forest) (sj : List UInt8), F.isNil = false ∧ OwnCalls wr w.heap.size v F ∧ Row wr b 105 #[.slice (some ⟨g, 0, none⟩) l.length l.length, .string ⟨sj.toArray⟩] ∧ Only w wr (· = b) ∧ F.len + sj.length ≤ s.length ∧ Hid (readA (callP l) (d + 1) s = named c (closed (ahead F (calls (callP l) d sj)))))
            (fun _ wr => restAt b wr)
          case atStart => exact ⟨_, r2, rfl, HW.out, HR3.out, HO3.out, by show 0 + 1 + r2.length ≤ _; omega, HE⟩
          case round =>
            obtain ⟨F, sj, hF, how, hrw, hon, hln, HEj⟩ := hrel
            clear HW HR3 HO3 HE
            obtain ⟨q, cap, rfl, hq1, hq2, hcells⟩ := how.form hF
            have HOW := Lib.hid how
            have HRW := Lib.hid hrw
            have HON := Lib.hid hon
            have HFN : Hid (F.isNil = false) := hF
            have HM : Hid (restAt b wr = sj.length) := restAt_of hrw
            have hFl : 0 < F.len := by rw [Forest.isNil_len] at hF; have := of_decide_eq_false hF; omega
            have hzr : w.heap.size ≤ wr.heap.size := hon.size
            have HCL := Lib.hid hcells
            have HX := Lib.hid (traceSkip_any b _ sj 41 wr hrw)
            clear how hrw hon hF hcells
            go_wp2_with fail
            refine Calls.mono HX.out ?_
            cases hh : headIs sj 41 with
            | true =>
              obtain ⟨u, hu, htl⟩ := headIs_yes hh
              rw [htl]
              have HN : Hid (readA (callP l) (d + 1) s = some (c, F, u)) := by
                show _ = _
                rw [HEj.out, hu, ahead_shut, closed_app HFN.out]
                rfl
              clear hh htl hu
              rintro e w4 ⟨rfl, hr4, ho4⟩
              have HIC : Hid (IsCall w4 (fun q => w.heap.size ≤ q ∧ q < w4.heap.size) c F (branchV c q F.len cap)) := by
                refine .inr ⟨HFN.out, q, cap, rfl, ⟨hq1, by have := ho4.size; omega⟩, ?_⟩
                refine Cells.keep (fun x h => ⟨⟨h.1, by have := ho4.size; omega⟩, ho4.block x h.2 (by omega)⟩) F q 0 (ho4.block q hq2 (by omega)) HCL.out
              have HR4 := Lib.hid hr4
              have HO4 := Lib.hid (HON.out.trans ho4)
              clear hr4 ho4 HX HCL HOW
              go_wp2_with fail
              refine (newCall_branch c q F.len cap _ hFl).mono ?_
              rintro e w5 ⟨rfl, rfl⟩
              unfold branchV at HIC ⊢
              go_wp2
              go_ret
              exact ⟨.inl ⟨c, F, u, _, HN.out, rfl, HIC.out, HR4.out⟩, HO4.out⟩
            | false =>
              obtain ⟨hne, htl⟩ := headIs_no hh
              rw [htl]
              have HNE := Lib.hid hne
              clear hh htl hne
              rintro e w4 ⟨rfl, hr4, ho4⟩
              have HQ := Lib.hid (IH.out sj (p + 1) w4 HP.out (by omega) (by omega) (HK.out.below ((HON.out.trans ho4).belowRow (Nat.le_of_lt hbw))) hr4)
              have HO4 := Lib.hid (HON.out.trans ho4)
              have HOW4 := Lib.hid (HOW.out.only ho4 hbw)
              clear hr4 ho4 HX HCL HOW HRW HON
              go_wp2_with fail
              refine Calls.mono HQ.out ?_
              rintro e w5 ⟨(⟨c2, k2, r3, v2, hq, rfl, hic, hr5⟩ | ⟨hq, m, rfl⟩), ho5⟩
              · obtain ⟨r3', hr3', hca, hc41, hlen3⟩ := readA_some (callP_shut l) hq
                have HE5 : Hid (readA (callP l) (d + 1) s = named c (closed (ahead (F.app (.cons c2 k2 .nil)) (calls (callP l) d r3)))) := by
                  show _ = _
                  rw [HEj.out, ahead_step F (callP_shut l) hq]
                obtain ⟨xs, hown, hvals⟩ := HOW4.out.only ho5 hbw
                obtain ⟨t2, x2, rfl⟩ := hic.iface
                have HOWN := Lib.hid hown
                have HVAL := Lib.hid hvals
                have HIC := Lib.hid hic
                have HR5 := Lib.hid hr5
                have HO5 := Lib.hid (HO4.out.trans ho5)
                have HOL := Lib.hid HOW4.out.lt
                have hz4 : w.heap.size ≤ w4.heap.size := HO4.out.size
                have hz5 : w.heap.size ≤ w5.heap.size := HO5.out.size
                clear hq hca hr3' hic hr5 ho5 hown hvals HQ HEj HOW4
                obtain ⟨i0, hi0, hz0, hz1, hz2'⟩ := info_parts info_call
                have I0 := Lib.hid hi0
                have Z0 := Lib.hid hz0
                have Z1 := Lib.hid hz1
                have Z2 := Lib.hid hz2'
                have HNW := Lib.hid (World.news_of_block (cs := #[.iface t2 x2]) (t := 125) (fr := (0, 0)) (heap_alloc_new w5 (.cells #[.iface t2 x2] 125)))
                clear hi0 hz0 hz1 hz2'
                go_wp2_with (at_builtin; go_loud (refine wpList_append_own_at _ rfl _ _ 85 rfl w.heap.size 125 i0 .nilIface 1 16 Tryz.underlying85 I0.out Z0.out Z1.out Z2.out rfl (by decide) _ F.len xs rfl (HOWN.out.alloc _) ⟨w5.heap.size, 0, none⟩ 1 1 [.iface t2 x2] rfl rfl HNW.out (by simp [Value.oneCell']) (by unfold maxLen; omega) (by omega) (by have := HO5.out.size; simp; omega) ?_); intro v3 w6 hown3 hgrow _ hat; obtain ⟨g3, cap3, rfl⟩ := own_form hown3 (by omega); have H3 := Lib.hid hown3; have HG := Lib.hid hgrow; have HA := Lib.hid hat; clear hown3 hgrow hat)
                have HOW6 : Hid (OwnCalls w6 w.heap.size (.slice (some ⟨g3, 0, none⟩) (F.len + 1) cap3) (F.app (.cons c2 k2 .nil))) :=
                  OwnCalls.more HVAL.out HIC.out hz4 (fun x e => (HOL.out x e).2) ((Below.refl _ w5).alloc (Nat.le_refl _) (.cells #[.iface t2 x2] 125)) HG.out H3.out HA.out
                have hgb : Below w.heap.size (w5.alloc (.cells #[.iface t2 x2] 125)) w6 := (Below.refl _ _).grown HG.out (by simp; omega) (fun x e => (HOL.out x e).1)
                have HR6 : Hid (Row w6 b 105 #[.slice (some ⟨g, 0, none⟩) l.length l.length, .string ⟨r3.toArray⟩]) := (HR5.out.alloc _).below hgb hbw
                have HO6 : Hid (Only w w6 (· = b)) := (HO5.out.andBelow ((Below.refl _ w5).alloc (Nat.le_refl _) (.cells #[.iface t2 x2] 125))).andLow hgb
                have HM6 : Hid (restAt b w6 = r3.length) := restAt_of HR6.out
                have HFN6 : Hid ((F.app (.cons c2 k2 .nil)).isNil = false) := Forest.snoc_isNil F c2 k2
                have hln6 : (F.app (.cons c2 k2 .nil)).len + r3.length ≤ s.length := by rw [Forest.app_len]; show F.len + (0 + 1) + r3.length ≤ _; omega
                clear HVAL HOWN HIC HG H3 HA HOL hgb HR5 HO5 HNW I0 Z0 Z1 Z2
                go_wp2
                go_roundw
                case rel => exact ⟨_, r3, HFN6.out, HOW6.out, HR6.out, HO6.out, hln6, HE5⟩
                case measure => rw [HM6.out, HM.out]; omega
              · have HN : Hid (readA (callP l) (d + 1) s = none) := by
                  show _ = _
                  rw [HEj.out, closed_next F hq HNE.out]
                  rfl
                have HO5 := Lib.hid (HO4.out.trans ho5)
                clear hq ho5 HQ
                go_wp2
                exact ⟨rfl, .inr ⟨HN.out, _, rfl⟩, HO5.out⟩
        · have HN2 : Hid (readA (callP l) (d + 1) s = none) := by
            show _ = _
            rw [HN.out, closed_first hq]
            rfl
          have HO3 := Lib.hid (HO2.out.trans ho3)
          clear hq ho3 HQ
          go_wp2
          exact ⟨rfl, .inr ⟨HN2.out, _, rfl⟩, HO3.out⟩
    · have HN : Hid (readA (callP l) (d + 1) s = none) := readA_no hno
      have HO1 := Lib.hid ho1
      clear hno ho1
      go_wp2
      exact ⟨rfl, .inr ⟨HN.out, _, rfl⟩, HO1.out⟩

end Go.Proofs.YtcpiojliakgdlaaGreatDoor
/- The program's readOutermost and readTrace: it recovers. -/
namespace Go.Proofs.YtcpiojliakgdlaaGreatDoor
open Go.RowKit

/-- All is read. -/
def whole : Got → Option Forest
  | some (f, []) => some f
  | _ => none
theorem whole_end {P : UInt8 → Bool} {d : Nat} (f : Forest) : whole (ahead f (calls P d [])) = some f := by rw [ahead_end]; rfl
theorem whole_fail {P : UInt8 → Bool} {d : Nat} {s : List UInt8} (f : Forest) (h : readA P d s = none) (hs : s ≠ []) : whole (ahead f (calls P d s)) = none := by
  cases s with
  | nil => exact absurd rfl hs
  | cons c r =>
    by_cases hc : c = 41
    · subst hc; rw [ahead_shut]; rfl
    · have h1 : callA P d c r = none := by
        unfold readA named at h
        dsimp only at h
        cases hx : callA P d c r with
        | none => rfl
        | some y => rw [hx] at h; cases h
      rw [calls_fail f hc h1]; rfl
theorem traceB_eq (l : List Seg) (t : List UInt8) : traceB l t = if (validB l && decide (t.length ≤ 80)) = true then whole (calls (callP l) 8 t) else none := by
  unfold traceB whole
  split <;> rfl

/-- What readOutermost has done. -/
def OuterPost (w : World) (b : Nat) (R : Option Forest) (e : Ending) (w' : World) : Prop :=
  ((∃ f v, R = some f ∧ e = .returned v ∧ OwnCalls w' w.heap.size v f) ∨ (R = none ∧ Died e)) ∧ Only w w' (· = b)

set_option maxRecDepth 100000 in
set_option maxHeartbeats 4000000 in
theorem readOutermost_any (b g : Nat) (l : List Seg) (nb : Nat → Nat) (hv : validB l = true) (s : List UInt8) (w : World) (hs : s.length ≤ 1048576) (hk : Known w b g l nb)
    (hr : Row w b 105 #[.slice (some ⟨g, 0, none⟩) l.length l.length, .string ⟨s.toArray⟩]) :
    Calls Tryz.prog 73 #[.pointer (some ⟨b, 0, none⟩)] w (OuterPost w b (whole (calls (callP l) 8 s))) := by
  have HK : Hid (Known w b g l nb) := hk
  have HR := Lib.hid hr
  have HV := Lib.hid hv
  have hbw := hr.lt
  clear hk hr hv
  go_enter Tryz.func73, Tryz.ntmps73
  go_wp2
  go_loopw [3] (fun v wr => ∃ (F : Forest) (sj : List UInt8), OwnCalls wr w.heap.size v F ∧ Row wr b 105 #[.slice (some ⟨g, 0, none⟩) l.length l.length, .string ⟨sj.toArray⟩] ∧ Only w wr (· = b) ∧ F.len + sj.length ≤ s.length ∧ Hid (whole (calls (callP l) 8 s) = whole (ahead F (calls (callP l) 8 sj))))
    (fun _ wr => restAt b wr)
  case atStart => exact ⟨.nil, s, OwnCalls.nil _ _, HR.out, Only.refl _ _, by show 0 + s.length ≤ _; omega, by show _ = _; rw [ahead_nil]⟩
  case round =>
    obtain ⟨F, sj, how, hrw, hon, hln, HEj⟩ := hrel
    have HOW := Lib.hid how
    have HON := Lib.hid hon
    have HM : Hid (restAt b wr = sj.length) := restAt_of hrw
    have hzr : w.heap.size ≤ wr.heap.size := hon.size
    have c1 : wr.cell? ⟨b, 1, none⟩ = some (.string ⟨sj.toArray⟩) := hrw.cell 1
    have hsl := how.slice
    obtain ⟨A, cap, rfl, -⟩ := hsl
    have HQ := Lib.hid (readCall_any b g l nb HV.out 8 sj 1 wr (by omega) (by omega) (by omega) (HK.out.below (hon.belowRow (Nat.le_of_lt hbw))) hrw)
    clear how hrw hon
    by_cases hsj : sj = []
    · have HN : Hid (whole (calls (callP l) 8 s) = some F) := by
        show _ = _
        rw [HEj.out, hsj, whole_end]
      have h1 : (⟨sj.toArray⟩ : ByteArray).toList = [] := by rw [ByteArray.toList_eq]; exact hsj
      generalize (⟨sj.toArray⟩ : ByteArray) = y at c1 h1
      clear HQ hsj
      go_wp2
      go_ret
      exact ⟨.inl ⟨F, _, HN.out, rfl, HOW.out⟩, HON.out⟩
    · have HNE : Hid (sj ≠ []) := hsj
      have h1 : ¬ (⟨sj.toArray⟩ : ByteArray).toList = [] := by rw [ByteArray.toList_eq]; exact hsj
      generalize (⟨sj.toArray⟩ : ByteArray) = y at c1 h1
      have h2 : (y.toList == []) = false := by simp [h1]
      have HOL := Lib.hid HOW.out.lt
      clear hsj
      go_wp2_with fail
      refine Calls.mono HQ.out ?_
      clear c1 h1 h2
      rintro e w5 ⟨(⟨c2, k2, r3, v2, hq, rfl, hic, hr5⟩ | ⟨hq, m, rfl⟩), ho5⟩
      · obtain ⟨r3', hr3', hca, hc41, hlen3⟩ := readA_some (callP_shut l) hq
        have HE5 : Hid (whole (calls (callP l) 8 s) = whole (ahead (F.app (.cons c2 k2 .nil)) (calls (callP l) 8 r3))) := by
          show _ = _
          rw [HEj.out, ahead_step F (callP_shut l) hq]
        obtain ⟨xs, hown, hvals⟩ := HOW.out.only ho5 hbw
        obtain ⟨t2, x2, rfl⟩ := hic.iface
        have HOWN := Lib.hid hown
        have HVAL := Lib.hid hvals
        have HIC := Lib.hid hic
        have HR5 := Lib.hid hr5
        have HO5 := Lib.hid (HON.out.trans ho5)
        have hz5 : w.heap.size ≤ w5.heap.size := HO5.out.size
        clear hq hca hr3' hic hr5 ho5 hown hvals HQ HEj HOW
        obtain ⟨i0, hi0, hz0, hz1, hz2'⟩ := info_parts info_call
        have I0 := Lib.hid hi0
        have Z0 := Lib.hid hz0
        have Z1 := Lib.hid hz1
        have Z2 := Lib.hid hz2'
        have HNW := Lib.hid (World.news_of_block (cs := #[.iface t2 x2]) (t := 125) (fr := (0, 0)) (heap_alloc_new w5 (.cells #[.iface t2 x2] 125)))
        clear hi0 hz0 hz1 hz2'
        go_wp2_with (at_builtin; go_loud (refine wpList_append_own_at _ rfl _ _ 85 rfl w.heap.size 125 i0 .nilIface 1 16 Tryz.underlying85 I0.out Z0.out Z1.out Z2.out rfl (by decide) _ F.len xs rfl (HOWN.out.alloc _) ⟨w5.heap.size, 0, none⟩ 1 1 [.iface t2 x2] rfl rfl HNW.out (by simp [Value.oneCell']) (by unfold maxLen; omega) (by omega) (by have := HO5.out.size; simp; omega) ?_); intro v3 w6 hown3 hgrow _ hat; obtain ⟨g3, cap3, rfl⟩ := own_form hown3 (by omega); have H3 := Lib.hid hown3; have HG := Lib.hid hgrow; have HA := Lib.hid hat; clear hown3 hgrow hat)
        have HOW6 : Hid (OwnCalls w6 w.heap.size (.slice (some ⟨g3, 0, none⟩) (F.len + 1) cap3) (F.app (.cons c2 k2 .nil))) :=
          OwnCalls.more HVAL.out HIC.out hzr (fun x e => (HOL.out x e).2) ((Below.refl _ w5).alloc (Nat.le_refl _) (.cells #[.iface t2 x2] 125)) HG.out H3.out HA.out
        have hgb : Below w.heap.size (w5.alloc (.cells #[.iface t2 x2] 125)) w6 := (Below.refl _ _).grown HG.out (by simp; omega) (fun x e => (HOL.out x e).1)
        have HR6 : Hid (Row w6 b 105 #[.slice (some ⟨g, 0, none⟩) l.length l.length, .string ⟨r3.toArray⟩]) := (HR5.out.alloc _).below hgb hbw
        have HO6 : Hid (Only w w6 (· = b)) := (HO5.out.andBelow ((Below.refl _ w5).alloc (Nat.le_refl _) (.cells #[.iface t2 x2] 125))).andLow hgb
        have HM6 : Hid (restAt b w6 = r3.length) := restAt_of HR6.out
        have hln6 : (F.app (.cons c2 k2 .nil)).len + r3.length ≤ s.length := by rw [Forest.app_len]; show F.len + (0 + 1) + r3.length ≤ _; omega
        clear HVAL HOWN HIC HG H3 HA HOL hgb HR5 HO5 HNW I0 Z0 Z1 Z2
        go_wp2
        go_roundw
        case rel => exact ⟨_, r3, HOW6.out, HR6.out, HO6.out, hln6, HE5⟩
        case measure => rw [HM6.out, HM.out]; omega
      · have HN : Hid (whole (calls (callP l) 8 s) = none) := by
          show _ = _
          rw [HEj.out, whole_fail F hq HNE.out]
        have HO5 := Lib.hid (HON.out.trans ho5)
        clear hq ho5 HQ
        go_wp2
        exact ⟨rfl, .inr ⟨HN.out, _, rfl⟩, HO5.out⟩

/-- The deferred closure where nothing has panicked: it turns nothing. -/
theorem traceCatch_idle (p q : Addr) (w : World) :
    CallsD Tryz.prog 72 #[.pointer (some p), .pointer (some q)] .returning w fun e u' w' => e = .returned (.tuple #[]) ∧ u' = .returning ∧ w = w' := by
  refine callsD_of_wpS Tryz.func72 rfl fun c₀ cs hu => ?_
  apply wpS_seq
  apply wpS_region
  simp [wpOpsS, go_sem, recoverD, hu, Tryz.ntmps72, Exit.thenS]
  refine wpS_cond (t := false) (by simp [Act.eval, Array.replicate]) ?_
  simp only [Bool.false_eq_true, if_false]
  refine wpS_of_wp (wp_skip ?_)
  cases c₀
  simp_all [bodyPostS, results, Tryz.results72]

/-- The deferred closure where the reader has given up: no calls, false. -/
theorem traceCatch_panicking (a : Nat) (x : Value) (y : Bool) (m : ByteArray) (w : World) (hp : Row w a 85 #[x]) (hx : ∃ A n c, x = .slice A n c) (hq : Row w (a + 1) 4 #[.bool y]) :
    CallsD Tryz.prog 72 #[.pointer (some ⟨a, 0, none⟩), .pointer (some ⟨a + 1, 0, none⟩)] (.panicking [{ v := .iface 9 (.string m), recovered := false }]) w fun e u' w' =>
      e = .returned (.tuple #[]) ∧ u' = .panicking [{ v := .iface 9 (.string m), recovered := true }] ∧ w' = (w.setCell ⟨a, 0, none⟩ (.slice none 0 0)).setCell ⟨a + 1, 0, none⟩ (.bool false) := by
  obtain ⟨A, n, c, rfl⟩ := hx
  have p0 : w.cell? ⟨a, 0, none⟩ = some (.slice A n c) := hp.cell 0
  have pz : w.frozen? ⟨a, 0, none⟩ = false := hp.free 0
  have hq1 : Row (w.setCell ⟨a, 0, none⟩ (.slice none 0 0)) (a + 1) 4 #[.bool y] := hq.far (p := ⟨a, 0, none⟩) (show a + 1 ≠ a by omega) _
  have q0 : (w.setCell ⟨a, 0, none⟩ (.slice none 0 0)).cell? ⟨a + 1, 0, none⟩ = some (.bool y) := hq1.cell 0
  have qz : (w.setCell ⟨a, 0, none⟩ (.slice none 0 0)).frozen? ⟨a + 1, 0, none⟩ = false := hq1.free 0
  refine callsD_of_wpS Tryz.func72 rfl fun c₀ cs hu => ?_
  apply wpS_seq
  apply wpS_region
  simp [wpOpsS, go_sem, recoverD, hu, Tryz.ntmps72, Exit.thenS]
  refine wpS_cond (t := true) (by simp [Act.eval, Array.replicate]) ?_
  simp only [if_true]
  apply wpS_region
  simp [wpOpsS, go_sem, p0, pz, q0, qz, bodyPostS, results, Tryz.results72]

end Go.Proofs.YtcpiojliakgdlaaGreatDoor
