/- Joined: Fb Fc Fd. -/
import Derived.Test.YtifkmehnikfihaaGreatU03
import Derived.Test.YtifkmehnikfihaaGreatU06
import Derived.Test.YtifkmehnikfihaaGreatSh
import Derived.Maps.AppendAt
import Derived.Deep.AppendLies
/- The program's reader of traces: skip, readName, newCall. -/
namespace Go.Proofs.YtifkmehnikfihaaGreat
open Go.RowKit

/-- Is this byte the next one? -/
def headIs (s : List UInt8) (c : UInt8) : Bool := match s with
  | [] => false
  | x :: _ => decide (x = c)
/-- What is left behind it. -/
def tailIf (s : List UInt8) (c : UInt8) : List UInt8 := if headIs s c = true then s.drop 1 else s
theorem headIs_yes {s : List UInt8} {c : UInt8} (h : headIs s c = true) : ∃ r, s = c :: r ∧ tailIf s c = r := by
  cases s with
  | nil => cases h
  | cons x r =>
    have hx : x = c := of_decide_eq_true h
    refine ⟨r, by rw [hx], ?_⟩
    unfold tailIf
    rw [if_pos h]; rfl
theorem headIs_no {s : List UInt8} {c : UInt8} (h : headIs s c = false) : (∀ x u, s = x :: u → x ≠ c) ∧ tailIf s c = s := by
  refine ⟨fun x u e hx => ?_, ?_⟩
  · subst e
    exact absurd hx (of_decide_eq_false h)
  · unfold tailIf
    rw [if_neg (by rw [h]; decide)]
theorem hasPrefix_one (s : List UInt8) (c : UInt8) : Lib.hasPrefix s [c] = headIs s c := by
  unfold Lib.hasPrefix headIs
  cases s with
  | nil => rfl
  | cons x r =>
    rw [List.isPrefixOf_cons_cons]
    dsimp only
    by_cases h : x = c
    · subst h; simp
    · rw [decide_eq_false h, show (c == x) = false from beq_eq_false_iff_ne.2 (fun e => h e.symm)]; rfl
theorem trimPrefix_one (s : List UInt8) (c : UInt8) : Lib.trimPrefix s [c] = tailIf s c := by
  unfold Lib.trimPrefix tailIf
  rw [hasPrefix_one]
  rfl

set_option maxRecDepth 100000 in
set_option maxHeartbeats 400000 in
theorem traceSkip_raw (b : Nat) (nv : Value) (s p : ByteArray) (w : World) (hr : Row w b 179 #[nv, .string s]) :
    Calls Tryz.prog 241 #[.pointer (some ⟨b, 0, none⟩), .string p] w fun e w' => e = .returned (.bool (Lib.hasPrefix s.data.toList p.data.toList)) ∧ w' = w.setCell ⟨b, 1, none⟩ (.string ⟨(Lib.trimPrefix s.data.toList p.data.toList).toArray⟩) := by
  have c1 : w.cell? ⟨b, 1, none⟩ = some (.string s) := hr.cell 1
  have z1 : w.frozen? ⟨b, 1, none⟩ = false := hr.free 1
  clear hr
  go_enter Tryz.func241, Tryz.ntmps241
  go_wp2_with fail
  refine (Tryz.strings_CutPrefix s p _).mono ?_
  rintro e w' ⟨rfl, hw⟩
  rw [hw]
  go_wp2
  go_ret
  exact ⟨rfl, rfl⟩

/-- One byte is passed over if it stands next. -/
theorem traceSkip_any (b : Nat) (nv : Value) (s : List UInt8) (c : UInt8) (w : World) (hr : Row w b 179 #[nv, .string ⟨s.toArray⟩]) :
    Calls Tryz.prog 241 #[.pointer (some ⟨b, 0, none⟩), .string ⟨#[c]⟩] w fun e w' => e = .returned (.bool (headIs s c)) ∧ Row w' b 179 #[nv, .string ⟨(tailIf s c).toArray⟩] ∧ Only w w' (· = b) := by
  refine (traceSkip_raw b nv ⟨s.toArray⟩ ⟨#[c]⟩ w hr).mono ?_
  rintro e w' ⟨rfl, rfl⟩
  have h1 : Lib.hasPrefix (⟨s.toArray⟩ : ByteArray).data.toList (⟨#[c]⟩ : ByteArray).data.toList = headIs s c := hasPrefix_one s c
  have h2 : Lib.trimPrefix (⟨s.toArray⟩ : ByteArray).data.toList (⟨#[c]⟩ : ByteArray).data.toList = tailIf s c := trimPrefix_one s c
  rw [h1, h2]
  exact ⟨rfl, hr.put 1 _, (Only.refl w _).set 1 _⟩

/-- The nodes' names lie below block 'b'. -/
def Known (w : World) (b g : Nat) (l : List Seg) (nb : Nat → Nat) : Prop :=
  g < b ∧ ∀ i x, l[i]? = some x → nb i < b ∧ w.cell? ⟨g, i, none⟩ = some (.pointer (some ⟨nb i, 0, none⟩)) ∧ w.cell? ⟨nb i, 0, none⟩ = some (.string x.name)
theorem Known.below {w w' : World} {b g : Nat} {l : List Seg} {nb : Nat → Nat} (h : Known w b g l nb) (hb : Below b w w') : Known w' b g l nb :=
  ⟨h.1, fun i x hx => by
    obtain ⟨h1, h2, h3⟩ := h.2 i x hx
    exact ⟨h1, (hb.cell (p := ⟨g, i, none⟩) h.1).trans h2, (hb.cell (p := ⟨nb i, 0, none⟩) h1).trans h3⟩⟩
theorem Only.belowRow {w w' : World} {b : Nat} (ho : Only w w' (· = b)) (hb : b ≤ w.heap.size) : Below b w w' :=
  Only.below (Below.refl b w) ho hb (fun k h1 h2 => by omega)

theorem taken_take_succ {l : List Seg} {c d : UInt8} {k : Nat} (hk : k < l.length) (hd : l[k].name = ⟨#[d]⟩) (hcd : c ≠ d) (h : takenB (l.take k) ⟨#[c]⟩ = false) : takenB (l.take (k + 1)) ⟨#[c]⟩ = false := by
  rw [takenB_take_succ hk, h, hd]
  rw [Bool.false_or, Bool.eq_false_iff]
  intro he
  have := sameB_iff.1 he
  injection this with this
  have h3 : [d] = [c] := congrArg Array.toList this
  injection h3 with h3
  exact hcd h3.symm
theorem callP_at {l : List Seg} (hv : validB l = true) {c : UInt8} {k : Nat} (hk : k < l.length) (hd : l[k].name = ⟨#[c]⟩) : callP l c = true := by
  rw [callP_taken hv]
  exact List.any_eq_true.2 ⟨l[k], List.getElem_mem hk, sameB_iff.2 hd⟩

/-- What readName has done. -/
def TraceName (w : World) (b : Nat) (l : List Seg) (nv : Value) (s : List UInt8) (e : Ending) (w' : World) : Prop :=
  ((∃ c r, s = c :: r ∧ callP l c = true ∧ e = .returned (.string ⟨#[c]⟩) ∧ Row w' b 179 #[nv, .string ⟨r.toArray⟩]) ∨ ((∀ c r, s = c :: r → callP l c = false) ∧ Died e)) ∧ Only w w' (· = b)

set_option maxRecDepth 100000 in
set_option maxHeartbeats 1000000 in
theorem traceName_any (b g : Nat) (l : List Seg) (nb : Nat → Nat) (s : List UInt8) (w : World) (hk : Known w b g l nb) (hv : validB l = true) (hr : Row w b 179 #[.slice (some ⟨g, 0, none⟩) l.length l.length, .string ⟨s.toArray⟩]) :
    Calls Tryz.prog 240 #[.pointer (some ⟨b, 0, none⟩)] w (TraceName w b l (.slice (some ⟨g, 0, none⟩) l.length l.length) s) := by
  have hl8 := (valid_all hv).2.1
  have HV := Lib.hid hv
  have HK : Hid (Known w b g l nb) := hk
  have c0 : w.cell? ⟨b, 0, none⟩ = some (.slice (some ⟨g, 0, none⟩) l.length l.length) := hr.cell 0
  have HR := Lib.hid hr
  have hbw := hr.lt
  clear hv hk hr
  go_enter Tryz.func240, Tryz.ntmps240
  go_wp2
  go_loopw [10] (fun i wr => ∃ k : Nat, k ≤ l.length ∧ i = .int .i64 k ∧ Row wr b 179 #[.slice (some ⟨g, 0, none⟩) l.length l.length, .string ⟨s.toArray⟩] ∧ Only w wr (· = b) ∧ Hid (∀ c r, s = c :: r → takenB (l.take k) ⟨#[c]⟩ = false))
    (fun i _ => l.length - (intOf i).toNat)
  case atStart => exact ⟨0, Nat.zero_le _, rfl, HR.out, Only.refl _ _, fun c r _ => rfl⟩
  case round =>
    obtain ⟨k, hk, rfl, hr, ho, HT⟩ := hrel
    clear c0
    by_cases hlt : k < l.length
    · obtain ⟨hnb, gk, nk⟩ := (HK.out.below (ho.belowRow (Nat.le_of_lt hbw))).2 k l[k] (List.getElem?_eq_getElem hlt)
      obtain ⟨d, hd, -, -⟩ := nameOk_one (validB_names HV.out (List.getElem_mem hlt))
      rw [hd] at nk
      have HD := Lib.hid hd
      have HR1 := Lib.hid hr
      have HO := Lib.hid ho
      have hwz := hr.lt
      clear hd hr ho
      cases hh : headIs s d with
      | true =>
        obtain ⟨r, hs, htl⟩ := headIs_yes hh
        have HH := Lib.hid hh
        have HTL := Lib.hid htl
        have HS := Lib.hid hs
        clear hh htl hs
        go_wp2_with fail
        refine (traceSkip_any b _ s d _ HR1.out).mono ?_
        rw [HH.out, HTL.out]
        rintro e w1 ⟨rfl, hr1, ho1⟩
        have nk1 : w1.cell? ⟨nb k, 0, none⟩ = some (.string ⟨#[d]⟩) := ((ho1.belowRow (Nat.le_of_lt hwz)).cell (p := ⟨nb k, 0, none⟩) hnb).trans nk
        have HR2 := Lib.hid hr1
        have HO2 := Lib.hid (HO.out.trans ho1)
        clear hr1 ho1
        go_wp2
        go_ret
        exact ⟨.inl ⟨d, r, HS.out, callP_at HV.out hlt HD.out, rfl, HR2.out⟩, HO2.out⟩
      | false =>
        obtain ⟨hs, htl⟩ := headIs_no hh
        have HH := Lib.hid hh
        have HTL := Lib.hid htl
        have HS := Lib.hid hs
        clear hh htl hs
        go_wp2_with fail
        refine (traceSkip_any b _ s d _ HR1.out).mono ?_
        rw [HH.out, HTL.out]
        rintro e w1 ⟨rfl, hr1, ho1⟩
        have HR2 := Lib.hid hr1
        have HO2 := Lib.hid (HO.out.trans ho1)
        clear hr1 ho1
        go_wp2
        go_roundw
        case rel => exact ⟨k + 1, by omega, by go_num, HR2.out, HO2.out, fun c r e => taken_take_succ hlt HD.out (HS.out c r e) (HT.out c r e)⟩
        case measure => simp [intOf]; omega
    · obtain rfl : k = l.length := by omega
      have HN : Hid (∀ c r, s = c :: r → callP l c = false) := fun c r e => by
        rw [callP_taken HV.out]
        have := HT.out c r e
        rwa [List.take_length] at this
      have HO := Lib.hid ho
      clear ho hr
      go_wp2
      exact ⟨rfl, .inr ⟨HN.out, _, rfl⟩, HO.out⟩

/-- A call that makes none, and one that makes some. -/
def leafV (c : UInt8) : Value := .iface 284 (.agg #[.string ⟨#[c]⟩])
def branchV (c : UInt8) (g n cap : Nat) : Value := .iface 286 (.agg #[.string ⟨#[c]⟩, .slice (some ⟨g, 0, none⟩) n cap])

set_option maxRecDepth 100000 in
theorem newCall_leaf (c : UInt8) (A : Option Addr) (cap : Nat) (w : World) :
    Calls Tryz.prog 242 #[.string ⟨#[c]⟩, .slice A 0 cap] w fun e w' => e = .returned (leafV c) ∧ w = w' := by
  go_enter Tryz.func242, Tryz.ntmps242
  go_wp2
  go_ret
  exact ⟨rfl, rfl⟩
set_option maxRecDepth 100000 in
theorem newCall_branch (c : UInt8) (g n cap : Nat) (w : World) (hn : 0 < n) :
    Calls Tryz.prog 242 #[.string ⟨#[c]⟩, .slice (some ⟨g, 0, none⟩) n cap] w fun e w' => e = .returned (branchV c g n cap) ∧ w = w' := by
  have h0 : ((n : Int) == 0) = false := by rw [beq_eq_false_iff_ne]; omega
  have h1 : ¬ (n : Int) = 0 := by omega
  go_enter Tryz.func242, Tryz.ntmps242
  go_wp2
  go_ret
  exact ⟨rfl, rfl⟩

end Go.Proofs.YtifkmehnikfihaaGreat
/- The program's calls in memory, and how one is read: readCall. -/
namespace Go.Proofs.YtifkmehnikfihaaGreat
open Go.RowKit

theorem cell_same {w w' : World} {g : Nat} (h : w'.heap[g]? = w.heap[g]?) (i : Nat) : w'.cell? ⟨g, i, none⟩ = w.cell? ⟨g, i, none⟩ := by
  simp [World.cell?, h]

/-- The calls 'f' lie in block 'g' from place 'o' on, those within them in blocks that 'S' names. -/
def Cells (w : World) (S : Nat → Prop) : Forest → Nat → Nat → Prop
  | .nil, _, _ => True
  | .cons c k r, g, o => (∃ v, w.cell? ⟨g, o, none⟩ = some v ∧ ((k.isNil = true ∧ v = leafV c) ∨ (k.isNil = false ∧ ∃ h cap, v = branchV c h k.len cap ∧ S h ∧ Cells w S k h 0))) ∧ Cells w S r g (o + 1)
def IsCall (w : World) (S : Nat → Prop) (c : UInt8) (k : Forest) (v : Value) : Prop :=
  (k.isNil = true ∧ v = leafV c) ∨ (k.isNil = false ∧ ∃ h cap, v = branchV c h k.len cap ∧ S h ∧ Cells w S k h 0)
theorem Cells.keep {w w' : World} {S S' : Nat → Prop} (hS : ∀ q, S q → S' q ∧ w'.heap[q]? = w.heap[q]?) : ∀ (f : Forest) (g o : Nat), w'.heap[g]? = w.heap[g]? → Cells w S f g o → Cells w' S' f g o
  | .nil, _, _, _, _ => trivial
  | .cons c k r, g, o, hg, h => by
    obtain ⟨⟨v, hv, hc⟩, hr⟩ := h
    refine ⟨⟨v, (cell_same hg o).trans hv, ?_⟩, Cells.keep hS r g (o + 1) hg hr⟩
    rcases hc with hc | ⟨h1, q, cap, e, hs, hk⟩
    · exact .inl hc
    · exact .inr ⟨h1, q, cap, e, (hS q hs).1, Cells.keep hS k q 0 (hS q hs).2 hk⟩
theorem IsCall.keep {w w' : World} {S S' : Nat → Prop} (hS : ∀ q, S q → S' q ∧ w'.heap[q]? = w.heap[q]?) {c : UInt8} {k : Forest} {v : Value} (h : IsCall w S c k v) : IsCall w' S' c k v := by
  rcases h with hc | ⟨h1, q, cap, e, hs, hk⟩
  · exact .inl hc
  · exact .inr ⟨h1, q, cap, e, (hS q hs).1, Cells.keep hS k q 0 (hS q hs).2 hk⟩

/-- A list of values is the calls 'f'. -/
def Vals (w : World) (S : Nat → Prop) : Forest → List Value → Prop
  | .nil, xs => xs = []
  | .cons c k r, xs => ∃ v vs, xs = v :: vs ∧ IsCall w S c k v ∧ Vals w S r vs
theorem Vals.keep {w w' : World} {S S' : Nat → Prop} (hS : ∀ q, S q → S' q ∧ w'.heap[q]? = w.heap[q]?) : ∀ (f : Forest) (xs : List Value), Vals w S f xs → Vals w' S' f xs
  | .nil, _, h => h
  | .cons c k r, xs, h => by
    obtain ⟨v, vs, e, hc, hr⟩ := h
    exact ⟨v, vs, e, hc.keep hS, Vals.keep hS r vs hr⟩
theorem Vals.snoc {w : World} {S : Nat → Prop} {c : UInt8} {k : Forest} {v : Value} (hc : IsCall w S c k v) : ∀ (f : Forest) (xs : List Value), Vals w S f xs → Vals w S (f.app (.cons c k .nil)) (xs ++ [v])
  | .nil, xs, h => by
    have h' : xs = [] := h
    subst h'
    exact ⟨v, [], rfl, hc, rfl⟩
  | .cons c' k' r, xs, h => by
    obtain ⟨v', vs, e, hc', hr⟩ := h
    subst e
    exact ⟨v', vs ++ [v], rfl, hc', Vals.snoc hc r vs hr⟩
theorem Vals.len {w : World} {S : Nat → Prop} : ∀ (f : Forest) (xs : List Value), Vals w S f xs → xs.length = f.len
  | .nil, xs, h => by
    have h' : xs = [] := h
    subst h'; rfl
  | .cons c k r, xs, h => by
    obtain ⟨v, vs, e, _, hr⟩ := h
    subst e
    show vs.length + 1 = r.len + 1
    rw [Vals.len r vs hr]
theorem Vals.cells {w : World} {S : Nat → Prop} {g : Nat} : ∀ (f : Forest) (xs : List Value) (o : Nat), Vals w S f xs → (∀ i, i < xs.length → w.cell? ⟨g, o + i, none⟩ = xs[i]?) → Cells w S f g o
  | .nil, _, _, _, _ => trivial
  | .cons c k r, xs, o, h, hx => by
    obtain ⟨v, vs, e, hc, hr⟩ := h
    subst e
    refine ⟨⟨v, ?_, hc⟩, Vals.cells r vs (o + 1) hr fun i hi => ?_⟩
    · exact hx 0 (by simp)
    · have := hx (i + 1) (by simp; omega)
      rw [show o + 1 + i = o + (i + 1) by omega, this]
      simp

/-- A slice of calls that the reader makes, block 'B' and later being its own. -/
def OwnCalls (w : World) (B : Nat) (v : Value) (f : Forest) : Prop :=
  ∃ xs, w.ownsRow B 135 1 v f.len xs ∧ Vals w (fun q => B ≤ q ∧ q < w.heap.size ∧ v.ownBlock ≠ some q) f xs
/-- A slice of calls that is read. -/
def SliceIs (w : World) (S : Nat → Prop) (v : Value) (f : Forest) : Prop :=
  ∃ A cap, v = .slice A f.len cap ∧ (0 < f.len → ∃ g, A = some ⟨g, 0, none⟩ ∧ S g ∧ Cells w S f g 0)
theorem SliceIs.keep {w w' : World} {S S' : Nat → Prop} (hS : ∀ q, S q → S' q ∧ w'.heap[q]? = w.heap[q]?) {v : Value} {f : Forest} (h : SliceIs w S v f) : SliceIs w' S' v f := by
  obtain ⟨A, cap, e, h⟩ := h
  refine ⟨A, cap, e, fun hl => ?_⟩
  obtain ⟨g, e1, hs, hc⟩ := h hl
  exact ⟨g, e1, (hS g hs).1, Cells.keep hS f g 0 (hS g hs).2 hc⟩
theorem OwnCalls.form {w : World} {B : Nat} {v : Value} {f : Forest} (h : OwnCalls w B v f) (hf : f.isNil = false) : ∃ g cap, v = .slice (some ⟨g, 0, none⟩) f.len cap ∧ B ≤ g ∧ g < w.heap.size ∧ Cells w (fun q => B ≤ q ∧ q < w.heap.size) f g 0 := by
  obtain ⟨xs, hown, hv⟩ := h
  rw [Forest.isNil_len] at hf
  have hl : f.len ≠ 0 := of_decide_eq_false hf
  have hx := Vals.len f xs hv
  rcases hown.2 with ⟨rfl, h0⟩ | ⟨g, cap, cur, rfl, hg, hh, r⟩
  · exact absurd h0 hl
  · refine ⟨g, cap, rfl, hg, (Array.getElem?_eq_some_iff.1 hh).1, ?_⟩
    refine Vals.cells f xs 0 (Vals.keep (fun q h => ⟨⟨h.1, h.2.1⟩, rfl⟩) f xs hv) fun i hi => ?_
    rw [Nat.zero_add]
    exact World.ownsRow.cellAt hown i (by omega)
theorem OwnCalls.slice {w : World} {B : Nat} {v : Value} {f : Forest} (h : OwnCalls w B v f) : SliceIs w (fun q => B ≤ q ∧ q < w.heap.size) v f := by
  cases hf : f.isNil with
  | false =>
    obtain ⟨g, cap, e, h1, h2, h3⟩ := h.form hf
    exact ⟨_, cap, e, fun _ => ⟨g, rfl, ⟨h1, h2⟩, h3⟩⟩
  | true =>
    rw [Forest.isNil_len] at hf
    have hl : f.len = 0 := of_decide_eq_true hf
    obtain ⟨xs, hown, hv⟩ := h
    rcases hown.2 with ⟨rfl, h0⟩ | ⟨g, cap, cur, rfl, hg, hh, r⟩
    · exact ⟨none, 0, by rw [hl], fun h => by omega⟩
    · exact ⟨_, cap, rfl, fun h => by omega⟩
theorem OwnCalls.nil (w : World) (B : Nat) : OwnCalls w B (.slice none 0 0) .nil := ⟨[], World.ownsRow_nil w B _ 1, rfl⟩
/-- What is written elsewhere leaves the slice as it is. -/
theorem OwnCalls.only {w w' : World} {B b : Nat} {v : Value} {f : Forest} (h : OwnCalls w B v f) (ho : Only w w' (· = b)) (hb : b < B) : OwnCalls w' B v f := by
  obtain ⟨xs, hown, hv⟩ := h
  refine ⟨xs, own_keep hown fun g hg => ?_, Vals.keep (fun q h => ⟨⟨h.1, Nat.lt_of_lt_of_le h.2.1 ho.size, h.2.2⟩, ho.block q h.2.1 (by have := h.1; omega)⟩) f xs hv⟩
  have := hown.lt g hg
  exact ho.block g this.2 (by omega)
/-- One more call is appended. -/
theorem OwnCalls.more {w W w' : World} {B c0 : Nat} {v v' u : Value} {f k : Forest} {c : UInt8} {xs : List Value} (hv : Vals w (fun q => B ≤ q ∧ q < w.heap.size ∧ v.ownBlock ≠ some q) f xs) 
    (hu : IsCall w (fun q => c0 ≤ q ∧ q < w.heap.size) c k u) (hc0 : B ≤ c0) (hvc : ∀ q, v.ownBlock = some q → q < c0)
    (hW : Below w.heap.size w W) (hg : W.grownBy w' v.ownBlock) (hown' : w'.ownsRow B 135 1 v' (f.len + 1) (xs ++ [u])) (hat : v'.ownBlock = v.ownBlock ∨ v'.ownBlock = some W.heap.size) :
    OwnCalls w' B v' (f.app (.cons c k .nil)) := by
  have hs := hW.size
  have hs2 := hg.size
  have keep : ∀ q, q < w.heap.size → v.ownBlock ≠ some q → w'.heap[q]? = w.heap[q]? := fun q h1 h2 => (hg.block q (by omega) (fun e => h2 e.symm)).trans (hW.block q h1)
  have ne : ∀ q, q < w.heap.size → v.ownBlock ≠ some q → v'.ownBlock ≠ some q := fun q h1 h2 => by
    rcases hat with e | e
    · rw [e]; exact h2
    · rw [e]; intro he; injection he with he; omega
  refine ⟨xs ++ [u], by rw [Forest.app_len]; exact hown', Vals.snoc ?_ f xs (Vals.keep (fun q h => ⟨⟨h.1, by omega, ne q h.2.1 h.2.2⟩, keep q h.2.1 h.2.2⟩) f xs hv)⟩
  refine hu.keep fun q h => ?_
  have h2 : v.ownBlock ≠ some q := fun e => by have := hvc q e; omega
  exact ⟨⟨by omega, by omega, ne q h.2 h2⟩, keep q h.2 h2⟩

/-- What one call reads. -/
def named (c : UInt8) : Got → Option (UInt8 × Forest × List UInt8)
  | none => none
  | some (k, r) => some (c, k, r)
def readA (P : UInt8 → Bool) (d : Nat) : List UInt8 → Option (UInt8 × Forest × List UInt8)
  | [] => none
  | c :: r => named c (callA P d c r)
theorem readA_zero (P : UInt8 → Bool) (s : List UInt8) : readA P 0 s = none := by cases s <;> rfl
theorem readA_no {P : UInt8 → Bool} {d : Nat} {s : List UInt8} (h : ∀ c r, s = c :: r → P c = false) : readA P d s = none := by
  cases s with
  | nil => rfl
  | cons c r => unfold readA; dsimp only; rw [callA_no (h c r rfl)]; rfl
theorem readA_some {P : UInt8 → Bool} {d : Nat} {s r' : List UInt8} {c : UInt8} {k : Forest} (hP : P 41 = false) (h : readA P d s = some (c, k, r')) : ∃ r, s = c :: r ∧ callA P d c r = some (k, r') ∧ c ≠ 41 ∧ r'.length < s.length := by
  cases s with
  | nil => cases h
  | cons x r =>
    unfold readA named at h
    dsimp only at h
    cases hc : callA P d x r with
    | none => rw [hc] at h; cases h
    | some y =>
      rw [hc] at h
      injection h with h
      injection h with h1 h2
      injection h2 with h2 h3
      subst h1
      refine ⟨r, rfl, ?_, ?_, ?_⟩
      · rw [hc, ← h2, ← h3]
      · rintro rfl
        rw [callA_no hP] at hc
        cases hc
      · have := callA_less P d x r y.1 y.2 (by rw [hc])
        rw [← h3]
        simp
        omega
theorem closed_app {f : Forest} (h : f.isNil = false) (u : List UInt8) : closed (some (f, 41 :: u)) = some (f, u) := by
  cases f with
  | nil => cases h
  | cons c k r => rfl
theorem closed_end (f : Forest) : closed (some (f, [])) = none := by cases f <;> rfl
theorem closed_first {P : UInt8 → Bool} {d : Nat} {s : List UInt8} (h : readA P d s = none) : closed (calls P d s) = none := by
  cases s with
  | nil => rfl
  | cons c r =>
    by_cases hc : c = 41
    · subst hc; rfl
    · have h1 : callA P d c r = none := by
        unfold readA named at h
        dsimp only at h
        cases hx : callA P d c r with
        | none => rfl
        | some y => rw [hx] at h; cases h
      rw [calls_cons P d r hc, h1]; rfl
theorem closed_next {P : UInt8 → Bool} {d : Nat} {s : List UInt8} (f : Forest) (h : readA P d s = none) (hs : ∀ x u, s = x :: u → x ≠ 41) : closed (ahead f (calls P d s)) = none := by
  cases s with
  | nil => rw [calls_nil]; show closed (some (f.app .nil, [])) = none; exact closed_end _
  | cons c r =>
    have h1 : callA P d c r = none := by
      unfold readA named at h
      dsimp only at h
      cases hx : callA P d c r with
      | none => rfl
      | some y => rw [hx] at h; cases h
    rw [calls_fail f (hs c r rfl) h1]; rfl
theorem ahead_step {P : UInt8 → Bool} {d : Nat} {s r' : List UInt8} {c : UInt8} {k : Forest} (f : Forest) (hP : P 41 = false) (h : readA P d s = some (c, k, r')) : ahead f (calls P d s) = ahead (f.app (.cons c k .nil)) (calls P d r') := by
  obtain ⟨r, rfl, h1, h2, _⟩ := readA_some hP h
  exact calls_step f h2 h1
theorem ahead_shut {P : UInt8 → Bool} {d : Nat} (f : Forest) (u : List UInt8) : ahead f (calls P d (41 :: u)) = some (f, 41 :: u) := by
  rw [calls_close]; show some (f.app .nil, 41 :: u) = _; rw [Forest.app_nil]
theorem ahead_end {P : UInt8 → Bool} {d : Nat} (f : Forest) : ahead f (calls P d []) = some (f, []) := by
  rw [calls_nil]; show some (f.app .nil, []) = _; rw [Forest.app_nil]
theorem readA_leaf {P : UInt8 → Bool} {d : Nat} {c : UInt8} {r : List UInt8} (h : P c = true) (hr : ∀ x u, r = x :: u → x ≠ 40) : readA P (d + 1) (c :: r) = some (c, .nil, r) := by
  unfold readA; dsimp only; rw [callA_leaf h hr]; rfl
theorem readA_open {P : UInt8 → Bool} {d : Nat} {c : UInt8} {r : List UInt8} (h : P c = true) : readA P (d + 1) (c :: 40 :: r) = named c (closed (calls P d r)) := by
  unfold readA; dsimp only; rw [callA_open h]

/-- What readCall has done. -/
def CallPost (w : World) (b : Nat) (nv : Value) (R : Option (UInt8 × Forest × List UInt8)) (e : Ending) (w' : World) : Prop :=
  ((∃ c k r v, R = some (c, k, r) ∧ e = .returned v ∧ IsCall w' (fun q => w.heap.size ≤ q ∧ q < w'.heap.size) c k v ∧ Row w' b 179 #[nv, .string ⟨r.toArray⟩]) ∨ (R = none ∧ Died e)) ∧ Only w w' (· = b)

theorem info_call : (Tryz.prog.info? 135).map (fun i => (i.zero, i.size, i.bytes)) = some (some .nilIface, 1, 16) := by kernel_rfl
theorem oneCell_leaf (c : UInt8) : (leafV c).oneCell' = true := rfl
theorem IsCall.one {w : World} {S : Nat → Prop} {c : UInt8} {k : Forest} {v : Value} (h : IsCall w S c k v) : v.oneCell' = true := by
  rcases h with ⟨_, rfl⟩ | ⟨_, q, cap, rfl, _⟩ <;> rfl
theorem IsCall.iface {w : World} {S : Nat → Prop} {c : UInt8} {k : Forest} {v : Value} (h : IsCall w S c k v) : ∃ t x, v = .iface t x := by
  rcases h with ⟨_, rfl⟩ | ⟨_, q, cap, rfl, _⟩ <;> exact ⟨_, _, rfl⟩
/-- How much is left to read. -/
def restAt (b : Nat) (w : World) : Nat := match w.cell? ⟨b, 1, none⟩ with
  | some (.string x) => x.size
  | _ => 0
theorem restAt_of {b : Nat} {w : World} {nv : Value} {s : List UInt8} (h : Row w b 179 #[nv, .string ⟨s.toArray⟩]) : restAt b w = s.length := by
  unfold restAt
  rw [h.cell 1]
  rfl

end Go.Proofs.YtifkmehnikfihaaGreat
/- The program's reader of traces: readCall, readOutermost. -/
namespace Go.Proofs.YtifkmehnikfihaaGreat
open Go.RowKit

/-- The first call of a list: a slice of one. -/
theorem OwnCalls.one {w : World} {B c0 : Nat} {u : Value} {c : UInt8} {k : Forest} (hB : B ≤ c0) (hB2 : B ≤ w.heap.size) (hu : IsCall w (fun q => c0 ≤ q ∧ q < w.heap.size) c k u) :
    OwnCalls (w.alloc (.cells #[u] 135)) B (.slice (some ⟨w.heap.size, 0, none⟩) 1 1) (.cons c k .nil) := by
  refine ⟨[u], World.ownsRow_lit w #[u] 1 hB2 (by simp [maxLen]) rfl, u, [], rfl, ?_, rfl⟩
  refine hu.keep fun q h => ⟨⟨by omega, by simp; omega, ?_⟩, Below.heap_alloc w _ q h.2⟩
  intro e
  have : w.heap.size = q := by simpa [Value.ownBlock] using e
  omega

theorem Only.andLow {w w1 w2 : World} {may : Nat → Prop} (h : Only w w1 may) (hb : Below w.heap.size w1 w2) : Only w w2 may :=
  ⟨hb.os.trans h.os, hb.tape.trans h.tape, hb.output.trans h.output, Nat.le_trans h.size hb.size, fun k hk hm => (hb.block k hk).trans (h.block k hk hm)⟩
theorem OwnCalls.lt {w : World} {B : Nat} {v : Value} {f : Forest} (h : OwnCalls w B v f) : ∀ x, v.ownBlock = some x → B ≤ x ∧ x < w.heap.size := by
  obtain ⟨xs, hown, _⟩ := h
  exact fun x e => hown.lt x e

theorem Row.only {w w' : World} {b g : Nat} {t : TypeId} {cs : Array Value} (h : Row w g t cs) (ho : Only w w' (· = b)) (hg : g ≠ b) : Row w' g t cs := ho.row h hg

set_option maxRecDepth 100000 in
set_option maxHeartbeats 4000000 in
theorem readCall_any (b g : Nat) (l : List Seg) (nb : Nat → Nat) (hv : validB l = true) : ∀ (d : Nat) (s : List UInt8) (p : Int) (w : World), p = 9 - (d : Int) → d ≤ 8 → s.length ≤ 1048576 → Known w b g l nb →
    Row w b 179 #[.slice (some ⟨g, 0, none⟩) l.length l.length, .string ⟨s.toArray⟩] →
    Calls Tryz.prog 211 #[.pointer (some ⟨b, 0, none⟩), .int .i64 p] w (CallPost w b (.slice (some ⟨g, 0, none⟩) l.length l.length) (readA (callP l) d s)) := by
  intro d
  induction d with
  | zero =>
    intro s p w hp hd hs hk hr
    have h1 : ¬ p ≤ 8 := by omega
    have h2 : 8 < p := by omega
    have HR : Hid (readA (callP l) 0 s = none) := readA_zero _ s
    clear hp hd hk hr
    go_enter Tryz.func211, Tryz.ntmps211
    go_wp2
    exact ⟨rfl, .inr ⟨HR.out, _, rfl⟩, Only.refl _ _⟩
  | succ d ih =>
    intro s p w hp hd hs hk hr
    have IH := Lib.hid ih
    have HK : Hid (Known w b g l nb) := hk
    have HR := Lib.hid hr
    have HV := Lib.hid hv
    have h1 : p ≤ 8 := by omega
    have h0 : 1 ≤ p := by omega
    have HP : Hid (p + 1 = 9 - (d : Int)) := by show _ = _; omega
    have hbw := hr.lt
    clear ih hk hr hp hv
    go_enter Tryz.func211, Tryz.ntmps211
    go_wp2_with fail
    refine (traceName_any b g l nb s w HK.out HV.out HR.out).mono ?_
    rintro e w1 ⟨(⟨c, r, hsc, hcp, rfl, hr1⟩ | ⟨hno, m, rfl⟩), ho1⟩
    · have HS := Lib.hid hsc
      have HC := Lib.hid hcp
      have HR1 := Lib.hid hr1
      have HO1 := Lib.hid ho1
      have hsl : r.length < s.length := by rw [hsc]; simp
      clear hsc hcp hr1 ho1
      have HX := Lib.hid (traceSkip_any b _ r 40 w1 HR1.out)
      go_wp2_with fail
      refine Calls.mono HX.out ?_
      cases hh : headIs r 40 with
      | false =>
        obtain ⟨hne, htl⟩ := headIs_no hh
        rw [htl]
        have HN : Hid (readA (callP l) (d + 1) s = some (c, .nil, r)) := by
          show _ = _
          rw [HS.out]
          exact readA_leaf HC.out hne
        clear hh htl hne
        rintro e w2 ⟨rfl, hr2, ho2⟩
        have HR2 := Lib.hid hr2
        have HO2 := Lib.hid (HO1.out.trans ho2)
        clear hr2 ho2
        go_wp2_with fail
        refine (newCall_leaf c none 0 _).mono ?_
        rintro e w3 ⟨rfl, rfl⟩
        have HI : Hid (∀ S, IsCall w2 S c .nil (leafV c)) := fun S => .inl ⟨rfl, rfl⟩
        unfold leafV at HI ⊢
        go_wp2
        go_ret
        exact ⟨.inl ⟨c, .nil, r, _, HN.out, rfl, HI.out _, HR2.out⟩, HO2.out⟩
      | true =>
        obtain ⟨r1, hrc, htl⟩ := headIs_yes hh
        rw [htl]
        have HN : Hid (readA (callP l) (d + 1) s = named c (closed (calls (callP l) d r1))) := by
          show _ = _
          rw [HS.out, hrc]
          exact readA_open HC.out
        have hrl : r1.length < r.length := by rw [hrc]; simp
        clear hh htl hrc
        rintro e w2 ⟨rfl, hr2, ho2⟩
        have HR2 := Lib.hid hr2
        have HO2 := Lib.hid (HO1.out.trans ho2)
        have hz2 : w.heap.size ≤ w2.heap.size := (HO1.out.trans ho2).size
        have HQ := Lib.hid (IH.out r1 (p + 1) w2 HP.out (by omega) (by omega) (HK.out.below ((HO1.out.trans ho2).belowRow (Nat.le_of_lt hbw))) hr2)
        clear hr2 ho2 HX HS HR1 HO1 HR
        go_wp2_with fail
        refine Calls.mono HQ.out ?_
        rintro e w3 ⟨(⟨c1, k1, r2, v1, hq, rfl, hic, hr3⟩ | ⟨hq, m, rfl⟩), ho3⟩
        · obtain ⟨r1', hr1', hca, hc41, hlen⟩ := readA_some (callP_shut l) hq
          have HE : Hid (readA (callP l) (d + 1) s = named c (closed (ahead (.cons c1 k1 .nil) (calls (callP l) d r2)))) := by
            show _ = _
            rw [HN.out, ← ahead_nil (calls (callP l) d r1), ahead_step .nil (callP_shut l) hq]
            rfl
          obtain ⟨t1, x1, rfl⟩ := hic.iface
          have hz3 : w2.heap.size ≤ w3.heap.size := ho3.size
          have HW := Lib.hid (OwnCalls.one (B := w.heap.size) hz2 (by omega) hic)
          have HR3 : Hid (Row (w3.alloc (.cells #[.iface t1 x1] 135)) b 179 #[.slice (some ⟨g, 0, none⟩) l.length l.length, .string ⟨r2.toArray⟩]) := hr3.alloc _
          have HO3 : Hid (Only w (w3.alloc (.cells #[.iface t1 x1] 135)) (· = b)) := by
            refine Only.trans (HO2.out.trans ho3) ?_
            have hb : Below w3.heap.size w3 (w3.alloc (.cells #[.iface t1 x1] 135)) := (Below.refl _ w3).alloc (Nat.le_refl _) _
            exact (Only.refl w3 _).andBelow hb
          clear hq hca hr1' hic hr3 ho3 HQ HN HO2 HR2
          go_wp2_with fail
          generalize w3.alloc (.cells #[.iface t1 x1] 135) = W3 at *
          go_loopw [6] (fun v wr => ∃ (F : Forest) (sj : List UInt8), F.isNil = false ∧ OwnCalls wr w.heap.size v F ∧ Row wr b 179 #[.slice (some ⟨g, 0, none⟩) l.length l.length, .string ⟨sj.toArray⟩] ∧ Only w wr (· = b) ∧ F.len + sj.length ≤ s.length ∧ Hid (readA (callP l) (d + 1) s = named c (closed (ahead F (calls (callP l) d sj)))))
            (fun _ wr => restAt b wr)
          case atStart => exact ⟨_, r2, rfl, HW.out, HR3.out, HO3.out, by show 0 + 1 + r2.length ≤ _; omega, HE⟩
          case round =>
            obtain ⟨F, sj, hF, how, hrw, hon, hln, HEj⟩ := hrel
            clear HW HR3 HO3 HE
            obtain ⟨q, cap, rfl, hq1, hq2, hcells⟩ := how.form hF
            have HOW := Lib.hid how
            have HRW := Lib.hid hrw
            have HON := Lib.hid hon
            have HFN : Hid (F.isNil = false) := hF
            have HM : Hid (restAt b wr = sj.length) := restAt_of hrw
            have hFl : 0 < F.len := by rw [Forest.isNil_len] at hF; have := of_decide_eq_false hF; omega
            have hzr : w.heap.size ≤ wr.heap.size := hon.size
            have HCL := Lib.hid hcells
            have HX := Lib.hid (traceSkip_any b _ sj 41 wr hrw)
            clear how hrw hon hF hcells
            go_wp2_with fail
            refine Calls.mono HX.out ?_
            cases hh : headIs sj 41 with
            | true =>
              obtain ⟨u, hu, htl⟩ := headIs_yes hh
              rw [htl]
              have HN : Hid (readA (callP l) (d + 1) s = some (c, F, u)) := by
                show _ = _
                rw [HEj.out, hu, ahead_shut, closed_app HFN.out]
                rfl
              clear hh htl hu
              rintro e w4 ⟨rfl, hr4, ho4⟩
              have HIC : Hid (IsCall w4 (fun q => w.heap.size ≤ q ∧ q < w4.heap.size) c F (branchV c q F.len cap)) := by
                refine .inr ⟨HFN.out, q, cap, rfl, ⟨hq1, by have := ho4.size; omega⟩, ?_⟩
                refine Cells.keep (fun x h => ⟨⟨h.1, by have := ho4.size; omega⟩, ho4.block x h.2 (by omega)⟩) F q 0 (ho4.block q hq2 (by omega)) HCL.out
              have HR4 := Lib.hid hr4
              have HO4 := Lib.hid (HON.out.trans ho4)
              clear hr4 ho4 HX HCL HOW
              go_wp2_with fail
              refine (newCall_branch c q F.len cap _ hFl).mono ?_
              rintro e w5 ⟨rfl, rfl⟩
              unfold branchV at HIC ⊢
              go_wp2
              go_ret
              exact ⟨.inl ⟨c, F, u, _, HN.out, rfl, HIC.out, HR4.out⟩, HO4.out⟩
            | false =>
              obtain ⟨hne, htl⟩ := headIs_no hh
              rw [htl]
              have HNE := Lib.hid hne
              clear hh htl hne
              rintro e w4 ⟨rfl, hr4, ho4⟩
              have HQ := Lib.hid (IH.out sj (p + 1) w4 HP.out (by omega) (by omega) (HK.out.below ((HON.out.trans ho4).belowRow (Nat.le_of_lt hbw))) hr4)
              have HO4 := Lib.hid (HON.out.trans ho4)
              have HOW4 := Lib.hid (HOW.out.only ho4 hbw)
              clear hr4 ho4 HX HCL HOW HRW HON
              go_wp2_with fail
              refine Calls.mono HQ.out ?_
              rintro e w5 ⟨(⟨c2, k2, r3, v2, hq, rfl, hic, hr5⟩ | ⟨hq, m, rfl⟩), ho5⟩
              · obtain ⟨r3', hr3', hca, hc41, hlen3⟩ := readA_some (callP_shut l) hq
                have HE5 : Hid (readA (callP l) (d + 1) s = named c (closed (ahead (F.app (.cons c2 k2 .nil)) (calls (callP l) d r3)))) := by
                  show _ = _
                  rw [HEj.out, ahead_step F (callP_shut l) hq]
                obtain ⟨xs, hown, hvals⟩ := HOW4.out.only ho5 hbw
                obtain ⟨t2, x2, rfl⟩ := hic.iface
                have HOWN := Lib.hid hown
                have HVAL := Lib.hid hvals
                have HIC := Lib.hid hic
                have HR5 := Lib.hid hr5
                have HO5 := Lib.hid (HO4.out.trans ho5)
                have HOL := Lib.hid HOW4.out.lt
                have hz4 : w.heap.size ≤ w4.heap.size := HO4.out.size
                have hz5 : w.heap.size ≤ w5.heap.size := HO5.out.size
                clear hq hca hr3' hic hr5 ho5 hown hvals HQ HEj HOW4
                obtain ⟨i0, hi0, hz0, hz1, hz2'⟩ := info_parts info_call
                have I0 := Lib.hid hi0
                have Z0 := Lib.hid hz0
                have Z1 := Lib.hid hz1
                have Z2 := Lib.hid hz2'
                have HNW := Lib.hid (World.news_of_block (cs := #[.iface t2 x2]) (t := 135) (fr := (0, 0)) (heap_alloc_new w5 (.cells #[.iface t2 x2] 135)))
                clear hi0 hz0 hz1 hz2'
                go_wp2_with (at_builtin; go_loud (refine wpList_append_own_at _ rfl _ _ 99 rfl w.heap.size 135 i0 .nilIface 1 16 Tryz.underlying99 I0.out Z0.out Z1.out Z2.out rfl (by decide) _ F.len xs rfl (HOWN.out.alloc _) ⟨w5.heap.size, 0, none⟩ 1 1 [.iface t2 x2] rfl rfl HNW.out (by simp [Value.oneCell']) (by unfold maxLen; omega) (by omega) (by have := HO5.out.size; simp; omega) ?_); intro v3 w6 hown3 hgrow _ hat; obtain ⟨g3, cap3, rfl⟩ := own_form hown3 (by omega); have H3 := Lib.hid hown3; have HG := Lib.hid hgrow; have HA := Lib.hid hat; clear hown3 hgrow hat)
                have HOW6 : Hid (OwnCalls w6 w.heap.size (.slice (some ⟨g3, 0, none⟩) (F.len + 1) cap3) (F.app (.cons c2 k2 .nil))) :=
                  OwnCalls.more HVAL.out HIC.out hz4 (fun x e => (HOL.out x e).2) ((Below.refl _ w5).alloc (Nat.le_refl _) (.cells #[.iface t2 x2] 135)) HG.out H3.out HA.out
                have hgb : Below w.heap.size (w5.alloc (.cells #[.iface t2 x2] 135)) w6 := (Below.refl _ _).grown HG.out (by simp; omega) (fun x e => (HOL.out x e).1)
                have HR6 : Hid (Row w6 b 179 #[.slice (some ⟨g, 0, none⟩) l.length l.length, .string ⟨r3.toArray⟩]) := (HR5.out.alloc _).below hgb hbw
                have HO6 : Hid (Only w w6 (· = b)) := (HO5.out.andBelow ((Below.refl _ w5).alloc (Nat.le_refl _) (.cells #[.iface t2 x2] 135))).andLow hgb
                have HM6 : Hid (restAt b w6 = r3.length) := restAt_of HR6.out
                have HFN6 : Hid ((F.app (.cons c2 k2 .nil)).isNil = false) := Forest.snoc_isNil F c2 k2
                have hln6 : (F.app (.cons c2 k2 .nil)).len + r3.length ≤ s.length := by rw [Forest.app_len]; show F.len + (0 + 1) + r3.length ≤ _; omega
                clear HVAL HOWN HIC HG H3 HA HOL hgb HR5 HO5 HNW I0 Z0 Z1 Z2
                go_wp2
                go_roundw
                case rel => exact ⟨_, r3, HFN6.out, HOW6.out, HR6.out, HO6.out, hln6, HE5⟩
                case measure => rw [HM6.out, HM.out]; omega
              · have HN : Hid (readA (callP l) (d + 1) s = none) := by
                  show _ = _
                  rw [HEj.out, closed_next F hq HNE.out]
                  rfl
                have HO5 := Lib.hid (HO4.out.trans ho5)
                clear hq ho5 HQ
                go_wp2
                exact ⟨rfl, .inr ⟨HN.out, _, rfl⟩, HO5.out⟩
        · have HN2 : Hid (readA (callP l) (d + 1) s = none) := by
            show _ = _
            rw [HN.out, closed_first hq]
            rfl
          have HO3 := Lib.hid (HO2.out.trans ho3)
          clear hq ho3 HQ
          go_wp2
          exact ⟨rfl, .inr ⟨HN2.out, _, rfl⟩, HO3.out⟩
    · have HN : Hid (readA (callP l) (d + 1) s = none) := readA_no hno
      have HO1 := Lib.hid ho1
      clear hno ho1
      go_wp2
      exact ⟨rfl, .inr ⟨HN.out, _, rfl⟩, HO1.out⟩

end Go.Proofs.YtifkmehnikfihaaGreat
