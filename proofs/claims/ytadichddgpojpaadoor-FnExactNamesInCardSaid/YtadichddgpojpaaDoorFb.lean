/- The program's reader of traces: skip, readName, newCall. -/
import Derived.Test.YtadichddgpojpaaDoorFa
import Derived.Test.YtadichddgpojpaaDoorRs
import Derived.Test.YtadichddgpojpaaDoorSh
namespace Go.Proofs.YtadichddgpojpaaDoor
open Go.RowKit

/-- Is this byte the next one? -/
def headIs (s : List UInt8) (c : UInt8) : Bool := match s with
  | [] => false
  | x :: _ => decide (x = c)
/-- What is left behind it. -/
def tailIf (s : List UInt8) (c : UInt8) : List UInt8 := if headIs s c = true then s.drop 1 else s
theorem headIs_yes {s : List UInt8} {c : UInt8} (h : headIs s c = true) : ∃ r, s = c :: r ∧ tailIf s c = r := by
  cases s with
  | nil => cases h
  | cons x r =>
    have hx : x = c := of_decide_eq_true h
    refine ⟨r, by rw [hx], ?_⟩
    unfold tailIf
    rw [if_pos h]; rfl
theorem headIs_no {s : List UInt8} {c : UInt8} (h : headIs s c = false) : (∀ x u, s = x :: u → x ≠ c) ∧ tailIf s c = s := by
  refine ⟨fun x u e hx => ?_, ?_⟩
  · subst e
    exact absurd hx (of_decide_eq_false h)
  · unfold tailIf
    rw [if_neg (by rw [h]; decide)]
theorem hasPrefix_one (s : List UInt8) (c : UInt8) : Lib.hasPrefix s [c] = headIs s c := by
  unfold Lib.hasPrefix headIs
  cases s with
  | nil => rfl
  | cons x r =>
    rw [List.isPrefixOf_cons_cons]
    dsimp only
    by_cases h : x = c
    · subst h; simp
    · rw [decide_eq_false h, show (c == x) = false from beq_eq_false_iff_ne.2 (fun e => h e.symm)]; rfl
theorem trimPrefix_one (s : List UInt8) (c : UInt8) : Lib.trimPrefix s [c] = tailIf s c := by
  unfold Lib.trimPrefix tailIf
  rw [hasPrefix_one]
  rfl

set_option maxRecDepth 100000 in
set_option maxHeartbeats 400000 in
theorem traceSkip_raw (b : Nat) (nv : Value) (s p : ByteArray) (w : World) (hr : Row w b 68 #[nv, .string s]) :
    Calls Tryd.prog 51 #[.pointer (some ⟨b, 0, none⟩), .string p] w fun e w' => e = .returned (.bool (Lib.hasPrefix s.data.toList p.data.toList)) ∧ w' = w.setCell ⟨b, 1, none⟩ (.string ⟨(Lib.trimPrefix s.data.toList p.data.toList).toArray⟩) := by
  have c1 : w.cell? ⟨b, 1, none⟩ = some (.string s) := hr.cell 1
  have z1 : w.frozen? ⟨b, 1, none⟩ = false := hr.free 1
  clear hr
  go_enter Tryd.func51, Tryd.ntmps51
  go_wp2_with fail
  refine (Tryd.strings_CutPrefix s p _).mono ?_
  rintro e w' ⟨rfl, hw⟩
  rw [hw]
  go_wp2
  go_ret
  exact ⟨rfl, rfl⟩

/-- One byte is passed over if it stands next. -/
theorem traceSkip_any (b : Nat) (nv : Value) (s : List UInt8) (c : UInt8) (w : World) (hr : Row w b 68 #[nv, .string ⟨s.toArray⟩]) :
    Calls Tryd.prog 51 #[.pointer (some ⟨b, 0, none⟩), .string ⟨#[c]⟩] w fun e w' => e = .returned (.bool (headIs s c)) ∧ Row w' b 68 #[nv, .string ⟨(tailIf s c).toArray⟩] ∧ Only w w' (· = b) := by
  refine (traceSkip_raw b nv ⟨s.toArray⟩ ⟨#[c]⟩ w hr).mono ?_
  rintro e w' ⟨rfl, rfl⟩
  have h1 : Lib.hasPrefix (⟨s.toArray⟩ : ByteArray).data.toList (⟨#[c]⟩ : ByteArray).data.toList = headIs s c := hasPrefix_one s c
  have h2 : Lib.trimPrefix (⟨s.toArray⟩ : ByteArray).data.toList (⟨#[c]⟩ : ByteArray).data.toList = tailIf s c := trimPrefix_one s c
  rw [h1, h2]
  exact ⟨rfl, hr.put 1 _, (Only.refl w _).set 1 _⟩

/-- The nodes' names lie below block 'b'. -/
def Known (w : World) (b g : Nat) (l : List Seg) (nb : Nat → Nat) : Prop :=
  g < b ∧ ∀ i x, l[i]? = some x → nb i < b ∧ w.cell? ⟨g, i, none⟩ = some (.pointer (some ⟨nb i, 0, none⟩)) ∧ w.cell? ⟨nb i, 0, none⟩ = some (.string x.name)
theorem Known.below {w w' : World} {b g : Nat} {l : List Seg} {nb : Nat → Nat} (h : Known w b g l nb) (hb : Below b w w') : Known w' b g l nb :=
  ⟨h.1, fun i x hx => by
    obtain ⟨h1, h2, h3⟩ := h.2 i x hx
    exact ⟨h1, (hb.cell (p := ⟨g, i, none⟩) h.1).trans h2, (hb.cell (p := ⟨nb i, 0, none⟩) h1).trans h3⟩⟩
theorem Only.belowRow {w w' : World} {b : Nat} (ho : Only w w' (· = b)) (hb : b ≤ w.heap.size) : Below b w w' :=
  Only.below (Below.refl b w) ho hb (fun k h1 h2 => by omega)

theorem taken_take_succ {l : List Seg} {c d : UInt8} {k : Nat} (hk : k < l.length) (hd : l[k].name = ⟨#[d]⟩) (hcd : c ≠ d) (h : takenB (l.take k) ⟨#[c]⟩ = false) : takenB (l.take (k + 1)) ⟨#[c]⟩ = false := by
  rw [takenB_take_succ hk, h, hd]
  rw [Bool.false_or, Bool.eq_false_iff]
  intro he
  have := sameB_iff.1 he
  injection this with this
  have h3 : [d] = [c] := congrArg Array.toList this
  injection h3 with h3
  exact hcd h3.symm
theorem callP_at {l : List Seg} (hv : validB l = true) {c : UInt8} {k : Nat} (hk : k < l.length) (hd : l[k].name = ⟨#[c]⟩) : callP l c = true := by
  rw [callP_taken hv]
  exact List.any_eq_true.2 ⟨l[k], List.getElem_mem hk, sameB_iff.2 hd⟩

/-- What readName has done. -/
def TraceName (w : World) (b : Nat) (l : List Seg) (nv : Value) (s : List UInt8) (e : Ending) (w' : World) : Prop :=
  ((∃ c r, s = c :: r ∧ callP l c = true ∧ e = .returned (.string ⟨#[c]⟩) ∧ Row w' b 68 #[nv, .string ⟨r.toArray⟩]) ∨ ((∀ c r, s = c :: r → callP l c = false) ∧ Died e)) ∧ Only w w' (· = b)

set_option maxRecDepth 100000 in
set_option maxHeartbeats 1000000 in
theorem traceName_any (b g : Nat) (l : List Seg) (nb : Nat → Nat) (s : List UInt8) (w : World) (hk : Known w b g l nb) (hv : validB l = true) (hr : Row w b 68 #[.slice (some ⟨g, 0, none⟩) l.length l.length, .string ⟨s.toArray⟩]) :
    Calls Tryd.prog 50 #[.pointer (some ⟨b, 0, none⟩)] w (TraceName w b l (.slice (some ⟨g, 0, none⟩) l.length l.length) s) := by
  have hl8 := (valid_all hv).2.1
  have HV := Lib.hid hv
  have HK : Hid (Known w b g l nb) := hk
  have c0 : w.cell? ⟨b, 0, none⟩ = some (.slice (some ⟨g, 0, none⟩) l.length l.length) := hr.cell 0
  have HR := Lib.hid hr
  have hbw := hr.lt
  clear hv hk hr
  go_enter Tryd.func50, Tryd.ntmps50
  go_wp2
  go_loopw [10] (fun i wr => ∃ k : Nat, k ≤ l.length ∧ i = .int .i64 k ∧ Row wr b 68 #[.slice (some ⟨g, 0, none⟩) l.length l.length, .string ⟨s.toArray⟩] ∧ Only w wr (· = b) ∧ Hid (∀ c r, s = c :: r → takenB (l.take k) ⟨#[c]⟩ = false))
    (fun i _ => l.length - (intOf i).toNat)
  case atStart => exact ⟨0, Nat.zero_le _, rfl, HR.out, Only.refl _ _, fun c r _ => rfl⟩
  case round =>
    obtain ⟨k, hk, rfl, hr, ho, HT⟩ := hrel
    clear c0
    by_cases hlt : k < l.length
    · obtain ⟨hnb, gk, nk⟩ := (HK.out.below (ho.belowRow (Nat.le_of_lt hbw))).2 k l[k] (List.getElem?_eq_getElem hlt)
      obtain ⟨d, hd, -, -⟩ := nameOk_one (validB_names HV.out (List.getElem_mem hlt))
      rw [hd] at nk
      have HD := Lib.hid hd
      have HR1 := Lib.hid hr
      have HO := Lib.hid ho
      have hwz := hr.lt
      clear hd hr ho
      cases hh : headIs s d with
      | true =>
        obtain ⟨r, hs, htl⟩ := headIs_yes hh
        have HH := Lib.hid hh
        have HTL := Lib.hid htl
        have HS := Lib.hid hs
        clear hh htl hs
        go_wp2_with fail
        refine (traceSkip_any b _ s d _ HR1.out).mono ?_
        rw [HH.out, HTL.out]
        rintro e w1 ⟨rfl, hr1, ho1⟩
        have nk1 : w1.cell? ⟨nb k, 0, none⟩ = some (.string ⟨#[d]⟩) := ((ho1.belowRow (Nat.le_of_lt hwz)).cell (p := ⟨nb k, 0, none⟩) hnb).trans nk
        have HR2 := Lib.hid hr1
        have HO2 := Lib.hid (HO.out.trans ho1)
        clear hr1 ho1
        go_wp2
        go_ret
        exact ⟨.inl ⟨d, r, HS.out, callP_at HV.out hlt HD.out, rfl, HR2.out⟩, HO2.out⟩
      | false =>
        obtain ⟨hs, htl⟩ := headIs_no hh
        have HH := Lib.hid hh
        have HTL := Lib.hid htl
        have HS := Lib.hid hs
        clear hh htl hs
        go_wp2_with fail
        refine (traceSkip_any b _ s d _ HR1.out).mono ?_
        rw [HH.out, HTL.out]
        rintro e w1 ⟨rfl, hr1, ho1⟩
        have HR2 := Lib.hid hr1
        have HO2 := Lib.hid (HO.out.trans ho1)
        clear hr1 ho1
        go_wp2
        go_roundw
        case rel => exact ⟨k + 1, by omega, by go_num, HR2.out, HO2.out, fun c r e => taken_take_succ hlt HD.out (HS.out c r e) (HT.out c r e)⟩
        case measure => simp [intOf]; omega
    · obtain rfl : k = l.length := by omega
      have HN : Hid (∀ c r, s = c :: r → callP l c = false) := fun c r e => by
        rw [callP_taken HV.out]
        have := HT.out c r e
        rwa [List.take_length] at this
      have HO := Lib.hid ho
      clear ho hr
      go_wp2
      exact ⟨rfl, .inr ⟨HN.out, _, rfl⟩, HO.out⟩

/-- A call that makes none, and one that makes some. -/
def leafV (c : UInt8) : Value := .iface 104 (.agg #[.string ⟨#[c]⟩])
def branchV (c : UInt8) (g n cap : Nat) : Value := .iface 106 (.agg #[.string ⟨#[c]⟩, .slice (some ⟨g, 0, none⟩) n cap])

set_option maxRecDepth 100000 in
theorem newCall_leaf (c : UInt8) (A : Option Addr) (cap : Nat) (w : World) :
    Calls Tryd.prog 52 #[.string ⟨#[c]⟩, .slice A 0 cap] w fun e w' => e = .returned (leafV c) ∧ w = w' := by
  go_enter Tryd.func52, Tryd.ntmps52
  go_wp2
  go_ret
  exact ⟨rfl, rfl⟩
set_option maxRecDepth 100000 in
theorem newCall_branch (c : UInt8) (g n cap : Nat) (w : World) (hn : 0 < n) :
    Calls Tryd.prog 52 #[.string ⟨#[c]⟩, .slice (some ⟨g, 0, none⟩) n cap] w fun e w' => e = .returned (branchV c g n cap) ∧ w = w' := by
  have h0 : ((n : Int) == 0) = false := by rw [beq_eq_false_iff_ne]; omega
  have h1 : ¬ (n : Int) = 0 := by omega
  go_enter Tryd.func52, Tryd.ntmps52
  go_wp2
  go_ret
  exact ⟨rfl, rfl⟩

end Go.Proofs.YtadichddgpojpaaDoor
