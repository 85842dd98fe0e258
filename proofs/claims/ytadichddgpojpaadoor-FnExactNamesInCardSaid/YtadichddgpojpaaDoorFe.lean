/- The program's readOutermost and readTrace: it recovers. -/
import Derived.Test.YtadichddgpojpaaDoorFd
import Derived.Defers
import Derived.Recover
namespace Go.Proofs.YtadichddgpojpaaDoor
open Go.RowKit

/-- All is read. -/
def whole : Got → Option Forest
  | some (f, []) => some f
  | _ => none
theorem whole_end {P : UInt8 → Bool} {d : Nat} (f : Forest) : whole (ahead f (calls P d [])) = some f := by rw [ahead_end]; rfl
theorem whole_fail {P : UInt8 → Bool} {d : Nat} {s : List UInt8} (f : Forest) (h : readA P d s = none) (hs : s ≠ []) : whole (ahead f (calls P d s)) = none := by
  cases s with
  | nil => exact absurd rfl hs
  | cons c r =>
    by_cases hc : c = 41
    · subst hc; rw [ahead_shut]; rfl
    · have h1 : callA P d c r = none := by
        unfold readA named at h
        dsimp only at h
        cases hx : callA P d c r with
        | none => rfl
        | some y => rw [hx] at h; cases h
      rw [calls_fail f hc h1]; rfl
theorem traceB_eq (l : List Seg) (t : List UInt8) : traceB l t = if (validB l && decide (t.length ≤ 80)) = true then whole (calls (callP l) 8 t) else none := by
  unfold traceB whole
  split <;> rfl

/-- What readOutermost has done. -/
def OuterPost (w : World) (b : Nat) (R : Option Forest) (e : Ending) (w' : World) : Prop :=
  ((∃ f v, R = some f ∧ e = .returned v ∧ OwnCalls w' w.heap.size v f) ∨ (R = none ∧ Died e)) ∧ Only w w' (· = b)

set_option maxRecDepth 100000 in
set_option maxHeartbeats 4000000 in
theorem readOutermost_any (b g : Nat) (l : List Seg) (nb : Nat → Nat) (hv : validB l = true) (s : List UInt8) (w : World) (hs : s.length ≤ 1048576) (hk : Known w b g l nb)
    (hr : Row w b 68 #[.slice (some ⟨g, 0, none⟩) l.length l.length, .string ⟨s.toArray⟩]) :
    Calls Tryd.prog 32 #[.pointer (some ⟨b, 0, none⟩)] w (OuterPost w b (whole (calls (callP l) 8 s))) := by
  have HK : Hid (Known w b g l nb) := hk
  have HR := Lib.hid hr
  have HV := Lib.hid hv
  have hbw := hr.lt
  clear hk hr hv
  go_enter Tryd.func32, Tryd.ntmps32
  go_wp2
  go_loopw [3] (fun v wr => ∃ (F : Forest) (sj : List UInt8), OwnCalls wr w.heap.size v F ∧ Row wr b 68 #[.slice (some ⟨g, 0, none⟩) l.length l.length, .string ⟨sj.toArray⟩] ∧ Only w wr (· = b) ∧ F.len + sj.length ≤ s.length ∧ Hid (whole (calls (callP l) 8 s) = whole (ahead F (calls (callP l) 8 sj))))
    (fun _ wr => restAt b wr)
  case atStart => exact ⟨.nil, s, OwnCalls.nil _ _, HR.out, Only.refl _ _, by show 0 + s.length ≤ _; omega, by show _ = _; rw [ahead_nil]⟩
  case round =>
    obtain ⟨F, sj, how, hrw, hon, hln, HEj⟩ := hrel
    have HOW := Lib.hid how
    have HON := Lib.hid hon
    have HM : Hid (restAt b wr = sj.length) := restAt_of hrw
    have hzr : w.heap.size ≤ wr.heap.size := hon.size
    have c1 : wr.cell? ⟨b, 1, none⟩ = some (.string ⟨sj.toArray⟩) := hrw.cell 1
    have hsl := how.slice
    obtain ⟨A, cap, rfl, -⟩ := hsl
    have HQ := Lib.hid (readCall_any b g l nb HV.out 8 sj 1 wr (by omega) (by omega) (by omega) (HK.out.below (hon.belowRow (Nat.le_of_lt hbw))) hrw)
    clear how hrw hon
    by_cases hsj : sj = []
    · have HN : Hid (whole (calls (callP l) 8 s) = some F) := by
        show _ = _
        rw [HEj.out, hsj, whole_end]
      have h1 : (⟨sj.toArray⟩ : ByteArray).toList = [] := by rw [ByteArray.toList_eq]; exact hsj
      generalize (⟨sj.toArray⟩ : ByteArray) = y at c1 h1
      clear HQ hsj
      go_wp2
      go_ret
      exact ⟨.inl ⟨F, _, HN.out, rfl, HOW.out⟩, HON.out⟩
    · have HNE : Hid (sj ≠ []) := hsj
      have h1 : ¬ (⟨sj.toArray⟩ : ByteArray).toList = [] := by rw [ByteArray.toList_eq]; exact hsj
      generalize (⟨sj.toArray⟩ : ByteArray) = y at c1 h1
      have h2 : (y.toList == []) = false := by simp [h1]
      have HOL := Lib.hid HOW.out.lt
      clear hsj
      go_wp2_with fail
      refine Calls.mono HQ.out ?_
      clear c1 h1 h2
      rintro e w5 ⟨(⟨c2, k2, r3, v2, hq, rfl, hic, hr5⟩ | ⟨hq, m, rfl⟩), ho5⟩
      · obtain ⟨r3', hr3', hca, hc41, hlen3⟩ := readA_some (callP_shut l) hq
        have HE5 : Hid (whole (calls (callP l) 8 s) = whole (ahead (F.app (.cons c2 k2 .nil)) (calls (callP l) 8 r3))) := by
          show _ = _
          rw [HEj.out, ahead_step F (callP_shut l) hq]
        obtain ⟨xs, hown, hvals⟩ := HOW.out.only ho5 hbw
        obtain ⟨t2, x2, rfl⟩ := hic.iface
        have HOWN := Lib.hid hown
        have HVAL := Lib.hid hvals
        have HIC := Lib.hid hic
        have HR5 := Lib.hid hr5
        have HO5 := Lib.hid (HON.out.trans ho5)
        have hz5 : w.heap.size ≤ w5.heap.size := HO5.out.size
        clear hq hca hr3' hic hr5 ho5 hown hvals HQ HEj HOW
        obtain ⟨i0, hi0, hz0, hz1, hz2'⟩ := info_parts info_call
        have I0 := Lib.hid hi0
        have Z0 := Lib.hid hz0
        have Z1 := Lib.hid hz1
        have Z2 := Lib.hid hz2'
        have HNW := Lib.hid (World.news_of_block (cs := #[.iface t2 x2]) (t := 88) (fr := (0, 0)) (heap_alloc_new w5 (.cells #[.iface t2 x2] 88)))
        clear hi0 hz0 hz1 hz2'
        go_wp2_with (at_builtin; go_loud (refine wpList_append_own_at _ rfl _ _ 49 rfl w.heap.size 88 i0 .nilIface 1 16 Tryd.underlying49 I0.out Z0.out Z1.out Z2.out rfl (by decide) _ F.len xs rfl (HOWN.out.alloc _) ⟨w5.heap.size, 0, none⟩ 1 1 [.iface t2 x2] rfl rfl HNW.out (by simp [Value.oneCell']) (by unfold maxLen; omega) (by omega) (by have := HO5.out.size; simp; omega) ?_); intro v3 w6 hown3 hgrow _ hat; obtain ⟨g3, cap3, rfl⟩ := own_form hown3 (by omega); have H3 := Lib.hid hown3; have HG := Lib.hid hgrow; have HA := Lib.hid hat; clear hown3 hgrow hat)
        have HOW6 : Hid (OwnCalls w6 w.heap.size (.slice (some ⟨g3, 0, none⟩) (F.len + 1) cap3) (F.app (.cons c2 k2 .nil))) :=
          OwnCalls.more HVAL.out HIC.out hzr (fun x e => (HOL.out x e).2) ((Below.refl _ w5).alloc (Nat.le_refl _) (.cells #[.iface t2 x2] 88)) HG.out H3.out HA.out
        have hgb : Below w.heap.size (w5.alloc (.cells #[.iface t2 x2] 88)) w6 := (Below.refl _ _).grown HG.out (by simp; omega) (fun x e => (HOL.out x e).1)
        have HR6 : Hid (Row w6 b 68 #[.slice (some ⟨g, 0, none⟩) l.length l.length, .string ⟨r3.toArray⟩]) := (HR5.out.alloc _).below hgb hbw
        have HO6 : Hid (Only w w6 (· = b)) := (HO5.out.andBelow ((Below.refl _ w5).alloc (Nat.le_refl _) (.cells #[.iface t2 x2] 88))).andLow hgb
        have HM6 : Hid (restAt b w6 = r3.length) := restAt_of HR6.out
        have hln6 : (F.app (.cons c2 k2 .nil)).len + r3.length ≤ s.length := by rw [Forest.app_len]; show F.len + (0 + 1) + r3.length ≤ _; omega
        clear HVAL HOWN HIC HG H3 HA HOL hgb HR5 HO5 HNW I0 Z0 Z1 Z2
        go_wp2
        go_roundw
        case rel => exact ⟨_, r3, HOW6.out, HR6.out, HO6.out, hln6, HE5⟩
        case measure => rw [HM6.out, HM.out]; omega
      · have HN : Hid (whole (calls (callP l) 8 s) = none) := by
          show _ = _
          rw [HEj.out, whole_fail F hq HNE.out]
        have HO5 := Lib.hid (HON.out.trans ho5)
        clear hq ho5 HQ
        go_wp2
        exact ⟨rfl, .inr ⟨HN.out, _, rfl⟩, HO5.out⟩

/-- The deferred closure where nothing has panicked: it turns nothing. -/
theorem traceCatch_idle (p q : Addr) (w : World) :
    CallsD Tryd.prog 31 #[.pointer (some p), .pointer (some q)] .returning w fun e u' w' => e = .returned (.tuple #[]) ∧ u' = .returning ∧ w = w' := by
  refine callsD_of_wpS Tryd.func31 rfl fun c₀ cs hu => ?_
  apply wpS_seq
  apply wpS_region
  simp [wpOpsS, go_sem, recoverD, hu, Tryd.ntmps31, Exit.thenS]
  refine wpS_cond (t := false) (by simp [Act.eval, Array.replicate]) ?_
  simp only [Bool.false_eq_true, if_false]
  refine wpS_of_wp (wp_skip ?_)
  cases c₀
  simp_all [bodyPostS, results, Tryd.results31]

/-- The deferred closure where the reader has given up: no calls, false. -/
theorem traceCatch_panicking (a : Nat) (x : Value) (y : Bool) (m : ByteArray) (w : World) (hp : Row w a 49 #[x]) (hx : ∃ A n c, x = .slice A n c) (hq : Row w (a + 1) 4 #[.bool y]) :
    CallsD Tryd.prog 31 #[.pointer (some ⟨a, 0, none⟩), .pointer (some ⟨a + 1, 0, none⟩)] (.panicking [{ v := .iface 9 (.string m), recovered := false }]) w fun e u' w' =>
      e = .returned (.tuple #[]) ∧ u' = .panicking [{ v := .iface 9 (.string m), recovered := true }] ∧ w' = (w.setCell ⟨a, 0, none⟩ (.slice none 0 0)).setCell ⟨a + 1, 0, none⟩ (.bool false) := by
  obtain ⟨A, n, c, rfl⟩ := hx
  have p0 : w.cell? ⟨a, 0, none⟩ = some (.slice A n c) := hp.cell 0
  have pz : w.frozen? ⟨a, 0, none⟩ = false := hp.free 0
  have hq1 : Row (w.setCell ⟨a, 0, none⟩ (.slice none 0 0)) (a + 1) 4 #[.bool y] := hq.far (p := ⟨a, 0, none⟩) (show a + 1 ≠ a by omega) _
  have q0 : (w.setCell ⟨a, 0, none⟩ (.slice none 0 0)).cell? ⟨a + 1, 0, none⟩ = some (.bool y) := hq1.cell 0
  have qz : (w.setCell ⟨a, 0, none⟩ (.slice none 0 0)).frozen? ⟨a + 1, 0, none⟩ = false := hq1.free 0
  refine callsD_of_wpS Tryd.func31 rfl fun c₀ cs hu => ?_
  apply wpS_seq
  apply wpS_region
  simp [wpOpsS, go_sem, recoverD, hu, Tryd.ntmps31, Exit.thenS]
  refine wpS_cond (t := true) (by simp [Act.eval, Array.replicate]) ?_
  simp only [if_true]
  apply wpS_region
  simp [wpOpsS, go_sem, p0, pz, q0, qz, bodyPostS, results, Tryd.results31]

end Go.Proofs.YtadichddgpojpaaDoor
