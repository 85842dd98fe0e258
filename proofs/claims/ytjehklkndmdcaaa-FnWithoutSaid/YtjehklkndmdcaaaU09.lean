/- Joined: Fe Fi Xa Rj. -/
import Derived.Test.YtjehklkndmdcaaaU08
import Derived.Defers
import Derived.Recover
import Derived.Test.YtjehklkndmdcaaaU05
import Derived.Lib.IndexBytes
import Derived.Test.YtjehklkndmdcaaaU06
/- The program's readOutermost and readTrace: it recovers. -/
namespace Go.Proofs.Ytjehklkndmdcaaa
open Go.RowKit

/-- All is read. -/
def whole : Got → Option Forest
  | some (f, []) => some f
  | _ => none
theorem whole_end {P : UInt8 → Bool} {d : Nat} (f : Forest) : whole (ahead f (calls P d [])) = some f := by rw [ahead_end]; rfl
theorem whole_fail {P : UInt8 → Bool} {d : Nat} {s : List UInt8} (f : Forest) (h : readA P d s = none) (hs : s ≠ []) : whole (ahead f (calls P d s)) = none := by
  cases s with
  | nil => exact absurd rfl hs
  | cons c r =>
    by_cases hc : c = 41
    · subst hc; rw [ahead_shut]; rfl
    · have h1 : callA P d c r = none := by
        unfold readA named at h
        dsimp only at h
        cases hx : callA P d c r with
        | none => rfl
        | some y => rw [hx] at h; cases h
      rw [calls_fail f hc h1]; rfl
theorem traceB_eq (l : List Seg) (t : List UInt8) : traceB l t = if (validB l && decide (t.length ≤ 80)) = true then whole (calls (callP l) 8 t) else none := by
  unfold traceB whole
  split <;> rfl

/-- What readOutermost has done. -/
def OuterPost (w : World) (b : Nat) (R : Option Forest) (e : Ending) (w' : World) : Prop :=
  ((∃ f v, R = some f ∧ e = .returned v ∧ OwnCalls w' w.heap.size v f) ∨ (R = none ∧ Died e)) ∧ Only w w' (· = b)

set_option maxRecDepth 100000 in
set_option maxHeartbeats 4000000 in
theorem readOutermost_any (b g : Nat) (l : List Seg) (nb : Nat → Nat) (hv : validB l = true) (s : List UInt8) (w : World) (hs : s.length ≤ 1048576) (hk : Known w b g l nb)
    (hr : Row w b 83 #[.slice (some ⟨g, 0, none⟩) l.length l.length, .string ⟨s.toArray⟩]) :
    Calls Try.prog 49 #[.pointer (some ⟨b, 0, none⟩)] w (OuterPost w b (whole (calls (callP l) 8 s))) := by
  have HK : Hid (Known w b g l nb) := hk
  have HR := Lib.hid hr
  have HV := Lib.hid hv
  have hbw := hr.lt
  clear hk hr hv
  go_enter Try.func49, Try.ntmps49
  go_wp2
  go_loopw [3] (fun v wr => ∃ (F : Forest) (sj : List UInt8), OwnCalls wr w.heap.size v F ∧ Row wr b 83 #[.slice (some ⟨g, 0, none⟩) l.length l.length, .string ⟨sj.toArray⟩] ∧ Only w wr (· = b) ∧ F.len + sj.length ≤ s.length ∧ Hid (whole (calls (callP l) 8 s) = whole (ahead F (calls (callP l) 8 sj))))
    (fun _ wr => restAt b wr)
  case atStart => exact ⟨.nil, s, OwnCalls.nil _ _, HR.out, Only.refl _ _, by show 0 + s.length ≤ _; omega, by show _ = _; rw [ahead_nil]⟩
  case round =>
    obtain ⟨F, sj, how, hrw, hon, hln, HEj⟩ := hrel
    have HOW := Lib.hid how
    have HON := Lib.hid hon
    have HM : Hid (restAt b wr = sj.length) := restAt_of hrw
    have hzr : w.heap.size ≤ wr.heap.size := hon.size
    have c1 : wr.cell? ⟨b, 1, none⟩ = some (.string ⟨sj.toArray⟩) := hrw.cell 1
    have hsl := how.slice
    obtain ⟨A, cap, rfl, -⟩ := hsl
    have HQ := Lib.hid (readCall_any b g l nb HV.out 8 sj 1 wr (by omega) (by omega) (by omega) (HK.out.below (hon.belowRow (Nat.le_of_lt hbw))) hrw)
    clear how hrw hon
    by_cases hsj : sj = []
    · have HN : Hid (whole (calls (callP l) 8 s) = some F) := by
        show _ = _
        rw [HEj.out, hsj, whole_end]
      have h1 : (⟨sj.toArray⟩ : ByteArray).toList = [] := by rw [ByteArray.toList_eq]; exact hsj
      generalize (⟨sj.toArray⟩ : ByteArray) = y at c1 h1
      clear HQ hsj
      go_wp2
      go_ret
      exact ⟨.inl ⟨F, _, HN.out, rfl, HOW.out⟩, HON.out⟩
    · have HNE : Hid (sj ≠ []) := hsj
      have h1 : ¬ (⟨sj.toArray⟩ : ByteArray).toList = [] := by rw [ByteArray.toList_eq]; exact hsj
      generalize (⟨sj.toArray⟩ : ByteArray) = y at c1 h1
      have h2 : (y.toList == []) = false := by simp [h1]
      have HOL := Lib.hid HOW.out.lt
      clear hsj
      go_wp2_with fail
      refine Calls.mono HQ.out ?_
      clear c1 h1 h2
      rintro e w5 ⟨(⟨c2, k2, r3, v2, hq, rfl, hic, hr5⟩ | ⟨hq, m, rfl⟩), ho5⟩
      · obtain ⟨r3', hr3', hca, hc41, hlen3⟩ := readA_some (callP_shut l) hq
        have HE5 : Hid (whole (calls (callP l) 8 s) = whole (ahead (F.app (.cons c2 k2 .nil)) (calls (callP l) 8 r3))) := by
          show _ = _
          rw [HEj.out, ahead_step F (callP_shut l) hq]
        obtain ⟨xs, hown, hvals⟩ := HOW.out.only ho5 hbw
        obtain ⟨t2, x2, rfl⟩ := hic.iface
        have HOWN := Lib.hid hown
        have HVAL := Lib.hid hvals
        have HIC := Lib.hid hic
        have HR5 := Lib.hid hr5
        have HO5 := Lib.hid (HON.out.trans ho5)
        have hz5 : w.heap.size ≤ w5.heap.size := HO5.out.size
        clear hq hca hr3' hic hr5 ho5 hown hvals HQ HEj HOW
        obtain ⟨i0, hi0, hz0, hz1, hz2'⟩ := info_parts info_call
        have I0 := Lib.hid hi0
        have Z0 := Lib.hid hz0
        have Z1 := Lib.hid hz1
        have Z2 := Lib.hid hz2'
        have HNW := Lib.hid (World.news_of_block (cs := #[.iface t2 x2]) (t := 86) (fr := (0, 0)) (heap_alloc_new w5 (.cells #[.iface t2 x2] 86)))
        clear hi0 hz0 hz1 hz2'
        go_wp2_with (at_builtin; go_loud (refine wpList_append_own_at _ rfl _ _ 40 rfl w.heap.size 86 i0 .nilIface 1 16 Try.underlying40 I0.out Z0.out Z1.out Z2.out rfl (by decide) _ F.len xs rfl (HOWN.out.alloc _) ⟨w5.heap.size, 0, none⟩ 1 1 [.iface t2 x2] rfl rfl HNW.out (by simp [Value.oneCell']) (by unfold maxLen; omega) (by omega) (by have := HO5.out.size; simp; omega) ?_); intro v3 w6 hown3 hgrow _ hat; obtain ⟨g3, cap3, rfl⟩ := own_form hown3 (by omega); have H3 := Lib.hid hown3; have HG := Lib.hid hgrow; have HA := Lib.hid hat; clear hown3 hgrow hat)
        have HOW6 : Hid (OwnCalls w6 w.heap.size (.slice (some ⟨g3, 0, none⟩) (F.len + 1) cap3) (F.app (.cons c2 k2 .nil))) :=
          OwnCalls.more HVAL.out HIC.out hzr (fun x e => (HOL.out x e).2) ((Below.refl _ w5).alloc (Nat.le_refl _) (.cells #[.iface t2 x2] 86)) HG.out H3.out HA.out
        have hgb : Below w.heap.size (w5.alloc (.cells #[.iface t2 x2] 86)) w6 := (Below.refl _ _).grown HG.out (by simp; omega) (fun x e => (HOL.out x e).1)
        have HR6 : Hid (Row w6 b 83 #[.slice (some ⟨g, 0, none⟩) l.length l.length, .string ⟨r3.toArray⟩]) := (HR5.out.alloc _).below hgb hbw
        have HO6 : Hid (Only w w6 (· = b)) := (HO5.out.andBelow ((Below.refl _ w5).alloc (Nat.le_refl _) (.cells #[.iface t2 x2] 86))).andLow hgb
        have HM6 : Hid (restAt b w6 = r3.length) := restAt_of HR6.out
        have hln6 : (F.app (.cons c2 k2 .nil)).len + r3.length ≤ s.length := by rw [Forest.app_len]; show F.len + (0 + 1) + r3.length ≤ _; omega
        clear HVAL HOWN HIC HG H3 HA HOL hgb HR5 HO5 HNW I0 Z0 Z1 Z2
        go_wp2
        go_roundw
        case rel => exact ⟨_, r3, HOW6.out, HR6.out, HO6.out, hln6, HE5⟩
        case measure => rw [HM6.out, HM.out]; omega
      · have HN : Hid (whole (calls (callP l) 8 s) = none) := by
          show _ = _
          rw [HEj.out, whole_fail F hq HNE.out]
        have HO5 := Lib.hid (HON.out.trans ho5)
        clear hq ho5 HQ
        go_wp2
        exact ⟨rfl, .inr ⟨HN.out, _, rfl⟩, HO5.out⟩

/-- The deferred closure where nothing has panicked: it turns nothing. -/
theorem traceCatch_idle (p q : Addr) (w : World) :
    CallsD Try.prog 48 #[.pointer (some p), .pointer (some q)] .returning w fun e u' w' => e = .returned (.tuple #[]) ∧ u' = .returning ∧ w = w' := by
  refine callsD_of_wpS Try.func48 rfl fun c₀ cs hu => ?_
  apply wpS_seq
  apply wpS_region
  simp [wpOpsS, go_sem, recoverD, hu, Try.ntmps48, Exit.thenS]
  refine wpS_cond (t := false) (by simp [Act.eval, Array.replicate]) ?_
  simp only [Bool.false_eq_true, if_false]
  refine wpS_of_wp (wp_skip ?_)
  cases c₀
  simp_all [bodyPostS, results, Try.results48]

/-- The deferred closure where the reader has given up: no calls, false. -/
theorem traceCatch_panicking (a : Nat) (x : Value) (y : Bool) (m : ByteArray) (w : World) (hp : Row w a 40 #[x]) (hx : ∃ A n c, x = .slice A n c) (hq : Row w (a + 1) 4 #[.bool y]) :
    CallsD Try.prog 48 #[.pointer (some ⟨a, 0, none⟩), .pointer (some ⟨a + 1, 0, none⟩)] (.panicking [{ v := .iface 9 (.string m), recovered := false }]) w fun e u' w' =>
      e = .returned (.tuple #[]) ∧ u' = .panicking [{ v := .iface 9 (.string m), recovered := true }] ∧ w' = (w.setCell ⟨a, 0, none⟩ (.slice none 0 0)).setCell ⟨a + 1, 0, none⟩ (.bool false) := by
  obtain ⟨A, n, c, rfl⟩ := hx
  have p0 : w.cell? ⟨a, 0, none⟩ = some (.slice A n c) := hp.cell 0
  have pz : w.frozen? ⟨a, 0, none⟩ = false := hp.free 0
  have hq1 : Row (w.setCell ⟨a, 0, none⟩ (.slice none 0 0)) (a + 1) 4 #[.bool y] := hq.far (p := ⟨a, 0, none⟩) (show a + 1 ≠ a by omega) _
  have q0 : (w.setCell ⟨a, 0, none⟩ (.slice none 0 0)).cell? ⟨a + 1, 0, none⟩ = some (.bool y) := hq1.cell 0
  have qz : (w.setCell ⟨a, 0, none⟩ (.slice none 0 0)).frozen? ⟨a + 1, 0, none⟩ = false := hq1.free 0
  refine callsD_of_wpS Try.func48 rfl fun c₀ cs hu => ?_
  apply wpS_seq
  apply wpS_region
  simp [wpOpsS, go_sem, recoverD, hu, Try.ntmps48, Exit.thenS]
  refine wpS_cond (t := true) (by simp [Act.eval, Array.replicate]) ?_
  simp only [if_true]
  apply wpS_region
  simp [wpOpsS, go_sem, p0, pz, q0, qz, bodyPostS, results, Try.results48]

end Go.Proofs.Ytjehklkndmdcaaa
/- What a trace tells, plain: needs, chains, texts, calls that are left. -/
namespace Go.Proofs.Ytjehklkndmdcaaa
open Go.RowKit

/-- What is needed behind a caller: each call, what is needed within it, and the caller again. -/
def needsB (a : UInt8) : Forest → List UInt8
  | .nil => []
  | .cons c k r => c :: (needsB c k ++ (a :: needsB a r))
theorem needsB_app (a : UInt8) : ∀ f g : Forest, needsB a (f.app g) = needsB a f ++ needsB a g
  | .nil, _ => rfl
  | .cons c k r, g => by
    show c :: (needsB c k ++ (a :: needsB a (r.app g))) = (c :: (needsB c k ++ (a :: needsB a r))) ++ needsB a g
    rw [needsB_app a r g]; simp
theorem needsB_one (a c : UInt8) (k : Forest) : needsB a (.cons c k .nil) = c :: (needsB c k ++ [a]) := rfl
theorem needsB_len (a : UInt8) : ∀ f : Forest, (needsB a f).length = 2 * f.size
  | .nil => rfl
  | .cons c k r => by
    show (c :: (needsB c k ++ (a :: needsB a r))).length = 2 * (k.size + r.size + 1)
    simp [needsB_len c k, needsB_len a r]; omega

/-- Who is active at each call, behind some that are active before. -/
def chainsB (a : List UInt8) : Forest → List (List UInt8)
  | .nil => []
  | .cons c k r => (a ++ [c]) :: (chainsB (a ++ [c]) k ++ chainsB a r)
theorem chainsB_app (a : List UInt8) : ∀ f g : Forest, chainsB a (f.app g) = chainsB a f ++ chainsB a g
  | .nil, _ => rfl
  | .cons c k r, g => by
    show (a ++ [c]) :: (chainsB (a ++ [c]) k ++ chainsB a (r.app g)) = ((a ++ [c]) :: (chainsB (a ++ [c]) k ++ chainsB a r)) ++ chainsB a g
    rw [chainsB_app a r g]; simp
theorem chainsB_one (a : List UInt8) (c : UInt8) (k : Forest) : chainsB a (.cons c k .nil) = (a ++ [c]) :: chainsB (a ++ [c]) k := by
  show (a ++ [c]) :: (chainsB (a ++ [c]) k ++ []) = _
  rw [List.append_nil]
theorem chainsB_len : ∀ (f : Forest) (a : List UInt8), (chainsB a f).length = f.size
  | .nil, _ => rfl
  | .cons c k r, a => by
    show ((a ++ [c]) :: (chainsB (a ++ [c]) k ++ chainsB a r)).length = k.size + r.size + 1
    simp [chainsB_len k, chainsB_len r]
theorem chainsB_pre (p : List UInt8) : ∀ (f : Forest) (a : List UInt8), chainsB (p ++ a) f = (chainsB a f).map (p ++ ·)
  | .nil, _ => rfl
  | .cons c k r, a => by
    show (p ++ a ++ [c]) :: (chainsB (p ++ a ++ [c]) k ++ chainsB (p ++ a) r) = ((a ++ [c]) :: (chainsB (a ++ [c]) k ++ chainsB a r)).map (p ++ ·)
    rw [List.append_assoc, chainsB_pre p k, chainsB_pre p r]; simp
/-- How long a chain may be. -/
theorem chainsB_bound : ∀ (f : Forest) (a : List UInt8), ∀ x ∈ chainsB a f, x.length ≤ a.length + f.deep ∧ a.length < x.length
  | .nil, _, x, h => by cases h
  | .cons c k r, a, x, h => by
    have h' : x ∈ (a ++ [c]) :: (chainsB (a ++ [c]) k ++ chainsB a r) := h
    show x.length ≤ a.length + max (k.deep + 1) r.deep ∧ _
    rcases List.mem_cons.1 h' with rfl | h'
    · simp; omega
    · rcases List.mem_append.1 h' with h' | h'
      · have := chainsB_bound k _ x h'
        simp at this; omega
      · have := chainsB_bound r _ x h'
        omega

/-- The text of calls. -/
def textB : Forest → List UInt8
  | .nil => []
  | .cons c k r => c :: ((if k.isNil = true then [] else 40 :: (textB k ++ [41])) ++ textB r)
def textOne (c : UInt8) (k : Forest) : List UInt8 := c :: (if k.isNil = true then [] else 40 :: (textB k ++ [41]))
theorem textB_cons (c : UInt8) (k r : Forest) : textB (.cons c k r) = textOne c k ++ textB r := rfl
theorem textB_app : ∀ f g : Forest, textB (f.app g) = textB f ++ textB g
  | .nil, _ => rfl
  | .cons c k r, g => by
    show textOne c k ++ textB (r.app g) = (textOne c k ++ textB r) ++ textB g
    rw [textB_app r g, List.append_assoc]
theorem textB_one (c : UInt8) (k : Forest) : textB (.cons c k .nil) = textOne c k := by
  show textOne c k ++ [] = _
  rw [List.append_nil]
theorem textB_len : ∀ f : Forest, (textB f).length ≤ 3 * f.size
  | .nil => Nat.le_refl 0
  | .cons c k r => by
    have h1 := textB_len k
    have h2 := textB_len r
    show (c :: ((if k.isNil = true then [] else 40 :: (textB k ++ [41])) ++ textB r)).length ≤ 3 * (k.size + r.size + 1)
    split <;> simp <;> omega

/-- The calls without those of a segment. -/
def lessB (n : ByteArray) : Forest → Forest
  | .nil => .nil
  | .cons c k r => if (⟨#[c]⟩ : ByteArray) = n then lessB n r else .cons c (lessB n k) (lessB n r)
theorem lessB_app (n : ByteArray) : ∀ f g : Forest, lessB n (f.app g) = (lessB n f).app (lessB n g)
  | .nil, _ => rfl
  | .cons c k r, g => by
    show (if _ then lessB n (r.app g) else .cons c (lessB n k) (lessB n (r.app g))) = Forest.app (if _ then _ else _) _
    rw [lessB_app n r g]
    split <;> rfl
theorem lessB_yes {n : ByteArray} {c : UInt8} (k : Forest) (h : (⟨#[c]⟩ : ByteArray) = n) : lessB n (.cons c k .nil) = .nil := by
  show (if _ then Forest.nil else _) = _
  rw [if_pos h]
theorem lessB_no {n : ByteArray} {c : UInt8} (k : Forest) (h : ¬ (⟨#[c]⟩ : ByteArray) = n) : lessB n (.cons c k .nil) = .cons c (lessB n k) .nil := by
  show (if _ then Forest.nil else _) = _
  rw [if_neg h]; rfl
theorem lessB_size (n : ByteArray) : ∀ f : Forest, (lessB n f).size ≤ f.size
  | .nil => Nat.le_refl 0
  | .cons c k r => by
    have h1 := lessB_size n k
    have h2 := lessB_size n r
    show Forest.size (if _ then _ else _) ≤ k.size + r.size + 1
    split
    · omega
    · show (lessB n k).size + (lessB n r).size + 1 ≤ _; omega
theorem lessB_len (n : ByteArray) : ∀ f : Forest, (lessB n f).len ≤ f.len
  | .nil => Nat.le_refl 0
  | .cons c k r => by
    have h2 := lessB_len n r
    show Forest.len (if _ then _ else _) ≤ r.len + 1
    split
    · omega
    · show (lessB n r).len + 1 ≤ _; omega

/-- How many calls are read out of a text: no more than it has bytes. -/
theorem rd_size (P : UInt8 → Bool) : ∀ (n d : Nat) (s : List UInt8) f r, rd P n d s = some (f, r) → f.size + r.length ≤ s.length ∧ f.deep ≤ d
  | 0, _, _, _, _, e => by cases e
  | n + 1, d, [], f, r, e => by
    injection e with e
    injection e with e1 e2
    subst e1 e2
    exact ⟨Nat.le_refl _, Nat.zero_le _⟩
  | n + 1, d, c :: s, f, r, e => by
    unfold rd at e
    split at e
    · injection e with e
      injection e with e1 e2
      subst e1 e2
      exact ⟨Nat.le_of_eq (Nat.zero_add _), Nat.zero_le _⟩
    · unfold thenBy at e
      split at e
      · cases e
      · next k r1 h2 =>
        split at e
        · cases e
        · next f' r2 h4 =>
          injection e with e
          injection e with e1 e2
          subst e1 e2
          have h5 := rd_size P n d r1 _ _ h4
          have h6 : k.size + r1.length ≤ s.length ∧ k.deep + 1 ≤ d := by
            unfold callBy at h2
            split at h2
            · cases h2
            · next d' =>
              split at h2
              · unfold innerBy at h2
                split at h2
                · injection h2 with h2
                  injection h2 with h2 h3
                  subst h2 h3
                  exact ⟨Nat.le_refl _, by show 0 + 1 ≤ d' + 1; omega⟩
                · next x u =>
                  split at h2
                  · unfold closed at h2
                    split at h2
                    · cases h2
                    · cases h2
                    · cases h2
                    · next c' k' f'' x' r'' h7 =>
                      split at h2
                      · injection h2 with h2
                        injection h2 with h2 h3
                        subst h2 h3
                        have h8 := rd_size P n d' u _ _ h7
                        simp at h8 ⊢
                        omega
                      · cases h2
                  · injection h2 with h2
                    injection h2 with h2 h3
                    subst h2 h3
                    exact ⟨by show 0 + _ ≤ _; omega, by show 0 + 1 ≤ d' + 1; omega⟩
              · cases h2
          refine ⟨?_, ?_⟩
          · show k.size + f'.size + 1 + r2.length ≤ s.length + 1
            omega
          · show max (k.deep + 1) f'.deep ≤ d
            omega
theorem calls_size {P : UInt8 → Bool} {d : Nat} {s : List UInt8} {f : Forest} {r : List UInt8} (h : calls P d s = some (f, r)) : f.size + r.length ≤ s.length ∧ f.deep ≤ d := rd_size P _ d s f r h
theorem whole_some {g : Got} {f : Forest} (h : whole g = some f) : g = some (f, []) := by
  unfold whole at h
  split at h
  · injection h with h; subst h; rfl
  · cases h
theorem traceB_some {l : List Seg} {t : List UInt8} {f : Forest} (h : traceB l t = some f) : validB l = true ∧ t.length ≤ 80 ∧ calls (callP l) 8 t = some (f, []) := by
  rw [traceB_eq] at h
  split at h
  · next h1 =>
    simp only [Bool.and_eq_true, decide_eq_true_eq] at h1
    exact ⟨h1.1, h1.2, whole_some h⟩
  · cases h
theorem traceB_size {l : List Seg} {t : List UInt8} {f : Forest} (h : traceB l t = some f) : f.size ≤ 80 ∧ f.deep ≤ 8 := by
  obtain ⟨_, h2, h3⟩ := traceB_some h
  have := calls_size h3
  simp at this
  omega

def strOf (x : List UInt8) : ByteArray := ⟨x.toArray⟩
theorem bytes_cat (x y : List UInt8) : (⟨x.toArray⟩ : ByteArray) ++ ⟨y.toArray⟩ = ⟨(x ++ y).toArray⟩ := by
  apply ByteArray.ext
  simp [ByteArray.data_append]
theorem bytes_cat3 (x y z : List UInt8) : (⟨x.toArray⟩ : ByteArray) ++ ⟨y.toArray⟩ ++ ⟨z.toArray⟩ = ⟨(x ++ y ++ z).toArray⟩ := by
  apply ByteArray.ext
  simp [ByteArray.data_append]
theorem bytes_size (x : List UInt8) : (⟨x.toArray⟩ : ByteArray).size = x.length := by simp [ByteArray.size]
theorem Forest.app_size : ∀ f g : Forest, (f.app g).size = f.size + g.size
  | .nil, g => by show g.size = 0 + g.size; omega
  | .cons c k r, g => by show k.size + (r.app g).size + 1 = k.size + r.size + 1 + g.size; rw [Forest.app_size r]; omega

theorem Forest.deep_app : ∀ (pre : Forest) (c : UInt8) (k r : Forest), k.deep + 1 ≤ (pre.app (.cons c k r)).deep
  | .nil, _, k, r => by show k.deep + 1 ≤ max (k.deep + 1) r.deep; omega
  | .cons _ k' p, c, k, r => by
    have := Forest.deep_app p c k r
    show _ ≤ max (k'.deep + 1) (p.app (.cons c k r)).deep
    omega
/-- The root's letter. -/
def rootB (l : List Seg) : UInt8 := match l with
  | s :: _ => s.name.data.toList.headD 0
  | [] => 0
theorem root_name {l : List Seg} (hv : validB l = true) : ∃ s, l[0]? = some s ∧ s.name = ⟨#[rootB l]⟩ := by
  have h1 : 1 ≤ l.length := by
    unfold validB at hv
    simp only [Bool.and_eq_true, decide_eq_true_eq] at hv
    exact hv.1.1
  cases l with
  | nil => simp at h1
  | cons s r =>
    obtain ⟨d, hd, _, _⟩ := nameOk_one (validB_names hv (s := s) (by simp))
    refine ⟨s, rfl, ?_⟩
    show s.name = ⟨#[s.name.data.toList.headD 0]⟩
    rw [hd]; rfl
/-- The root's name in memory. -/
theorem Segs.root {w : World} {B : Nat} {A : Option Addr} {l : List Seg} (h : Segs w B A l) (hv : validB l = true) : ∃ b o, A = some ⟨b, o, none⟩ ∧ b < B ∧ w.cell? ⟨b, o, none⟩ = some (.string ⟨#[rootB l]⟩) := by
  obtain ⟨s, hs, hn⟩ := root_name hv
  obtain ⟨b, o, e, hB, hc⟩ := h (List.getElem?_eq_some_iff.1 hs).1
  have := (hc 0 s hs).1
  rw [hn] at this
  simp only [Nat.zero_mul, Nat.add_zero] at this
  exact ⟨b, o, e, hB, this⟩

/-- What a trace needs. -/
def needsRes (l : List Seg) (t : ByteArray) : ByteArray := match traceB l t.data.toList with
  | none => ⟨#[]⟩
  | some f => ⟨(rootB l :: needsB (rootB l) f).toArray⟩

end Go.Proofs.Ytjehklkndmdcaaa
/- The law FnNeedsOf: the needs begin and end with the root; plain. -/
namespace Go.Proofs.Ytjehklkndmdcaaa
open Go.RowKit

theorem needsB_last (a : UInt8) : ∀ f : Forest, ∃ xs, a :: needsB a f = xs ++ [a]
  | .nil => ⟨[], rfl⟩
  | .cons c k r => by
    obtain ⟨ys, h⟩ := needsB_last a r
    refine ⟨a :: c :: (needsB c k ++ ys), ?_⟩
    show a :: c :: (needsB c k ++ (a :: needsB a r)) = _
    rw [h]
    simp
theorem cut_one (xs : List UInt8) (k : Nat) (c : UInt8) (h : xs[k]? = some c) : (⟨xs.toArray⟩ : ByteArray).extract k (k + 1) = ⟨#[c]⟩ := by
  apply ByteArray.ext
  apply Array.ext'
  rw [ByteArray.data_extract, Array.toList_extract]
  show (xs.drop k).take (k + 1 - k) = [c]
  obtain ⟨hk, rfl⟩ := List.getElem?_eq_some_iff.1 h
  rw [show k + 1 - k = 1 from by omega, List.drop_eq_getElem_cons hk]
  rfl
theorem needs_said {l : List Seg} {t : ByteArray} {f : Forest} (h : traceB l t.data.toList = some f) :
    (needsRes l t).size = 2 * f.size + 1 ∧ (needsRes l t).extract 0 1 = ⟨#[rootB l]⟩ ∧ (needsRes l t).extract (2 * f.size) (2 * f.size + 1) = ⟨#[rootB l]⟩ := by
  have e : needsRes l t = ⟨(rootB l :: needsB (rootB l) f).toArray⟩ := by
    unfold needsRes
    rw [h]
  have hl := needsB_len (rootB l) f
  obtain ⟨xs, hx⟩ := needsB_last (rootB l) f
  have hxl : xs.length = 2 * f.size := by
    have := congrArg List.length hx
    rw [List.length_cons, List.length_append, hl] at this
    simpa using this.symm
  rw [e]
  refine ⟨?_, cut_one _ 0 _ rfl, cut_one _ _ _ ?_⟩
  · show (rootB l :: needsB (rootB l) f).toArray.size = _
    rw [List.size_toArray, List.length_cons, hl]
  · rw [hx, ← hxl, List.getElem?_append_right (Nat.le_refl _), Nat.sub_self]
    rfl

end Go.Proofs.Ytjehklkndmdcaaa
/- The reference's reading, plain: its steps at a place of the text. -/
namespace Go.Proofs.Ytjehklkndmdcaaa

theorem tw_take (p : UInt8 → Bool) : ∀ (n m : Nat) (r : List UInt8), m ≤ n → (∀ j, j < m → ∃ h : j < r.length, p r[j] = true) → (m = n ∨ r.length ≤ m ∨ ∃ h : m < r.length, p r[m] = false) → (r.take n).takeWhile p = r.take m
  | 0, 0, _, _, _, _ => by simp
  | 0, m + 1, _, h, _, _ => absurd h (by omega)
  | n + 1, 0, [], _, _, _ => rfl
  | n + 1, 0, c :: r, _, _, h2 => by
    rcases h2 with h | h | ⟨_, h⟩
    · omega
    · simp at h
    · rw [List.take_succ_cons, List.takeWhile_cons, if_neg (by simp at h; simp [h])]
      rfl
  | n + 1, m + 1, [], _, h1, _ => by
    obtain ⟨h, _⟩ := h1 0 (by omega)
    simp at h
  | n + 1, m + 1, c :: r, hm, h1, h2 => by
    obtain ⟨_, h0⟩ := h1 0 (by omega)
    rw [List.take_succ_cons, List.takeWhile_cons, if_pos (by simpa using h0), List.take_succ_cons]
    congr 1
    refine tw_take p n m r (by omega) (fun j hj => ?_) ?_
    · obtain ⟨h, h3⟩ := h1 (j + 1) (by omega)
      exact ⟨by simpa using h, by simpa using h3⟩
    · rcases h2 with h | h | ⟨h, h3⟩
      · exact .inl (by omega)
      · exact .inr (.inl (by simpa using h))
      · exact .inr (.inr ⟨by simpa using h, by simpa using h3⟩)

/-- The digits between two places. -/
theorem digs_at {t : ByteArray} {a j : Nat} (ha : a ≤ j) (hj : j ≤ t.size) (h3 : j ≤ a + 3) (h1 : ∀ i, a ≤ i → ∀ h : i < t.size, i < j → isDig t[i] = true) (h2 : j = a + 3 ∨ t.size ≤ j ∨ ∃ h : j < t.size, isDig t[j] = false) :
    digs (t.data.toList.drop a) = (t.data.toList.drop a).take (j - a) ∧ (digs (t.data.toList.drop a)).length = j - a := by
  have hl : (t.data.toList.drop a).length = t.size - a := by simp
  have e : digs (t.data.toList.drop a) = (t.data.toList.drop a).take (j - a) := by
    unfold digs
    refine tw_take isDig 3 (j - a) _ (by omega) (fun i hi => ?_) ?_
    · refine ⟨by omega, ?_⟩
      have hz : a + i < t.data.size := show a + i < t.size by omega
      have h5 : isDig (t.data[a + i]'hz) = true := h1 (a + i) (by omega) hz (by omega)
      simpa using h5
    · rcases h2 with h | h | ⟨h, h4⟩
      · exact .inl (by omega)
      · exact .inr (.inl (by omega))
      · refine .inr (.inr ⟨by omega, ?_⟩)
        have h6 : a + (j - a) = j := by omega
        have hz : j < t.data.size := h
        have h5 : isDig (t.data[j]'hz) = false := h4
        simp only [List.getElem_drop, Array.getElem_toList, h6]
        exact h5
  refine ⟨e, ?_⟩
  rw [e, List.length_take]
  omega

/-- The tree with a segment more. -/
def grow1 (tr : List Seg) (c : UInt8) (r : List UInt8) (p : Int) : List Seg := tr ++ [⟨⟨#[c]⟩, numB (digs r), p⟩]
theorem grow1_len (tr : List Seg) (c : UInt8) (r : List UInt8) (p : Int) : (grow1 tr c r p).length = tr.length + 1 := by simp [grow1]
/-- What follows the first child. -/
def sAfter (f own : Nat) (s2 : SSt) : SSt := sKids (fun x => sSeg f x own) (s2.rest.length + 1) s2

theorem sSeg_no {t : ByteArray} {k j f : Nat} {c : UInt8} {tr : List Seg} {p : Int} (h8 : tr.length ≤ 8) (hd : t.data.toList.drop k = c :: t.data.toList.drop (k + 1)) (hj : (digs (t.data.toList.drop (k + 1))).length = j - (k + 1)) (hkj : k + 1 ≤ j) (hn : nextB t j 40 = false) :
    sSeg (f + 1) ⟨t.data.toList.drop k, false, tr⟩ p = ⟨t.data.toList.drop j, !numOk (digs (t.data.toList.drop (k + 1))), grow1 tr c (t.data.toList.drop (k + 1)) p⟩ := by
  rw [hd, sSeg_open f c _ tr p h8, hj, List.drop_drop, show k + 1 + (j - (k + 1)) = j by omega]
  unfold nextB at hn
  cases hr : t.data.toList.drop j with
  | nil => rfl
  | cons d r3 =>
    rw [hr] at hn
    have : d ≠ 40 := fun e => by subst e; simp at hn
    simp only [if_neg this]
    rfl
theorem sSeg_yes {t : ByteArray} {k j f : Nat} {c : UInt8} {tr : List Seg} {p : Int} (h8 : tr.length ≤ 8) (hd : t.data.toList.drop k = c :: t.data.toList.drop (k + 1)) (hj : (digs (t.data.toList.drop (k + 1))).length = j - (k + 1)) (hkj : k + 1 ≤ j) (hn : t.data.toList.drop j = 40 :: t.data.toList.drop (j + 1)) :
    sSeg (f + 1) ⟨t.data.toList.drop k, false, tr⟩ p = sAfter f tr.length (sSeg f ⟨t.data.toList.drop (j + 1), !numOk (digs (t.data.toList.drop (k + 1))), grow1 tr c (t.data.toList.drop (k + 1)) p⟩ tr.length) := by
  rw [hd, sSeg_open f c _ tr p h8, hj, List.drop_drop, show k + 1 + (j - (k + 1)) = j by omega, hn]
  simp only [if_true]
  rfl
theorem sSeg_not {f : Nat} {r : List UInt8} {bad : Bool} {tr : List Seg} {p : Int} (h : bad = true ∨ 8 < tr.length ∨ r = [] ∨ f = 0) : sSeg f ⟨r, bad, tr⟩ p = ⟨r, true, tr⟩ := by
  cases f with
  | zero => rfl
  | succ f =>
    unfold sSeg
    rcases h with rfl | h | rfl | h
    · rfl
    · rw [if_pos (by simp [h])]
    · split <;> rfl
    · cases h
theorem sKids_comma {seg : SSt → SSt} {g : Nat} {r : List UInt8} {bad : Bool} {tr : List Seg} : sKids seg (g + 1) ⟨44 :: r, bad, tr⟩ = sKids seg g (seg ⟨r, bad, tr⟩) := by
  conv => lhs; unfold sKids
  simp only [if_true]
theorem sKids_bad {seg : SSt → SSt} {g : Nat} {r : List UInt8} {tr : List Seg} (h : ∀ d u, r = d :: u → d ≠ 44) : sKids seg (g + 1) ⟨r, true, tr⟩ = ⟨r, true, tr⟩ := by
  unfold sKids
  cases r with
  | nil => rfl
  | cons d u =>
    simp only [if_neg (h d u rfl)]
    rfl
theorem sKids_close {seg : SSt → SSt} {g : Nat} {r : List UInt8} {tr : List Seg} : sKids seg (g + 1) ⟨41 :: r, false, tr⟩ = ⟨r, false, tr⟩ := by
  conv => lhs; unfold sKids
  simp
theorem sKids_else {seg : SSt → SSt} {g : Nat} {r : List UInt8} {tr : List Seg} (h1 : ∀ d u, r = d :: u → d ≠ 44) (h2 : ∀ d u, r = d :: u → d ≠ 41) : sKids seg (g + 1) ⟨r, false, tr⟩ = ⟨r, true, tr⟩ := by
  unfold sKids
  cases r with
  | nil => rfl
  | cons d u =>
    simp [h1 d u rfl, h2 d u rfl]

end Go.Proofs.Ytjehklkndmdcaaa

/- The reference's reader: segment. -/
namespace Go.Proofs.Ytjehklkndmdcaaa
open Go.RowKit

/-- What segment has done. -/
def SpecPost (w : World) (B b : Nat) (t : ByteArray) (k : Nat) (s : SSt) (e : Ending) (w' : World) : Prop :=
  e = .returned (.tuple #[]) ∧ ∃ (k' : Nat) (v' : Value), s.rest = t.data.toList.drop k' ∧ k ≤ k' ∧ k' ≤ t.size ∧ Row w' b 122 #[.string t, .int .i64 k', .bool s.bad, v'] ∧ OwnTree w' B v' s.tree ∧ Below B w w'

theorem OwnTree.set {w : World} {B b : Nat} {v : Value} {tr : List Seg} {t : TypeId} {cs : Array Value} (h : OwnTree w B v tr) (hr : Row w b t cs) (hne : 31 ≠ t) (i : Nat) (u : Value) : OwnTree (w.setCell ⟨b, i, none⟩ u) B v tr :=
  h.far fun g hg => Below.heap_setCell w ⟨b, i, none⟩ u g (h.ne hr hne g hg)

set_option maxRecDepth 100000 in
set_option maxHeartbeats 2000000 in
theorem segment_not (B b : Nat) (t : ByteArray) (f k : Nat) (p : Int) (bad : Bool) (tr : List Seg) (v : Value) (w : World) (hk : k ≤ t.size) (hBb : B ≤ b) (hr : Row w b 122 #[.string t, .int .i64 k, .bool bad, v]) (hown : OwnTree w B v tr)
    (h : bad = true ∨ 8 < tr.length ∨ k = t.size) :
    Calls Try.prog 75 #[.pointer (some ⟨b, 0, none⟩), .int .i64 p] w (SpecPost w B b t k (sSeg f ⟨t.data.toList.drop k, bad, tr⟩ p)) := by
  have hS : sSeg f ⟨t.data.toList.drop k, bad, tr⟩ p = ⟨t.data.toList.drop k, true, tr⟩ := sSeg_not (by
    rcases h with h | h | h
    · exact .inl h
    · exact .inr (.inl h)
    · exact .inr (.inr (.inl (List.drop_of_length_le (by simp; omega)))))
  rw [hS]
  clear hS
  obtain ⟨A, cap, rfl, -⟩ := hown.form
  have c0 : w.cell? ⟨b, 0, none⟩ = some (.string t) := hr.cell 0
  have c1 : w.cell? ⟨b, 1, none⟩ = some (.int .i64 k) := hr.cell 1
  have c2 : w.cell? ⟨b, 2, none⟩ = some (.bool bad) := hr.cell 2
  have c3 : w.cell? ⟨b, 3, none⟩ = some (.slice A tr.length cap) := hr.cell 3
  have z2 : w.frozen? ⟨b, 2, none⟩ = false := hr.free 2
  have fin : ∀ q : Nat, SpecPost w B b t k ⟨t.data.toList.drop k, true, tr⟩ (.returned (.tuple #[])) ((w.drewN q).setCell ⟨b, 2, none⟩ (.bool true)) := fun q =>
    ⟨rfl, k, _, rfl, Nat.le_refl _, hk, Row.put (w := w.drewN q) hr 2 (.bool true), OwnTree.set (w := w.drewN q) hown hr (by decide) 2 _, (below_drewN (Below.refl B w) q).setCell hBb _⟩
  have HF := Lib.hid fin
  have hk0 : (0 : Int) ≤ (k : Int) := Int.natCast_nonneg _
  clear fin hown hr
  cases bad with
  | true =>
    go_enter Try.func75, Try.ntmps75
    go_wp2_with fail
    go_quiet (fail)
    go_wp2
    refine bodyPost_ret (results_none rfl _ _ _) rfl ?_
    exact HF.out _
  | false =>
    by_cases hlt : k < t.size
    · have h8 : 8 < tr.length := by
        rcases h with h | h | h
        · cases h
        · exact h
        · omega
      have g1 : decide (t.size ≤ k) = false := decide_eq_false (by omega)
      have g2 : decide (8 < tr.length) = true := decide_eq_true h8
      have g3 : ¬ (t.size : Int) ≤ (k : Int) := by omega
      have g4 : (8 : Int) < (tr.length : Int) := by omega
      go_enter Try.func75, Try.ntmps75
      go_wp2_with fail
      go_quiet (fail)
      go_wp2
      refine bodyPost_ret (results_none rfl _ _ _) rfl ?_
      exact HF.out _
    · have g1 : decide (t.size ≤ k) = true := decide_eq_true (by omega)
      have g3 : (t.size : Int) ≤ (k : Int) := by omega
      go_enter Try.func75, Try.ntmps75
      go_wp2_with fail
      go_quiet (fail)
      go_wp2
      refine bodyPost_ret (results_none rfl _ _ _) rfl ?_
      exact HF.out _

end Go.Proofs.Ytjehklkndmdcaaa
