/- Joined: Fe Fi Nd. -/
import Derived.Test.YtcaegpjbdcopoaaU08
import Derived.Defers
import Derived.Recover
import Derived.Test.YtcaegpjbdcopoaaU05
/- The program's readOutermost and readTrace: it recovers. -/
namespace Go.Proofs.Ytcaegpjbdcopoaa
open Go.RowKit

/-- All is read. -/
def whole : Got → Option Forest
  | some (f, []) => some f
  | _ => none
theorem whole_end {P : UInt8 → Bool} {d : Nat} (f : Forest) : whole (ahead f (calls P d [])) = some f := by rw [ahead_end]; rfl
theorem whole_fail {P : UInt8 → Bool} {d : Nat} {s : List UInt8} (f : Forest) (h : readA P d s = none) (hs : s ≠ []) : whole (ahead f (calls P d s)) = none := by
  cases s with
  | nil => exact absurd rfl hs
  | cons c r =>
    by_cases hc : c = 41
    · subst hc; rw [ahead_shut]; rfl
    · have h1 : callA P d c r = none := by
        unfold readA named at h
        dsimp only at h
        cases hx : callA P d c r with
        | none => rfl
        | some y => rw [hx] at h; cases h
      rw [calls_fail f hc h1]; rfl
theorem traceB_eq (l : List Seg) (t : List UInt8) : traceB l t = if (validB l && decide (t.length ≤ 80)) = true then whole (calls (callP l) 8 t) else none := by
  unfold traceB whole
  split <;> rfl

/-- What readOutermost has done. -/
def OuterPost (w : World) (b : Nat) (R : Option Forest) (e : Ending) (w' : World) : Prop :=
  ((∃ f v, R = some f ∧ e = .returned v ∧ OwnCalls w' w.heap.size v f) ∨ (R = none ∧ Died e)) ∧ Only w w' (· = b)

set_option maxRecDepth 100000 in
set_option maxHeartbeats 4000000 in
theorem readOutermost_any (b g : Nat) (l : List Seg) (nb : Nat → Nat) (hv : validB l = true) (s : List UInt8) (w : World) (hs : s.length ≤ 1048576) (hk : Known w b g l nb)
    (hr : Row w b 112 #[.slice (some ⟨g, 0, none⟩) l.length l.length, .string ⟨s.toArray⟩]) :
    Calls Try.prog 72 #[.pointer (some ⟨b, 0, none⟩)] w (OuterPost w b (whole (calls (callP l) 8 s))) := by
  have HK : Hid (Known w b g l nb) := hk
  have HR := Lib.hid hr
  have HV := Lib.hid hv
  have hbw := hr.lt
  clear hk hr hv
  go_enter Try.func72, Try.ntmps72
  go_wp2
  go_loopw [3] (fun v wr => ∃ (F : Forest) (sj : List UInt8), OwnCalls wr w.heap.size v F ∧ Row wr b 112 #[.slice (some ⟨g, 0, none⟩) l.length l.length, .string ⟨sj.toArray⟩] ∧ Only w wr (· = b) ∧ F.len + sj.length ≤ s.length ∧ Hid (whole (calls (callP l) 8 s) = whole (ahead F (calls (callP l) 8 sj))))
    (fun _ wr => restAt b wr)
  case atStart => exact ⟨.nil, s, OwnCalls.nil _ _, HR.out, Only.refl _ _, by show 0 + s.length ≤ _; omega, by show _ = _; rw [ahead_nil]⟩
  case round =>
    obtain ⟨F, sj, how, hrw, hon, hln, HEj⟩ := hrel
    have HOW := Lib.hid how
    have HON := Lib.hid hon
    have HM : Hid (restAt b wr = sj.length) := restAt_of hrw
    have hzr : w.heap.size ≤ wr.heap.size := hon.size
    have c1 : wr.cell? ⟨b, 1, none⟩ = some (.string ⟨sj.toArray⟩) := hrw.cell 1
    have hsl := how.slice
    obtain ⟨A, cap, rfl, -⟩ := hsl
    have HQ := Lib.hid (readCall_any b g l nb HV.out 8 sj 1 wr (by omega) (by omega) (by omega) (HK.out.below (hon.belowRow (Nat.le_of_lt hbw))) hrw)
    clear how hrw hon
    by_cases hsj : sj = []
    · have HN : Hid (whole (calls (callP l) 8 s) = some F) := by
        show _ = _
        rw [HEj.out, hsj, whole_end]
      have h1 : (⟨sj.toArray⟩ : ByteArray).toList = [] := by rw [ByteArray.toList_eq]; exact hsj
      generalize (⟨sj.toArray⟩ : ByteArray) = y at c1 h1
      clear HQ hsj
      go_wp2
      go_ret
      exact ⟨.inl ⟨F, _, HN.out, rfl, HOW.out⟩, HON.out⟩
    · have HNE : Hid (sj ≠ []) := hsj
      have h1 : ¬ (⟨sj.toArray⟩ : ByteArray).toList = [] := by rw [ByteArray.toList_eq]; exact hsj
      generalize (⟨sj.toArray⟩ : ByteArray) = y at c1 h1
      have h2 : (y.toList == []) = false := by simp [h1]
      have HOL := Lib.hid HOW.out.lt
      clear hsj
      go_wp2_with fail
      refine Calls.mono HQ.out ?_
      clear c1 h1 h2
      rintro e w5 ⟨(⟨c2, k2, r3, v2, hq, rfl, hic, hr5⟩ | ⟨hq, m, rfl⟩), ho5⟩
      · obtain ⟨r3', hr3', hca, hc41, hlen3⟩ := readA_some (callP_shut l) hq
        have HE5 : Hid (whole (calls (callP l) 8 s) = whole (ahead (F.app (.cons c2 k2 .nil)) (calls (callP l) 8 r3))) := by
          show _ = _
          rw [HEj.out, ahead_step F (callP_shut l) hq]
        obtain ⟨xs, hown, hvals⟩ := HOW.out.only ho5 hbw
        obtain ⟨t2, x2, rfl⟩ := hic.iface
        have HOWN := Lib.hid hown
        have HVAL := Lib.hid hvals
        have HIC := Lib.hid hic
        have HR5 := Lib.hid hr5
        have HO5 := Lib.hid (HON.out.trans ho5)
        have hz5 : w.heap.size ≤ w5.heap.size := HO5.out.size
        clear hq hca hr3' hic hr5 ho5 hown hvals HQ HEj HOW
        obtain ⟨i0, hi0, hz0, hz1, hz2'⟩ := info_parts info_call
        have I0 := Lib.hid hi0
        have Z0 := Lib.hid hz0
        have Z1 := Lib.hid hz1
        have Z2 := Lib.hid hz2'
        have HNW := Lib.hid (World.news_of_block (cs := #[.iface t2 x2]) (t := 115) (fr := (0, 0)) (heap_alloc_new w5 (.cells #[.iface t2 x2] 115)))
        clear hi0 hz0 hz1 hz2'
        go_wp2_with (at_builtin; go_loud (refine wpList_append_own_at _ rfl _ _ 71 rfl w.heap.size 115 i0 .nilIface 1 16 Try.underlying71 I0.out Z0.out Z1.out Z2.out rfl (by decide) _ F.len xs rfl (HOWN.out.alloc _) ⟨w5.heap.size, 0, none⟩ 1 1 [.iface t2 x2] rfl rfl HNW.out (by simp [Value.oneCell']) (by unfold maxLen; omega) (by omega) (by have := HO5.out.size; simp; omega) ?_); intro v3 w6 hown3 hgrow _ hat; obtain ⟨g3, cap3, rfl⟩ := own_form hown3 (by omega); have H3 := Lib.hid hown3; have HG := Lib.hid hgrow; have HA := Lib.hid hat; clear hown3 hgrow hat)
        have HOW6 : Hid (OwnCalls w6 w.heap.size (.slice (some ⟨g3, 0, none⟩) (F.len + 1) cap3) (F.app (.cons c2 k2 .nil))) :=
          OwnCalls.more HVAL.out HIC.out hzr (fun x e => (HOL.out x e).2) ((Below.refl _ w5).alloc (Nat.le_refl _) (.cells #[.iface t2 x2] 115)) HG.out H3.out HA.out
        have hgb : Below w.heap.size (w5.alloc (.cells #[.iface t2 x2] 115)) w6 := (Below.refl _ _).grown HG.out (by simp; omega) (fun x e => (HOL.out x e).1)
        have HR6 : Hid (Row w6 b 112 #[.slice (some ⟨g, 0, none⟩) l.length l.length, .string ⟨r3.toArray⟩]) := (HR5.out.alloc _).below hgb hbw
        have HO6 : Hid (Only w w6 (· = b)) := (HO5.out.andBelow ((Below.refl _ w5).alloc (Nat.le_refl _) (.cells #[.iface t2 x2] 115))).andLow hgb
        have HM6 : Hid (restAt b w6 = r3.length) := restAt_of HR6.out
        have hln6 : (F.app (.cons c2 k2 .nil)).len + r3.length ≤ s.length := by rw [Forest.app_len]; show F.len + (0 + 1) + r3.length ≤ _; omega
        clear HVAL HOWN HIC HG H3 HA HOL hgb HR5 HO5 HNW I0 Z0 Z1 Z2
        go_wp2
        go_roundw
        case rel => exact ⟨_, r3, HOW6.out, HR6.out, HO6.out, hln6, HE5⟩
        case measure => rw [HM6.out, HM.out]; omega
      · have HN : Hid (whole (calls (callP l) 8 s) = none) := by
          show _ = _
          rw [HEj.out, whole_fail F hq HNE.out]
        have HO5 := Lib.hid (HON.out.trans ho5)
        clear hq ho5 HQ
        go_wp2
        exact ⟨rfl, .inr ⟨HN.out, _, rfl⟩, HO5.out⟩

/-- The deferred closure where nothing has panicked: it turns nothing. -/
theorem traceCatch_idle (p q : Addr) (w : World) :
    CallsD Try.prog 71 #[.pointer (some p), .pointer (some q)] .returning w fun e u' w' => e = .returned (.tuple #[]) ∧ u' = .returning ∧ w = w' := by
  refine callsD_of_wpS Try.func71 rfl fun c₀ cs hu => ?_
  apply wpS_seq
  apply wpS_region
  simp [wpOpsS, go_sem, recoverD, hu, Try.ntmps71, Exit.thenS]
  refine wpS_cond (t := false) (by simp [Act.eval, Array.replicate]) ?_
  simp only [Bool.false_eq_true, if_false]
  refine wpS_of_wp (wp_skip ?_)
  cases c₀
  simp_all [bodyPostS, results, Try.results71]

/-- The deferred closure where the reader has given up: no calls, false. -/
theorem traceCatch_panicking (a : Nat) (x : Value) (y : Bool) (m : ByteArray) (w : World) (hp : Row w a 71 #[x]) (hx : ∃ A n c, x = .slice A n c) (hq : Row w (a + 1) 4 #[.bool y]) :
    CallsD Try.prog 71 #[.pointer (some ⟨a, 0, none⟩), .pointer (some ⟨a + 1, 0, none⟩)] (.panicking [{ v := .iface 9 (.string m), recovered := false }]) w fun e u' w' =>
      e = .returned (.tuple #[]) ∧ u' = .panicking [{ v := .iface 9 (.string m), recovered := true }] ∧ w' = (w.setCell ⟨a, 0, none⟩ (.slice none 0 0)).setCell ⟨a + 1, 0, none⟩ (.bool false) := by
  obtain ⟨A, n, c, rfl⟩ := hx
  have p0 : w.cell? ⟨a, 0, none⟩ = some (.slice A n c) := hp.cell 0
  have pz : w.frozen? ⟨a, 0, none⟩ = false := hp.free 0
  have hq1 : Row (w.setCell ⟨a, 0, none⟩ (.slice none 0 0)) (a + 1) 4 #[.bool y] := hq.far (p := ⟨a, 0, none⟩) (show a + 1 ≠ a by omega) _
  have q0 : (w.setCell ⟨a, 0, none⟩ (.slice none 0 0)).cell? ⟨a + 1, 0, none⟩ = some (.bool y) := hq1.cell 0
  have qz : (w.setCell ⟨a, 0, none⟩ (.slice none 0 0)).frozen? ⟨a + 1, 0, none⟩ = false := hq1.free 0
  refine callsD_of_wpS Try.func71 rfl fun c₀ cs hu => ?_
  apply wpS_seq
  apply wpS_region
  simp [wpOpsS, go_sem, recoverD, hu, Try.ntmps71, Exit.thenS]
  refine wpS_cond (t := true) (by simp [Act.eval, Array.replicate]) ?_
  simp only [if_true]
  apply wpS_region
  simp [wpOpsS, go_sem, p0, pz, q0, qz, bodyPostS, results, Try.results71]

end Go.Proofs.Ytcaegpjbdcopoaa
/- What a trace tells, plain: needs, chains, texts, calls that are left. -/
namespace Go.Proofs.Ytcaegpjbdcopoaa
open Go.RowKit

/-- What is needed behind a caller: each call, what is needed within it, and the caller again. -/
def needsB (a : UInt8) : Forest → List UInt8
  | .nil => []
  | .cons c k r => c :: (needsB c k ++ (a :: needsB a r))
theorem needsB_app (a : UInt8) : ∀ f g : Forest, needsB a (f.app g) = needsB a f ++ needsB a g
  | .nil, _ => rfl
  | .cons c k r, g => by
    show c :: (needsB c k ++ (a :: needsB a (r.app g))) = (c :: (needsB c k ++ (a :: needsB a r))) ++ needsB a g
    rw [needsB_app a r g]; simp
theorem needsB_one (a c : UInt8) (k : Forest) : needsB a (.cons c k .nil) = c :: (needsB c k ++ [a]) := rfl
theorem needsB_len (a : UInt8) : ∀ f : Forest, (needsB a f).length = 2 * f.size
  | .nil => rfl
  | .cons c k r => by
    show (c :: (needsB c k ++ (a :: needsB a r))).length = 2 * (k.size + r.size + 1)
    simp [needsB_len c k, needsB_len a r]; omega

/-- Who is active at each call, behind some that are active before. -/
def chainsB (a : List UInt8) : Forest → List (List UInt8)
  | .nil => []
  | .cons c k r => (a ++ [c]) :: (chainsB (a ++ [c]) k ++ chainsB a r)
theorem chainsB_app (a : List UInt8) : ∀ f g : Forest, chainsB a (f.app g) = chainsB a f ++ chainsB a g
  | .nil, _ => rfl
  | .cons c k r, g => by
    show (a ++ [c]) :: (chainsB (a ++ [c]) k ++ chainsB a (r.app g)) = ((a ++ [c]) :: (chainsB (a ++ [c]) k ++ chainsB a r)) ++ chainsB a g
    rw [chainsB_app a r g]; simp
theorem chainsB_one (a : List UInt8) (c : UInt8) (k : Forest) : chainsB a (.cons c k .nil) = (a ++ [c]) :: chainsB (a ++ [c]) k := by
  show (a ++ [c]) :: (chainsB (a ++ [c]) k ++ []) = _
  rw [List.append_nil]
theorem chainsB_len : ∀ (f : Forest) (a : List UInt8), (chainsB a f).length = f.size
  | .nil, _ => rfl
  | .cons c k r, a => by
    show ((a ++ [c]) :: (chainsB (a ++ [c]) k ++ chainsB a r)).length = k.size + r.size + 1
    simp [chainsB_len k, chainsB_len r]
theorem chainsB_pre (p : List UInt8) : ∀ (f : Forest) (a : List UInt8), chainsB (p ++ a) f = (chainsB a f).map (p ++ ·)
  | .nil, _ => rfl
  | .cons c k r, a => by
    show (p ++ a ++ [c]) :: (chainsB (p ++ a ++ [c]) k ++ chainsB (p ++ a) r) = ((a ++ [c]) :: (chainsB (a ++ [c]) k ++ chainsB a r)).map (p ++ ·)
    rw [List.append_assoc, chainsB_pre p k, chainsB_pre p r]; simp
/-- How long a chain may be. -/
theorem chainsB_bound : ∀ (f : Forest) (a : List UInt8), ∀ x ∈ chainsB a f, x.length ≤ a.length + f.deep ∧ a.length < x.length
  | .nil, _, x, h => by cases h
  | .cons c k r, a, x, h => by
    have h' : x ∈ (a ++ [c]) :: (chainsB (a ++ [c]) k ++ chainsB a r) := h
    show x.length ≤ a.length + max (k.deep + 1) r.deep ∧ _
    rcases List.mem_cons.1 h' with rfl | h'
    · simp; omega
    · rcases List.mem_append.1 h' with h' | h'
      · have := chainsB_bound k _ x h'
        simp at this; omega
      · have := chainsB_bound r _ x h'
        omega

/-- The text of calls. -/
def textB : Forest → List UInt8
  | .nil => []
  | .cons c k r => c :: ((if k.isNil = true then [] else 40 :: (textB k ++ [41])) ++ textB r)
def textOne (c : UInt8) (k : Forest) : List UInt8 := c :: (if k.isNil = true then [] else 40 :: (textB k ++ [41]))
theorem textB_cons (c : UInt8) (k r : Forest) : textB (.cons c k r) = textOne c k ++ textB r := rfl
theorem textB_app : ∀ f g : Forest, textB (f.app g) = textB f ++ textB g
  | .nil, _ => rfl
  | .cons c k r, g => by
    show textOne c k ++ textB (r.app g) = (textOne c k ++ textB r) ++ textB g
    rw [textB_app r g, List.append_assoc]
theorem textB_one (c : UInt8) (k : Forest) : textB (.cons c k .nil) = textOne c k := by
  show textOne c k ++ [] = _
  rw [List.append_nil]
theorem textB_len : ∀ f : Forest, (textB f).length ≤ 3 * f.size
  | .nil => Nat.le_refl 0
  | .cons c k r => by
    have h1 := textB_len k
    have h2 := textB_len r
    show (c :: ((if k.isNil = true then [] else 40 :: (textB k ++ [41])) ++ textB r)).length ≤ 3 * (k.size + r.size + 1)
    split <;> simp <;> omega

/-- The calls without those of a segment. -/
def lessB (n : ByteArray) : Forest → Forest
  | .nil => .nil
  | .cons c k r => if (⟨#[c]⟩ : ByteArray) = n then lessB n r else .cons c (lessB n k) (lessB n r)
theorem lessB_app (n : ByteArray) : ∀ f g : Forest, lessB n (f.app g) = (lessB n f).app (lessB n g)
  | .nil, _ => rfl
  | .cons c k r, g => by
    show (if _ then lessB n (r.app g) else .cons c (lessB n k) (lessB n (r.app g))) = Forest.app (if _ then _ else _) _
    rw [lessB_app n r g]
    split <;> rfl
theorem lessB_yes {n : ByteArray} {c : UInt8} (k : Forest) (h : (⟨#[c]⟩ : ByteArray) = n) : lessB n (.cons c k .nil) = .nil := by
  show (if _ then Forest.nil else _) = _
  rw [if_pos h]
theorem lessB_no {n : ByteArray} {c : UInt8} (k : Forest) (h : ¬ (⟨#[c]⟩ : ByteArray) = n) : lessB n (.cons c k .nil) = .cons c (lessB n k) .nil := by
  show (if _ then Forest.nil else _) = _
  rw [if_neg h]; rfl
theorem lessB_size (n : ByteArray) : ∀ f : Forest, (lessB n f).size ≤ f.size
  | .nil => Nat.le_refl 0
  | .cons c k r => by
    have h1 := lessB_size n k
    have h2 := lessB_size n r
    show Forest.size (if _ then _ else _) ≤ k.size + r.size + 1
    split
    · omega
    · show (lessB n k).size + (lessB n r).size + 1 ≤ _; omega
theorem lessB_len (n : ByteArray) : ∀ f : Forest, (lessB n f).len ≤ f.len
  | .nil => Nat.le_refl 0
  | .cons c k r => by
    have h2 := lessB_len n r
    show Forest.len (if _ then _ else _) ≤ r.len + 1
    split
    · omega
    · show (lessB n r).len + 1 ≤ _; omega

/-- How many calls are read out of a text: no more than it has bytes. -/
theorem rd_size (P : UInt8 → Bool) : ∀ (n d : Nat) (s : List UInt8) f r, rd P n d s = some (f, r) → f.size + r.length ≤ s.length ∧ f.deep ≤ d
  | 0, _, _, _, _, e => by cases e
  | n + 1, d, [], f, r, e => by
    injection e with e
    injection e with e1 e2
    subst e1 e2
    exact ⟨Nat.le_refl _, Nat.zero_le _⟩
  | n + 1, d, c :: s, f, r, e => by
    unfold rd at e
    split at e
    · injection e with e
      injection e with e1 e2
      subst e1 e2
      exact ⟨Nat.le_of_eq (Nat.zero_add _), Nat.zero_le _⟩
    · unfold thenBy at e
      split at e
      · cases e
      · next k r1 h2 =>
        split at e
        · cases e
        · next f' r2 h4 =>
          injection e with e
          injection e with e1 e2
          subst e1 e2
          have h5 := rd_size P n d r1 _ _ h4
          have h6 : k.size + r1.length ≤ s.length ∧ k.deep + 1 ≤ d := by
            unfold callBy at h2
            split at h2
            · cases h2
            · next d' =>
              split at h2
              · unfold innerBy at h2
                split at h2
                · injection h2 with h2
                  injection h2 with h2 h3
                  subst h2 h3
                  exact ⟨Nat.le_refl _, by show 0 + 1 ≤ d' + 1; omega⟩
                · next x u =>
                  split at h2
                  · unfold closed at h2
                    split at h2
                    · cases h2
                    · cases h2
                    · cases h2
                    · next c' k' f'' x' r'' h7 =>
                      split at h2
                      · injection h2 with h2
                        injection h2 with h2 h3
                        subst h2 h3
                        have h8 := rd_size P n d' u _ _ h7
                        simp at h8 ⊢
                        omega
                      · cases h2
                  · injection h2 with h2
                    injection h2 with h2 h3
                    subst h2 h3
                    exact ⟨by show 0 + _ ≤ _; omega, by show 0 + 1 ≤ d' + 1; omega⟩
              · cases h2
          refine ⟨?_, ?_⟩
          · show k.size + f'.size + 1 + r2.length ≤ s.length + 1
            omega
          · show max (k.deep + 1) f'.deep ≤ d
            omega
theorem calls_size {P : UInt8 → Bool} {d : Nat} {s : List UInt8} {f : Forest} {r : List UInt8} (h : calls P d s = some (f, r)) : f.size + r.length ≤ s.length ∧ f.deep ≤ d := rd_size P _ d s f r h
theorem whole_some {g : Got} {f : Forest} (h : whole g = some f) : g = some (f, []) := by
  unfold whole at h
  split at h
  · injection h with h; subst h; rfl
  · cases h
theorem traceB_some {l : List Seg} {t : List UInt8} {f : Forest} (h : traceB l t = some f) : validB l = true ∧ t.length ≤ 80 ∧ calls (callP l) 8 t = some (f, []) := by
  rw [traceB_eq] at h
  split at h
  · next h1 =>
    simp only [Bool.and_eq_true, decide_eq_true_eq] at h1
    exact ⟨h1.1, h1.2, whole_some h⟩
  · cases h
theorem traceB_size {l : List Seg} {t : List UInt8} {f : Forest} (h : traceB l t = some f) : f.size ≤ 80 ∧ f.deep ≤ 8 := by
  obtain ⟨_, h2, h3⟩ := traceB_some h
  have := calls_size h3
  simp at this
  omega

def strOf (x : List UInt8) : ByteArray := ⟨x.toArray⟩
theorem bytes_cat (x y : List UInt8) : (⟨x.toArray⟩ : ByteArray) ++ ⟨y.toArray⟩ = ⟨(x ++ y).toArray⟩ := by
  apply ByteArray.ext
  simp [ByteArray.data_append]
theorem bytes_cat3 (x y z : List UInt8) : (⟨x.toArray⟩ : ByteArray) ++ ⟨y.toArray⟩ ++ ⟨z.toArray⟩ = ⟨(x ++ y ++ z).toArray⟩ := by
  apply ByteArray.ext
  simp [ByteArray.data_append]
theorem bytes_size (x : List UInt8) : (⟨x.toArray⟩ : ByteArray).size = x.length := by simp [ByteArray.size]
theorem Forest.app_size : ∀ f g : Forest, (f.app g).size = f.size + g.size
  | .nil, g => by show g.size = 0 + g.size; omega
  | .cons c k r, g => by show k.size + (r.app g).size + 1 = k.size + r.size + 1 + g.size; rw [Forest.app_size r]; omega

theorem Forest.deep_app : ∀ (pre : Forest) (c : UInt8) (k r : Forest), k.deep + 1 ≤ (pre.app (.cons c k r)).deep
  | .nil, _, k, r => by show k.deep + 1 ≤ max (k.deep + 1) r.deep; omega
  | .cons _ k' p, c, k, r => by
    have := Forest.deep_app p c k r
    show _ ≤ max (k'.deep + 1) (p.app (.cons c k r)).deep
    omega
/-- The root's letter. -/
def rootB (l : List Seg) : UInt8 := match l with
  | s :: _ => s.name.data.toList.headD 0
  | [] => 0
theorem root_name {l : List Seg} (hv : validB l = true) : ∃ s, l[0]? = some s ∧ s.name = ⟨#[rootB l]⟩ := by
  have h1 : 1 ≤ l.length := by
    unfold validB at hv
    simp only [Bool.and_eq_true, decide_eq_true_eq] at hv
    exact hv.1.1
  cases l with
  | nil => simp at h1
  | cons s r =>
    obtain ⟨d, hd, _, _⟩ := nameOk_one (validB_names hv (s := s) (by simp))
    refine ⟨s, rfl, ?_⟩
    show s.name = ⟨#[s.name.data.toList.headD 0]⟩
    rw [hd]; rfl
/-- The root's name in memory. -/
theorem Segs.root {w : World} {B : Nat} {A : Option Addr} {l : List Seg} (h : Segs w B A l) (hv : validB l = true) : ∃ b o, A = some ⟨b, o, none⟩ ∧ b < B ∧ w.cell? ⟨b, o, none⟩ = some (.string ⟨#[rootB l]⟩) := by
  obtain ⟨s, hs, hn⟩ := root_name hv
  obtain ⟨b, o, e, hB, hc⟩ := h (List.getElem?_eq_some_iff.1 hs).1
  have := (hc 0 s hs).1
  rw [hn] at this
  simp only [Nat.zero_mul, Nat.add_zero] at this
  exact ⟨b, o, e, hB, this⟩

/-- What a trace needs. -/
def needsRes (l : List Seg) (t : ByteArray) : ByteArray := match traceB l t.data.toList with
  | none => ⟨#[]⟩
  | some f => ⟨(rootB l :: needsB (rootB l) f).toArray⟩

end Go.Proofs.Ytcaegpjbdcopoaa
/- The nodes of a tree in memory: what holds while they are made. -/
namespace Go.Proofs.Ytcaegpjbdcopoaa
open Go.RowKit

def upd {α : Type} (f : Nat → α) (k : Nat) (x : α) : Nat → α := fun j => if j = k then x else f j
theorem upd_same {α : Type} (f : Nat → α) (k : Nat) (x : α) : upd f k x k = x := if_pos rfl
theorem upd_ne {α : Type} (f : Nat → α) {k j : Nat} (x : α) (h : j ≠ k) : upd f k x j = f j := if_neg h

def kidsOf (l : List Seg) (i k : Nat) : List Nat := (List.range k).filter (fun j => decide (parAt l j = (i : Int)))
theorem kidsOf_succ (l : List Seg) (i k : Nat) : kidsOf l i (k + 1) = kidsOf l i k ++ if parAt l k = (i : Int) then [k] else [] := by
  unfold kidsOf
  rw [List.range_succ, List.filter_append]
  by_cases h : parAt l k = (i : Int) <;> simp [h]
theorem kidsOf_lt {l : List Seg} {i k j : Nat} (h : j ∈ kidsOf l i k) : j < k := by
  unfold kidsOf at h
  exact List.mem_range.1 (List.mem_filter.1 h).1
theorem kidsOf_par {l : List Seg} {i k j : Nat} (h : j ∈ kidsOf l i k) : parAt l j = (i : Int) := by
  unfold kidsOf at h
  simpa using (List.mem_filter.1 h).2
theorem kidsOf_none {l : List Seg} {i k : Nat} (hd : Down l k) (hk : k ≤ i) : kidsOf l i k = [] := by
  apply List.eq_nil_iff_forall_not_mem.2
  intro j hj
  have h1 := kidsOf_lt hj
  have h2 := kidsOf_par hj
  have h3 := hd j h1
  omega
theorem kidsOf_len (l : List Seg) (i k : Nat) : (kidsOf l i k).length ≤ k := by
  have := List.length_filter_le (fun j => decide (parAt l j = (i : Int))) (List.range k)
  simpa [kidsOf] using this

def nilKids : Value := .slice none 0 0
def parPtr (l : List Seg) (nb : Nat → Nat) (i : Nat) : Option Addr := if parAt l i < 0 then none else some ⟨nb (parAt l i).toNat, 0, none⟩
def ptrsOf (nb : Nat → Nat) (ks : List Nat) : List Value := ks.map fun j => ptrTo (nb j)
theorem ptrsOf_upd {nb : Nat → Nat} {k x : Nat} {ks : List Nat} (h : ∀ j ∈ ks, j ≠ k) : ptrsOf (upd nb k x) ks = ptrsOf nb ks :=
  List.map_congr_left fun j hj => by rw [upd_ne nb x (h j hj)]

/-- 'm' nodes are made, 'k' of them have been adopted (or are the root). -/
structure Nodes (w : World) (B g m k : Nat) (l : List Seg) (nb : Nat → Nat) (cv : Nat → Value) : Prop where
  row : ∃ cs, Row w g 116 cs ∧ cs.size = l.length ∧ ∀ i, i < m → cs[i]? = some (ptrTo (nb i))
  node : ∀ i s, i < k → l[i]? = some s → Row w (nb i) 118 (nodeCells s.name s.size (parPtr l nb i) (cv i))
  fresh : ∀ i s, k ≤ i → i < m → l[i]? = some s → Row w (nb i) 118 (nodeCells s.name s.size none nilKids)
  kids : ∀ i, i < k → w.ownsRow B 116 1 (cv i) (kidsOf l i k).length (ptrsOf nb (kidsOf l i k))
  apart : ∀ i j, i < m → j < m → i ≠ j → nb i ≠ nb j
  apartC : ∀ i j, i < k → j < k → i ≠ j → (cv i).ownBlock = none ∨ (cv i).ownBlock ≠ (cv j).ownBlock
  notg : ∀ i, i < k → (cv i).ownBlock ≠ some g
  low : B ≤ g ∧ ∀ i, i < m → B ≤ nb i

theorem parPtr_upd {l : List Seg} {nb : Nat → Nat} {i k x : Nat} (hd : Down l k) (hi : i < k) : parPtr l (upd nb k x) i = parPtr l nb i := by
  unfold parPtr
  have := hd i hi
  by_cases h : parAt l i < 0
  · rw [if_pos h, if_pos h]
  · rw [if_neg h, if_neg h, upd_ne nb x (by omega)]

/-- A node more is made and stored. -/
theorem Nodes.made {w : World} {B g k : Nat} {l : List Seg} {nb : Nat → Nat} {cv : Nat → Value} (h : Nodes w B g k k l nb cv) (hd : Down l k) {s : Seg} (hk : k < l.length) (hs : l[k]? = some s) (hB : B ≤ w.heap.size) (o : Obj) :
    Nodes (((w.alloc o).alloc (.cells (nodeCells s.name s.size none nilKids) 118)).setCell ⟨g, k, none⟩ (ptrTo (w.heap.size + 1))) B g (k + 1) k l (upd nb k (w.heap.size + 1)) cv := by
  have hz : (w.alloc o).heap.size = w.heap.size + 1 := by simp
  have hnew : Row ((w.alloc o).alloc (.cells (nodeCells s.name s.size none nilKids) 118)) (w.heap.size + 1) 118 (nodeCells s.name s.size none nilKids) := by
    have := Row.new (w.alloc o) 118 (nodeCells s.name s.size none nilKids)
    rw [hz] at this
    exact this
  obtain ⟨cs, hg, hcs, hci⟩ := h.row
  have hgl := hg.lt
  have hg2 : Row ((w.alloc o).alloc (.cells (nodeCells s.name s.size none nilKids) 118)) g 116 cs := (hg.alloc o).alloc _
  have hold : ∀ i t, i < k → l[i]? = some t → nb i ≠ g := fun i t hi ht he => by
    have h1 := h.node i t hi ht
    unfold Row at h1 hg
    rw [he, hg] at h1
    injection h1 with h1
    injection h1 with _ h2
    exact absurd h2 (by decide)
  have hlt : ∀ i, i < k → nb i < w.heap.size := fun i hi => (h.node i l[i] hi (List.getElem?_eq_getElem (by omega))).lt
  refine ⟨⟨_, hg2.put k _, by simpa using hcs, fun i hi => ?_⟩, fun i t hi ht => ?_, fun i t hi hi2 ht => ?_, fun i hi => ?_, fun i j hi hj hne => ?_, h.apartC, h.notg, h.low.1, fun i hi => ?_⟩
  · rcases Nat.lt_or_ge i k with hlt' | hge
    · rw [Array.getElem?_setIfInBounds_ne (by omega), hci i hlt', upd_ne nb _ (by omega)]
    · obtain rfl : i = k := by omega
      rw [Array.getElem?_setIfInBounds_self_of_lt (by omega), upd_same]
  · rw [parPtr_upd hd hi, upd_ne nb _ (by omega)]
    exact (((h.node i t hi ht).alloc o).alloc _).far (hold i t hi ht) _
  · obtain rfl : i = k := by omega
    rw [hs] at ht
    injection ht with ht
    subst ht
    rw [upd_same]
    exact hnew.far (p := ⟨g, i, none⟩) (show w.heap.size + 1 ≠ g by omega) _
  · rw [ptrsOf_upd fun j hj => by have := kidsOf_lt hj; omega]
    have h1 := ((h.kids i hi).alloc o).alloc (.cells (nodeCells s.name s.size none nilKids) 118)
    exact own_keep h1 fun b hb => Below.heap_setCell _ _ _ _ (fun he => h.notg i hi (by rw [hb, he]))
  · rcases Nat.lt_or_ge i k with h1 | h1 <;> rcases Nat.lt_or_ge j k with h2 | h2
    · rw [upd_ne nb _ (by omega), upd_ne nb _ (by omega)]
      exact h.apart i j h1 h2 hne
    · obtain rfl : j = k := by omega
      rw [upd_ne nb _ (by omega), upd_same]
      have := hlt i h1
      omega
    · obtain rfl : i = k := by omega
      rw [upd_same, upd_ne nb _ (by omega)]
      have := hlt j h2
      omega
    · omega
  · rcases Nat.lt_or_ge i k with h1 | h1
    · rw [upd_ne nb _ (by omega)]
      exact h.low.2 i h1
    · obtain rfl : i = k := by omega
      rw [upd_same]
      omega

theorem own_nil (w : World) (B : Nat) : w.ownsRow B 116 1 nilKids 0 [] := World.ownsRow_nil w B _ 1

/-- The root is adopted by none. -/
theorem Nodes.root {w : World} {B g k : Nat} {l : List Seg} {nb : Nat → Nat} {cv : Nat → Value} (h : Nodes w B g (k + 1) k l nb cv) (hd : Down l (k + 1)) (hk : k < l.length) (hp : parAt l k < 0) :
    Nodes w B g (k + 1) (k + 1) l nb (upd cv k nilKids) := by
  have hkids : ∀ i, i < k → kidsOf l i (k + 1) = kidsOf l i k := fun i _ => by rw [kidsOf_succ, if_neg (by omega), List.append_nil]
  refine ⟨h.row, fun i t hi ht => ?_, fun i t hi hi2 ht => absurd hi (by omega), fun i hi => ?_, h.apart, fun i j hi hj hne => ?_, fun i hi => ?_, h.low⟩
  · rcases Nat.lt_or_ge i k with h1 | h1
    · rw [upd_ne cv _ (by omega)]
      exact h.node i t h1 ht
    · obtain rfl : i = k := by omega
      rw [upd_same]
      have := h.fresh i t (Nat.le_refl _) (by omega) ht
      unfold parPtr
      rw [if_pos hp]
      exact this
  · rcases Nat.lt_or_ge i k with h1 | h1
    · rw [upd_ne cv _ (by omega), hkids i h1]
      exact h.kids i h1
    · obtain rfl : i = k := by omega
      rw [upd_same, kidsOf_succ, if_neg (by omega), List.append_nil, kidsOf_none (hd.mono (by omega)) (Nat.le_refl _)]
      exact own_nil w B
  · rcases Nat.lt_or_ge i k with h1 | h1
    · rcases Nat.lt_or_ge j k with h2 | h2
      · rw [upd_ne cv _ (by omega), upd_ne cv _ (by omega)]
        exact h.apartC i j h1 h2 hne
      · obtain rfl : j = k := by omega
        rw [upd_ne cv _ (by omega), upd_same]
        cases hb : (cv i).ownBlock with
        | none => exact .inl rfl
        | some b => exact .inr (by simp [nilKids, Value.ownBlock])
    · obtain rfl : i = k := by omega
      rw [upd_same]
      exact .inl rfl
  · rcases Nat.lt_or_ge i k with h1 | h1
    · rw [upd_ne cv _ (by omega)]
      exact h.notg i h1
    · obtain rfl : i = k := by omega
      rw [upd_same]
      simp [nilKids, Value.ownBlock]

/-- The new node is adopted by its parent. -/
theorem Nodes.child {w w' : World} {B g k p : Nat} {l : List Seg} {nb : Nat → Nat} {cv : Nat → Value} {s sp : Seg} {e : Ending} (h : Nodes w B g (k + 1) k l nb cv) (hd : Down l (k + 1)) (hk : k < l.length) (hs : l[k]? = some s) (hsp : l[p]? = some sp)
    (hp : parAt l k = (p : Int)) (hpk : p < k)
    (ha : Adopted w B (nb p) (nb k) (kidsOf l p k).length s.name sp.name s.size sp.size (parPtr l nb p) nilKids (cv p) (ptrsOf nb (kidsOf l p k)) e w') :
    ∃ v', Nodes w' B g (k + 1) (k + 1) l nb (upd (upd cv k nilKids) p v') := by
  obtain ⟨_, v', hc, hpr, hown, hat, honly⟩ := ha
  refine ⟨v', ?_⟩
  have hr := h.root
  have hkidsP : kidsOf l p (k + 1) = kidsOf l p k ++ [k] := by rw [kidsOf_succ, if_pos hp]
  have hkids : ∀ i, i ≠ p → kidsOf l i (k + 1) = kidsOf l i k := fun i hi => by rw [kidsOf_succ, if_neg (by omega), List.append_nil]
  obtain ⟨cs, hg, hcs, hci⟩ := h.row
  have hnode : ∀ i, i < k + 1 → ∃ c, Row w (nb i) 118 c := fun i hi => by
    rcases Nat.lt_or_ge i k with h1 | h1
    · exact ⟨_, h.node i _ h1 (List.getElem?_eq_getElem (by omega))⟩
    · exact ⟨_, h.fresh i _ h1 hi (List.getElem?_eq_getElem (by omega))⟩
  have hgn : ∀ i, i < k + 1 → g ≠ nb i := fun i hi he => by
    obtain ⟨c, h1⟩ := hnode i hi
    unfold Row at h1 hg
    rw [← he, hg] at h1
    injection h1 with h1
    injection h1 with _ h2
    exact absurd h2 (by decide)
  have hcvn : ∀ i j, i < k → j < k + 1 → (cv i).ownBlock ≠ some (nb j) := fun i j hi hj => by
    obtain ⟨c, h1⟩ := hnode j hj
    exact own_ne (h.kids i hi) h1 (by decide)
  have hgmay : ¬ (g = nb p ∨ g = nb k ∨ some g = (cv p).ownBlock) := by
    rintro (he | he | he)
    · exact hgn p (by omega) he
    · exact hgn k (by omega) he
    · exact h.notg p hpk he.symm
  have hlts : ∀ i, i < k → ∀ b, (cv i).ownBlock = some b → b < w.heap.size := fun i hi b hb => ((h.kids i hi).lt b hb).2
  refine ⟨⟨cs, honly.row hg hgmay, hcs, hci⟩, fun i t hi ht => ?_, fun i t hi hi2 ht => absurd hi (by omega), fun i hi => ?_, h.apart, ?_, fun i hi => ?_, h.low⟩
  · rcases Nat.lt_or_ge i k with h1 | h1
    · by_cases hip : i = p
      · subst hip
        rw [hsp] at ht
        injection ht with ht
        subst ht
        rw [upd_same]
        exact hpr
      · rw [upd_ne _ _ hip, upd_ne _ _ (by omega)]
        refine honly.row (h.node i t h1 ht) ?_
        rintro (he | he | he)
        · exact h.apart i p (by omega) (by omega) hip he
        · exact h.apart i k (by omega) (by omega) (by omega) he
        · exact hcvn p i hpk hi he.symm
    · obtain rfl : i = k := by omega
      rw [upd_ne _ _ (by omega), upd_same]
      rw [hs] at ht
      injection ht with ht
      subst ht
      unfold parPtr
      rw [if_neg (by omega), hp, Int.toNat_natCast]
      exact hc
  · by_cases hip : i = p
    · subst hip
      rw [upd_same, hkidsP, List.length_append]
      have : ptrsOf nb (kidsOf l i k ++ [k]) = ptrsOf nb (kidsOf l i k) ++ [ptrTo (nb k)] := by simp [ptrsOf]
      rw [this]
      exact hown
    · rw [upd_ne _ _ hip, hkids i hip]
      rcases Nat.lt_or_ge i k with h1 | h1
      · rw [upd_ne _ _ (by omega)]
        refine own_keep (h.kids i h1) fun b hb => honly.block b (hlts i h1 b hb) ?_
        rintro (he | he | he)
        · exact hcvn i p h1 (by omega) (by rw [hb, he])
        · exact hcvn i k h1 (by omega) (by rw [hb, he])
        · rcases h.apartC i p h1 hpk hip with h2 | h2
          · rw [hb] at h2; cases h2
          · exact h2 (by rw [hb, he])
      · obtain rfl : i = k := by omega
        rw [upd_same, kidsOf_none (hd.mono (by omega)) (Nat.le_refl _)]
        exact own_nil w' B
  · have hv : ∀ j, j < k → j ≠ p → v'.ownBlock = none ∨ v'.ownBlock ≠ (cv j).ownBlock := fun j hj hjp => by
      rcases hat with h1 | ⟨b, h1, h2⟩
      · rw [h1]
        exact h.apartC p j hpk hj (Ne.symm hjp)
      · right
        rw [h1]
        intro he
        have := hlts j hj b he.symm
        omega
    intro i j hi hj hne
    by_cases hip : i = p
    · subst hip
      rw [upd_same, upd_ne _ _ (Ne.symm hne)]
      rcases Nat.lt_or_ge j k with h2 | h2
      · rw [upd_ne _ _ (by omega)]
        exact hv j h2 (Ne.symm hne)
      · obtain rfl : j = k := by omega
        rw [upd_same]
        cases hb : v'.ownBlock with
        | none => exact .inl rfl
        | some b => exact .inr (by simp [nilKids, Value.ownBlock])
    · rw [upd_ne _ _ hip]
      rcases Nat.lt_or_ge i k with h1 | h1
      · rw [upd_ne _ _ (by omega)]
        by_cases hjp : j = p
        · subst hjp
          rw [upd_same]
          rcases hv i h1 hip with h2 | h2
          · rw [h2]
            cases (cv i).ownBlock with
            | none => exact .inl rfl
            | some b => exact .inr (by simp)
          · exact .inr (Ne.symm h2)
        · rw [upd_ne _ _ hjp]
          rcases Nat.lt_or_ge j k with h2 | h2
          · rw [upd_ne _ _ (by omega)]
            exact h.apartC i j h1 h2 hne
          · obtain rfl : j = k := by omega
            rw [upd_same]
            cases hb : (cv i).ownBlock with
            | none => exact .inl rfl
            | some b => exact .inr (by simp [nilKids, Value.ownBlock])
      · obtain rfl : i = k := by omega
        rw [upd_same]
        exact .inl rfl
  · by_cases hip : i = p
    · subst hip
      rw [upd_same]
      rcases hat with h1 | ⟨b, h1, h2⟩
      · rw [h1]
        exact h.notg i hpk
      · rw [h1]
        intro he
        injection he with he
        have := hg.lt
        omega
    · rw [upd_ne _ _ hip]
      rcases Nat.lt_or_ge i k with h1 | h1
      · rw [upd_ne _ _ (by omega)]
        exact h.notg i h1
      · obtain rfl : i = k := by omega
        rw [upd_same]
        simp [nilKids, Value.ownBlock]

end Go.Proofs.Ytcaegpjbdcopoaa
