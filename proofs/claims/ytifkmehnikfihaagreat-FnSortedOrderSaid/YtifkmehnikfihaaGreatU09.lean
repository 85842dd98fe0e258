/- Joined: Fe Fi Am. -/
import Derived.Test.YtifkmehnikfihaaGreatU08
import Derived.Defers
import Derived.Recover
/- The program's readOutermost and readTrace: it recovers. -/
namespace Go.Proofs.YtifkmehnikfihaaGreat
open Go.RowKit

/-- All is read. -/
def whole : Got → Option Forest
  | some (f, []) => some f
  | _ => none
theorem whole_end {P : UInt8 → Bool} {d : Nat} (f : Forest) : whole (ahead f (calls P d [])) = some f := by rw [ahead_end]; rfl
theorem whole_fail {P : UInt8 → Bool} {d : Nat} {s : List UInt8} (f : Forest) (h : readA P d s = none) (hs : s ≠ []) : whole (ahead f (calls P d s)) = none := by
  cases s with
  | nil => exact absurd rfl hs
  | cons c r =>
    by_cases hc : c = 41
    · subst hc; rw [ahead_shut]; rfl
    · have h1 : callA P d c r = none := by
        unfold readA named at h
        dsimp only at h
        cases hx : callA P d c r with
        | none => rfl
        | some y => rw [hx] at h; cases h
      rw [calls_fail f hc h1]; rfl
theorem traceB_eq (l : List Seg) (t : List UInt8) : traceB l t = if (validB l && decide (t.length ≤ 80)) = true then whole (calls (callP l) 8 t) else none := by
  unfold traceB whole
  split <;> rfl

/-- What readOutermost has done. -/
def OuterPost (w : World) (b : Nat) (R : Option Forest) (e : Ending) (w' : World) : Prop :=
  ((∃ f v, R = some f ∧ e = .returned v ∧ OwnCalls w' w.heap.size v f) ∨ (R = none ∧ Died e)) ∧ Only w w' (· = b)

set_option maxRecDepth 100000 in
set_option maxHeartbeats 4000000 in
theorem readOutermost_any (b g : Nat) (l : List Seg) (nb : Nat → Nat) (hv : validB l = true) (s : List UInt8) (w : World) (hs : s.length ≤ 1048576) (hk : Known w b g l nb)
    (hr : Row w b 179 #[.slice (some ⟨g, 0, none⟩) l.length l.length, .string ⟨s.toArray⟩]) :
    Calls Tryz.prog 145 #[.pointer (some ⟨b, 0, none⟩)] w (OuterPost w b (whole (calls (callP l) 8 s))) := by
  have HK : Hid (Known w b g l nb) := hk
  have HR := Lib.hid hr
  have HV := Lib.hid hv
  have hbw := hr.lt
  clear hk hr hv
  go_enter Tryz.func145, Tryz.ntmps145
  go_wp2
  go_loopw [3] (fun v wr => ∃ (F : Forest) (sj : List UInt8), OwnCalls wr w.heap.size v F ∧ Row wr b 179 #[.slice (some ⟨g, 0, none⟩) l.length l.length, .string ⟨sj.toArray⟩] ∧ Only w wr (· = b) ∧ F.len + sj.length ≤ s.length ∧ Hid (whole (calls (callP l) 8 s) = whole (ahead F (calls (callP l) 8 sj))))
    (fun _ wr => restAt b wr)
  case atStart => exact ⟨.nil, s, OwnCalls.nil _ _, HR.out, Only.refl _ _, by show 0 + s.length ≤ _; omega, by show _ = _; rw [ahead_nil]⟩
  case round =>
    obtain ⟨F, sj, how, hrw, hon, hln, HEj⟩ := hrel
    have HOW := Lib.hid how
    have HON := Lib.hid hon
    have HM : Hid (restAt b wr = sj.length) := restAt_of hrw
    have hzr : w.heap.size ≤ wr.heap.size := hon.size
    have c1 : wr.cell? ⟨b, 1, none⟩ = some (.string ⟨sj.toArray⟩) := hrw.cell 1
    have hsl := how.slice
    obtain ⟨A, cap, rfl, -⟩ := hsl
    have HQ := Lib.hid (readCall_any b g l nb HV.out 8 sj 1 wr (by omega) (by omega) (by omega) (HK.out.below (hon.belowRow (Nat.le_of_lt hbw))) hrw)
    clear how hrw hon
    by_cases hsj : sj = []
    · have HN : Hid (whole (calls (callP l) 8 s) = some F) := by
        show _ = _
        rw [HEj.out, hsj, whole_end]
      have h1 : (⟨sj.toArray⟩ : ByteArray).toList = [] := by rw [ByteArray.toList_eq]; exact hsj
      generalize (⟨sj.toArray⟩ : ByteArray) = y at c1 h1
      clear HQ hsj
      go_wp2
      go_ret
      exact ⟨.inl ⟨F, _, HN.out, rfl, HOW.out⟩, HON.out⟩
    · have HNE : Hid (sj ≠ []) := hsj
      have h1 : ¬ (⟨sj.toArray⟩ : ByteArray).toList = [] := by rw [ByteArray.toList_eq]; exact hsj
      generalize (⟨sj.toArray⟩ : ByteArray) = y at c1 h1
      have h2 : (y.toList == []) = false := by simp [h1]
      have HOL := Lib.hid HOW.out.lt
      clear hsj
      go_wp2_with fail
      refine Calls.mono HQ.out ?_
      clear c1 h1 h2
      rintro e w5 ⟨(⟨c2, k2, r3, v2, hq, rfl, hic, hr5⟩ | ⟨hq, m, rfl⟩), ho5⟩
      · obtain ⟨r3', hr3', hca, hc41, hlen3⟩ := readA_some (callP_shut l) hq
        have HE5 : Hid (whole (calls (callP l) 8 s) = whole (ahead (F.app (.cons c2 k2 .nil)) (calls (callP l) 8 r3))) := by
          show _ = _
          rw [HEj.out, ahead_step F (callP_shut l) hq]
        obtain ⟨xs, hown, hvals⟩ := HOW.out.only ho5 hbw
        obtain ⟨t2, x2, rfl⟩ := hic.iface
        have HOWN := Lib.hid hown
        have HVAL := Lib.hid hvals
        have HIC := Lib.hid hic
        have HR5 := Lib.hid hr5
        have HO5 := Lib.hid (HON.out.trans ho5)
        have hz5 : w.heap.size ≤ w5.heap.size := HO5.out.size
        clear hq hca hr3' hic hr5 ho5 hown hvals HQ HEj HOW
        obtain ⟨i0, hi0, hz0, hz1, hz2'⟩ := info_parts info_call
        have I0 := Lib.hid hi0
        have Z0 := Lib.hid hz0
        have Z1 := Lib.hid hz1
        have Z2 := Lib.hid hz2'
        have HNW := Lib.hid (World.news_of_block (cs := #[.iface t2 x2]) (t := 135) (fr := (0, 0)) (heap_alloc_new w5 (.cells #[.iface t2 x2] 135)))
        clear hi0 hz0 hz1 hz2'
        go_wp2_with (at_builtin; go_loud (refine wpList_append_own_at _ rfl _ _ 99 rfl w.heap.size 135 i0 .nilIface 1 16 Tryz.underlying99 I0.out Z0.out Z1.out Z2.out rfl (by decide) _ F.len xs rfl (HOWN.out.alloc _) ⟨w5.heap.size, 0, none⟩ 1 1 [.iface t2 x2] rfl rfl HNW.out (by simp [Value.oneCell']) (by unfold maxLen; omega) (by omega) (by have := HO5.out.size; simp; omega) ?_); intro v3 w6 hown3 hgrow _ hat; obtain ⟨g3, cap3, rfl⟩ := own_form hown3 (by omega); have H3 := Lib.hid hown3; have HG := Lib.hid hgrow; have HA := Lib.hid hat; clear hown3 hgrow hat)
        have HOW6 : Hid (OwnCalls w6 w.heap.size (.slice (some ⟨g3, 0, none⟩) (F.len + 1) cap3) (F.app (.cons c2 k2 .nil))) :=
          OwnCalls.more HVAL.out HIC.out hzr (fun x e => (HOL.out x e).2) ((Below.refl _ w5).alloc (Nat.le_refl _) (.cells #[.iface t2 x2] 135)) HG.out H3.out HA.out
        have hgb : Below w.heap.size (w5.alloc (.cells #[.iface t2 x2] 135)) w6 := (Below.refl _ _).grown HG.out (by simp; omega) (fun x e => (HOL.out x e).1)
        have HR6 : Hid (Row w6 b 179 #[.slice (some ⟨g, 0, none⟩) l.length l.length, .string ⟨r3.toArray⟩]) := (HR5.out.alloc _).below hgb hbw
        have HO6 : Hid (Only w w6 (· = b)) := (HO5.out.andBelow ((Below.refl _ w5).alloc (Nat.le_refl _) (.cells #[.iface t2 x2] 135))).andLow hgb
        have HM6 : Hid (restAt b w6 = r3.length) := restAt_of HR6.out
        have hln6 : (F.app (.cons c2 k2 .nil)).len + r3.length ≤ s.length := by rw [Forest.app_len]; show F.len + (0 + 1) + r3.length ≤ _; omega
        clear HVAL HOWN HIC HG H3 HA HOL hgb HR5 HO5 HNW I0 Z0 Z1 Z2
        go_wp2
        go_roundw
        case rel => exact ⟨_, r3, HOW6.out, HR6.out, HO6.out, hln6, HE5⟩
        case measure => rw [HM6.out, HM.out]; omega
      · have HN : Hid (whole (calls (callP l) 8 s) = none) := by
          show _ = _
          rw [HEj.out, whole_fail F hq HNE.out]
        have HO5 := Lib.hid (HON.out.trans ho5)
        clear hq ho5 HQ
        go_wp2
        exact ⟨rfl, .inr ⟨HN.out, _, rfl⟩, HO5.out⟩

/-- The deferred closure where nothing has panicked: it turns nothing. -/
theorem traceCatch_idle (p q : Addr) (w : World) :
    CallsD Tryz.prog 144 #[.pointer (some p), .pointer (some q)] .returning w fun e u' w' => e = .returned (.tuple #[]) ∧ u' = .returning ∧ w = w' := by
  refine callsD_of_wpS Tryz.func144 rfl fun c₀ cs hu => ?_
  apply wpS_seq
  apply wpS_region
  simp [wpOpsS, go_sem, recoverD, hu, Tryz.ntmps144, Exit.thenS]
  refine wpS_cond (t := false) (by simp [Act.eval, Array.replicate]) ?_
  simp only [Bool.false_eq_true, if_false]
  refine wpS_of_wp (wp_skip ?_)
  cases c₀
  simp_all [bodyPostS, results, Tryz.results144]

/-- The deferred closure where the reader has given up: no calls, false. -/
theorem traceCatch_panicking (a : Nat) (x : Value) (y : Bool) (m : ByteArray) (w : World) (hp : Row w a 99 #[x]) (hx : ∃ A n c, x = .slice A n c) (hq : Row w (a + 1) 4 #[.bool y]) :
    CallsD Tryz.prog 144 #[.pointer (some ⟨a, 0, none⟩), .pointer (some ⟨a + 1, 0, none⟩)] (.panicking [{ v := .iface 9 (.string m), recovered := false }]) w fun e u' w' =>
      e = .returned (.tuple #[]) ∧ u' = .panicking [{ v := .iface 9 (.string m), recovered := true }] ∧ w' = (w.setCell ⟨a, 0, none⟩ (.slice none 0 0)).setCell ⟨a + 1, 0, none⟩ (.bool false) := by
  obtain ⟨A, n, c, rfl⟩ := hx
  have p0 : w.cell? ⟨a, 0, none⟩ = some (.slice A n c) := hp.cell 0
  have pz : w.frozen? ⟨a, 0, none⟩ = false := hp.free 0
  have hq1 : Row (w.setCell ⟨a, 0, none⟩ (.slice none 0 0)) (a + 1) 4 #[.bool y] := hq.far (p := ⟨a, 0, none⟩) (show a + 1 ≠ a by omega) _
  have q0 : (w.setCell ⟨a, 0, none⟩ (.slice none 0 0)).cell? ⟨a + 1, 0, none⟩ = some (.bool y) := hq1.cell 0
  have qz : (w.setCell ⟨a, 0, none⟩ (.slice none 0 0)).frozen? ⟨a + 1, 0, none⟩ = false := hq1.free 0
  refine callsD_of_wpS Tryz.func144 rfl fun c₀ cs hu => ?_
  apply wpS_seq
  apply wpS_region
  simp [wpOpsS, go_sem, recoverD, hu, Tryz.ntmps144, Exit.thenS]
  refine wpS_cond (t := true) (by simp [Act.eval, Array.replicate]) ?_
  simp only [if_true]
  apply wpS_region
  simp [wpOpsS, go_sem, p0, pz, q0, qz, bodyPostS, results, Tryz.results144]

end Go.Proofs.YtifkmehnikfihaaGreat
/- What a trace tells, plain: needs, chains, texts, calls that are left. -/
namespace Go.Proofs.YtifkmehnikfihaaGreat
open Go.RowKit

/-- What is needed behind a caller: each call, what is needed within it, and the caller again. -/
def needsB (a : UInt8) : Forest → List UInt8
  | .nil => []
  | .cons c k r => c :: (needsB c k ++ (a :: needsB a r))
theorem needsB_app (a : UInt8) : ∀ f g : Forest, needsB a (f.app g) = needsB a f ++ needsB a g
  | .nil, _ => rfl
  | .cons c k r, g => by
    show c :: (needsB c k ++ (a :: needsB a (r.app g))) = (c :: (needsB c k ++ (a :: needsB a r))) ++ needsB a g
    rw [needsB_app a r g]; simp
theorem needsB_one (a c : UInt8) (k : Forest) : needsB a (.cons c k .nil) = c :: (needsB c k ++ [a]) := rfl
theorem needsB_len (a : UInt8) : ∀ f : Forest, (needsB a f).length = 2 * f.size
  | .nil => rfl
  | .cons c k r => by
    show (c :: (needsB c k ++ (a :: needsB a r))).length = 2 * (k.size + r.size + 1)
    simp [needsB_len c k, needsB_len a r]; omega

/-- Who is active at each call, behind some that are active before. -/
def chainsB (a : List UInt8) : Forest → List (List UInt8)
  | .nil => []
  | .cons c k r => (a ++ [c]) :: (chainsB (a ++ [c]) k ++ chainsB a r)
theorem chainsB_app (a : List UInt8) : ∀ f g : Forest, chainsB a (f.app g) = chainsB a f ++ chainsB a g
  | .nil, _ => rfl
  | .cons c k r, g => by
    show (a ++ [c]) :: (chainsB (a ++ [c]) k ++ chainsB a (r.app g)) = ((a ++ [c]) :: (chainsB (a ++ [c]) k ++ chainsB a r)) ++ chainsB a g
    rw [chainsB_app a r g]; simp
theorem chainsB_one (a : List UInt8) (c : UInt8) (k : Forest) : chainsB a (.cons c k .nil) = (a ++ [c]) :: chainsB (a ++ [c]) k := by
  show (a ++ [c]) :: (chainsB (a ++ [c]) k ++ []) = _
  rw [List.append_nil]
theorem chainsB_len : ∀ (f : Forest) (a : List UInt8), (chainsB a f).length = f.size
  | .nil, _ => rfl
  | .cons c k r, a => by
    show ((a ++ [c]) :: (chainsB (a ++ [c]) k ++ chainsB a r)).length = k.size + r.size + 1
    simp [chainsB_len k, chainsB_len r]
theorem chainsB_pre (p : List UInt8) : ∀ (f : Forest) (a : List UInt8), chainsB (p ++ a) f = (chainsB a f).map (p ++ ·)
  | .nil, _ => rfl
  | .cons c k r, a => by
    show (p ++ a ++ [c]) :: (chainsB (p ++ a ++ [c]) k ++ chainsB (p ++ a) r) = ((a ++ [c]) :: (chainsB (a ++ [c]) k ++ chainsB a r)).map (p ++ ·)
    rw [List.append_assoc, chainsB_pre p k, chainsB_pre p r]; simp
/-- How long a chain may be. -/
theorem chainsB_bound : ∀ (f : Forest) (a : List UInt8), ∀ x ∈ chainsB a f, x.length ≤ a.length + f.deep ∧ a.length < x.length
  | .nil, _, x, h => by cases h
  | .cons c k r, a, x, h => by
    have h' : x ∈ (a ++ [c]) :: (chainsB (a ++ [c]) k ++ chainsB a r) := h
    show x.length ≤ a.length + max (k.deep + 1) r.deep ∧ _
    rcases List.mem_cons.1 h' with rfl | h'
    · simp; omega
    · rcases List.mem_append.1 h' with h' | h'
      · have := chainsB_bound k _ x h'
        simp at this; omega
      · have := chainsB_bound r _ x h'
        omega

/-- The text of calls. -/
def textB : Forest → List UInt8
  | .nil => []
  | .cons c k r => c :: ((if k.isNil = true then [] else 40 :: (textB k ++ [41])) ++ textB r)
def textOne (c : UInt8) (k : Forest) : List UInt8 := c :: (if k.isNil = true then [] else 40 :: (textB k ++ [41]))
theorem textB_cons (c : UInt8) (k r : Forest) : textB (.cons c k r) = textOne c k ++ textB r := rfl
theorem textB_app : ∀ f g : Forest, textB (f.app g) = textB f ++ textB g
  | .nil, _ => rfl
  | .cons c k r, g => by
    show textOne c k ++ textB (r.app g) = (textOne c k ++ textB r) ++ textB g
    rw [textB_app r g, List.append_assoc]
theorem textB_one (c : UInt8) (k : Forest) : textB (.cons c k .nil) = textOne c k := by
  show textOne c k ++ [] = _
  rw [List.append_nil]
theorem textB_len : ∀ f : Forest, (textB f).length ≤ 3 * f.size
  | .nil => Nat.le_refl 0
  | .cons c k r => by
    have h1 := textB_len k
    have h2 := textB_len r
    show (c :: ((if k.isNil = true then [] else 40 :: (textB k ++ [41])) ++ textB r)).length ≤ 3 * (k.size + r.size + 1)
    split <;> simp <;> omega

/-- The calls without those of a segment. -/
def lessB (n : ByteArray) : Forest → Forest
  | .nil => .nil
  | .cons c k r => if (⟨#[c]⟩ : ByteArray) = n then lessB n r else .cons c (lessB n k) (lessB n r)
theorem lessB_app (n : ByteArray) : ∀ f g : Forest, lessB n (f.app g) = (lessB n f).app (lessB n g)
  | .nil, _ => rfl
  | .cons c k r, g => by
    show (if _ then lessB n (r.app g) else .cons c (lessB n k) (lessB n (r.app g))) = Forest.app (if _ then _ else _) _
    rw [lessB_app n r g]
    split <;> rfl
theorem lessB_yes {n : ByteArray} {c : UInt8} (k : Forest) (h : (⟨#[c]⟩ : ByteArray) = n) : lessB n (.cons c k .nil) = .nil := by
  show (if _ then Forest.nil else _) = _
  rw [if_pos h]
theorem lessB_no {n : ByteArray} {c : UInt8} (k : Forest) (h : ¬ (⟨#[c]⟩ : ByteArray) = n) : lessB n (.cons c k .nil) = .cons c (lessB n k) .nil := by
  show (if _ then Forest.nil else _) = _
  rw [if_neg h]; rfl
theorem lessB_size (n : ByteArray) : ∀ f : Forest, (lessB n f).size ≤ f.size
  | .nil => Nat.le_refl 0
  | .cons c k r => by
    have h1 := lessB_size n k
    have h2 := lessB_size n r
    show Forest.size (if _ then _ else _) ≤ k.size + r.size + 1
    split
    · omega
    · show (lessB n k).size + (lessB n r).size + 1 ≤ _; omega
theorem lessB_len (n : ByteArray) : ∀ f : Forest, (lessB n f).len ≤ f.len
  | .nil => Nat.le_refl 0
  | .cons c k r => by
    have h2 := lessB_len n r
    show Forest.len (if _ then _ else _) ≤ r.len + 1
    split
    · omega
    · show (lessB n r).len + 1 ≤ _; omega

/-- How many calls are read out of a text: no more than it has bytes. -/
theorem rd_size (P : UInt8 → Bool) : ∀ (n d : Nat) (s : List UInt8) f r, rd P n d s = some (f, r) → f.size + r.length ≤ s.length ∧ f.deep ≤ d
  | 0, _, _, _, _, e => by cases e
  | n + 1, d, [], f, r, e => by
    injection e with e
    injection e with e1 e2
    subst e1 e2
    exact ⟨Nat.le_refl _, Nat.zero_le _⟩
  | n + 1, d, c :: s, f, r, e => by
    unfold rd at e
    split at e
    · injection e with e
      injection e with e1 e2
      subst e1 e2
      exact ⟨Nat.le_of_eq (Nat.zero_add _), Nat.zero_le _⟩
    · unfold thenBy at e
      split at e
      · cases e
      · next k r1 h2 =>
        split at e
        · cases e
        · next f' r2 h4 =>
          injection e with e
          injection e with e1 e2
          subst e1 e2
          have h5 := rd_size P n d r1 _ _ h4
          have h6 : k.size + r1.length ≤ s.length ∧ k.deep + 1 ≤ d := by
            unfold callBy at h2
            split at h2
            · cases h2
            · next d' =>
              split at h2
              · unfold innerBy at h2
                split at h2
                · injection h2 with h2
                  injection h2 with h2 h3
                  subst h2 h3
                  exact ⟨Nat.le_refl _, by show 0 + 1 ≤ d' + 1; omega⟩
                · next x u =>
                  split at h2
                  · unfold closed at h2
                    split at h2
                    · cases h2
                    · cases h2
                    · cases h2
                    · next c' k' f'' x' r'' h7 =>
                      split at h2
                      · injection h2 with h2
                        injection h2 with h2 h3
                        subst h2 h3
                        have h8 := rd_size P n d' u _ _ h7
                        simp at h8 ⊢
                        omega
                      · cases h2
                  · injection h2 with h2
                    injection h2 with h2 h3
                    subst h2 h3
                    exact ⟨by show 0 + _ ≤ _; omega, by show 0 + 1 ≤ d' + 1; omega⟩
              · cases h2
          refine ⟨?_, ?_⟩
          · show k.size + f'.size + 1 + r2.length ≤ s.length + 1
            omega
          · show max (k.deep + 1) f'.deep ≤ d
            omega
theorem calls_size {P : UInt8 → Bool} {d : Nat} {s : List UInt8} {f : Forest} {r : List UInt8} (h : calls P d s = some (f, r)) : f.size + r.length ≤ s.length ∧ f.deep ≤ d := rd_size P _ d s f r h
theorem whole_some {g : Got} {f : Forest} (h : whole g = some f) : g = some (f, []) := by
  unfold whole at h
  split at h
  · injection h with h; subst h; rfl
  · cases h
theorem traceB_some {l : List Seg} {t : List UInt8} {f : Forest} (h : traceB l t = some f) : validB l = true ∧ t.length ≤ 80 ∧ calls (callP l) 8 t = some (f, []) := by
  rw [traceB_eq] at h
  split at h
  · next h1 =>
    simp only [Bool.and_eq_true, decide_eq_true_eq] at h1
    exact ⟨h1.1, h1.2, whole_some h⟩
  · cases h
theorem traceB_size {l : List Seg} {t : List UInt8} {f : Forest} (h : traceB l t = some f) : f.size ≤ 80 ∧ f.deep ≤ 8 := by
  obtain ⟨_, h2, h3⟩ := traceB_some h
  have := calls_size h3
  simp at this
  omega

def strOf (x : List UInt8) : ByteArray := ⟨x.toArray⟩
theorem bytes_cat (x y : List UInt8) : (⟨x.toArray⟩ : ByteArray) ++ ⟨y.toArray⟩ = ⟨(x ++ y).toArray⟩ := by
  apply ByteArray.ext
  simp [ByteArray.data_append]
theorem bytes_cat3 (x y z : List UInt8) : (⟨x.toArray⟩ : ByteArray) ++ ⟨y.toArray⟩ ++ ⟨z.toArray⟩ = ⟨(x ++ y ++ z).toArray⟩ := by
  apply ByteArray.ext
  simp [ByteArray.data_append]
theorem bytes_size (x : List UInt8) : (⟨x.toArray⟩ : ByteArray).size = x.length := by simp [ByteArray.size]
theorem Forest.app_size : ∀ f g : Forest, (f.app g).size = f.size + g.size
  | .nil, g => by show g.size = 0 + g.size; omega
  | .cons c k r, g => by show k.size + (r.app g).size + 1 = k.size + r.size + 1 + g.size; rw [Forest.app_size r]; omega

theorem Forest.deep_app : ∀ (pre : Forest) (c : UInt8) (k r : Forest), k.deep + 1 ≤ (pre.app (.cons c k r)).deep
  | .nil, _, k, r => by show k.deep + 1 ≤ max (k.deep + 1) r.deep; omega
  | .cons _ k' p, c, k, r => by
    have := Forest.deep_app p c k r
    show _ ≤ max (k'.deep + 1) (p.app (.cons c k r)).deep
    omega
/-- The root's letter. -/
def rootB (l : List Seg) : UInt8 := match l with
  | s :: _ => s.name.data.toList.headD 0
  | [] => 0
theorem root_name {l : List Seg} (hv : validB l = true) : ∃ s, l[0]? = some s ∧ s.name = ⟨#[rootB l]⟩ := by
  have h1 : 1 ≤ l.length := by
    unfold validB at hv
    simp only [Bool.and_eq_true, decide_eq_true_eq] at hv
    exact hv.1.1
  cases l with
  | nil => simp at h1
  | cons s r =>
    obtain ⟨d, hd, _, _⟩ := nameOk_one (validB_names hv (s := s) (by simp))
    refine ⟨s, rfl, ?_⟩
    show s.name = ⟨#[s.name.data.toList.headD 0]⟩
    rw [hd]; rfl
/-- The root's name in memory. -/
theorem Segs.root {w : World} {B : Nat} {A : Option Addr} {l : List Seg} (h : Segs w B A l) (hv : validB l = true) : ∃ b o, A = some ⟨b, o, none⟩ ∧ b < B ∧ w.cell? ⟨b, o, none⟩ = some (.string ⟨#[rootB l]⟩) := by
  obtain ⟨s, hs, hn⟩ := root_name hv
  obtain ⟨b, o, e, hB, hc⟩ := h (List.getElem?_eq_some_iff.1 hs).1
  have := (hc 0 s hs).1
  rw [hn] at this
  simp only [Nat.zero_mul, Nat.add_zero] at this
  exact ⟨b, o, e, hB, this⟩

/-- What a trace needs. -/
def needsRes (l : List Seg) (t : ByteArray) : ByteArray := match traceB l t.data.toList with
  | none => ⟨#[]⟩
  | some f => ⟨(rootB l :: needsB (rootB l) f).toArray⟩

end Go.Proofs.YtifkmehnikfihaaGreat
/- The outermost calls of a trace, plain: their texts; orders of so many; what calls give in an order. -/
namespace Go.Proofs.YtifkmehnikfihaaGreat
open Go.RowKit

/-- The texts of the outermost calls. -/
def topsB : Forest → List (List UInt8)
  | .nil => []
  | .cons c k r => textOne c k :: topsB r
theorem topsB_app : ∀ f g : Forest, topsB (f.app g) = topsB f ++ topsB g
  | .nil, _ => rfl
  | .cons c k r, g => by
    show textOne c k :: topsB (r.app g) = (textOne c k :: topsB r) ++ topsB g
    rw [topsB_app r g]; rfl
theorem topsB_one (c : UInt8) (k : Forest) : topsB (.cons c k .nil) = [textOne c k] := rfl
theorem topsB_len : ∀ f : Forest, (topsB f).length = f.len
  | .nil => rfl
  | .cons c k r => by
    show (textOne c k :: topsB r).length = r.len + 1
    rw [List.length_cons, topsB_len r]
theorem textOne_len (c : UInt8) (k : Forest) : (textOne c k).length ≤ 3 * k.size + 3 := by
  have := textB_len k
  unfold textOne
  split <;> simp <;> omega
theorem topsB_bound : ∀ f : Forest, ∀ x ∈ topsB f, x.length ≤ 3 * f.size
  | .nil, x, h => by cases h
  | .cons c k r, x, h => by
    have h' : x ∈ textOne c k :: topsB r := h
    show x.length ≤ 3 * (k.size + r.size + 1)
    rcases List.mem_cons.1 h' with rfl | h'
    · have := textOne_len c k; omega
    · have := topsB_bound r x h'; omega
theorem topsB_join : ∀ f : Forest, (topsB f).flatten = textB f
  | .nil => rfl
  | .cons c k r => by
    show (textOne c k :: topsB r).flatten = textOne c k ++ textB r
    rw [List.flatten_cons, topsB_join r]
def topsRes (l : List Seg) (t : ByteArray) : List ByteArray := match traceB l t.data.toList with
  | none => []
  | some f => (topsB f).map strOf
theorem topsRes_le (l : List Seg) (t : ByteArray) : (topsRes l t).length ≤ 80 := by
  unfold topsRes
  cases hR : traceB l t.data.toList with
  | none => exact Nat.zero_le _
  | some f =>
    have h1 := (traceB_size hR).1
    have h2 := f.len_size
    show ((topsB f).map strOf).length ≤ 80
    rw [List.length_map, topsB_len]; omega
theorem topsRes_bound (l : List Seg) (t : ByteArray) : ∀ x ∈ topsRes l t, x.size ≤ 240 := by
  unfold topsRes
  cases hR : traceB l t.data.toList with
  | none => intro x h; cases h
  | some f =>
    have h1 := (traceB_size hR).1
    intro x hx
    obtain ⟨y, hy, rfl⟩ := List.mem_map.1 hx
    have := topsB_bound f y hy
    unfold strOf
    show y.toArray.size ≤ 240
    rw [List.size_toArray]; omega

/-- An order of n: each index once, as the program asks it. -/
def orderA (n : Nat) (xs : List Int) : Bool := decide (xs.length = n) && (List.range n).all fun k => xs.contains (k : Int)
/-- How the reference asks it: each is an index that did not stand before. -/
def orderB (n : Nat) (xs : List Int) : Bool := (List.range xs.length).all (fun i => decide (0 ≤ xs.getD i 0) && decide (xs.getD i 0 ≤ (n : Int) - 1) && !((xs.take i).contains (xs.getD i 0))) && decide (xs.length = n)

theorem getD_in {α : Type} (xs : List α) (i : Nat) (d : α) (h : i < xs.length) : xs.getD i d = xs[i] := by simp [List.getD, h]
theorem getD_out {α : Type} (xs : List α) (i : Nat) (d : α) (h : xs.length ≤ i) : xs.getD i d = d := by simp [List.getD, h]
theorem nodup_of_take : ∀ (xs : List Int), (∀ i, i < xs.length → xs.getD i 0 ∉ xs.take i) → xs.Nodup := by
  intro xs
  induction xs with
  | nil => intro _; exact List.nodup_nil
  | cons a xs ih =>
    intro h
    rw [List.nodup_cons]
    refine ⟨fun ha => ?_, ih fun i hi hm => ?_⟩
    · obtain ⟨i, hi, e⟩ := List.mem_iff_getElem.1 ha
      refine h (i + 1) (by simp; omega) ?_
      rw [List.take_succ_cons, List.getD_cons_succ, getD_in _ _ _ hi, e]
      exact List.mem_cons_self
    · refine h (i + 1) (by simp; omega) ?_
      rw [List.take_succ_cons, List.getD_cons_succ]
      exact List.mem_cons_of_mem _ hm
theorem take_of_nodup : ∀ (xs : List Int), xs.Nodup → ∀ i, i < xs.length → xs.getD i 0 ∉ xs.take i := by
  intro xs
  induction xs with
  | nil => intro _ i hi; cases hi
  | cons a xs ih =>
    intro h i hi
    rw [List.nodup_cons] at h
    cases i with
    | zero => simp
    | succ i =>
      have hi' : i < xs.length := by simp at hi; omega
      rw [List.take_succ_cons, List.getD_cons_succ, List.mem_cons]
      rintro (e | hm)
      · refine h.1 ?_
        rw [← e, getD_in _ _ _ hi']
        exact List.getElem_mem hi'
      · exact ih h.2 i hi' hm
/-- Different indices below n are n at most. -/
theorem nodup_le : ∀ (n : Nat) (xs : List Int), xs.Nodup → (∀ x ∈ xs, 0 ≤ x ∧ x < (n : Int)) → xs.length ≤ n
  | 0, xs, _, h => by
    cases xs with
    | nil => exact Nat.le_refl _
    | cons a xs => have := h a List.mem_cons_self; omega
  | n + 1, xs, hd, h => by
    have h1 : (xs.erase (n : Int)).length ≤ n := nodup_le n _ (hd.erase _) fun x hx => by
      have h2 := (hd.mem_erase_iff).1 hx
      have h3 := h x h2.2
      have h4 := h2.1
      omega
    by_cases hm : (n : Int) ∈ xs
    · rw [List.length_erase_of_mem hm] at h1; omega
    · rw [List.erase_of_not_mem hm] at h1; omega
theorem all_of_nodup : ∀ (n : Nat) (xs : List Int), xs.Nodup → (∀ x ∈ xs, 0 ≤ x ∧ x < (n : Int)) → n ≤ xs.length → ∀ k, k < n → (k : Int) ∈ xs
  | 0, _, _, _, _, k, hk => by omega
  | n + 1, xs, hd, h, hl, k, hk => by
    by_cases hm : (n : Int) ∈ xs
    · by_cases e : k = n
      · rw [e]; exact hm
      · refine List.mem_of_mem_erase (all_of_nodup n _ (hd.erase _) (fun x hx => ?_) (by rw [List.length_erase_of_mem hm]; omega) k (by omega))
        have h2 := (hd.mem_erase_iff).1 hx
        have h3 := h x h2.2
        have h4 := h2.1
        omega
    · have h1 : xs.length ≤ n := nodup_le n xs hd fun x hx => by
        have h3 := h x hx
        have h4 : x ≠ (n : Int) := fun e => hm (e ▸ hx)
        omega
      omega
/-- As many places as indices, and each index there: none stands twice, and nothing else is there. -/
theorem nodup_of_all : ∀ (n : Nat) (xs : List Int), xs.length = n → (∀ k, k < n → (k : Int) ∈ xs) → xs.Nodup ∧ ∀ x ∈ xs, 0 ≤ x ∧ x < (n : Int)
  | 0, xs, hl, _ => by
    cases xs with
    | nil => exact ⟨List.nodup_nil, fun x hx => by cases hx⟩
    | cons a xs => simp at hl
  | n + 1, xs, hl, h => by
    have hm : (n : Int) ∈ xs := h n (by omega)
    obtain ⟨h1, h2⟩ := nodup_of_all n (xs.erase (n : Int)) (by rw [List.length_erase_of_mem hm]; omega) fun k hk =>
      (List.mem_erase_of_ne (by omega)).2 (h k (by omega))
    have hp := List.perm_cons_erase hm
    refine ⟨hp.nodup_iff.2 (List.nodup_cons.2 ⟨fun hc => by have := h2 _ hc; omega, h1⟩), fun x hx => ?_⟩
    rcases List.mem_cons.1 (hp.mem_iff.1 hx) with rfl | hx'
    · omega
    · have := h2 x hx'; omega
/-- Both ways to ask come to the same. -/
theorem orderA_is (n : Nat) (xs : List Int) : orderB n xs = orderA n xs := by
  unfold orderA orderB
  rw [Bool.eq_iff_iff]
  simp only [Bool.and_eq_true, List.all_eq_true, List.mem_range, decide_eq_true_eq, Bool.not_eq_true', List.contains_iff_mem]
  constructor
  · rintro ⟨h, hl⟩
    refine ⟨hl, ?_⟩
    have hd : xs.Nodup := nodup_of_take xs fun i hi hm => by
      have := (h i hi).2
      rw [← Bool.not_eq_true, List.contains_iff_mem] at this
      exact this hm
    refine all_of_nodup n xs hd (fun x hx => ?_) (by omega)
    obtain ⟨i, hi, e⟩ := List.mem_iff_getElem.1 hx
    have h1 := (h i hi).1
    rw [getD_in _ _ _ hi, e] at h1
    omega
  · rintro ⟨hl, h⟩
    obtain ⟨h1, h2⟩ := nodup_of_all n xs hl h
    refine ⟨fun i hi => ⟨?_, ?_⟩, hl⟩
    · have := h2 xs[i] (List.getElem_mem hi)
      rw [getD_in _ _ _ hi]
      omega
    · rw [← Bool.not_eq_true, List.contains_iff_mem]
      exact take_of_nodup xs h1 i hi

/-- What calls give in an order. -/
def joinO (ts : List ByteArray) (xs : List Int) : List UInt8 := (xs.map fun x => (ts.getD x.toNat ⟨#[]⟩).data.toList).flatten
theorem joinO_snoc (ts : List ByteArray) (xs : List Int) (x : Int) : joinO ts (xs ++ [x]) = joinO ts xs ++ (ts.getD x.toNat ⟨#[]⟩).data.toList := by
  unfold joinO
  rw [List.map_append, List.flatten_append]
  simp
theorem joinO_len {ts : List ByteArray} {m : Nat} (h : ∀ x ∈ ts, x.size ≤ m) : ∀ xs : List Int, (joinO ts xs).length ≤ m * xs.length
  | [] => Nat.le_refl _
  | x :: xs => by
    have h1 := joinO_len h xs
    have h2 : (ts.getD x.toNat ⟨#[]⟩).data.toList.length ≤ m := by
      by_cases hk : x.toNat < ts.length
      · rw [getD_in _ _ _ hk]
        simpa using h _ (List.getElem_mem hk)
      · rw [getD_out _ _ _ (by omega)]; exact Nat.zero_le _
    have e : joinO ts (x :: xs) = (ts.getD x.toNat ⟨#[]⟩).data.toList ++ joinO ts xs := rfl
    rw [e, List.length_append, List.length_cons, Nat.mul_succ]
    omega
/-- The trace in an order, or none. -/
def inOrdRes (l : List Seg) (t : ByteArray) (xs : List Int) : ByteArray := if ((traceB l t.data.toList).isSome && orderA (topsRes l t).length xs) = true then strOf (joinO (topsRes l t) xs) else ⟨#[]⟩
def inOrdOk (l : List Seg) (t : ByteArray) (xs : List Int) : Bool := (traceB l t.data.toList).isSome && orderA (topsRes l t).length xs

end Go.Proofs.YtifkmehnikfihaaGreat
