/- Joined: Ye Yc Yj Fl. -/
import Derived.Test.YtcaegpjbdcopoaaU26
import Derived.Test.YtcaegpjbdcopoaaU17
import Derived.Test.YtcaegpjbdcopoaaU15
import Derived.Test.YtcaegpjbdcopoaaU18
import Derived.Test.YtcaegpjbdcopoaaU14
import Derived.Test.YtcaegpjbdcopoaaU10
/- The reference's steps: l5Steps. -/
namespace Go.Proofs.Ytcaegpjbdcopoaa
open Go.RowKit

def StepsPost (w : World) (rs : List (Stp × Bool)) (e : Ending) (w' : World) : Prop :=
  ∃ g n c g' n' c', e = .returned (.tuple #[.slice (some ⟨g, 0, none⟩) n c, .slice (some ⟨g', 0, none⟩) n' c']) ∧ OwnSteps w' w.heap.size g n c (rs.map (·.1)) ∧ OwnBools w' w.heap.size g' n' c' (rs.map (·.2)) ∧ Below w.heap.size w w'
/-- What holds throughout a round. -/
structure Rnd (B q : Nat) (w : World) (At : Option Addr) (l : List Seg) (f k pre r : Forest) (c : UInt8) (A A2 : Option Addr) (cap2 : Nat) (W : World) : Prop where
  box : Row W q 147 #[.string ⟨#[c]⟩, .slice A2 k.len cap2]
  segs : Segs W B At l
  left : LeftS W B f A (pre.app (.cons c k .nil)) r
  kids : IsKids W (· < B) k (.slice A2 k.len cap2)
  below : Below B w W
  lt : B ≤ q
theorem Rnd.later {B q : Nat} {w W W' : World} {At A A2 : Option Addr} {l : List Seg} {f k pre r : Forest} {c : UInt8} {cap2 : Nat} (h : Rnd B q w At l f k pre r c A A2 cap2 W) (hb : Below W.heap.size W W') : Rnd B q w At l f k pre r c A A2 cap2 W' := by
  have hB : B ≤ W.heap.size := Nat.le_trans h.lt (Nat.le_of_lt h.box.lt)
  exact ⟨h.box.below hb h.box.lt, h.segs.below (hb.mono hB), h.left.below (hb.mono hB), h.kids.below (hb.mono hB), h.below.trans (hb.mono hB), h.lt⟩
theorem Rnd.grow {B q g : Nat} {w W W' : World} {At A A2 : Option Addr} {l : List Seg} {f k pre r : Forest} {c : UInt8} {cap2 : Nat} (h : Rnd B q w At l f k pre r c A A2 cap2 W) (hg : W.grownBy W' (some g)) (hB : B ≤ g) (hq : g ≠ q) : Rnd B q w At l f k pre r c A A2 cap2 W' := by
  have hBW : B ≤ W.heap.size := Nat.le_trans h.lt (Nat.le_of_lt h.box.lt)
  have hb : Below B W W' := (Below.refl _ W).grown hg hBW (fun q hq => by injection hq with hq; omega)
  exact ⟨(hg.block q h.box.lt (fun e => hq (by injection e with e; exact e.symm))).trans h.box, h.segs.below hb, h.left.below hb, h.kids.below hb, h.below.trans hb, h.lt⟩
theorem Rnd.size {B q : Nat} {w W : World} {At A A2 : Option Addr} {l : List Seg} {f k pre r : Forest} {c : UInt8} {cap2 : Nat} (h : Rnd B q w At l f k pre r c A A2 cap2 W) : B ≤ W.heap.size := Nat.le_trans h.lt (Nat.le_of_lt h.box.lt)
theorem steps_ne {w : World} {B g n c q : Nat} {ss : List Stp} {t : TypeId} {cs : Array Value} (h : OwnSteps w B g n c ss) (hr : Row w q t cs) (hne : 35 ≠ t) : g ≠ q := fun e => by
  obtain ⟨_, _, cur, h1⟩ := row_block h.2
  have h2 : w.heap[q]? = some (.cells cs t (0, 0)) := hr
  rw [e, h2] at h1
  injection h1 with h1
  injection h1 with _ h1
  exact hne h1.symm
theorem bools_ne {w : World} {B g n c q : Nat} {bs : List Bool} {t : TypeId} {cs : Array Value} (h : OwnBools w B g n c bs) (hr : Row w q t cs) (hne : 4 ≠ t) : g ≠ q := fun e => by
  obtain ⟨_, _, cur, h1⟩ := row_block h.2
  have h2 : w.heap[q]? = some (.cells cs t (0, 0)) := hr
  rw [e, h2] at h1
  injection h1 with h1
  injection h1 with _ h1
  exact hne h1.symm
theorem step_new (W : World) (s : Stp) : ∀ j u, (stpCells [s])[j]? = some u → (W.alloc (.cells #[.string s.nm, .string s.ld, .string s.st] 35)).cell? ((⟨W.heap.size, 0, none⟩ : Addr).add j) = some u :=
  World.news_of_block (cs := #[.string s.nm, .string s.ld, .string s.st]) (t := 35) (fr := (0, 0)) (heap_alloc_new W (.cells #[.string s.nm, .string s.ld, .string s.st] 35))
theorem bool_new (W : World) (b : Bool) : ∀ j u, ([b].map Value.bool)[j]? = some u → (W.alloc (.cells #[.bool b] 4)).cell? ((⟨W.heap.size, 0, none⟩ : Addr).add j) = some u := cell_one_new W (.bool b) 4

set_option maxRecDepth 100000 in
set_option maxHeartbeats 4000000 in
theorem l5Steps_any (At : Option Addr) (l : List Seg) (ct : Nat) (hv : validB l = true) (hl : l.length ≤ 1048576) (hsh : Short l) : ∀ (n : Nat) (f : Forest) (a : UInt8) (T : List Nat) (v : Value) (w : World), f.size < n → f.size ≤ 200 → IsState l T → callP l a = true → f.all (callP l) → Segs w w.heap.size At l → IsKids w (· < w.heap.size) f v →
    Calls Try.prog 69 #[.slice At l.length ct, .string ⟨#[a]⟩, v, .string (namesAt l T)] w (StepsPost w (runS l T (needsR a f))) := by
  intro n
  induction n with
  | zero => intro f a T v w h; omega
  | succ n ih =>
    intro f a T v w hn h80 hT ha hall hw hk
    obtain ⟨A, cap, rfl, hcs⟩ := hk.nil_or
    have IH := Lib.hid ih
    have HL0 : Hid (LeftS w w.heap.size f A .nil f) := LeftS.start hcs
    have HW : Hid (Segs w w.heap.size At l) := hw
    have HV := Lib.hid hv
    have HSH := Lib.hid hsh
    have HALL := Lib.hid hall
    have HT := Lib.hid hT
    have HA := Lib.hid ha
    have hfl : f.len ≤ 200 := Nat.le_trans f.len_size h80
    clear ih hk hcs hw hv hsh hall hT ha
    have HB0 : Hid (Below w.heap.size w ((w.alloc (.cells #[] 35)).alloc (.cells #[] 4))) := ((Below.refl _ w).alloc (Nat.le_refl _) _).alloc (by simp) _
    have HS0 : Hid (OwnSteps ((w.alloc (.cells #[] 35)).alloc (.cells #[] 4)) w.heap.size w.heap.size 0 0 []) := (OwnSteps.empty w (Nat.le_refl _)).below ((Below.refl _ _).alloc (Nat.le_refl _) _)
    have HO0 : Hid (OwnBools ((w.alloc (.cells #[] 35)).alloc (.cells #[] 4)) w.heap.size (w.heap.size + 1) 0 0 []) := by
      have := OwnBools.empty (w.alloc (.cells #[] 35)) (B := w.heap.size) (by simp)
      rw [World.size_alloc] at this
      exact this
    go_enter Try.func69, Try.ntmps69
    go_wp2
    go_loopw [3, 10, 11, 26] (fun st o r i wr => ∃ (pre rest : Forest) (g1 n1 c1 g2 n2 c2 : Nat) (x0 : ByteArray), st = .string x0 ∧ o = .slice (some ⟨g1, 0, none⟩) n1 c1 ∧ r = .slice (some ⟨g2, 0, none⟩) n2 c2 ∧ i = .int .i64 pre.len ∧ Hid (x0 = namesAt l (endT l T (needsR a pre))) ∧ Hid (OwnSteps wr w.heap.size g1 n1 c1 ((runS l T (needsR a pre)).map (·.1))) ∧ Hid (OwnBools wr w.heap.size g2 n2 c2 ((runS l T (needsR a pre)).map (·.2))) ∧ Hid (LeftS wr w.heap.size f A pre rest) ∧ Hid (Below w.heap.size w wr))
      (fun _ _ _ i _ => f.len - (intOf i).toNat)
    case atStart => exact ⟨.nil, f, _, _, _, _, _, _, _, rfl, rfl, rfl, rfl, Lib.hid rfl, HS0, HO0, HL0.out.below HB0.out, HB0⟩
    case round =>
      obtain ⟨pre, rest, g1, n1, c1, g2, n2, c2, x0, rfl, rfl, rfl, rfl, HX, HS, HO, HL, HB⟩ := hrel
      clear HL0 HB0 HS0 HO0
      cases rest with
      | nil =>
        have HE := Lib.hid HL.out.done
        have hle : ¬ (pre.len < f.len) := by rw [HE.out]; omega
        go_wp2
        go_ret2
        exact ⟨_, _, _, _, _, _, rfl, by rw [HE.out]; exact HS.out, by rw [HE.out]; exact HO.out, HB.out⟩
      | cons c k r =>
        obtain ⟨hnext, hlt, hks, g, u, rfl, hg, c0, c1', hu⟩ := HL.out.take
        obtain ⟨A2, cap2, rfl, -⟩ := id hu
        have hz := HB.out.size
        have hps : pre.size + (k.size + r.size + 1) = f.size := by rw [HL.out.1, Forest.app_size]; rfl
        have hcall : (callP l c = true) ∧ k.all (callP l) ∧ pre.all (callP l) := by
          have h1 := HALL.out
          rw [HL.out.1] at h1
          have h2 := Forest.all_app.1 h1
          exact ⟨h2.2.1, h2.2.2.1, h2.1⟩
        obtain ⟨hc, hkall, hpall⟩ := hcall
        have hS0 : IsState l (endT l T (needsR a pre)) := endT_is _ HT.out (needsR_all pre a HA.out hpall)
        have hS1 : IsState l (nextT l (endT l T (needsR a pre)) c) := next_is hS0 hc
        have hS2 : IsState l (endT l (nextT l (endT l T (needsR a pre)) c) (needsR c k)) := endT_is _ hS1 (needsR_all k c hc hkall)
        have hnew : needsR a (pre.app (.cons c k .nil)) = needsR a pre ++ ((c, false) :: (needsR c k ++ [(a, true)])) := by
          rw [needsR_app, needsR_one]
        have hrun : runS l T (needsR a (pre.app (.cons c k .nil))) = runS l T (needsR a pre) ++ ((stepAt l (endT l T (needsR a pre)) c, false) :: (runS l (nextT l (endT l T (needsR a pre)) c) (needsR c k) ++ [(stepAt l (endT l (nextT l (endT l T (needsR a pre)) c) (needsR c k)) a, true)])) := by
          rw [hnew, runS_app]
          show _ ++ (_ :: runS l (nextT l (endT l T (needsR a pre)) c) (needsR c k ++ [(a, true)])) = _
          rw [runS_snoc]
        have hend : namesAt l (endT l T (needsR a (pre.app (.cons c k .nil)))) = (stepAt l (endT l (nextT l (endT l T (needsR a pre)) c) (needsR c k)) a).st := by
          rw [hnew, endT_app]
          show namesAt l (endT l (nextT l (endT l T (needsR a pre)) c) (needsR c k ++ [(a, true)])) = _
          rw [endT_snoc]
          rfl
        have HN1 : Hid (∀ W, Calls Try.prog 95 #[.string x0, .string (pathStr l ⟨#[c]⟩)] W fun e w' => e = .returned (.tuple #[.string (stepAt l (endT l T (needsR a pre)) c).st, .string (stepAt l (endT l T (needsR a pre)) c).ld]) ∧ Below W.heap.size W w') := fun W => by
          rw [HX.out, (path_str hc).1]
          exact l3Need_any l _ _ W HV.out hS0 (path_is hc)
        have HN2 : Hid (∀ W, Calls Try.prog 95 #[.string (namesAt l (endT l (nextT l (endT l T (needsR a pre)) c) (needsR c k))), .string (pathStr l ⟨#[a]⟩)] W fun e w' => e = .returned (.tuple #[.string (stepAt l (endT l (nextT l (endT l T (needsR a pre)) c) (needsR c k)) a).st, .string (stepAt l (endT l (nextT l (endT l T (needsR a pre)) c) (needsR c k)) a).ld]) ∧ Below W.heap.size W w') := fun W => by
          rw [(path_str HA.out).1]
          exact l3Need_any l _ _ W HV.out hS2 (path_is HA.out)
        have HP : Hid (∀ (b : UInt8) W, callP l b = true → Segs W w.heap.size At l → w.heap.size ≤ W.heap.size → Calls Try.prog 94 #[.slice At l.length ct, .string ⟨#[b]⟩] W fun e w' => e = .returned (.tuple #[.string (pathStr l ⟨#[b]⟩), .bool true]) ∧ Below W.heap.size W w') := fun b W hb h1 h2 => by
          have := specPath_any At l ct ⟨#[b]⟩ W (h1.more h2) hl HSH.out
          rw [(path_str hb).2] at this
          exact this
        have HQ : Hid (∀ W, Segs W W.heap.size At l → IsKids W (· < W.heap.size) k (.slice A2 k.len cap2) → Calls Try.prog 69 #[.slice At l.length ct, .string ⟨#[c]⟩, .slice A2 k.len cap2, .string (stepAt l (endT l T (needsR a pre)) c).st] W (StepsPost W (runS l (nextT l (endT l T (needsR a pre)) c) (needsR c k)))) := fun W h1 h2 => IH.out k c _ _ W (by omega) (by omega) hS1 hc hkall h1 h2
        have HC := Lib.hid hc
        have hl0 : ((runS l T (needsR a pre)).map (·.1)).length = 2 * pre.size := by rw [List.length_map, runS_len, needsR_len]
        have hl2 : (runS l (nextT l (endT l T (needsR a pre)) c) (needsR c k)).length = 2 * k.size := by rw [runS_len, needsR_len]
        have hlast : ∃ s', (((runS l T (needsR a pre)).map (·.1)) ++ [stepAt l (endT l T (needsR a pre)) c] ++ (runS l (nextT l (endT l T (needsR a pre)) c) (needsR c k)).map (·.1))[2 * pre.size + 2 * k.size]? = some s' ∧ s'.st = namesAt l (endT l (nextT l (endT l T (needsR a pre)) c) (needsR c k)) := by
          obtain ⟨B, s', b, h1, h2⟩ := runS_last l ((c, false) :: needsR c k) (endT l T (needsR a pre)) (by simp)
          have h3 : (stepAt l (endT l T (needsR a pre)) c, false) :: runS l (nextT l (endT l T (needsR a pre)) c) (needsR c k) = B ++ [(s', b)] := h1
          have h4 : [stepAt l (endT l T (needsR a pre)) c] ++ (runS l (nextT l (endT l T (needsR a pre)) c) (needsR c k)).map (·.1) = B.map (·.1) ++ [s'] := by
            have := congrArg (List.map (·.1)) h3
            simpa using this
          have h5 : B.length = 2 * k.size := by
            have := congrArg List.length h3
            rw [List.length_cons, hl2, List.length_append] at this
            simpa using this.symm
          refine ⟨s', ?_, h2⟩
          rw [List.append_assoc, h4, List.getElem?_append_right (by rw [hl0]; omega), hl0, show 2 * pre.size + 2 * k.size - 2 * pre.size = 2 * k.size by omega, List.getElem?_append_right (by rw [List.length_map, h5]; omega), List.length_map, h5]
          simp
        have hn1 := HS.out.1
        have hn2 := HO.out.1
        rw [hl0] at hn1
        rw [List.length_map, runS_len, needsR_len] at hn2
        have HZ : Hid (n1 = 2 * pre.size ∧ n2 = 2 * pre.size) := ⟨hn1, hn2⟩
        clear hn1 hn2
        have HR1 := Lib.hid hrun
        have HE1 := Lib.hid hend
        have HLST := Lib.hid hlast
        have HLN : Hid ((pre.app (.cons c k .nil)).len = pre.len + 1) := by show _ = _; rw [Forest.app_len]; rfl
        have HM : Hid ((runS l (nextT l (endT l T (needsR a pre)) c) (needsR c k)).length = 2 * k.size) := hl2
        have HRND : Hid (Rnd w.heap.size wr.heap.size w At l f k pre r c (some ⟨g, 0, none⟩) A2 cap2 (wr.alloc (.cells #[.string ⟨#[c]⟩, .slice A2 k.len cap2] 147))) :=
          ⟨Row.new wr _ _, (HW.out.below HB.out).below ((Below.refl _ wr).alloc hz _), hnext.below ((Below.refl _ wr).alloc hz _), hu.below ((Below.refl _ wr).alloc hz _), HB.out.alloc hz _, hz⟩
        have HS1 : Hid (OwnSteps (wr.alloc (.cells #[.string ⟨#[c]⟩, .slice A2 k.len cap2] 147)) w.heap.size g1 n1 c1 ((runS l T (needsR a pre)).map (·.1))) := HS.out.below ((Below.refl _ wr).alloc (Nat.le_refl _) _)
        have HO1 : Hid (OwnBools (wr.alloc (.cells #[.string ⟨#[c]⟩, .slice A2 k.len cap2] 147)) w.heap.size g2 n2 c2 ((runS l T (needsR a pre)).map (·.2))) := HO.out.below ((Below.refl _ wr).alloc (Nat.le_refl _) _)
        clear hnext hu hc hkall hpall hS0 hS1 hS2 hnew hrun hend hl0 hl2 hlast HS HO HL
        generalize (runS l T (needsR a pre)) = rs0 at *
        generalize (runS l (nextT l (endT l T (needsR a pre)) c) (needsR c k)) = rs2 at *
        have HNM : Hid ((stepAt l (endT l T (needsR a pre)) c).nm = ⟨#[c]⟩) := rfl
        have HNM3 : Hid ((stepAt l (endT l (nextT l (endT l T (needsR a pre)) c) (needsR c k)) a).nm = ⟨#[a]⟩) := rfl
        generalize (stepAt l (endT l (nextT l (endT l T (needsR a pre)) c) (needsR c k)) a) = s3 at *
        generalize (namesAt l (endT l (nextT l (endT l T (needsR a pre)) c) (needsR c k))) = x2 at *
        generalize (stepAt l (endT l T (needsR a pre)) c) = s1 at *
        generalize hss : rs0.map (·.1) = ss0 at *
        generalize hbs : rs0.map (·.2) = bs0 at *
        have HSS := Lib.hid hss
        have HBS := Lib.hid hbs
        clear hss hbs
        go_wp2_with fail
        have hq1 := HRND.out.size
        refine (HP.out c _ HC.out HRND.out.segs hq1).mono ?_
        rintro e w2 ⟨rfl, hb2⟩
        have HR2 := Lib.hid (HRND.out.later hb2)
        have HS2 := Lib.hid (HS1.out.below hb2)
        have HO2 := Lib.hid (HO1.out.below hb2)
        clear hb2 HRND HS1 HO1 hq1
        go_wp2_with fail
        refine (HN1.out w2).mono ?_
        rintro e w3 ⟨rfl, hb3⟩
        have HR3 := Lib.hid (HR2.out.later hb3)
        have HS3 := Lib.hid (HS2.out.below hb3)
        have HO3 := Lib.hid (HO2.out.below hb3)
        clear hb3 HR2 HS2 HO2
        have d0 : w3.cell? ⟨wr.heap.size, 0, none⟩ = some (.string ⟨#[c]⟩) := HR3.out.box.cell 0
        have HRA := Lib.hid (HR3.out.later ((Below.refl _ w3).alloc (Nat.le_refl _) (.cells #[.string ⟨#[c]⟩, .string s1.ld, .string s1.st] 35)))
        have HSA := Lib.hid (HS3.out.below ((Below.refl _ w3).alloc (Nat.le_refl _) (.cells #[.string ⟨#[c]⟩, .string s1.ld, .string s1.st] 35)))
        have HOA := Lib.hid (HO3.out.below ((Below.refl _ w3).alloc (Nat.le_refl _) (.cells #[.string ⟨#[c]⟩, .string s1.ld, .string s1.st] 35)))
        have HNW : Hid (∀ j u, (stpCells [s1])[j]? = some u → (w3.alloc (.cells #[.string ⟨#[c]⟩, .string s1.ld, .string s1.st] 35)).cell? ((⟨w3.heap.size, 0, none⟩ : Addr).add j) = some u) := by
          have := step_new w3 s1
          rw [HNM.out] at this
          exact this
        go_wp2_with (at_builtin; first | ((refine wpList_append_stp rfl _ _ rfl w.heap.size g1 n1 c1 ss0 rfl HSA.out ⟨w3.heap.size, 0, none⟩ 1 1 [s1] rfl rfl HNW.out (by have := HZ.out; omega) HRA.out.size ?_); intro g4 c4 w4 hs4 hg4; have HS4 := Lib.hid hs4; have HR4 := Lib.hid (HRA.out.grow hg4 HSA.out.lt.1 (steps_ne HSA.out HRA.out.box (by decide))); have HO4 := Lib.hid (HOA.out.beside hg4 (fun e => steps_bools HSA.out HOA.out e.symm)); clear hs4 hg4; clear HRA HSA HOA HNW HS3 HO3 HR3 d0; have HRA := Lib.hid (HR4.out.later ((Below.refl _ w4).alloc (Nat.le_refl _) (.cells #[.bool false] 4))); have HSA := Lib.hid (HS4.out.below ((Below.refl _ w4).alloc (Nat.le_refl _) (.cells #[.bool false] 4))); have HOA := Lib.hid (HO4.out.below ((Below.refl _ w4).alloc (Nat.le_refl _) (.cells #[.bool false] 4))); have HNW := Lib.hid (bool_new w4 false)) | ((refine wpList_append_bool rfl _ _ rfl w.heap.size g2 n2 c2 bs0 rfl HOA.out ⟨w4.heap.size, 0, none⟩ 1 1 [false] rfl rfl HNW.out (by have := HZ.out; omega) HRA.out.size ?_); intro g5 c5 w5 ho5 hg5; have HO5 := Lib.hid ho5; have HR5 := Lib.hid (HRA.out.grow hg5 HOA.out.lt.1 (bools_ne HOA.out HRA.out.box (by decide))); have HS5 := Lib.hid (HSA.out.beside hg5 (steps_bools HSA.out HOA.out)); have d0 : w5.cell? ⟨wr.heap.size, 0, none⟩ = some (.string ⟨#[c]⟩) := HR5.out.box.cell 0; have d1 : w5.cell? ⟨wr.heap.size, 1, none⟩ = some (.slice A2 k.len cap2) := HR5.out.box.cell 1; clear ho5 hg5))
        clear HRA HSA HOA HNW HS4 HO4 HR4
        have hsz5 := HR5.out.size
        refine (HQ.out w5 (HR5.out.segs.more hsz5) (HR5.out.kids.up hsz5)).mono ?_
        rintro e w6 ⟨g6, m6, c6, h6, n6, d6, rfl, hs6, ho6, hb6⟩
        have hm6 := hs6.1
        have hn6 := ho6.1
        rw [List.length_map, HM.out] at hm6 hn6
        have HZ6 : Hid (m6 = 2 * k.size ∧ n6 = 2 * k.size) := ⟨hm6, hn6⟩
        clear hm6 hn6
        have HR6 := Lib.hid (HR5.out.later hb6)
        have HS6 := Lib.hid (HS5.out.below hb6)
        have HO6 := Lib.hid (HO5.out.below hb6)
        have HT6 := Lib.hid hs6
        have HU6 := Lib.hid ho6
        have HNE : Hid (g4 ≠ g6 ∧ h6 ≠ g4) := ⟨fun e => by have := HS5.out.lt.2; have := hs6.lt.1; omega, fun e => by have := HS5.out.lt.2; have := ho6.lt.1; omega⟩
        clear hs6 ho6 hb6 d0 d1 HR5 HS5 HO5 hsz5
        go_wp2_with (at_builtin; first | ((refine wpList_append_stp rfl _ _ rfl w.heap.size g4 (n1 + 1) c4 (ss0 ++ [s1]) rfl HS6.out ⟨g6, 0, none⟩ m6 c6 (rs2.map (·.1)) rfl HT6.out.1 HT6.out.news (by have := HZ.out; have := HZ6.out; omega) HR6.out.size ?_); intro g7 c7 w7 hs7 hg7; have HS7 := Lib.hid hs7; have HR7 := Lib.hid (HR6.out.grow hg7 HS6.out.lt.1 (steps_ne HS6.out HR6.out.box (by decide))); have HO7 := Lib.hid (HO6.out.beside hg7 (fun e => steps_bools HS6.out HO6.out e.symm)); have HU7 := Lib.hid (HU6.out.beside hg7 HNE.out.2); clear hs7 hg7; clear HS6 HR6 HO6 HT6 HU6 HNE) | ((refine wpList_append_bool rfl _ _ rfl w.heap.size g5 (n2 + 1) c5 (bs0 ++ [false]) rfl HO7.out ⟨h6, 0, none⟩ n6 d6 (rs2.map (·.2)) rfl HU7.out.1 HU7.out.news (by have := HZ.out; have := HZ6.out; omega) HR7.out.size ?_); intro g8 c8 w8 ho8 hg8; have HO8 := Lib.hid ho8; have HR8 := Lib.hid (HR7.out.grow hg8 HO7.out.lt.1 (bools_ne HO7.out HR7.out.box (by decide))); have HS8 := Lib.hid (HS7.out.beside hg8 (steps_bools HS7.out HO7.out)); clear ho8 hg8))
        clear HS7 HR7 HO7 HU7
        have hq8 := HR8.out.size
        refine (HP.out a _ HA.out HR8.out.segs hq8).mono ?_
        rintro e w9 ⟨rfl, hb9⟩
        have HR9 := Lib.hid (HR8.out.later hb9)
        have HS9 := Lib.hid (HS8.out.below hb9)
        have HO9 := Lib.hid (HO8.out.below hb9)
        clear hb9 HR8 HS8 HO8 hq8
        obtain ⟨s', hs', hx2⟩ := HLST.out
        obtain ⟨nn, hnn⟩ : ∃ nn, n1 + 1 + m6 = nn + 1 := ⟨n1 + m6, by omega⟩
        have hs9 : (ss0 ++ [s1] ++ rs2.map (·.1))[nn]? = some s' := by
          rw [← hs']
          congr 1
          have := HZ.out
          have := HZ6.out
          omega
        have e2 := (HS9.out.cell hs9).2.2
        rw [hx2] at e2
        rw [hnn] at HS9 ⊢
        have hnn0 : nn ≤ 900 := by have := HZ.out; have := HZ6.out; omega
        clear hs' hx2 hs9
        go_wp2_with fail
        refine (HN2.out w9).mono ?_
        rintro e w10 ⟨rfl, hb10⟩
        have HR10 := Lib.hid (HR9.out.later hb10)
        have HS10 := Lib.hid (HS9.out.below hb10)
        have HO10 := Lib.hid (HO9.out.below hb10)
        clear hb10 HR9 HS9 HO9 e2
        have HRA := Lib.hid (HR10.out.later ((Below.refl _ w10).alloc (Nat.le_refl _) (.cells #[.string ⟨#[a]⟩, .string s3.ld, .string s3.st] 35)))
        have HSA := Lib.hid (HS10.out.below ((Below.refl _ w10).alloc (Nat.le_refl _) (.cells #[.string ⟨#[a]⟩, .string s3.ld, .string s3.st] 35)))
        have HOA := Lib.hid (HO10.out.below ((Below.refl _ w10).alloc (Nat.le_refl _) (.cells #[.string ⟨#[a]⟩, .string s3.ld, .string s3.st] 35)))
        have HNW : Hid (∀ j u, (stpCells [s3])[j]? = some u → (w10.alloc (.cells #[.string ⟨#[a]⟩, .string s3.ld, .string s3.st] 35)).cell? ((⟨w10.heap.size, 0, none⟩ : Addr).add j) = some u) := by
          have := step_new w10 s3
          rw [HNM3.out] at this
          exact this
        go_wp2_with (at_builtin; first | ((refine wpList_append_stp rfl _ _ rfl w.heap.size g7 (nn + 1) c7 (ss0 ++ [s1] ++ rs2.map (·.1)) rfl HSA.out ⟨w10.heap.size, 0, none⟩ 1 1 [s3] rfl rfl HNW.out (by have := HZ.out; have := HZ6.out; omega) HRA.out.size ?_); intro g11 c11 w11 hs11 hg11; have HS11 := Lib.hid hs11; have HR11 := Lib.hid (HRA.out.grow hg11 HSA.out.lt.1 (steps_ne HSA.out HRA.out.box (by decide))); have HO11 := Lib.hid (HOA.out.beside hg11 (fun e => steps_bools HSA.out HOA.out e.symm)); clear hs11 hg11; clear HRA HSA HOA HNW HS10 HO10 HR10; have HRA := Lib.hid (HR11.out.later ((Below.refl _ w11).alloc (Nat.le_refl _) (.cells #[.bool true] 4))); have HSA := Lib.hid (HS11.out.below ((Below.refl _ w11).alloc (Nat.le_refl _) (.cells #[.bool true] 4))); have HOA := Lib.hid (HO11.out.below ((Below.refl _ w11).alloc (Nat.le_refl _) (.cells #[.bool true] 4))); have HNW := Lib.hid (bool_new w11 true)) | ((refine wpList_append_bool rfl _ _ rfl w.heap.size g8 (n2 + 1 + n6) c8 (bs0 ++ [false] ++ rs2.map (·.2)) rfl HOA.out ⟨w11.heap.size, 0, none⟩ 1 1 [true] rfl rfl HNW.out (by have := HZ.out; have := HZ6.out; omega) HRA.out.size ?_); intro g12 c12 w12 ho12 hg12; have HO12 := Lib.hid ho12; have HR12 := Lib.hid (HRA.out.grow hg12 HOA.out.lt.1 (bools_ne HOA.out HRA.out.box (by decide))); have HS12 := Lib.hid (HSA.out.beside hg12 (steps_bools HSA.out HOA.out)); clear ho12 hg12))
        clear HRA HSA HOA HNW HS11 HO11 HR11
        go_roundw
        case rel => exact ⟨_, r, _, _, _, _, _, _, _, rfl, rfl, rfl, by rw [HLN.out]; go_num, Lib.hid HE1.out.symm, by rw [HR1.out, List.map_append, HSS.out]; exact Lib.hid (by simpa using HS12.out), by rw [HR1.out, List.map_append, HBS.out]; exact Lib.hid (by simpa using HO12.out), HR12.out.left, HR12.out.below⟩
        case measure => simp [intOf]; omega

end Go.Proofs.Ytcaegpjbdcopoaa
/- What a run tells, plain: loads, counts, the greatest cost, the busiest. -/
namespace Go.Proofs.Ytcaegpjbdcopoaa
open Go.RowKit

/-- All that is loaded, by index. -/
def loadsIx (l : List Seg) : List Nat → List (UInt8 × Bool) → List Nat
  | _, [] => []
  | T, n :: ns => loadT T (pathAt l n.1) ++ loadsIx l (nextT l T n.1) ns
theorem loadsB_cons (s : Stp) (ss : List Stp) : loadsB (s :: ss) = s.ld ++ loadsB ss := by
  apply ByteArray.ext
  apply Array.ext'
  unfold loadsB
  rw [ByteArray.data_append, Array.toList_append]
  simp
theorem loads_names (l : List Seg) : ∀ (ns : List (UInt8 × Bool)) (T : List Nat), loadsB ((runS l T ns).map (·.1)) = namesAt l (loadsIx l T ns)
  | [], _ => rfl
  | n :: ns, T => by
    show loadsB (stepAt l T n.1 :: (runS l (nextT l T n.1) ns).map (·.1)) = _
    rw [loadsB_cons, loads_names l ns]
    exact namesAt_append'.symm
where
  namesAt_append' : ∀ {xs ys : List Nat}, namesAt l (xs ++ ys) = namesAt l xs ++ namesAt l ys := by
    intro xs ys
    apply ByteArray.ext
    apply Array.ext'
    unfold namesAt
    rw [ByteArray.data_append, Array.toList_append]
    simp
theorem loadsIx_lt {l : List Seg} (hd : Down l l.length) : ∀ (ns : List (UInt8 × Bool)) {T : List Nat}, IsState l T → (∀ x ∈ ns, callP l x.1 = true) → (∀ j ∈ loadsIx l T ns, j < l.length) ∧ (loadsIx l T ns).length ≤ l.length * ns.length
  | [], _, _, _ => ⟨(fun j hj => by cases hj), Nat.zero_le _⟩
  | n :: ns, T, hT, hn => by
    have hc := hn n List.mem_cons_self
    have h1 := loadsIx_lt hd ns (next_is hT hc) (fun x hx => hn x (List.mem_cons_of_mem _ hx))
    have h2 := load_lt hd hT (path_is hc)
    have h3 := load_len hT (path_is hc)
    have e : loadsIx l T (n :: ns) = loadT T (pathAt l n.1) ++ loadsIx l (nextT l T n.1) ns := rfl
    rw [e]
    refine ⟨fun j hj => ?_, ?_⟩
    · rcases List.mem_append.1 hj with h4 | h4
      · exact h2 j h4
      · exact h1.1 j h4
    · rw [List.length_append, List.length_cons, Nat.mul_succ]
      omega
/-- What is loaded in the run of a trace. -/
def ixF (l : List Seg) (f : Forest) : List Nat := loadsIx l [] (needsOfF l f)
theorem ixF_lt {l : List Seg} {f : Forest} (hv : validB l = true) (h : f.all (callP l)) : (∀ j ∈ ixF l f, j < l.length) ∧ (ixF l f).length ≤ 8 * (2 * f.size + 1) := by
  have h1 := loadsIx_lt (valid_all hv).1.down (needsOfF l f) (T := []) (.inl rfl) (needsOfF_all hv h)
  refine ⟨h1.1, Nat.le_trans h1.2 ?_⟩
  have h2 : (needsOfF l f).length = 2 * f.size + 1 := by
    show (needsR _ f).length + 1 = _
    rw [needsR_len]
  rw [h2]
  exact Nat.mul_le_mul_right _ (valid_all hv).2.1
def loadsRes (l : List Seg) (t : ByteArray) : ByteArray := match traceB l t.data.toList with
  | none => ⟨#[]⟩
  | some f => namesAt l (ixF l f)
theorem loadsF (l : List Seg) (f : Forest) : loadsB ((runF l f).map (·.1)) = namesAt l (ixF l f) := loads_names l _ _
def backRes (l : List Seg) (t : ByteArray) : ByteArray := match traceB l t.data.toList with
  | none => ⟨#[]⟩
  | some f => loadsB (keptB (runF l f))
/-- The greatest cost of the states. -/
def peakS (l : List Seg) (rs : List (Stp × Bool)) : Int := rs.foldl (fun m s => max m (costB l s.1.st)) 0
theorem peakS_snoc (l : List Seg) (rs : List (Stp × Bool)) (s : Stp) (b : Bool) : peakS l (rs ++ [(s, b)]) = max (peakS l rs) (costB l s.st) := by simp [peakS, List.foldl_append]
def peakRes (l : List Seg) (t : ByteArray) : Int := match traceB l t.data.toList with
  | none => -1
  | some f => peakS l (runF l f)

/-- How often each segment is loaded. -/
def cntJ (js : List Nat) (i : Nat) : Nat := js.count i
def tallyRow (l : List Seg) (js : List Nat) : List Int := (List.range l.length).map fun i => (cntJ js i : Int)
theorem tallyRow_len (l : List Seg) (js : List Nat) : (tallyRow l js).length = l.length := by simp [tallyRow]
theorem tallyRow_at (l : List Seg) (js : List Nat) {i : Nat} (hi : i < l.length) : (tallyRow l js)[i]? = some (cntJ js i : Int) := by simp [tallyRow, hi]
theorem cntJ_snoc (js : List Nat) (j i : Nat) : cntJ (js ++ [j]) i = cntJ js i + if j = i then 1 else 0 := by
  unfold cntJ
  rw [List.count_append, List.count_singleton]
  by_cases h : j = i
  · simp [h]
  · simp [h]
theorem cntJ_le (js : List Nat) (i : Nat) : cntJ js i ≤ js.length := List.count_le_length
theorem tallyRow_snoc (l : List Seg) (js : List Nat) (j : Nat) : tallyRow l (js ++ [j]) = (tallyRow l js).set j ((cntJ js j : Int) + 1) := by
  apply List.ext_getElem?
  intro i
  by_cases hi : i < l.length
  · rw [tallyRow_at l _ hi, cntJ_snoc, List.getElem?_set]
    by_cases h : j = i
    · subst h
      rw [if_pos rfl, if_pos rfl, if_pos (by rw [tallyRow_len]; exact hi)]
      simp
    · rw [if_neg h, if_neg h, tallyRow_at l _ hi]
      simp
  · have h1 : (tallyRow l (js ++ [j]))[i]? = none := List.getElem?_eq_none (by rw [tallyRow_len]; omega)
    have h2 : ((tallyRow l js).set j ((cntJ js j : Int) + 1))[i]? = none := List.getElem?_eq_none (by rw [List.length_set, tallyRow_len]; omega)
    rw [h1, h2]
theorem count_names {l : List Seg} (hv : validB l = true) : ∀ (js : List Nat), (∀ j ∈ js, j < l.length) → ∀ i, i < l.length → (js.map (byteOf l)).count (byteOf l i) = cntJ js i
  | [], _, _, _ => rfl
  | j :: js, hj, i, hi => by
    have h1 := count_names hv js (fun x hx => hj x (List.mem_cons_of_mem _ hx)) i hi
    unfold cntJ at h1 ⊢
    rw [List.map_cons, List.count_cons, List.count_cons, h1]
    have h2 : (byteOf l j == byteOf l i) = (j == i) := by
      by_cases h : j = i
      · simp [h]
      · have : byteOf l j ≠ byteOf l i := fun e => h (byteOf_inj hv (hj j List.mem_cons_self) hi e)
        rw [beq_false_of_ne this, beq_false_of_ne h]
    rw [h2]
/-- The first that is loaded most often, among the first 'k'. -/
def busyIx (js : List Nat) : Nat → Nat
  | 0 => 0
  | k + 1 => if cntJ js (busyIx js k) < cntJ js k then k else busyIx js k
theorem busyIx_lt (js : List Nat) : ∀ (k n : Nat), k ≤ n → 0 < n → busyIx js k < n
  | 0, n, _, h => h
  | k + 1, n, hk, h => by
    unfold busyIx
    have := busyIx_lt js k n (by omega) h
    split <;> omega
def busyStr (l : List Seg) (t : ByteArray) : ByteArray := match traceB l t.data.toList with
  | none => ⟨#[]⟩
  | some f => namesAt l [busyIx (ixF l f) l.length]
def tallyRes (l : List Seg) (t : ByteArray) : List Int := match traceB l t.data.toList with
  | none => []
  | some f => tallyRow l (ixF l f)

end Go.Proofs.Ytcaegpjbdcopoaa
/- The reference's run, its steps and loads. -/
namespace Go.Proofs.Ytcaegpjbdcopoaa
open Go.RowKit

/-- The steps of a trace. -/
def runRes (l : List Seg) (t : ByteArray) : List (Stp × Bool) := match traceB l t.data.toList with
  | none => []
  | some f => runF l f
def RunPost (w : World) (l : List Seg) (t : ByteArray) (e : Ending) (w' : World) : Prop :=
  ∃ g n c g' n' c', e = .returned (.tuple #[.slice (some ⟨g, 0, none⟩) n c, .slice (some ⟨g', 0, none⟩) n' c', .bool (traceB l t.data.toList).isSome]) ∧ OwnSteps w' w.heap.size g n c ((runRes l t).map (·.1)) ∧ OwnBools w' w.heap.size g' n' c' ((runRes l t).map (·.2)) ∧ Below w.heap.size w w'
theorem runF_len (l : List Seg) (f : Forest) : (runF l f).length = 2 * f.size + 1 := by
  unfold runF
  rw [runS_len]
  show (needsR _ f).length + 1 = _
  rw [needsR_len]

set_option maxRecDepth 100000 in
set_option maxHeartbeats 2000000 in
theorem l5Run_any (A : Option Addr) (l : List Seg) (c : Nat) (t : ByteArray) (w : World) (hw : Segs w w.heap.size A l) (hl : l.length ≤ 1048576) (hn : Short l) (ht : t.size ≤ 1048576) :
    Calls Try.prog 42 #[.slice A l.length c, .string t] w (RunPost w l t) := by
  have HQ := Lib.hid (l4Read_any A l c t w hw hl hn ht)
  have HW : Hid (Segs w w.heap.size A l) := hw
  unfold RunPost runRes
  cases hR : traceB l t.data.toList with
  | none =>
    rw [hR] at HQ
    have HE : Hid (∀ W : World, Below w.heap.size w W → ∃ g n c g' n' c', Ending.returned (.tuple #[.slice (some ⟨W.heap.size, 0, none⟩) 0 0, .slice (some ⟨W.heap.size + 1, 0, none⟩) 0 0, .bool false]) = .returned (.tuple #[.slice (some ⟨g, 0, none⟩) n c, .slice (some ⟨g', 0, none⟩) n' c', .bool (none : Option Forest).isSome]) ∧ OwnSteps ((W.alloc (.cells #[] 35)).alloc (.cells #[] 4)) w.heap.size g n c [] ∧ OwnBools ((W.alloc (.cells #[] 35)).alloc (.cells #[] 4)) w.heap.size g' n' c' [] ∧ Below w.heap.size w ((W.alloc (.cells #[] 35)).alloc (.cells #[] 4))) :=
      fun W hb => by
        have h1 := OwnBools.empty (W.alloc (.cells #[] 35)) (B := w.heap.size) (by simp; have := hb.size; omega)
        rw [World.size_alloc] at h1
        exact ⟨_, _, _, _, _, _, rfl, (OwnSteps.empty W hb.size).below ((Below.refl _ _).alloc (Nat.le_refl _) _), h1, (hb.alloc hb.size _).alloc (by simp; have := hb.size; omega) _⟩
    clear hw hn hR
    go_enter Try.func42, Try.ntmps42
    go_wp2_with fail
    refine Calls.mono HQ.out ?_
    rintro e w2 ⟨v, rfl, -, hb⟩
    go_wp2
    go_ret3
    exact HE.out _ hb
  | some f =>
    obtain ⟨hv, h80, hcl⟩ := traceB_some hR
    have hsz := (traceB_size hR).1
    have hall := traceB_all hR
    have HV := Lib.hid hv
    have hl1 := (valid_all hv).2.2
    rw [hR] at HQ
    have hlen := needsR_len (rootB l) f
    have h3 : namesAt l [0] = ⟨#[rootB l]⟩ := by
      obtain ⟨s, h4, h5⟩ := root_name hv
      obtain ⟨hlt, h6⟩ := List.getElem?_eq_some_iff.1 h4
      have h7 := namesAt_snoc (l := l) [] hlt
      rw [List.nil_append] at h7
      rw [h7, h6, h5]
      rfl
    have HS : Hid (∀ v W, Segs W W.heap.size A l → IsKids W (· < W.heap.size) f v → Calls Try.prog 69 #[.slice A l.length c, .string ⟨#[rootB l]⟩, v, .string ⟨#[rootB l]⟩] W (StepsPost W (runS l [0] (needsR (rootB l) f)))) := fun v W h1 h2 => by
      have := l5Steps_any A l c hv hl hn (f.size + 1) f (rootB l) [0] v W (by omega) (by omega) (root_is hv) (callP_root hv).1 hall h1 h2
      rw [h3] at this
      exact this
    have HRUN := Lib.hid (runF_eq hv f)
    have HLEN : Hid ((runS l [0] (needsR (rootB l) f)).length = 2 * f.size) := by
      show _ = _
      rw [runS_len, hlen]
    clear hw hn hR h80 hcl hv hall hlen h3
    generalize runS l [0] (needsR (rootB l) f) = rs at *
    go_enter Try.func42, Try.ntmps42
    go_wp2_with fail
    refine Calls.mono HQ.out ?_
    rintro e w2 ⟨v, rfl, (⟨f', hf', hsl⟩ | ⟨h0, -⟩), hb⟩
    · obtain rfl : f = f' := by injection hf'
      have HSL : Hid (IsKids w2 (· < w2.heap.size) f v) := hsl.keep fun q hq => ⟨hq.2, rfl⟩
      have HB := Lib.hid hb
      have HSG : Hid (Segs w2 w2.heap.size A l) := (HW.out.below hb).more hb.size
      obtain ⟨b0, o0, rfl, hB0, c0⟩ := (HW.out.below hb).root HV.out
      clear hsl hb hf' HQ
      go_wp2_with fail
      refine (HS.out v w2 HSG.out HSL.out).mono ?_
      rintro e w3 ⟨g, n, c3, g', n', c3', rfl, hs3, ho3, hb3⟩
      have hB3 := HB.out.trans (hb3.mono HB.out.size)
      have HZ : Hid (n = 2 * f.size ∧ n' = 2 * f.size) := ⟨by have := hs3.1; rw [List.length_map, HLEN.out] at this; exact this, by have := ho3.1; rw [List.length_map, HLEN.out] at this; exact this⟩
      have HS3 := Lib.hid (hs3.base HB.out.size)
      have HO3 := Lib.hid (ho3.base HB.out.size)
      have HB3 := Lib.hid hB3
      have HG : Hid (g < w3.heap.size ∧ g' < w3.heap.size ∧ w.heap.size ≤ w3.heap.size) := ⟨hs3.lt.2, ho3.lt.2, hB3.size⟩
      clear hs3 ho3 hb3 hB3 c0 HSG HSL HB HS
      have hbb : Below w3.heap.size w3 ((w3.alloc (.cells #[.string ⟨#[rootB l]⟩, .string ⟨#[rootB l]⟩, .string ⟨#[rootB l]⟩] 35)).alloc (.cells #[.string ⟨#[rootB l]⟩, .string ⟨#[rootB l]⟩, .string ⟨#[rootB l]⟩] 35)) := ((Below.refl _ w3).alloc (Nat.le_refl _) _).alloc (by simp) _
      have HA : Hid (OwnSteps ((w3.alloc (.cells #[.string ⟨#[rootB l]⟩, .string ⟨#[rootB l]⟩, .string ⟨#[rootB l]⟩] 35)).alloc (.cells #[.string ⟨#[rootB l]⟩, .string ⟨#[rootB l]⟩, .string ⟨#[rootB l]⟩] 35)) w.heap.size (w3.heap.size + 1) 1 1 [⟨⟨#[rootB l]⟩, ⟨#[rootB l]⟩, ⟨#[rootB l]⟩⟩]) := by
        have := OwnSteps.one (w3.alloc (.cells #[.string ⟨#[rootB l]⟩, .string ⟨#[rootB l]⟩, .string ⟨#[rootB l]⟩] 35)) (B := w.heap.size) (by have := HG.out.2.2; simp; omega) ⟨⟨#[rootB l]⟩, ⟨#[rootB l]⟩, ⟨#[rootB l]⟩⟩
        rw [World.size_alloc] at this
        exact this
      have HS4 := Lib.hid (HS3.out.below hbb)
      have HO4 := Lib.hid (HO3.out.below hbb)
      have HB4 := Lib.hid (HB3.out.trans (hbb.mono HG.out.2.2))
      have HZ4 : Hid (w.heap.size ≤ ((w3.alloc (.cells #[.string ⟨#[rootB l]⟩, .string ⟨#[rootB l]⟩, .string ⟨#[rootB l]⟩] 35)).alloc (.cells #[.string ⟨#[rootB l]⟩, .string ⟨#[rootB l]⟩, .string ⟨#[rootB l]⟩] 35)).heap.size) := HB4.out.size
      clear hbb HS3 HO3 HB3
      go_wp2_with (at_builtin; first | ((refine wpList_append_stp rfl _ _ rfl w.heap.size (w3.heap.size + 1) 1 1 [⟨⟨#[rootB l]⟩, ⟨#[rootB l]⟩, ⟨#[rootB l]⟩⟩] rfl HA.out ⟨g, 0, none⟩ n c3 (rs.map (·.1)) rfl HS4.out.1 HS4.out.news (by have := HZ.out; omega) HZ4.out ?_); intro g5 c5 w5 hs5 hg5; have HS5 := Lib.hid hs5; have HO5 := Lib.hid (HO4.out.beside hg5 (by have := HG.out; omega)); have HB5 := Lib.hid (HB4.out.grown hg5 HZ4.out (fun k e => by injection e with e; have := HG.out.2.2; omega)); clear hs5 hg5; have HSA := Lib.hid (HS5.out.below ((Below.refl _ w5).alloc (Nat.le_refl _) (.cells #[.bool false] 4))); have HOA := Lib.hid (HO5.out.below ((Below.refl _ w5).alloc (Nat.le_refl _) (.cells #[.bool false] 4))); have HOB := Lib.hid (OwnBools.one w5 HB5.out.size false); have HBA := Lib.hid (HB5.out.alloc HB5.out.size (.cells #[.bool false] 4)); have HG5 := Lib.hid HS5.out.lt) | ((refine wpList_append_bool rfl _ _ rfl w.heap.size w5.heap.size 1 1 [false] rfl HOB.out ⟨g', 0, none⟩ n' c3' (rs.map (·.2)) rfl HOA.out.1 HOA.out.news (by have := HZ.out; omega) HBA.out.size ?_); intro g6 c6 w6 ho6 hg6; have HO6 := Lib.hid ho6; have HS6 := Lib.hid (HSA.out.beside hg6 (by have := HG5.out; omega)); have HB6 := Lib.hid (HBA.out.grown hg6 HBA.out.size (fun k e => by injection e with e; have := HB5.out.size; omega)); clear ho6 hg6))
      go_ret3
      refine ⟨g5, 1 + n, c5, g6, 1 + n', c6, rfl, ?_, ?_, HB6.out⟩
      · rw [HRUN.out]; exact HS6.out
      · rw [HRUN.out]; exact HO6.out
    · cases h0

set_option maxRecDepth 100000 in
set_option maxHeartbeats 1000000 in
theorem l5Loads_any (B g n c : Nat) (ss : List Stp) (w : World) (h : OwnSteps w B g n c ss) (hn : ss.length ≤ 1000) (hld : ∀ s ∈ ss, s.ld.size ≤ 8) :
    Calls Try.prog 45 #[.slice (some ⟨g, 0, none⟩) n c] w fun e w' => e = .returned (.string (loadsB ss)) ∧ Below w.heap.size w w' := by
  have HS := Lib.hid h
  have HL := Lib.hid hld
  have hnn := h.1
  subst hnn
  clear h hld
  go_enter Try.func45, Try.ntmps45
  go_wp2
  go_loopw [3, 8] (fun s i wr => ∃ (k : Nat) (x : ByteArray), k ≤ ss.length ∧ s = .string x ∧ i = .int .i64 k ∧ Hid (x = loadsB (ss.take k)) ∧ Hid (Below w.heap.size w wr))
    (fun _ i _ => ss.length - (intOf i).toNat)
  case atStart => exact ⟨0, _, Nat.zero_le _, rfl, rfl, Lib.hid rfl, Below.refl _ _⟩
  case round =>
    obtain ⟨k, x, hk, rfl, rfl, HX, HB⟩ := hrel
    by_cases hlt : k < ss.length
    · have hlt' : (k : Int) < (ss.length : Int) := by omega
      obtain ⟨e0, e1, e2⟩ := (HS.out.below HB.out).cell (List.getElem?_eq_getElem hlt)
      have hsz := HL.out _ (List.getElem_mem hlt)
      have hxs : x.size ≤ 8 * 1000 := by
        rw [HX.out]
        have h1 := loadsB_size (ss.take k) (fun s hs => HL.out s (List.mem_of_mem_take hs))
        rw [List.length_take] at h1
        omega
      have HXN : Hid (x ++ ss[k].ld = loadsB (ss.take (k + 1))) := by
        show _ = _
        rw [List.take_succ_eq_append_getElem hlt, loadsB_snoc, HX.out]
      generalize hs' : ss[k] = s at *
      clear hs'
      go_wp2
      go_roundw
      case rel => exact ⟨k + 1, _, by omega, rfl, by go_num, HXN, HB.out.alloc HB.out.size _⟩
      case measure => simp [intOf]; omega
    · obtain rfl : k = ss.length := by omega
      have HE : Hid (x = loadsB ss) := by
        show _ = _
        rw [HX.out, List.take_length]
      go_wp2
      go_ret
      exact ⟨congrArg (fun z => Ending.returned (.string z)) HE.out, HB.out⟩

theorem runF_texts {l : List Seg} {f : Forest} (hv : validB l = true) (h : f.all (callP l)) : ∀ s ∈ runF l f, s.1.nm.size = 1 ∧ s.1.ld.size ≤ 8 ∧ s.1.st.size ≤ 8 := runS_texts hv _ (.inl rfl) (needsOfF_all hv h)
theorem runRes_some {l : List Seg} {t : ByteArray} {f : Forest} (h : traceB l t.data.toList = some f) : runRes l t = runF l f := by
  unfold runRes
  rw [h]
theorem runRes_none {l : List Seg} {t : ByteArray} (h : traceB l t.data.toList = none) : runRes l t = [] := by
  unfold runRes
  rw [h]
theorem runRes_texts (l : List Seg) (t : ByteArray) : ∀ s ∈ runRes l t, s.1.nm.size = 1 ∧ s.1.ld.size ≤ 8 ∧ s.1.st.size ≤ 8 := by
  cases h : traceB l t.data.toList with
  | none => rw [runRes_none h]; intro s hs; cases hs
  | some f => rw [runRes_some h]; exact runF_texts (traceB_some h).1 (traceB_all h)
theorem runRes_len (l : List Seg) (t : ByteArray) : (runRes l t).length ≤ 161 := by
  cases h : traceB l t.data.toList with
  | none => rw [runRes_none h]; exact Nat.zero_le _
  | some f =>
    have := (traceB_size h).1
    rw [runRes_some h, runF_len]
    omega
theorem loadsRes_eq (l : List Seg) (t : ByteArray) : loadsRes l t = loadsB ((runRes l t).map (·.1)) := by
  unfold loadsRes
  cases h : traceB l t.data.toList with
  | none => rw [runRes_none h]; rfl
  | some f => rw [runRes_some h, loadsF]
theorem backRes_eq (l : List Seg) (t : ByteArray) : backRes l t = loadsB (keptB (runRes l t)) := by
  unfold backRes
  cases h : traceB l t.data.toList with
  | none => rw [runRes_none h]; rfl
  | some f => rw [runRes_some h]

/-- What StepsOf leaves. -/
def StepsOfPost (w : World) (l : List Seg) (t : ByteArray) (e : Ending) (w' : World) : Prop :=
  ∃ g n c, e = .returned (.tuple #[.slice (some ⟨g, 0, none⟩) n c, .bool (traceB l t.data.toList).isSome]) ∧ OwnSteps w' w.heap.size g n c ((runRes l t).map (·.1)) ∧ Below w.heap.size w w'
set_option maxRecDepth 100000 in
theorem specStepsOf_any (A : Option Addr) (l : List Seg) (c : Nat) (t : ByteArray) (w : World) (hw : Segs w w.heap.size A l) (hl : l.length ≤ 1048576) (hn : Short l) (ht : t.size ≤ 1048576) :
    Calls Try.prog 12 #[.slice A l.length c, .string t] w (StepsOfPost w l t) := by
  have HQ := Lib.hid (l5Run_any A l c t w hw hl hn ht)
  clear hw hn
  unfold StepsOfPost
  go_enter Try.func12, Try.ntmps12
  go_wp2_with fail
  refine HQ.out.mono ?_
  rintro e w1 ⟨g, n, c1, g', n', c2, rfl, hs, -, hb⟩
  have HS := Lib.hid hs
  clear hs
  go_wp2
  go_ret2
  exact ⟨_, _, _, rfl, HS.out, hb⟩
set_option maxRecDepth 100000 in
theorem specLoadsIn_any (A : Option Addr) (l : List Seg) (c : Nat) (t : ByteArray) (w : World) (hw : Segs w w.heap.size A l) (hl : l.length ≤ 1048576) (hn : Short l) (ht : t.size ≤ 1048576) :
    Calls Try.prog 14 #[.slice A l.length c, .string t] w fun e w' => e = .returned (.tuple #[.string (loadsRes l t), .bool (traceB l t.data.toList).isSome]) ∧ Below w.heap.size w w' := by
  have HQ := Lib.hid (l5Run_any A l c t w hw hl hn ht)
  have HE := Lib.hid (loadsRes_eq l t)
  have HLD := Lib.hid (fun g n c B W (h : OwnSteps W B g n c ((runRes l t).map (·.1))) => l5Loads_any B g n c _ W h (by rw [List.length_map]; have := runRes_len l t; omega) (fun s hs => by
    obtain ⟨x, hx, rfl⟩ := List.mem_map.1 hs
    exact (runRes_texts l t x hx).2.1))
  clear hw hn
  go_enter Try.func14, Try.ntmps14
  go_wp2_with fail
  refine HQ.out.mono ?_
  rintro e w1 ⟨g, n, c1, g', n', c2, rfl, hs, -, hb⟩
  have HS := Lib.hid hs
  clear hs
  go_wp2_with fail
  refine (HLD.out _ _ _ _ _ HS.out).mono ?_
  rintro e w2 ⟨rfl, hb2⟩
  have hb3 := hb.trans (hb2.mono hb.size)
  clear hb hb2
  go_wp2
  go_ret2
  exact ⟨ret_two HE.out.symm rfl, hb3⟩

end Go.Proofs.Ytcaegpjbdcopoaa
/- The program's TraceValid. -/
namespace Go.Proofs.Ytcaegpjbdcopoaa
open Go.RowKit

end Go.Proofs.Ytcaegpjbdcopoaa
