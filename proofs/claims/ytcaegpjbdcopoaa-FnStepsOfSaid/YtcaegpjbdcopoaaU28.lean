/- Joined: Yk Yp Op. -/
import Derived.Test.YtcaegpjbdcopoaaU25
import Derived.Test.YtcaegpjbdcopoaaU26
import Derived.Test.YtcaegpjbdcopoaaU27
import Derived.Test.YtcaegpjbdcopoaaU15
import Derived.Test.YtcaegpjbdcopoaaU14
import Derived.Test.YtcaegpjbdcopoaaU01
import Derived.ProofKit
import Derived.OpenShut
import Derived.ShutString
import Derived.ChangeOld
import Derived.Deep.Slices
import Derived.Deep.Fields
/- The program's runs: runOf, LoadsIn. -/
namespace Go.Proofs.Ytcaegpjbdcopoaa
open Go.RowKit Go.Shelf
attribute [local go_sem] Oper.semAt_some

theorem isB_keepS {T e : TypeId} {B b : Nat} {bs : List Value} {W W' : World} (hT : T ≠ 80) (he : e ≠ 80) (h : Lib.IsBuilderF T e B b bs W) (hk : ∀ (k : Nat) (cs : Array Value) (t : TypeId) (fz : Nat × Nat), W.heap[k]? = some (.cells cs t fz) → t ≠ 80 → W'.heap[k]? = some (.cells cs t fz)) : Lib.IsBuilderF T e B b bs W' := by
  have at_ : ∀ p, Lib.BuilderAtF T e B b p bs W → Lib.BuilderAtF T e B b p bs W' := fun p hp => by
    obtain ⟨h1, v, h2, h3, h4⟩ := hp
    refine ⟨h1, v, hk _ _ _ _ h2 hT, ⟨h3.1, ?_⟩, h4⟩
    rcases h3.2 with h5 | ⟨g, cap, cur, fz, hv, hg, hh, r⟩
    · exact .inl h5
    · exact .inr ⟨g, cap, cur, fz, hv, hg, hk _ _ _ _ hh he, r⟩
  exact h.elim (fun x => .inl (at_ _ x)) (fun x => .inr (at_ _ x))
theorem isB_grownS {B b : Nat} {bs : List Value} {W W' : World} {row : Option Nat} (h : Lib.IsBuilderF 64 5 B b bs W) (hg : W.grownBy W' row) (hr : ∀ r, row = some r → RowS W r) : Lib.IsBuilderF 64 5 B b bs W' :=
  isB_keepS (by decide) (by decide) h fun k _ _ _ hk ht => (hg.block k (Array.getElem?_eq_some_iff.1 hk).1 (fun e => (hr k e.symm).ne hk ht rfl)).trans hk

/-- What runOf leaves: an iterator over the steps, whose variables and nodes and calls lie in what is behind it. -/
def RunOfPost (w : World) (l : List Seg) (R : Option Forest) (e : Ending) (w' : World) : Prop :=
  (R = none ∧ e = .returned (.tuple #[.nilFunc, .bool false]) ∧ Below w.heap.size w w') ∨
  (∃ f B g nb cv Bn Bc A2 cap2, R = some f ∧ e = .returned (.tuple #[.func (.func 90) #[] #[.pointer (some ⟨Bn, 0, none⟩), .pointer (some ⟨Bc, 0, none⟩)], .bool true]) ∧ Nodes w' B g l.length l.length l nb cv ∧
    Row w' Bn 77 #[.slice (some ⟨g, 0, none⟩) l.length l.length] ∧ Row w' Bc 71 #[.slice A2 f.len cap2] ∧ SliceIs w' (· < w'.heap.size) (.slice A2 f.len cap2) f ∧ Below w.heap.size w w')

set_option maxRecDepth 100000 in
set_option maxHeartbeats 1000000 in
theorem runOf_any (A : Option Addr) (l : List Seg) (c : Nat) (t : ByteArray) (w : World) (hw : Segs w w.heap.size A l) (hl : l.length ≤ 1048576) (hlc : l.length ≤ c) (hcm : c ≤ 9223372036854775807) (hn : Short l) (ht : t.size ≤ 1048576) :
    Calls Try.prog 41 #[.slice A l.length c, .string t] w (RunOfPost w l (traceB l t.data.toList)) := by
  have HQ := Lib.hid (readTrace_any A l c t w hw hl hlc hcm hn ht)
  have HW : Hid (Segs w w.heap.size A l) := hw
  cases hR : traceB l t.data.toList with
  | none =>
    rw [hR] at HQ
    clear hw hn hR
    go_enter Try.func41, Try.ntmps41
    go_wp2_with fail
    refine Calls.mono HQ.out ?_
    rintro e w2 ⟨v, rfl, -, hb⟩
    go_wp2
    go_ret2
    exact .inl ⟨rfl, rfl, hb⟩
  | some f =>
    obtain ⟨hv, h80, hcl⟩ := traceB_some hR
    have HV := Lib.hid hv
    have HNO := Lib.hid (fun W h => nodesOf_any A l c W h hl hlc hcm hn hv)
    rw [hR] at HQ
    clear hw hn hR h80 hcl hv
    go_enter Try.func41, Try.ntmps41
    go_wp2_with fail
    refine Calls.mono HQ.out ?_
    rintro e w2 ⟨v, rfl, (⟨f', hf', hsl⟩ | ⟨h0, -⟩), hb⟩
    · obtain rfl : f = f' := by injection hf'
      have HSL : Hid (SliceIs w2 (· < w2.heap.size) v f) := hsl.keep fun q hq => ⟨hq.2, rfl⟩
      have HB := Lib.hid hb
      have HSG : Hid (Segs w2 w2.heap.size A l) := (HW.out.below hb).more hb.size
      obtain ⟨A2, cap2, rfl, -⟩ := id hsl
      clear hsl hb hf' HQ
      go_wp2_with fail
      refine (HNO.out w2 HSG.out).mono ?_
      rintro e w3 ⟨g, nb, cv, rfl, hno, hb3⟩
      have HN3 := Lib.hid hno
      have HB3 := Lib.hid (HB.out.trans (hb3.mono HB.out.size))
      have HS3 : Hid (SliceIs w3 (· < w3.heap.size) (.slice A2 f.len cap2) f) := (HSL.out.below hb3).keep fun q hq => ⟨Nat.lt_of_lt_of_le hq hb3.size, rfl⟩
      clear hno hb3 HSL HB HSG HNO
      go_wp2_with fail
      refine (stepsIn_any _ _ _ _ _ _ w3).mono ?_
      rintro e w4 ⟨rfl, rfl⟩
      have hbb : Below w3.heap.size w3 ((w3.alloc (.cells #[.slice (some ⟨g, 0, none⟩) l.length l.length] 77)).alloc (.cells #[.slice A2 f.len cap2] 71)) := ((Below.refl _ w3).alloc (Nat.le_refl _) _).alloc (by simp) _
      have hr2 : Row ((w3.alloc (.cells #[.slice (some ⟨g, 0, none⟩) l.length l.length] 77)).alloc (.cells #[.slice A2 f.len cap2] 71)) (w3.heap.size + 1) 71 #[.slice A2 f.len cap2] := by
        have := Row.new (w3.alloc (.cells #[.slice (some ⟨g, 0, none⟩) l.length l.length] 77)) 71 #[.slice A2 f.len cap2]
        rw [World.size_alloc] at this
        exact this
      have HF : Hid (RunOfPost w l (some f) (.returned (.tuple #[.func (.func 90) #[] #[.pointer (some ⟨w3.heap.size, 0, none⟩), .pointer (some ⟨w3.heap.size + 1, 0, none⟩)], .bool true])) ((w3.alloc (.cells #[.slice (some ⟨g, 0, none⟩) l.length l.length] 77)).alloc (.cells #[.slice A2 f.len cap2] 71))) :=
        .inr ⟨f, _, g, nb, cv, _, _, A2, cap2, rfl, rfl, HN3.out.below hbb, (Row.new w3 _ _).alloc _, hr2, (HS3.out.below hbb).keep (fun q hq => ⟨Nat.lt_of_lt_of_le hq hbb.size, rfl⟩), HB3.out.trans (hbb.mono HB3.out.size)⟩
      clear hbb hr2
      go_wp2
      go_ret2
      exact HF.out
    · cases h0

/-- A step of few letters, whatever comes. -/
def fixS (x : Stp × Bool) : Stp × Bool := if x.1.ld.size ≤ 8 ∧ x.1.st.size ≤ 8 then x else (⟨⟨#[]⟩, ⟨#[]⟩, ⟨#[]⟩⟩, x.2)
theorem fixS_ok (x : Stp × Bool) : (fixS x).1.ld.size ≤ 8 ∧ (fixS x).1.st.size ≤ 8 := by
  unfold fixS
  split
  · assumption
  · exact ⟨Nat.zero_le _, Nat.zero_le _⟩
theorem fixS_step {l : List Seg} (hv : validB l = true) (T : List Nat) (c : UInt8) (b : Bool) (hT : IsState l T) (hc : callP l c = true) : fixS (stepAt l T c, b) = (stepAt l T c, b) := if_pos (step_len hv hT hc).2
theorem fixS_run {l : List Seg} {f : Forest} (hv : validB l = true) (h : f.all (callP l)) : (runF l f).map fixS = runF l f := by
  conv => rhs; rw [← List.map_id (runF l f)]
  exact List.map_congr_left fun x hx => if_pos (runF_texts hv h x hx).2
/-- The iterator of a run, where what it has lies below. -/
theorem run_seq (w : World) {l : List Seg} {B g : Nat} {nb : Nat → Nat} {cv : Nat → Value} {Bn Bc : Nat} {f : Forest} {v : Value} (hv : validB l = true) (hall : f.all (callP l)) (hs : f.size ≤ 80) (hd : f.deep ≤ 8)
    (h1 : Nodes w B g l.length l.length l nb cv) (h2 : Row w Bn 77 #[.slice (some ⟨g, 0, none⟩) l.length l.length]) (h3 : Row w Bc 71 #[v]) (h4 : SliceIs w (· < w.heap.size) v f) (W : World) (D : Nat) (hW : Below w.heap.size w W) :
    SeqS 19 90 #[.pointer (some ⟨Bn, 0, none⟩), .pointer (some ⟨Bc, 0, none⟩)] (fun x => encS (fixS x)) w.heap.size D (fun ys => ys = runF l f) (fun ys => ys <+: runF l f) 161 W :=
  steps1_seq w B g l nb cv D fixS f 161 19 Bn Bc v W hv hall (by omega) (fun T c b hT hc => fixS_step hv T c b hT hc) h1 hW ⟨.inl h2.lt, by decide, h2.below hW h2.lt⟩ ⟨.inl h3.lt, by decide, h3.below hW h3.lt⟩ (h4.below hW) (by omega) (by omega)

def ldBytes (xs : List (Stp × Bool)) : List Value := Lib.byteCells (loadsB (xs.map (fun x => (fixS x).1))).data.toList
theorem ldBytes_snoc (xs : List (Stp × Bool)) (x : Stp × Bool) : ldBytes (xs ++ [x]) = ldBytes xs ++ Lib.strCells (fixS x).1.ld := by
  unfold ldBytes
  rw [List.map_append, List.map_cons, List.map_nil, loadsB_snoc, ByteArray.data_append, Array.toList_append, byteCells_app]
  rfl
theorem ldBytes_len (xs : List (Stp × Bool)) : (ldBytes xs).length ≤ 8 * xs.length := by
  unfold ldBytes
  rw [byteCells_len]
  have := loadsB_size (xs.map (fun x => (fixS x).1)) (fun s hs => by
    obtain ⟨y, _, rfl⟩ := List.mem_map.1 hs
    exact (fixS_ok y).1)
  rw [List.length_map] at this
  simpa using this

set_option maxRecDepth 100000 in
set_option maxHeartbeats 2000000 in
theorem loadsIn_any (A : Option Addr) (l : List Seg) (c : Nat) (t : ByteArray) (w : World) (hw : Segs w w.heap.size A l) (hl : l.length ≤ 1048576) (hlc : l.length ≤ c) (hcm : c ≤ 9223372036854775807) (hn : Short l) (ht : t.size ≤ 1048576) :
    Calls Try.prog 13 #[.slice A l.length c, .string t] w fun e w' => e = .returned (.tuple #[.string (loadsRes l t), .bool (traceB l t.data.toList).isSome]) ∧ Below w.heap.size w w' := by
  have HQ := Lib.hid (runOf_any A l c t w hw hl hlc hcm hn ht)
  have HE := Lib.hid (loadsRes_eq l t)
  cases hR : traceB l t.data.toList with
  | none =>
    rw [hR] at HQ
    rw [runRes_none hR] at HE
    clear hw hn hR
    go_enter Try.func13, Try.ntmps13
    go_wp2_with fail
    refine Calls.mono HQ.out ?_
    rintro e w2 (⟨-, rfl, hb⟩ | ⟨f, _, _, _, _, _, _, _, _, h0, _⟩)
    · go_wp2
      go_ret2
      exact ⟨ret_two HE.out.symm rfl, hb⟩
    · cases h0
  | some f =>
    obtain ⟨hv, h80, hcl⟩ := traceB_some hR
    have hsz := traceB_size hR
    have hall := traceB_all hR
    have HFX := Lib.hid (fixS_run hv hall)
    have HSQ := Lib.hid (fun (w : World) B g nb cv Bn Bc v (h1 : Nodes w B g l.length l.length l nb cv) h2 h3 h4 W D hW => run_seq w (Bn := Bn) (Bc := Bc) (v := v) hv hall hsz.1 hsz.2 h1 h2 h3 h4 W D hW)
    rw [hR] at HQ
    rw [runRes_some hR] at HE
    clear hw hn hR h80 hcl hv hall
    refine (callsIn_wide (n := 20)).1 ?_
    refine callsIn_of_wp_marks Try.func13 rfl trivial ?_ rfl
    simp only [Try.ntmps13, List.size_toArray, List.length_cons, List.length_nil, Nat.reduceAdd, Nat.reduceSub, Array.replicate_succ, Array.replicate_zero, List.push_toArray, List.append_toArray, List.nil_append, List.cons_append]
    gi_wp2_with fail
    refine ⟨trivial, ?_⟩
    gi_at_call 41
    refine (callsIn_wide.2 HQ.out).mono ?_
    rintro e w2 (⟨h0, -, -⟩ | ⟨f', B, g, nb, cv, Bn, Bc, A2, cap2, hf', rfl, hN, hrn, hrc, hsl, hb⟩)
    · cases h0
    · obtain rfl : f = f' := by injection hf'
      have HB := Lib.hid hb
      have HS := Lib.hid (fun W D hW => HSQ.out w2 B g nb cv Bn Bc _ hN hrn hrc hsl W D hW)
      clear hN hrn hrc hsl hb hf' HQ HSQ
      gi_wp2
      have hB0 : Below w2.heap.size w2 (w2.alloc (.cells #[.pointer none, .slice none 0 0] 64)) := (Below.refl _ w2).alloc (Nat.le_refl _) _
      have hI0 : Lib.IsBuilderF 64 5 w2.heap.size w2.heap.size (ldBytes []) (w2.alloc (.cells #[.pointer none, .slice none 0 0] 64)) := Lib.IsBuilderF.of (Lib.fresh_isBuilder _ _ w2)
      have hseq := HS.out (w2.alloc (.cells #[.pointer none, .slice none 0 0] 64)) (w2.heap.size + 1) hB0
      have hz0 : (w2.alloc (.cells #[.pointer none, .slice none 0 0] 64)).heap.size = w2.heap.size + 1 := by simp
      generalize w2.alloc (.cells #[.pointer none, .slice none 0 0] 64) = W0 at *
      refine wpIn_rangeFunc_SH (by omega) (gf := 90) (lb := #[.pointer (some ⟨Bn, 0, none⟩), .pointer (some ⟨Bc, 0, none⟩)]) rfl (enters_of Try.func90 (by kernel_rfl) rfl) hseq (by omega) (by omega) (Below.refl _ _) (fun _ => rfl)
        (fun ys X => Lib.IsBuilderF 64 5 w2.heap.size w2.heap.size (ldBytes ys) X ∧ Below w2.heap.size w2 X)
        (fun _ _ _ => False)
        (fun s X Y row hs hg hr => ⟨isB_grownS hs.1 hg (fun r e => (hr r e).2), hs.2.grown hg hs.2.size (fun k e => by have := (hr k e).1; omega)⟩)
        (fun _ _ _ _ _ hs _ _ => hs)
        ⟨hI0, hB0⟩
        (fun x q => { tmps := #[.slice A l.length c, .string t, undef, undef, .string ⟨#[]⟩, .bool false, .func (.func 90) #[] #[.pointer (some ⟨Bn, 0, none⟩), .pointer (some ⟨Bc, 0, none⟩)], .bool true, .pointer (some ⟨w2.heap.size, 0, none⟩), .pointer (some ⟨q, 0, none⟩), .tuple #[.func (.func 90) #[] #[.pointer (some ⟨Bn, 0, none⟩), .pointer (some ⟨Bc, 0, none⟩)], .bool true], .slice A l.length c, .string t, .tuple #[.func (.func 90) #[] #[.pointer (some ⟨Bn, 0, none⟩), .pointer (some ⟨Bc, 0, none⟩)], .bool true], .func (.func 90) #[] #[.pointer (some ⟨Bn, 0, none⟩), .pointer (some ⟨Bc, 0, none⟩)], .bool true, .bool true, .bool false, .func (.func 90) #[] #[.pointer (some ⟨Bn, 0, none⟩), .pointer (some ⟨Bc, 0, none⟩)], .agg #[.string (fixS x).1.nm, .string (fixS x).1.ld, .string (fixS x).1.st], .bool (fixS x).2, undef, undef, undef, undef], defers := [] })
        (fun x => .cells #[.string (fixS x).1.nm, .string (fixS x).1.ld, .string (fixS x).1.st] 35) ?assign ?body ?done ?stop
      case assign =>
        intro l2 x X K hK
        unfold encS
        gi_wp2
        exact hK
      case body =>
        rintro l2 ys x q X ⟨hI, hB⟩ hlen hz hqz hq
        have c1 : X.cell? ⟨q, 1, none⟩ = some (.string (fixS x).1.ld) := Row.cell (hq : Row X q 35 _) 1
        have hl1 : (ldBytes ys).length + (fixS x).1.ld.size ≤ 140737488355328 := by
          have h1 := ldBytes_len ys
          have h2 := (fixS_ok x).1
          omega
        have HN := Lib.hid (ldBytes_snoc ys x)
        generalize (fixS x) = y at *
        obtain ⟨⟨nm, ld, st⟩, bb⟩ := y
        dsimp only at c1 hl1 HN ⊢
        clear hq
        gi_wp2_with (refine ⟨trivial, ?_⟩; gi_at_call 43; refine (CallsIn.inRound l2 (callsIn_wide.2 (writeString_any w2.heap.size w2.heap.size _ ld _ hI hl1 hB.size))).mono ?_; rintro e W1 ⟨rfl, hI1, hb1, hk1⟩)
        exact ⟨keptN_from hk1 hb1 (by omega), hb1, by rw [HN.out]; exact hI1, hB.trans hb1⟩
      case done =>
        rintro L ys X hL rfl ⟨hI, hB⟩ hK
        have hE : ldBytes (runF l f) = Lib.byteCells (loadsRes l t).data.toList := by
          unfold ldBytes
          rw [HE.out, show (runF l f).map (fun x => (fixS x).1) = ((runF l f).map fixS).map (·.1) from by rw [List.map_map]; rfl, HFX.out]
        rw [hE] at hI
        clear hE hseq
        gi_wp2_with (refine ⟨trivial, ?_⟩; gi_at_call 44; refine (callsIn_wide.2 (Try.Builder_String_any_k w2.heap.size w2.heap.size _ _ hI hB.size)).mono ?_; rintro e W1 ⟨rfl, hI1, hb1, hk1⟩)
        have hK1 : W1.heap[L]? = some (.deferred (some [])) := hk1 L _ hK (fun he => by injection he with he; omega) (fun c fz he => by cases he)
        refine ⟨by simp, .inl ⟨_, _, rfl, run_takeDeferred hK1, ?_⟩⟩
        exact ⟨_, results_tmp2 rfl _ _ _, rfl, (HB.out.trans ((hB.trans hb1).mono HB.out.size)).trans (belowK_b (w := w) (Nat.le_refl _) W1 L _ _ (by have := HB.out.size; omega) hK1 rfl rfl)⟩
      case stop =>
        rintro L c' pre X _ _ h _
        exact h.elim

end Go.Proofs.Ytcaegpjbdcopoaa
/- The walk of the law FnExactLoadsIn. -/
namespace Go.Proofs.Ytcaegpjbdcopoaa
open Go.RowKit

set_option maxRecDepth 100000 in
set_option maxHeartbeats 400000 in
theorem lawLoadsIn_any (A : Option Addr) (l : List Seg) (c : Nat) (s : ByteArray) (w : World) (hw : Segs w w.heap.size A l) (hl : l.length ≤ maxLen) (hn : Short l) (hsz : s.size ≤ maxLen) :
    Calls Try.prog 5 #[.slice A l.length c, .string s] w fun e w' => e = .returned (.bool true) ∧ Below w.heap.size w w' := by
  have HW : Hid (Segs w w.heap.size A l) := hw
  clear hw
  unfold maxLen at hsz
  by_cases hbigs : 1048576 < s.size
  · go_enter Try.func5, Try.ntmps5
    go_wp2
    go_ret
    exact ⟨rfl, Below.refl _ _⟩
  by_cases hs : sizeLeft l < 0
  · go_enter Try.func5, Try.ntmps5
    go_wp2_with fail
    refine (szSegmentS_any _ _ _ _ HW.out hl hn).mono ?_
    rintro e w1 ⟨rfl, hb1⟩
    go_wp2
    go_ret
    exact ⟨rfl, hb1⟩
  · have hlen := sizeLeft_len hs
    go_enter Try.func5, Try.ntmps5
    go_wp2_with fail
    refine (szSegmentS_any _ _ _ _ HW.out hl hn).mono ?_
    rintro e w1 ⟨rfl, hb1⟩
    have hs1 := (HW.out.below hb1).more hb1.size
    go_wp2_with fail
    refine (toSegmentS_any _ _ _ _ hs1 hlen).mono ?_
    rintro e w2 ⟨rfl, hb2, hx2⟩
    have B2 : Below w.heap.size w w2 := hb1.trans (hb2.mono hb1.size)
    clear hb2 hs1
    go_wp2_with fail
    refine (specLoadsIn_any _ _ _ _ _ hx2 hlen hn (Nat.le_of_not_lt hbigs)).mono ?_
    rintro e w3 ⟨rfl, hb3⟩
    have B3 : Below w.heap.size w w3 := B2.trans (hb3.mono B2.size)
    clear hb3 hx2 B2
    have hs3 := (HW.out.below B3).more B3.size
    go_wp2_with fail
    refine (toSegmentS_any _ _ _ _ hs3 hlen).mono ?_
    rintro e w4 ⟨rfl, hb4, hx4⟩
    have B4 : Below w.heap.size w w4 := B3.trans (hb4.mono B3.size)
    clear hb4 hs3
    go_wp2_with fail
    refine (loadsIn_any _ _ _ _ _ hx4 hlen (Nat.le_refl _) (Nat.le_trans hlen (by decide)) hn (Nat.le_of_not_lt hbigs)).mono ?_
    rintro e w5 ⟨rfl, hb5⟩
    have B5 : Below w.heap.size w w5 := B4.trans (hb5.mono B4.size)
    have hx5 := (hx4.below hb5).more hb5.size
    clear hb5 hx4 B4
    have hs5 := (HW.out.below B5).more B5.size
    go_wp2_with fail
    refine (toSegmentS_any _ _ _ _ hs5 hlen).mono ?_
    rintro e w6 ⟨rfl, hb6, hx6⟩
    have B6 : Below w.heap.size w w6 := B5.trans (hb6.mono B5.size)
    have hx7 := (hx5.below hb6).more hb6.size
    clear hb6 hs5 hx5 B5
    go_wp2_with fail
    refine (eqSegmentS_same _ _ _ _ _ _ hx7 hx6 hlen).mono ?_
    rintro e w7 ⟨rfl, hb7⟩
    have B7 : Below w.heap.size w w7 := B6.trans (hb7.mono B6.size)
    clear hb7 hx6 hx7 B6
    go_wp2
    go_ret
    exact ⟨rfl, B7⟩

end Go.Proofs.Ytcaegpjbdcopoaa
/- The argument of a law, opened: a slice of segments reads as a list. -/
namespace Go.Proofs.Ytcaegpjbdcopoaa
open Go.ChangeShapes Go.WideShapes Go.ChangeAt Go.RowKit

theorem list_of {Q : Nat → Seg → Prop} : ∀ (n : Nat), (∀ i, i < n → ∃ s, Q i s) → ∃ l : List Seg, l.length = n ∧ ∀ i s, l[i]? = some s → Q i s
  | 0, _ => ⟨[], rfl, fun i s h => by simp at h⟩
  | n + 1, h => by
    obtain ⟨l, hl, hq⟩ := list_of n fun i hi => h i (by omega)
    obtain ⟨s, hs⟩ := h n (by omega)
    refine ⟨l ++ [s], by simp [hl], fun i t ht => ?_⟩
    rcases Nat.lt_or_ge i n with hlt | hge
    · rw [List.getElem?_append_left (by omega)] at ht
      exact hq i t ht
    · rw [List.getElem?_append_right (by omega)] at ht
      have hi : i - l.length < 1 := by
        have := (List.getElem?_eq_some_iff.1 ht).1
        simpa using this
      have h0 : i - l.length = 0 := by omega
      rw [h0] at ht
      simp at ht
      obtain rfl : i = n := by omega
      exact ht ▸ hs

theorem three_of {l : List Value} (h : l.length = 3) : ∃ a b c, l = [a, b, c] := by
  match l, h with
  | [a, b, c], _ => exact ⟨a, b, c, rfl⟩
theorem cells_seg : Try.prog.cellsOf 86 = 3 := by kernel_rfl
theorem cells_str : Try.prog.cellsOf 9 = 1 := by kernel_rfl
theorem cells_int : Try.prog.cellsOf 3 = 1 := by kernel_rfl

theorem open_segs {H : Type} {enc : TypeId × Value → H} {w : World} {base : Nat} {spare : Nat → Bool} {held : Bool} {fuel : Nat} {a0 : Option Addr} {n c : Nat} {x : DataW H × List MemPlace}
    (h : DataW.trod enc Try.prog w base spare held fuel 39 [.slice a0 n c] = some x) : ∃ l : List Seg, l.length = n ∧ n ≤ maxLen ∧ Segs w w.heap.size a0 l ∧ Short l := by
  rcases Deep.open_slice Try.underlying39 h with ⟨hcs, _⟩ | ⟨a, len, cap, m, n', D, Pl, hcs, hb, hl, hm, hmm, hx, hi⟩
  · simp at hcs
    obtain ⟨rfl, rfl, rfl⟩ := hcs
    exact ⟨[], rfl, Nat.zero_le _, fun h0 => absurd h0 (by simp), fun s hs => by simp at hs⟩
  · simp at hcs
    obtain ⟨rfl, rfl, rfl⟩ := hcs
    have hlm : n ≤ m := by rw [hmm]; split <;> omega
    have hs : ∀ i, i < n → ∃ s : Seg, (w.cell? (a.add (i * 3)) = some (.string s.name) ∧ w.cell? (a.add (i * 3 + 1)) = some (.int .i64 s.size) ∧ w.cell? (a.add (i * 3 + 2)) = some (.int .i64 s.par)) ∧ s.name.size ≤ maxLen := by
      intro i hin
      obtain ⟨cs', hc, ht'⟩ := hi i (by omega)
      rw [cells_seg] at hc
      obtain ⟨ys, n'', hn', hy, hlen, hyl, hf⟩ := DataW.trod_struct Try.underlying86 ht'
      obtain ⟨_, hcl, hat⟩ := World.cells?_some hc
      obtain ⟨u0, u1, u2, rfl⟩ := three_of hcl
      have e0 := hat 0 (by omega)
      have e1 := hat 1 (by omega)
      have e2 := hat 2 (by omega)
      have f0 : DataW.trod enc Try.prog w base spare held n'' 9 (([u0, u1, u2].drop 0).take (Try.prog.cellsOf 9)) = ys[0]? := hf 0 _ rfl
      rw [cells_str] at f0
      have f1 : DataW.trod enc Try.prog w base spare held n'' 3 (([u0, u1, u2].drop 1).take (Try.prog.cellsOf 3)) = ys[1]? := hf 1 _ rfl
      rw [cells_int] at f1
      have f2 : DataW.trod enc Try.prog w base spare held n'' 3 (([u0, u1, u2].drop 2).take (Try.prog.cellsOf 3)) = ys[2]? := hf 2 _ rfl
      rw [cells_int] at f2
      obtain ⟨y0, g0⟩ : ∃ y, ys[0]? = some y := ⟨_, List.getElem?_eq_getElem (by rw [hyl]; decide)⟩
      obtain ⟨y1, g1⟩ : ∃ y, ys[1]? = some y := ⟨_, List.getElem?_eq_getElem (by rw [hyl]; decide)⟩
      obtain ⟨y2, g2⟩ : ∃ y, ys[2]? = some y := ⟨_, List.getElem?_eq_getElem (by rw [hyl]; decide)⟩
      rw [g0] at f0
      rw [g1] at f1
      rw [g2] at f2
      obtain ⟨s, hs, _, hss⟩ := DataW.trod_string Try.underlying9 f0
      obtain ⟨p, hp, _, _⟩ := DataW.trod_int Try.underlying3 f1
      obtain ⟨q, hq, _, _⟩ := DataW.trod_int Try.underlying3 f2
      simp at hs hp hq
      subst hs hp hq
      rw [Deep.add_add] at e0 e1 e2
      exact ⟨⟨s, p, q⟩, ⟨e0, e1, e2⟩, hss⟩
    obtain ⟨l, hll, hq⟩ := list_of n hs
    refine ⟨l, hll, by omega, fun h0 => ?_, fun s hs => ?_⟩
    · obtain ⟨b, o, spot⟩ := a
      have hc0 := (hq 0 l[0] (List.getElem?_eq_getElem h0)).1.1
      have hspot : spot = none := by simpa [Addr.add] using World.cell?_spot hc0
      subst hspot
      have hlt := World.block_lt_of_cell? w _ hc0
      rw [WideShapes.add_plain] at hlt
      refine ⟨b, o, rfl, hlt, fun k s hk => ?_⟩
      have := (hq k s hk).1
      rw [WideShapes.add_plain, WideShapes.add_plain, WideShapes.add_plain, ← Nat.add_assoc, ← Nat.add_assoc] at this
      exact this
    · obtain ⟨j, hj, rfl⟩ := List.getElem_of_mem hs
      exact (hq j _ (List.getElem?_eq_getElem hj)).2

theorem own : ownKnob Try.prog.godebug = none := by kernel_rfl
theorem laidOut : laidOutB Try.prog = true := by kernel_rfl

end Go.Proofs.Ytcaegpjbdcopoaa
