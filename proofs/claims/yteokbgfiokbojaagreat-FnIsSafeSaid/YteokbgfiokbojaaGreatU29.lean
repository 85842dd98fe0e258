/- Joined: Yi. -/
import Derived.Test.YteokbgfiokbojaaGreatU28
import Derived.Laws.EntriesVeiled
/- The program's steps: an iterator over needs whose state is a variable of a closure. -/
namespace Go.Proofs.YteokbgfiokbojaaGreat
open Go.RowKit Go.Shelf
attribute [local go_sem] Oper.semAt_some

def encS (x : Stp × Bool) : Array Value := #[.agg #[.string x.1.nm, .string x.1.ld, .string x.1.st], .bool x.2]
set_option maxRecDepth 100000 in
theorem stepsIn_any (A A2 : Option Addr) (k cap k2 cap2 : Nat) (w : World) :
    Calls Tryz.prog 47 #[.slice A k cap, .slice A2 k2 cap2] w fun e w' => e = .returned (.func (.func 85) #[] #[.pointer (some ⟨w.heap.size, 0, none⟩), .pointer (some ⟨w.heap.size + 1, 0, none⟩)]) ∧ w' = (w.alloc (.cells #[.slice A k cap] 56)).alloc (.cells #[.slice A2 k2 cap2] 63) := by
  go_enter Tryz.func47, Tryz.ntmps47
  go_wp2
  go_ret
  exact ⟨rfl, rfl⟩

/-- A letter that names a segment, whatever comes. -/
def fixN (l : List Seg) (x : UInt8 × Bool) : UInt8 × Bool := if callP l x.1 = true then x else (rootB l, x.2)
theorem fixN_ok {l : List Seg} (hv : validB l = true) (x : UInt8 × Bool) : callP l (fixN l x).1 = true := by
  unfold fixN
  split
  · assumption
  · exact (callP_root hv).1
theorem fixN_id {l : List Seg} {x : UInt8 × Bool} (h : callP l x.1 = true) : fixN l x = x := if_pos h

/-- What holds between rounds. -/
structure StMid (w0 W : World) (B g : Nat) (l : List Seg) (nb : Nat → Nat) (cv : Nat → Value) (D Bn Bc : Nat) (v : Value) (l' : Nat) (J : List (Stp × Bool) → World → Prop) (xs : List (Stp × Bool)) (T : List Nat) (W' : World) : Prop where
  come : J xs W'
  held : Held8 w0 B g l nb cv (W.heap.size + 1) Bn T W'
  boxN : BoxAt W' w0.heap.size D Bn (.slice (some ⟨g, 0, none⟩) l.length l.length) 56
  boxC : BoxAt W' w0.heap.size D Bc v 63
  boxY : BoxAt W' w0.heap.size D W.heap.size (.func (.yield l') #[] #[]) 137
  boxM : BoxAt W' w0.heap.size D (W.heap.size + 2) (.func (.func 86) #[] #[.pointer (some ⟨W.heap.size + 1, 0, none⟩), .pointer (some ⟨Bn, 0, none⟩)]) 144
  size : W.heap.size + 3 ≤ W'.heap.size
  low : Below w0.heap.size W W'
theorem StMid.met {w0 W A A' : World} {B g D Bn Bc l' : Nat} {l : List Seg} {nb : Nat → Nat} {cv : Nat → Value} {v : Value} {J : List (Stp × Bool) → World → Prop} {xs : List (Stp × Bool)} {T U : List Nat} (h : StMid w0 W B g l nb cv D Bn Bc v l' J xs T A)
    (hJ : OwnFromS W.heap.size J) (hh : Held8 w0 B g l nb cv (W.heap.size + 1) Bn U A') (hO : Only A A' (· = W.heap.size + 1)) : StMid w0 W B g l nb cv D Bn Bc v l' J xs U A' := by
  have hg := grown_of_only hO
  have hr : ∀ r, some (W.heap.size + 1) = some r → RowS A r := fun r e => by
    injection e with e
    subst e
    exact ⟨_, h.held.bits, .inr ⟨_, _, rfl⟩⟩
  refine ⟨hJ _ _ _ _ h.come hg (fun r e => ⟨by injection e with e; omega, hr r e⟩), hh, h.boxN.grownS hg hr (by decide), h.boxC.grownS hg hr (by decide), h.boxY.grownS hg hr (by decide), h.boxM.grownS hg hr (by decide), Nat.le_trans h.size hg.size, h.low.grown hg ?_ (fun k e => by injection e with e; have := h.held.lt; omega)⟩
  exact Nat.le_trans h.held.lt (Nat.le_of_lt h.held.bits.lt)
theorem StMid.grown {w0 W A A' : World} {B g D Bn Bc l' : Nat} {l : List Seg} {nb : Nat → Nat} {cv : Nat → Value} {v : Value} {J : List (Stp × Bool) → World → Prop} {xs : List (Stp × Bool)} {T : List Nat} {row : Option Nat} (h : StMid w0 W B g l nb cv D Bn Bc v l' J xs T A)
    (hJ : OwnFromS W.heap.size J) (hg : A.grownBy A' row) (hr : ∀ r, row = some r → W.heap.size ≤ r ∧ ∃ o : Obj, A.heap[r]? = some o ∧ o.isCells = false) : StMid w0 W B g l nb cv D Bn Bc v l' J xs T A' := by
  have hr' : ∀ r, row = some r → RowS A r := fun r e => (hr r e).2.elim fun o ho => ⟨o, ho.1, .inl ho.2⟩
  have hw0 : w0.heap.size ≤ A.heap.size := Nat.le_trans h.held.lt (Nat.le_of_lt h.held.bits.lt)
  have hlo : ∀ k, row = some k → w0.heap.size ≤ k := fun k e => by
    obtain ⟨o, ho, hc⟩ := (hr k e).2
    have h1 := (hr k e).1
    have h2 := h.held.lt
    by_cases hk : k = W.heap.size
    · exfalso
      have h3 := h.boxY.2.2
      rw [← hk, ho] at h3
      injection h3 with h3
      rw [h3] at hc
      cases hc
    · omega
  have hb : Row A' (W.heap.size + 1) 139 (bitCells (inT T)) := row_grown h.held.bits hg (B := 0) (fun r e => ⟨Nat.zero_le _, (hr r e).2⟩)
  exact ⟨hJ _ _ _ _ h.come hg (fun r e => ⟨(hr r e).1, hr' r e⟩), ⟨h.held.nodes, h.held.low.grown hg hw0 hlo, hb, row_grown h.held.box hg (B := 0) (fun r e => ⟨Nat.zero_le _, (hr r e).2⟩), h.held.lt⟩, h.boxN.grownS hg hr' (by decide), h.boxC.grownS hg hr' (by decide), h.boxY.grownS hg hr' (by decide), h.boxM.grownS hg hr' (by decide), Nat.le_trans h.size hg.size, h.low.grown hg hw0 hlo⟩
theorem StMid.later {w0 W A A' : World} {B g D Bn Bc l' : Nat} {l : List Seg} {nb : Nat → Nat} {cv : Nat → Value} {v : Value} {J : List (Stp × Bool) → World → Prop} {xs : List (Stp × Bool)} {T : List Nat} (h : StMid w0 W B g l nb cv D Bn Bc v l' J xs T A)
    (hJ : OwnFromS W.heap.size J) (hb : Below A.heap.size A A') : StMid w0 W B g l nb cv D Bn Bc v l' J xs T A' := h.grown hJ (grown_of_below hb) (fun r e => by cases e)
theorem StMid.yield {w0 W A A' : World} {B g D Bn Bc l' : Nat} {l : List Seg} {nb : Nat → Nat} {cv : Nat → Value} {v : Value} {J : List (Stp × Bool) → World → Prop} {xs ys : List (Stp × Bool)} {T : List Nat} (h : StMid w0 W B g l nb cv D Bn Bc v l' J xs T A)
    (hD : D ≤ W.heap.size) (hj : J ys A') (hb : Below w0.heap.size A A') (hk : KeepsN D A A') : StMid w0 W B g l nb cv D Bn Bc v l' J ys T A' := by
  refine ⟨hj, ⟨h.held.nodes, h.held.low.trans hb, ?_, (h.boxN.keep hb hk).2.2, h.held.lt⟩, h.boxN.keep hb hk, h.boxC.keep hb hk, h.boxY.keep hb hk, h.boxM.keep hb hk, Nat.le_trans h.size hk.size, h.low.trans hb⟩
  exact hk.same _ _ (by omega) h.held.bits (fun c t fz he => by injection he with hc ht; subst hc; subst ht; exact ⟨by decide, .inr rfl⟩)
/-- The steps of some needs behind the root's. -/
def runOn (l : List Seg) (ys : List (UInt8 × Bool)) : List (Stp × Bool) := runS l [] ((rootB l, false) :: ys.map (fixN l))
def endOn (l : List Seg) (ys : List (UInt8 × Bool)) : List Nat := endT l [] ((rootB l, false) :: ys.map (fixN l))
theorem runOn_snoc (l : List Seg) (ys : List (UInt8 × Bool)) (x : UInt8 × Bool) : runOn l (ys ++ [x]) = runOn l ys ++ [(stepAt l (endOn l ys) (fixN l x).1, (fixN l x).2)] ∧ endOn l (ys ++ [x]) = nextT l (endOn l ys) (fixN l x).1 := by
  unfold runOn endOn
  rw [List.map_append, ← List.cons_append]
  exact ⟨runS_snoc l _ [] (fixN l x), endT_snoc l _ [] (fixN l x)⟩
theorem runOn_len (l : List Seg) (ys : List (UInt8 × Bool)) : (runOn l ys).length = ys.length + 1 := by
  unfold runOn
  rw [runS_len]
  simp
theorem endOn_is {l : List Seg} (hv : validB l = true) (ys : List (UInt8 × Bool)) : IsState l (endOn l ys) := by
  refine endT_is _ (.inl rfl) (fun x hx => ?_)
  rcases List.mem_cons.1 hx with rfl | hx
  · exact (callP_root hv).1
  · obtain ⟨y, _, rfl⟩ := List.mem_map.1 hx
    exact fixN_ok hv y
theorem runOn_all {l : List Seg} {f : Forest} (hv : validB l = true) (h : f.all (callP l)) : runOn l (needsR (rootB l) f) = runF l f := by
  have h1 : (needsR (rootB l) f).map (fixN l) = needsR (rootB l) f := by
    conv => rhs; rw [← List.map_id (needsR (rootB l) f)]
    exact List.map_congr_left fun x hx => fixN_id (needsR_all f _ (callP_root hv).1 h x hx)
  unfold runOn runF needsOfF
  rw [h1]
theorem runOn_prefix {l : List Seg} {f : Forest} (hv : validB l = true) (h : f.all (callP l)) {ys : List (UInt8 × Bool)} (hp : ys <+: needsR (rootB l) f) : runOn l ys <+: runF l f := by
  obtain ⟨q, hq⟩ := hp
  rw [← runOn_all hv h, ← hq]
  unfold runOn
  rw [List.map_append, ← List.cons_append, runS_app]
  exact List.prefix_append _ _

set_option maxRecDepth 100000 in
set_option maxHeartbeats 4000000 in
theorem steps1_seq (w0 : World) (B g : Nat) (l : List Seg) (nb : Nat → Nat) (cv : Nat → Value) (D : Nat) (fix : Stp × Bool → Stp × Bool) (f : Forest) (N n Bn Bc : Nat) (v : Value) (w : World) (hv : validB l = true) (hall : f.all (callP l)) (hs : f.size ≤ 1000)
    (hfx : ∀ T c b, IsState l T → callP l c = true → fix (stepAt l T c, b) = (stepAt l T c, b)) (hN0 : Nodes w0 B g l.length l.length l nb cv) (hw : Below w0.heap.size w0 w) (hboxn : BoxAt w w0.heap.size D Bn (.slice (some ⟨g, 0, none⟩) l.length l.length) 56)
    (hboxc : BoxAt w w0.heap.size D Bc v 63) (hsl : SliceIs w (· < w0.heap.size) v f) (hN : 2 * f.size + 1 ≤ N) (hn : f.deep + 3 ≤ n) :
    SeqS n 85 #[.pointer (some ⟨Bn, 0, none⟩), .pointer (some ⟨Bc, 0, none⟩)] (fun x => encS (fix x)) w0.heap.size D (fun ys => ys = runF l f) (fun ys => ys <+: runF l f) N w := by
  intro l' J Jx W hbW hDW hJ hJx hY h0
  obtain ⟨A, cap, rfl, hl0⟩ := LeftC.start hsl
  have hn₀ : w0.heap.size ≤ w.heap.size := hw.size
  have hn₀W : w0.heap.size ≤ W.heap.size := Nat.le_trans hn₀ hbW.size
  have keepB : ∀ {Bx : Nat} {x : Value} {t : TypeId}, BoxAt w w0.heap.size D Bx x t → BoxAt W w0.heap.size D Bx x t := fun h => ⟨h.1, h.2.1, (hbW.block _ (Array.getElem?_eq_some_iff.1 h.2.2).1).trans h.2.2⟩
  have hn1 := keepB hboxn
  have hc1 := keepB hboxc
  have hlow0 : Below w0.heap.size w0 W := hw.trans (hbW.mono hn₀)
  obtain ⟨W1, hW1⟩ : ∃ W1, W1 = (((W.alloc (.cells #[.func (.yield l') #[] #[]] 137)).alloc (.cells #[.bool false, .bool false, .bool false, .bool false, .bool false, .bool false, .bool false, .bool false] 139)).alloc (.cells #[.func (.func 86) #[] #[.pointer (some ⟨W.heap.size + 1, 0, none⟩), .pointer (some ⟨Bn, 0, none⟩)]] 144)) := ⟨_, rfl⟩
  have hz1 : W1.heap.size = W.heap.size + 3 := by rw [hW1]; simp
  have hb1 : Below W.heap.size W W1 := by
    rw [hW1]
    exact (((Below.refl _ W).alloc (Nat.le_refl _) _).alloc (by simp) _).alloc (by simp; omega) _
  have hg1 : W.grownBy W1 none := grown_of_below hb1
  have H0 : Hid (StMid w0 W B g l nb cv D Bn Bc (.slice A f.len cap) l' J [] [] W1) := by
    have hry : Row W1 W.heap.size 137 #[.func (.yield l') #[] #[]] := by
      rw [hW1]
      exact ((Row.new W _ _).alloc _).alloc _
    have hrb : Row W1 (W.heap.size + 1) 139 (bitCells (inT [])) := by
      have := Row.new (W.alloc (.cells #[.func (.yield l') #[] #[]] 137)) 139 #[.bool false, .bool false, .bool false, .bool false, .bool false, .bool false, .bool false, .bool false]
      rw [World.size_alloc] at this
      rw [hW1]
      exact this.alloc _
    have hrm : Row W1 (W.heap.size + 2) 144 #[.func (.func 86) #[] #[.pointer (some ⟨W.heap.size + 1, 0, none⟩), .pointer (some ⟨Bn, 0, none⟩)]] := by
      have := Row.new ((W.alloc (.cells #[.func (.yield l') #[] #[]] 137)).alloc (.cells #[.bool false, .bool false, .bool false, .bool false, .bool false, .bool false, .bool false, .bool false] 139)) 144 #[.func (.func 86) #[] #[.pointer (some ⟨W.heap.size + 1, 0, none⟩), .pointer (some ⟨Bn, 0, none⟩)]]
      rw [World.size_alloc, World.size_alloc] at this
      rw [hW1]
      exact this
    have hnn := hn1.grown hg1 (fun r e => by cases e)
    exact ⟨hJ.plain _ _ _ _ h0 hg1 (fun r e => by cases e), ⟨hN0, hlow0.trans (hb1.mono hn₀W), hrb, hnn.2.2, by omega⟩, hnn, hc1.grown hg1 (fun r e => by cases e), ⟨.inr hDW, by decide, hry⟩, ⟨.inr (by omega), by decide, hrm⟩, by omega, hb1.mono hn₀W⟩
  obtain ⟨s0, hs0, hnm0⟩ := root_name hv
  have hl1 := (valid_all hv).2.2
  have hNW := H0.out.held.is
  obtain ⟨cs, hrow, _, hci⟩ := hNW.row
  have cg : W1.cell? ⟨g, 0, none⟩ = some (.pointer (some ⟨nb 0, 0, none⟩)) := by
    rw [hrow.cell]
    exact hci 0 (by omega)
  have cn : W1.cell? ⟨nb 0, 0, none⟩ = some (.string ⟨#[rootB l]⟩) := by
    rw [← hnm0]
    exact (hNW.node 0 s0 (by omega) hs0).cell 0
  have cb : W1.cell? ⟨Bn, 0, none⟩ = some (.slice (some ⟨g, 0, none⟩) l.length l.length) := H0.out.boxN.cell
  have cY : W1.cell? ⟨W.heap.size, 0, none⟩ = some (.func (.yield l') #[] #[]) := H0.out.boxY.cell
  have cM : W1.cell? ⟨W.heap.size + 2, 0, none⟩ = some (.func (.func 86) #[] #[.pointer (some ⟨W.heap.size + 1, 0, none⟩), .pointer (some ⟨Bn, 0, none⟩)]) := H0.out.boxM.cell
  have HMS : Hid (∀ (T : List Nat) (c : UInt8) (A : World), IsState l T → callP l c = true → Held8 w0 B g l nb cv (W.heap.size + 1) Bn T A → Calls Tryz.prog 86 #[.string ⟨#[c]⟩, .pointer (some ⟨W.heap.size + 1, 0, none⟩), .pointer (some ⟨Bn, 0, none⟩)] A fun e w' => e = .returned (.agg #[.string (stepAt l T c).nm, .string (stepAt l T c).ld, .string (stepAt l T c).st]) ∧ Held8 w0 B g l nb cv (W.heap.size + 1) Bn (nextT l T c) w' ∧ Only A w' (· = W.heap.size + 1)) := fun T c A hT hc hA => meetStep_any w0 B g l nb cv (W.heap.size + 1) Bn T c A hA hv hT hc
  have HY : Hid (∀ pre x W1, J pre W1 → pre.length < N → W.heap.size ≤ W1.heap.size → YieldAt Fence.wide (n - 1) Tryz.prog l' (encS (fix x)) W1 fun e W' => ∃ b, e = .returned (.bool b) ∧ YB J Jx w0.heap.size D W.heap.size (pre ++ [x]) W1 W' b) := fun pre x W1 h1 h2 h3 => yieldYB (hY pre x W1 h1 h2 h3)
  have HJ : Hid (OwnFromS W.heap.size J) := hJ
  have HJX : Hid (OwnFromS W.heap.size Jx) := hJx
  have HFX := Lib.hid hfx
  have HV := Lib.hid hv
  have HALL := Lib.hid hall
  have HL0 : Hid (LeftC W w0.heap.size f A .nil f) := hl0.below (hbW.mono hn₀)
  have HSLW : Hid (SliceIs W (· < w0.heap.size) (.slice A f.len cap) f) := hsl.below (hbW.mono hn₀)
  have hmx : Tryz.prog.follows .mixedOrders = true := by kernel_rfl
  have HW1 := Lib.hid hW1
  have hll : 0 < l.length := by omega
  have hYs : W.heap.size < W1.heap.size := by omega
  have hHs : W.heap.size + 2 < W1.heap.size := by omega
  clear hW1 hY hJ hJx hfx hv hall hl0 keepB hn1 hc1 h0 hg1 hb1 hNW hrow hci hs0 hnm0 hsl hboxn hboxc hbW hlow0 hw hN0
  refine callsIn_of_wp_marks Tryz.func85 rfl trivial ?_ rfl
  simp only [Tryz.ntmps85, List.size_toArray, List.length_cons, List.length_nil, Nat.reduceAdd, Nat.reduceSub, Array.replicate_succ, Array.replicate_zero, List.push_toArray, List.append_toArray, List.nil_append, List.cons_append]
  rw [HW1.out] at cg cn cb
  gi_wp2_with fail
  rw [← HW1.out]
  clear cg cn cb HW1
  have cM' : W1.cell? ⟨W.heap.size + 1 + 1, 0, none⟩ = some (.func (.func 86) #[] #[.pointer (some ⟨W.heap.size + 1, 0, none⟩), .pointer (some ⟨Bn, 0, none⟩)]) := cM
  have HYK : Hid (∀ W2, J [] W2 → W.heap.size ≤ W2.heap.size → YieldAt Fence.wide (n - 1) Tryz.prog l' #[.agg #[.string (stepAt l [] (rootB l)).nm, .string (stepAt l [] (rootB l)).ld, .string (stepAt l [] (rootB l)).st], .bool false] W2 fun e W' => ∃ b, e = .returned (.bool b) ∧ YB J Jx w0.heap.size D W.heap.size (runOn l []) W2 W' b) := fun W2 h1 h2 => by
    have h3 := HY.out [] (stepAt l [] (rootB l), false) W2 h1 (by simp; omega) h2
    rw [HFX.out [] (rootB l) false (.inl rfl) (callP_root HV.out).1] at h3
    exact h3
  clear cM
  refine wpIn_mono (Q := fun e a' W' => ∃ (b : Bool) (W2 : World), e = .normal ∧ a' = { tmps := #[.func (.yield l') #[] #[], .pointer (some ⟨Bn, 0, none⟩), .pointer (some ⟨Bc, 0, none⟩), .pointer (some ⟨W.heap.size, 0, none⟩), .pointer (some ⟨W.heap.size + 1, 0, none⟩), .pointer (some ⟨W.heap.size + 1 + 1, 0, none⟩), .string ⟨#[rootB l]⟩, undef, undef, .func (.func 86) #[] #[.pointer (some ⟨W.heap.size + 1, 0, none⟩), .pointer (some ⟨Bn, 0, none⟩)], .slice (some ⟨g, 0, none⟩) l.length l.length, .pointer (some ⟨g, 0, none⟩), .pointer (some ⟨nb 0, 0, none⟩), .pointer (some ⟨nb 0, 0, none⟩), .pointer (some ⟨nb 0, 0, none⟩), .string ⟨#[rootB l]⟩, .func (.yield l') #[] #[], .func (.func 86) #[] #[.pointer (some ⟨W.heap.size + 1, 0, none⟩), .pointer (some ⟨Bn, 0, none⟩)], .string ⟨#[rootB l]⟩, .agg #[.string (stepAt l [] (rootB l)).nm, .string (stepAt l [] (rootB l)).ld, .string (stepAt l [] (rootB l)).st], .bool b, .bool !b, undef, undef, undef, undef, undef, undef, undef, undef, undef, undef, undef, undef], defers := [] } ∧ StMid w0 W B g l nb cv D Bn Bc (.slice A f.len cap) l' J [] (endOn l []) W2 ∧ YB J Jx w0.heap.size D W.heap.size (runOn l []) W2 W' b) ?_ ?_
  · first | gi_region_with_o (first
      | (refine ⟨trivial, (fun h => by simp [Fence.wide] at h), ?_⟩; refine (callsIn_wide.2 (HMS.out [] (rootB l) _ (.inl rfl) (callP_root HV.out).1 (H0.out.held.below ((Below.refl _ W1).drew)))).mono ?_; rintro e W2 ⟨rfl, hh2, ho2⟩; have hm2 := (H0.out.later HJ.out ((Below.refl _ W1).drew)).met HJ.out hh2 ho2; have cY2 : W2.cell? ⟨W.heap.size, 0, none⟩ = some (.func (.yield l') #[] #[]) := hm2.boxY.cell; obtain ⟨fn, tmps, assign, body, hy, hR⟩ := HYK.out W2 hm2.come (by have := hm2.size; omega))
      | (refine ⟨fun h => by simp [Fence.wide] at h, ?_⟩; refine hR.mono ?_; rintro e W3 ⟨b, rfl, hyp⟩)) | fail
    all_goals exact ⟨b, W2, rfl, rfl, hm2, hyp⟩
  · rintro _ _ W3 ⟨b, W2, rfl, rfl, hm2, hyp⟩
    have HYP := Lib.hid hyp
    have HM2 := Lib.hid hm2
    have HRO : Hid (runOn l [] <+: runF l f) := runOn_prefix HV.out HALL.out (List.nil_prefix)
    clear hyp hm2 HYK H0 cY cM'
    cases b with
    | false =>
      have HX3 := Lib.hid HYP.out.1
      clear HYP HM2
      gi_wp2
      exact ⟨_, results_none rfl _ _ _, ⟨_, rfl⟩, .inr ⟨_, HRO.out, HX3.out⟩⟩
    | true =>
      obtain ⟨hJ3, hb3, hk3⟩ := HYP.out
      have HM3 : Hid (StMid w0 W B g l nb cv D Bn Bc (.slice A f.len cap) l' J (runOn l []) (endOn l []) W3) := HM2.out.yield hDW hJ3 hb3 hk3
      have cC3 : W3.cell? ⟨Bc, 0, none⟩ = some (.slice A f.len cap) := HM3.out.boxC.cell
      clear hJ3 hb3 hk3 HYP HM2 HRO
      gi_wp2_with fail
      refine ⟨trivial, fun h => by simp [Fence.wide] at h, ?_⟩
      refine (callsIn_wide.2 (needsIn_any _ _ _ _ _)).mono ?_
      rintro e w5 ⟨rfl, rfl⟩
      gi_wp2
      have hz3 := HM3.out.size
      have HB5 : Hid (Below W3.heap.size W3 ((W3.alloc (.cells #[.string ⟨#[rootB l]⟩] 9)).alloc (.cells #[.slice A f.len cap] 63))) := ((Below.refl _ W3).alloc (Nat.le_refl _) _).alloc (by simp) _
      have HR1 : Hid (Row ((W3.alloc (.cells #[.string ⟨#[rootB l]⟩] 9)).alloc (.cells #[.slice A f.len cap] 63)) W3.heap.size 9 #[.string ⟨#[rootB l]⟩]) := (Row.new W3 _ _).alloc _
      have HR2 : Hid (Row ((W3.alloc (.cells #[.string ⟨#[rootB l]⟩] 9)).alloc (.cells #[.slice A f.len cap] 63)) (W3.heap.size + 1) 63 #[.slice A f.len cap]) := by
        have := Row.new (W3.alloc (.cells #[.string ⟨#[rootB l]⟩] 9)) 63 #[.slice A f.len cap]
        rw [World.size_alloc] at this
        exact this
      have hz5 : ((W3.alloc (.cells #[.string ⟨#[rootB l]⟩] 9)).alloc (.cells #[.slice A f.len cap] 63)).heap.size = W3.heap.size + 2 := by simp
      generalize (W3.alloc (.cells #[.string ⟨#[rootB l]⟩] 9)).alloc (.cells #[.slice A f.len cap] 63) = W5 at *
      have HM5 : Hid (StMid w0 W B g l nb cv D Bn Bc (.slice A f.len cap) l' J (runOn l []) (endOn l []) W5) := HM3.out.later HJ.out HB5.out
      have HW35 : Hid (Below w0.heap.size W W5) := HM5.out.low
      have hn3 : w0.heap.size ≤ W3.heap.size := by omega
      have hseq := needs1_seq w0.heap.size W3.heap.size (fixN l) (f.size + 1) f (rootB l) (2 * f.size) (n - 1) (W3.heap.size + 1) W3.heap.size (.slice A f.len cap) W5 (by omega) hs (fun x hx => fixN_id (needsR_all f _ (callP_root HV.out).1 HALL.out x hx)) ⟨.inr (by omega), by decide, HR2.out⟩ ⟨.inr (Nat.le_refl _), by decide, HR1.out⟩ (HSLW.out.below HW35.out) (by omega) (Nat.le_refl _) (by omega)
      refine wpIn_rangeFunc_R (by omega) (gf := 112) (lb := #[.pointer (some ⟨W3.heap.size + 1, 0, none⟩), .pointer (some ⟨W3.heap.size, 0, none⟩)]) rfl (enters_of Tryz.func112 (by kernel_rfl) rfl) hseq (by omega) (by omega) (Below.refl _ _) (fun _ => rfl)
        (fun ys X => StMid w0 W B g l nb cv D Bn Bc (.slice A f.len cap) l' J (runOn l ys) (endOn l ys) X)
        (fun c' ys X => c' = .ret ∧ Jx (runOn l ys) X)
        (fun s X Y row hs hg hr => hs.grown HJ.out hg (fun r e => ⟨by have := (hr r e).1; omega, (hr r e).2⟩))
        (fun c' s X Y row hs hg hr => ⟨hs.1, HJX.out.plain _ X Y row hs.2 hg (fun r e => ⟨by have := (hr r e).1; omega, (hr r e).2⟩)⟩)
        HM5.out
        (fun x => { tmps := #[.func (.yield l') #[] #[], .pointer (some ⟨Bn, 0, none⟩), .pointer (some ⟨Bc, 0, none⟩), .pointer (some ⟨W.heap.size, 0, none⟩), .pointer (some ⟨W.heap.size + 1, 0, none⟩), .pointer (some ⟨W.heap.size + 1 + 1, 0, none⟩), .string ⟨#[rootB l]⟩, .string ⟨#[(fixN l x).1]⟩, .bool (fixN l x).2, .func (.func 86) #[] #[.pointer (some ⟨W.heap.size + 1, 0, none⟩), .pointer (some ⟨Bn, 0, none⟩)], .slice (some ⟨g, 0, none⟩) l.length l.length, .pointer (some ⟨g, 0, none⟩), .pointer (some ⟨nb 0, 0, none⟩), .pointer (some ⟨nb 0, 0, none⟩), .pointer (some ⟨nb 0, 0, none⟩), .string ⟨#[rootB l]⟩, .func (.yield l') #[] #[], .func (.func 86) #[] #[.pointer (some ⟨W.heap.size + 1, 0, none⟩), .pointer (some ⟨Bn, 0, none⟩)], .string ⟨#[rootB l]⟩, .agg #[.string (stepAt l [] (rootB l)).nm, .string (stepAt l [] (rootB l)).ld, .string (stepAt l [] (rootB l)).st], .bool true, .bool false, .string ⟨#[rootB l]⟩, .slice A f.len cap, .func (.func 112) #[] #[.pointer (some ⟨W3.heap.size + 1, 0, none⟩), .pointer (some ⟨W3.heap.size, 0, none⟩)], .string ⟨#[(fixN l x).1]⟩, .bool (fixN l x).2, undef, undef, undef, undef, undef, undef, undef], defers := [] }) ?assign ?body ?done ?stop
      case assign =>
        intro l2 x X K hK
        unfold encN
        gi_wp2
        exact hK
      case body =>
        rintro l2 ys x X hI hlen hz
        have hT := endOn_is HV.out ys
        have hcx := fixN_ok HV.out x
        obtain ⟨hsn, hen2⟩ := runOn_snoc l ys x
        have hxl : (runOn l ys).length = ys.length + 1 := runOn_len l ys
        have cY6 : X.cell? ⟨W.heap.size, 0, none⟩ = some (.func (.yield l') #[] #[]) := hI.boxY.cell
        have cM6 : X.cell? ⟨W.heap.size + 1 + 1, 0, none⟩ = some (.func (.func 86) #[] #[.pointer (some ⟨W.heap.size + 1, 0, none⟩), .pointer (some ⟨Bn, 0, none⟩)]) := hI.boxM.cell
        have HI := Lib.hid hI
        have HYK : Hid (∀ W2, J (runOn l ys) W2 → W.heap.size ≤ W2.heap.size → YieldAt Fence.wide (n - 1 - 1 - 1) Tryz.prog l' #[.agg #[.string (stepAt l (endOn l ys) (fixN l x).1).nm, .string (stepAt l (endOn l ys) (fixN l x).1).ld, .string (stepAt l (endOn l ys) (fixN l x).1).st], .bool (fixN l x).2] W2 fun e W' => ∃ b, e = .returned (.bool b) ∧ YB J Jx w0.heap.size D W.heap.size (runOn l (ys ++ [x])) W2 W' b) := fun W2 h1 h2 => by
          have h3 := HY.out (runOn l ys) (stepAt l (endOn l ys) (fixN l x).1, (fixN l x).2) W2 h1 (by omega) h2
          rw [HFX.out _ _ _ hT hcx, ← hsn] at h3
          exact yield_any _ h3
        have HE := Lib.hid hen2
        have HMX := Lib.hid (fun A hA => HMS.out (endOn l ys) (fixN l x).1 A hT hcx hA)
        clear hsn hen2 hI hT hcx hxl
        generalize (stepAt l (endOn l ys) (fixN l x).1) = st at *
        generalize (nextT l (endOn l ys) (fixN l x).1) = U at *
        generalize (fixN l x) = y at *
        gi_wp2_with fail
        refine wpIn_mono (Q := fun e a' W' => ∃ (b : Bool) (W2 : World), e = .normal ∧ a' = { tmps := #[.func (.yield l') #[] #[], .pointer (some ⟨Bn, 0, none⟩), .pointer (some ⟨Bc, 0, none⟩), .pointer (some ⟨W.heap.size, 0, none⟩), .pointer (some ⟨W.heap.size + 1, 0, none⟩), .pointer (some ⟨W.heap.size + 1 + 1, 0, none⟩), .string ⟨#[rootB l]⟩, .string ⟨#[y.1]⟩, .bool y.2, .func (.func 86) #[] #[.pointer (some ⟨W.heap.size + 1, 0, none⟩), .pointer (some ⟨Bn, 0, none⟩)], .slice (some ⟨g, 0, none⟩) l.length l.length, .pointer (some ⟨g, 0, none⟩), .pointer (some ⟨nb 0, 0, none⟩), .pointer (some ⟨nb 0, 0, none⟩), .pointer (some ⟨nb 0, 0, none⟩), .string ⟨#[rootB l]⟩, .func (.yield l') #[] #[], .func (.func 86) #[] #[.pointer (some ⟨W.heap.size + 1, 0, none⟩), .pointer (some ⟨Bn, 0, none⟩)], .string ⟨#[rootB l]⟩, .agg #[.string (stepAt l [] (rootB l)).nm, .string (stepAt l [] (rootB l)).ld, .string (stepAt l [] (rootB l)).st], .bool true, .bool false, .string ⟨#[rootB l]⟩, .slice A f.len cap, .func (.func 112) #[] #[.pointer (some ⟨W3.heap.size + 1, 0, none⟩), .pointer (some ⟨W3.heap.size, 0, none⟩)], .string ⟨#[y.1]⟩, .bool y.2, .func (.yield l') #[] #[], .func (.func 86) #[] #[.pointer (some ⟨W.heap.size + 1, 0, none⟩), .pointer (some ⟨Bn, 0, none⟩)], .string ⟨#[y.1]⟩, .agg #[.string st.nm, .string st.ld, .string st.st], .bool y.2, .bool b, .bool !b], defers := [] } ∧ Only X.drew W2 (· = W.heap.size + 1) ∧ StMid w0 W B g l nb cv D Bn Bc (.slice A f.len cap) l' J (runOn l ys) U W2 ∧ YB J Jx w0.heap.size D W.heap.size (runOn l (ys ++ [x])) W2 W' b) ?_ ?_
        · first | gi_region_with_o (first
            | (refine ⟨trivial, (fun h => by simp [Fence.wide] at h), ?_⟩; refine (CallsIn.inRound l2 (callsIn_wide.2 (HMX.out _ (HI.out.held.below ((Below.refl _ X).drew))))).mono ?_; rintro e W2 ⟨rfl, hh2, ho2⟩; have hm2 := (HI.out.later HJ.out ((Below.refl _ X).drew)).met HJ.out hh2 ho2; have cY2 : W2.cell? ⟨W.heap.size, 0, none⟩ = some (.func (.yield l') #[] #[]) := hm2.boxY.cell; obtain ⟨fn, tmps, assign, body, hy, hR⟩ := HYK.out W2 hm2.come (by have := hm2.size; omega))
            | (refine ⟨fun h => by simp [Fence.wide] at h, ?_⟩; refine (show RoundIn (Fence.wide.inRound l2) (n - 1 - 1 - 1) Tryz.prog l' fn tmps assign body W2 _ from hR).mono ?_; rintro e X3 ⟨b, rfl, hyp⟩)) | fail
          all_goals exact ⟨b, W2, rfl, rfl, ho2, hm2, hyp⟩
        · rintro _ _ X3 ⟨b, W2, rfl, rfl, ho2, hm2, hyp⟩
          have HK12 : Hid (KeepsN W3.heap.size X W2) := ⟨ho2.size, fun k o hk ho _ => (ho2.block k (Array.getElem?_eq_some_iff.1 ho).1 (by omega)).trans ho⟩
          have HB12 : Hid (Below w0.heap.size X W2) := ((Below.refl w0.heap.size X).drew).grown (grown_of_only ho2) (by show w0.heap.size ≤ X.heap.size; omega) (fun k e => by injection e with e; omega)
          have HYP := Lib.hid hyp
          have HM2 := Lib.hid hm2
          clear hyp hm2 ho2 HYK cY6 cM6
          cases b with
          | true =>
            obtain ⟨hJ7, hb7, hk7⟩ := HYP.out
            have HM7 : Hid (StMid w0 W B g l nb cv D Bn Bc (.slice A f.len cap) l' J (runOn l (ys ++ [x])) (endOn l (ys ++ [x])) X3) := by
              show StMid w0 W B g l nb cv D Bn Bc _ _ _ _ _ _
              rw [HE.out]
              exact HM2.out.yield hDW hJ7 hb7 hk7
            have HK7 : Hid (KeepsN W3.heap.size X X3) := HK12.out.trans (hk7.mono (by omega))
            have HB7 := Lib.hid (HB12.out.trans hb7)
            clear hJ7 hb7 hk7 HYP HM2 HK12 HB12
            gi_wp2
            exact ⟨by rw [Nat.min_eq_right (by omega)]; exact HK7.out, HB7.out, HM7.out⟩
          | false =>
            obtain ⟨hx7, hk7⟩ := HYP.out
            have HK7 : Hid (KeepsN W5.heap.size X X3) := (HK12.out.mono (by omega)).trans (hk7.mono (by omega))
            have HX7 := Lib.hid hx7
            clear hx7 hk7 HYP HM2 HK12 HB12
            gi_wp2
            exact ⟨HK7.out, rfl, HX7.out⟩
      case done =>
        rintro L ys X hL rfl hI hK
        have HI := Lib.hid hI
        clear hI hseq
        gi_wp2
        refine ⟨by simp, .inl ⟨_, _, rfl, run_takeDeferred hK, ?_⟩⟩
        refine ⟨_, results_none rfl _ _ _, ⟨_, rfl⟩, .inl ⟨_, runOn_all HV.out HALL.out, HJ.out.plain.putObj _ HI.out.come (by omega) hK rfl⟩⟩
      case stop =>
        rintro L c' ys X hL hSp ⟨rfl, hx⟩ hK
        have HX6 := Lib.hid hx
        have HSP := Lib.hid hSp
        clear hx hSp hseq
        gi_wp2
        refine ⟨by simp, .inl ⟨_, _, rfl, run_takeDeferred hK, ?_⟩⟩
        refine ⟨_, results_none rfl _ _ _, ⟨_, rfl⟩, .inr ⟨_, runOn_prefix HV.out HALL.out HSP.out, HJX.out.plain.putObj _ HX6.out (by omega) hK rfl⟩⟩

end Go.Proofs.YteokbgfiokbojaaGreat
