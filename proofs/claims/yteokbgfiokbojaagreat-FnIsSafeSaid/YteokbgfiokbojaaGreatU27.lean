/- Joined: Yf. -/
import Derived.Test.YteokbgfiokbojaaGreatU14
import Derived.Test.YteokbgfiokbojaaGreatU16
/- The program's needs: an iterator that calls itself and tells calls from returns. -/
namespace Go.Proofs.YteokbgfiokbojaaGreat
open Go.RowKit Go.Shelf
attribute [local go_sem] Oper.semAt_some

def encN (x : UInt8 × Bool) : Array Value := #[.string ⟨#[x.1]⟩, .bool x.2]
set_option maxRecDepth 100000 in
theorem needsIn_any (a : ByteArray) (A : Option Addr) (k cap : Nat) (w : World) :
    Calls Tryz.prog 91 #[.string a, .slice A k cap] w fun e w' => e = .returned (.func (.func 112) #[] #[.pointer (some ⟨w.heap.size + 1, 0, none⟩), .pointer (some ⟨w.heap.size, 0, none⟩)]) ∧ w' = (w.alloc (.cells #[.string a] 9)).alloc (.cells #[.slice A k cap] 63) := by
  go_enter Tryz.func91, Tryz.ntmps91
  go_wp2
  go_ret
  exact ⟨rfl, rfl⟩
theorem leafName_b (c : UInt8) (w : World) : Calls Tryz.prog 155 #[.agg #[.string ⟨#[c]⟩]] w fun e w' => e = .returned (.string ⟨#[c]⟩) ∧ Below w.heap.size w w' :=
  (leafName_any c w).mono fun _ _ ⟨he, hw⟩ => ⟨he, by rw [hw]; exact (Below.refl _ w).alloc (Nat.le_refl _) _⟩
/-- What a yield leaves, by its answer. -/
def YB {α : Type} (J Jx : List α → World → Prop) (n₀ D B : Nat) (xs : List α) (W1 W' : World) : Bool → Prop
  | true => J xs W' ∧ Below n₀ W1 W' ∧ KeepsN D W1 W'
  | false => Jx xs W' ∧ KeepsN B W1 W'
theorem yieldYB {α : Type} {m l : Nat} {args : Array Value} {W1 : World} {J Jx : List α → World → Prop} {n₀ D B : Nat} {xs : List α} (h : YieldAt Fence.wide m Tryz.prog l args W1 fun e W' =>
      (e = .returned (.bool true) ∧ J xs W' ∧ Below n₀ W1 W' ∧ KeepsN D W1 W') ∨ (e = .returned (.bool false) ∧ Jx xs W' ∧ KeepsN B W1 W')) :
    YieldAt Fence.wide m Tryz.prog l args W1 fun e W' => ∃ b, e = .returned (.bool b) ∧ YB J Jx n₀ D B xs W1 W' b := by
  obtain ⟨fn, tmps, assign, body, hy, hR⟩ := h
  refine ⟨fn, tmps, assign, body, hy, hR.mono ?_⟩
  rintro e W3 (⟨rfl, h3, h4, h5⟩ | ⟨rfl, h3, h4⟩)
  · exact ⟨true, rfl, h3, h4, h5⟩
  · exact ⟨false, rfl, h3, h4⟩

/-- What holds at the head of a round of the iterator. -/
structure NHead (W : World) (n₀ D : Nat) (f : Forest) (a : UInt8) (A : Option Addr) (cap Bc Bs l' : Nat) (J : List (UInt8 × Bool) → World → Prop) (pre rest : Forest) (Ls : List Nat) (W' : World) : Prop where
  left : LeftC W' n₀ f A pre rest
  come : J (needsR a pre) W'
  low : Below n₀ W W'
  size : W.heap.size + 1 ≤ W'.heap.size
  boxY : BoxAt W' n₀ D W.heap.size (.func (.yield l') #[] #[]) 165
  boxC : BoxAt W' n₀ D Bc (.slice A f.len cap) 63
  boxS : BoxAt W' n₀ D Bs (.string ⟨#[a]⟩) 9
  marks : MarksIn W.heap.size W'.heap.size W' Ls
/-- Later, with nothing old written. -/
theorem NHead.later {W : World} {n₀ D : Nat} {f : Forest} {a : UInt8} {A : Option Addr} {cap Bc Bs l' : Nat} {J : List (UInt8 × Bool) → World → Prop} {pre rest : Forest} {Ls : List Nat} {W1 W2 : World} (h : NHead W n₀ D f a A cap Bc Bs l' J pre rest Ls W1)
    (hJ : OwnFrom W.heap.size J) (hb : Below W1.heap.size W1 W2) (hn : n₀ ≤ W.heap.size) : NHead W n₀ D f a A cap Bc Bs l' J pre rest Ls W2 := by
  have hg := grown_of_below hb
  have hz := h.size
  have hb0 : Below n₀ W1 W2 := hb.mono (by omega)
  exact ⟨h.left.below hb0, hJ _ _ _ _ h.come hg (fun r e => by cases e), h.low.trans hb0, Nat.le_trans h.size hb.size, h.boxY.grown hg (fun r e => by cases e), h.boxC.grown hg (fun r e => by cases e), h.boxS.grown hg (fun r e => by cases e),
    (h.marks.grown hg (B := W1.heap.size) (fun r e => by cases e) (Nat.le_refl _)).up hb.size⟩
/-- What holds between two rounds of the loop within. -/
structure NMid (W W3 : World) (n₀ D hi : Nat) (n : Nat) (a : UInt8) (A : Option Addr) (cap Bc Bs l' : Nat) (Ls : List Nat) (W' : World) : Prop where
  low : Below n₀ W3 W'
  size : hi ≤ W'.heap.size
  boxY : BoxAt W' n₀ D W.heap.size (.func (.yield l') #[] #[]) 165
  boxC : BoxAt W' n₀ D Bc (.slice A n cap) 63
  boxS : BoxAt W' n₀ D Bs (.string ⟨#[a]⟩) 9
  marks : MarksIn W.heap.size hi W' Ls
theorem NMid.grown {W W3 : World} {n₀ D hi n : Nat} {a : UInt8} {A : Option Addr} {cap Bc Bs l' : Nat} {Ls : List Nat} {X Y : World} {row : Option Nat} (h : NMid W W3 n₀ D hi n a A cap Bc Bs l' Ls X) (hg : X.grownBy Y row)
    (hr : ∀ r, row = some r → hi ≤ r ∧ ∃ o : Obj, X.heap[r]? = some o ∧ o.isCells = false) (hn : n₀ ≤ hi) : NMid W W3 n₀ D hi n a A cap Bc Bs l' Ls Y :=
  ⟨h.low.grown hg (Nat.le_trans hn h.size) (fun k e => Nat.le_trans hn (hr k e).1), Nat.le_trans h.size hg.size, h.boxY.grown hg (fun r e => (hr r e).2), h.boxC.grown hg (fun r e => (hr r e).2), h.boxS.grown hg (fun r e => (hr r e).2), h.marks.grown hg (fun r e => (hr r e).1) (Nat.le_refl _)⟩
theorem NMid.keep {W W3 : World} {n₀ D hi n : Nat} {a : UInt8} {A : Option Addr} {cap Bc Bs l' : Nat} {Ls : List Nat} {X Y : World} (h : NMid W W3 n₀ D hi n a A cap Bc Bs l' Ls X) (hb : Below n₀ X Y) (hk : KeepsN D X Y) (hD : D ≤ W.heap.size) : NMid W W3 n₀ D hi n a A cap Bc Bs l' Ls Y :=
  ⟨h.low.trans hb, Nat.le_trans h.size hk.size, h.boxY.keep hb hk, h.boxC.keep hb hk, h.boxS.keep hb hk, h.marks.keep hk hD⟩
def NInv (W : World) (n₀ D : Nat) (f : Forest) (a : UInt8) (A : Option Addr) (cap Bc Bs l' : Nat) (J : List (UInt8 × Bool) → World → Prop) (a' : Act) (W' : World) : Prop :=
  ∃ (pre rest : Forest) (Ls : List Nat) (u5 u6 u7 u10 u11 u12 u13 u14 u15 u16 u17 u18 u19 u20 u21 u22 u23 u24 u25 u26 u27 u28 u29 u30 u31 u32 u33 u34 u35 : Value), a' = { tmps := #[.func (.yield l') #[] #[], .pointer (some ⟨Bc, 0, none⟩), .pointer (some ⟨Bs, 0, none⟩), .pointer (some ⟨W.heap.size, 0, none⟩), undef, u5, u6, u7, .slice A f.len cap, .int .i64 f.len, u10, u11, u12, u13, u14, u15, u16, u17, u18, u19, u20, u21, u22, u23, u24, u25, u26, u27, u28, u29, u30, u31, u32, u33, u34, u35], defers := marksOf Ls } ∧ u10 = .int .i64 pre.len ∧ NHead W n₀ D f a A cap Bc Bs l' J pre rest Ls W'

set_option maxRecDepth 100000 in
set_option maxHeartbeats 4000000 in
theorem needs1_seq (n₀ D : Nat) (fix : UInt8 × Bool → UInt8 × Bool) : ∀ (m : Nat) (f : Forest) (a : UInt8) (N n Bc Bs : Nat) (v : Value) (w : World), f.size < m → f.size ≤ 1000 → (∀ x ∈ needsR a f, fix x = x) → BoxAt w n₀ D Bc v 63 → BoxAt w n₀ D Bs (.string ⟨#[a]⟩) 9 → SliceIs w (· < n₀) v f → n₀ ≤ w.heap.size → 2 * f.size ≤ N → f.deep + 1 ≤ n →
    SeqR n 112 #[.pointer (some ⟨Bc, 0, none⟩), .pointer (some ⟨Bs, 0, none⟩)] (fun x => encN (fix x)) n₀ D (fun ys => ys = needsR a f) (fun ys => ys <+: needsR a f) N w := by
  intro m
  induction m with
  | zero => intro f a N n Bc Bs v w h; omega
  | succ m ih =>
    intro f a N n Bc Bs v w hm hs hfx hboxc hboxs hsl hn₀ hN hn l' J Jx W hbW hDW hJ hJx hY h0
    obtain ⟨A, cap, rfl, hl0⟩ := LeftC.start hsl
    have keepB : ∀ {Bx : Nat} {x : Value} {t : TypeId}, BoxAt w n₀ D Bx x t → BoxAt W n₀ D Bx x t := fun h => ⟨h.1, h.2.1, (hbW.block _ (Array.getElem?_eq_some_iff.1 h.2.2).1).trans h.2.2⟩
    have hc1 := keepB hboxc
    have hs1 := keepB hboxs
    have hn₀W : n₀ ≤ W.heap.size := Nat.le_trans hn₀ hbW.size
    have hg0 : W.grownBy (W.alloc (.cells #[.func (.yield l') #[] #[]] 165)) none := World.grownBy_alloc W _ none
    have H0 : Hid (NHead W n₀ D f a A cap Bc Bs l' J .nil f [] (W.alloc (.cells #[.func (.yield l') #[] #[]] 165))) :=
      ⟨(hl0.below (hbW.mono hn₀)).below ((Below.refl _ W).alloc hn₀W _), hJ.alloc _ h0, (Below.refl _ W).alloc hn₀W _, by simp, ⟨.inr hDW, by decide, Row.new W _ _⟩, hc1.grown hg0 (fun r e => by cases e), hs1.grown hg0 (fun r e => by cases e), MarksIn.nil _ _ _⟩
    have c1 : (W.alloc (.cells #[.func (.yield l') #[] #[]] 165)).cell? ⟨Bc, 0, none⟩ = some (.slice A f.len cap) := H0.out.boxC.cell
    have HY : Hid (∀ pre x W1, J pre W1 → pre.length < N → W.heap.size ≤ W1.heap.size → YieldAt Fence.wide (n - 1) Tryz.prog l' (encN (fix x)) W1 fun e W' => ∃ b, e = .returned (.bool b) ∧ YB J Jx n₀ D W.heap.size (pre ++ [x]) W1 W' b) := fun pre x W1 h1 h2 h3 => yieldYB (hY pre x W1 h1 h2 h3)
    have HJ : Hid (OwnFrom W.heap.size J) := hJ
    have HJX : Hid (OwnFrom W.heap.size Jx) := hJx
    have HBW := Lib.hid hbW
    have hfl : f.len ≤ 1000 := by have := f.len_size; omega
    have IH := Lib.hid ih
    have HFX := Lib.hid hfx
    clear hY hJ hJx hbW ih hfx hboxc hboxs hsl hl0 keepB hc1 hs1 h0 hg0
    refine callsIn_of_wp_marks Tryz.func112 rfl trivial ?_ rfl
    simp only [Tryz.ntmps112, List.size_toArray, List.length_cons, List.length_nil, Nat.reduceAdd, Nat.reduceSub, Array.replicate_succ, Array.replicate_zero, List.push_toArray, List.append_toArray, List.nil_append, List.cons_append]
    gi_wp2
    refine wpIn_loop (NInv W n₀ D f a A cap Bc Bs l' J) (fun a' _ => f.len - (intOf (a'.tmps.getD 10 undef)).toNat) ?_ ?_
    · exact ⟨.nil, f, [], _, _, _, _, _, _, _, _, _, _, _, _, _, _, _, _, _, _, _, _, _, _, _, _, _, _, _, _, _, rfl, rfl, H0.out⟩
    · rintro _ W1 ⟨pre, rest, Ls, u5, u6, u7, u10, u11, u12, u13, u14, u15, u16, u17, u18, u19, u20, u21, u22, u23, u24, u25, u26, u27, u28, u29, u30, u31, u32, u33, u34, u35, rfl, rfl, hH⟩
      clear H0 c1
      have HH := Lib.hid hH
      clear hH
      cases rest with
      | nil =>
        have HE := Lib.hid HH.out.left.done
        have hle : ¬ (pre.len < f.len) := by rw [HE.out]; omega
        gi_wp2
        exact marks_leave (lo := W.heap.size) (hi := W1.heap.size) (I := fun W' => J (needsR a f) W') (fun X L hX hL hk => HJ.out.putObj _ hX hL hk rfl) rfl (fun X hX => ⟨⟨_, rfl⟩, .inl ⟨_, rfl, hX⟩⟩) Ls W1 HH.out.marks (by rw [HE.out]; exact HH.out.come)
      | cons c k r =>
        obtain ⟨hnext, hlt, hks, g, x, rfl, hg, c0, hu⟩ := HH.out.left.take
        obtain ⟨T, y, kv, rfl, hf, hkv⟩ := hu.facts
        obtain ⟨K, z, o, hmt, hen, hc⟩ := hf.calls
        have hnm := hf.name
        have HC := Lib.hid hc
        have HKV := Lib.hid hkv
        have HNX := Lib.hid hnext
        have cY1 : W1.cell? ⟨W.heap.size, 0, none⟩ = some (.func (.yield l') #[] #[]) := HH.out.boxY.cell
        have hYs : W.heap.size < W1.heap.size := by have := HH.out.size; omega
        have hmx : Tryz.prog.follows .mixedOrders = true := by kernel_rfl
        have hps : pre.size + (k.size + r.size + 1) = f.size := by rw [HH.out.left.1, Forest.app_size]; rfl
        have hpl := needsR_len a pre
        have hkl := needsR_len c k
        have hkd : k.deep + 1 ≤ f.deep := by rw [HH.out.left.1]; exact Forest.deep_app pre c k r
        have HPF : Hid (needsR a f = needsR a pre ++ ((c, false) :: (needsR c k ++ ((a, true) :: needsR a r)))) := by
          show _ = _
          conv => lhs; rw [HH.out.left.1, needsR_app]
          rfl
        have HPN : Hid (needsR a (pre.app (.cons c k .nil)) = needsR a pre ++ [(c, false)] ++ needsR c k ++ [(a, true)]) := by
          show _ = _
          rw [needsR_app, needsR_one]; simp
        have HLN : Hid ((pre.app (.cons c k .nil)).len = pre.len + 1) := by show _ = _; rw [Forest.app_len]; rfl
        have HYK : Hid (∀ W2, Below W1.heap.size W1 W2 → YieldAt Fence.wide (n - 1) Tryz.prog l' #[.string ⟨#[c]⟩, .bool false] W2 fun e W' => ∃ b, e = .returned (.bool b) ∧ YB J Jx n₀ D W.heap.size (needsR a pre ++ [(c, false)]) W2 W' b) := fun W2 hb => by
          have h1 := HY.out (needsR a pre) (c, false) W2 (HH.out.later HJ.out hb hn₀W).come (by rw [hpl]; omega) (by have := HH.out.size; have := hb.size; omega)
          rw [HFX.out (c, false) (by rw [HPF.out]; simp)] at h1
          exact h1
        have HPL := Lib.hid hpl
        have HKL := Lib.hid hkl
        clear hnext hf hkv hc hu hpl hkl
        gi_wp2_with fail
        first | gi_region_with_o (first
          | (refine ⟨trivial, (fun h => by simp [Fence.wide] at h), ?_⟩; gi_at_call 155; refine (callsIn_wide.2 (leafName_b c _)).mono ?_; rintro e W2 ⟨rfl, hb2⟩; have hbw : Below W1.heap.size W1 W2 := ((Below.refl _ W1).drew).trans hb2; have cY2 : W2.cell? ⟨W.heap.size, 0, none⟩ = some (.func (.yield l') #[] #[]) := (hbw.cell hYs).trans cY1; obtain ⟨fn, tmps, assign, body, hy, hR⟩ := HYK.out W2 hbw)
          | (refine ⟨fun h => by simp [Fence.wide] at h, ?_⟩; refine hR.mono ?_; rintro e W3 ⟨b, rfl, hyp⟩)) | fail
        all_goals (
          have HB2 := Lib.hid hbw
          have HYP := Lib.hid hyp
          have HH2 := Lib.hid (HH.out.later HJ.out hbw hn₀W)
          have HNX2 := Lib.hid (HNX.out.below (hbw.mono (by have := HH.out.size; omega)))
          have HKV2 := Lib.hid (HKV.out.below (hbw.mono (by have := HH.out.size; omega)))
          clear hyp hb2 hbw cY2 hy hR HYK HH HNX HKV cY1 c0
          cases b with
          | false =>
            have HM3 := Lib.hid (HH2.out.marks.keep HYP.out.2 (Nat.le_refl _))
            have HX3 := Lib.hid HYP.out.1
            clear HYP HH2
            gi_wp2
            exact marks_leave (lo := W.heap.size) (hi := W2.heap.size) (I := fun W' => Jx (needsR a pre ++ [(c, false)]) W') (fun X L hX hL hk => HJX.out.putObj _ hX hL hk rfl) rfl (fun X hX => ⟨⟨_, rfl⟩, .inr ⟨_, by rw [HPF.out]; exact ⟨needsR c k ++ ((a, true) :: needsR a r), by simp⟩, hX⟩⟩) Ls W3 HM3.out HX3.out
          | true =>
            obtain ⟨hJ3, hb3, hk3⟩ := HYP.out
            have hz3 : W.heap.size + 1 ≤ W3.heap.size := Nat.le_trans HH2.out.size hk3.size
            have hL3 : LeftC W3 n₀ f (some ⟨g, 0, none⟩) (pre.app (.cons c k .nil)) r := HNX2.out.below hb3
            obtain ⟨A2, cap2, rfl, -⟩ := id HKV2.out
            have HL3 := Lib.hid hL3
            have HV3 := Lib.hid (HKV2.out.below hb3)
            have HJ3 := Lib.hid hJ3
            have HM3 := Lib.hid (HH2.out.marks.keep hk3 hDW)
            have HBY := Lib.hid (HH2.out.boxY.keep hb3 hk3)
            have HBC := Lib.hid (HH2.out.boxC.keep hb3 hk3)
            have HBS := Lib.hid (HH2.out.boxS.keep hb3 hk3)
            have HB3 := Lib.hid (HH2.out.low.trans hb3)
            have HZ23 : Hid (W2.heap.size ≤ W3.heap.size) := hk3.size
            clear hL3 hJ3 hb3 hk3 HYP HH2 HNX2 HKV2
            gi_wp2_with fail
            refine ⟨trivial, fun h => by simp [Fence.wide] at h, ?_⟩
            gi_at_call 155
            refine (callsIn_wide.2 (leafName_any c _)).mono ?_
            rintro e w4 ⟨rfl, rfl⟩
            gi_wp2_with fail
            refine ⟨trivial, fun h => by simp [Fence.wide] at h, ?_⟩
            refine (callsIn_wide.2 (HC.out _)).mono ?_
            rintro e w4 ⟨rfl, rfl⟩
            gi_wp2_with fail
            refine ⟨trivial, fun h => by simp [Fence.wide] at h, ?_⟩
            refine (callsIn_wide.2 (needsIn_any _ _ _ _ _)).mono ?_
            rintro e w5 ⟨rfl, rfl⟩
            gi_wp2
            have hz4 : ((W3.alloc (.cells #[.string ⟨#[c]⟩] 183)).alloc o).heap.size = W3.heap.size + 2 := by simp
            have hz5 : ((((W3.alloc (.cells #[.string ⟨#[c]⟩] 183)).alloc o).alloc (.cells #[.string ⟨#[c]⟩] 9)).alloc (.cells #[.slice A2 k.len cap2] 63)).heap.size = W3.heap.size + 4 := by simp
            have HB5 : Hid (Below W3.heap.size W3 ((((W3.alloc (.cells #[.string ⟨#[c]⟩] 183)).alloc o).alloc (.cells #[.string ⟨#[c]⟩] 9)).alloc (.cells #[.slice A2 k.len cap2] 63))) := ((((Below.refl _ W3).alloc (Nat.le_refl _) _).alloc (by simp) _).alloc (by simp; omega) _).alloc (by simp; omega) _
            have HR1 : Hid (Row ((((W3.alloc (.cells #[.string ⟨#[c]⟩] 183)).alloc o).alloc (.cells #[.string ⟨#[c]⟩] 9)).alloc (.cells #[.slice A2 k.len cap2] 63)) (W3.heap.size + 2) 9 #[.string ⟨#[c]⟩]) := by
              have := Row.new ((W3.alloc (.cells #[.string ⟨#[c]⟩] 183)).alloc o) 9 #[.string ⟨#[c]⟩]
              rw [hz4] at this
              exact this.alloc _
            have HR2 : Hid (Row ((((W3.alloc (.cells #[.string ⟨#[c]⟩] 183)).alloc o).alloc (.cells #[.string ⟨#[c]⟩] 9)).alloc (.cells #[.slice A2 k.len cap2] 63)) (W3.heap.size + 3) 63 #[.slice A2 k.len cap2]) := by
              have := Row.new (((W3.alloc (.cells #[.string ⟨#[c]⟩] 183)).alloc o).alloc (.cells #[.string ⟨#[c]⟩] 9)) 63 #[.slice A2 k.len cap2]
              rw [World.size_alloc, hz4] at this
              exact this
            clear hz4
            generalize (((W3.alloc (.cells #[.string ⟨#[c]⟩] 183)).alloc o).alloc (.cells #[.string ⟨#[c]⟩] 9)).alloc (.cells #[.slice A2 k.len cap2] 63) = W5 at *
            have HX5 : Hid (BoxAt W5 n₀ D (W3.heap.size + 3) (.slice A2 k.len cap2) 63) := ⟨.inr (by omega), by decide, HR2.out⟩
            have HS5 : Hid (BoxAt W5 n₀ D (W3.heap.size + 2) (.string ⟨#[c]⟩) 9) := ⟨.inr (by omega), by decide, HR1.out⟩
            have hg5 : W3.grownBy W5 none := grown_of_below HB5.out
            have HMID : Hid (NMid W W3 n₀ D W5.heap.size f.len a (some ⟨g, 0, none⟩) cap Bc Bs l' Ls W5) :=
              ⟨HB5.out.mono (by omega), Nat.le_refl _, HBY.out.grown hg5 (fun r e => by cases e), HBC.out.grown hg5 (fun r e => by cases e), HBS.out.grown hg5 (fun r e => by cases e), (HM3.out.grown hg5 (B := W2.heap.size) (fun r e => by cases e) (Nat.le_refl _)).up (by have := HZ23.out; omega)⟩
            have HJ5 : Hid (J (needsR a pre ++ [(c, false)]) W5) := HJ.out _ _ _ _ HJ3.out hg5 (fun r e => by cases e)
            have hseq := IH.out k c (2 * k.size) (n - 1) (W3.heap.size + 3) (W3.heap.size + 2) (.slice A2 k.len cap2) W5 (by omega) (by omega) (fun x hx => HFX.out x (by rw [HPF.out]; simp [hx])) HX5.out HS5.out (HV3.out.below (HB5.out.mono (by omega))) (by omega) (Nat.le_refl _) (by omega)
            have HPL' := HPL.out
            have HKL' := HKL.out
            refine wpIn_rangeFunc_R (by omega) (gf := 112) (lb := #[.pointer (some ⟨W3.heap.size + 1 + 1 + 1, 0, none⟩), .pointer (some ⟨W3.heap.size + 1 + 1, 0, none⟩)]) rfl (enters_of Tryz.func112 (by kernel_rfl) rfl) hseq (by omega) (by omega) (Below.refl _ _) (fun _ => rfl)
              (fun ys W' => J (needsR a pre ++ [(c, false)] ++ ys) W' ∧ NMid W W3 n₀ D W5.heap.size f.len a (some ⟨g, 0, none⟩) cap Bc Bs l' Ls W')
              (fun c' ys W' => c' = .ret ∧ Jx (needsR a pre ++ [(c, false)] ++ ys) W' ∧ MarksIn W.heap.size W5.heap.size W' Ls)
              (fun s X Y row hs hg hr => ⟨HJ.out _ X Y row hs.1 hg (fun r e => ⟨by have := (hr r e).1; omega, (hr r e).2⟩), hs.2.grown hg hr (by omega)⟩)
              (fun c' s X Y row hs hg hr => ⟨hs.1, HJX.out _ X Y row hs.2.1 hg (fun r e => ⟨by have := (hr r e).1; omega, (hr r e).2⟩), hs.2.2.grown hg (fun r e => (hr r e).1) (Nat.le_refl _)⟩)
              ⟨by rw [List.append_nil]; exact HJ5.out, HMID.out⟩
              (fun x => { tmps := #[.func (.yield l') #[] #[], .pointer (some ⟨Bc, 0, none⟩), .pointer (some ⟨Bs, 0, none⟩), .pointer (some ⟨W.heap.size, 0, none⟩), undef, .iface T y, .string ⟨#[(fix x).1]⟩, .bool (fix x).2, .slice (some ⟨g, 0, none⟩) f.len cap, .int .i64 f.len, .int .i64 pre.len, .bool true, .pointer (some ⟨g, pre.len, none⟩), .iface T y, .func (.yield l') #[] #[], .iface T y, .string ⟨#[c]⟩, .bool true, .bool false, .iface T y, .string ⟨#[c]⟩, .iface T y, .slice A2 k.len cap2, .func (.func 112) #[] #[.pointer (some ⟨W3.heap.size + 1 + 1 + 1, 0, none⟩), .pointer (some ⟨W3.heap.size + 1 + 1, 0, none⟩)], .string ⟨#[(fix x).1]⟩, .bool (fix x).2, u26, u27, u28, u29, u30, u31, u32, u33, u34, u35], defers := [] }) ?assign ?body ?done ?stop
            case assign =>
              intro l2 x X K hK
              unfold encN
              gi_wp2
              exact hK
            case body =>
              rintro l2 ys x X ⟨hJ6, hM6⟩ hlen hz
              have cY6 := hM6.boxY.cell
              obtain ⟨fn, tmps, assign, body, hy, hR⟩ := yield_any (n - 1 - 1 - 1) (HY.out (needsR a pre ++ [(c, false)] ++ ys) x X hJ6 (by simp; omega) (by omega))
              unfold encN at hy
              gi_wp2
              refine ⟨fun h => by simp [Fence.wide] at h, ?_⟩
              refine (show RoundIn (Fence.wide.inRound l2) (n - 1 - 1 - 1) Tryz.prog l' fn tmps assign body X _ from hR).mono ?_
              rintro e X3 ⟨b, rfl, hyp⟩
              cases b with
              | true =>
                obtain ⟨hJ7, hb7, hk7⟩ := hyp
                gi_wp2
                exact ⟨hk7.mono (by omega), hb7, by rw [← List.append_assoc]; exact hJ7, hM6.keep hb7 hk7 hDW⟩
              | false =>
                obtain ⟨hx7, hk7⟩ := hyp
                gi_wp2
                exact ⟨hk7.mono (by omega), rfl, by rw [← List.append_assoc]; exact hx7, hM6.marks.keep hk7 (Nat.le_refl _)⟩
            case done =>
              rintro L ys X hL rfl ⟨hJ6, hM6⟩ hK
              have HD : Hid (NMid W W3 n₀ D (L + 1) f.len a (some ⟨g, 0, none⟩) cap Bc Bs l' (L :: Ls) X) :=
                ⟨hM6.low, (Array.getElem?_eq_some_iff.1 hK).1, hM6.boxY, hM6.boxC, hM6.boxS, hM6.marks.cons hL (by omega) hK⟩
              have cY6 := HD.out.boxY.cell
              have cS6 := HD.out.boxS.cell
              have h1 := HY.out (needsR a pre ++ [(c, false)] ++ needsR c k) (a, true) X hJ6 (by simp; omega) (by have := hM6.size; omega)
              rw [HFX.out (a, true) (by rw [HPF.out]; simp)] at h1
              obtain ⟨fn, tmps, assign, body, hy, hR⟩ := yield_any (n - 1) h1
              unfold encN at hy
              rw [← HPN.out] at hR
              clear hJ6 hM6 hseq h1 hK
              gi_wp2
              refine ⟨fun h => by simp [Fence.wide] at h, ?_⟩
              refine hR.mono ?_
              rintro e X3 ⟨b, rfl, hyp⟩
              cases b with
              | true =>
                obtain ⟨hJ7, hb7, hk7⟩ := hyp
                have HD7 := Lib.hid (HD.out.keep hb7 hk7 hDW)
                have HD8 : Hid (NHead W n₀ D f a (some ⟨g, 0, none⟩) cap Bc Bs l' J (pre.app (.cons c k .nil)) r (L :: Ls) X3) :=
                  ⟨HL3.out.below HD7.out.low, hJ7, HB3.out.trans HD7.out.low, by have := HD7.out.size; omega, HD7.out.boxY, HD7.out.boxC, HD7.out.boxS, HD7.out.marks.up HD7.out.size⟩
                clear hJ7 hb7 hk7 hR hy HD HD7 cY6 cS6
                gi_wp2
                refine ⟨⟨_, r, L :: Ls, _, _, _, _, _, _, _, _, _, _, _, _, _, _, _, _, _, _, _, _, _, _, _, _, _, _, _, _, _, rfl, by rw [HLN.out]; go_num, HD8.out⟩, ?_⟩
                simp [intOf]; omega
              | false =>
                obtain ⟨hx7, hk7⟩ := hyp
                have HM7 := Lib.hid (HD.out.marks.keep hk7 (Nat.le_refl _))
                have HX7 := Lib.hid hx7
                clear hx7 hk7 hR hy HD cY6 cS6
                gi_wp2
                exact marks_leave (lo := W.heap.size) (hi := L + 1) (I := fun W' => Jx (needsR a (pre.app (.cons c k .nil))) W') (fun X' L' hX' hL' hk' => HJX.out.putObj _ hX' hL' hk' rfl) rfl (fun X' hX' => ⟨⟨_, rfl⟩, .inr ⟨_, by rw [HPF.out, HPN.out]; exact ⟨needsR a r, by simp⟩, hX'⟩⟩) (L :: Ls) X3 HM7.out HX7.out
            case stop =>
              rintro L c' ys X hL hSp ⟨rfl, hx, hmk⟩ hK
              have HM6 := Lib.hid (hmk.cons hL (by omega) hK)
              have HX6 := Lib.hid hx
              have HSP := Lib.hid hSp
              clear hx hmk hSp hseq
              gi_wp2
              exact marks_leave (lo := W.heap.size) (hi := L + 1) (I := fun W' => Jx (needsR a pre ++ [(c, false)] ++ ys) W') (fun X' L' hX' hL' hk' => HJX.out.putObj _ hX' hL' hk' rfl) rfl (fun X' hX' => ⟨⟨_, rfl⟩, .inr ⟨_, by
                obtain ⟨q, hq⟩ := HSP.out
                rw [HPF.out, ← hq]
                exact ⟨q ++ ((a, true) :: needsR a r), by simp⟩, hX'⟩⟩) (L :: Ls) X HM6.out HX6.out)

end Go.Proofs.YteokbgfiokbojaaGreat
