/- Joined: Fy Fz. -/
import Derived.Test.YtifkmehnikfihaaGreatU20
import Derived.Test.YtifkmehnikfihaaGreatU15
import Derived.Test.YtifkmehnikfihaaGreatU19
import Derived.Maps.OwnIn
import Derived.Maps.AppendAt
import Derived.Deep.AppendLies
/- The program's chains: an iterator that calls itself. -/
namespace Go.Proofs.YtifkmehnikfihaaGreat
open Go.RowKit Go.Shelf
attribute [local go_sem] Oper.semAt_some

set_option maxRecDepth 100000 in
theorem chainsOf_any (a : ByteArray) (A : Option Addr) (k cap : Nat) (w : World) :
    Calls Tryz.prog 89 #[.string a, .slice A k cap] w fun e w' => e = .returned (.func (.func 146) #[] #[.pointer (some ⟨w.heap.size + 1, 0, none⟩), .pointer (some ⟨w.heap.size, 0, none⟩)]) ∧ w' = (w.alloc (.cells #[.string a] 9)).alloc (.cells #[.slice A k cap] 99) := by
  go_enter Tryz.func89, Tryz.ntmps89
  go_wp2
  go_ret
  exact ⟨rfl, rfl⟩

theorem grown_of_below {X Y : World} (h : Below X.heap.size X Y) : X.grownBy Y none := ⟨h.os, h.tape, h.output, h.size, fun k hk _ => h.block k hk⟩
/-- Blocks for deferred calls, all empty: each loop over an iterator leaves one. -/
def MarksIn (lo hi : Nat) (W : World) (Ls : List Nat) : Prop := Ls.Nodup ∧ ∀ L ∈ Ls, lo ≤ L ∧ L < hi ∧ W.heap[L]? = some (.deferred (some []))
def marksOf (Ls : List Nat) : List Deferred := Ls.map fun L => { target := .collected L, args := #[] }
theorem MarksIn.nil (lo hi : Nat) (W : World) : MarksIn lo hi W [] := ⟨List.nodup_nil, fun L h => by cases h⟩
theorem MarksIn.keep {lo hi D : Nat} {W W' : World} {Ls : List Nat} (h : MarksIn lo hi W Ls) (hk : KeepsN D W W') (hD : D ≤ lo) : MarksIn lo hi W' Ls :=
  ⟨h.1, fun L hL => ⟨(h.2 L hL).1, (h.2 L hL).2.1, hk.same L _ (Nat.le_trans hD (h.2 L hL).1) (h.2 L hL).2.2 (fun c t fz he => by cases he)⟩⟩
theorem MarksIn.up {lo hi hi' : Nat} {W : World} {Ls : List Nat} (h : MarksIn lo hi W Ls) (hh : hi ≤ hi') : MarksIn lo hi' W Ls := ⟨h.1, fun L hL => ⟨(h.2 L hL).1, by have := (h.2 L hL).2.1; omega, (h.2 L hL).2.2⟩⟩
theorem MarksIn.grown {lo hi B : Nat} {W W' : World} {Ls : List Nat} {row : Option Nat} (h : MarksIn lo hi W Ls) (hg : W.grownBy W' row) (hr : ∀ r, row = some r → B ≤ r) (hB : hi ≤ B) : MarksIn lo hi W' Ls :=
  ⟨h.1, fun L hL => ⟨(h.2 L hL).1, (h.2 L hL).2.1, (hg.block L (Array.getElem?_eq_some_iff.1 (h.2 L hL).2.2).1 (fun e => by have := hr L e.symm; have := (h.2 L hL).2.1; omega)).trans (h.2 L hL).2.2⟩⟩
theorem MarksIn.cons {lo hi L : Nat} {W : World} {Ls : List Nat} (h : MarksIn lo hi W Ls) (h1 : hi ≤ L) (h2 : lo ≤ L) (h3 : W.heap[L]? = some (.deferred (some []))) : MarksIn lo (L + 1) W (L :: Ls) :=
  ⟨List.nodup_cons.2 ⟨fun hm => by have := (h.2 L hm).2.1; omega, h.1⟩, fun M hM => by
    rcases List.mem_cons.1 hM with rfl | hM
    · exact ⟨h2, by omega, h3⟩
    · exact ⟨(h.2 M hM).1, by have := (h.2 M hM).2.1; omega, (h.2 M hM).2.2⟩⟩
/-- A function whose frame holds marks alone leaves. -/
theorem marks_leave {F : Fence} {n : Nat} {P : Program} {fn : Func} {tmps : Array Value} {R : Ending → World → Prop} {lo hi : Nat} {I : World → Prop} (hI : ∀ (W : World) (L : Nat), I W → lo ≤ L → W.heap[L]? = some (.deferred (some [])) → I (W.putObj L (.deferred none)))
    (hres : fn.results = #[]) (hR : ∀ W, I W → R (.returned (.tuple #[])) W) : ∀ (Ls : List Nat) (W : World), MarksIn lo hi W Ls → I W → LeavesInM F n P fn tmps R (marksOf Ls) .returning W
  | [], W, _, h => ⟨_, results_none hres _ _ _, hR W h⟩
  | L :: Ls, W, hm, h => by
    have hL := hm.2 L (by simp)
    refine ⟨by simp, .inl ⟨L, _, rfl, run_takeDeferred hL.2.2, ?_⟩⟩
    refine marks_leave (hi := hi) hI hres hR Ls _ ⟨(List.nodup_cons.1 hm.1).2, fun M hM => ?_⟩ (hI W L h hL.1 hL.2.2)
    have hM' := hm.2 M (by simp [hM])
    refine ⟨hM'.1, hM'.2.1, ?_⟩
    rw [World.putObj_heap_other (fun e => (List.nodup_cons.1 hm.1).1 (by subst e; exact hM))]
    exact hM'.2.2

/-- What holds at the head of a round of the iterator. -/
structure ChHead (W : World) (n₀ D : Nat) (f : Forest) (a : List UInt8) (A : Option Addr) (cap Bc Bs l' : Nat) (J : List (List UInt8) → World → Prop) (pre rest : Forest) (Ls : List Nat) (W' : World) : Prop where
  left : LeftC W' n₀ f A pre rest
  come : J (chainsB a pre) W'
  low : Below n₀ W W'
  size : W.heap.size + 1 ≤ W'.heap.size
  boxY : BoxAt W' n₀ D W.heap.size (.func (.yield l') #[] #[]) 181
  boxC : BoxAt W' n₀ D Bc (.slice A f.len cap) 99
  boxS : BoxAt W' n₀ D Bs (.string (strOf a)) 9
  marks : MarksIn W.heap.size W'.heap.size W' Ls
/-- Later, with nothing old written. -/
theorem ChHead.later {W : World} {n₀ D : Nat} {f : Forest} {a : List UInt8} {A : Option Addr} {cap Bc Bs l' : Nat} {J : List (List UInt8) → World → Prop} {pre rest : Forest} {Ls : List Nat} {W1 W2 : World} (h : ChHead W n₀ D f a A cap Bc Bs l' J pre rest Ls W1)
    (hJ : OwnFrom W.heap.size J) (hb : Below W1.heap.size W1 W2) (hn : n₀ ≤ W.heap.size) : ChHead W n₀ D f a A cap Bc Bs l' J pre rest Ls W2 := by
  have hg := grown_of_below hb
  have hz := h.size
  have hb0 : Below n₀ W1 W2 := hb.mono (by omega)
  exact ⟨h.left.below hb0, hJ _ _ _ _ h.come hg (fun r e => by cases e), h.low.trans hb0, Nat.le_trans h.size hb.size, h.boxY.grown hg (fun r e => by cases e), h.boxC.grown hg (fun r e => by cases e), h.boxS.grown hg (fun r e => by cases e),
    (h.marks.grown hg (B := W1.heap.size) (fun r e => by cases e) (Nat.le_refl _)).up hb.size⟩
/-- What holds between two rounds of the loop within. -/
structure ChMid (W W3 : World) (n₀ D hi : Nat) (n : Nat) (a : List UInt8) (A : Option Addr) (cap Bc Bs l' : Nat) (Ls : List Nat) (W' : World) : Prop where
  low : Below n₀ W3 W'
  size : hi ≤ W'.heap.size
  boxY : BoxAt W' n₀ D W.heap.size (.func (.yield l') #[] #[]) 181
  boxC : BoxAt W' n₀ D Bc (.slice A n cap) 99
  boxS : BoxAt W' n₀ D Bs (.string (strOf a)) 9
  marks : MarksIn W.heap.size hi W' Ls
theorem ChMid.grown {W W3 : World} {n₀ D hi n : Nat} {a : List UInt8} {A : Option Addr} {cap Bc Bs l' : Nat} {Ls : List Nat} {X Y : World} {row : Option Nat} (h : ChMid W W3 n₀ D hi n a A cap Bc Bs l' Ls X) (hg : X.grownBy Y row)
    (hr : ∀ r, row = some r → hi ≤ r ∧ ∃ o : Obj, X.heap[r]? = some o ∧ o.isCells = false) (hn : n₀ ≤ hi) : ChMid W W3 n₀ D hi n a A cap Bc Bs l' Ls Y :=
  ⟨h.low.grown hg (Nat.le_trans hn h.size) (fun k e => Nat.le_trans hn (hr k e).1), Nat.le_trans h.size hg.size, h.boxY.grown hg (fun r e => (hr r e).2), h.boxC.grown hg (fun r e => (hr r e).2), h.boxS.grown hg (fun r e => (hr r e).2), h.marks.grown hg (fun r e => (hr r e).1) (Nat.le_refl _)⟩
theorem ChMid.keep {W W3 : World} {n₀ D hi n : Nat} {a : List UInt8} {A : Option Addr} {cap Bc Bs l' : Nat} {Ls : List Nat} {X Y : World} (h : ChMid W W3 n₀ D hi n a A cap Bc Bs l' Ls X) (hb : Below n₀ X Y) (hk : KeepsN D X Y) (hD : D ≤ W.heap.size) : ChMid W W3 n₀ D hi n a A cap Bc Bs l' Ls Y :=
  ⟨h.low.trans hb, Nat.le_trans h.size hk.size, h.boxY.keep hb hk, h.boxC.keep hb hk, h.boxS.keep hb hk, h.marks.keep hk hD⟩
def ChInv (W : World) (n₀ D : Nat) (f : Forest) (a : List UInt8) (A : Option Addr) (cap Bc Bs l' : Nat) (J : List (List UInt8) → World → Prop) (a' : Act) (W' : World) : Prop :=
  ∃ (pre rest : Forest) (Ls : List Nat) (u5 u6 u7 u10 u11 u12 u13 u14 u15 u16 u17 u18 u19 u20 u21 u22 u23 u24 u25 u26 u27 u28 u29 u30 u31 : Value), a' = { tmps := #[.func (.yield l') #[] #[], .pointer (some ⟨Bc, 0, none⟩), .pointer (some ⟨Bs, 0, none⟩), .pointer (some ⟨W.heap.size, 0, none⟩), undef, u5, u6, u7, .slice A f.len cap, .int .i64 f.len, u10, u11, u12, u13, u14, u15, u16, u17, u18, u19, u20, u21, u22, u23, u24, u25, u26, u27, u28, u29, u30, u31], defers := marksOf Ls } ∧ u10 = .int .i64 pre.len ∧ ChHead W n₀ D f a A cap Bc Bs l' J pre rest Ls W'

set_option maxRecDepth 100000 in
set_option maxHeartbeats 2000000 in
theorem chains1_seq (n₀ D : Nat) (fix : List UInt8 → List UInt8) : ∀ (m : Nat) (f : Forest) (a : List UInt8) (N n Bc Bs : Nat) (v : Value) (w : World), f.size < m → f.size + a.length ≤ 1000 → (∀ x ∈ chainsB a f, fix x = x) → BoxAt w n₀ D Bc v 99 → BoxAt w n₀ D Bs (.string (strOf a)) 9 → SliceIs w (· < n₀) v f → n₀ ≤ w.heap.size → f.size ≤ N → f.deep + 1 ≤ n →
    SeqR n 146 #[.pointer (some ⟨Bc, 0, none⟩), .pointer (some ⟨Bs, 0, none⟩)] (fun x : List UInt8 => #[.string (strOf (fix x))]) n₀ D (fun ys => ys = chainsB a f) (fun ys => ys <+: chainsB a f) N w := by
  intro m
  induction m with
  | zero => intro f a N n Bc Bs v w h; omega
  | succ m ih =>
    intro f a N n Bc Bs v w hm hs hfx hboxc hboxs hsl hn₀ hN hn l' J Jx W hbW hDW hJ hJx hY h0
    obtain ⟨A, cap, rfl, hl0⟩ := LeftC.start hsl
    have keepB : ∀ {Bx : Nat} {x : Value} {t : TypeId}, BoxAt w n₀ D Bx x t → BoxAt W n₀ D Bx x t := fun h => ⟨h.1, h.2.1, (hbW.block _ (Array.getElem?_eq_some_iff.1 h.2.2).1).trans h.2.2⟩
    have hc1 := keepB hboxc
    have hs1 := keepB hboxs
    have hn₀W : n₀ ≤ W.heap.size := Nat.le_trans hn₀ hbW.size
    have hg0 : W.grownBy (W.alloc (.cells #[.func (.yield l') #[] #[]] 181)) none := World.grownBy_alloc W _ none
    have H0 : Hid (ChHead W n₀ D f a A cap Bc Bs l' J .nil f [] (W.alloc (.cells #[.func (.yield l') #[] #[]] 181))) :=
      ⟨(hl0.below (hbW.mono hn₀)).below ((Below.refl _ W).alloc hn₀W _), hJ.alloc _ h0, (Below.refl _ W).alloc hn₀W _, by simp, ⟨.inr hDW, by decide, Row.new W _ _⟩, hc1.grown hg0 (fun r e => by cases e), hs1.grown hg0 (fun r e => by cases e), MarksIn.nil _ _ _⟩
    have c1 : (W.alloc (.cells #[.func (.yield l') #[] #[]] 181)).cell? ⟨Bc, 0, none⟩ = some (.slice A f.len cap) := H0.out.boxC.cell
    have HY : Hid _ := hY
    have HJ : Hid (OwnFrom W.heap.size J) := hJ
    have HJX : Hid (OwnFrom W.heap.size Jx) := hJx
    have HBW := Lib.hid hbW
    have hfl : f.len ≤ 1000 := by have := f.len_size; omega
    have IH := Lib.hid ih
    have HFX := Lib.hid hfx
    clear hY hJ hJx hbW ih hfx hboxc hboxs hsl hl0 keepB hc1 hs1 h0 hg0
    refine callsIn_of_wp_marks Tryz.func146 rfl trivial ?_ rfl
    simp only [Tryz.ntmps146, List.size_toArray, List.length_cons, List.length_nil, Nat.reduceAdd, Nat.reduceSub, Array.replicate_succ, Array.replicate_zero, List.push_toArray, List.append_toArray, List.nil_append, List.cons_append]
    gi_wp2
    refine wpIn_loop (ChInv W n₀ D f a A cap Bc Bs l' J) (fun a' _ => f.len - (intOf (a'.tmps.getD 10 undef)).toNat) ?_ ?_
    · exact ⟨.nil, f, [], _, _, _, _, _, _, _, _, _, _, _, _, _, _, _, _, _, _, _, _, _, _, _, _, _, rfl, rfl, H0.out⟩
    · rintro _ W1 ⟨pre, rest, Ls, u5, u6, u7, u10, u11, u12, u13, u14, u15, u16, u17, u18, u19, u20, u21, u22, u23, u24, u25, u26, u27, u28, u29, u30, u31, rfl, rfl, hH⟩
      clear H0 c1
      have HH := Lib.hid hH
      clear hH
      cases rest with
      | nil =>
        have HE := Lib.hid HH.out.left.done
        have hle : ¬ (pre.len < f.len) := by rw [HE.out]; omega
        gi_wp2
        exact marks_leave (lo := W.heap.size) (hi := W1.heap.size) (I := fun W' => J (chainsB a f) W') (fun X L hX hL hk => HJ.out.putObj _ hX hL hk rfl) rfl (fun X hX => ⟨⟨_, rfl⟩, .inl ⟨_, rfl, hX⟩⟩) Ls W1 HH.out.marks (by rw [HE.out]; exact HH.out.come)
      | cons c k r =>
        obtain ⟨hnext, hlt, hks, g, x, rfl, hg, c0, hu⟩ := HH.out.left.take
        obtain ⟨T, y, kv, rfl, hf, hkv⟩ := hu.facts
        obtain ⟨K, z, o, hmt, hen, hc⟩ := hf.calls
        have hnm := hf.name
        have HC := Lib.hid hc
        have HKV := Lib.hid hkv
        have HNX := Lib.hid hnext
        have cS : W1.cell? ⟨Bs, 0, none⟩ = some (.string (strOf a)) := HH.out.boxS.cell
        have hBs : Bs < W1.heap.size := (Array.getElem?_eq_some_iff.1 HH.out.boxS.2.2).1
        have hal : (strOf a).size ≤ 1000 := by unfold strOf; rw [bytes_size]; omega
        have hmx : Tryz.prog.follows .mixedOrders = true := by kernel_rfl
        have HX : Hid (strOf (a ++ [c]) = strOf a ++ ⟨#[c]⟩) := (bytes_cat a [c]).symm
        have hps : pre.size + (k.size + r.size + 1) = f.size := by rw [HH.out.left.1, Forest.app_size]; rfl
        have hpl := chainsB_len pre a
        have hkd : k.deep + 1 ≤ f.deep := by rw [HH.out.left.1]; exact Forest.deep_app pre c k r
        have HPF : Hid (chainsB a f = chainsB a pre ++ ((a ++ [c]) :: (chainsB (a ++ [c]) k ++ chainsB a r))) := by
          show _ = _
          conv => lhs; rw [HH.out.left.1, chainsB_app]
          rfl
        have HPN : Hid (chainsB a (pre.app (.cons c k .nil)) = chainsB a pre ++ [a ++ [c]] ++ chainsB (a ++ [c]) k) := by
          show _ = _
          rw [chainsB_app, chainsB_one]; simp
        have HLN : Hid ((pre.app (.cons c k .nil)).len = pre.len + 1) := by show _ = _; rw [Forest.app_len]; rfl
        have HH2 : Hid (ChHead W n₀ D f a (some ⟨g, 0, none⟩) cap Bc Bs l' J pre (.cons c k r) Ls (W1.alloc (.cells #[.string ⟨#[c]⟩] 284)).drew) := HH.out.later HJ.out (((Below.refl _ W1).alloc (Nat.le_refl _) _).drew) hn₀W
        have hyq := HY.out (chainsB a pre) (a ++ [c]) _ HH2.out.come (by rw [hpl]; omega) (by have := HH2.out.size; omega)
        rw [HFX.out (a ++ [c]) (by rw [HPF.out]; simp), HX.out] at hyq
        have HYQ := Lib.hid hyq
        have HNX2 : Hid (LeftC (W1.alloc (.cells #[.string ⟨#[c]⟩] 284)).drew n₀ f (some ⟨g, 0, none⟩) (pre.app (.cons c k .nil)) r) := HNX.out.below (((Below.refl _ W1).alloc (by have := HH.out.size; omega) _).drew)
        have HKV2 : Hid (SliceIs (W1.alloc (.cells #[.string ⟨#[c]⟩] 284)).drew (· < n₀) kv k) := HKV.out.below (((Below.refl _ W1).alloc (by have := HH.out.size; omega) _).drew)
        have cY : (W1.alloc (.cells #[.string ⟨#[c]⟩] 284)).drew.cell? ⟨W.heap.size, 0, none⟩ = some (.func (.yield l') #[] #[]) := HH2.out.boxY.cell
        have HPL := Lib.hid hpl
        clear hnext hf hkv hc hu hyq hpl
        gi_wp2_with fail
        first | gi_region_with_o ((refine ⟨trivial, (fun h => by simp [Fence.wide] at h), ?_⟩; gi_at_call 313; refine (callsIn_wide.2 (leafName_any c _)).mono ?_; rintro e w2 ⟨rfl, rfl⟩)) | fail
        all_goals (
          generalize (W1.alloc (.cells #[.string ⟨#[c]⟩] 284)).drew = W2 at *
          obtain ⟨fn, tmps, assign, body, hy, hR⟩ := yield_any (n - 1) HYQ.out
          gi_wp2_with fail
          refine ⟨fun h => by simp [Fence.wide] at h, ?_⟩
          refine hR.mono ?_
          rintro e W3 (⟨rfl, hJ3, hb3, hk3⟩ | ⟨rfl, hx3, hk3⟩)
          · have hz3 : W.heap.size + 1 ≤ W3.heap.size := Nat.le_trans HH2.out.size hk3.size
            have hL3 : LeftC W3 n₀ f (some ⟨g, 0, none⟩) (pre.app (.cons c k .nil)) r := HNX2.out.below hb3
            obtain ⟨A2, cap2, rfl, -⟩ := id HKV2.out
            have HL3 := Lib.hid hL3
            have HV3 := Lib.hid (HKV2.out.below hb3)
            have HJ3 := Lib.hid hJ3
            have HM3 := Lib.hid (HH2.out.marks.keep hk3 hDW)
            have HBY := Lib.hid (HH2.out.boxY.keep hb3 hk3)
            have HBC := Lib.hid (HH2.out.boxC.keep hb3 hk3)
            have HBS := Lib.hid (HH2.out.boxS.keep hb3 hk3)
            have HB3 := Lib.hid (HH2.out.low.trans hb3)
            have HZ23 : Hid (W2.heap.size ≤ W3.heap.size) := hk3.size
            clear hL3 hJ3 hb3 hk3 hR hy HH HH2 HNX HNX2 HKV HKV2 HYQ cY cS c0 hBs
            gi_wp2_with fail
            refine ⟨trivial, fun h => by simp [Fence.wide] at h, ?_⟩
            refine (callsIn_wide.2 (HC.out _)).mono ?_
            rintro e w4 ⟨rfl, rfl⟩
            gi_wp2_with fail
            refine ⟨trivial, fun h => by simp [Fence.wide] at h, ?_⟩
            refine (callsIn_wide.2 (chainsOf_any _ _ _ _ _)).mono ?_
            rintro e w5 ⟨rfl, rfl⟩
            gi_wp2
            have hz4 : (W3.alloc o).heap.size = W3.heap.size + 1 := by simp
            have hz5 : (((W3.alloc o).alloc (.cells #[.string (strOf a ++ ⟨#[c]⟩)] 9)).alloc (.cells #[.slice A2 k.len cap2] 99)).heap.size = W3.heap.size + 3 := by simp
            have HB5 : Hid (Below W3.heap.size W3 (((W3.alloc o).alloc (.cells #[.string (strOf a ++ ⟨#[c]⟩)] 9)).alloc (.cells #[.slice A2 k.len cap2] 99))) := (((Below.refl _ W3).alloc (Nat.le_refl _) _).alloc (by simp) _).alloc (by simp; omega) _
            have HR1 : Hid (Row (((W3.alloc o).alloc (.cells #[.string (strOf a ++ ⟨#[c]⟩)] 9)).alloc (.cells #[.slice A2 k.len cap2] 99)) (W3.heap.size + 1) 9 #[.string (strOf a ++ ⟨#[c]⟩)]) := by
              have := Row.new (W3.alloc o) 9 #[.string (strOf a ++ ⟨#[c]⟩)]
              rw [hz4] at this
              exact this.alloc _
            have HR2 : Hid (Row (((W3.alloc o).alloc (.cells #[.string (strOf a ++ ⟨#[c]⟩)] 9)).alloc (.cells #[.slice A2 k.len cap2] 99)) (W3.heap.size + 2) 99 #[.slice A2 k.len cap2]) := by
              have := Row.new ((W3.alloc o).alloc (.cells #[.string (strOf a ++ ⟨#[c]⟩)] 9)) 99 #[.slice A2 k.len cap2]
              rw [World.size_alloc, hz4] at this
              exact this
            clear hz4
            generalize ((W3.alloc o).alloc (.cells #[.string (strOf a ++ ⟨#[c]⟩)] 9)).alloc (.cells #[.slice A2 k.len cap2] 99) = W5 at *
            have HX5 : Hid (BoxAt W5 n₀ D (W3.heap.size + 2) (.slice A2 k.len cap2) 99) := ⟨.inr (by omega), by decide, HR2.out⟩
            have HS5 : Hid (BoxAt W5 n₀ D (W3.heap.size + 1) (.string (strOf (a ++ [c]))) 9) := ⟨.inr (by omega), by decide, by rw [HX.out]; exact HR1.out⟩
            have hg5 : W3.grownBy W5 none := grown_of_below HB5.out
            have HMID : Hid (ChMid W W3 n₀ D W5.heap.size f.len a (some ⟨g, 0, none⟩) cap Bc Bs l' Ls W5) :=
              ⟨HB5.out.mono (by omega), Nat.le_refl _, HBY.out.grown hg5 (fun r e => by cases e), HBC.out.grown hg5 (fun r e => by cases e), HBS.out.grown hg5 (fun r e => by cases e), (HM3.out.grown hg5 (B := W2.heap.size) (fun r e => by cases e) (Nat.le_refl _)).up (by have := HZ23.out; omega)⟩
            have HJ5 : Hid (J (chainsB a pre ++ [a ++ [c]]) W5) := HJ.out _ _ _ _ HJ3.out hg5 (fun r e => by cases e)
            have hseq := IH.out k (a ++ [c]) k.size (n - 1) (W3.heap.size + 2) (W3.heap.size + 1) (.slice A2 k.len cap2) W5 (by omega) (by simp; omega) (fun x hx => HFX.out x (by rw [HPF.out]; simp [hx])) HX5.out HS5.out (HV3.out.below (HB5.out.mono (by omega))) (by omega) (Nat.le_refl _) (by omega)
            have HPL' := HPL.out
            refine wpIn_rangeFunc_R (by omega) (gf := 146) (lb := #[.pointer (some ⟨W3.heap.size + 1 + 1, 0, none⟩), .pointer (some ⟨W3.heap.size + 1, 0, none⟩)]) rfl (enters_of Tryz.func146 (by kernel_rfl) rfl) hseq (by omega) (by omega) (Below.refl _ _) (fun _ => rfl)
              (fun ys W' => J (chainsB a pre ++ [a ++ [c]] ++ ys) W' ∧ ChMid W W3 n₀ D W5.heap.size f.len a (some ⟨g, 0, none⟩) cap Bc Bs l' Ls W')
              (fun c' ys W' => c' = .ret ∧ Jx (chainsB a pre ++ [a ++ [c]] ++ ys) W' ∧ MarksIn W.heap.size W5.heap.size W' Ls)
              (fun s X Y row hs hg hr => ⟨HJ.out _ X Y row hs.1 hg (fun r e => ⟨by have := (hr r e).1; omega, (hr r e).2⟩), hs.2.grown hg hr (by omega)⟩)
              (fun c' s X Y row hs hg hr => ⟨hs.1, HJX.out _ X Y row hs.2.1 hg (fun r e => ⟨by have := (hr r e).1; omega, (hr r e).2⟩), hs.2.2.grown hg (fun r e => (hr r e).1) (Nat.le_refl _)⟩)
              ⟨by rw [List.append_nil]; exact HJ5.out, HMID.out⟩
              (fun x => { tmps := #[.func (.yield l') #[] #[], .pointer (some ⟨Bc, 0, none⟩), .pointer (some ⟨Bs, 0, none⟩), .pointer (some ⟨W.heap.size, 0, none⟩), undef, .iface T y, .string (strOf a ++ ⟨#[c]⟩), .string (strOf (fix x)), .slice (some ⟨g, 0, none⟩) f.len cap, .int .i64 f.len, .int .i64 pre.len, .bool true, .pointer (some ⟨g, pre.len, none⟩), .iface T y, .string (strOf a), .iface T y, .string ⟨#[c]⟩, .string (strOf a ++ ⟨#[c]⟩), .func (.yield l') #[] #[], .string (strOf a ++ ⟨#[c]⟩), .bool true, .bool false, .string (strOf a ++ ⟨#[c]⟩), .iface T y, .slice A2 k.len cap2, .func (.func 146) #[] #[.pointer (some ⟨W3.heap.size + 1 + 1, 0, none⟩), .pointer (some ⟨W3.heap.size + 1, 0, none⟩)], .string (strOf (fix x)), u27, u28, u29, u30, u31], defers := [] }) ?assign ?body ?done ?stop
            case assign =>
              intro l2 x X K hK
              gi_wp2
              exact hK
            case body =>
              rintro l2 ys x X ⟨hJ6, hM6⟩ hlen hz
              have cY6 := hM6.boxY.cell
              obtain ⟨fn, tmps, assign, body, hy, hR⟩ := yield_any (n - 1 - 1 - 1) (HY.out (chainsB a pre ++ [a ++ [c]] ++ ys) x X hJ6 (by simp; omega) (by omega))
              gi_wp2
              refine ⟨fun h => by simp [Fence.wide] at h, ?_⟩
              refine (show RoundIn (Fence.wide.inRound l2) (n - 1 - 1 - 1) Tryz.prog l' fn tmps assign body X _ from hR).mono ?_
              rintro e X3 (⟨rfl, hJ7, hb7, hk7⟩ | ⟨rfl, hx7, hk7⟩)
              · gi_wp2
                exact ⟨hk7.mono (by omega), hb7, by rw [← List.append_assoc]; exact hJ7, hM6.keep hb7 hk7 hDW⟩
              · gi_wp2
                exact ⟨hk7.mono (by omega), rfl, by rw [← List.append_assoc]; exact hx7, hM6.marks.keep hk7 (Nat.le_refl _)⟩
            case done =>
              rintro L ys X hL rfl ⟨hJ6, hM6⟩ hK
              have HD : Hid (ChHead W n₀ D f a (some ⟨g, 0, none⟩) cap Bc Bs l' J (pre.app (.cons c k .nil)) r (L :: Ls) X) :=
                ⟨HL3.out.below hM6.low, by rw [HPN.out]; exact hJ6, HB3.out.trans hM6.low, by have := hM6.size; omega, hM6.boxY, hM6.boxC, hM6.boxS, (hM6.marks.cons hL (by omega) hK).up (Array.getElem?_eq_some_iff.1 hK).1⟩
              clear hJ6 hM6 hseq
              gi_wp2
              refine ⟨⟨_, r, L :: Ls, _, _, _, _, _, _, _, _, _, _, _, _, _, _, _, _, _, _, _, _, _, _, _, _, _, rfl, by rw [HLN.out]; go_num, HD.out⟩, ?_⟩
              simp [intOf]; omega
            case stop =>
              rintro L c' ys X hL hSp ⟨rfl, hx, hmk⟩ hK
              have HM6 := Lib.hid (hmk.cons hL (by omega) hK)
              have HX6 := Lib.hid hx
              have HSP := Lib.hid hSp
              clear hx hmk hSp hseq
              gi_wp2
              exact marks_leave (lo := W.heap.size) (hi := L + 1) (I := fun W' => Jx (chainsB a pre ++ [a ++ [c]] ++ ys) W') (fun X' L' hX' hL' hk' => HJX.out.putObj _ hX' hL' hk' rfl) rfl (fun X' hX' => ⟨⟨_, rfl⟩, .inr ⟨_, by
                obtain ⟨q, hq⟩ := HSP.out
                rw [HPF.out, ← hq]
                exact ⟨q ++ chainsB a r, by simp⟩, hX'⟩⟩) (L :: Ls) X HM6.out HX6.out
          · have HM3 := Lib.hid (HH2.out.marks.keep hk3 (Nat.le_refl _))
            have HX3 := Lib.hid hx3
            clear hx3 hk3 hR hy
            gi_wp2
            exact marks_leave (lo := W.heap.size) (hi := W2.heap.size) (I := fun W' => Jx (chainsB a pre ++ [a ++ [c]]) W') (fun X L hX hL hk => HJX.out.putObj _ hX hL hk rfl) rfl (fun X hX => ⟨⟨_, rfl⟩, .inr ⟨_, by rw [HPF.out]; exact ⟨chainsB (a ++ [c]) k ++ chainsB a r, by simp⟩, hX⟩⟩) Ls W3 HM3.out HX3.out)

end Go.Proofs.YtifkmehnikfihaaGreat
/- Chains gathered into a slice: the program's ChainsOf and CountCalls. -/
namespace Go.Proofs.YtifkmehnikfihaaGreat
open Go.RowKit Go.Shelf
attribute [local go_sem] Oper.semAt_some

def txt (x : List UInt8) : Value := .string (strOf x)
theorem row_grownT {W W' : World} {b : Nat} {t : TypeId} {cs : Array Value} {row : Option Nat} (h : Row W b t cs) (hg : W.grownBy W' row) {B : Nat} (hr : ∀ r, row = some r → B ≤ r ∧ ∃ o : Obj, W.heap[r]? = some o ∧ o.isCells = false) : Row W' b t cs :=
  (hg.block b h.lt (fun he => by
    obtain ⟨_, o, ho, hc⟩ := hr b he.symm
    have h' : W.heap[b]? = some (.cells cs t (0, 0)) := h
    rw [h'] at ho
    injection ho with ho
    subst ho
    cases hc)).trans h
theorem own_grownT {W W' : World} {base n : Nat} {e : TypeId} {v : Value} {xs : List Value} {row : Option Nat} (h : W.ownsRow base e 1 v n xs) (hg : W.grownBy W' row) (hr : ∀ r, row = some r → ∃ o : Obj, W.heap[r]? = some o ∧ o.isCells = false) : W'.ownsRow base e 1 v n xs :=
  own_keep h fun g hb => hg.block g ((h.lt g hb).2) (fun he => by
    obtain ⟨o, ho, hc⟩ := hr g he.symm
    rcases h.2 with ⟨rfl, _⟩ | ⟨g', cap, cur, rfl, _, hh, _⟩
    · simp [Value.ownBlock] at hb
    · have : g' = g := by simpa [Value.ownBlock] using hb
      subst this
      rw [hh] at ho
      injection ho with ho
      subst ho
      cases hc)

/-- What is firm stays. -/
def SteadyT (W W' : World) : Prop := ∀ (k : Nat) (o : Obj), W.heap[k]? = some o → Firm o → W'.heap[k]? = some o

/-- One node's pointer is put behind those that were gathered: only a row of two cells or more is written in place. -/
theorem run_append_firmT (w : World) (ty base n : Nat) (v : Value) (xs : List Value) (hown : w.ownsRow base 9 1 v n xs) (h0 : n = 0 → v = .slice none 0 0) (ad : Addr) (u : Value)
    (hnews : ∀ j y, [u][j]? = some y → w.cell? (ad.add j) = some y) (h1 : ∀ y ∈ [u], y.oneCell' = true) (hn : n ≤ 1000) (hbase : base ≤ w.heap.size) :
    ∃ g cap w', (Builtin.append_ #[50, 50] ty #[v, .slice (some ad) 1 1]).run Tryz.prog w = .ok (.slice (some ⟨g, 0, none⟩) (n + 1) cap) w' ∧
      w'.ownsRow base 9 1 (.slice (some ⟨g, 0, none⟩) (n + 1) cap) (n + 1) (xs ++ [u]) ∧ w.grownBy w' v.ownBlock ∧ SteadyT w w' := by
  obtain ⟨i0, hi, hz0, hz1, hz2⟩ := info_parts info_str
  obtain ⟨v', w', hr, h2, h3, -, -⟩ := run_append_own_at (P := Tryz.prog) w base 50 ty 9 i0 (.string ByteArray.empty) 1 16 Tryz.underlying50 hi hz0 hz1 hz2 rfl (by decide) v n xs hown ad 1 1 [u] rfl hnews h1 (by unfold maxLen; omega) (by omega) hbase
  obtain ⟨g, cap, rfl⟩ := own_form h2 (by omega)
  refine ⟨g, cap, w', hr, h2, h3, ?_⟩
  rcases hown.2 with ⟨rfl, rfl⟩ | ⟨g', cap', cur, rfl, hbg, hg, hnc, hcm, hcs, htake⟩
  · have hr2 := run_append_nil (P := Tryz.prog) w 50 ty 9 i0 (.string ByteArray.empty) Tryz.underlying50 hi hz0 ad 1 1 [u] (by rw [hz1]; rfl) hnews (by decide) (by decide) (by rw [hz2]; decide)
    rw [hr] at hr2
    injection hr2 with _ hw
    subst hw
    exact fun k o hk _ => (Below.heap_alloc w.drew _ k (Array.getElem?_eq_some_iff.1 hk).1).trans hk
  · by_cases hc : n + 1 ≤ cap'
    · refine fun k o hk hf => (h3.block k (Array.getElem?_eq_some_iff.1 hk).1 (fun he => ?_)).trans hk
      have he' : k = g' := by simpa [Value.ownBlock] using he
      subst he'
      rw [hg] at hk
      injection hk with hk
      have := (hf cur _ _ hk.symm).2.resolve_right (by decide)
      have hn1 : 0 < n := Nat.pos_of_ne_zero fun e => by have := h0 e; cases this
      omega
    · obtain ⟨v2, w2, hr2, -, hg2⟩ := run_append_arg_grows (P := Tryz.prog) w 50 ty 9 i0 (.string ByteArray.empty) 1 16 Tryz.underlying50 hi hz0 hz1 hz2 rfl (by decide) ⟨g', 0, none⟩ n cap' xs hown.1
        (fun j y hj => by
          have h5 : w.cell? ⟨g', 0 + j, none⟩ = some y := by
            rw [Nat.zero_add, hown.cellAt j (by have := (List.getElem?_eq_some_iff.1 hj).1; have := hown.1; omega)]
            exact hj
          rw [WideShapes.add_plain]
          exact h5) ad 1 1 [u] rfl hnews (by omega) (by unfold maxLen; omega) (by omega)
      rw [hr] at hr2
      injection hr2 with _ hw
      subst hw
      exact fun k o hk _ => (hg2.block k (Array.getElem?_eq_some_iff.1 hk).1 (fun he => by cases he)).trans hk

theorem wpListIn_append_firmT {F : Fence} {nF : Nat} {w : World} {ops : Array Oper} {rest : List Oper} {o : Oper} {a : Act} {Q : Exit → Act → World → Prop} (hgd : o.guard = none) (s x : Operand)
    (ho : o.op = .call { callee := .builtin .append, args := #[s, x], argTypes := #[50, 50] })
    (base n : Nat) (v : Value) (xs : List Value) (hs : a.eval s = v) (hown : w.ownsRow base 9 1 v n xs) (h0 : n = 0 → v = .slice none 0 0) (ad : Addr) (u : Value) (hx : a.eval x = .slice (some ad) 1 1)
    (hnews : ∀ j y, [u][j]? = some y → w.cell? (ad.add j) = some y) (h1 : ∀ y ∈ [u], y.oneCell' = true) (hn : n ≤ 1000) (hbase : base ≤ w.heap.size)
    (h : ∀ g cap w', w'.ownsRow base 9 1 (.slice (some ⟨g, 0, none⟩) (n + 1) cap) (n + 1) (xs ++ [u]) → w.grownBy w' v.ownBlock → SteadyT w w' → wpListIn F nF Tryz.prog ops Q rest (a.put o.dst (.slice (some ⟨g, 0, none⟩) (n + 1) cap)) w') :
    wpListIn F nF Tryz.prog ops Q (o :: rest) a w := by
  refine wpListIn_plain hgd fun K hK => ?_
  obtain ⟨g, cap, w', hr, h2, h3, h4⟩ := run_append_firmT w o.type base n v xs hown h0 ad u hnews h1 hn hbase
  unfold Oper.wpIn
  refine ⟨by simp [Oper.about, ho, resolve, Target.leads, Sem.run_pure], ?_⟩
  rw [Oper.semAt_plain F _ _ (by rw [ho]; intro c hc'; cases hc')]
  simp [execOp, ho, resolve, invoke, builtin, hs, hx, hr, Result.andThen]
  exact hK _ _ (h g cap w' h2 h3 h4)

/-- What was gathered: the box holds a slice of the call's own. -/
structure GathT (w : World) (T : List (List UInt8)) (W : World) : Prop where
  ex : ∃ v, Row W w.heap.size 50 #[v] ∧ W.ownsRow (w.heap.size + 1) 9 1 v T.length (T.map txt) ∧ (T.length = 0 → v = .slice none 0 0)
  below : Below w.heap.size w W
theorem GathT.grown {w W W' : World} {T : List (List UInt8)} {B : Nat} {row : Option Nat} (h : GathT w T W) (hg : W.grownBy W' row) (hB : w.heap.size ≤ B) (hr : ∀ r, row = some r → B ≤ r ∧ ∃ o : Obj, W.heap[r]? = some o ∧ o.isCells = false) : GathT w T W' := by
  obtain ⟨⟨v, h1, h2, h3⟩, hb⟩ := h
  exact ⟨⟨v, row_grownT h1 hg hr, own_grownT h2 hg (fun r e => (hr r e).2), h3⟩, hb.grown hg hb.size (fun k e => by have := (hr k e).1; omega)⟩

set_option maxRecDepth 100000 in
set_option maxHeartbeats 2000000 in
theorem appendSeq_anyT {gf : Nat} {lb : Array Value} (w : World) (S Sp : List (List UInt8) → Prop) (N : Nat) (hN : N ≤ 1000) (heg : ∀ args w, (callFunc gf args).run Tryz.prog w = .ok (.enter gf args) w)
    (hseq : SeqR 19 gf lb (fun x : List UInt8 => #[.string (strOf x)]) w.heap.size (w.heap.size + 3) S Sp N w) :
    Calls Tryz.prog 230 #[.slice none 0 0, .func (.func gf) #[] lb] w fun e w' => (∃ xs v, S xs ∧ e = .returned v ∧ w'.ownsRow (w.heap.size + 1) 9 1 v xs.length (xs.map txt)) ∧ Below w.heap.size w w' := by
  refine (callsIn_wide (n := 20)).1 ?_
  refine callsIn_of_wp_marks Tryz.func230 rfl trivial ?_ rfl
  simp only [Tryz.ntmps230, List.size_toArray, List.length_cons, List.length_nil, Nat.reduceAdd, Nat.reduceSub, Array.replicate_succ, Array.replicate_zero, List.push_toArray, List.append_toArray, List.nil_append, List.cons_append]
  gi_wp2
  have hB0 : Below w.heap.size w (w.alloc (.cells #[.slice none 0 0] 50)) := (Below.refl _ w).alloc (Nat.le_refl _) _
  have hI0 : GathT w [] (w.alloc (.cells #[.slice none 0 0] 50)) := ⟨⟨.slice none 0 0, Row.new _ _ _, World.ownsRow_nil _ _ _ _, fun _ => rfl⟩, hB0⟩
  refine wpIn_rangeFunc_R (by omega) (gf := gf) (lb := lb) rfl heg hseq (by simp) (by simp) hB0 (fun _ => rfl)
    (fun pre W => GathT w pre W)
    (fun _ _ _ => False)
    (fun _ _ _ _ h hg hr => h.grown hg (by simp) hr)
    (fun _ _ _ _ _ hs _ _ => hs)
    hI0
    (fun x => { tmps := #[.slice none 0 0, .func (.func gf) #[] lb, .pointer (some ⟨w.heap.size, 0, none⟩), undef, .slice none 0 0, .string (strOf x), .func (.func gf) #[] lb, .string (strOf x), undef, undef, undef, undef, undef], defers := [] }) ?assign ?body ?done ?stop
  case assign =>
    intro l x W K hK
    gi_wp2
    exact hK
  case body =>
    rintro l' pre x W ⟨⟨v, hrow, hown, hv0⟩, hB⟩ hlen hz
    have c1 : W.cell? ⟨w.heap.size, 0, none⟩ = some v := hrow.cell 0
    have hz' : w.heap.size + 3 ≤ W.heap.size := by simpa using hz
    have HR := Lib.hid hrow
    have HO := Lib.hid hown
    have HV := Lib.hid hv0
    have HB := Lib.hid hB
    clear hrow hown hv0 hB hz
    have hbx : w.heap.size < W.heap.size := by omega
    gi_wp2_with (gi_at_builtin; refine wpListIn_append_firmT rfl _ _ rfl (w.heap.size + 1) _ _ _ rfl (own_grownT HO.out (World.grownBy_alloc W _ none) (fun r e => by cases e)) HV.out ⟨W.heap.size, 0, none⟩ (.string (strOf x)) rfl (cell_one_new _ _ _) (by simp [Value.oneCell']) (by omega) (by simp; omega) ?_; intro g cap w1 hown1 hgrow hst; have hrow1 : Row w1 w.heap.size 50 #[v] := (hgrow.block _ (HR.out.alloc _).lt (fun he => own_ne HO.out HR.out (by decide) he.symm)).trans (HR.out.alloc _); have d1 : w1.cell? ⟨w.heap.size, 0, none⟩ = some v := hrow1.cell 0; have z1 : w1.frozen? ⟨w.heap.size, 0, none⟩ = false := hrow1.free 0; have HR1 := Lib.hid hrow1; have HO1 := Lib.hid hown1; have HS := Lib.hid hst; have HG := Lib.hid hgrow; clear hrow1 hown1 hst hgrow)
    have hsz : W.heap.size + 1 ≤ w1.heap.size := by have := HG.out.size; simpa using this
    have e2 : (pre ++ [x]).map txt = pre.map txt ++ [.string (strOf x)] := by rw [List.map_append]; rfl
    refine ⟨⟨by simp; omega, fun k o hk ho hf => ?_⟩, ?_, ⟨⟨_, HR1.out.put 0 _, ?_, ?_⟩, ?_⟩⟩
    · have hk' : w.heap.size + 1 ≤ k := by simp at hk; omega
      have h1 := HS.out k o ((Below.heap_alloc W _ k (Array.getElem?_eq_some_iff.1 ho).1).trans ho) hf
      exact (Below.heap_setCell w1 _ _ k (by show k ≠ w.heap.size; omega)).trans h1
    · exact (((Below.refl w.heap.size W).alloc (by omega) _).grown HG.out (by simp; omega) (fun k e => by have := (HO.out.lt k e).1; omega)).setCell (Nat.le_refl _) _
    · have h5 := HO1.out
      rw [e2, List.length_append]
      exact own_set h5 HR1.out (by decide) 0 _
    · rw [List.length_append]
      intro h; simp at h
    · exact (((HB.out.alloc HB.out.size _)).grown HG.out (by simp; omega) (fun k e => by have := (HO.out.lt k e).1; omega)).setCell (Nat.le_refl _) _
  case done =>
    rintro D ys W hD hS hI hK
    obtain ⟨⟨v, hrow, hown, -⟩, hB⟩ := hI
    have c1 : W.cell? ⟨w.heap.size, 0, none⟩ = some v := hrow.cell 0
    have HO := Lib.hid hown
    have HB := Lib.hid hB
    clear hrow hown hB
    gi_wp2
    refine ⟨by simp, .inl ⟨_, _, rfl, run_takeDeferred hK, ?_⟩⟩
    refine ⟨_, results_tmp rfl _ _ _, ⟨ys, v, hS, rfl, ?_⟩, HB.out.trans (belowK_b (w := w) (Nat.le_refl _) W D _ _ (by simp at hD; omega) hK rfl rfl)⟩
    exact own_grownT HO.out (grownBy_putObj' W D _) (fun r e => by cases e; exact ⟨_, hK, rfl⟩)
  case stop =>
    rintro D c pre W _ _ h _
    exact h.elim

set_option maxRecDepth 100000 in
set_option maxHeartbeats 400000 in
theorem collect_anyT {gf : Nat} {lb : Array Value} (w : World) (S Sp : List (List UInt8) → Prop) (N : Nat) (hN : N ≤ 1000) (heg : ∀ args w, (callFunc gf args).run Tryz.prog w = .ok (.enter gf args) w)
    (hseq : SeqR 19 gf lb (fun x : List UInt8 => #[.string (strOf x)]) w.heap.size (w.heap.size + 3) S Sp N w) :
    Calls Tryz.prog 179 #[.func (.func gf) #[] lb] w fun e w' => (∃ xs v, S xs ∧ e = .returned v ∧ w'.ownsRow (w.heap.size + 1) 9 1 v xs.length (xs.map txt)) ∧ Below w.heap.size w w' := by
  have HC := Lib.hid (appendSeq_anyT w S Sp N hN heg hseq)
  clear hseq heg
  go_enter Tryz.func179, Tryz.ntmps179
  go_wp2_with fail
  refine HC.out.mono ?_
  rintro e w1 ⟨⟨xs, v, hS, rfl, hown⟩, hb⟩
  have HO := Lib.hid hown
  clear hown
  go_wp2
  go_ret
  exact ⟨⟨xs, v, hS, rfl, HO.out⟩, hb⟩

end Go.Proofs.YtifkmehnikfihaaGreat
