/- Joined: Pp Fy. -/
import Derived.Test.YteokbgfiokbojaaGreatU13
/- The path of a node, yielded by an iterator that calls itself. -/
namespace Go.Proofs.YteokbgfiokbojaaGreat
open Go.RowKit Go.Shelf
attribute [local go_sem] Oper.semAt_some

theorem yield_any {m : Nat} (m' : Nat) {P : Program} {l : Nat} {args : Array Value} {W : World} {R : Ending → World → Prop} (h : YieldAt Fence.wide m P l args W R) : YieldAt Fence.wide m' P l args W R := by
  obtain ⟨fn, tmps, assign, body, hy, hR⟩ := h
  exact ⟨fn, tmps, assign, body, hy, ⟨hR.1, fun c cs _ => hR.2 c cs (fun d h => by simp [Fence.wide] at h)⟩⟩

/-- From the root down to a segment, by index. -/
def rootPath (l : List Seg) : Nat → Nat → List Nat
  | 0, _ => []
  | f + 1, i => (if parAt l i < 0 then [] else rootPath l f (parAt l i).toNat) ++ [i]
theorem rootPath_len (l : List Seg) : ∀ f i, (rootPath l f i).length ≤ f
  | 0, _ => Nat.le_refl 0
  | f + 1, i => by
    unfold rootPath
    have := rootPath_len l f (parAt l i).toNat
    split <;> simp <;> omega
theorem rootPath_lt {l : List Seg} (hd : Down l l.length) : ∀ f i, i < l.length → ∀ j ∈ rootPath l f i, j < l.length
  | 0, _, _, j, hj => by simp [rootPath] at hj
  | f + 1, i, hi, j, hj => by
    unfold rootPath at hj
    have h1 := hd i hi
    rcases List.mem_append.1 hj with h | h
    · split at h
      · simp at h
      · exact rootPath_lt hd f _ (by omega) j h
    · simp at h; omega
theorem rootPath_chain {l : List Seg} (hd : Down l l.length) : ∀ f i, i < l.length → i < f → (chain l f (i : Int)).reverse = (rootPath l f i).map (fun j : Nat => (j : Int))
  | 0, i, _, h => absurd h (by omega)
  | f + 1, i, hi, hf => by
    have h1 := hd i hi
    unfold chain rootPath
    rw [if_neg (by omega), Int.toNat_natCast, List.reverse_cons, List.map_append]
    congr 1
    by_cases hp : parAt l i < 0
    · rw [if_pos hp]
      cases f with
      | zero => rfl
      | succ f => simp [chain, hp]
    · rw [if_neg hp, ← rootPath_chain hd f _ (by omega) (by omega), Int.toNat_of_nonneg (by omega)]

set_option maxRecDepth 100000 in
set_option maxHeartbeats 400000 in
theorem path_any (p : Option Addr) (w : World) :
    Calls Tryz.prog 116 #[.pointer p] w fun e w' => e = .returned (.func (.func 128) #[] #[.pointer (some ⟨w.heap.size, 0, none⟩)]) ∧ w' = w.alloc (.cells #[.pointer p] 92) := by
  go_enter Tryz.func116, Tryz.ntmps116
  go_wp2
  go_ret
  exact ⟨rfl, rfl⟩

/-- What an iterator reads of the nodes. -/
def Linked (w : World) (n₀ : Nat) (l : List Seg) (nb : Nat → Nat) : Prop := ∀ j, j < l.length → nb j < n₀ ∧ w.cell? ⟨nb j, 2, none⟩ = some (.pointer (parPtr l nb j))
theorem Linked.below {w w' : World} {n₀ : Nat} {l : List Seg} {nb : Nat → Nat} (h : Linked w n₀ l nb) (hb : Below n₀ w w') : Linked w' n₀ l nb := fun j hj => ⟨(h j hj).1, (hb.cell (p := ⟨nb j, 2, none⟩) (h j hj).1).trans (h j hj).2⟩
/-- A box of one cell, kept by every round that goes on. -/
def BoxAt (W : World) (n₀ D Bs : Nat) (v : Value) (t : TypeId) : Prop := (Bs < n₀ ∨ D ≤ Bs) ∧ t ≠ 5 ∧ W.heap[Bs]? = some (.cells #[v] t (0, 0))
theorem BoxAt.cell {W : World} {n₀ D Bs : Nat} {v : Value} {t : TypeId} (h : BoxAt W n₀ D Bs v t) : W.cell? ⟨Bs, 0, none⟩ = some v := Row.cell (h.2.2 : Row W Bs t #[v]) 0
theorem BoxAt.keep {W W' : World} {n₀ D Bs : Nat} {v : Value} {t : TypeId} (h : BoxAt W n₀ D Bs v t) (hb : Below n₀ W W') (hk : KeepsN D W W') : BoxAt W' n₀ D Bs v t := by
  obtain ⟨h1, h2, h3⟩ := h
  refine ⟨h1, h2, ?_⟩
  rcases h1 with h1 | h1
  · exact (hb.block Bs h1).trans h3
  · exact hk.same Bs _ h1 h3 (fun c t' fz he => by injection he with hc ht; subst hc; subst ht; exact ⟨h2, .inl (Nat.le_refl 1)⟩)
theorem BoxAt.grown {W W' : World} {n₀ D Bs : Nat} {v : Value} {t : TypeId} (h : BoxAt W n₀ D Bs v t) {row : Option Nat} (hg : W.grownBy W' row) (hr : ∀ r, row = some r → ∃ o : Obj, W.heap[r]? = some o ∧ o.isCells = false) : BoxAt W' n₀ D Bs v t :=
  ⟨h.1, h.2.1, (hg.block Bs (Array.getElem?_eq_some_iff.1 h.2.2).1 (fun he => by
    obtain ⟨o, ho, hc⟩ := hr Bs he.symm
    rw [h.2.2] at ho
    injection ho with ho
    subst ho
    cases hc)).trans h.2.2⟩

set_option maxRecDepth 100000 in
set_option maxHeartbeats 2000000 in
theorem path1_seq (l : List Seg) (nb : Nat → Nat) (n₀ D N : Nat) (hdn : Down l l.length) : ∀ (f i : Nat), i < f → ∀ (_ : i < l.length) (n Bs : Nat) (w : World), BoxAt w n₀ D Bs (.pointer (some ⟨nb i, 0, none⟩)) 92 → Linked w n₀ l nb → n₀ ≤ w.heap.size → (rootPath l f i).length ≤ N → f + 1 ≤ n →
    SeqR n 128 #[.pointer (some ⟨Bs, 0, none⟩)] (fun x : Ix l => #[.pointer (some ⟨nb x.1, 0, none⟩)]) n₀ D (fun ys => ys.map (·.1) = rootPath l f i) (fun ys => ys.map (·.1) <+: rootPath l f i) N w := by
  intro f
  induction f with
  | zero => intro i hi; omega
  | succ f ih =>
    intro i hif hi n Bs w hbox hlk hn₀ hN hn l' J Jx W hbW hDW hJ hJx hY h0
    have hbox1 : BoxAt W n₀ D Bs (.pointer (some ⟨nb i, 0, none⟩)) 92 := by
      refine ⟨hbox.1, hbox.2.1, (hbW.block Bs ?_).trans hbox.2.2⟩
      exact (Array.getElem?_eq_some_iff.1 hbox.2.2).1
    have hlk1 : Linked W n₀ l nb := hlk.below (hbW.mono hn₀)
    have hBs : Bs < W.heap.size := (Array.getElem?_eq_some_iff.1 hbox1.2.2).1
    have hnb : nb i < W.heap.size := Nat.lt_of_lt_of_le (hlk1 i hi).1 (Nat.le_trans hn₀ hbW.size)
    have c1 := hbox1.cell
    have c2 := (hlk1 i hi).2
    by_cases hp : parAt l i < 0
    · have hpp : parPtr l nb i = none := if_pos hp
      have HR : Hid (rootPath l (f + 1) i = [i]) := by
        show _ = _
        unfold rootPath
        rw [if_pos hp]; rfl
      rw [hpp] at c2
      clear hpp
      obtain ⟨fn, tmps, assign, body, hy, hR⟩ := hY [] ⟨i, hi⟩ (W.alloc (.cells #[.func (.yield l') #[] #[]] 152)) (hJ.alloc _ h0) (by rw [HR.out] at hN; simp at hN ⊢; omega) (by simp)
      dsimp only at hy
      refine callsIn_of_wp_marks Tryz.func128 rfl trivial ?_ rfl
      simp only [Tryz.ntmps128, List.size_toArray, List.length_cons, List.length_nil, Nat.reduceAdd, Nat.reduceSub, Array.replicate_succ, Array.replicate_zero, List.push_toArray, List.append_toArray, List.nil_append, List.cons_append]
      gi_wp2
      refine ⟨fun h => by simp [Fence.wide] at h, ?_⟩
      refine hR.mono ?_
      rintro e W3 (⟨rfl, hJ3, _⟩ | ⟨rfl, hx3, _⟩)
      · gi_wp2
        refine ⟨_, results_none rfl _ _ _, ⟨_, rfl⟩, .inl ⟨_, ?_, hJ3⟩⟩
        rw [HR.out]; rfl
      · gi_wp2
        refine ⟨_, results_none rfl _ _ _, ⟨_, rfl⟩, .inr ⟨_, ?_, hx3⟩⟩
        rw [HR.out]; exact List.prefix_refl _
    · obtain ⟨p, hpe⟩ := Int.eq_ofNat_of_zero_le (show 0 ≤ parAt l i by omega)
      have hdi := hdn i hi
      have hpi : p < i := by omega
      have hpl : p < l.length := by omega
      have hpp : parPtr l nb i = some ⟨nb p, 0, none⟩ := by
        unfold parPtr
        rw [if_neg hp, hpe, Int.toNat_natCast]
      have HR : Hid (rootPath l (f + 1) i = rootPath l f p ++ [i]) := by
        show _ = _
        conv => lhs; unfold rootPath
        rw [if_neg hp, hpe, Int.toNat_natCast]
      rw [hpp] at c2
      clear hpp hdi hpe
      refine callsIn_of_wp_marks Tryz.func128 rfl trivial ?_ rfl
      simp only [Tryz.ntmps128, List.size_toArray, List.length_cons, List.length_nil, Nat.reduceAdd, Nat.reduceSub, Array.replicate_succ, Array.replicate_zero, List.push_toArray, List.append_toArray, List.nil_append, List.cons_append]
      gi_wp2
      refine ⟨trivial, fun h => by simp [Fence.wide] at h, ?_⟩
      refine (callsIn_wide.2 (path_any _ _)).mono ?_
      rintro e w' ⟨rfl, rfl⟩
      gi_wp2
      have hY0 : Row ((W.alloc (.cells #[.func (.yield l') #[] #[]] 152)).alloc (.cells #[.pointer (some ⟨nb p, 0, none⟩)] 92)) W.heap.size 152 #[.func (.yield l') #[] #[]] := (Row.new W _ _).alloc _
      have hP0 : Row ((W.alloc (.cells #[.func (.yield l') #[] #[]] 152)).alloc (.cells #[.pointer (some ⟨nb p, 0, none⟩)] 92)) (W.heap.size + 1) 92 #[.pointer (some ⟨nb p, 0, none⟩)] := by
        have := Row.new (W.alloc (.cells #[.func (.yield l') #[] #[]] 152)) 92 #[.pointer (some ⟨nb p, 0, none⟩)]
        rw [World.size_alloc] at this
        exact this
      have hn₀W : n₀ ≤ W.heap.size := Nat.le_trans hn₀ hbW.size
      have hB0 : Below n₀ W ((W.alloc (.cells #[.func (.yield l') #[] #[]] 152)).alloc (.cells #[.pointer (some ⟨nb p, 0, none⟩)] 92)) := ((Below.refl _ W).alloc hn₀W _).alloc (by simp; omega) _
      have hX0 : BoxAt ((W.alloc (.cells #[.func (.yield l') #[] #[]] 152)).alloc (.cells #[.pointer (some ⟨nb p, 0, none⟩)] 92)) n₀ D Bs (.pointer (some ⟨nb i, 0, none⟩)) 92 :=
        (hbox1.grown (World.grownBy_alloc W _ none) (fun r e => by cases e)).grown (World.grownBy_alloc _ _ none) (fun r e => by cases e)
      have hlenR : (rootPath l f p).length + 1 ≤ N := by
        have h1 := congrArg List.length HR.out
        rw [List.length_append] at h1
        simp at h1
        omega
      refine wpIn_rangeFunc_R (by omega) (gf := 128) (lb := #[.pointer (some ⟨W.heap.size + 1, 0, none⟩)]) rfl (enters_of Tryz.func128 (by kernel_rfl) rfl)
        (ih p (by omega) hpl (n - 1) (W.heap.size + 1) _ ⟨.inr (by omega), by decide, hP0⟩ (hlk1.below hB0) (by simp; omega) (by omega) (by omega)) (by simp; omega) (by simp; omega) (Below.refl _ _) (fun _ => rfl)
        (fun pre W' => (J pre W' ∧ Below n₀ W W') ∧ (BoxAt W' n₀ D W.heap.size (.func (.yield l') #[] #[]) 152 ∧ BoxAt W' n₀ D Bs (.pointer (some ⟨nb i, 0, none⟩)) 92) ∧ W.heap.size + 2 ≤ W'.heap.size)
        (fun c pre W' => c = .ret ∧ Jx pre W')
        (fun s A B row hs hg hr => ⟨⟨hJ s A B row hs.1.1 hg (fun r e => ⟨by have := (hr r e).1; simp at this; omega, (hr r e).2⟩), ownFrom_below (B := W.heap.size) hn₀W (by omega) s A B row hs.1.2 hg (fun r e => ⟨by have := (hr r e).1; simp at this; omega, (hr r e).2⟩)⟩,
          ⟨hs.2.1.1.grown hg (fun r e => (hr r e).2), hs.2.1.2.grown hg (fun r e => (hr r e).2)⟩, Nat.le_trans hs.2.2 hg.size⟩)
        (fun c s A B row hs hg hr => ⟨hs.1, hJx s A B row hs.2 hg (fun r e => ⟨by have := (hr r e).1; simp at this; omega, (hr r e).2⟩)⟩)
        ⟨⟨hJ.alloc _ (hJ.alloc _ h0), hB0⟩, ⟨⟨.inr hDW, by decide, hY0⟩, hX0⟩, by simp⟩
        (fun x => { tmps := #[.func (.yield l') #[] #[], .pointer (some ⟨Bs, 0, none⟩), .pointer (some ⟨W.heap.size, 0, none⟩), .pointer (some ⟨nb x.1, 0, none⟩), .pointer (some ⟨nb i, 0, none⟩), .pointer (some ⟨nb i, 0, none⟩), .pointer (some ⟨nb i, 2, none⟩), .pointer (some ⟨nb p, 0, none⟩), .bool true, .pointer (some ⟨nb i, 0, none⟩), .pointer (some ⟨nb i, 0, none⟩), .pointer (some ⟨nb i, 2, none⟩), .pointer (some ⟨nb p, 0, none⟩), .func (.func 128) #[] #[.pointer (some ⟨W.heap.size + 1, 0, none⟩)], .pointer (some ⟨nb x.1, 0, none⟩), undef, undef, undef, undef, undef, undef, undef], defers := [] }) ?assign ?body ?done ?stop
      case assign =>
        intro l2 x W2 K hK
        gi_wp2
        exact hK
      case body =>
        rintro l2 pre x W2 ⟨⟨hJ2, hB2⟩, ⟨hy2, hx2⟩, hz2⟩ hlen hz
        have cy := hy2.cell
        obtain ⟨fn, tmps, assign, body, hy, hR⟩ := yield_any (n - 1 - 1 - 1) (hY pre x W2 hJ2 hlen (by omega))
        gi_wp2
        refine ⟨fun h => by simp [Fence.wide] at h, ?_⟩
        refine (show RoundIn (Fence.wide.inRound l2) (n - 1 - 1 - 1) Tryz.prog l' fn tmps assign body W2 _ from hR).mono ?_
        rintro e W3 (⟨rfl, hJ3, hb3, hk3⟩ | ⟨rfl, hx3, hk3⟩)
        · gi_wp2
          exact ⟨hk3.mono (by simp; omega), hb3, ⟨⟨hJ3, hB2.trans hb3⟩, ⟨hy2.keep hb3 hk3, hx2.keep hb3 hk3⟩, Nat.le_trans hz2 hk3.size⟩⟩
        · gi_wp2
          exact ⟨hk3.mono (by simp; omega), rfl, hx3⟩
      case done =>
        rintro L ys W2 hL hS ⟨⟨hJ2, hB2⟩, ⟨hy2, hx2⟩, hz2⟩ hK
        have cy := hy2.cell
        have cx := hx2.cell
        have hlen : ys.length < N := by
          have h1 := congrArg List.length hS
          rw [List.length_map] at h1
          omega
        obtain ⟨fn, tmps, assign, body, hy, hR⟩ := hY ys ⟨i, hi⟩ W2 hJ2 hlen (by omega)
        dsimp only at hy
        have hLz : W.heap.size ≤ L := by simp at hL; omega
        gi_wp2
        refine ⟨fun h => by simp [Fence.wide] at h, ?_⟩
        refine hR.mono ?_
        rintro e W3 (⟨rfl, hJ3, hb3, hk3⟩ | ⟨rfl, hx3, hk3⟩)
        · have hK3 := hk3.same L _ (by omega) hK (fun c t fz he => by cases he)
          gi_wp2
          refine ⟨by simp, .inl ⟨_, _, rfl, run_takeDeferred hK3, ?_⟩⟩
          refine ⟨_, results_none rfl _ _ _, ⟨_, rfl⟩, .inl ⟨ys ++ [⟨i, hi⟩], ?_, hJ.putObj _ hJ3 hLz hK3 rfl⟩⟩
          rw [HR.out, List.map_append, hS]; rfl
        · have hK3 := hk3.same L _ hLz hK (fun c t fz he => by cases he)
          gi_wp2
          refine ⟨by simp, .inl ⟨_, _, rfl, run_takeDeferred hK3, ?_⟩⟩
          refine ⟨_, results_none rfl _ _ _, ⟨_, rfl⟩, .inr ⟨ys ++ [⟨i, hi⟩], ?_, hJx.putObj _ hx3 hLz hK3 rfl⟩⟩
          rw [HR.out, List.map_append, hS]; exact List.prefix_refl _
      case stop =>
        rintro L c pre W2 hL hSp ⟨rfl, hx⟩ hK
        gi_wp2
        refine ⟨by simp, .inl ⟨_, _, rfl, run_takeDeferred hK, ?_⟩⟩
        refine ⟨_, results_none rfl _ _ _, ⟨_, rfl⟩, .inr ⟨pre, ?_, hJx.putObj _ hx (by simp at hL; omega) hK rfl⟩⟩
        rw [HR.out]
        exact hSp.trans (List.prefix_append _ _)

end Go.Proofs.YteokbgfiokbojaaGreat
/- The program's chains: an iterator that calls itself. -/
namespace Go.Proofs.YteokbgfiokbojaaGreat
open Go.RowKit Go.Shelf
attribute [local go_sem] Oper.semAt_some

set_option maxRecDepth 100000 in
theorem chainsOf_any (a : ByteArray) (A : Option Addr) (k cap : Nat) (w : World) :
    Calls Tryz.prog 32 #[.string a, .slice A k cap] w fun e w' => e = .returned (.func (.func 59) #[] #[.pointer (some ⟨w.heap.size + 1, 0, none⟩), .pointer (some ⟨w.heap.size, 0, none⟩)]) ∧ w' = (w.alloc (.cells #[.string a] 9)).alloc (.cells #[.slice A k cap] 63) := by
  go_enter Tryz.func32, Tryz.ntmps32
  go_wp2
  go_ret
  exact ⟨rfl, rfl⟩

theorem grown_of_below {X Y : World} (h : Below X.heap.size X Y) : X.grownBy Y none := ⟨h.os, h.tape, h.output, h.size, fun k hk _ => h.block k hk⟩
/-- Blocks for deferred calls, all empty: each loop over an iterator leaves one. -/
def MarksIn (lo hi : Nat) (W : World) (Ls : List Nat) : Prop := Ls.Nodup ∧ ∀ L ∈ Ls, lo ≤ L ∧ L < hi ∧ W.heap[L]? = some (.deferred (some []))
def marksOf (Ls : List Nat) : List Deferred := Ls.map fun L => { target := .collected L, args := #[] }
theorem MarksIn.nil (lo hi : Nat) (W : World) : MarksIn lo hi W [] := ⟨List.nodup_nil, fun L h => by cases h⟩
theorem MarksIn.keep {lo hi D : Nat} {W W' : World} {Ls : List Nat} (h : MarksIn lo hi W Ls) (hk : KeepsN D W W') (hD : D ≤ lo) : MarksIn lo hi W' Ls :=
  ⟨h.1, fun L hL => ⟨(h.2 L hL).1, (h.2 L hL).2.1, hk.same L _ (Nat.le_trans hD (h.2 L hL).1) (h.2 L hL).2.2 (fun c t fz he => by cases he)⟩⟩
theorem MarksIn.up {lo hi hi' : Nat} {W : World} {Ls : List Nat} (h : MarksIn lo hi W Ls) (hh : hi ≤ hi') : MarksIn lo hi' W Ls := ⟨h.1, fun L hL => ⟨(h.2 L hL).1, by have := (h.2 L hL).2.1; omega, (h.2 L hL).2.2⟩⟩
theorem MarksIn.grown {lo hi B : Nat} {W W' : World} {Ls : List Nat} {row : Option Nat} (h : MarksIn lo hi W Ls) (hg : W.grownBy W' row) (hr : ∀ r, row = some r → B ≤ r) (hB : hi ≤ B) : MarksIn lo hi W' Ls :=
  ⟨h.1, fun L hL => ⟨(h.2 L hL).1, (h.2 L hL).2.1, (hg.block L (Array.getElem?_eq_some_iff.1 (h.2 L hL).2.2).1 (fun e => by have := hr L e.symm; have := (h.2 L hL).2.1; omega)).trans (h.2 L hL).2.2⟩⟩
theorem MarksIn.cons {lo hi L : Nat} {W : World} {Ls : List Nat} (h : MarksIn lo hi W Ls) (h1 : hi ≤ L) (h2 : lo ≤ L) (h3 : W.heap[L]? = some (.deferred (some []))) : MarksIn lo (L + 1) W (L :: Ls) :=
  ⟨List.nodup_cons.2 ⟨fun hm => by have := (h.2 L hm).2.1; omega, h.1⟩, fun M hM => by
    rcases List.mem_cons.1 hM with rfl | hM
    · exact ⟨h2, by omega, h3⟩
    · exact ⟨(h.2 M hM).1, by have := (h.2 M hM).2.1; omega, (h.2 M hM).2.2⟩⟩
/-- A function whose frame holds marks alone leaves. -/
theorem marks_leave {F : Fence} {n : Nat} {P : Program} {fn : Func} {tmps : Array Value} {R : Ending → World → Prop} {lo hi : Nat} {I : World → Prop} (hI : ∀ (W : World) (L : Nat), I W → lo ≤ L → W.heap[L]? = some (.deferred (some [])) → I (W.putObj L (.deferred none)))
    (hres : fn.results = #[]) (hR : ∀ W, I W → R (.returned (.tuple #[])) W) : ∀ (Ls : List Nat) (W : World), MarksIn lo hi W Ls → I W → LeavesInM F n P fn tmps R (marksOf Ls) .returning W
  | [], W, _, h => ⟨_, results_none hres _ _ _, hR W h⟩
  | L :: Ls, W, hm, h => by
    have hL := hm.2 L (by simp)
    refine ⟨by simp, .inl ⟨L, _, rfl, run_takeDeferred hL.2.2, ?_⟩⟩
    refine marks_leave (hi := hi) hI hres hR Ls _ ⟨(List.nodup_cons.1 hm.1).2, fun M hM => ?_⟩ (hI W L h hL.1 hL.2.2)
    have hM' := hm.2 M (by simp [hM])
    refine ⟨hM'.1, hM'.2.1, ?_⟩
    rw [World.putObj_heap_other (fun e => (List.nodup_cons.1 hm.1).1 (by subst e; exact hM))]
    exact hM'.2.2

/-- What holds at the head of a round of the iterator. -/
structure ChHead (W : World) (n₀ D : Nat) (f : Forest) (a : List UInt8) (A : Option Addr) (cap Bc Bs l' : Nat) (J : List (List UInt8) → World → Prop) (pre rest : Forest) (Ls : List Nat) (W' : World) : Prop where
  left : LeftC W' n₀ f A pre rest
  come : J (chainsB a pre) W'
  low : Below n₀ W W'
  size : W.heap.size + 1 ≤ W'.heap.size
  boxY : BoxAt W' n₀ D W.heap.size (.func (.yield l') #[] #[]) 38
  boxC : BoxAt W' n₀ D Bc (.slice A f.len cap) 63
  boxS : BoxAt W' n₀ D Bs (.string (strOf a)) 9
  marks : MarksIn W.heap.size W'.heap.size W' Ls
/-- Later, with nothing old written. -/
theorem ChHead.later {W : World} {n₀ D : Nat} {f : Forest} {a : List UInt8} {A : Option Addr} {cap Bc Bs l' : Nat} {J : List (List UInt8) → World → Prop} {pre rest : Forest} {Ls : List Nat} {W1 W2 : World} (h : ChHead W n₀ D f a A cap Bc Bs l' J pre rest Ls W1)
    (hJ : OwnFrom W.heap.size J) (hb : Below W1.heap.size W1 W2) (hn : n₀ ≤ W.heap.size) : ChHead W n₀ D f a A cap Bc Bs l' J pre rest Ls W2 := by
  have hg := grown_of_below hb
  have hz := h.size
  have hb0 : Below n₀ W1 W2 := hb.mono (by omega)
  exact ⟨h.left.below hb0, hJ _ _ _ _ h.come hg (fun r e => by cases e), h.low.trans hb0, Nat.le_trans h.size hb.size, h.boxY.grown hg (fun r e => by cases e), h.boxC.grown hg (fun r e => by cases e), h.boxS.grown hg (fun r e => by cases e),
    (h.marks.grown hg (B := W1.heap.size) (fun r e => by cases e) (Nat.le_refl _)).up hb.size⟩
/-- What holds between two rounds of the loop within. -/
structure ChMid (W W3 : World) (n₀ D hi : Nat) (n : Nat) (a : List UInt8) (A : Option Addr) (cap Bc Bs l' : Nat) (Ls : List Nat) (W' : World) : Prop where
  low : Below n₀ W3 W'
  size : hi ≤ W'.heap.size
  boxY : BoxAt W' n₀ D W.heap.size (.func (.yield l') #[] #[]) 38
  boxC : BoxAt W' n₀ D Bc (.slice A n cap) 63
  boxS : BoxAt W' n₀ D Bs (.string (strOf a)) 9
  marks : MarksIn W.heap.size hi W' Ls
theorem ChMid.grown {W W3 : World} {n₀ D hi n : Nat} {a : List UInt8} {A : Option Addr} {cap Bc Bs l' : Nat} {Ls : List Nat} {X Y : World} {row : Option Nat} (h : ChMid W W3 n₀ D hi n a A cap Bc Bs l' Ls X) (hg : X.grownBy Y row)
    (hr : ∀ r, row = some r → hi ≤ r ∧ ∃ o : Obj, X.heap[r]? = some o ∧ o.isCells = false) (hn : n₀ ≤ hi) : ChMid W W3 n₀ D hi n a A cap Bc Bs l' Ls Y :=
  ⟨h.low.grown hg (Nat.le_trans hn h.size) (fun k e => Nat.le_trans hn (hr k e).1), Nat.le_trans h.size hg.size, h.boxY.grown hg (fun r e => (hr r e).2), h.boxC.grown hg (fun r e => (hr r e).2), h.boxS.grown hg (fun r e => (hr r e).2), h.marks.grown hg (fun r e => (hr r e).1) (Nat.le_refl _)⟩
theorem ChMid.keep {W W3 : World} {n₀ D hi n : Nat} {a : List UInt8} {A : Option Addr} {cap Bc Bs l' : Nat} {Ls : List Nat} {X Y : World} (h : ChMid W W3 n₀ D hi n a A cap Bc Bs l' Ls X) (hb : Below n₀ X Y) (hk : KeepsN D X Y) (hD : D ≤ W.heap.size) : ChMid W W3 n₀ D hi n a A cap Bc Bs l' Ls Y :=
  ⟨h.low.trans hb, Nat.le_trans h.size hk.size, h.boxY.keep hb hk, h.boxC.keep hb hk, h.boxS.keep hb hk, h.marks.keep hk hD⟩
def ChInv (W : World) (n₀ D : Nat) (f : Forest) (a : List UInt8) (A : Option Addr) (cap Bc Bs l' : Nat) (J : List (List UInt8) → World → Prop) (a' : Act) (W' : World) : Prop :=
  ∃ (pre rest : Forest) (Ls : List Nat) (u5 u6 u7 u10 u11 u12 u13 u14 u15 u16 u17 u18 u19 u20 u21 u22 u23 u24 u25 u26 u27 u28 u29 u30 u31 : Value), a' = { tmps := #[.func (.yield l') #[] #[], .pointer (some ⟨Bc, 0, none⟩), .pointer (some ⟨Bs, 0, none⟩), .pointer (some ⟨W.heap.size, 0, none⟩), undef, u5, u6, u7, .slice A f.len cap, .int .i64 f.len, u10, u11, u12, u13, u14, u15, u16, u17, u18, u19, u20, u21, u22, u23, u24, u25, u26, u27, u28, u29, u30, u31], defers := marksOf Ls } ∧ u10 = .int .i64 pre.len ∧ ChHead W n₀ D f a A cap Bc Bs l' J pre rest Ls W'

set_option maxRecDepth 100000 in
set_option maxHeartbeats 2000000 in
theorem chains1_seq (n₀ D : Nat) (fix : List UInt8 → List UInt8) : ∀ (m : Nat) (f : Forest) (a : List UInt8) (N n Bc Bs : Nat) (v : Value) (w : World), f.size < m → f.size + a.length ≤ 1000 → (∀ x ∈ chainsB a f, fix x = x) → BoxAt w n₀ D Bc v 63 → BoxAt w n₀ D Bs (.string (strOf a)) 9 → SliceIs w (· < n₀) v f → n₀ ≤ w.heap.size → f.size ≤ N → f.deep + 1 ≤ n →
    SeqR n 59 #[.pointer (some ⟨Bc, 0, none⟩), .pointer (some ⟨Bs, 0, none⟩)] (fun x : List UInt8 => #[.string (strOf (fix x))]) n₀ D (fun ys => ys = chainsB a f) (fun ys => ys <+: chainsB a f) N w := by
  intro m
  induction m with
  | zero => intro f a N n Bc Bs v w h; omega
  | succ m ih =>
    intro f a N n Bc Bs v w hm hs hfx hboxc hboxs hsl hn₀ hN hn l' J Jx W hbW hDW hJ hJx hY h0
    obtain ⟨A, cap, rfl, hl0⟩ := LeftC.start hsl
    have keepB : ∀ {Bx : Nat} {x : Value} {t : TypeId}, BoxAt w n₀ D Bx x t → BoxAt W n₀ D Bx x t := fun h => ⟨h.1, h.2.1, (hbW.block _ (Array.getElem?_eq_some_iff.1 h.2.2).1).trans h.2.2⟩
    have hc1 := keepB hboxc
    have hs1 := keepB hboxs
    have hn₀W : n₀ ≤ W.heap.size := Nat.le_trans hn₀ hbW.size
    have hg0 : W.grownBy (W.alloc (.cells #[.func (.yield l') #[] #[]] 38)) none := World.grownBy_alloc W _ none
    have H0 : Hid (ChHead W n₀ D f a A cap Bc Bs l' J .nil f [] (W.alloc (.cells #[.func (.yield l') #[] #[]] 38))) :=
      ⟨(hl0.below (hbW.mono hn₀)).below ((Below.refl _ W).alloc hn₀W _), hJ.alloc _ h0, (Below.refl _ W).alloc hn₀W _, by simp, ⟨.inr hDW, by decide, Row.new W _ _⟩, hc1.grown hg0 (fun r e => by cases e), hs1.grown hg0 (fun r e => by cases e), MarksIn.nil _ _ _⟩
    have c1 : (W.alloc (.cells #[.func (.yield l') #[] #[]] 38)).cell? ⟨Bc, 0, none⟩ = some (.slice A f.len cap) := H0.out.boxC.cell
    have HY : Hid _ := hY
    have HJ : Hid (OwnFrom W.heap.size J) := hJ
    have HJX : Hid (OwnFrom W.heap.size Jx) := hJx
    have HBW := Lib.hid hbW
    have hfl : f.len ≤ 1000 := by have := f.len_size; omega
    have IH := Lib.hid ih
    have HFX := Lib.hid hfx
    clear hY hJ hJx hbW ih hfx hboxc hboxs hsl hl0 keepB hc1 hs1 h0 hg0
    refine callsIn_of_wp_marks Tryz.func59 rfl trivial ?_ rfl
    simp only [Tryz.ntmps59, List.size_toArray, List.length_cons, List.length_nil, Nat.reduceAdd, Nat.reduceSub, Array.replicate_succ, Array.replicate_zero, List.push_toArray, List.append_toArray, List.nil_append, List.cons_append]
    gi_wp2
    refine wpIn_loop (ChInv W n₀ D f a A cap Bc Bs l' J) (fun a' _ => f.len - (intOf (a'.tmps.getD 10 undef)).toNat) ?_ ?_
    · exact ⟨.nil, f, [], _, _, _, _, _, _, _, _, _, _, _, _, _, _, _, _, _, _, _, _, _, _, _, _, _, rfl, rfl, H0.out⟩
    · rintro _ W1 ⟨pre, rest, Ls, u5, u6, u7, u10, u11, u12, u13, u14, u15, u16, u17, u18, u19, u20, u21, u22, u23, u24, u25, u26, u27, u28, u29, u30, u31, rfl, rfl, hH⟩
      clear H0 c1
      have HH := Lib.hid hH
      clear hH
      cases rest with
      | nil =>
        have HE := Lib.hid HH.out.left.done
        have hle : ¬ (pre.len < f.len) := by rw [HE.out]; omega
        gi_wp2
        exact marks_leave (lo := W.heap.size) (hi := W1.heap.size) (I := fun W' => J (chainsB a f) W') (fun X L hX hL hk => HJ.out.putObj _ hX hL hk rfl) rfl (fun X hX => ⟨⟨_, rfl⟩, .inl ⟨_, rfl, hX⟩⟩) Ls W1 HH.out.marks (by rw [HE.out]; exact HH.out.come)
      | cons c k r =>
        obtain ⟨hnext, hlt, hks, g, x, rfl, hg, c0, hu⟩ := HH.out.left.take
        obtain ⟨T, y, kv, rfl, hf, hkv⟩ := hu.facts
        obtain ⟨K, z, o, hmt, hen, hc⟩ := hf.calls
        have hnm := hf.name
        have HC := Lib.hid hc
        have HKV := Lib.hid hkv
        have HNX := Lib.hid hnext
        have cS : W1.cell? ⟨Bs, 0, none⟩ = some (.string (strOf a)) := HH.out.boxS.cell
        have hBs : Bs < W1.heap.size := (Array.getElem?_eq_some_iff.1 HH.out.boxS.2.2).1
        have hal : (strOf a).size ≤ 1000 := by unfold strOf; rw [bytes_size]; omega
        have hmx : Tryz.prog.follows .mixedOrders = true := by kernel_rfl
        have HX : Hid (strOf (a ++ [c]) = strOf a ++ ⟨#[c]⟩) := (bytes_cat a [c]).symm
        have hps : pre.size + (k.size + r.size + 1) = f.size := by rw [HH.out.left.1, Forest.app_size]; rfl
        have hpl := chainsB_len pre a
        have hkd : k.deep + 1 ≤ f.deep := by rw [HH.out.left.1]; exact Forest.deep_app pre c k r
        have HPF : Hid (chainsB a f = chainsB a pre ++ ((a ++ [c]) :: (chainsB (a ++ [c]) k ++ chainsB a r))) := by
          show _ = _
          conv => lhs; rw [HH.out.left.1, chainsB_app]
          rfl
        have HPN : Hid (chainsB a (pre.app (.cons c k .nil)) = chainsB a pre ++ [a ++ [c]] ++ chainsB (a ++ [c]) k) := by
          show _ = _
          rw [chainsB_app, chainsB_one]; simp
        have HLN : Hid ((pre.app (.cons c k .nil)).len = pre.len + 1) := by show _ = _; rw [Forest.app_len]; rfl
        have HH2 : Hid (ChHead W n₀ D f a (some ⟨g, 0, none⟩) cap Bc Bs l' J pre (.cons c k r) Ls (W1.alloc (.cells #[.string ⟨#[c]⟩] 183)).drew) := HH.out.later HJ.out (((Below.refl _ W1).alloc (Nat.le_refl _) _).drew) hn₀W
        have hyq := HY.out (chainsB a pre) (a ++ [c]) _ HH2.out.come (by rw [hpl]; omega) (by have := HH2.out.size; omega)
        rw [HFX.out (a ++ [c]) (by rw [HPF.out]; simp), HX.out] at hyq
        have HYQ := Lib.hid hyq
        have HNX2 : Hid (LeftC (W1.alloc (.cells #[.string ⟨#[c]⟩] 183)).drew n₀ f (some ⟨g, 0, none⟩) (pre.app (.cons c k .nil)) r) := HNX.out.below (((Below.refl _ W1).alloc (by have := HH.out.size; omega) _).drew)
        have HKV2 : Hid (SliceIs (W1.alloc (.cells #[.string ⟨#[c]⟩] 183)).drew (· < n₀) kv k) := HKV.out.below (((Below.refl _ W1).alloc (by have := HH.out.size; omega) _).drew)
        have cY : (W1.alloc (.cells #[.string ⟨#[c]⟩] 183)).drew.cell? ⟨W.heap.size, 0, none⟩ = some (.func (.yield l') #[] #[]) := HH2.out.boxY.cell
        have HPL := Lib.hid hpl
        clear hnext hf hkv hc hu hyq hpl
        gi_wp2_with fail
        first | gi_region_with_o ((refine ⟨trivial, (fun h => by simp [Fence.wide] at h), ?_⟩; gi_at_call 155; refine (callsIn_wide.2 (leafName_any c _)).mono ?_; rintro e w2 ⟨rfl, rfl⟩)) | fail
        all_goals (
          generalize (W1.alloc (.cells #[.string ⟨#[c]⟩] 183)).drew = W2 at *
          obtain ⟨fn, tmps, assign, body, hy, hR⟩ := yield_any (n - 1) HYQ.out
          gi_wp2_with fail
          refine ⟨fun h => by simp [Fence.wide] at h, ?_⟩
          refine hR.mono ?_
          rintro e W3 (⟨rfl, hJ3, hb3, hk3⟩ | ⟨rfl, hx3, hk3⟩)
          · have hz3 : W.heap.size + 1 ≤ W3.heap.size := Nat.le_trans HH2.out.size hk3.size
            have hL3 : LeftC W3 n₀ f (some ⟨g, 0, none⟩) (pre.app (.cons c k .nil)) r := HNX2.out.below hb3
            obtain ⟨A2, cap2, rfl, -⟩ := id HKV2.out
            have HL3 := Lib.hid hL3
            have HV3 := Lib.hid (HKV2.out.below hb3)
            have HJ3 := Lib.hid hJ3
            have HM3 := Lib.hid (HH2.out.marks.keep hk3 hDW)
            have HBY := Lib.hid (HH2.out.boxY.keep hb3 hk3)
            have HBC := Lib.hid (HH2.out.boxC.keep hb3 hk3)
            have HBS := Lib.hid (HH2.out.boxS.keep hb3 hk3)
            have HB3 := Lib.hid (HH2.out.low.trans hb3)
            have HZ23 : Hid (W2.heap.size ≤ W3.heap.size) := hk3.size
            clear hL3 hJ3 hb3 hk3 hR hy HH HH2 HNX HNX2 HKV HKV2 HYQ cY cS c0 hBs
            gi_wp2_with fail
            refine ⟨trivial, fun h => by simp [Fence.wide] at h, ?_⟩
            refine (callsIn_wide.2 (HC.out _)).mono ?_
            rintro e w4 ⟨rfl, rfl⟩
            gi_wp2_with fail
            refine ⟨trivial, fun h => by simp [Fence.wide] at h, ?_⟩
            refine (callsIn_wide.2 (chainsOf_any _ _ _ _ _)).mono ?_
            rintro e w5 ⟨rfl, rfl⟩
            gi_wp2
            have hz4 : (W3.alloc o).heap.size = W3.heap.size + 1 := by simp
            have hz5 : (((W3.alloc o).alloc (.cells #[.string (strOf a ++ ⟨#[c]⟩)] 9)).alloc (.cells #[.slice A2 k.len cap2] 63)).heap.size = W3.heap.size + 3 := by simp
            have HB5 : Hid (Below W3.heap.size W3 (((W3.alloc o).alloc (.cells #[.string (strOf a ++ ⟨#[c]⟩)] 9)).alloc (.cells #[.slice A2 k.len cap2] 63))) := (((Below.refl _ W3).alloc (Nat.le_refl _) _).alloc (by simp) _).alloc (by simp; omega) _
            have HR1 : Hid (Row (((W3.alloc o).alloc (.cells #[.string (strOf a ++ ⟨#[c]⟩)] 9)).alloc (.cells #[.slice A2 k.len cap2] 63)) (W3.heap.size + 1) 9 #[.string (strOf a ++ ⟨#[c]⟩)]) := by
              have := Row.new (W3.alloc o) 9 #[.string (strOf a ++ ⟨#[c]⟩)]
              rw [hz4] at this
              exact this.alloc _
            have HR2 : Hid (Row (((W3.alloc o).alloc (.cells #[.string (strOf a ++ ⟨#[c]⟩)] 9)).alloc (.cells #[.slice A2 k.len cap2] 63)) (W3.heap.size + 2) 63 #[.slice A2 k.len cap2]) := by
              have := Row.new ((W3.alloc o).alloc (.cells #[.string (strOf a ++ ⟨#[c]⟩)] 9)) 63 #[.slice A2 k.len cap2]
              rw [World.size_alloc, hz4] at this
              exact this
            clear hz4
            generalize ((W3.alloc o).alloc (.cells #[.string (strOf a ++ ⟨#[c]⟩)] 9)).alloc (.cells #[.slice A2 k.len cap2] 63) = W5 at *
            have HX5 : Hid (BoxAt W5 n₀ D (W3.heap.size + 2) (.slice A2 k.len cap2) 63) := ⟨.inr (by omega), by decide, HR2.out⟩
            have HS5 : Hid (BoxAt W5 n₀ D (W3.heap.size + 1) (.string (strOf (a ++ [c]))) 9) := ⟨.inr (by omega), by decide, by rw [HX.out]; exact HR1.out⟩
            have hg5 : W3.grownBy W5 none := grown_of_below HB5.out
            have HMID : Hid (ChMid W W3 n₀ D W5.heap.size f.len a (some ⟨g, 0, none⟩) cap Bc Bs l' Ls W5) :=
              ⟨HB5.out.mono (by omega), Nat.le_refl _, HBY.out.grown hg5 (fun r e => by cases e), HBC.out.grown hg5 (fun r e => by cases e), HBS.out.grown hg5 (fun r e => by cases e), (HM3.out.grown hg5 (B := W2.heap.size) (fun r e => by cases e) (Nat.le_refl _)).up (by have := HZ23.out; omega)⟩
            have HJ5 : Hid (J (chainsB a pre ++ [a ++ [c]]) W5) := HJ.out _ _ _ _ HJ3.out hg5 (fun r e => by cases e)
            have hseq := IH.out k (a ++ [c]) k.size (n - 1) (W3.heap.size + 2) (W3.heap.size + 1) (.slice A2 k.len cap2) W5 (by omega) (by simp; omega) (fun x hx => HFX.out x (by rw [HPF.out]; simp [hx])) HX5.out HS5.out (HV3.out.below (HB5.out.mono (by omega))) (by omega) (Nat.le_refl _) (by omega)
            have HPL' := HPL.out
            refine wpIn_rangeFunc_R (by omega) (gf := 59) (lb := #[.pointer (some ⟨W3.heap.size + 1 + 1, 0, none⟩), .pointer (some ⟨W3.heap.size + 1, 0, none⟩)]) rfl (enters_of Tryz.func59 (by kernel_rfl) rfl) hseq (by omega) (by omega) (Below.refl _ _) (fun _ => rfl)
              (fun ys W' => J (chainsB a pre ++ [a ++ [c]] ++ ys) W' ∧ ChMid W W3 n₀ D W5.heap.size f.len a (some ⟨g, 0, none⟩) cap Bc Bs l' Ls W')
              (fun c' ys W' => c' = .ret ∧ Jx (chainsB a pre ++ [a ++ [c]] ++ ys) W' ∧ MarksIn W.heap.size W5.heap.size W' Ls)
              (fun s X Y row hs hg hr => ⟨HJ.out _ X Y row hs.1 hg (fun r e => ⟨by have := (hr r e).1; omega, (hr r e).2⟩), hs.2.grown hg hr (by omega)⟩)
              (fun c' s X Y row hs hg hr => ⟨hs.1, HJX.out _ X Y row hs.2.1 hg (fun r e => ⟨by have := (hr r e).1; omega, (hr r e).2⟩), hs.2.2.grown hg (fun r e => (hr r e).1) (Nat.le_refl _)⟩)
              ⟨by rw [List.append_nil]; exact HJ5.out, HMID.out⟩
              (fun x => { tmps := #[.func (.yield l') #[] #[], .pointer (some ⟨Bc, 0, none⟩), .pointer (some ⟨Bs, 0, none⟩), .pointer (some ⟨W.heap.size, 0, none⟩), undef, .iface T y, .string (strOf a ++ ⟨#[c]⟩), .string (strOf (fix x)), .slice (some ⟨g, 0, none⟩) f.len cap, .int .i64 f.len, .int .i64 pre.len, .bool true, .pointer (some ⟨g, pre.len, none⟩), .iface T y, .string (strOf a), .iface T y, .string ⟨#[c]⟩, .string (strOf a ++ ⟨#[c]⟩), .func (.yield l') #[] #[], .string (strOf a ++ ⟨#[c]⟩), .bool true, .bool false, .string (strOf a ++ ⟨#[c]⟩), .iface T y, .slice A2 k.len cap2, .func (.func 59) #[] #[.pointer (some ⟨W3.heap.size + 1 + 1, 0, none⟩), .pointer (some ⟨W3.heap.size + 1, 0, none⟩)], .string (strOf (fix x)), u27, u28, u29, u30, u31], defers := [] }) ?assign ?body ?done ?stop
            case assign =>
              intro l2 x X K hK
              gi_wp2
              exact hK
            case body =>
              rintro l2 ys x X ⟨hJ6, hM6⟩ hlen hz
              have cY6 := hM6.boxY.cell
              obtain ⟨fn, tmps, assign, body, hy, hR⟩ := yield_any (n - 1 - 1 - 1) (HY.out (chainsB a pre ++ [a ++ [c]] ++ ys) x X hJ6 (by simp; omega) (by omega))
              gi_wp2
              refine ⟨fun h => by simp [Fence.wide] at h, ?_⟩
              refine (show RoundIn (Fence.wide.inRound l2) (n - 1 - 1 - 1) Tryz.prog l' fn tmps assign body X _ from hR).mono ?_
              rintro e X3 (⟨rfl, hJ7, hb7, hk7⟩ | ⟨rfl, hx7, hk7⟩)
              · gi_wp2
                exact ⟨hk7.mono (by omega), hb7, by rw [← List.append_assoc]; exact hJ7, hM6.keep hb7 hk7 hDW⟩
              · gi_wp2
                exact ⟨hk7.mono (by omega), rfl, by rw [← List.append_assoc]; exact hx7, hM6.marks.keep hk7 (Nat.le_refl _)⟩
            case done =>
              rintro L ys X hL rfl ⟨hJ6, hM6⟩ hK
              have HD : Hid (ChHead W n₀ D f a (some ⟨g, 0, none⟩) cap Bc Bs l' J (pre.app (.cons c k .nil)) r (L :: Ls) X) :=
                ⟨HL3.out.below hM6.low, by rw [HPN.out]; exact hJ6, HB3.out.trans hM6.low, by have := hM6.size; omega, hM6.boxY, hM6.boxC, hM6.boxS, (hM6.marks.cons hL (by omega) hK).up (Array.getElem?_eq_some_iff.1 hK).1⟩
              clear hJ6 hM6 hseq
              gi_wp2
              refine ⟨⟨_, r, L :: Ls, _, _, _, _, _, _, _, _, _, _, _, _, _, _, _, _, _, _, _, _, _, _, _, _, _, rfl, by rw [HLN.out]; go_num, HD.out⟩, ?_⟩
              simp [intOf]; omega
            case stop =>
              rintro L c' ys X hL hSp ⟨rfl, hx, hmk⟩ hK
              have HM6 := Lib.hid (hmk.cons hL (by omega) hK)
              have HX6 := Lib.hid hx
              have HSP := Lib.hid hSp
              clear hx hmk hSp hseq
              gi_wp2
              exact marks_leave (lo := W.heap.size) (hi := L + 1) (I := fun W' => Jx (chainsB a pre ++ [a ++ [c]] ++ ys) W') (fun X' L' hX' hL' hk' => HJX.out.putObj _ hX' hL' hk' rfl) rfl (fun X' hX' => ⟨⟨_, rfl⟩, .inr ⟨_, by
                obtain ⟨q, hq⟩ := HSP.out
                rw [HPF.out, ← hq]
                exact ⟨q ++ chainsB a r, by simp⟩, hX'⟩⟩) (L :: Ls) X HM6.out HX6.out
          · have HM3 := Lib.hid (HH2.out.marks.keep hk3 (Nat.le_refl _))
            have HX3 := Lib.hid hx3
            clear hx3 hk3 hR hy
            gi_wp2
            exact marks_leave (lo := W.heap.size) (hi := W2.heap.size) (I := fun W' => Jx (chainsB a pre ++ [a ++ [c]]) W') (fun X L hX hL hk => HJX.out.putObj _ hX hL hk rfl) rfl (fun X hX => ⟨⟨_, rfl⟩, .inr ⟨_, by rw [HPF.out]; exact ⟨chainsB (a ++ [c]) k ++ chainsB a r, by simp⟩, hX⟩⟩) Ls W3 HM3.out HX3.out)

end Go.Proofs.YteokbgfiokbojaaGreat
