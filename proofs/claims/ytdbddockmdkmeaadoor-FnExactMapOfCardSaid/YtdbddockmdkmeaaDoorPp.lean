/- The path of a node, yielded by an iterator that calls itself. -/
import Derived.Test.YtdbddockmdkmeaaDoorRf
namespace Go.Proofs.YtdbddockmdkmeaaDoor
open Go.RowKit Go.Shelf
attribute [local go_sem] Oper.semAt_some

theorem yield_any {m : Nat} (m' : Nat) {P : Program} {l : Nat} {args : Array Value} {W : World} {R : Ending → World → Prop} (h : YieldAt Fence.wide m P l args W R) : YieldAt Fence.wide m' P l args W R := by
  obtain ⟨fn, tmps, assign, body, hy, hR⟩ := h
  exact ⟨fn, tmps, assign, body, hy, ⟨hR.1, fun c cs _ => hR.2 c cs (fun d h => by simp [Fence.wide] at h)⟩⟩

/-- From the root down to a segment, by index. -/
def rootPath (l : List Seg) : Nat → Nat → List Nat
  | 0, _ => []
  | f + 1, i => (if parAt l i < 0 then [] else rootPath l f (parAt l i).toNat) ++ [i]
theorem rootPath_len (l : List Seg) : ∀ f i, (rootPath l f i).length ≤ f
  | 0, _ => Nat.le_refl 0
  | f + 1, i => by
    unfold rootPath
    have := rootPath_len l f (parAt l i).toNat
    split <;> simp <;> omega
theorem rootPath_lt {l : List Seg} (hd : Down l l.length) : ∀ f i, i < l.length → ∀ j ∈ rootPath l f i, j < l.length
  | 0, _, _, j, hj => by simp [rootPath] at hj
  | f + 1, i, hi, j, hj => by
    unfold rootPath at hj
    have h1 := hd i hi
    rcases List.mem_append.1 hj with h | h
    · split at h
      · simp at h
      · exact rootPath_lt hd f _ (by omega) j h
    · simp at h; omega
theorem rootPath_chain {l : List Seg} (hd : Down l l.length) : ∀ f i, i < l.length → i < f → (chain l f (i : Int)).reverse = (rootPath l f i).map (fun j : Nat => (j : Int))
  | 0, i, _, h => absurd h (by omega)
  | f + 1, i, hi, hf => by
    have h1 := hd i hi
    unfold chain rootPath
    rw [if_neg (by omega), Int.toNat_natCast, List.reverse_cons, List.map_append]
    congr 1
    by_cases hp : parAt l i < 0
    · rw [if_pos hp]
      cases f with
      | zero => rfl
      | succ f => simp [chain, hp]
    · rw [if_neg hp, ← rootPath_chain hd f _ (by omega) (by omega), Int.toNat_of_nonneg (by omega)]

set_option maxRecDepth 100000 in
set_option maxHeartbeats 400000 in
theorem path_any (p : Option Addr) (w : World) :
    Calls Tryd.prog 75 #[.pointer p] w fun e w' => e = .returned (.func (.func 106) #[] #[.pointer (some ⟨w.heap.size, 0, none⟩)]) ∧ w' = w.alloc (.cells #[.pointer p] 57) := by
  go_enter Tryd.func75, Tryd.ntmps75
  go_wp2
  go_ret
  exact ⟨rfl, rfl⟩

/-- What an iterator reads of the nodes. -/
def Linked (w : World) (n₀ : Nat) (l : List Seg) (nb : Nat → Nat) : Prop := ∀ j, j < l.length → nb j < n₀ ∧ w.cell? ⟨nb j, 2, none⟩ = some (.pointer (parPtr l nb j))
theorem Linked.below {w w' : World} {n₀ : Nat} {l : List Seg} {nb : Nat → Nat} (h : Linked w n₀ l nb) (hb : Below n₀ w w') : Linked w' n₀ l nb := fun j hj => ⟨(h j hj).1, (hb.cell (p := ⟨nb j, 2, none⟩) (h j hj).1).trans (h j hj).2⟩
/-- A box of one cell, kept by every round that goes on. -/
def BoxAt (W : World) (n₀ D Bs : Nat) (v : Value) (t : TypeId) : Prop := (Bs < n₀ ∨ D ≤ Bs) ∧ t ≠ 5 ∧ W.heap[Bs]? = some (.cells #[v] t (0, 0))
theorem BoxAt.cell {W : World} {n₀ D Bs : Nat} {v : Value} {t : TypeId} (h : BoxAt W n₀ D Bs v t) : W.cell? ⟨Bs, 0, none⟩ = some v := Row.cell (h.2.2 : Row W Bs t #[v]) 0
theorem BoxAt.keep {W W' : World} {n₀ D Bs : Nat} {v : Value} {t : TypeId} (h : BoxAt W n₀ D Bs v t) (hb : Below n₀ W W') (hk : KeepsN D W W') : BoxAt W' n₀ D Bs v t := by
  obtain ⟨h1, h2, h3⟩ := h
  refine ⟨h1, h2, ?_⟩
  rcases h1 with h1 | h1
  · exact (hb.block Bs h1).trans h3
  · exact hk.same Bs _ h1 h3 (fun c t' fz he => by injection he with hc ht; subst hc; subst ht; exact ⟨h2, .inl (Nat.le_refl 1)⟩)
theorem BoxAt.grown {W W' : World} {n₀ D Bs : Nat} {v : Value} {t : TypeId} (h : BoxAt W n₀ D Bs v t) {row : Option Nat} (hg : W.grownBy W' row) (hr : ∀ r, row = some r → ∃ o : Obj, W.heap[r]? = some o ∧ o.isCells = false) : BoxAt W' n₀ D Bs v t :=
  ⟨h.1, h.2.1, (hg.block Bs (Array.getElem?_eq_some_iff.1 h.2.2).1 (fun he => by
    obtain ⟨o, ho, hc⟩ := hr Bs he.symm
    rw [h.2.2] at ho
    injection ho with ho
    subst ho
    cases hc)).trans h.2.2⟩

set_option maxRecDepth 100000 in
set_option maxHeartbeats 2000000 in
theorem path1_seq (l : List Seg) (nb : Nat → Nat) (n₀ D N : Nat) (hdn : Down l l.length) : ∀ (f i : Nat), i < f → ∀ (_ : i < l.length) (n Bs : Nat) (w : World), BoxAt w n₀ D Bs (.pointer (some ⟨nb i, 0, none⟩)) 57 → Linked w n₀ l nb → n₀ ≤ w.heap.size → (rootPath l f i).length ≤ N → f + 1 ≤ n →
    SeqR n 106 #[.pointer (some ⟨Bs, 0, none⟩)] (fun x : Ix l => #[.pointer (some ⟨nb x.1, 0, none⟩)]) n₀ D (fun ys => ys.map (·.1) = rootPath l f i) (fun ys => ys.map (·.1) <+: rootPath l f i) N w := by
  intro f
  induction f with
  | zero => intro i hi; omega
  | succ f ih =>
    intro i hif hi n Bs w hbox hlk hn₀ hN hn l' J Jx W hbW hDW hJ hJx hY h0
    have hbox1 : BoxAt W n₀ D Bs (.pointer (some ⟨nb i, 0, none⟩)) 57 := by
      refine ⟨hbox.1, hbox.2.1, (hbW.block Bs ?_).trans hbox.2.2⟩
      exact (Array.getElem?_eq_some_iff.1 hbox.2.2).1
    have hlk1 : Linked W n₀ l nb := hlk.below (hbW.mono hn₀)
    have hBs : Bs < W.heap.size := (Array.getElem?_eq_some_iff.1 hbox1.2.2).1
    have hnb : nb i < W.heap.size := Nat.lt_of_lt_of_le (hlk1 i hi).1 (Nat.le_trans hn₀ hbW.size)
    have c1 := hbox1.cell
    have c2 := (hlk1 i hi).2
    by_cases hp : parAt l i < 0
    · have hpp : parPtr l nb i = none := if_pos hp
      have HR : Hid (rootPath l (f + 1) i = [i]) := by
        show _ = _
        unfold rootPath
        rw [if_pos hp]; rfl
      rw [hpp] at c2
      clear hpp
      obtain ⟨fn, tmps, assign, body, hy, hR⟩ := hY [] ⟨i, hi⟩ (W.alloc (.cells #[.func (.yield l') #[] #[]] 127)) (hJ.alloc _ h0) (by rw [HR.out] at hN; simp at hN ⊢; omega) (by simp)
      dsimp only at hy
      refine callsIn_of_wp_marks Tryd.func106 rfl trivial ?_ rfl
      simp only [Tryd.ntmps106, List.size_toArray, List.length_cons, List.length_nil, Nat.reduceAdd, Nat.reduceSub, Array.replicate_succ, Array.replicate_zero, List.push_toArray, List.append_toArray, List.nil_append, List.cons_append]
      gi_wp2
      refine ⟨fun h => by simp [Fence.wide] at h, ?_⟩
      refine hR.mono ?_
      rintro e W3 (⟨rfl, hJ3, _⟩ | ⟨rfl, hx3, _⟩)
      · gi_wp2
        refine ⟨_, results_none rfl _ _ _, ⟨_, rfl⟩, .inl ⟨_, ?_, hJ3⟩⟩
        rw [HR.out]; rfl
      · gi_wp2
        refine ⟨_, results_none rfl _ _ _, ⟨_, rfl⟩, .inr ⟨_, ?_, hx3⟩⟩
        rw [HR.out]; exact List.prefix_refl _
    · obtain ⟨p, hpe⟩ := Int.eq_ofNat_of_zero_le (show 0 ≤ parAt l i by omega)
      have hdi := hdn i hi
      have hpi : p < i := by omega
      have hpl : p < l.length := by omega
      have hpp : parPtr l nb i = some ⟨nb p, 0, none⟩ := by
        unfold parPtr
        rw [if_neg hp, hpe, Int.toNat_natCast]
      have HR : Hid (rootPath l (f + 1) i = rootPath l f p ++ [i]) := by
        show _ = _
        conv => lhs; unfold rootPath
        rw [if_neg hp, hpe, Int.toNat_natCast]
      rw [hpp] at c2
      clear hpp hdi hpe
      refine callsIn_of_wp_marks Tryd.func106 rfl trivial ?_ rfl
      simp only [Tryd.ntmps106, List.size_toArray, List.length_cons, List.length_nil, Nat.reduceAdd, Nat.reduceSub, Array.replicate_succ, Array.replicate_zero, List.push_toArray, List.append_toArray, List.nil_append, List.cons_append]
      gi_wp2
      refine ⟨trivial, fun h => by simp [Fence.wide] at h, ?_⟩
      refine (callsIn_wide.2 (path_any _ _)).mono ?_
      rintro e w' ⟨rfl, rfl⟩
      gi_wp2
      have hY0 : Row ((W.alloc (.cells #[.func (.yield l') #[] #[]] 127)).alloc (.cells #[.pointer (some ⟨nb p, 0, none⟩)] 57)) W.heap.size 127 #[.func (.yield l') #[] #[]] := (Row.new W _ _).alloc _
      have hP0 : Row ((W.alloc (.cells #[.func (.yield l') #[] #[]] 127)).alloc (.cells #[.pointer (some ⟨nb p, 0, none⟩)] 57)) (W.heap.size + 1) 57 #[.pointer (some ⟨nb p, 0, none⟩)] := by
        have := Row.new (W.alloc (.cells #[.func (.yield l') #[] #[]] 127)) 57 #[.pointer (some ⟨nb p, 0, none⟩)]
        rw [World.size_alloc] at this
        exact this
      have hn₀W : n₀ ≤ W.heap.size := Nat.le_trans hn₀ hbW.size
      have hB0 : Below n₀ W ((W.alloc (.cells #[.func (.yield l') #[] #[]] 127)).alloc (.cells #[.pointer (some ⟨nb p, 0, none⟩)] 57)) := ((Below.refl _ W).alloc hn₀W _).alloc (by simp; omega) _
      have hX0 : BoxAt ((W.alloc (.cells #[.func (.yield l') #[] #[]] 127)).alloc (.cells #[.pointer (some ⟨nb p, 0, none⟩)] 57)) n₀ D Bs (.pointer (some ⟨nb i, 0, none⟩)) 57 :=
        (hbox1.grown (World.grownBy_alloc W _ none) (fun r e => by cases e)).grown (World.grownBy_alloc _ _ none) (fun r e => by cases e)
      have hlenR : (rootPath l f p).length + 1 ≤ N := by
        have h1 := congrArg List.length HR.out
        rw [List.length_append] at h1
        simp at h1
        omega
      refine wpIn_rangeFunc_R (by omega) (gf := 106) (lb := #[.pointer (some ⟨W.heap.size + 1, 0, none⟩)]) rfl (enters_of Tryd.func106 (by kernel_rfl) rfl)
        (ih p (by omega) hpl (n - 1) (W.heap.size + 1) _ ⟨.inr (by omega), by decide, hP0⟩ (hlk1.below hB0) (by simp; omega) (by omega) (by omega)) (by simp; omega) (by simp; omega) (Below.refl _ _) (fun _ => rfl)
        (fun pre W' => (J pre W' ∧ Below n₀ W W') ∧ (BoxAt W' n₀ D W.heap.size (.func (.yield l') #[] #[]) 127 ∧ BoxAt W' n₀ D Bs (.pointer (some ⟨nb i, 0, none⟩)) 57) ∧ W.heap.size + 2 ≤ W'.heap.size)
        (fun c pre W' => c = .ret ∧ Jx pre W')
        (fun s A B row hs hg hr => ⟨⟨hJ s A B row hs.1.1 hg (fun r e => ⟨by have := (hr r e).1; simp at this; omega, (hr r e).2⟩), ownFrom_below (B := W.heap.size) hn₀W (by omega) s A B row hs.1.2 hg (fun r e => ⟨by have := (hr r e).1; simp at this; omega, (hr r e).2⟩)⟩,
          ⟨hs.2.1.1.grown hg (fun r e => (hr r e).2), hs.2.1.2.grown hg (fun r e => (hr r e).2)⟩, Nat.le_trans hs.2.2 hg.size⟩)
        (fun c s A B row hs hg hr => ⟨hs.1, hJx s A B row hs.2 hg (fun r e => ⟨by have := (hr r e).1; simp at this; omega, (hr r e).2⟩)⟩)
        ⟨⟨hJ.alloc _ (hJ.alloc _ h0), hB0⟩, ⟨⟨.inr hDW, by decide, hY0⟩, hX0⟩, by simp⟩
        (fun x => { tmps := #[.func (.yield l') #[] #[], .pointer (some ⟨Bs, 0, none⟩), .pointer (some ⟨W.heap.size, 0, none⟩), .pointer (some ⟨nb x.1, 0, none⟩), .pointer (some ⟨nb i, 0, none⟩), .pointer (some ⟨nb i, 0, none⟩), .pointer (some ⟨nb i, 2, none⟩), .pointer (some ⟨nb p, 0, none⟩), .bool true, .pointer (some ⟨nb i, 0, none⟩), .pointer (some ⟨nb i, 0, none⟩), .pointer (some ⟨nb i, 2, none⟩), .pointer (some ⟨nb p, 0, none⟩), .func (.func 106) #[] #[.pointer (some ⟨W.heap.size + 1, 0, none⟩)], .pointer (some ⟨nb x.1, 0, none⟩), undef, undef, undef, undef, undef, undef, undef], defers := [] }) ?assign ?body ?done ?stop
      case assign =>
        intro l2 x W2 K hK
        gi_wp2
        exact hK
      case body =>
        rintro l2 pre x W2 ⟨⟨hJ2, hB2⟩, ⟨hy2, hx2⟩, hz2⟩ hlen hz
        have cy := hy2.cell
        obtain ⟨fn, tmps, assign, body, hy, hR⟩ := yield_any (n - 1 - 1 - 1) (hY pre x W2 hJ2 hlen (by omega))
        gi_wp2
        refine ⟨fun h => by simp [Fence.wide] at h, ?_⟩
        refine (show RoundIn (Fence.wide.inRound l2) (n - 1 - 1 - 1) Tryd.prog l' fn tmps assign body W2 _ from hR).mono ?_
        rintro e W3 (⟨rfl, hJ3, hb3, hk3⟩ | ⟨rfl, hx3, hk3⟩)
        · gi_wp2
          exact ⟨hk3.mono (by simp; omega), hb3, ⟨⟨hJ3, hB2.trans hb3⟩, ⟨hy2.keep hb3 hk3, hx2.keep hb3 hk3⟩, Nat.le_trans hz2 hk3.size⟩⟩
        · gi_wp2
          exact ⟨hk3.mono (by simp; omega), rfl, hx3⟩
      case done =>
        rintro L ys W2 hL hS ⟨⟨hJ2, hB2⟩, ⟨hy2, hx2⟩, hz2⟩ hK
        have cy := hy2.cell
        have cx := hx2.cell
        have hlen : ys.length < N := by
          have h1 := congrArg List.length hS
          rw [List.length_map] at h1
          omega
        obtain ⟨fn, tmps, assign, body, hy, hR⟩ := hY ys ⟨i, hi⟩ W2 hJ2 hlen (by omega)
        dsimp only at hy
        have hLz : W.heap.size ≤ L := by simp at hL; omega
        gi_wp2
        refine ⟨fun h => by simp [Fence.wide] at h, ?_⟩
        refine hR.mono ?_
        rintro e W3 (⟨rfl, hJ3, hb3, hk3⟩ | ⟨rfl, hx3, hk3⟩)
        · have hK3 := hk3.same L _ (by omega) hK (fun c t fz he => by cases he)
          gi_wp2
          refine ⟨by simp, .inl ⟨_, _, rfl, run_takeDeferred hK3, ?_⟩⟩
          refine ⟨_, results_none rfl _ _ _, ⟨_, rfl⟩, .inl ⟨ys ++ [⟨i, hi⟩], ?_, hJ.putObj _ hJ3 hLz hK3 rfl⟩⟩
          rw [HR.out, List.map_append, hS]; rfl
        · have hK3 := hk3.same L _ hLz hK (fun c t fz he => by cases he)
          gi_wp2
          refine ⟨by simp, .inl ⟨_, _, rfl, run_takeDeferred hK3, ?_⟩⟩
          refine ⟨_, results_none rfl _ _ _, ⟨_, rfl⟩, .inr ⟨ys ++ [⟨i, hi⟩], ?_, hJx.putObj _ hx3 hLz hK3 rfl⟩⟩
          rw [HR.out, List.map_append, hS]; exact List.prefix_refl _
      case stop =>
        rintro L c pre W2 hL hSp ⟨rfl, hx⟩ hK
        gi_wp2
        refine ⟨by simp, .inl ⟨_, _, rfl, run_takeDeferred hK, ?_⟩⟩
        refine ⟨_, results_none rfl _ _ _, ⟨_, rfl⟩, .inr ⟨pre, ?_, hJx.putObj _ hx (by simp at hL; omega) hK rfl⟩⟩
        rw [HR.out]
        exact hSp.trans (List.prefix_append _ _)

end Go.Proofs.YtdbddockmdkmeaaDoor
