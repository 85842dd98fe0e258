/- Joined: Pp Jr Ch Po Cp. -/
import Derived.Test.YtifkmehnikfihaaGreatU14
/- The path of a node, yielded by an iterator that calls itself. -/
namespace Go.Proofs.YtifkmehnikfihaaGreat
open Go.RowKit Go.Shelf
attribute [local go_sem] Oper.semAt_some

theorem yield_any {m : Nat} (m' : Nat) {P : Program} {l : Nat} {args : Array Value} {W : World} {R : Ending → World → Prop} (h : YieldAt Fence.wide m P l args W R) : YieldAt Fence.wide m' P l args W R := by
  obtain ⟨fn, tmps, assign, body, hy, hR⟩ := h
  exact ⟨fn, tmps, assign, body, hy, ⟨hR.1, fun c cs _ => hR.2 c cs (fun d h => by simp [Fence.wide] at h)⟩⟩

/-- From the root down to a segment, by index. -/
def rootPath (l : List Seg) : Nat → Nat → List Nat
  | 0, _ => []
  | f + 1, i => (if parAt l i < 0 then [] else rootPath l f (parAt l i).toNat) ++ [i]
theorem rootPath_len (l : List Seg) : ∀ f i, (rootPath l f i).length ≤ f
  | 0, _ => Nat.le_refl 0
  | f + 1, i => by
    unfold rootPath
    have := rootPath_len l f (parAt l i).toNat
    split <;> simp <;> omega
theorem rootPath_lt {l : List Seg} (hd : Down l l.length) : ∀ f i, i < l.length → ∀ j ∈ rootPath l f i, j < l.length
  | 0, _, _, j, hj => by simp [rootPath] at hj
  | f + 1, i, hi, j, hj => by
    unfold rootPath at hj
    have h1 := hd i hi
    rcases List.mem_append.1 hj with h | h
    · split at h
      · simp at h
      · exact rootPath_lt hd f _ (by omega) j h
    · simp at h; omega
theorem rootPath_chain {l : List Seg} (hd : Down l l.length) : ∀ f i, i < l.length → i < f → (chain l f (i : Int)).reverse = (rootPath l f i).map (fun j : Nat => (j : Int))
  | 0, i, _, h => absurd h (by omega)
  | f + 1, i, hi, hf => by
    have h1 := hd i hi
    unfold chain rootPath
    rw [if_neg (by omega), Int.toNat_natCast, List.reverse_cons, List.map_append]
    congr 1
    by_cases hp : parAt l i < 0
    · rw [if_pos hp]
      cases f with
      | zero => rfl
      | succ f => simp [chain, hp]
    · rw [if_neg hp, ← rootPath_chain hd f _ (by omega) (by omega), Int.toNat_of_nonneg (by omega)]

set_option maxRecDepth 100000 in
set_option maxHeartbeats 400000 in
theorem path_any (p : Option Addr) (w : World) :
    Calls Tryz.prog 243 #[.pointer p] w fun e w' => e = .returned (.func (.func 262) #[] #[.pointer (some ⟨w.heap.size, 0, none⟩)]) ∧ w' = w.alloc (.cells #[.pointer p] 87) := by
  go_enter Tryz.func243, Tryz.ntmps243
  go_wp2
  go_ret
  exact ⟨rfl, rfl⟩

/-- What an iterator reads of the nodes. -/
def Linked (w : World) (n₀ : Nat) (l : List Seg) (nb : Nat → Nat) : Prop := ∀ j, j < l.length → nb j < n₀ ∧ w.cell? ⟨nb j, 2, none⟩ = some (.pointer (parPtr l nb j))
theorem Linked.below {w w' : World} {n₀ : Nat} {l : List Seg} {nb : Nat → Nat} (h : Linked w n₀ l nb) (hb : Below n₀ w w') : Linked w' n₀ l nb := fun j hj => ⟨(h j hj).1, (hb.cell (p := ⟨nb j, 2, none⟩) (h j hj).1).trans (h j hj).2⟩
/-- A box of one cell, kept by every round that goes on. -/
def BoxAt (W : World) (n₀ D Bs : Nat) (v : Value) (t : TypeId) : Prop := (Bs < n₀ ∨ D ≤ Bs) ∧ t ≠ 5 ∧ W.heap[Bs]? = some (.cells #[v] t (0, 0))
theorem BoxAt.cell {W : World} {n₀ D Bs : Nat} {v : Value} {t : TypeId} (h : BoxAt W n₀ D Bs v t) : W.cell? ⟨Bs, 0, none⟩ = some v := Row.cell (h.2.2 : Row W Bs t #[v]) 0
theorem BoxAt.keep {W W' : World} {n₀ D Bs : Nat} {v : Value} {t : TypeId} (h : BoxAt W n₀ D Bs v t) (hb : Below n₀ W W') (hk : KeepsN D W W') : BoxAt W' n₀ D Bs v t := by
  obtain ⟨h1, h2, h3⟩ := h
  refine ⟨h1, h2, ?_⟩
  rcases h1 with h1 | h1
  · exact (hb.block Bs h1).trans h3
  · exact hk.same Bs _ h1 h3 (fun c t' fz he => by injection he with hc ht; subst hc; subst ht; exact ⟨h2, .inl (Nat.le_refl 1)⟩)
theorem BoxAt.grown {W W' : World} {n₀ D Bs : Nat} {v : Value} {t : TypeId} (h : BoxAt W n₀ D Bs v t) {row : Option Nat} (hg : W.grownBy W' row) (hr : ∀ r, row = some r → ∃ o : Obj, W.heap[r]? = some o ∧ o.isCells = false) : BoxAt W' n₀ D Bs v t :=
  ⟨h.1, h.2.1, (hg.block Bs (Array.getElem?_eq_some_iff.1 h.2.2).1 (fun he => by
    obtain ⟨o, ho, hc⟩ := hr Bs he.symm
    rw [h.2.2] at ho
    injection ho with ho
    subst ho
    cases hc)).trans h.2.2⟩

set_option maxRecDepth 100000 in
set_option maxHeartbeats 2000000 in
theorem path1_seq (l : List Seg) (nb : Nat → Nat) (n₀ D N : Nat) (hdn : Down l l.length) : ∀ (f i : Nat), i < f → ∀ (_ : i < l.length) (n Bs : Nat) (w : World), BoxAt w n₀ D Bs (.pointer (some ⟨nb i, 0, none⟩)) 87 → Linked w n₀ l nb → n₀ ≤ w.heap.size → (rootPath l f i).length ≤ N → f + 1 ≤ n →
    SeqR n 262 #[.pointer (some ⟨Bs, 0, none⟩)] (fun x : Ix l => #[.pointer (some ⟨nb x.1, 0, none⟩)]) n₀ D (fun ys => ys.map (·.1) = rootPath l f i) (fun ys => ys.map (·.1) <+: rootPath l f i) N w := by
  intro f
  induction f with
  | zero => intro i hi; omega
  | succ f ih =>
    intro i hif hi n Bs w hbox hlk hn₀ hN hn l' J Jx W hbW hDW hJ hJx hY h0
    have hbox1 : BoxAt W n₀ D Bs (.pointer (some ⟨nb i, 0, none⟩)) 87 := by
      refine ⟨hbox.1, hbox.2.1, (hbW.block Bs ?_).trans hbox.2.2⟩
      exact (Array.getElem?_eq_some_iff.1 hbox.2.2).1
    have hlk1 : Linked W n₀ l nb := hlk.below (hbW.mono hn₀)
    have hBs : Bs < W.heap.size := (Array.getElem?_eq_some_iff.1 hbox1.2.2).1
    have hnb : nb i < W.heap.size := Nat.lt_of_lt_of_le (hlk1 i hi).1 (Nat.le_trans hn₀ hbW.size)
    have c1 := hbox1.cell
    have c2 := (hlk1 i hi).2
    by_cases hp : parAt l i < 0
    · have hpp : parPtr l nb i = none := if_pos hp
      have HR : Hid (rootPath l (f + 1) i = [i]) := by
        show _ = _
        unfold rootPath
        rw [if_pos hp]; rfl
      rw [hpp] at c2
      clear hpp
      obtain ⟨fn, tmps, assign, body, hy, hR⟩ := hY [] ⟨i, hi⟩ (W.alloc (.cells #[.func (.yield l') #[] #[]] 198)) (hJ.alloc _ h0) (by rw [HR.out] at hN; simp at hN ⊢; omega) (by simp)
      dsimp only at hy
      refine callsIn_of_wp_marks Tryz.func262 rfl trivial ?_ rfl
      simp only [Tryz.ntmps262, List.size_toArray, List.length_cons, List.length_nil, Nat.reduceAdd, Nat.reduceSub, Array.replicate_succ, Array.replicate_zero, List.push_toArray, List.append_toArray, List.nil_append, List.cons_append]
      gi_wp2
      refine ⟨fun h => by simp [Fence.wide] at h, ?_⟩
      refine hR.mono ?_
      rintro e W3 (⟨rfl, hJ3, _⟩ | ⟨rfl, hx3, _⟩)
      · gi_wp2
        refine ⟨_, results_none rfl _ _ _, ⟨_, rfl⟩, .inl ⟨_, ?_, hJ3⟩⟩
        rw [HR.out]; rfl
      · gi_wp2
        refine ⟨_, results_none rfl _ _ _, ⟨_, rfl⟩, .inr ⟨_, ?_, hx3⟩⟩
        rw [HR.out]; exact List.prefix_refl _
    · obtain ⟨p, hpe⟩ := Int.eq_ofNat_of_zero_le (show 0 ≤ parAt l i by omega)
      have hdi := hdn i hi
      have hpi : p < i := by omega
      have hpl : p < l.length := by omega
      have hpp : parPtr l nb i = some ⟨nb p, 0, none⟩ := by
        unfold parPtr
        rw [if_neg hp, hpe, Int.toNat_natCast]
      have HR : Hid (rootPath l (f + 1) i = rootPath l f p ++ [i]) := by
        show _ = _
        conv => lhs; unfold rootPath
        rw [if_neg hp, hpe, Int.toNat_natCast]
      rw [hpp] at c2
      clear hpp hdi hpe
      refine callsIn_of_wp_marks Tryz.func262 rfl trivial ?_ rfl
      simp only [Tryz.ntmps262, List.size_toArray, List.length_cons, List.length_nil, Nat.reduceAdd, Nat.reduceSub, Array.replicate_succ, Array.replicate_zero, List.push_toArray, List.append_toArray, List.nil_append, List.cons_append]
      gi_wp2
      refine ⟨trivial, fun h => by simp [Fence.wide] at h, ?_⟩
      refine (callsIn_wide.2 (path_any _ _)).mono ?_
      rintro e w' ⟨rfl, rfl⟩
      gi_wp2
      have hY0 : Row ((W.alloc (.cells #[.func (.yield l') #[] #[]] 198)).alloc (.cells #[.pointer (some ⟨nb p, 0, none⟩)] 87)) W.heap.size 198 #[.func (.yield l') #[] #[]] := (Row.new W _ _).alloc _
      have hP0 : Row ((W.alloc (.cells #[.func (.yield l') #[] #[]] 198)).alloc (.cells #[.pointer (some ⟨nb p, 0, none⟩)] 87)) (W.heap.size + 1) 87 #[.pointer (some ⟨nb p, 0, none⟩)] := by
        have := Row.new (W.alloc (.cells #[.func (.yield l') #[] #[]] 198)) 87 #[.pointer (some ⟨nb p, 0, none⟩)]
        rw [World.size_alloc] at this
        exact this
      have hn₀W : n₀ ≤ W.heap.size := Nat.le_trans hn₀ hbW.size
      have hB0 : Below n₀ W ((W.alloc (.cells #[.func (.yield l') #[] #[]] 198)).alloc (.cells #[.pointer (some ⟨nb p, 0, none⟩)] 87)) := ((Below.refl _ W).alloc hn₀W _).alloc (by simp; omega) _
      have hX0 : BoxAt ((W.alloc (.cells #[.func (.yield l') #[] #[]] 198)).alloc (.cells #[.pointer (some ⟨nb p, 0, none⟩)] 87)) n₀ D Bs (.pointer (some ⟨nb i, 0, none⟩)) 87 :=
        (hbox1.grown (World.grownBy_alloc W _ none) (fun r e => by cases e)).grown (World.grownBy_alloc _ _ none) (fun r e => by cases e)
      have hlenR : (rootPath l f p).length + 1 ≤ N := by
        have h1 := congrArg List.length HR.out
        rw [List.length_append] at h1
        simp at h1
        omega
      refine wpIn_rangeFunc_R (by omega) (gf := 262) (lb := #[.pointer (some ⟨W.heap.size + 1, 0, none⟩)]) rfl (enters_of Tryz.func262 (by kernel_rfl) rfl)
        (ih p (by omega) hpl (n - 1) (W.heap.size + 1) _ ⟨.inr (by omega), by decide, hP0⟩ (hlk1.below hB0) (by simp; omega) (by omega) (by omega)) (by simp; omega) (by simp; omega) (Below.refl _ _) (fun _ => rfl)
        (fun pre W' => (J pre W' ∧ Below n₀ W W') ∧ (BoxAt W' n₀ D W.heap.size (.func (.yield l') #[] #[]) 198 ∧ BoxAt W' n₀ D Bs (.pointer (some ⟨nb i, 0, none⟩)) 87) ∧ W.heap.size + 2 ≤ W'.heap.size)
        (fun c pre W' => c = .ret ∧ Jx pre W')
        (fun s A B row hs hg hr => ⟨⟨hJ s A B row hs.1.1 hg (fun r e => ⟨by have := (hr r e).1; simp at this; omega, (hr r e).2⟩), ownFrom_below (B := W.heap.size) hn₀W (by omega) s A B row hs.1.2 hg (fun r e => ⟨by have := (hr r e).1; simp at this; omega, (hr r e).2⟩)⟩,
          ⟨hs.2.1.1.grown hg (fun r e => (hr r e).2), hs.2.1.2.grown hg (fun r e => (hr r e).2)⟩, Nat.le_trans hs.2.2 hg.size⟩)
        (fun c s A B row hs hg hr => ⟨hs.1, hJx s A B row hs.2 hg (fun r e => ⟨by have := (hr r e).1; simp at this; omega, (hr r e).2⟩)⟩)
        ⟨⟨hJ.alloc _ (hJ.alloc _ h0), hB0⟩, ⟨⟨.inr hDW, by decide, hY0⟩, hX0⟩, by simp⟩
        (fun x => { tmps := #[.func (.yield l') #[] #[], .pointer (some ⟨Bs, 0, none⟩), .pointer (some ⟨W.heap.size, 0, none⟩), .pointer (some ⟨nb x.1, 0, none⟩), .pointer (some ⟨nb i, 0, none⟩), .pointer (some ⟨nb i, 0, none⟩), .pointer (some ⟨nb i, 2, none⟩), .pointer (some ⟨nb p, 0, none⟩), .bool true, .pointer (some ⟨nb i, 0, none⟩), .pointer (some ⟨nb i, 0, none⟩), .pointer (some ⟨nb i, 2, none⟩), .pointer (some ⟨nb p, 0, none⟩), .func (.func 262) #[] #[.pointer (some ⟨W.heap.size + 1, 0, none⟩)], .pointer (some ⟨nb x.1, 0, none⟩), undef, undef, undef, undef, undef, undef, undef], defers := [] }) ?assign ?body ?done ?stop
      case assign =>
        intro l2 x W2 K hK
        gi_wp2
        exact hK
      case body =>
        rintro l2 pre x W2 ⟨⟨hJ2, hB2⟩, ⟨hy2, hx2⟩, hz2⟩ hlen hz
        have cy := hy2.cell
        obtain ⟨fn, tmps, assign, body, hy, hR⟩ := yield_any (n - 1 - 1 - 1) (hY pre x W2 hJ2 hlen (by omega))
        gi_wp2
        refine ⟨fun h => by simp [Fence.wide] at h, ?_⟩
        refine (show RoundIn (Fence.wide.inRound l2) (n - 1 - 1 - 1) Tryz.prog l' fn tmps assign body W2 _ from hR).mono ?_
        rintro e W3 (⟨rfl, hJ3, hb3, hk3⟩ | ⟨rfl, hx3, hk3⟩)
        · gi_wp2
          exact ⟨hk3.mono (by simp; omega), hb3, ⟨⟨hJ3, hB2.trans hb3⟩, ⟨hy2.keep hb3 hk3, hx2.keep hb3 hk3⟩, Nat.le_trans hz2 hk3.size⟩⟩
        · gi_wp2
          exact ⟨hk3.mono (by simp; omega), rfl, hx3⟩
      case done =>
        rintro L ys W2 hL hS ⟨⟨hJ2, hB2⟩, ⟨hy2, hx2⟩, hz2⟩ hK
        have cy := hy2.cell
        have cx := hx2.cell
        have hlen : ys.length < N := by
          have h1 := congrArg List.length hS
          rw [List.length_map] at h1
          omega
        obtain ⟨fn, tmps, assign, body, hy, hR⟩ := hY ys ⟨i, hi⟩ W2 hJ2 hlen (by omega)
        dsimp only at hy
        have hLz : W.heap.size ≤ L := by simp at hL; omega
        gi_wp2
        refine ⟨fun h => by simp [Fence.wide] at h, ?_⟩
        refine hR.mono ?_
        rintro e W3 (⟨rfl, hJ3, hb3, hk3⟩ | ⟨rfl, hx3, hk3⟩)
        · have hK3 := hk3.same L _ (by omega) hK (fun c t fz he => by cases he)
          gi_wp2
          refine ⟨by simp, .inl ⟨_, _, rfl, run_takeDeferred hK3, ?_⟩⟩
          refine ⟨_, results_none rfl _ _ _, ⟨_, rfl⟩, .inl ⟨ys ++ [⟨i, hi⟩], ?_, hJ.putObj _ hJ3 hLz hK3 rfl⟩⟩
          rw [HR.out, List.map_append, hS]; rfl
        · have hK3 := hk3.same L _ hLz hK (fun c t fz he => by cases he)
          gi_wp2
          refine ⟨by simp, .inl ⟨_, _, rfl, run_takeDeferred hK3, ?_⟩⟩
          refine ⟨_, results_none rfl _ _ _, ⟨_, rfl⟩, .inr ⟨ys ++ [⟨i, hi⟩], ?_, hJx.putObj _ hx3 hLz hK3 rfl⟩⟩
          rw [HR.out, List.map_append, hS]; exact List.prefix_refl _
      case stop =>
        rintro L c pre W2 hL hSp ⟨rfl, hx⟩ hK
        gi_wp2
        refine ⟨by simp, .inl ⟨_, _, rfl, run_takeDeferred hK, ?_⟩⟩
        refine ⟨_, results_none rfl _ _ _, ⟨_, rfl⟩, .inr ⟨pre, ?_, hJx.putObj _ hx (by simp at hL; omega) hK rfl⟩⟩
        rw [HR.out]
        exact hSp.trans (List.prefix_append _ _)

end Go.Proofs.YtifkmehnikfihaaGreat
/- impl.joinNames and impl.PathOf over paths. -/
namespace Go.Proofs.YtifkmehnikfihaaGreat
open Go.RowKit Go.Shelf
attribute [local go_sem] Oper.semAt_some

theorem keptN_from {w w' : World} {b B Bl : Nat} (h : Lib.OthersKept 5 (some b) w w') (hb : Below Bl w w') (hB : b < B) : KeepsN B w w' :=
  ⟨hb.size, fun k o hk ho hn => h k o ho (fun he => by injection he with he; omega) (fun c fz he => (hn c _ fz he).1 rfl)⟩

set_option maxRecDepth 100000 in
set_option maxHeartbeats 2000000 in
theorem joinNamesR_any {gf : Nat} {lb : Array Value} (w : World) (l : List Seg) (nb : Nat → Nat) (hnode : ∀ x : Ix l, w.cell? ⟨nb x.1, 0, none⟩ = some (.string (l[x.1]'x.2).name)) (hone : ∀ s ∈ l, s.name.size ≤ 1)
    (S Sp : List (Ix l) → Prop) (N : Nat) (hN : N ≤ 1000) (heg : ∀ args w, (callFunc gf args).run Tryz.prog w = .ok (.enter gf args) w)
    (hseq : SeqR 19 gf lb (fun x : Ix l => #[.pointer (some ⟨nb x.1, 0, none⟩)]) w.heap.size (w.heap.size + 3) S Sp N w) :
    Calls Tryz.prog 98 #[.func (.func gf) #[] lb] w fun e w' => (∃ xs, S xs ∧ e = .returned (.string ⟨(nameBytes l xs).toArray⟩)) ∧ Below w.heap.size w w' := by
  refine (callsIn_wide (n := 20)).1 ?_
  refine callsIn_of_wp_marks Tryz.func98 rfl trivial ?_ rfl
  simp only [Tryz.ntmps98, List.size_toArray, List.length_cons, List.length_nil, Nat.reduceAdd, Nat.reduceSub, Array.replicate_succ, Array.replicate_zero, List.push_toArray, List.append_toArray, List.nil_append, List.cons_append]
  gi_wp2
  have hB0 : Below w.heap.size w (w.alloc (.cells #[.pointer none, .slice none 0 0] 93)) := (Below.refl _ w).alloc (Nat.le_refl _) _
  have hI0 : Lib.IsBuilderF 93 5 w.heap.size w.heap.size [] (w.alloc (.cells #[.pointer none, .slice none 0 0] 93)) := Lib.IsBuilderF.of (Lib.fresh_isBuilder _ _ w)
  refine wpIn_rangeFunc_R (by omega) (gf := gf) (lb := lb) rfl heg hseq (by simp) (by simp) hB0 (fun _ => rfl)
    (fun pre W => Lib.IsBuilderF 93 5 w.heap.size w.heap.size (Lib.byteCells (nameBytes l pre)) W ∧ Below w.heap.size w W)
    (fun _ _ _ => False)
    (OwnFrom.and (isB_own _ _ _ _ _ (fun pre => Lib.byteCells (nameBytes l pre))) (ownFrom_below (Nat.le_refl _) (by simp)))
    (fun _ _ _ _ _ hs _ _ => hs)
    ⟨hI0, hB0⟩
    (fun x => { tmps := #[.func (.func gf) #[] lb, undef, .string ⟨#[]⟩, .pointer (some ⟨w.heap.size, 0, none⟩), .pointer (some ⟨nb x.1, 0, none⟩), .func (.func gf) #[] lb, .pointer (some ⟨nb x.1, 0, none⟩), undef, undef, undef, undef, undef, undef], defers := [] }) ?assign ?body ?done ?stop
  case assign =>
    intro l x W K hK
    gi_wp2
    exact hK
  case body =>
    rintro l' pre x W ⟨hI, hB⟩ hlen _
    have hlt := World.block_lt_of_cell? w _ (hnode x)
    have nk : W.cell? ⟨nb x.1, 0, none⟩ = some (.string (l[x.1]'x.2).name) := (hB.cell (p := ⟨nb x.1, 0, none⟩) hlt).trans (hnode x)
    have HN : Hid _ := nameBytes_snoc l pre x
    have hl1 : (Lib.byteCells (nameBytes l pre)).length + (l[x.1]'x.2).name.size ≤ 140737488355328 := by
      have h1 := nameBytes_len hone pre
      have h2 := hone _ (List.getElem_mem x.2)
      have h3 : (Lib.byteCells (nameBytes l pre)).length = (nameBytes l pre).length := by simp [Lib.byteCells]
      omega
    generalize (l[x.1]'x.2).name = nm at *
    gi_wp2_with (refine ⟨trivial, ?_⟩; gi_at_call 86; refine (CallsIn.inRound l' (callsIn_wide.2 (writeString_any w.heap.size w.heap.size _ nm _ hI hl1 hB.size))).mono ?_; rintro e W1 ⟨rfl, hI1, hb1, hk1⟩)
    refine ⟨keptN_from hk1 hb1 (by simp), hb1, ?_, hB.trans hb1⟩
    rw [HN.out]
    have : Lib.byteCells (nameBytes l pre ++ nm.data.toList) = Lib.byteCells (nameBytes l pre) ++ Lib.strCells nm := by simp [Lib.byteCells, Lib.strCells]
    rw [this]
    exact hI1
  case done =>
    rintro D ys W hD hS ⟨hI, hB⟩ hK
    gi_wp2_with (refine ⟨trivial, ?_⟩; gi_at_call 87; refine (callsIn_wide.2 (Tryz.Builder_String_any_k w.heap.size w.heap.size _ _ hI hB.size)).mono ?_; rintro e W1 ⟨rfl, hI1, hb1, hk1⟩)
    have hbne : D ≠ w.heap.size := by simp at hD; omega
    have hK1 : W1.heap[D]? = some (.deferred (some [])) := hk1 D _ hK (fun he => hbne (by injection he)) (fun c fz he => by cases he)
    refine ⟨by simp, .inl ⟨_, _, rfl, run_takeDeferred hK1, ?_⟩⟩
    exact ⟨_, results_tmp rfl _ _ _, ⟨ys, hS, rfl⟩, (hB.trans hb1).trans (belowK_b (w := w) (Nat.le_refl _) W1 D _ _ (by simp at hD; omega) hK1 rfl rfl)⟩
  case stop =>
    rintro D c pre W _ _ h _
    exact h.elim

end Go.Proofs.YtifkmehnikfihaaGreat
/- ChildrenOf: the program's and the model's. -/
namespace Go.Proofs.YtifkmehnikfihaaGreat
open Go.RowKit Go.Shelf

def kidNames (l : List Seg) (i k : Nat) : ByteArray := ⟨((kidsOf l i k).flatMap (nmAt l)).toArray⟩
theorem kidNames_zero (l : List Seg) (i : Nat) : kidNames l i 0 = ⟨#[]⟩ := rfl
theorem kidNames_yes {l : List Seg} {i k : Nat} (hk : k < l.length) (h : parAt l k = (i : Int)) : kidNames l i (k + 1) = kidNames l i k ++ l[k].name := by
  apply WideShapes.bytes_inj
  show _ = (kidNames l i k ++ l[k].name).data.toList
  rw [ByteArray.data_append, Array.toList_append]
  show (kidsOf l i (k + 1)).flatMap (nmAt l) = (kidsOf l i k).flatMap (nmAt l) ++ _
  rw [kidsOf_succ, if_pos h, List.flatMap_append, List.flatMap_cons, List.flatMap_nil, List.append_nil, nmAt_of hk]
theorem kidNames_no {l : List Seg} {i k : Nat} (h : parAt l k ≠ (i : Int)) : kidNames l i (k + 1) = kidNames l i k := by
  unfold kidNames
  rw [kidsOf_succ, if_neg h, List.append_nil]
theorem kidNames_len {l : List Seg} (h : ∀ s ∈ l, s.name.size ≤ 1) (i : Nat) : ∀ k, k ≤ l.length → (kidNames l i k).size ≤ k
  | 0, _ => Nat.zero_le _
  | k + 1, hk => by
    have h1 := kidNames_len h i k (by omega)
    by_cases hp : parAt l k = (i : Int)
    · rw [kidNames_yes (by omega) hp, ByteArray.size_append]
      have := h _ (List.getElem_mem (show k < l.length by omega))
      omega
    · rw [kidNames_no hp]; omega

def kidsStr (l : List Seg) (s : ByteArray) : ByteArray := if indexB l s < 0 then ⟨#[]⟩ else kidNames l (indexB l s).toNat l.length
def hasSeg (l : List Seg) (s : ByteArray) : Bool := decide (0 ≤ indexB l s)
theorem index_valid {l : List Seg} {s : ByteArray} (h : 0 ≤ indexB l s) : validB l = true := by
  unfold indexB at h
  by_cases hv : validB l = true
  · exact hv
  · rw [if_neg hv] at h; omega

end Go.Proofs.YtifkmehnikfihaaGreat
/- PathOf: the program's and the model's. -/
namespace Go.Proofs.YtifkmehnikfihaaGreat
open Go.RowKit Go.Shelf

def namesAt (l : List Seg) (js : List Nat) : ByteArray := ⟨(js.flatMap (nmAt l)).toArray⟩
theorem namesAt_snoc {l : List Seg} (js : List Nat) {j : Nat} (hj : j < l.length) : namesAt l (js ++ [j]) = namesAt l js ++ l[j].name := by
  apply WideShapes.bytes_inj
  show _ = (namesAt l js ++ l[j].name).data.toList
  rw [ByteArray.data_append, Array.toList_append]
  show (js ++ [j]).flatMap (nmAt l) = js.flatMap (nmAt l) ++ _
  rw [List.flatMap_append, List.flatMap_cons, List.flatMap_nil, List.append_nil, nmAt_of hj]
theorem nmAt_len {l : List Seg} (h : ∀ s ∈ l, s.name.size ≤ 1) (j : Nat) : (nmAt l j).length ≤ 1 := by
  unfold nmAt
  cases hj : l[j]? with
  | none => exact Nat.zero_le _
  | some s =>
    have := h s (List.mem_of_getElem? hj)
    simpa using this
theorem namesAt_len {l : List Seg} (h : ∀ s ∈ l, s.name.size ≤ 1) : ∀ js : List Nat, (namesAt l js).size ≤ js.length
  | [] => Nat.le_refl 0
  | j :: js => by
    have h1 := namesAt_len h js
    have h2 := nmAt_len h j
    have e1 : ∀ is : List Nat, (namesAt l is).size = (is.flatMap (nmAt l)).length := fun is => by simp [namesAt, ByteArray.size]
    rw [e1] at h1 ⊢
    rw [List.flatMap_cons, List.length_append, List.length_cons]
    omega

set_option maxRecDepth 100000 in
set_option maxHeartbeats 400000 in
theorem l1Names_any (A : Option Addr) (l : List Seg) (c g cap base : Nat) (js : List Nat) (w : World) (hw : Segs w w.heap.size A l) (hl : l.length ≤ 1048576) (hone : ∀ s ∈ l, s.name.size ≤ 1) (hjs : ∀ j ∈ js, j < l.length) (hjl : js.length ≤ 1048577)
    (hown : w.ownsRow base 3 1 (.slice (some ⟨g, 0, none⟩) js.length cap) js.length ((js.map fun j : Nat => (j : Int)).map (Value.int .i64))) :
    Calls Tryz.prog 219 #[.slice A l.length c, .slice (some ⟨g, 0, none⟩) js.length cap] w fun e w' => e = .returned (.string (namesAt l js)) ∧ w = w' := by
  have HW : Hid (Segs w w.heap.size A l) := hw
  have HO := Lib.hid hown
  have HJ := Lib.hid hjs
  have H1 := Lib.hid hone
  clear hw hown hjs hone
  go_enter Tryz.func219, Tryz.ntmps219
  go_wp2
  go_loop [5, 10] (fun s i => ∃ (k : Nat), k ≤ js.length ∧ i = .int .i64 k ∧ s = .string (namesAt l (js.take k)))
    (fun _ i => js.length - (intOf i).toNat)
  case atStart => exact ⟨0, Nat.zero_le _, rfl, rfl⟩
  case round =>
    obtain ⟨k, hk, rfl, rfl⟩ := hrel
    by_cases hlt : k < js.length
    · have hj := HJ.out js[k] (List.getElem_mem hlt)
      have hc : w.cell? ⟨g, k, none⟩ = some (.int .i64 (js[k] : Int)) := by
        rw [HO.out.cellAt k (by omega)]
        simp [hlt]
      obtain ⟨b, o, rfl, hB, hc'⟩ := HW.out (by omega)
      obtain ⟨c0, c1, c2⟩ := hc' js[k] l[js[k]] (List.getElem?_eq_getElem hj)
      clear hc' c1 c2
      have HQ : Hid (namesAt l (js.take (k + 1)) = namesAt l (js.take k) ++ l[js[k]].name) := by
        show _ = _
        rw [List.take_succ_eq_append_getElem hlt, namesAt_snoc _ hj]
      have hlen : (namesAt l (js.take k)).size ≤ 1048577 := by
        have h1 := namesAt_len H1.out (js.take k)
        rw [List.length_take] at h1
        omega
      have hx1 := H1.out l[js[k]] (List.getElem_mem hj)
      have hj0 : (0 : Int) ≤ (js[k] : Int) := Int.natCast_nonneg _
      have hj1 : (js[k] : Int) < (l.length : Int) := by omega
      generalize l[js[k]] = x at *
      generalize js[k] = j at *
      go_wp2
      go_round
      case rel => exact ⟨k + 1, by omega, by go_num, by rw [HQ.out]⟩
      case measure => simp [intOf]; omega
    · obtain rfl : k = js.length := by omega
      have HE : Hid (namesAt l (js.take js.length) = namesAt l js) := by
        show _ = _
        rw [List.take_length]
      go_wp2
      go_ret
      exact ⟨by rw [← HE.out]; rfl, rfl⟩

def pathStr (l : List Seg) (s : ByteArray) : ByteArray := if indexB l s < 0 then ⟨#[]⟩ else namesAt l (rootPath l ((indexB l s).toNat + 1) (indexB l s).toNat)

set_option maxRecDepth 100000 in
set_option maxHeartbeats 400000 in
theorem specPath_any (A : Option Addr) (l : List Seg) (c : Nat) (s : ByteArray) (w : World) (hw : Segs w w.heap.size A l) (hl : l.length ≤ 1048576) (hn : Short l) :
    Calls Tryz.prog 209 #[.slice A l.length c, .string s] w fun e w' => e = .returned (.tuple #[.string (pathStr l s), .bool (hasSeg l s)]) ∧ Below w.heap.size w w' := by
  have HW : Hid (Segs w w.heap.size A l) := hw
  clear hw
  rcases indexB_bd l s with hi | ⟨h0, hi⟩
  · have HF : Hid (pathStr l s = ⟨#[]⟩ ∧ hasSeg l s = false) := ⟨if_pos (by omega), decide_eq_false (by omega)⟩
    have HI := Lib.hid hi
    clear hi
    go_enter Tryz.func209, Tryz.ntmps209
    go_wp2_with fail
    refine (l1Index_any _ _ _ _ _ HW.out hl hn).mono ?_
    rw [HI.out]
    rintro e w1 ⟨rfl, hb1⟩
    go_wp2
    go_ret2
    exact ⟨ret_two HF.out.1.symm HF.out.2.symm, hb1⟩
  · have HO : Hid _ := valid_names (index_valid h0)
    have HD : Hid (Down l l.length) := (valid_all (index_valid h0)).1.down
    obtain ⟨i, hk⟩ := Int.eq_ofNat_of_zero_le h0
    have HI := Lib.hid hk
    have hil : i < l.length := by omega
    have HF : Hid (pathStr l s = namesAt l (rootPath l (i + 1) i) ∧ hasSeg l s = true) := by
      refine ⟨?_, decide_eq_true h0⟩
      unfold pathStr
      rw [if_neg (by omega), hk, Int.toNat_natCast]
    have HP : Hid (pathOf l i = (rootPath l (i + 1) i).map fun j : Nat => (j : Int)) := rootPath_chain HD.out (i + 1) i hil (by omega)
    have HL : Hid (∀ j ∈ rootPath l (i + 1) i, j < l.length) := rootPath_lt HD.out (i + 1) i hil
    have HZ : Hid ((rootPath l (i + 1) i).length ≤ 1048577) := Nat.le_trans (rootPath_len l (i + 1) i) (by omega)
    clear hk hi h0
    go_enter Tryz.func209, Tryz.ntmps209
    go_wp2_with fail
    refine (l1Index_any _ _ _ _ _ HW.out hl hn).mono ?_
    rw [HI.out]
    rintro e w1 ⟨rfl, hb1⟩
    go_wp2_with fail
    refine (l1Path_any _ _ _ _ _ ((HW.out.below hb1).more hb1.size) hl hil (HD.out.mono (by omega))).mono ?_
    rw [HP.out]
    rintro e w2 ⟨g, cap, rfl, hown, hb2⟩
    rw [List.length_map] at hown ⊢
    have HO2 := Lib.hid hown
    have B2 := hb1.trans (hb2.mono hb1.size)
    clear hown hb1 hb2
    go_wp2_with fail
    refine (l1Names_any _ _ _ _ _ _ _ _ ((HW.out.below B2).more B2.size) hl HO.out HL.out HZ.out HO2.out).mono ?_
    rintro e w3 ⟨rfl, rfl⟩
    go_wp2
    go_ret2
    exact ⟨ret_two HF.out.1.symm HF.out.2.symm, B2⟩

end Go.Proofs.YtifkmehnikfihaaGreat
/- Two paths from the root: what they have in common. No program. -/
namespace Go.Proofs.YtifkmehnikfihaaGreat
open Go.RowKit

def rp (l : List Seg) (i : Nat) : List Nat := rootPath l (i + 1) i
theorem rootPath_fuel {l : List Seg} (hd : Down l l.length) : ∀ (f g i : Nat), i < l.length → i < f → i < g → rootPath l f i = rootPath l g i
  | 0, _, _, _, h, _ => absurd h (by omega)
  | _ + 1, 0, _, _, _, h => absurd h (by omega)
  | f + 1, g + 1, i, hi, hf, hg => by
    have h1 := hd i hi
    unfold rootPath
    by_cases hp : parAt l i < 0
    · rw [if_pos hp, if_pos hp]
    · rw [if_neg hp, if_neg hp, rootPath_fuel hd f g _ (by omega) (by omega) (by omega)]
theorem rp_root {l : List Seg} {i : Nat} (hp : parAt l i < 0) : rp l i = [i] := by
  unfold rp rootPath
  rw [if_pos hp]; rfl
theorem rp_step {l : List Seg} (hd : Down l l.length) {i p : Nat} (hi : i < l.length) (hp : parAt l i = (p : Int)) : rp l i = rp l p ++ [i] := by
  have h1 := hd i hi
  have h2 : rp l i = (if parAt l i < 0 then [] else rootPath l i (parAt l i).toNat) ++ [i] := rfl
  rw [h2, if_neg (by omega), hp, Int.toNat_natCast]
  unfold rp
  rw [rootPath_fuel hd i (p + 1) p (by omega) (by omega) (by omega)]
theorem par_cases {l : List Seg} (hd : Down l l.length) {i : Nat} (hi : i < l.length) : parAt l i < 0 ∨ ∃ p : Nat, parAt l i = (p : Int) ∧ p < i := by
  have h1 := hd i hi
  by_cases hp : parAt l i < 0
  · exact .inl hp
  · obtain ⟨p, hpe⟩ := Int.eq_ofNat_of_zero_le (show 0 ≤ parAt l i by omega)
    exact .inr ⟨p, hpe, by omega⟩
theorem rp_ind {l : List Seg} (hd : Down l l.length) {C : Nat → Prop} (h0 : ∀ i, i < l.length → parAt l i < 0 → C i) (h1 : ∀ i p, i < l.length → p < i → parAt l i = (p : Int) → C p → C i) : ∀ i, i < l.length → C i := by
  intro i
  induction i using Nat.strongRecOn with
  | ind i ih =>
    intro hi
    rcases par_cases hd hi with hp | ⟨p, hp, hpi⟩
    · exact h0 i hi hp
    · exact h1 i p hi hpi hp (ih p hpi (by omega))
theorem rp_last {l : List Seg} (hd : Down l l.length) (i : Nat) (hi : i < l.length) : ∃ A, rp l i = A ++ [i] := by
  rcases par_cases hd hi with hp | ⟨p, hp, _⟩
  · exact ⟨[], rp_root hp⟩
  · exact ⟨_, rp_step hd hi hp⟩
theorem rp_le {l : List Seg} (hd : Down l l.length) : ∀ i, i < l.length → ∀ v ∈ rp l i, v ≤ i :=
  rp_ind hd (fun i _ hp v hv => by rw [rp_root hp] at hv; simp at hv; omega) (fun i p hi hpi hp ih v hv => by
    rw [rp_step hd hi hp] at hv
    rcases List.mem_append.1 hv with h | h
    · have := ih v h; omega
    · simp at h; omega)
theorem rp_asc {l : List Seg} (hd : Down l l.length) : ∀ i, i < l.length → (rp l i).Pairwise (· < ·) :=
  rp_ind hd (fun i _ hp => by rw [rp_root hp]; exact List.pairwise_singleton _ _) (fun i p hi hpi hp ih => by
    rw [rp_step hd hi hp, List.pairwise_append]
    refine ⟨ih, List.pairwise_singleton _ _, fun a ha b hb => ?_⟩
    have := rp_le hd p (by omega) a ha
    simp at hb
    omega)
theorem rp_prefix {l : List Seg} (hd : Down l l.length) : ∀ i, i < l.length → ∀ v ∈ rp l i, rp l v <+: rp l i :=
  rp_ind hd (fun i _ hp v hv => by
    rw [rp_root hp] at hv
    simp at hv
    subst hv
    exact List.prefix_refl _) (fun i p hi hpi hp ih v hv => by
    have he := rp_step hd hi hp
    rw [he] at hv
    rcases List.mem_append.1 hv with h | h
    · rw [he]; exact (ih v h).trans (List.prefix_append _ _)
    · simp at h
      subst h
      exact List.prefix_refl _)
theorem par_nonneg {l : List Seg} (h : AllOk l l.length) {i : Nat} (hi : i < l.length) (h0 : 0 < i) : 0 ≤ parAt l i := by
  have h1 := h i hi
  rw [segOk_of hi] at h1
  simp only [Bool.and_eq_true] at h1
  have h2 := h1.2
  unfold parOk at h2
  rw [if_neg (by omega)] at h2
  exact (chain_mem (h.down.mono (Nat.le_of_lt hi)) i _ (by omega) _ (List.contains_iff_mem.1 h2)).1
theorem rp_head {l : List Seg} (h : AllOk l l.length) : ∀ i, i < l.length → ∃ A, rp l i = 0 :: A :=
  rp_ind h.down (fun i hi hp => by
    rcases Nat.eq_zero_or_pos i with rfl | h0
    · exact ⟨[], rp_root hp⟩
    · have := par_nonneg h hi h0; omega) (fun i p hi hpi hp ⟨A, hA⟩ => ⟨A ++ [i], by rw [rp_step h.down hi hp, hA]; rfl⟩)

def comLen {α : Type} [DecidableEq α] : List α → List α → Nat
  | a :: xs, b :: ys => if a = b then comLen xs ys + 1 else 0
  | _, _ => 0
theorem comLen_map {α β : Type} [DecidableEq α] [DecidableEq β] (f : α → β) : ∀ (xs ys : List α), (∀ a ∈ xs, ∀ b ∈ ys, f a = f b → a = b) → comLen (xs.map f) (ys.map f) = comLen xs ys
  | [], _, _ => by simp [comLen]
  | _ :: _, [], _ => by simp [comLen]
  | a :: xs, b :: ys, h => by
    have h1 := comLen_map f xs ys (fun x hx y hy => h x (List.mem_cons_of_mem _ hx) y (List.mem_cons_of_mem _ hy))
    simp only [List.map_cons, comLen]
    by_cases he : a = b
    · rw [if_pos he, if_pos (by rw [he]), h1]
    · rw [if_neg he, if_neg (fun e => he (h a List.mem_cons_self b List.mem_cons_self e))]
theorem comLen_prefix {α : Type} [DecidableEq α] : ∀ (Q xs ys : List α), Q <+: xs → Q <+: ys → Q.length ≤ comLen xs ys
  | [], _, _, _, _ => Nat.zero_le _
  | q :: Q, xs, ys, ⟨A, hA⟩, ⟨B, hB⟩ => by
    subst hA hB
    simp only [List.cons_append, comLen, List.length_cons, if_true]
    have := comLen_prefix Q (Q ++ A) (Q ++ B) ⟨A, rfl⟩ ⟨B, rfl⟩
    omega
theorem comLen_get {α : Type} [DecidableEq α] : ∀ (xs ys : List α) (k : Nat), k < comLen xs ys → ∃ x, xs[k]? = some x ∧ ys[k]? = some x
  | [], _, _, h => by simp [comLen] at h
  | _ :: _, [], _, h => by simp [comLen] at h
  | a :: xs, b :: ys, k, h => by
    simp only [comLen] at h
    by_cases he : a = b
    · rw [if_pos he] at h
      cases k with
      | zero => exact ⟨a, rfl, by rw [he]; rfl⟩
      | succ k => exact comLen_get xs ys k (by omega)
    · rw [if_neg he] at h; omega
theorem comLen_le {α : Type} [DecidableEq α] : ∀ (xs ys : List α), comLen xs ys ≤ xs.length ∧ comLen xs ys ≤ ys.length
  | [], _ => by simp [comLen]
  | _ :: _, [] => by simp [comLen]
  | a :: xs, b :: ys => by
    have h := comLen_le xs ys
    simp only [comLen, List.length_cons]
    split <;> omega

theorem snoc_unique {P A B : List Nat} {v : Nat} (hP : P.Pairwise (· < ·)) (hA : A ++ [v] <+: P) (hB : B ++ [v] <+: P) : A.length = B.length := by
  have hget : ∀ C, C ++ [v] <+: P → ∃ h : C.length < P.length, P[C.length] = v := fun C ⟨r, hr⟩ => by
    have hl : C.length < P.length := by rw [← hr]; simp
    refine ⟨hl, ?_⟩
    have : P[C.length]? = some v := by rw [← hr]; simp
    rw [List.getElem?_eq_getElem hl] at this
    injection this
  obtain ⟨ha, hva⟩ := hget A hA
  obtain ⟨hb, hvb⟩ := hget B hB
  have hp := List.pairwise_iff_getElem.1 hP
  rcases Nat.lt_trichotomy A.length B.length with h | h | h
  · have := hp _ _ ha hb h; omega
  · exact h
  · have := hp _ _ hb ha h; omega

/-- A beginning 'T' of the path of i, all on the path of j, behind which the path ends or leaves: it is what the two have in common. -/
theorem com_of {l : List Seg} (hd : Down l l.length) {i j : Nat} (hi : i < l.length) (hj : j < l.length) {T : List Nat} (hT : T <+: rp l i) (hall : ∀ v ∈ T, v ∈ rp l j)
    (hend : T = rp l i ∨ ∃ x, T ++ [x] <+: rp l i ∧ x ∉ rp l j) : comLen (rp l i) (rp l j) = T.length := by
  apply Nat.le_antisymm
  · apply Nat.le_of_not_lt
    intro hlt
    rcases hend with h | ⟨x, ⟨r, hr⟩, hx⟩
    · have := (comLen_le (rp l i) (rp l j)).1
      rw [h] at hlt; omega
    · obtain ⟨y, h1, h2⟩ := comLen_get _ _ _ hlt
      have h3 : (rp l i)[T.length]? = some x := by rw [← hr]; simp
      rw [h3] at h1
      injection h1 with h1
      subst h1
      exact hx (List.mem_of_getElem? h2)
  · rcases List.eq_nil_or_concat T with h | ⟨A, v, h⟩
    · rw [h]; exact Nat.zero_le _
    · rw [List.concat_eq_append] at h
      subst h
      have hv : v ∈ rp l j := hall v (by simp)
      obtain ⟨r, hr⟩ := hT
      have hvi : v ∈ rp l i := by rw [← hr]; simp
      have hvl : v < l.length := by have := rp_le hd i hi v hvi; omega
      obtain ⟨B, hB⟩ := rp_last hd v hvl
      have h1 := rp_prefix hd i hi v hvi
      have h2 := rp_prefix hd j hj v hv
      rw [hB] at h1 h2
      have hlen := snoc_unique (rp_asc hd i hi) ⟨r, hr⟩ h1
      have := comLen_prefix (B ++ [v]) _ _ h1 h2
      simp at this ⊢
      omega

end Go.Proofs.YtifkmehnikfihaaGreat
