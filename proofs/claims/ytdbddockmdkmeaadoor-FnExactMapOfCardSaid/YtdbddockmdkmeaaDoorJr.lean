/- impl.joinNames and impl.PathOf over paths. -/
import Derived.Test.YtdbddockmdkmeaaDoorPp
namespace Go.Proofs.YtdbddockmdkmeaaDoor
open Go.RowKit Go.Shelf
attribute [local go_sem] Oper.semAt_some

theorem keptN_from {w w' : World} {b B Bl : Nat} (h : Lib.OthersKept 5 (some b) w w') (hb : Below Bl w w') (hB : b < B) : KeepsN B w w' :=
  ⟨hb.size, fun k o hk ho hn => h k o ho (fun he => by injection he with he; omega) (fun c fz he => (hn c _ fz he).1 rfl)⟩

set_option maxRecDepth 100000 in
set_option maxHeartbeats 2000000 in
theorem joinNamesR_any {gf : Nat} {lb : Array Value} (w : World) (l : List Seg) (nb : Nat → Nat) (hnode : ∀ x : Ix l, w.cell? ⟨nb x.1, 0, none⟩ = some (.string (l[x.1]'x.2).name)) (hone : ∀ s ∈ l, s.name.size ≤ 1)
    (S Sp : List (Ix l) → Prop) (N : Nat) (hN : N ≤ 1000) (heg : ∀ args w, (callFunc gf args).run Tryd.prog w = .ok (.enter gf args) w)
    (hseq : SeqR 19 gf lb (fun x : Ix l => #[.pointer (some ⟨nb x.1, 0, none⟩)]) w.heap.size (w.heap.size + 3) S Sp N w) :
    Calls Tryd.prog 74 #[.func (.func gf) #[] lb] w fun e w' => (∃ xs, S xs ∧ e = .returned (.string ⟨(nameBytes l xs).toArray⟩)) ∧ Below w.heap.size w w' := by
  refine (callsIn_wide (n := 20)).1 ?_
  refine callsIn_of_wp_marks Tryd.func74 rfl trivial ?_ rfl
  simp only [Tryd.ntmps74, List.size_toArray, List.length_cons, List.length_nil, Nat.reduceAdd, Nat.reduceSub, Array.replicate_succ, Array.replicate_zero, List.push_toArray, List.append_toArray, List.nil_append, List.cons_append]
  gi_wp2
  have hB0 : Below w.heap.size w (w.alloc (.cells #[.pointer none, .slice none 0 0] 56)) := (Below.refl _ w).alloc (Nat.le_refl _) _
  have hI0 : Lib.IsBuilderF 56 5 w.heap.size w.heap.size [] (w.alloc (.cells #[.pointer none, .slice none 0 0] 56)) := Lib.IsBuilderF.of (Lib.fresh_isBuilder _ _ w)
  refine wpIn_rangeFunc_R (by omega) (gf := gf) (lb := lb) rfl heg hseq (by simp) (by simp) hB0 (fun _ => rfl)
    (fun pre W => Lib.IsBuilderF 56 5 w.heap.size w.heap.size (Lib.byteCells (nameBytes l pre)) W ∧ Below w.heap.size w W)
    (fun _ _ _ => False)
    (OwnFrom.and (isB_own _ _ _ _ _ (fun pre => Lib.byteCells (nameBytes l pre))) (ownFrom_below (Nat.le_refl _) (by simp)))
    (fun _ _ _ _ _ hs _ _ => hs)
    ⟨hI0, hB0⟩
    (fun x => { tmps := #[.func (.func gf) #[] lb, undef, .string ⟨#[]⟩, .pointer (some ⟨w.heap.size, 0, none⟩), .pointer (some ⟨nb x.1, 0, none⟩), .func (.func gf) #[] lb, .pointer (some ⟨nb x.1, 0, none⟩), undef, undef, undef, undef, undef, undef], defers := [] }) ?assign ?body ?done ?stop
  case assign =>
    intro l x W K hK
    gi_wp2
    exact hK
  case body =>
    rintro l' pre x W ⟨hI, hB⟩ hlen _
    have hlt := World.block_lt_of_cell? w _ (hnode x)
    have nk : W.cell? ⟨nb x.1, 0, none⟩ = some (.string (l[x.1]'x.2).name) := (hB.cell (p := ⟨nb x.1, 0, none⟩) hlt).trans (hnode x)
    have HN : Hid _ := nameBytes_snoc l pre x
    have hl1 : (Lib.byteCells (nameBytes l pre)).length + (l[x.1]'x.2).name.size ≤ 140737488355328 := by
      have h1 := nameBytes_len hone pre
      have h2 := hone _ (List.getElem_mem x.2)
      have h3 : (Lib.byteCells (nameBytes l pre)).length = (nameBytes l pre).length := by simp [Lib.byteCells]
      omega
    generalize (l[x.1]'x.2).name = nm at *
    gi_wp2_with (refine ⟨trivial, ?_⟩; gi_at_call 82; refine (CallsIn.inRound l' (callsIn_wide.2 (writeString_any w.heap.size w.heap.size _ nm _ hI hl1 hB.size))).mono ?_; rintro e W1 ⟨rfl, hI1, hb1, hk1⟩)
    refine ⟨keptN_from hk1 hb1 (by simp), hb1, ?_, hB.trans hb1⟩
    rw [HN.out]
    have : Lib.byteCells (nameBytes l pre ++ nm.data.toList) = Lib.byteCells (nameBytes l pre) ++ Lib.strCells nm := by simp [Lib.byteCells, Lib.strCells]
    rw [this]
    exact hI1
  case done =>
    rintro D ys W hD hS ⟨hI, hB⟩ hK
    gi_wp2_with (refine ⟨trivial, ?_⟩; gi_at_call 51; refine (callsIn_wide.2 (Tryd.Builder_String_any_k w.heap.size w.heap.size _ _ hI hB.size)).mono ?_; rintro e W1 ⟨rfl, hI1, hb1, hk1⟩)
    have hbne : D ≠ w.heap.size := by simp at hD; omega
    have hK1 : W1.heap[D]? = some (.deferred (some [])) := hk1 D _ hK (fun he => hbne (by injection he)) (fun c fz he => by cases he)
    refine ⟨by simp, .inl ⟨_, _, rfl, run_takeDeferred hK1, ?_⟩⟩
    exact ⟨_, results_tmp rfl _ _ _, ⟨ys, hS, rfl⟩, (hB.trans hb1).trans (belowK_b (w := w) (Nat.le_refl _) W1 D _ _ (by simp at hD; omega) hK1 rfl rfl)⟩
  case stop =>
    rintro D c pre W _ _ h _
    exact h.elim

end Go.Proofs.YtdbddockmdkmeaaDoor
