/- Joined: Je Jf. -/
import Derived.Test.YtbmfbnlmdjnddaaGreatU21
import Derived.Test.YtbmfbnlmdjnddaaGreatU22
import Derived.Test.YtbmfbnlmdjnddaaGreatU03
/- The program's graph: a map of sets, made out of pairs. -/
namespace Go.Proofs.YtbmfbnlmdjnddaaGreat
open Go.RowKit Go.Shelf

/-- A set of names in memory: what was put in. -/
def SetAt (X : World) (c : Nat) (xs : List Txt) : Prop := ∃ E, PairsHeld X c xs.length xs E ∧ ∀ k, E.atKey k (.lit (.bool false)) = .lit (.bool (Maps.has E k))
theorem SetAt.block {X Y : World} {c : Nat} {xs : List Txt} (h : SetAt X c xs) (hk : Y.heap[c]? = X.heap[c]?) : SetAt Y c xs := by
  obtain ⟨E, ⟨⟨es, clock, hb, r⟩, hh⟩, hv⟩ := h
  exact ⟨E, ⟨⟨es, clock, hk.trans hb, r⟩, hh⟩, hv⟩
theorem SetAt.lt {X : World} {c : Nat} {xs : List Txt} (h : SetAt X c xs) : c < X.heap.size := by
  obtain ⟨E, h1, _⟩ := h
  exact h1.own.lt
theorem SetAt.made (X : World) : SetAt (X.alloc (.map #[] 0)) X.heap.size [] := ⟨.map [], ⟨World.ownsMap_made X Tryz.prog 9 (plainElem Tryz.prog 4), fun s => by simp [Maps.has]⟩, fun k => rfl⟩
theorem SetAt.step {X : World} {c : Nat} {xs : List Txt} (h : SetAt X c xs) (hn : xs.length ≤ 1000) (x : Txt) (hx : (strOf x).size ≤ 1000) :
    ∃ X', (Instr.mapUpdate 99 (.map (some c)) (.string (strOf x)) (.bool true)).run Tryz.prog X = .ok () X' ∧ SetAt X' c (xs ++ [x]) ∧ X.grownBy X' (some c) := by
  obtain ⟨D, ⟨ho, hh⟩, hv⟩ := h
  have hkey : keyOf Tryz.prog 9 (.string (strOf x)) = some (.string (strOf x).data.toList) := WideMaps.keyOf_string_mk Tryz.underlying9 (by unfold maxLen; omega)
  obtain ⟨X', h1, h2, h3⟩ := ho.update (Maps.string_keyed Tryz.underlying9) Tryz.underlying99 (by unfold maxLen; omega) hkey (plainElem_bool (H := Unit) Tryz.underlying4 true)
  have e : (strOf x).data.toList = x := rfl
  rw [e] at h2
  refine ⟨X', h1, ⟨_, ⟨by rw [List.length_append]; exact h2, fun s => ?_⟩, fun k => ?_⟩, h3⟩
  rotate_left
  · by_cases hk : k = .string x
    · subst hk
      rw [Maps.has_put_same ho.isMap (show WideAt.IsKeyLit (Lit.string _) from trivial), Maps.atKey_put_same ho.isMap (show WideAt.IsKeyLit (Lit.string _) from trivial)]
    · rw [Maps.has_put_other hk, Maps.atKey_put_other hk]
      exact hv k
  by_cases hs : s = x
  · subst hs
    rw [Maps.has_put_same ho.isMap (show WideAt.IsKeyLit (Lit.string _) from trivial)]
    simp
  · rw [Maps.has_put_other (by intro h'; injection h' with h'; exact hs h'), hh, List.mem_append, List.mem_singleton]
    exact ⟨.inl, fun h' => h'.resolve_right hs⟩
theorem zero_bool (X : World) : (zeroValue 4).run Tryz.prog X = .ok (.bool false) X := Tryz.zeroValue4 X
theorem zero_set (X : World) : (zeroValue 99).run Tryz.prog X = .ok (.map none) X := Tryz.zeroValue99 X
set_option maxRecDepth 100000 in
/-- Whether a name is in a set. -/
theorem SetAt.look {X : World} {c : Nat} {xs : List Txt} (h : SetAt X c xs) (x : Txt) (hx : (strOf x).size ≤ 1000) :
    (Instr.lookup 99 (.map (some c)) (.string (strOf x)) false).run Tryz.prog X = .ok (.bool (decide (x ∈ xs))) X := by
  obtain ⟨D, ⟨ho, hh⟩, hb⟩ := h
  have hkey : keyOf Tryz.prog 9 (.string (strOf x)) = some (.string (strOf x).data.toList) := WideMaps.keyOf_string_mk Tryz.underlying9 (by unfold maxLen; omega)
  obtain ⟨v, ps, hrun, hv⟩ := ho.lookup (Maps.string_keyed Tryz.underlying9) Tryz.underlying99 (zero_bool X) (plainElem_bool (H := Unit) Tryz.underlying4 false) hkey
  rw [hb] at hv
  have e : (strOf x).data.toList = x := rfl
  rw [e] at hv
  have hd : Maps.has D (.string x) = decide (x ∈ xs) := by
    rw [Bool.eq_iff_iff, hh x, decide_eq_true_eq]
  rw [hd] at hv
  rw [hrun]
  unfold plainElem at hv
  rw [Tryz.underlying4] at hv
  cases v <;> simp at hv
  rw [hv.1]

def mapElem (v : Value) : Option (DataW Unit × List MemPlace) := match v with
  | .map none => some (.nil, [])
  | .map (some b) => some (.lit (.int .i64 (b : Int)), [])
  | _ => none
theorem mapElem_nil {v : Value} {ps : List MemPlace} (h : mapElem v = some (.nil, ps)) : v = .map none := by
  unfold mapElem at h
  split at h
  · rfl
  · cases h
  · cases h
theorem mapElem_at {v : Value} {ps : List MemPlace} {c : Nat} (h : mapElem v = some (.lit (.int .i64 (c : Int)), ps)) : v = .map (some c) := by
  unfold mapElem at h
  split at h
  · cases h
  · rename_i b
    injection h with h
    injection h with h _
    injection h with h
    injection h with _ h
    have : b = c := by omega
    rw [this]
  · cases h
/-- A graph in memory: the maps lie from 'B' on and below 'N'. -/
structure GraphAt (X : World) (B N b : Nat) (ps : List Txt) : Prop where
  ex : ∃ D n, n ≤ ps.length ∧ X.ownsMap Tryz.prog 9 mapElem b n D ∧ ∀ u : UInt8, (calleds ps u = [] ∧ D.atKey (.string [u]) .nil = .nil) ∨
    ∃ c : Nat, D.atKey (.string [u]) .nil = .lit (.int .i64 (c : Int)) ∧ B ≤ c ∧ c < N ∧ c ≠ b ∧ SetAt X c ((calleds ps u).map fun v => [v]) ∧ ∀ u', D.atKey (.string [u']) .nil = .lit (.int .i64 (c : Int)) → u' = u
  low : B ≤ b
  hi : b < N
theorem GraphAt.keep {X Y : World} {B N b : Nat} {ps : List Txt} (h : GraphAt X B N b ps) (hk : ∀ q, B ≤ q → q < N → Y.heap[q]? = X.heap[q]?) : GraphAt Y B N b ps := by
  obtain ⟨⟨D, n, hn, ⟨es, clock, hb, r⟩, hu⟩, h1, h2⟩ := h
  refine ⟨⟨D, n, hn, ⟨es, clock, (hk b h1 h2).trans hb, r⟩, fun u => ?_⟩, h1, h2⟩
  rcases hu u with h | ⟨c, h3, h4, h5, h6, h7, h8⟩
  · exact .inl h
  · exact .inr ⟨c, h3, h4, h5, h6, h7.block (hk c h4 h5), h8⟩
theorem GraphAt.below {X Y : World} {B N b : Nat} {ps : List Txt} (h : GraphAt X B N b ps) (hb : Below N X Y) : GraphAt Y B N b ps := h.keep fun q _ hq => hb.block q hq
theorem GraphAt.drew {X : World} {B N b : Nat} {ps : List Txt} (h : GraphAt X B N b ps) : GraphAt X.drew B N b ps := h.keep fun _ _ _ => rfl
theorem GraphAt.more {X : World} {B N N' b : Nat} {ps : List Txt} (h : GraphAt X B N b ps) (hN : N ≤ N') : GraphAt X B N' b ps := by
  obtain ⟨⟨D, n, hn, ho, hu⟩, h1, h2⟩ := h
  refine ⟨⟨D, n, hn, ho, fun u => ?_⟩, h1, by omega⟩
  rcases hu u with h | ⟨c, h3, h4, h5, h6, h7, h8⟩
  · exact .inl h
  · exact .inr ⟨c, h3, h4, by omega, h6, h7, h8⟩
theorem GraphAt.made {X : World} {B : Nat} (hB : B ≤ X.heap.size) : GraphAt (X.alloc (.map #[] 0)) B (X.heap.size + 1) X.heap.size [] :=
  ⟨⟨.map [], 0, Nat.le_refl _, World.ownsMap_made X Tryz.prog 9 mapElem, fun _ => .inl ⟨rfl, rfl⟩⟩, hB, Nat.lt_succ_self _⟩
/-- Whom a segment may call, as the graph's map tells it. -/
def SetVal (X : World) (B N : Nat) (v : Value) (xs : List Txt) : Prop := (v = .map none ∧ xs = []) ∨ ∃ c, v = .map (some c) ∧ B ≤ c ∧ c < N ∧ SetAt X c xs
theorem key_one (u : UInt8) : keyOf Tryz.prog 9 (.string ⟨#[u]⟩) = some (.string [u]) := WideMaps.keyOf_string_mk Tryz.underlying9 (s := ⟨#[u]⟩) (by unfold maxLen; exact (by decide : 1 ≤ 9223372036854775807))
theorem GraphAt.look {X : World} {B N b : Nat} {ps : List Txt} (h : GraphAt X B N b ps) (u : UInt8) :
    ∃ v, (Instr.lookup 95 (.map (some b)) (.string ⟨#[u]⟩) false).run Tryz.prog X = .ok v X ∧ SetVal X B N v ((calleds ps u).map fun v => [v]) := by
  obtain ⟨⟨D, n, hn, ho, hu⟩, h1, h2⟩ := h
  obtain ⟨v, qs, hrun, hv⟩ := ho.lookup (Maps.string_keyed Tryz.underlying9) Tryz.underlying95 (zero_set X) (show mapElem (.map none) = some (.nil, []) from rfl) (key_one u)
  refine ⟨v, hrun, ?_⟩
  rcases hu u with ⟨h3, h4⟩ | ⟨c, h3, h4, h5, h6, h7, h8⟩
  · rw [h4] at hv
    exact .inl ⟨mapElem_nil hv, by rw [h3]; rfl⟩
  · rw [h3] at hv
    exact .inr ⟨c, mapElem_at hv, h4, h5, h7⟩

theorem next_other (ps : List Txt) {u v u' : UInt8} (h : u' ≠ u) : calleds (ps ++ [[u, v]]) u' = calleds ps u' := by
  rw [calleds_snoc, if_neg (fun e => h (show u' = u from e.symm)), List.append_nil]
theorem next_same (ps : List Txt) (u v : UInt8) : calleds (ps ++ [[u, v]]) u = calleds ps u ++ [v] := by
  rw [calleds_snoc, if_pos (show fstB [u, v] = u from rfl)]
  rfl

theorem nil_set (X : World) : (binOp .eql 99 (.map none) (.map none)).run Tryz.prog X = .ok (.bool true) X := by kernel_rfl
theorem set_nil (c : Nat) (X : World) : (binOp .eql 99 (.map (some c)) (.map none)).run Tryz.prog X = .ok (.bool false) X := by kernel_rfl

set_option maxRecDepth 100000 in
set_option maxHeartbeats 1000000 in
theorem allow_any (B b : Nat) (ps : List Txt) (u v : UInt8) (X : World) (h : GraphAt X B X.heap.size b ps) (hp : ps.length ≤ 20) :
    Calls Tryz.prog 144 #[.map (some b), .string ⟨#[u]⟩, .string ⟨#[v]⟩] X fun e X' => e = .returned (.tuple #[]) ∧ GraphAt X' B X'.heap.size b (ps ++ [[u, v]]) ∧ Below B X X' := by
  obtain ⟨⟨D, n, hn, ho, hu⟩, h1, h2⟩ := h
  have K := Maps.string_keyed (P := Tryz.prog) Tryz.underlying9
  have hz0 : mapElem (.map none) = some (.nil, []) := rfl
  have hisk : WideAt.IsKeyLit (Lit.string [u]) := trivial
  have hnl : ∀ x : UInt8, (calleds ps x).length ≤ 20 := fun x => by
    unfold calleds
    rw [List.length_map]
    exact Nat.le_trans (List.length_filter_le _ _) hp
  obtain ⟨q, qs, hl1, hv⟩ := ho.lookup K Tryz.underlying95 (zero_set X) hz0 (key_one u)
  have HKU := Lib.hid (key_one u)
  rcases hu u with ⟨h3, h4⟩ | ⟨c, h3, h4, h5, h6, h7, h8⟩
  · rw [h4] at hv
    obtain rfl := mapElem_nil hv
    have hnn := nil_set X
    have hmk : (Instr.makeMap 99 none).run Tryz.prog X = .ok (.map (some X.heap.size)) (X.alloc (.map #[] 0)) := rfl
    obtain ⟨X2, hu1, ho2, hg2⟩ := (ho.alloc (.map #[] 0)).update K Tryz.underlying95 (by unfold maxLen; omega) (key_one u) (val := .map (some X.heap.size)) (show mapElem (.map (some X.heap.size)) = some (.lit (.int .i64 (X.heap.size : Int)), []) from rfl)
    have hz1 : (X.alloc (.map #[] 0)).heap.size = X.heap.size + 1 := by simp
    have hz2 := hg2.size
    obtain ⟨q2, qs2, hl2, hv2⟩ := ho2.lookup K Tryz.underlying95 (zero_set X2) hz0 (key_one u)
    rw [Maps.atKey_put_same ho.isMap hisk] at hv2
    obtain rfl := mapElem_at hv2
    have hs2 : SetAt X2 X.heap.size [] := (SetAt.made X).block (hg2.block _ (by omega) (fun e => by injection e with e; omega))
    obtain ⟨X3, hu2, hs3, hg3⟩ := hs2.step (by decide) [v] (by rw [str_size]; exact (by decide : 1 ≤ 1000))
    have hz3 := hg3.size
    have keep : ∀ q, q < X.heap.size → q ≠ b → X3.heap[q]? = X.heap[q]? := fun q hq hne =>
      (hg3.block q (by omega) (fun e => by injection e with e; omega)).trans ((hg2.block q (by omega) (fun e => hne (by injection e))).trans (Below.heap_alloc X _ q hq))
    have hu2' : (Instr.mapUpdate 99 (.map (some X.heap.size)) (.string ⟨#[v]⟩) (.bool true)).run Tryz.prog X2 = .ok () X3 := hu2
    have HP : Hid (GraphAt X3 B X3.heap.size b (ps ++ [[u, v]]) ∧ Below B X X3) := by
      refine ⟨⟨⟨D.put (.string [u]) (.lit (.int .i64 (X.heap.size : Int))), n + 1, by simp; omega, ho2.kept hg3 (fun e => by injection e with e; omega), fun u' => ?_⟩, h1, by omega⟩, ?_⟩
      · by_cases huu : u' = u
        · subst huu
          refine .inr ⟨X.heap.size, Maps.atKey_put_same ho.isMap hisk _ _, by omega, by omega, by omega, ?_, fun w' hw' => ?_⟩
          · rw [next_same, h3]
            exact hs3
          · by_cases hwu : w' = u'
            · exact hwu
            · rw [Maps.atKey_put_other (by intro e; injection e with e; injection e with e; exact hwu e)] at hw'
              rcases hu w' with ⟨_, h9⟩ | ⟨c', h9, _, h10, _⟩
              · rw [h9] at hw'; cases hw'
              · rw [h9] at hw'
                injection hw' with hw'
                injection hw' with _ hw'
                omega
        · rw [Maps.atKey_put_other (by intro e; injection e with e; injection e with e; exact huu e), next_other ps huu]
          rcases hu u' with h9 | ⟨c', h9, h10, h11, h12, h13, h14⟩
          · exact .inl h9
          · refine .inr ⟨c', h9, h10, by omega, h12, h13.block (keep c' h11 h12), fun w' hw' => ?_⟩
            by_cases hwu : w' = u
            · subst hwu
              rw [Maps.atKey_put_same ho.isMap hisk] at hw'
              injection hw' with hw'
              injection hw' with _ hw'
              omega
            · rw [Maps.atKey_put_other (by intro e; injection e with e; injection e with e; exact hwu e)] at hw'
              exact h14 w' hw'
      · exact (((Below.refl B X).alloc (by omega) _).grown hg2 (by omega) (fun k e => by injection e with e; omega)).grown hg3 (by omega) (fun k e => by injection e with e; omega)
    clear hu h3 h4 ho ho2 hs2 hs3 hg2 hg3 keep hv hv2 hu2
    generalize (⟨#[u]⟩ : ByteArray) = bu at *
    generalize (⟨#[v]⟩ : ByteArray) = bv at *
    go_enter Tryz.func144, Tryz.ntmps144
    go_wp2
    go_end0
    exact ⟨rfl, HP.out⟩
  · rw [h3] at hv
    obtain rfl := mapElem_at hv
    obtain ⟨X3, hu2, hs3, hg3⟩ := h7.step (by rw [List.length_map]; have := hnl u; omega) [v] (by rw [str_size]; exact (by decide : 1 ≤ 1000))
    have hnn := set_nil c X
    have hz3 := hg3.size
    have hu2' : (Instr.mapUpdate 99 (.map (some c)) (.string ⟨#[v]⟩) (.bool true)).run Tryz.prog X = .ok () X3 := hu2
    have HP : Hid (GraphAt X3 B X3.heap.size b (ps ++ [[u, v]]) ∧ Below B X X3) := by
      refine ⟨⟨⟨D, n, by simp; omega, ho.kept hg3 (fun e => by injection e with e; omega), fun u' => ?_⟩, h1, by omega⟩, (Below.refl B X).grown hg3 (by omega) (fun k e => by injection e with e; omega)⟩
      by_cases huu : u' = u
      · subst huu
        refine .inr ⟨c, h3, h4, by omega, h6, ?_, h8⟩
        rw [next_same, List.map_append]
        exact hs3
      · rw [next_other ps huu]
        rcases hu u' with h9 | ⟨c', h9, h10, h11, h12, h13, h14⟩
        · exact .inl h9
        · refine .inr ⟨c', h9, h10, by omega, h12, h13.block (hg3.block c' h11 (fun e => ?_)), h14⟩
          injection e with e
          subst e
          exact huu (h8 u' h9)
    clear hu h3 h4 ho hs3 hg3 hv hu2 h8
    generalize (⟨#[u]⟩ : ByteArray) = bu at *
    generalize (⟨#[v]⟩ : ByteArray) = bv at *
    go_enter Tryz.func144, Tryz.ntmps144
    go_wp2
    go_end0
    exact ⟨rfl, HP.out⟩

end Go.Proofs.YtbmfbnlmdjnddaaGreat
/- The program's graph is made; the names of a set, sorted. -/
namespace Go.Proofs.YtbmfbnlmdjnddaaGreat
open Go.RowKit Go.Shelf
attribute [local go_sem] Oper.semAt_some

theorem putAll_asc {xs : List Txt} (h : xs.Pairwise (· < ·)) : putAll [] xs = xs := asc_txt (putAll_sorted xs [] List.Pairwise.nil) h (fun x => by rw [putAll_mem]; simp)

set_option maxRecDepth 100000 in
set_option maxHeartbeats 1000000 in
theorem sorted_any (B N : Nat) (v : Value) (xs : List Txt) (w : World) (h : SetVal w B N v xs) (hx : xs.length ≤ 1000) :
    Calls Tryz.prog 77 #[v] w fun e w' => ∃ u, e = .returned u ∧ OwnTexts w' w.heap.size u ((putAll [] xs).map strOf) ∧ Below w.heap.size w w' := by
  refine (callsIn_wide (n := 20)).1 ?_
  refine callsIn_of_wp Tryz.func77 rfl trivial ?_ rfl
  simp only [Tryz.ntmps77, List.size_toArray, List.length_cons, List.length_nil, Nat.reduceAdd, Nat.reduceSub, Array.replicate_succ, Array.replicate_zero, List.push_toArray, List.append_toArray, List.nil_append, List.cons_append]
  have hfK : Fence.wide.fn 147 := trivial
  have hfS : Fence.wide.fn 146 := trivial
  rcases h with ⟨rfl, rfl⟩ | ⟨c, rfl, h1, h2, D, hP, -⟩
  · gi_wp2_with (first
      | (gi_at_call 147; refine ((Tryz.maps_Keys_147 _ _).more (show 5 ≤ 19 by omega)).mono ?_; rintro e w' ⟨rfl, rfl⟩)
      | (gi_at_call 146; refine ((Tryz.slices_Sorted_keys_nil_146_147 w).more (show 5 ≤ 19 by omega)).mono ?_; rintro e w' ⟨v, ss, rfl, rfl, hrow, hnil, hb⟩))
    go_ret
    refine ⟨_, rfl, ?_, ((Below.refl _ w).alloc (Nat.le_refl _) _).trans (hb.mono (by simp))⟩
    obtain rfl : v = .slice none 0 0 := by simpa using hnil
    exact World.ownsRow_nil _ _ _ 1
  · have hsd : Maps.size D ≤ 1000 := Nat.le_trans hP.own.size_le hx
    gi_wp2_with (first
      | (gi_at_call 147; refine ((Tryz.maps_Keys_147 _ _).more (show 5 ≤ 19 by omega)).mono ?_; rintro e w' ⟨rfl, rfl⟩)
      | (gi_at_call 146; refine ((Tryz.slices_Sorted_keys_146_147 c xs.length D _ w hP.own (by unfold maxLen; omega) (by omega)).more (show 5 ≤ 19 by omega)).mono ?_; rintro e w' ⟨v, ss, rfl, hS, hrow, hnil, hb⟩))
    go_ret
    refine ⟨_, rfl, ?_, ((Below.refl _ w).alloc (Nat.le_refl _) _).trans (hb.mono (by simp))⟩
    have hs := hP.sorted hS
    unfold OwnTexts
    rw [← hs, List.length_map, List.length_mergeSort, List.map_map]
    exact own_low hrow (by simp)

set_option maxRecDepth 100000 in
set_option maxHeartbeats 1000000 in
theorem isPair_any (A : Option Addr) (l : List Seg) (c : Nat) (z : ByteArray) (w : World) (hw : Segs w w.heap.size A l) (hl : l.length ≤ 1048576) (hv : validB l = true) (hz : z.size ≤ 1048576) :
    Calls Tryz.prog 143 #[.slice A l.length c, .string z] w fun e w' => e = .returned (.bool (pairOk l z.data.toList)) ∧ Below w.heap.size w w' := by
  have HW : Hid (Segs w w.heap.size A l) := hw
  have HN := Lib.hid (fun s W h => nameTaken_any A l c s W h hl)
  clear hw
  by_cases h2 : z.size = 2
  · obtain ⟨u, v, rfl⟩ := two_bytes h2
    have HP : Hid (pairOk l (strOf [u, v]).data.toList = (callP l u && callP l v)) := rfl
    have H1 := Lib.hid (callP_taken hv u)
    have H2 := Lib.hid (callP_taken hv v)
    obtain ⟨hz2, hx1, hx2⟩ := two_cut u v
    rw [HP.out, H1.out, H2.out]
    clear h2 hz HP H1 H2 hv
    generalize (⟨#[u]⟩ : ByteArray) = bu at *
    generalize (⟨#[v]⟩ : ByteArray) = bv at *
    generalize strOf [u, v] = z at *
    cases hu : takenB l bu with
    | false =>
      go_enter Tryz.func143, Tryz.ntmps143
      go_wp2_with fail
      refine (HN.out _ _ HW.out).mono ?_
      rw [hu]
      rintro e w1 ⟨rfl, hb1⟩
      go_wp2
      go_ret
      exact ⟨rfl, hb1⟩
    | true =>
      go_enter Tryz.func143, Tryz.ntmps143
      go_wp2_with fail
      refine (HN.out _ _ HW.out).mono ?_
      rw [hu]
      rintro e w1 ⟨rfl, hb1⟩
      go_wp2_with fail
      refine (HN.out _ _ ((HW.out.below hb1).more hb1.size)).mono ?_
      rintro e w2 ⟨rfl, hb2⟩
      go_wp2
      go_ret
      exact ⟨by simp, hb1.trans (hb2.mono hb1.size)⟩
  · have HP : Hid (pairOk l z.data.toList = false) := pairOk_len (by simpa using h2)
    have hq : ((z.size : Int) == 2) = false := by rw [beq_eq_false_iff_ne]; omega
    clear h2
    go_enter Tryz.func143, Tryz.ntmps143
    go_wp2
    go_ret
    exact ⟨ret_bool HP.out.symm, Below.refl _ _⟩

def GraphPost (w : World) (l : List Seg) (ts : List ByteArray) (e : Ending) (w' : World) : Prop :=
  Below w.heap.size w w' ∧ ((graphB l ts = false ∧ e = .returned (.tuple #[.map none, .bool false])) ∨ (graphB l ts = true ∧ ∃ b, e = .returned (.tuple #[.map (some b), .bool true]) ∧ GraphAt w' w.heap.size w'.heap.size b (psOf ts)))

set_option maxRecDepth 100000 in
set_option maxHeartbeats 4000000 in
theorem graphOf_any (A : Option Addr) (l : List Seg) (c : Nat) (A2 : Option Addr) (ts : List ByteArray) (c2 : Nat) (w : World) (hw : Segs w w.heap.size A l) (ht : St.Strs w w.heap.size A2 ts) (hl : l.length ≤ 1048576) (hlc : l.length ≤ c) (hcm : c ≤ 9223372036854775807) (hn : Short l) (htl : ts.length ≤ 1048576) (hts : ∀ s ∈ ts, s.size ≤ 1048576) :
    Calls Tryz.prog 74 #[.slice A l.length c, .slice A2 ts.length c2] w (GraphPost w l ts) := by
  have HW : Hid (Segs w w.heap.size A l) := hw
  have HT : Hid (St.Strs w w.heap.size A2 ts) := ht
  have HV := Lib.hid (treeValid_any A l c w hw hl hlc hcm hn)
  have HTS := Lib.hid hts
  unfold GraphPost
  clear hw ht hn hts
  cases hv : validB l with
  | false =>
    have HF : Hid (graphB l ts = false) := by
      show graphB l ts = false
      unfold graphB
      rw [hv]
      rfl
    rw [hv] at HV
    go_enter Tryz.func74, Tryz.ntmps74
    go_wp2_with fail
    refine HV.out.mono ?_
    rintro e w1 ⟨rfl, hb1⟩
    go_wp2
    go_ret2
    exact ⟨hb1, .inl ⟨HF.out, rfl⟩⟩
  | true =>
    rw [hv] at HV
    have HVL := Lib.hid hv
    by_cases h20 : ts.length ≤ 20
    · have HGB : Hid (graphB l ts = pairsTo l ts ts.length) := by
        show graphB l ts = _
        unfold graphB
        rw [hv, decide_eq_true h20]
        rfl
      have h20' : ¬ (20 : Int) < (ts.length : Int) := by omega
      have HIP := Lib.hid (fun z W h hz => isPair_any A l c z W h hl HVL.out hz)
      have HPL : Hid ((psOf ts).length = ts.length) := psOf_len ts
      have HPA : Hid (∀ j, j < ts.length → (psOf ts)[j]? = some (txAt ts j)) := fun j hj => psOf_at hj
      have HPE := Lib.hid (fun h => (graph_is (l := l) (ts := ts) h))
      clear hv
      go_enter Tryz.func74, Tryz.ntmps74
      go_wp2_with fail
      refine HV.out.mono ?_
      rintro e w1 ⟨rfl, hb1⟩
      have HB1 := Lib.hid hb1
      have hmk : (Instr.makeMap 95 none).run Tryz.prog w1 = .ok (.map (some w1.heap.size)) (w1.alloc (.map #[] 0)) := rfl
      have HB2 : Hid (Below w.heap.size w (w1.alloc (.map #[] 0))) := hb1.alloc hb1.size _
      have HG0 : Hid (GraphAt (w1.alloc (.map #[] 0)) w.heap.size (w1.alloc (.map #[] 0)).heap.size w1.heap.size ((psOf ts).take 0)) := by
        have := GraphAt.made (X := w1) hb1.size
        show GraphAt _ _ _ _ _
        rw [World.size_alloc]
        exact this
      clear hb1
      generalize w1.heap.size = b at *
      go_wp2
      clear hmk
      generalize w1.alloc (.map #[] 0) = w2 at *
      go_loopw [20] (fun i wr => ∃ k : Nat, k ≤ ts.length ∧ i = .int .i64 k ∧ Hid (pairsTo l ts k = true) ∧ Hid (GraphAt wr w.heap.size wr.heap.size b ((psOf ts).take k)) ∧ Hid (Below w.heap.size w wr))
        (fun i _ => ts.length - (intOf i).toNat)
      case atStart => exact ⟨0, Nat.zero_le _, rfl, rfl, HG0, HB2⟩
      case round =>
        obtain ⟨k, hk, rfl, HP, HG, HB⟩ := hrel
        clear HG0 HB2
        have hk0 : (0 : Int) ≤ (k : Int) := Int.natCast_nonneg _
        by_cases hlt : k < ts.length
        · have hlt' : (k : Int) < (ts.length : Int) := by omega
          obtain ⟨b2, o, rfl, hB, hc⟩ := HT.out (by omega)
          have c0 := hc k ts[k] (List.getElem?_eq_getElem hlt)
          rw [← HB.out.cell (p := ⟨b2, o + k, none⟩) hB] at c0
          have hsz := HTS.out ts[k] (List.getElem_mem hlt)
          have HBAD := Lib.hid (fun h => HGB.out.trans (pairsTo_bad (l := l) (ts := ts) hlt h))
          have HSU := Lib.hid (pairsTo_succ l ts k)
          have HX := Lib.hid (txAt_of hlt)
          have HIP1 := Lib.hid (HIP.out ts[k] wr ((HW.out.below HB.out).more HB.out.size) hsz)
          cases hpk : pairOk l ts[k].data.toList with
          | false =>
            have HE := Lib.hid (HBAD.out (by unfold pairAt; rw [HX.out, hpk]; rfl))
            rw [hpk] at HIP1
            clear hc HBAD HSU HX hpk
            generalize ts[k] = z at *
            go_wp2_with fail
            refine HIP1.out.mono ?_
            rintro e w3 ⟨rfl, hb3⟩
            have HB3 : Hid (Below w.heap.size w w3) := HB.out.trans (hb3.mono HB.out.size)
            go_wp2
            go_ret2
            exact ⟨HB3.out, .inl ⟨HE.out, rfl⟩⟩
          | true =>
            obtain ⟨u, v, hp, -, -⟩ := pairOk_two hpk
            rw [hpk] at HIP1
            have hz : ts[k] = strOf [u, v] := by rw [str_of ts[k], hp]
            have HX2 : Hid (txAt ts k = [u, v]) := by
              show _ = _
              rw [HX.out, hp]
            have HTK : Hid ((psOf ts).take (k + 1) = (psOf ts).take k ++ [[u, v]]) := by
              show _ = _
              have h1 := HPA.out k hlt
              rw [HX2.out] at h1
              obtain ⟨h2, h3⟩ := List.getElem?_eq_some_iff.1 h1
              rw [List.take_succ_eq_append_getElem h2, h3]
            have hplen : ((psOf ts).take k).length ≤ 20 := by rw [List.length_take]; omega
            obtain ⟨hz2, hx1, hx2⟩ := two_cut u v
            have HAL := Lib.hid (fun W h => allow_any w.heap.size b ((psOf ts).take k) u v W h hplen)
            have hpok : pairOk l [u, v] = true := by rw [← hp]; exact hpk
            rw [hz] at c0 HIP1
            by_cases hk1 : k = 0
            · have HP1 : Hid (pairsTo l ts (k + 1) = true) := by
                show _ = _
                rw [HSU.out, HP.out]
                unfold pairAt
                rw [HX2.out, hpok, decide_eq_true hk1]
                rfl
              have h5 : ¬ (0 : Int) < (k : Int) := by omega
              clear hc HBAD HSU HX hpk hp hz HP hsz hpok hk1
              generalize (⟨#[u]⟩ : ByteArray) = bu at *
              generalize (⟨#[v]⟩ : ByteArray) = bv at *
              generalize strOf [u, v] = z at *
              go_wp2_with fail
              refine HIP1.out.mono ?_
              rintro e w3 ⟨rfl, hb3⟩
              have HB3 : Hid (Below w.heap.size w w3) := HB.out.trans (hb3.mono HB.out.size)
              have HG3 : Hid (GraphAt w3 w.heap.size w3.heap.size b ((psOf ts).take k)) := (HG.out.below hb3).more hb3.size
              clear hb3 HIP1
              go_wp2_with fail
              go_region_with (go_at_call 144; refine Calls.mono (HAL.out _ HG3.out.drew) ?_; rintro e w4 ⟨rfl, hg4, hb4⟩)
              all_goals (
                have HB4 : Hid (Below w.heap.size w w4) := HB3.out.drew.trans hb4
                have HG4 : Hid (GraphAt w4 w.heap.size w4.heap.size b ((psOf ts).take (k + 1))) := by
                  show GraphAt _ _ _ _ _
                  rw [HTK.out]
                  exact hg4
                clear hg4 hb4
                go_wp2
                go_roundw
                case rel => exact ⟨k + 1, by omega, by go_num, HP1, HG4, HB4⟩
                case measure => simp [intOf]; omega)
            · have hkp : k - 1 < ts.length := by omega
              have c1 := hc (k - 1) ts[k - 1] (List.getElem?_eq_getElem hkp)
              have h3 : (k : Int) - 1 = ((k - 1 : Nat) : Int) := by omega
              have h4 : ((k - 1 : Nat) : Int) < (ts.length : Int) := by omega
              have h5 : (0 : Int) < (k : Int) := by omega
              have HY := Lib.hid (txAt_of hkp)
              have hless : Op.bytesLess (strOf [u, v]).toList ts[k - 1].toList = decide ([u, v] < txAt ts (k - 1)) := by
                rw [str_of ts[k - 1], txt_less, HY.out]
              have hsame : ((strOf [u, v]).toList == ts[k - 1].toList) = decide ([u, v] = txAt ts (k - 1)) := by
                rw [str_of ts[k - 1], txt_same, HY.out]
              have HPA2 : Hid (pairAt l ts k = decide (txAt ts (k - 1) < [u, v])) := by
                show _ = _
                unfold pairAt
                rw [HX2.out, hpok, decide_eq_false hk1]
                rfl
              have hsq := HTS.out ts[k - 1] (List.getElem_mem hkp)
              by_cases hlx : txAt ts (k - 1) < [u, v]
              · have HP1 : Hid (pairsTo l ts (k + 1) = true) := by
                  show _ = _
                  rw [HSU.out, HP.out, HPA2.out, decide_eq_true hlx]
                  rfl
                rw [decide_eq_false (fun h => txt_irr _ (txt_trans hlx h))] at hless
                rw [decide_eq_false (fun h => txt_irr _ (by rw [h] at hlx; exact hlx))] at hsame
                clear hc HBAD HSU HX hpk hp hz HP hsz hpok hlx hk1 HPA2
                generalize (⟨#[u]⟩ : ByteArray) = bu at *
                generalize (⟨#[v]⟩ : ByteArray) = bv at *
                generalize strOf [u, v] = z at *
                generalize ts[k - 1] = q at *
                go_wp2_with fail
                refine HIP1.out.mono ?_
                rintro e w3 ⟨rfl, hb3⟩
                have HB3 : Hid (Below w.heap.size w w3) := HB.out.trans (hb3.mono HB.out.size)
                have HG3 : Hid (GraphAt w3 w.heap.size w3.heap.size b ((psOf ts).take k)) := (HG.out.below hb3).more hb3.size
                rw [← HB3.out.cell (p := ⟨b2, o + (k - 1), none⟩) hB] at c1
                clear hb3 HIP1
                go_wp2_with fail
                go_region_with (go_at_call 144; refine Calls.mono (HAL.out _ HG3.out.drew) ?_; rintro e w4 ⟨rfl, hg4, hb4⟩)
                all_goals (
                  have HB4 : Hid (Below w.heap.size w w4) := HB3.out.drew.trans hb4
                  have HG4 : Hid (GraphAt w4 w.heap.size w4.heap.size b ((psOf ts).take (k + 1))) := by
                    show GraphAt _ _ _ _ _
                    rw [HTK.out]
                    exact hg4
                  clear hg4 hb4
                  go_wp2
                  go_roundw
                  case rel => exact ⟨k + 1, by omega, by go_num, HP1, HG4, HB4⟩
                  case measure => simp [intOf]; omega)
              · have HE := Lib.hid (HBAD.out (by rw [HPA2.out, decide_eq_false hlx]))
                rcases txt_tri (txAt ts (k - 1)) [u, v] with hq | hq | hq
                · exact absurd hq hlx
                · rw [decide_eq_false (fun h => txt_irr _ (by rw [hq] at h; exact h))] at hless
                  rw [decide_eq_true hq.symm] at hsame
                  clear hc HBAD HSU HX hpk hp hz HP hsz hpok hlx hk1 HPA2 hq
                  generalize strOf [u, v] = z at *
                  generalize ts[k - 1] = q at *
                  go_wp2_with fail
                  refine HIP1.out.mono ?_
                  rintro e w3 ⟨rfl, hb3⟩
                  have HB3 : Hid (Below w.heap.size w w3) := HB.out.trans (hb3.mono HB.out.size)
                  rw [← HB3.out.cell (p := ⟨b2, o + (k - 1), none⟩) hB] at c1
                  clear hb3 HIP1
                  go_wp2
                  go_ret2
                  exact ⟨HB3.out, .inl ⟨HE.out, rfl⟩⟩
                · rw [decide_eq_true hq] at hless
                  clear hc HBAD HSU HX hpk hp hz HP hsz hpok hlx hk1 HPA2 hq hsame
                  generalize strOf [u, v] = z at *
                  generalize ts[k - 1] = q at *
                  go_wp2_with fail
                  refine HIP1.out.mono ?_
                  rintro e w3 ⟨rfl, hb3⟩
                  have HB3 : Hid (Below w.heap.size w w3) := HB.out.trans (hb3.mono HB.out.size)
                  rw [← HB3.out.cell (p := ⟨b2, o + (k - 1), none⟩) hB] at c1
                  clear hb3 HIP1
                  go_wp2
                  go_ret2
                  exact ⟨HB3.out, .inl ⟨HE.out, rfl⟩⟩
        · obtain rfl : k = ts.length := by omega
          have HE : Hid (graphB l ts = true) := HGB.out.trans HP.out
          have HGF : Hid (GraphAt wr w.heap.size wr.heap.size b (psOf ts)) := by
            have := HG.out
            rw [List.take_of_length_le (Nat.le_of_eq HPL.out)] at this
            exact this
          clear HG
          go_wp2
          go_ret2
          exact ⟨HB.out, .inr ⟨HE.out, _, rfl, HGF.out⟩⟩
    · have HF : Hid (graphB l ts = false) := by
        show graphB l ts = false
        unfold graphB
        rw [decide_eq_false h20, Bool.and_false]
        rfl
      have h20' : (20 : Int) < (ts.length : Int) := by omega
      go_enter Tryz.func74, Tryz.ntmps74
      go_wp2_with fail
      refine HV.out.mono ?_
      rintro e w1 ⟨rfl, hb1⟩
      go_wp2
      go_ret2
      exact ⟨hb1, .inl ⟨HF.out, rfl⟩⟩

end Go.Proofs.YtbmfbnlmdjnddaaGreat
