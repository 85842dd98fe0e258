/- The program's ParseNumbers, whole. -/
import Derived.Test.YtdbddockmdkmeaaDoorHr
import Derived.OwnWalkIn
namespace Go.Proofs.YtdbddockmdkmeaaDoor
open Go.RowKit Go.Shelf
attribute [local go_sem] Oper.semAt_some

theorem results_two12 {fn : Func} {p q : Tmp} {ty tb : TypeId} (h : fn.results = #[.cell p ty, .cell q tb]) (tmps : Array Value) (w : World) (a b : Addr) (u v : Value)
    (hp : tmps.getD p undef = .pointer (some a)) (hu : (loadVar ty a).run Tryd.prog w = .ok u w) (hq : tmps.getD q undef = .pointer (some b)) (hv : (loadVar tb b).run Tryd.prog w = .ok v w) :
    (results fn tmps).run Tryd.prog w = .ok (.tuple #[u, v]) w := by
  have hp' : tmps[p]?.getD undef = .pointer (some a) := by simpa using hp
  have hq' : tmps[q]?.getD undef = .pointer (some b) := by simpa using hq
  simp [results, h, hp', hq', asAddr, hu, hv]
theorem run_loadBool12 {w : World} {b : Addr} {x : Bool} (h : w.cell? b = some (.bool x)) : (loadVar 4 b).run Tryd.prog w = .ok (.bool x) w := by
  simp [loadVar, isAgg, go_sem, h]
theorem run_loadRow12 {w : World} {b : Addr} {v : Value} (h : w.cell? b = some v) : (loadVar 38 b).run Tryd.prog w = .ok v w := by
  simp [go_sem, h]
theorem wpListIn_appI12 {F : Fence} {nF : Nat} {w : World} {ops : Array Oper} {rest : List Oper} {o : Oper} {a : Act} {Q : Exit → Act → World → Prop} (hgd : o.guard = none) (s x : Operand)
    (ho : o.op = .call { callee := .builtin .append, args := #[s, x], argTypes := #[38, 38] })
    (base : Nat) (v : Value) (ts : List Int) (hs : a.eval s = v) (hown : Si.OwnInts w base v ts) (htl : ts.length ≤ 100000000) (hbase : base ≤ w.heap.size) (g : Nat) (u : Int) (hx : a.eval x = .slice (some ⟨g, 0, none⟩) 1 1)
    (hnew : w.cell? ⟨g, 0, none⟩ = some (.int .i64 u))
    (h : ∀ v' w', Si.OwnInts w' base v' (ts ++ [u]) → w.grownBy w' v.ownBlock → wpListIn F nF Tryd.prog ops Q rest (a.put o.dst v') w') :
    wpListIn F nF Tryd.prog ops Q (o :: rest) a w := by
  refine wpListIn_plain hgd fun K hK => ?_
  obtain ⟨i0, hi, hz0, hz1, hz2⟩ := info_parts info_int
  obtain ⟨v', w', hr, h2, h3, -, -⟩ := run_append_own_at (P := Tryd.prog) w base 38 o.type 3 i0 (.int .i64 0) 1 8 Tryd.underlying38 hi hz0 hz1 hz2 rfl (by decide) v ts.length (ts.map (Value.int .i64)) hown ⟨g, 0, none⟩ 1 1 [.int .i64 u] rfl (by
    intro j y hj
    have hj0 : j = 0 := by have := (List.getElem?_eq_some_iff.1 hj).1; simp at this; omega
    subst hj0
    simp at hj
    subst hj
    exact hnew) (by
    intro y hy
    rw [List.mem_singleton.1 hy]
    rfl) (by unfold maxLen; omega) (by omega) hbase
  have h4 : Si.OwnInts w' base v' (ts ++ [u]) := by
    show w'.ownsRow base _ 1 v' (ts ++ [u]).length ((ts ++ [u]).map (Value.int .i64))
    rw [List.length_append, List.map_append]
    exact h2
  unfold Oper.wpIn
  refine ⟨by simp [Oper.about, ho, resolve, Target.leads, Sem.run_pure], ?_⟩
  rw [Oper.semAt_plain F _ _ (by rw [ho]; intro c hc'; cases hc')]
  simp [execOp, ho, resolve, invoke, builtin, hs, hx, hr, Result.andThen]
  exact hK _ _ (h v' w' h4 h3)

theorem cutSt_size (s : ByteArray) (c : UInt8) : ∀ i, ∀ x ∈ (cutSt s c i).1, x.size ≤ s.size
  | 0, x, hx => by simp [cutSt] at hx
  | i + 1, x, hx => by
    have h : x ∈ (if (i == s.size || s.data.toList.getD i 0 == c) = true then ((cutSt s c i).1 ++ [s.extract (cutSt s c i).2 i], i + 1) else cutSt s c i).1 := hx
    split at h
    · rcases List.mem_append.1 h with h | h
      · exact cutSt_size s c i x h
      · rw [List.mem_singleton.1 h, ByteArray.size_extract]
        omega
    · exact cutSt_size s c i x h
theorem cutRes_size {s : ByteArray} {c : UInt8} {x : ByteArray} (hx : x ∈ cutRes s c) : x.size ≤ s.size := cutSt_size s c _ x hx
theorem cutRes_len (s : ByteArray) (c : UInt8) : (cutRes s c).length ≤ s.size + 1 := (cutSt_le s c (s.size + 1)).2

/-- What the loop has read: all are numbers, and lie in a row of the call's own. -/
structure Read12 (w : World) (pre : List ByteArray) (W : World) : Prop where
  row : ∃ v, Row W (w.heap.size + 2) 38 #[v] ∧ Si.OwnInts W (w.heap.size + 6) v (vals12 pre)
  all : allOk12 pre = true
  list : Row W w.heap.size 38 #[.slice none 0 0]
  ok : Row W (w.heap.size + 1) 4 #[.bool false]
  below : Below w.heap.size w W
/-- What stands where one is none. -/
structure Odd12 (w : World) (pre : List ByteArray) (W : World) : Prop where
  all : allOk12 pre = false
  list : Row W w.heap.size 38 #[.slice none 0 0]
  ok : Row W (w.heap.size + 1) 4 #[.bool false]
  below : Below w.heap.size w W
theorem row_beside12 {W W' : World} {b n0 n1 B : Nat} {t : TypeId} {cs : Array Value} {row : Option Nat} (h : Row W b t cs) (hg : W.grownBy W' row) (hb : b < n0 ∨ n1 ≤ b)
    (hr : ∀ r, row = some r → (n0 ≤ r ∧ r < n1) ∨ (B ≤ r ∧ ∃ o : Obj, W.heap[r]? = some o ∧ o.isCells = false)) : Row W' b t cs :=
  (hg.block b h.lt (fun he => by
    rcases hr b he.symm with h2 | ⟨_, o, ho, hc⟩
    · omega
    · rw [show W.heap[b]? = some (.cells cs t (0, 0)) from h] at ho
      injection ho with ho
      subst ho
      cases hc)).trans h
theorem own_beside12 {W W' : World} {n0 n1 B B0 : Nat} {v : Value} {ts : List Int} {row : Option Nat} (h : Si.OwnInts W B0 v ts) (hg : W.grownBy W' row) (hb : n1 ≤ B0)
    (hr : ∀ r, row = some r → (n0 ≤ r ∧ r < n1) ∨ (B ≤ r ∧ ∃ o : Obj, W.heap[r]? = some o ∧ o.isCells = false)) : Si.OwnInts W' B0 v ts := by
  refine own_keep12 h fun k hk => ?_
  have h1 := own_lt12 h hk
  refine hg.block k h1.2 fun he => ?_
  rcases hr k he.symm with h2 | ⟨_, o, ho, hc⟩
  · omega
  · rcases h.2 with ⟨e, _⟩ | ⟨g', cap, cur, e, _, hh, _⟩
    · rw [e] at hk; cases hk
    · rw [e] at hk
      injection hk with hk
      subst hk
      rw [hh] at ho
      injection ho with ho
      subst ho
      cases hc
theorem Read12.beside {w W W' : World} {pre : List ByteArray} {B : Nat} {row : Option Nat} (h : Read12 w pre W) (hg : W.grownBy W' row) (hB : w.heap.size ≤ B)
    (hr : ∀ r, row = some r → (w.heap.size + 3 ≤ r ∧ r < w.heap.size + 6) ∨ (B ≤ r ∧ ∃ o : Obj, W.heap[r]? = some o ∧ o.isCells = false)) : Read12 w pre W' := by
  obtain ⟨v, h1, h2⟩ := h.row
  exact ⟨⟨v, row_beside12 h1 hg (.inl (by omega)) hr, own_beside12 h2 hg (Nat.le_refl _) hr⟩, h.all, row_beside12 h.list hg (.inl (by omega)) hr, row_beside12 h.ok hg (.inl (by omega)) hr,
    h.below.grown hg h.below.size (fun k e => by rcases hr k e with h2 | h2 <;> omega)⟩
theorem Odd12.beside {w W W' : World} {pre : List ByteArray} {B : Nat} {row : Option Nat} (h : Odd12 w pre W) (hg : W.grownBy W' row) (hB : w.heap.size ≤ B)
    (hr : ∀ r, row = some r → (w.heap.size + 3 ≤ r ∧ r < w.heap.size + 6) ∨ (B ≤ r ∧ ∃ o : Obj, W.heap[r]? = some o ∧ o.isCells = false)) : Odd12 w pre W' :=
  ⟨h.all, row_beside12 h.list hg (.inl (by omega)) hr, row_beside12 h.ok hg (.inl (by omega)) hr, h.below.grown hg h.below.size (fun k e => by rcases hr k e with h2 | h2 <;> omega)⟩

end Go.Proofs.YtdbddockmdkmeaaDoor
