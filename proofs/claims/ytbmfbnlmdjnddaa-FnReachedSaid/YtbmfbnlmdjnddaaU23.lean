/- Joined: Fk Fq Fr Fs. -/
import Derived.Test.YtbmfbnlmdjnddaaU22
import Derived.Test.YtbmfbnlmdjnddaaU03
import Derived.Test.YtbmfbnlmdjnddaaU21
import Derived.BigQuiet
import Derived.WalkLawsBesides
/- The reference's l4Read and TraceValid by their contracts. -/
namespace Go.Proofs.Ytbmfbnlmdjnddaa
open Go.RowKit

/-- What l4Read has done. -/
def ReadPost (w : World) (R : Option Forest) (e : Ending) (w' : World) : Prop :=
  ∃ v, e = .returned (.tuple #[v, .bool R.isSome]) ∧ ((∃ f, R = some f ∧ IsKids w' (fun q => w.heap.size ≤ q ∧ q < w'.heap.size) f v) ∨ (R = none ∧ ∃ A cap, v = .slice A 0 cap)) ∧ Below w.heap.size w w'

end Go.Proofs.Ytbmfbnlmdjnddaa
/- The reference's texts of calls. -/
namespace Go.Proofs.Ytbmfbnlmdjnddaa
open Go.RowKit

theorem str_cat (x y : List UInt8) : strOf x ++ strOf y = strOf (x ++ y) := bytes_cat x y
theorem str_size (x : List UInt8) : (strOf x).size = x.length := bytes_size x
theorem Forest.isNil_pos {k : Forest} (h : k.isNil = false) : 0 < k.len := by
  rw [Forest.isNil_len] at h
  have := of_decide_eq_false h
  omega
theorem Forest.isNil_zero {k : Forest} (h : k.isNil = true) : k.len = 0 := by
  rw [Forest.isNil_len] at h
  exact of_decide_eq_true h

end Go.Proofs.Ytbmfbnlmdjnddaa
/- The reference's calls that are left. -/
namespace Go.Proofs.Ytbmfbnlmdjnddaa
open Go.RowKit

theorem oper_append_own {P : Program} {w : World} {o : Oper} {a : Act} {K : Act → World → Prop} {Q : Exit → Act → World → Prop} (s x : Operand) (t : TypeId)
    (ho : o.op = .call { callee := .builtin .append, args := #[s, x], argTypes := #[t, t] })
    (base : Nat) (e : TypeId) (i : TypeInfo) (z : Value) (size bytes : Nat) (ht : P.underlying t = some (.slice e)) (hi : P.info? e = some i) (hz : i.zero = some z)
    (hsize : i.size = size) (hby : i.bytes = bytes) (hzs : z.cells.size = size) (hsz : 0 < size)
    (v : Value) (n : Nat) (xs : List Value) (hs : a.eval s = v) (hown : w.ownsRow base e size v n xs)
    (ad : Addr) (m c : Nat) (news : List Value) (hx : a.eval x = .slice (some ad) m c) (hl : news.length = m * size) (hnews : ∀ j u, news[j]? = some u → w.cell? (ad.add j) = some u) (h1 : ∀ u ∈ news, u.oneCell' = true)
    (h63 : n + m ≤ maxLen) (hbytes : (n + m) * bytes ≤ 140737488355328) (hbase : base ≤ w.heap.size)
    (h : ∀ v' w', w'.ownsRow base e size v' (n + m) (xs ++ news) → w.grownBy w' v.ownBlock → (v' = .slice none 0 0 ↔ v = .slice none 0 0 ∧ m = 0) → (v'.ownBlock = v.ownBlock ∨ v'.ownBlock = some w.heap.size) → K (a.put o.dst v') w') :
    Oper.wp P o a w K Q := by
  obtain ⟨v', w', hr, h2, h3, h4, h5⟩ := run_append_own_at (P := P) w base t o.type e i z size bytes ht hi hz hsize hby hzs hsz v n xs hown ad m c news hl hnews h1 h63 hbytes hbase
  unfold Oper.wp execOp
  simp only [ho, resolve, invoke, builtin, Sem.run_bind, Sem.run_pure, Result.andThen_ok, List.map_toArray, List.map_cons, List.map_nil, hs, hx, hr]
  exact h v' w' h2 h3 h4 h5

end Go.Proofs.Ytbmfbnlmdjnddaa
/- The reference's NeedsOf, ChainsOf, CountCalls, DepthOf. -/
namespace Go.Proofs.Ytbmfbnlmdjnddaa
open Go.RowKit

theorem own_low {w : World} {B B' : Nat} {e : TypeId} {size : Nat} {v : Value} {n : Nat} {xs : List Value} (h : w.ownsRow B e size v n xs) (hB : B' ≤ B) : w.ownsRow B' e size v n xs := by
  refine ⟨h.1, ?_⟩
  rcases h.2 with h0 | ⟨g, cap, cur, e1, hg, r⟩
  · exact .inl h0
  · exact .inr ⟨g, cap, cur, e1, by omega, r⟩
/-- The chains of a trace. -/
def chainsRes (l : List Seg) (t : ByteArray) : List ByteArray := match traceB l t.data.toList with
  | none => []
  | some f => (chainsB [rootB l] f).map strOf
def ChainsResPost (w : World) (l : List Seg) (t : ByteArray) (e : Ending) (w' : World) : Prop :=
  ∃ v, e = .returned (.tuple #[v, .bool (traceB l t.data.toList).isSome]) ∧ OwnTexts w' w.heap.size v (chainsRes l t) ∧ Below w.heap.size w w'

def countRes (l : List Seg) (t : ByteArray) : Int := match traceB l t.data.toList with
  | none => -1
  | some f => f.size
theorem chainsRes_len {l : List Seg} {t : ByteArray} {f : Forest} (h : traceB l t.data.toList = some f) : (chainsRes l t).length = f.size := by
  unfold chainsRes
  rw [h]
  show ((chainsB [rootB l] f).map strOf).length = _
  rw [List.length_map, chainsB_len]

/-- The greatest length. -/
def mxLen (L : List (List UInt8)) : Nat := L.foldl (fun m x => max m x.length) 0
theorem mxLen_snoc (L : List (List UInt8)) (x : List UInt8) : mxLen (L ++ [x]) = max (mxLen L) x.length := by simp [mxLen, List.foldl_append]
theorem mxLen_le {L : List (List UInt8)} {n : Nat} (h : ∀ x ∈ L, x.length ≤ n) : mxLen L ≤ n := by
  have key : ∀ (L : List (List UInt8)) (m : Nat), m ≤ n → (∀ x ∈ L, x.length ≤ n) → L.foldl (fun m x => max m x.length) m ≤ n := by
    intro L
    induction L with
    | nil => intro m hm _; exact hm
    | cons y L ih => intro m hm hx; exact ih _ (Nat.max_le.2 ⟨hm, hx y (by simp)⟩) (fun x hx' => hx x (by simp [hx']))
  exact key L 0 (Nat.zero_le _) h
def depthRes (l : List Seg) (t : ByteArray) : Int := match traceB l t.data.toList with
  | none => -1
  | some f => mxLen (chainsB [] f)

end Go.Proofs.Ytbmfbnlmdjnddaa
