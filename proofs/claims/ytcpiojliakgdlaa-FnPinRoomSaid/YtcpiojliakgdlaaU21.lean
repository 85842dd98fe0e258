/- Joined: Fk Fi Fm Fp Fq Fr Fs Fj Ti Gy Fn Ff Fo Fy Fz Gz Bb Bf Bo Bg It Bq Ja Bi Be Jc Je Jf. -/
import Derived.Test.YtcpiojliakgdlaaU20
import Derived.Test.YtcpiojliakgdlaaU04
import Derived.Test.YtcpiojliakgdlaaU18
import Derived.Test.YtcpiojliakgdlaaU19
import Derived.Test.YtcpiojliakgdlaaU12
import Derived.Maps.AppendAt
import Derived.Deep.AppendLies
import Derived.BigQuiet
import Derived.WalkLawsBesides
import Derived.Test.YtcpiojliakgdlaaU15
import Derived.Maps.OwnIn
import Derived.Test.YtcpiojliakgdlaaU17
import Derived.Lib.SlicesCompact
import Derived.Sort.OwnSorted
import Derived.Test.YtcpiojliakgdlaaU01
import Derived.Sort.Walk0
import Derived.BigRegion
import Derived.Test.YtcpiojliakgdlaaSh
import Derived.Lib.SlKept
import Derived.Lib.SliceRun
import Derived.Lib.OwnBridge
import Derived.Sort.Grow
import Derived.Maps.Views
import Derived.Sort.KeysCollected
import Derived.StringKeys
/- The reference's l4Read and TraceValid by their contracts. -/
namespace Go.Proofs.Ytcpiojliakgdlaa
open Go.RowKit

end Go.Proofs.Ytcpiojliakgdlaa
/- What a trace tells, plain: needs, chains, texts, calls that are left. -/
namespace Go.Proofs.Ytcpiojliakgdlaa
open Go.RowKit

/-- Who is active at each call, behind some that are active before. -/
def chainsB (a : List UInt8) : Forest → List (List UInt8)
  | .nil => []
  | .cons c k r => (a ++ [c]) :: (chainsB (a ++ [c]) k ++ chainsB a r)
def strOf (x : List UInt8) : ByteArray := ⟨x.toArray⟩
theorem bytes_cat (x y : List UInt8) : (⟨x.toArray⟩ : ByteArray) ++ ⟨y.toArray⟩ = ⟨(x ++ y).toArray⟩ := by
  apply ByteArray.ext
  simp [ByteArray.data_append]
theorem bytes_size (x : List UInt8) : (⟨x.toArray⟩ : ByteArray).size = x.length := by simp [ByteArray.size]
theorem Forest.app_size : ∀ f g : Forest, (f.app g).size = f.size + g.size
  | .nil, g => by show g.size = 0 + g.size; omega
  | .cons c k r, g => by show k.size + (r.app g).size + 1 = k.size + r.size + 1 + g.size; rw [Forest.app_size r]; omega

/-- The root's letter. -/
def rootB (l : List Seg) : UInt8 := match l with
  | s :: _ => s.name.data.toList.headD 0
  | [] => 0
theorem root_name {l : List Seg} (hv : validB l = true) : ∃ s, l[0]? = some s ∧ s.name = ⟨#[rootB l]⟩ := by
  have h1 : 1 ≤ l.length := by
    unfold validB at hv
    simp only [Bool.and_eq_true, decide_eq_true_eq] at hv
    exact hv.1.1
  cases l with
  | nil => simp at h1
  | cons s r =>
    obtain ⟨d, hd, _, _⟩ := nameOk_one (validB_names hv (s := s) (by simp))
    refine ⟨s, rfl, ?_⟩
    show s.name = ⟨#[s.name.data.toList.headD 0]⟩
    rw [hd]; rfl
/-- The root's name in memory. -/
theorem Segs.root {w : World} {B : Nat} {A : Option Addr} {l : List Seg} (h : Segs w B A l) (hv : validB l = true) : ∃ b o, A = some ⟨b, o, none⟩ ∧ b < B ∧ w.cell? ⟨b, o, none⟩ = some (.string ⟨#[rootB l]⟩) := by
  obtain ⟨s, hs, hn⟩ := root_name hv
  obtain ⟨b, o, e, hB, hc⟩ := h (List.getElem?_eq_some_iff.1 hs).1
  have := (hc 0 s hs).1
  rw [hn] at this
  simp only [Nat.zero_mul, Nat.add_zero] at this
  exact ⟨b, o, e, hB, this⟩

end Go.Proofs.Ytcpiojliakgdlaa
/- The reference's needs and texts of calls. -/
namespace Go.Proofs.Ytcpiojliakgdlaa
open Go.RowKit

theorem SCells.kids {w : World} {S : Nat → Prop} {c : UInt8} {k r : Forest} {g o : Nat} (h : SCells w S (.cons c k r) g o) : w.cell? ⟨g, o, none⟩ = some (.string ⟨#[c]⟩) ∧ (∃ v, w.cell? ⟨g, o + 1, none⟩ = some v ∧ IsKids w S k v) ∧ SCells w S r g (o + 2) := by
  obtain ⟨h1, ⟨A, cap, h2, h3⟩, h4⟩ := h
  exact ⟨h1, ⟨_, h2, A, cap, rfl, h3⟩, h4⟩
theorem SCells.below {w w' : World} {f : Forest} {g o B : Nat} (h : SCells w (· < B) f g o) (hb : Below B w w') (hg : g < B) : SCells w' (· < B) f g o :=
  SCells.keep (fun q hq => ⟨hq, hb.block q hq⟩) f g o (hb.block g hg) h
theorem IsKids.below {w w' : World} {f : Forest} {v : Value} {B : Nat} (h : IsKids w (· < B) f v) (hb : Below B w w') : IsKids w' (· < B) f v :=
  h.keep fun q hq => ⟨hq, hb.block q hq⟩
theorem IsKids.up {w : World} {f : Forest} {v : Value} {B B' : Nat} (h : IsKids w (· < B) f v) (hB : B ≤ B') : IsKids w (· < B') f v :=
  h.keep fun _ hq => ⟨Nat.lt_of_lt_of_le hq hB, rfl⟩

/-- What the range over calls has before it. -/
def LeftS (w : World) (B : Nat) (f : Forest) (A : Option Addr) (pre rest : Forest) : Prop := f = pre.app rest ∧ (rest.isNil = false → ∃ g, A = some ⟨g, 0, none⟩ ∧ g < B ∧ SCells w (· < B) rest g (pre.len * 2))
theorem LeftS.below {w w' : World} {B : Nat} {f pre rest : Forest} {A : Option Addr} (h : LeftS w B f A pre rest) (hb : Below B w w') : LeftS w' B f A pre rest := by
  refine ⟨h.1, fun hr => ?_⟩
  obtain ⟨g, e, h1, h2⟩ := h.2 hr
  exact ⟨g, e, h1, h2.below hb h1⟩
/-- One call is taken. -/
theorem LeftS.take {w : World} {B : Nat} {f pre k r : Forest} {c : UInt8} {A : Option Addr} (h : LeftS w B f A pre (.cons c k r)) :
    LeftS w B f A (pre.app (.cons c k .nil)) r ∧ pre.len < f.len ∧ k.size < f.size ∧ ∃ g v, A = some ⟨g, 0, none⟩ ∧ g < B ∧ w.cell? ⟨g, pre.len * 2, none⟩ = some (.string ⟨#[c]⟩) ∧ w.cell? ⟨g, pre.len * 2 + 1, none⟩ = some v ∧ IsKids w (· < B) k v := by
  obtain ⟨h1, h2⟩ := h
  obtain ⟨g, e, h3, h4⟩ := h2 rfl
  obtain ⟨c0, ⟨v, c1, hv⟩, hr⟩ := h4.kids
  have hl : (pre.app (.cons c k .nil)).len = pre.len + 1 := by rw [Forest.app_len]; rfl
  refine ⟨⟨?_, fun _ => ⟨g, e, h3, ?_⟩⟩, ?_, ?_, g, v, e, h3, c0, c1, hv⟩
  · rw [Forest.app_assoc]; exact h1
  · rw [hl, show (pre.len + 1) * 2 = pre.len * 2 + 2 by omega]; exact hr
  · rw [h1, Forest.app_len]; show pre.len < pre.len + (r.len + 1); omega
  · rw [h1, Forest.app_size]; show k.size < pre.size + (k.size + r.size + 1); omega
theorem LeftS.done {w : World} {B : Nat} {f pre : Forest} {A : Option Addr} (h : LeftS w B f A pre .nil) : f = pre := by rw [h.1, Forest.app_nil]

end Go.Proofs.Ytcpiojliakgdlaa
/- The reference's chains, texts and calls that are left. -/
namespace Go.Proofs.Ytcpiojliakgdlaa
open Go.RowKit

/-- A row of texts that is no nil. -/
def SolidTexts (w : World) (B : Nat) (v : Value) (ts : List ByteArray) : Prop := OwnTexts w B v ts ∧ v ≠ .slice none 0 0
theorem SolidTexts.form {w : World} {B : Nat} {v : Value} {ts : List ByteArray} (h : SolidTexts w B v ts) : ∃ g cap, v = .slice (some ⟨g, 0, none⟩) ts.length cap := by
  rcases h.1.2 with ⟨h0, _⟩ | ⟨g, cap, cur, e, _⟩
  · exact absurd h0 h.2
  · exact ⟨g, cap, e⟩
def ChainsPost (w : World) (L : List ByteArray) (e : Ending) (w' : World) : Prop := ∃ v, e = .returned v ∧ SolidTexts w' w.heap.size v L ∧ Below w.heap.size w w'

end Go.Proofs.Ytcpiojliakgdlaa
/- The reference's texts of calls. -/
namespace Go.Proofs.Ytcpiojliakgdlaa
open Go.RowKit

theorem str_size (x : List UInt8) : (strOf x).size = x.length := bytes_size x
end Go.Proofs.Ytcpiojliakgdlaa
/- The reference's calls that are left. -/
namespace Go.Proofs.Ytcpiojliakgdlaa
open Go.RowKit

/-- A slice of the reference's calls that is no nil. -/
def SolidS (w : World) (B : Nat) (v : Value) (f : Forest) : Prop := OwnS w B v f ∧ v ≠ .slice none 0 0
theorem SolidS.form {w : World} {B : Nat} {v : Value} {f : Forest} (h : SolidS w B v f) : ∃ g cap, v = .slice (some ⟨g, 0, none⟩) f.len cap := by
  obtain ⟨⟨xs, hown, _⟩, hn⟩ := h
  rcases hown.2 with ⟨h0, _⟩ | ⟨g, cap, cur, e, _⟩
  · exact absurd h0 hn
  · exact ⟨g, cap, e⟩
theorem SolidS.below {w w' : World} {B : Nat} {v : Value} {f : Forest} (h : SolidS w B v f) (hb : Below w.heap.size w w') : SolidS w' B v f :=
  ⟨h.1.far hb.size fun q _ h2 => hb.block q h2, h.2⟩
/-- What holds in a round while one call is put behind those that are left. -/
structure LessHeld (w : World) (X : Nat) (c : UInt8) (kv v : Value) (F f pre k r : Forest) (A : Option Addr) (w' : World) : Prop where
  box : Row w' X 181 #[.string ⟨#[c]⟩, kv]
  own : SolidS w' w.heap.size v F
  left : LeftS w' w.heap.size f A (pre.app (.cons c k .nil)) r
  kids : IsKids w' (· < w.heap.size) k kv
  below : Below w.heap.size w w'
theorem LessHeld.later {w : World} {X : Nat} {c : UInt8} {kv v : Value} {F f pre k r : Forest} {A : Option Addr} {w1 w2 : World} (h : LessHeld w X c kv v F f pre k r A w1) (hb : Below w1.heap.size w1 w2) : LessHeld w X c kv v F f pre k r A w2 :=
  ⟨h.box.below hb h.box.lt, h.own.below hb, h.left.below (hb.mono h.below.size), h.kids.below (hb.mono h.below.size), h.below.trans (hb.mono h.below.size)⟩

end Go.Proofs.Ytcpiojliakgdlaa
/- The reference's NeedsOf, ChainsOf, CountCalls, DepthOf. -/
namespace Go.Proofs.Ytcpiojliakgdlaa
open Go.RowKit

theorem own_low {w : World} {B B' : Nat} {e : TypeId} {size : Nat} {v : Value} {n : Nat} {xs : List Value} (h : w.ownsRow B e size v n xs) (hB : B' ≤ B) : w.ownsRow B' e size v n xs := by
  refine ⟨h.1, ?_⟩
  rcases h.2 with h0 | ⟨g, cap, cur, e1, hg, r⟩
  · exact .inl h0
  · exact .inr ⟨g, cap, cur, e1, by omega, r⟩
end Go.Proofs.Ytcpiojliakgdlaa
/- A trace twice, plain; which letters stand in a trace. -/
namespace Go.Proofs.Ytcpiojliakgdlaa
open Go.RowKit

/-- All letters of calls are names. -/
def Forest.all (P : UInt8 → Bool) : Forest → Prop
  | .nil => True
  | .cons c k r => P c = true ∧ k.all P ∧ r.all P
end Go.Proofs.Ytcpiojliakgdlaa
/- A row of numbers of the call's own; marks in numbers: what a law writes into what it was given, and whether it is held. -/
namespace Go.Proofs.Ytcpiojliakgdlaa.Si
open Go.RowKit

/-- Numbers in a row of the call's own. -/
def OwnInts (w : World) (B : Nat) (v : Value) (ts : List Int) : Prop := w.ownsRow B 3 1 v ts.length (ts.map (Value.int .i64))
theorem OwnInts.far {w w' : World} {B : Nat} {v : Value} {ts : List Int} (h : OwnInts w B v ts) (hk : ∀ g, v.ownBlock = some g → w'.heap[g]? = w.heap[g]?) : OwnInts w' B v ts := by
  refine ⟨h.1, ?_⟩
  rcases h.2 with h0 | ⟨g', cap, cur, rfl, hg, hh, r⟩
  · exact .inl h0
  · exact .inr ⟨g', cap, cur, rfl, hg, (hk g' rfl).trans hh, r⟩
theorem OwnInts.below {w w' : World} {B : Nat} {v : Value} {ts : List Int} (h : OwnInts w B v ts) (hb : Below w.heap.size w w') : OwnInts w' B v ts := h.far fun g hg => hb.block g (World.ownsRow.lt h g hg).2
theorem OwnInts.empty (w : World) {B : Nat} (hB : B ≤ w.heap.size) : OwnInts (w.alloc (.cells #[] 3)) B (.slice (some ⟨w.heap.size, 0, none⟩) 0 0) [] :=
  World.ownsRow_lit w #[] 0 hB (by simp [maxLen]) rfl
/-- A slice of numbers in memory below 'B'. -/
def Ints (w : World) (B : Nat) (A : Option Addr) (ts : List Int) : Prop :=
  0 < ts.length → ∃ b o, A = some ⟨b, o, none⟩ ∧ b < B ∧ ∀ (k : Nat) (s : Int), ts[k]? = some s → w.cell? ⟨b, o + k, none⟩ = some (.int .i64 s)
theorem Ints.below {w w' : World} {B : Nat} {A : Option Addr} {l : List Int} (h : Ints w B A l) (hb : Below B w w') : Ints w' B A l := fun hl => by
  obtain ⟨b, o, e, hB, hc⟩ := h hl
  refine ⟨b, o, e, hB, fun k s hk => ?_⟩
  rw [hb.cell hB]
  exact hc k s hk
theorem Ints.more {w : World} {B B' : Nat} {A : Option Addr} {l : List Int} (h : Ints w B A l) (hB : B ≤ B') : Ints w B' A l := fun hl => by
  obtain ⟨b, o, e, hb, hc⟩ := h hl
  exact ⟨b, o, e, Nat.lt_of_lt_of_le hb hB, hc⟩
end Go.Proofs.Ytcpiojliakgdlaa.Si

namespace Go.Proofs.Ytcpiojliakgdlaa
open Go.RowKit

end Go.Proofs.Ytcpiojliakgdlaa
/- How often each segment is called: plain, and the reference's. -/
namespace Go.Proofs.Ytcpiojliakgdlaa
open Go.RowKit

def lastB (x : List UInt8) : UInt8 := x.getLastD 0
end Go.Proofs.Ytcpiojliakgdlaa
/- The program's calls: their methods, and what is needed for them, written out. -/
namespace Go.Proofs.Ytcpiojliakgdlaa
open Go.RowKit

set_option maxRecDepth 100000 in
theorem leafName_any (c : UInt8) (w : World) : Calls Try.prog 195 #[.agg #[.string ⟨#[c]⟩]] w fun e w' => e = .returned (.string ⟨#[c]⟩) ∧ w' = w.alloc (.cells #[.string ⟨#[c]⟩] 205) := by
  go_enter Try.func195, Try.ntmps195
  go_wp2
  go_ret
  exact ⟨rfl, rfl⟩
/-- What the methods of a call say, whichever of the two it is. -/
structure CallFacts (T : TypeId) (x : Value) (c : UInt8) (kv : Value) : Prop where
  name : ∀ w : World, (method 326 T x "loop.example/segmentrooms/impl.name").run Try.prog w = .ok (195, .agg #[.string ⟨#[c]⟩]) w
  calls : ∃ K y o, (∀ w : World, (method 326 T x "loop.example/segmentrooms/impl.calls").run Try.prog w = .ok (K, y) w) ∧ (∀ w : World, (callFunc K #[y]).run Try.prog w = .ok (.enter K #[y]) w) ∧ ∀ w : World, Calls Try.prog K #[y] w fun e w' => e = .returned kv ∧ w' = w.alloc o
end Go.Proofs.Ytcpiojliakgdlaa
/- The program's readTrace by its contract. -/
namespace Go.Proofs.Ytcpiojliakgdlaa
open Go.RowKit

theorem Nodes.known {w : World} {B g b : Nat} {l : List Seg} {nb : Nat → Nat} {cv : Nat → Value} (h : Nodes w B g l.length l.length l nb cv) (hb : w.heap.size ≤ b) : Known w b g l nb := by
  obtain ⟨cs, hrow, _, hci⟩ := h.row
  refine ⟨Nat.lt_of_lt_of_le hrow.lt hb, fun i x hx => ?_⟩
  have hi := (List.getElem?_eq_some_iff.1 hx).1
  have hn := h.node i x hi hx
  exact ⟨Nat.lt_of_lt_of_le hn.lt hb, by rw [hrow.cell]; exact hci i hi, hn.cell 0⟩

end Go.Proofs.Ytcpiojliakgdlaa
/- The program's needs: writeNeeds, NeedsOf. -/
namespace Go.Proofs.Ytcpiojliakgdlaa
open Go.RowKit

/-- What the range over calls has before it. -/
def LeftC (w : World) (B : Nat) (f : Forest) (A : Option Addr) (pre rest : Forest) : Prop := f = pre.app rest ∧ (rest.isNil = false → ∃ g, A = some ⟨g, 0, none⟩ ∧ g < B ∧ Cells w (· < B) rest g pre.len)
theorem LeftC.below {w w' : World} {B : Nat} {f pre rest : Forest} {A : Option Addr} (h : LeftC w B f A pre rest) (hb : Below B w w') : LeftC w' B f A pre rest := by
  refine ⟨h.1, fun hr => ?_⟩
  obtain ⟨g, e, h1, h2⟩ := h.2 hr
  exact ⟨g, e, h1, Cells.keep (fun q hq => ⟨hq, hb.block q hq⟩) rest g _ (hb.block g h1) h2⟩
/-- One call is taken. -/
theorem LeftC.take {w : World} {B : Nat} {f pre k r : Forest} {c : UInt8} {A : Option Addr} (h : LeftC w B f A pre (.cons c k r)) :
    LeftC w B f A (pre.app (.cons c k .nil)) r ∧ pre.len < f.len ∧ k.size < f.size ∧ ∃ g u, A = some ⟨g, 0, none⟩ ∧ g < B ∧ w.cell? ⟨g, pre.len, none⟩ = some u ∧ IsCall w (· < B) c k u := by
  obtain ⟨h1, h2⟩ := h
  obtain ⟨g, e, h3, h4⟩ := h2 rfl
  obtain ⟨⟨u, c0, hu⟩, hr⟩ := h4
  have hl : (pre.app (.cons c k .nil)).len = pre.len + 1 := by rw [Forest.app_len]; rfl
  refine ⟨⟨?_, fun _ => ⟨g, e, h3, ?_⟩⟩, ?_, ?_, g, u, e, h3, c0, hu⟩
  · rw [Forest.app_assoc]; exact h1
  · rw [hl]; exact hr
  · rw [h1, Forest.app_len]; show pre.len < pre.len + (r.len + 1); omega
  · rw [h1, Forest.app_size]; show k.size < pre.size + (k.size + r.size + 1); omega
theorem LeftC.done {w : World} {B : Nat} {f pre : Forest} {A : Option Addr} (h : LeftC w B f A pre .nil) : f = pre := by rw [h.1, Forest.app_nil]
theorem SliceIs.below {w w' : World} {f : Forest} {v : Value} {B : Nat} (h : SliceIs w (· < B) v f) (hb : Below B w w') : SliceIs w' (· < B) v f :=
  h.keep fun q hq => ⟨hq, hb.block q hq⟩

end Go.Proofs.Ytcpiojliakgdlaa
/- The program's chains: an iterator that calls itself. -/
namespace Go.Proofs.Ytcpiojliakgdlaa
open Go.RowKit Go.Shelf
attribute [local go_sem] Oper.semAt_some

theorem grown_of_below {X Y : World} (h : Below X.heap.size X Y) : X.grownBy Y none := ⟨h.os, h.tape, h.output, h.size, fun k hk _ => h.block k hk⟩
/-- Blocks for deferred calls, all empty: each loop over an iterator leaves one. -/
def MarksIn (lo hi : Nat) (W : World) (Ls : List Nat) : Prop := Ls.Nodup ∧ ∀ L ∈ Ls, lo ≤ L ∧ L < hi ∧ W.heap[L]? = some (.deferred (some []))
def marksOf (Ls : List Nat) : List Deferred := Ls.map fun L => { target := .collected L, args := #[] }
theorem MarksIn.nil (lo hi : Nat) (W : World) : MarksIn lo hi W [] := ⟨List.nodup_nil, fun L h => by cases h⟩
theorem MarksIn.keep {lo hi D : Nat} {W W' : World} {Ls : List Nat} (h : MarksIn lo hi W Ls) (hk : KeepsN D W W') (hD : D ≤ lo) : MarksIn lo hi W' Ls :=
  ⟨h.1, fun L hL => ⟨(h.2 L hL).1, (h.2 L hL).2.1, hk.same L _ (Nat.le_trans hD (h.2 L hL).1) (h.2 L hL).2.2 (fun c t fz he => by cases he)⟩⟩
theorem MarksIn.up {lo hi hi' : Nat} {W : World} {Ls : List Nat} (h : MarksIn lo hi W Ls) (hh : hi ≤ hi') : MarksIn lo hi' W Ls := ⟨h.1, fun L hL => ⟨(h.2 L hL).1, by have := (h.2 L hL).2.1; omega, (h.2 L hL).2.2⟩⟩
theorem MarksIn.grown {lo hi B : Nat} {W W' : World} {Ls : List Nat} {row : Option Nat} (h : MarksIn lo hi W Ls) (hg : W.grownBy W' row) (hr : ∀ r, row = some r → B ≤ r) (hB : hi ≤ B) : MarksIn lo hi W' Ls :=
  ⟨h.1, fun L hL => ⟨(h.2 L hL).1, (h.2 L hL).2.1, (hg.block L (Array.getElem?_eq_some_iff.1 (h.2 L hL).2.2).1 (fun e => by have := hr L e.symm; have := (h.2 L hL).2.1; omega)).trans (h.2 L hL).2.2⟩⟩
theorem MarksIn.cons {lo hi L : Nat} {W : World} {Ls : List Nat} (h : MarksIn lo hi W Ls) (h1 : hi ≤ L) (h2 : lo ≤ L) (h3 : W.heap[L]? = some (.deferred (some []))) : MarksIn lo (L + 1) W (L :: Ls) :=
  ⟨List.nodup_cons.2 ⟨fun hm => by have := (h.2 L hm).2.1; omega, h.1⟩, fun M hM => by
    rcases List.mem_cons.1 hM with rfl | hM
    · exact ⟨h2, by omega, h3⟩
    · exact ⟨(h.2 M hM).1, by have := (h.2 M hM).2.1; omega, (h.2 M hM).2.2⟩⟩
/-- A function whose frame holds marks alone leaves. -/
theorem marks_leave {F : Fence} {n : Nat} {P : Program} {fn : Func} {tmps : Array Value} {R : Ending → World → Prop} {lo hi : Nat} {I : World → Prop} (hI : ∀ (W : World) (L : Nat), I W → lo ≤ L → W.heap[L]? = some (.deferred (some [])) → I (W.putObj L (.deferred none)))
    (hres : fn.results = #[]) (hR : ∀ W, I W → R (.returned (.tuple #[])) W) : ∀ (Ls : List Nat) (W : World), MarksIn lo hi W Ls → I W → LeavesInM F n P fn tmps R (marksOf Ls) .returning W
  | [], W, _, h => ⟨_, results_none hres _ _ _, hR W h⟩
  | L :: Ls, W, hm, h => by
    have hL := hm.2 L (by simp)
    refine ⟨by simp, .inl ⟨L, _, rfl, run_takeDeferred hL.2.2, ?_⟩⟩
    refine marks_leave (hi := hi) hI hres hR Ls _ ⟨(List.nodup_cons.1 hm.1).2, fun M hM => ?_⟩ (hI W L h hL.1 hL.2.2)
    have hM' := hm.2 M (by simp [hM])
    refine ⟨hM'.1, hM'.2.1, ?_⟩
    rw [World.putObj_heap_other (fun e => (List.nodup_cons.1 hm.1).1 (by subst e; exact hM))]
    exact hM'.2.2

/-- What holds at the head of a round of the iterator. -/
structure ChHead (W : World) (n₀ D : Nat) (f : Forest) (a : List UInt8) (A : Option Addr) (cap Bc Bs l' : Nat) (J : List (List UInt8) → World → Prop) (pre rest : Forest) (Ls : List Nat) (W' : World) : Prop where
  left : LeftC W' n₀ f A pre rest
  come : J (chainsB a pre) W'
  low : Below n₀ W W'
  size : W.heap.size + 1 ≤ W'.heap.size
  boxY : BoxAt W' n₀ D W.heap.size (.func (.yield l') #[] #[]) 150
  boxC : BoxAt W' n₀ D Bc (.slice A f.len cap) 182
  boxS : BoxAt W' n₀ D Bs (.string (strOf a)) 9
  marks : MarksIn W.heap.size W'.heap.size W' Ls
/-- Later, with nothing old written. -/
theorem ChHead.later {W : World} {n₀ D : Nat} {f : Forest} {a : List UInt8} {A : Option Addr} {cap Bc Bs l' : Nat} {J : List (List UInt8) → World → Prop} {pre rest : Forest} {Ls : List Nat} {W1 W2 : World} (h : ChHead W n₀ D f a A cap Bc Bs l' J pre rest Ls W1)
    (hJ : OwnFrom W.heap.size J) (hb : Below W1.heap.size W1 W2) (hn : n₀ ≤ W.heap.size) : ChHead W n₀ D f a A cap Bc Bs l' J pre rest Ls W2 := by
  have hg := grown_of_below hb
  have hz := h.size
  have hb0 : Below n₀ W1 W2 := hb.mono (by omega)
  exact ⟨h.left.below hb0, hJ _ _ _ _ h.come hg (fun r e => by cases e), h.low.trans hb0, Nat.le_trans h.size hb.size, h.boxY.grown hg (fun r e => by cases e), h.boxC.grown hg (fun r e => by cases e), h.boxS.grown hg (fun r e => by cases e),
    (h.marks.grown hg (B := W1.heap.size) (fun r e => by cases e) (Nat.le_refl _)).up hb.size⟩
/-- What holds between two rounds of the loop within. -/
structure ChMid (W W3 : World) (n₀ D hi : Nat) (n : Nat) (a : List UInt8) (A : Option Addr) (cap Bc Bs l' : Nat) (Ls : List Nat) (W' : World) : Prop where
  low : Below n₀ W3 W'
  size : hi ≤ W'.heap.size
  boxY : BoxAt W' n₀ D W.heap.size (.func (.yield l') #[] #[]) 150
  boxC : BoxAt W' n₀ D Bc (.slice A n cap) 182
  boxS : BoxAt W' n₀ D Bs (.string (strOf a)) 9
  marks : MarksIn W.heap.size hi W' Ls
theorem ChMid.grown {W W3 : World} {n₀ D hi n : Nat} {a : List UInt8} {A : Option Addr} {cap Bc Bs l' : Nat} {Ls : List Nat} {X Y : World} {row : Option Nat} (h : ChMid W W3 n₀ D hi n a A cap Bc Bs l' Ls X) (hg : X.grownBy Y row)
    (hr : ∀ r, row = some r → hi ≤ r ∧ ∃ o : Obj, X.heap[r]? = some o ∧ o.isCells = false) (hn : n₀ ≤ hi) : ChMid W W3 n₀ D hi n a A cap Bc Bs l' Ls Y :=
  ⟨h.low.grown hg (Nat.le_trans hn h.size) (fun k e => Nat.le_trans hn (hr k e).1), Nat.le_trans h.size hg.size, h.boxY.grown hg (fun r e => (hr r e).2), h.boxC.grown hg (fun r e => (hr r e).2), h.boxS.grown hg (fun r e => (hr r e).2), h.marks.grown hg (fun r e => (hr r e).1) (Nat.le_refl _)⟩
theorem ChMid.keep {W W3 : World} {n₀ D hi n : Nat} {a : List UInt8} {A : Option Addr} {cap Bc Bs l' : Nat} {Ls : List Nat} {X Y : World} (h : ChMid W W3 n₀ D hi n a A cap Bc Bs l' Ls X) (hb : Below n₀ X Y) (hk : KeepsN D X Y) (hD : D ≤ W.heap.size) : ChMid W W3 n₀ D hi n a A cap Bc Bs l' Ls Y :=
  ⟨h.low.trans hb, Nat.le_trans h.size hk.size, h.boxY.keep hb hk, h.boxC.keep hb hk, h.boxS.keep hb hk, h.marks.keep hk hD⟩
end Go.Proofs.Ytcpiojliakgdlaa
/- Chains gathered into a slice: the program's ChainsOf and CountCalls. -/
namespace Go.Proofs.Ytcpiojliakgdlaa
open Go.RowKit Go.Shelf
attribute [local go_sem] Oper.semAt_some

def txt (x : List UInt8) : Value := .string (strOf x)
theorem row_grownT {W W' : World} {b : Nat} {t : TypeId} {cs : Array Value} {row : Option Nat} (h : Row W b t cs) (hg : W.grownBy W' row) {B : Nat} (hr : ∀ r, row = some r → B ≤ r ∧ ∃ o : Obj, W.heap[r]? = some o ∧ o.isCells = false) : Row W' b t cs :=
  (hg.block b h.lt (fun he => by
    obtain ⟨_, o, ho, hc⟩ := hr b he.symm
    have h' : W.heap[b]? = some (.cells cs t (0, 0)) := h
    rw [h'] at ho
    injection ho with ho
    subst ho
    cases hc)).trans h
theorem own_grownT {W W' : World} {base n : Nat} {e : TypeId} {v : Value} {xs : List Value} {row : Option Nat} (h : W.ownsRow base e 1 v n xs) (hg : W.grownBy W' row) (hr : ∀ r, row = some r → ∃ o : Obj, W.heap[r]? = some o ∧ o.isCells = false) : W'.ownsRow base e 1 v n xs :=
  own_keep h fun g hb => hg.block g ((h.lt g hb).2) (fun he => by
    obtain ⟨o, ho, hc⟩ := hr g he.symm
    rcases h.2 with ⟨rfl, _⟩ | ⟨g', cap, cur, rfl, _, hh, _⟩
    · simp [Value.ownBlock] at hb
    · have : g' = g := by simpa [Value.ownBlock] using hb
      subst this
      rw [hh] at ho
      injection ho with ho
      subst ho
      cases hc)

/-- What is firm stays. -/
def SteadyT (W W' : World) : Prop := ∀ (k : Nat) (o : Obj), W.heap[k]? = some o → Firm o → W'.heap[k]? = some o

/-- One node's pointer is put behind those that were gathered: only a row of two cells or more is written in place. -/
theorem run_append_firmT (w : World) (ty base n : Nat) (v : Value) (xs : List Value) (hown : w.ownsRow base 9 1 v n xs) (h0 : n = 0 → v = .slice none 0 0) (ad : Addr) (u : Value)
    (hnews : ∀ j y, [u][j]? = some y → w.cell? (ad.add j) = some y) (h1 : ∀ y ∈ [u], y.oneCell' = true) (hn : n ≤ 1000) (hbase : base ≤ w.heap.size) :
    ∃ g cap w', (Builtin.append_ #[40, 40] ty #[v, .slice (some ad) 1 1]).run Try.prog w = .ok (.slice (some ⟨g, 0, none⟩) (n + 1) cap) w' ∧
      w'.ownsRow base 9 1 (.slice (some ⟨g, 0, none⟩) (n + 1) cap) (n + 1) (xs ++ [u]) ∧ w.grownBy w' v.ownBlock ∧ SteadyT w w' := by
  obtain ⟨i0, hi, hz0, hz1, hz2⟩ := info_parts info_str
  obtain ⟨v', w', hr, h2, h3, -, -⟩ := run_append_own_at (P := Try.prog) w base 40 ty 9 i0 (.string ByteArray.empty) 1 16 Try.underlying40 hi hz0 hz1 hz2 rfl (by decide) v n xs hown ad 1 1 [u] rfl hnews h1 (by unfold maxLen; omega) (by omega) hbase
  obtain ⟨g, cap, rfl⟩ := own_form h2 (by omega)
  refine ⟨g, cap, w', hr, h2, h3, ?_⟩
  rcases hown.2 with ⟨rfl, rfl⟩ | ⟨g', cap', cur, rfl, hbg, hg, hnc, hcm, hcs, htake⟩
  · have hr2 := run_append_nil (P := Try.prog) w 40 ty 9 i0 (.string ByteArray.empty) Try.underlying40 hi hz0 ad 1 1 [u] (by rw [hz1]; rfl) hnews (by decide) (by decide) (by rw [hz2]; decide)
    rw [hr] at hr2
    injection hr2 with _ hw
    subst hw
    exact fun k o hk _ => (Below.heap_alloc w.drew _ k (Array.getElem?_eq_some_iff.1 hk).1).trans hk
  · by_cases hc : n + 1 ≤ cap'
    · refine fun k o hk hf => (h3.block k (Array.getElem?_eq_some_iff.1 hk).1 (fun he => ?_)).trans hk
      have he' : k = g' := by simpa [Value.ownBlock] using he
      subst he'
      rw [hg] at hk
      injection hk with hk
      have := (hf cur _ _ hk.symm).2.resolve_right (by decide)
      have hn1 : 0 < n := Nat.pos_of_ne_zero fun e => by have := h0 e; cases this
      omega
    · obtain ⟨v2, w2, hr2, -, hg2⟩ := run_append_arg_grows (P := Try.prog) w 40 ty 9 i0 (.string ByteArray.empty) 1 16 Try.underlying40 hi hz0 hz1 hz2 rfl (by decide) ⟨g', 0, none⟩ n cap' xs hown.1
        (fun j y hj => by
          have h5 : w.cell? ⟨g', 0 + j, none⟩ = some y := by
            rw [Nat.zero_add, hown.cellAt j (by have := (List.getElem?_eq_some_iff.1 hj).1; have := hown.1; omega)]
            exact hj
          rw [WideShapes.add_plain]
          exact h5) ad 1 1 [u] rfl hnews (by omega) (by unfold maxLen; omega) (by omega)
      rw [hr] at hr2
      injection hr2 with _ hw
      subst hw
      exact fun k o hk _ => (hg2.block k (Array.getElem?_eq_some_iff.1 hk).1 (fun he => by cases he)).trans hk

/-- What was gathered: the box holds a slice of the call's own. -/
structure GathT (w : World) (T : List (List UInt8)) (W : World) : Prop where
  ex : ∃ v, Row W w.heap.size 40 #[v] ∧ W.ownsRow (w.heap.size + 1) 9 1 v T.length (T.map txt) ∧ (T.length = 0 → v = .slice none 0 0)
  below : Below w.heap.size w W
theorem GathT.grown {w W W' : World} {T : List (List UInt8)} {B : Nat} {row : Option Nat} (h : GathT w T W) (hg : W.grownBy W' row) (hB : w.heap.size ≤ B) (hr : ∀ r, row = some r → B ≤ r ∧ ∃ o : Obj, W.heap[r]? = some o ∧ o.isCells = false) : GathT w T W' := by
  obtain ⟨⟨v, h1, h2, h3⟩, hb⟩ := h
  exact ⟨⟨v, row_grownT h1 hg hr, own_grownT h2 hg (fun r e => (hr r e).2), h3⟩, hb.grown hg hb.size (fun k e => by have := (hr k e).1; omega)⟩

end Go.Proofs.Ytcpiojliakgdlaa
/- How often each segment is called: the program's. -/
namespace Go.Proofs.Ytcpiojliakgdlaa
open Go.RowKit Go.Shelf
attribute [local go_sem] Oper.semAt_some

end Go.Proofs.Ytcpiojliakgdlaa
/- Chains and the kinds of their last calls: plain. -/
namespace Go.Proofs.Ytcpiojliakgdlaa
open Go.RowKit

end Go.Proofs.Ytcpiojliakgdlaa
/- Texts put into their places one by one, and sorted and compacted at once: plain. -/
namespace Go.Proofs.Ytcpiojliakgdlaa
open Go.RowKit

abbrev Txt := List UInt8
/-- One text in its place. -/
def putB (L : List Txt) (s : Txt) : List Txt :=
  if (L.dropWhile fun x => decide (x < s)).head? = some s then L else L.takeWhile (fun x => decide (x < s)) ++ s :: L.dropWhile (fun x => decide (x < s))
def putAll (L : List Txt) (xs : List Txt) : List Txt := xs.foldl putB L
theorem take_drop_while {p : Txt → Bool} (L : List Txt) : L.takeWhile p ++ L.dropWhile p = L := List.takeWhile_append_dropWhile
theorem takeWhile_all {p : Txt → Bool} : ∀ (L : List Txt), ∀ x ∈ L.takeWhile p, p x = true
  | [], x, h => by cases h
  | y :: L, x, h => by
    rw [List.takeWhile_cons] at h
    by_cases hy : p y = true
    · rw [if_pos hy] at h
      rcases List.mem_cons.1 h with rfl | h
      · exact hy
      · exact takeWhile_all L x h
    · rw [if_neg hy] at h
      cases h
theorem dropWhile_head {p : Txt → Bool} : ∀ (L : List Txt) (y : Txt) (r : List Txt), L.dropWhile p = y :: r → p y = false
  | [], y, r, h => by cases h
  | z :: L, y, r, h => by
    rw [List.dropWhile_cons] at h
    by_cases hz : p z = true
    · rw [if_pos hz] at h
      exact dropWhile_head L y r h
    · rw [if_neg hz] at h
      injection h with h1 _
      subst h1
      simpa using hz
theorem txt_tri (x y : Txt) : x < y ∨ x = y ∨ y < x := by
  by_cases h1 : x < y
  · exact .inl h1
  · by_cases h2 : y < x
    · exact .inr (.inr h2)
    · exact .inr (.inl (List.le_antisymm (List.not_lt.1 h2) (List.not_lt.1 h1)))
theorem txt_irr (x : Txt) : ¬ x < x := List.lt_irrefl x
theorem txt_trans {x y z : Txt} (h1 : x < y) (h2 : y < z) : x < z := List.lt_trans h1 h2
theorem putB_mem (L : List Txt) (s x : Txt) : x ∈ putB L s ↔ x ∈ L ∨ x = s := by
  have e := take_drop_while (p := fun x => decide (x < s)) L
  unfold putB
  by_cases h : (L.dropWhile fun x => decide (x < s)).head? = some s
  · rw [if_pos h]
    constructor
    · exact .inl
    · rintro (h' | rfl)
      · exact h'
      · have h2 : x ∈ L.dropWhile fun y => decide (y < x) := List.mem_of_mem_head? h
        rw [← e]
        exact List.mem_append.2 (.inr h2)
  · rw [if_neg h]
    constructor
    · intro h'
      rcases List.mem_append.1 h' with h' | h'
      · exact .inl (by rw [← e]; exact List.mem_append.2 (.inl h'))
      · rcases List.mem_cons.1 h' with h' | h'
        · exact .inr h'
        · exact .inl (by rw [← e]; exact List.mem_append.2 (.inr h'))
    · rintro (h' | rfl)
      · rw [← e] at h'
        rcases List.mem_append.1 h' with h' | h'
        · exact List.mem_append.2 (.inl h')
        · exact List.mem_append.2 (.inr (List.mem_cons_of_mem _ h'))
      · exact List.mem_append.2 (.inr List.mem_cons_self)
theorem putB_sorted {L : List Txt} (hL : L.Pairwise (· < ·)) (s : Txt) : (putB L s).Pairwise (· < ·) := by
  have e := take_drop_while (p := fun x => decide (x < s)) L
  unfold putB
  by_cases h : (L.dropWhile fun x => decide (x < s)).head? = some s
  · rw [if_pos h]; exact hL
  · rw [if_neg h]
    rw [← e, List.pairwise_append] at hL
    obtain ⟨h1, h2, h3⟩ := hL
    have hlo : ∀ x ∈ L.takeWhile (fun x => decide (x < s)), x < s := fun x hx => of_decide_eq_true (takeWhile_all (p := fun x => decide (x < s)) L x hx)
    have hhi : ∀ x ∈ L.dropWhile (fun x => decide (x < s)), s < x := by
      cases hd : L.dropWhile (fun x => decide (x < s)) with
      | nil => intro x hx; cases hx
      | cons y r =>
        rw [hd] at h h2
        have hy := of_decide_eq_false (dropWhile_head (p := fun x => decide (x < s)) L y r hd)
        have hsy : s < y := by
          rcases txt_tri y s with h' | h' | h'
          · exact absurd h' hy
          · exact absurd (by rw [h']; rfl) h
          · exact h'
        intro x hx
        rcases List.mem_cons.1 hx with rfl | hx
        · exact hsy
        · exact txt_trans hsy ((List.pairwise_cons.1 h2).1 x hx)
    rw [List.pairwise_append]
    refine ⟨h1, List.pairwise_cons.2 ⟨hhi, h2⟩, fun a ha b hb => ?_⟩
    rcases List.mem_cons.1 hb with rfl | hb
    · exact hlo a ha
    · exact h3 a ha b hb
theorem putAll_sorted : ∀ (xs L : List Txt), L.Pairwise (· < ·) → (putAll L xs).Pairwise (· < ·)
  | [], _, h => h
  | x :: xs, L, h => putAll_sorted xs (putB L x) (putB_sorted h x)
theorem putAll_mem : ∀ (xs L : List Txt) (x : Txt), x ∈ putAll L xs ↔ x ∈ L ∨ x ∈ xs
  | [], L, x => by simp [putAll]
  | y :: xs, L, x => by
    show x ∈ putAll (putB L y) xs ↔ _
    rw [putAll_mem xs (putB L y) x, putB_mem, List.mem_cons]
    constructor
    · rintro ((h | h) | h)
      · exact .inl h
      · exact .inr (.inl h)
      · exact .inr (.inr h)
    · rintro (h | h | h)
      · exact .inl (.inl h)
      · exact .inl (.inr h)
      · exact .inr h
end Go.Proofs.Ytcpiojliakgdlaa
/- spec.l4Put: a text put into its place in a row of texts. -/
namespace Go.Proofs.Ytcpiojliakgdlaa
open Go.RowKit

end Go.Proofs.Ytcpiojliakgdlaa
/- UnsafeChains and IsSafe on both sides. -/
namespace Go.Proofs.Ytcpiojliakgdlaa
open Go.RowKit Go.Shelf

end Go.Proofs.Ytcpiojliakgdlaa
/- PairsOf on both sides. -/
namespace Go.Proofs.Ytcpiojliakgdlaa
open Go.RowKit Go.Shelf

/-- The map holds just some texts. -/
structure PairsHeld (X : World) (b n : Nat) (ps : List Txt) (D : DataW Unit) : Prop where
  own : X.ownsMap Try.prog 9 (plainElem Try.prog 4) b n D
  has : ∀ s, Maps.has D (.string s) = true ↔ s ∈ ps
/-- The keys of such a map, sorted, are the texts put in one by one. -/
theorem PairsHeld.sorted {X : World} {b n : Nat} {ps ss : List Txt} {D : DataW Unit} (h : PairsHeld X b n ps D) (hp : ss.Perm (strKeys D)) : (ss.mergeSort fun x y => decide (x ≤ y)) = putAll [] ps := by
  obtain ⟨es, rfl, hne, -⟩ := h.own.entries (Maps.string_keyed Try.underlying9)
  obtain ⟨es', he, hk⟩ := World.ownsMap.keysOf h.own
  injection he with he
  subst he
  have hall : ∀ p ∈ es, ∃ x, p.1 = Lit.string x := fun p hpm => by
    obtain ⟨key, hkey⟩ := hk p hpm
    obtain ⟨x, _, hx, _⟩ := Maps.keyOf_str Try.underlying9 hkey
    exact ⟨x, hx⟩
  have hs := putAll_sorted ps [] List.Pairwise.nil
  have hnd : (putAll [] ps).Nodup := hs.imp (fun {a b} hab e => by subst e; exact txt_irr _ hab)
  have hperm := perm_strKeys hne hall hnd (fun x => by rw [putAll_mem, h.has]; simp)
  have h1 := mergeSort_of_perm (hp.trans hperm.symm)
  have h2 : (putAll [] ps).mergeSort leB = putAll [] ps := List.mergeSort_of_pairwise (hs.imp (fun {a b} hab => decide_eq_true (List.le_of_lt hab)))
  exact h1.trans h2

attribute [local go_sem] Oper.semAt_some

end Go.Proofs.Ytcpiojliakgdlaa
/- Who may call whom: pairs, and what can be reached: plain. -/
namespace Go.Proofs.Ytcpiojliakgdlaa
open Go.RowKit

/-- Pairs in their order, each once. -/
structure IsGraph (l : List Seg) (ps : List Txt) : Prop where
  valid : validB l = true
  len : ps.length ≤ 20
  two : ∀ p ∈ ps, ∃ u v, p = [u, v] ∧ callP l u = true ∧ callP l v = true
  asc : ps.Pairwise (· < ·)
/-- Whom a segment may call, in the order of the pairs. -/
def fstB (p : Txt) : UInt8 := p.headD 0
def calleds (ps : List Txt) (u : UInt8) : List UInt8 := (ps.filter fun p => decide (fstB p = u)).map lastB
/-- The last segments of all ways but the first one. -/
def lasts (Q : List Txt) : List UInt8 := Q.tail.map lastB
def wayOk (ps : List Txt) (Q : List Txt) : Prop := Q ≠ [] ∧ (lasts Q).Nodup ∧ (∀ c ∈ lasts Q, c ∈ ps.map lastB) ∧ (∀ x ∈ Q, x ≠ [])
theorem nodup_le : ∀ {a b : List UInt8}, a.Nodup → (∀ x ∈ a, x ∈ b) → a.length ≤ b.length
  | [], b, _, _ => Nat.zero_le _
  | x :: a, b, hn, hs => by
    have hx := hs x List.mem_cons_self
    obtain ⟨h1, h2⟩ := List.nodup_cons.1 hn
    have h3 := nodup_le (b := b.erase x) h2 (fun y hy => (List.mem_erase_of_ne (fun e => h1 (by rw [← e]; exact hy))).2 (hs y (List.mem_cons_of_mem _ hy)))
    rw [List.length_erase_of_mem hx] at h3
    have h4 := List.length_pos_of_mem hx
    rw [List.length_cons]
    omega
theorem wayOk.len {ps Q : List Txt} (h : wayOk ps Q) : Q.length ≤ ps.length + 1 := by
  have h1 := nodup_le h.2.1 h.2.2.1
  unfold lasts at h1
  rw [List.length_map, List.length_map, List.length_tail] at h1
  omega
end Go.Proofs.Ytcpiojliakgdlaa
/- What is lost in a trace: plain. -/
namespace Go.Proofs.Ytcpiojliakgdlaa
open Go.RowKit

end Go.Proofs.Ytcpiojliakgdlaa
/- LostIn on both sides. -/
namespace Go.Proofs.Ytcpiojliakgdlaa
open Go.RowKit Go.Shelf

end Go.Proofs.Ytcpiojliakgdlaa
/- The reference: which pairs are valid, and what is reached. -/
namespace Go.Proofs.Ytcpiojliakgdlaa
open Go.RowKit

end Go.Proofs.Ytcpiojliakgdlaa
/- The program's graph: a map of sets, made out of pairs. -/
namespace Go.Proofs.Ytcpiojliakgdlaa
open Go.RowKit Go.Shelf

/-- A set of names in memory: what was put in. -/
def SetAt (X : World) (c : Nat) (xs : List Txt) : Prop := ∃ E, PairsHeld X c xs.length xs E ∧ ∀ k, E.atKey k (.lit (.bool false)) = .lit (.bool (Maps.has E k))
theorem SetAt.block {X Y : World} {c : Nat} {xs : List Txt} (h : SetAt X c xs) (hk : Y.heap[c]? = X.heap[c]?) : SetAt Y c xs := by
  obtain ⟨E, ⟨⟨es, clock, hb, r⟩, hh⟩, hv⟩ := h
  exact ⟨E, ⟨⟨es, clock, hk.trans hb, r⟩, hh⟩, hv⟩
theorem SetAt.lt {X : World} {c : Nat} {xs : List Txt} (h : SetAt X c xs) : c < X.heap.size := by
  obtain ⟨E, h1, _⟩ := h
  exact h1.own.lt
theorem SetAt.made (X : World) : SetAt (X.alloc (.map #[] 0)) X.heap.size [] := ⟨.map [], ⟨World.ownsMap_made X Try.prog 9 (plainElem Try.prog 4), fun s => by simp [Maps.has]⟩, fun k => rfl⟩
def mapElem (v : Value) : Option (DataW Unit × List MemPlace) := match v with
  | .map none => some (.nil, [])
  | .map (some b) => some (.lit (.int .i64 (b : Int)), [])
  | _ => none
/-- A graph in memory: the maps lie from 'B' on and below 'N'. -/
structure GraphAt (X : World) (B N b : Nat) (ps : List Txt) : Prop where
  ex : ∃ D n, n ≤ ps.length ∧ X.ownsMap Try.prog 9 mapElem b n D ∧ ∀ u : UInt8, (calleds ps u = [] ∧ D.atKey (.string [u]) .nil = .nil) ∨
    ∃ c : Nat, D.atKey (.string [u]) .nil = .lit (.int .i64 (c : Int)) ∧ B ≤ c ∧ c < N ∧ c ≠ b ∧ SetAt X c ((calleds ps u).map fun v => [v]) ∧ ∀ u', D.atKey (.string [u']) .nil = .lit (.int .i64 (c : Int)) → u' = u
  low : B ≤ b
  hi : b < N
theorem GraphAt.keep {X Y : World} {B N b : Nat} {ps : List Txt} (h : GraphAt X B N b ps) (hk : ∀ q, B ≤ q → q < N → Y.heap[q]? = X.heap[q]?) : GraphAt Y B N b ps := by
  obtain ⟨⟨D, n, hn, ⟨es, clock, hb, r⟩, hu⟩, h1, h2⟩ := h
  refine ⟨⟨D, n, hn, ⟨es, clock, (hk b h1 h2).trans hb, r⟩, fun u => ?_⟩, h1, h2⟩
  rcases hu u with h | ⟨c, h3, h4, h5, h6, h7, h8⟩
  · exact .inl h
  · exact .inr ⟨c, h3, h4, h5, h6, h7.block (hk c h4 h5), h8⟩
theorem GraphAt.below {X Y : World} {B N b : Nat} {ps : List Txt} (h : GraphAt X B N b ps) (hb : Below N X Y) : GraphAt Y B N b ps := h.keep fun q _ hq => hb.block q hq
theorem GraphAt.drew {X : World} {B N b : Nat} {ps : List Txt} (h : GraphAt X B N b ps) : GraphAt X.drew B N b ps := h.keep fun _ _ _ => rfl
theorem GraphAt.more {X : World} {B N N' b : Nat} {ps : List Txt} (h : GraphAt X B N b ps) (hN : N ≤ N') : GraphAt X B N' b ps := by
  obtain ⟨⟨D, n, hn, ho, hu⟩, h1, h2⟩ := h
  refine ⟨⟨D, n, hn, ho, fun u => ?_⟩, h1, by omega⟩
  rcases hu u with h | ⟨c, h3, h4, h5, h6, h7, h8⟩
  · exact .inl h
  · exact .inr ⟨c, h3, h4, by omega, h6, h7, h8⟩
theorem GraphAt.made {X : World} {B : Nat} (hB : B ≤ X.heap.size) : GraphAt (X.alloc (.map #[] 0)) B (X.heap.size + 1) X.heap.size [] :=
  ⟨⟨.map [], 0, Nat.le_refl _, World.ownsMap_made X Try.prog 9 mapElem, fun _ => .inl ⟨rfl, rfl⟩⟩, hB, Nat.lt_succ_self _⟩
end Go.Proofs.Ytcpiojliakgdlaa
/- The program's graph is made; the names of a set, sorted. -/
namespace Go.Proofs.Ytcpiojliakgdlaa
open Go.RowKit Go.Shelf
attribute [local go_sem] Oper.semAt_some

end Go.Proofs.Ytcpiojliakgdlaa
