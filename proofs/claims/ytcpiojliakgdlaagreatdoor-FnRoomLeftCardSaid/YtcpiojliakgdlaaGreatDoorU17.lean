/- Joined: Kq Fa Kn Kr Fb. -/
import Derived.Test.YtcpiojliakgdlaaGreatDoorU13
import Derived.Test.YtcpiojliakgdlaaGreatDoorU16
import Derived.Test.YtcpiojliakgdlaaGreatDoorU04
import Derived.Test.YtcpiojliakgdlaaGreatDoorU14
import Derived.Lib.Replace
import Derived.Lib.ReplaceLaws
import Derived.Lib.SplitLaws
import Derived.Lib.IndexBytes
import Derived.Test.YtcpiojliakgdlaaGreatDoorU05
import Derived.Test.YtcpiojliakgdlaaGreatDoorSh
/- Chapter 9: a segment that grows: what the law of RoomLeft says of it (plain). -/
namespace Go.Proofs.YtcpiojliakgdlaaGreatDoor
open Go.RowKit

theorem grown9_cut {l : List Seg} (hv : validB l = true) {i : Nat} (hi : i < l.length) (x : Int) :
    Cut9 (l.set i ⟨nmAt9 l i, x, parAt l i⟩) (nmAt9 l) (resizeZ9 (sizeAt l) i x) (parAt l) l.length 0 (sub9 (parAt l) l.length 0) := by
  have hf := (tree9_of hv).fall
  have h := made9_cut (sz := resizeZ9 (sizeAt l) i x) hf (show 0 < l.length by omega)
  rw [made9_eq (pp := parAt l) hf (by omega) (fun _ _ _ => rfl) (tree9_of hv).root, resize9_eq hv hi] at h
  exact h
theorem grown9_at {l : List Seg} (hv : validB l = true) {k : Nat} (hk : k < l.length) : (sub9 (parAt l) l.length 0)[k]? = some k := by
  rw [sub9_root (tree9_of hv) (by omega), List.getElem?_range hk]
theorem grown9_valid {l : List Seg} (hv : validB l = true) {i : Nat} (hi : i < l.length) {x : Int} (hx : sizeOk x = true) : validB (l.set i ⟨nmAt9 l i, x, parAt l i⟩) = true := by
  have hc := grown9_cut hv hi x
  refine hc.valid hv (tree9_of hv).fall (by omega) fun a ha => ?_
  unfold resizeZ9
  split
  · exact hx
  · exact (seg9_ok hv ((hc.mem a).1 ha).1).2
theorem below9_step {l : List Seg} (hv : validB l = true) {i a p : Nat} (ha : a < l.length) (hp : parAt l a = (p : Int)) (hpa : p < a) : (i ∈ rp l a ↔ i = a ∨ i ∈ rp l p) := by
  have hd := (valid_all hv).1.down
  rw [rp_anc9 hd a ha, rp_anc9 hd p (by omega)]
  constructor
  · intro h
    cases h with
    | refl => exact .inl rfl
    | @step _ k h1 h2 =>
      have : k = p := by omega
      subst this
      exact .inr h2
  · rintro (h | h)
    · subst h; exact .refl
    · exact .step hp h
theorem grown9_ends {l : List Seg} (hv : validB l = true) {i : Nat} (hi : i < l.length) (x : Int) : ∀ m a, a ≤ m → a < l.length →
    endAt (l.set i ⟨nmAt9 l i, x, parAt l i⟩) a = endAt l a + if i ∈ rp l a then x - sizeAt l i else 0 := by
  have hc := grown9_cut hv hi x
  have hd := (valid_all hv).1.down
  have base : endAt (l.set i ⟨nmAt9 l i, x, parAt l i⟩) 0 = endAt l 0 + if i ∈ rp l 0 then x - sizeAt l i else 0 := by
    have h0 : i ∈ rp l 0 ↔ i = 0 := by
      rw [rp_anc9 hd 0 (by omega)]
      constructor
      · intro h
        have := h.le (tree9_of hv).fall (by omega)
        omega
      · rintro rfl; exact .refl
    rw [hc.end0, end09 hv]
    unfold resizeZ9
    by_cases hi0 : i = 0
    · rw [if_pos hi0.symm, if_pos (h0.2 hi0), hi0]
      omega
    · rw [if_neg (fun e => hi0 e.symm), if_neg (fun e => hi0 (h0.1 e))]
      omega
  intro m
  induction m with
  | zero =>
    intro a h1 h2
    obtain rfl : a = 0 := by omega
    exact base
  | succ m ih =>
    intro a h1 h2
    by_cases ha0 : a = 0
    · subst ha0; exact base
    · obtain ⟨p, k, g1, g2, g3, g4⟩ := hc.endS (grown9_at hv h2) ha0
      obtain ⟨q, e1, e2, e3⟩ := endS9 hv h2 ha0
      have hpq : p = q := by omega
      subst hpq
      have hk : k = p := nodup9_at hc.nodup g2 (grown9_at hv (by omega)) 
      subst hk
      have j := ih k (by omega) (by omega)
      rw [g4, j, e3]
      unfold resizeZ9
      have hst := below9_step (i := i) hv h2 e1 e2
      by_cases hai : a = i
      · subst hai
        have hn : ¬ a ∈ rp l k := fun h => by
          have := ((rp_anc9 hd k (by omega)).1 h).le (tree9_of hv).fall (by omega)
          omega
        rw [if_pos rfl, if_neg hn, if_pos (hst.2 (.inl rfl))]
        omega
      · rw [if_neg hai]
        by_cases hp : i ∈ rp l k
        · rw [if_pos hp, if_pos (hst.2 (.inr hp))]
          omega
        · rw [if_neg hp, if_neg (fun h => (hst.1 h).elim (fun e => hai e.symm) hp)]
          omega
theorem grown9_room {l : List Seg} (hv : validB l = true) {i : Nat} (hi : i < l.length) {x : Int} (h0 : 0 ≤ x - sizeAt l i) :
    roomTo (l.set i ⟨nmAt9 l i, x, parAt l i⟩) (l.set i ⟨nmAt9 l i, x, parAt l i⟩).length = max (roomTo l l.length) (deepTo l i l.length + (x - sizeAt l i)) := by
  have hlen : (l.set i ⟨nmAt9 l i, x, parAt l i⟩).length = l.length := List.length_set
  have hE := grown9_ends hv hi x
  have hr := (roomTo_bd hv l.length (Nat.le_refl _)).1
  have hd := (valid_all hv).1.down
  rw [hlen]
  have h1 := roomTo9_le (l := l.set i ⟨nmAt9 l i, x, parAt l i⟩) (X := max (roomTo l l.length) (deepTo l i l.length + (x - sizeAt l i))) l.length (by omega) fun j hj => by
    rw [hE j j (Nat.le_refl _) hj]
    have h2 := roomTo_le (l := l) l.length j hj
    by_cases hb : i ∈ rp l j
    · rw [if_pos hb]
      have := deepTo_ge (l := l) (i := i) l.length j hj hb
      omega
    · rw [if_neg hb]
      omega
  have h2 := roomTo9_le (l := l) (X := roomTo (l.set i ⟨nmAt9 l i, x, parAt l i⟩) l.length) l.length (roomTo9_pos _) fun j hj => by
    have h3 := roomTo_le (l := l.set i ⟨nmAt9 l i, x, parAt l i⟩) l.length j hj
    rw [hE j j (Nat.le_refl _) hj] at h3
    by_cases hb : i ∈ rp l j
    · rw [if_pos hb] at h3; omega
    · rw [if_neg hb] at h3; omega
  have h4 : deepTo l i l.length + (x - sizeAt l i) ≤ roomTo (l.set i ⟨nmAt9 l i, x, parAt l i⟩) l.length := by
    have hself : i ∈ rp l i := (rp_anc9 hd i hi).2 .refl
    have hge := deepTo_ge (l := l) (i := i) l.length i hi hself
    have hpos := place_small hv hi
    rcases deepTo_at (l := l) (i := i) l.length with h | ⟨j, g1, g2, g3⟩
    · omega
    · have h3 := roomTo_le (l := l.set i ⟨nmAt9 l i, x, parAt l i⟩) l.length j g1
      rw [hE j j (Nat.le_refl _) g1, if_pos g2] at h3
      omega
  omega

/-- What the law of RoomLeft says of a tree whose segment is found. -/
structure LeftSays (l : List Seg) (s : ByteArray) : Prop where
  lo : 0 ≤ leftB l s
  hi : leftB l s ≤ 99 - sizeB l s
  own : 1 ≤ sizeB l s ∧ sizeB l s ≤ 99
  fits : resizeOk l s (sizeB l s + leftB l s) = true
  same : roomB (resizeL l s (sizeB l s + leftB l s)) = roomB l
  more : resizeOk l s (sizeB l s + leftB l s + 1) = true → roomB l < roomB (resizeL l s (sizeB l s + leftB l s + 1))
theorem left9_says {l : List Seg} {s : ByteArray} (h : 0 ≤ indexB l s) : LeftSays l s := by
  obtain ⟨hv, hi⟩ := index9_valid h
  have hz := sizeAt_bd hv hi
  have hL : leftB l s = min (roomTo l l.length - deepTo l (ix9 l s) l.length) (99 - sizeAt l (ix9 l s)) := if_neg (by omega)
  have hS : sizeB l s = sizeAt l (ix9 l s) := if_neg (by omega)
  have hle := deep_le (l := l) hv (i := ix9 l s)
  have hok : ∀ x, resizeOk l s x = sizeOk x := fun x => by unfold resizeOk; rw [decide_eq_true h, Bool.true_and]
  have hso : ∀ x : Int, sizeOk x = true ↔ 1 ≤ x ∧ x ≤ 99 := fun x => by unfold sizeOk; simp
  have hroom : ∀ x, sizeOk x = true → 0 ≤ x - sizeAt l (ix9 l s) → roomB (resizeL l s x) = max (roomTo l l.length) (deepTo l (ix9 l s) l.length + (x - sizeAt l (ix9 l s))) := fun x hx h0 => by
    have e : resizeL l s x = l.set (ix9 l s) ⟨nmAt9 l (ix9 l s), x, parAt l (ix9 l s)⟩ := if_pos ((hok x).trans hx)
    rw [e]
    have e2 : roomB (l.set (ix9 l s) ⟨nmAt9 l (ix9 l s), x, parAt l (ix9 l s)⟩) = roomTo _ _ := if_pos (grown9_valid hv hi hx)
    rw [e2]
    exact grown9_room hv hi h0
  have hRB : roomB l = roomTo l l.length := if_pos hv
  refine ⟨by omega, by omega, by omega, ?_, ?_, fun hm => ?_⟩
  · rw [hok, hso]; omega
  · rw [hroom _ ((hso _).2 (by omega)) (by omega), hRB]
    omega
  · rw [hok, hso] at hm
    rw [hroom _ ((hso _).2 hm) (by omega), hRB]
    omega

end Go.Proofs.YtcpiojliakgdlaaGreatDoor
/- Traces, plain: the calls of a trace, how they are read, and what they tell. -/
namespace Go.Proofs.YtcpiojliakgdlaaGreatDoor
open Go.RowKit

/-- Calls one behind the other: the first one's segment, the calls within it, and those behind it. -/
inductive Forest where
  | nil
  | cons (c : UInt8) (k r : Forest)

namespace Forest
def len : Forest → Nat
  | nil => 0
  | cons _ _ r => r.len + 1
def isNil : Forest → Bool
  | nil => true
  | cons _ _ _ => false
def app : Forest → Forest → Forest
  | nil, g => g
  | cons c k r, g => cons c k (r.app g)
theorem app_nil : ∀ f : Forest, f.app nil = f
  | nil => rfl
  | cons c k r => by show cons c k (r.app nil) = _; rw [app_nil r]
theorem app_assoc : ∀ f g h : Forest, (f.app g).app h = f.app (g.app h)
  | nil, _, _ => rfl
  | cons c k r, g, h => by show cons c k ((r.app g).app h) = _; rw [app_assoc r]; rfl
theorem app_len : ∀ f g : Forest, (f.app g).len = f.len + g.len
  | nil, g => by show g.len = 0 + g.len; omega
  | cons c k r, g => by show (r.app g).len + 1 = r.len + 1 + g.len; rw [app_len r]; omega
theorem isNil_len (f : Forest) : f.isNil = decide (f.len = 0) := by cases f <;> simp [isNil, len]
theorem snoc_isNil (f : Forest) (c : UInt8) (k : Forest) : (f.app (cons c k nil)).isNil = false := by cases f <;> rfl
/-- How many calls there are in all. -/
def size : Forest → Nat
  | nil => 0
  | cons _ k r => k.size + r.size + 1
theorem len_size : ∀ f : Forest, f.len ≤ f.size
  | nil => Nat.le_refl 0
  | cons _ k r => by have := len_size r; show r.len + 1 ≤ k.size + r.size + 1; omega
/-- How many lie within each other. -/
def deep : Forest → Nat
  | nil => 0
  | cons _ k r => max (k.deep + 1) r.deep
end Forest

/-- What was read, and the rest. -/
abbrev Got := Option (Forest × List UInt8)

/-- A closing parenthesis behind at least one call. -/
def closed : Got → Got
  | none => none
  | some (.nil, _) => none
  | some (.cons _ _ _, []) => none
  | some (.cons c k f, x :: r) => if x = 41 then some (.cons c k f, r) else none
/-- What comes behind a name. -/
def innerBy (rd : Nat → List UInt8 → Got) (d : Nat) : List UInt8 → Got
  | [] => some (.nil, [])
  | c :: r => if c = 40 then closed (rd d r) else some (.nil, c :: r)
def callBy (P : UInt8 → Bool) (rd : Nat → List UInt8 → Got) : Nat → UInt8 → List UInt8 → Got
  | 0, _, _ => none
  | d + 1, c, r => if P c = true then innerBy rd d r else none
/-- The calls behind a call. -/
def thenBy (c : UInt8) (more : List UInt8 → Got) : Got → Got
  | none => none
  | some (k, r) => match more r with
    | none => none
    | some (f, r2) => some (.cons c k f, r2)
/-- Calls up to the end or to a closing parenthesis, with so many levels left. -/
def rd (P : UInt8 → Bool) : Nat → Nat → List UInt8 → Got
  | 0, _, _ => none
  | _ + 1, _, [] => some (.nil, [])
  | n + 1, d, c :: r => if c = 41 then some (.nil, c :: r) else thenBy c (fun s => rd P n d s) (callBy P (fun e s => rd P n e s) d c r)

/-- No longer than it was. -/
def Less (g : Got) (n : Nat) : Prop := ∀ f r, g = some (f, r) → r.length ≤ n
theorem closed_less {g : Got} {n : Nat} (h : Less g (n + 1)) : Less (closed g) n := by
  intro f r e
  unfold closed at e
  split at e
  · cases e
  · cases e
  · cases e
  · next c k f' x r' =>
    split at e
    · injection e with e
      injection e with e1 e2
      subst e2
      have := h _ _ rfl
      simp at this
      omega
    · cases e
theorem Less.mono {g : Got} {n m : Nat} (h : Less g n) (hm : n ≤ m) : Less g m := fun f r e => Nat.le_trans (h f r e) hm
theorem innerBy_less {rd : Nat → List UInt8 → Got} {d : Nat} {s : List UInt8} (h : ∀ e r, r.length < s.length → Less (rd e r) r.length) : Less (innerBy rd d s) s.length := by
  unfold innerBy
  split
  · intro f r e
    injection e with e
    injection e with e1 e2
    subst e2
    exact Nat.le_refl _
  · next c r =>
    split
    · exact closed_less (((h d r (by simp)).mono (by simp; omega)))
    · intro f r' e
      injection e with e
      injection e with e1 e2
      subst e2
      exact Nat.le_refl _
theorem callBy_less {P : UInt8 → Bool} {rd : Nat → List UInt8 → Got} {d : Nat} {c : UInt8} {s : List UInt8} (h : ∀ e r, r.length < s.length → Less (rd e r) r.length) : Less (callBy P rd d c s) s.length := by
  unfold callBy
  split
  · intro f r e; cases e
  · split
    · exact innerBy_less h
    · intro f r e; cases e
theorem rd_less (P : UInt8 → Bool) : ∀ (n d : Nat) (s : List UInt8), Less (rd P n d s) s.length
  | 0, _, _ => fun f r e => by cases e
  | n + 1, d, [] => fun f r e => by
    injection e with e
    injection e with e1 e2
    subst e2
    exact Nat.le_refl _
  | n + 1, d, c :: s => fun f r e => by
    unfold rd at e
    split at e
    · injection e with e
      injection e with e1 e2
      subst e2
      exact Nat.le_refl _
    · have h1 : Less (callBy P (fun e s => rd P n e s) d c s) s.length := callBy_less fun e r _ => rd_less P n e r
      unfold thenBy at e
      split at e
      · cases e
      · next k r1 h2 =>
        have h3 := h1 _ _ h2
        split at e
        · cases e
        · next f' r2 h4 =>
          injection e with e
          injection e with e1 e2
          subst e2
          have := rd_less P n d r1 _ _ h4
          simp
          omega

theorem innerBy_congr {rd rd' : Nat → List UInt8 → Got} {d : Nat} {s : List UInt8} (h : ∀ e r, r.length < s.length → rd e r = rd' e r) : innerBy rd d s = innerBy rd' d s := by
  unfold innerBy
  split
  · rfl
  · next c r => rw [h d r (by simp)]
theorem callBy_congr {P : UInt8 → Bool} {rd rd' : Nat → List UInt8 → Got} {d : Nat} {c : UInt8} {s : List UInt8} (h : ∀ e r, r.length < s.length → rd e r = rd' e r) : callBy P rd d c s = callBy P rd' d c s := by
  unfold callBy
  split
  · rfl
  · rw [innerBy_congr h]
theorem thenBy_congr {c : UInt8} {m m' : List UInt8 → Got} {g : Got} {n : Nat} (hg : Less g n) (h : ∀ s, s.length ≤ n → m s = m' s) : thenBy c m g = thenBy c m' g := by
  unfold thenBy
  split
  · rfl
  · next k r => rw [h r (hg _ _ rfl)]
theorem rd_fuel (P : UInt8 → Bool) : ∀ (n m d : Nat) (s : List UInt8), s.length < n → s.length < m → rd P n d s = rd P m d s
  | 0, _, _, _, h, _ => absurd h (by omega)
  | _, 0, _, _, _, h => absurd h (by omega)
  | n + 1, m + 1, d, [], _, _ => rfl
  | n + 1, m + 1, d, c :: s, h, h' => by
    have hn : s.length < n := by simp at h; omega
    have hm : s.length < m := by simp at h'; omega
    show (if c = 41 then _ else _) = (if c = 41 then _ else _)
    split
    · rfl
    · have e1 : callBy P (fun e s => rd P n e s) d c s = callBy P (fun e s => rd P m e s) d c s := callBy_congr fun e r hr => rd_fuel P n m e r (by omega) (by omega)
      rw [← e1]
      exact thenBy_congr (callBy_less fun e r _ => rd_less P n e r) fun r hr => rd_fuel P n m d r (by omega) (by omega)

/-- The same without a bound on the steps. -/
def calls (P : UInt8 → Bool) (d : Nat) (s : List UInt8) : Got := rd P (s.length + 1) d s
def callA (P : UInt8 → Bool) (d : Nat) (c : UInt8) (r : List UInt8) : Got := callBy P (calls P) d c r
theorem calls_less (P : UInt8 → Bool) (d : Nat) (s : List UInt8) : Less (calls P d s) s.length := rd_less P _ d s
theorem callA_less (P : UInt8 → Bool) (d : Nat) (c : UInt8) (s : List UInt8) : Less (callA P d c s) s.length := callBy_less fun e r _ => calls_less P e r
theorem calls_nil (P : UInt8 → Bool) (d : Nat) : calls P d [] = some (.nil, []) := rfl
theorem calls_close (P : UInt8 → Bool) (d : Nat) (r : List UInt8) : calls P d (41 :: r) = some (.nil, 41 :: r) := rfl
theorem calls_cons (P : UInt8 → Bool) (d : Nat) {c : UInt8} (r : List UInt8) (h : c ≠ 41) : calls P d (c :: r) = thenBy c (calls P d) (callA P d c r) := by
  show (if c = 41 then _ else _) = _
  rw [if_neg h]
  have e1 : callBy P (fun e s => rd P (r.length + 1) e s) d c r = callA P d c r := callBy_congr fun e s hs => rd_fuel P _ _ e s (by omega) (by omega)
  show thenBy c _ (callBy P (fun e s => rd P (r.length + 1) e s) d c r) = _
  rw [e1]
  exact thenBy_congr (callA_less P d c r) fun s hs => rd_fuel P _ _ d s (by simp; omega) (by omega)
theorem callA_no {P : UInt8 → Bool} {d : Nat} {c : UInt8} {r : List UInt8} (h : P c = false) : callA P d c r = none := by
  unfold callA callBy
  split
  · rfl
  · rw [if_neg (by rw [h]; decide)]
theorem callA_leaf {P : UInt8 → Bool} {d : Nat} {c : UInt8} {r : List UInt8} (h : P c = true) (hr : ∀ x u, r = x :: u → x ≠ 40) : callA P (d + 1) c r = some (.nil, r) := by
  unfold callA callBy
  dsimp only
  rw [if_pos h]
  unfold innerBy
  split
  · rfl
  · next x u => rw [if_neg (hr x u rfl)]
theorem callA_open {P : UInt8 → Bool} {d : Nat} {c : UInt8} {r : List UInt8} (h : P c = true) : callA P (d + 1) c (40 :: r) = closed (calls P d r) := by
  unfold callA callBy
  dsimp only
  rw [if_pos h]
  rfl

/-- Calls ahead of what is read. -/
def ahead (f : Forest) : Got → Got
  | none => none
  | some (g, r) => some (f.app g, r)
theorem ahead_nil (g : Got) : ahead .nil g = g := by cases g <;> rfl
theorem ahead_ahead (f f' : Forest) (g : Got) : ahead f (ahead f' g) = ahead (f.app f') g := by
  cases g with
  | none => rfl
  | some x => show some (f.app (f'.app x.1), x.2) = _; rw [← Forest.app_assoc]; rfl
theorem thenBy_ahead (c : UInt8) (k : Forest) (r : List UInt8) (more : List UInt8 → Got) : thenBy c more (some (k, r)) = ahead (.cons c k .nil) (more r) := by
  unfold thenBy ahead
  dsimp only
  cases more r <;> rfl
/-- One more call is read: what is behind it. -/
theorem calls_step {P : UInt8 → Bool} {d : Nat} {c : UInt8} {r r1 : List UInt8} {k : Forest} (f : Forest) (hc : c ≠ 41) (h : callA P d c r = some (k, r1)) : ahead f (calls P d (c :: r)) = ahead (f.app (.cons c k .nil)) (calls P d r1) := by
  rw [calls_cons P d r hc, h, thenBy_ahead, ahead_ahead]
theorem calls_fail {P : UInt8 → Bool} {d : Nat} {c : UInt8} {r : List UInt8} (f : Forest) (hc : c ≠ 41) (h : callA P d c r = none) : ahead f (calls P d (c :: r)) = none := by
  rw [calls_cons P d r hc, h]; rfl

/-- The rest behind calls is empty or begins with a closing parenthesis. -/
theorem rd_rest (P : UInt8 → Bool) : ∀ (n d : Nat) (s : List UInt8) f r, rd P n d s = some (f, r) → r = [] ∨ ∃ u, r = 41 :: u
  | 0, _, _, _, _, e => by cases e
  | n + 1, d, [], f, r, e => by
    injection e with e
    injection e with e1 e2
    exact .inl e2.symm
  | n + 1, d, c :: s, f, r, e => by
    unfold rd at e
    split at e
    · next h =>
      injection e with e
      injection e with e1 e2
      subst h
      exact .inr ⟨s, e2.symm⟩
    · unfold thenBy at e
      split at e
      · cases e
      · next k r1 h2 =>
        split at e
        · cases e
        · next f' r2 h4 =>
          injection e with e
          injection e with e1 e2
          subst e2
          exact rd_rest P n d r1 _ _ h4
theorem calls_rest {P : UInt8 → Bool} {d : Nat} {s : List UInt8} {f : Forest} {r : List UInt8} (h : calls P d s = some (f, r)) : r = [] ∨ ∃ u, r = 41 :: u := rd_rest P _ d s f r h

/-- Which letters name a segment of a valid tree. -/
def callP (l : List Seg) (c : UInt8) : Bool := decide (0 ≤ indexB l ⟨#[c]⟩)
/-- The calls of a trace within a tree, if a text is one. -/
def traceB (l : List Seg) (t : List UInt8) : Option Forest :=
  if (validB l && decide (t.length ≤ 80)) = true then (match calls (callP l) 8 t with
    | some (f, []) => some f
    | _ => none) else none

theorem seekFrom_has (s : ByteArray) : ∀ (l : List Seg) (k : Nat), decide (0 ≤ seekFrom s l k) = takenB l s
  | [], k => by unfold seekFrom takenB; simp
  | x :: l, k => by
    have ih := seekFrom_has s l (k + 1)
    unfold seekFrom takenB
    rw [List.any_cons]
    by_cases h : sameB x.name s = true
    · rw [if_pos h, h, Bool.true_or]; exact decide_eq_true (by omega)
    · rw [if_neg h, Bool.eq_false_iff.2 h, Bool.false_or]
      exact ih
theorem callP_taken {l : List Seg} (hv : validB l = true) (c : UInt8) : callP l c = takenB l ⟨#[c]⟩ := by
  unfold callP indexB
  rw [if_pos hv]
  exact seekFrom_has _ l 0
theorem callP_bad {l : List Seg} (hv : validB l = false) (c : UInt8) : callP l c = false := by
  unfold callP indexB
  rw [if_neg (by rw [hv]; decide)]
  rfl
theorem validB_names {l : List Seg} (hv : validB l = true) {s : Seg} (hs : s ∈ l) : nameOk s.name = true := by
  unfold validB at hv
  simp only [Bool.and_eq_true, decide_eq_true_eq] at hv
  have h := allB_iff.1 hv.2
  have : l.take l.length = l := List.take_length
  exact mem_take_name h (by rw [this]; exact hs)
theorem callP_letter {l : List Seg} {c : UInt8} (h : callP l c = true) : 65 ≤ c.toNat ∧ c.toNat ≤ 72 := by
  cases hv : validB l with
  | false => rw [callP_bad hv] at h; cases h
  | true =>
    rw [callP_taken hv] at h
    unfold takenB at h
    obtain ⟨s, hs, he⟩ := List.any_eq_true.1 h
    obtain ⟨d, hd, h1, h2⟩ := nameOk_one (validB_names hv hs)
    have := sameB_iff.1 he
    rw [hd] at this
    injection this with this
    have h3 : [d] = [c] := congrArg Array.toList this
    injection h3 with h3
    subst h3
    exact ⟨h1, h2⟩
theorem callP_open (l : List Seg) : callP l 40 = false := by
  cases h : callP l 40 with
  | false => rfl
  | true => have := (callP_letter h).1; revert this; decide
theorem callP_shut (l : List Seg) : callP l 41 = false := by
  cases h : callP l 41 with
  | false => rfl
  | true => have := (callP_letter h).1; revert this; decide

end Go.Proofs.YtcpiojliakgdlaaGreatDoor
/- Chapter 9: a trace in which one segment stands for another: plain. -/
namespace Go.Proofs.YtcpiojliakgdlaaGreatDoor
open Go.RowKit

def sw9 (c d u : UInt8) : UInt8 := if u = c then d else u
theorem repl9_one (c d : UInt8) : ∀ s : List UInt8, Lib.replaceK [c] [d] (Lib.count s [c]) s = s.map (sw9 c d)
  | [] => by
    have h : Lib.count [] [c] = 0 := by rw [Lib.count_one]; rfl
    rw [h]
    rfl
  | b :: s => by
    have ih := repl9_one c d s
    rw [Lib.count_one] at ih ⊢
    by_cases hb : b = c
    · subst hb
      have hi : Lib.index (b :: s) [b] = ((0 : Nat) : Int) := by
        rw [Lib.index_one]
        unfold Lib.indexByte
        simp
      rw [show (b :: s).count b = s.count b + 1 by simp, Lib.replaceK_hit _ _ _ _ _ hi]
      show [] ++ [d] ++ Lib.replaceK [b] [d] (s.count b) s = _
      rw [ih]
      simp [sw9]
    · have hc : (b :: s).count c = s.count c := by simp [hb]
      rw [hc]
      cases hk : s.count c with
      | zero =>
        rw [hk] at ih
        have ih' : s = s.map (sw9 c d) := ih
        show b :: s = sw9 c d b :: s.map (sw9 c d)
        rw [← ih']
        simp [sw9, hb]
      | succ k =>
        rw [hk] at ih
        obtain ⟨i, hi⟩ := Lib.index_of_count (s := s) (old := [c]) (by rw [Lib.count_one]; omega)
        have hi2 : Lib.index (b :: s) [c] = ((i + 1 : Nat) : Int) := by
          rw [Lib.index_one] at hi ⊢
          have hbc : (b == c) = false := by simp [hb]
          have hne : (Lib.indexByte s c == -1) = false := by
            rw [beq_eq_false_iff_ne]
            omega
          unfold Lib.indexByte
          rw [hbc, hne, hi]
          simp
        rw [Lib.replaceK_hit _ _ _ _ _ hi] at ih
        rw [Lib.replaceK_hit _ _ _ _ _ hi2]
        show b :: (s.take i ++ [d] ++ Lib.replaceK [c] [d] k (s.drop (i + 1))) = sw9 c d b :: s.map (sw9 c d)
        have ih2 : s.take i ++ [d] ++ Lib.replaceK [c] [d] k (s.drop (i + 1)) = s.map (sw9 c d) := ih
        rw [ih2]
        simp [sw9, hb]
theorem sw9_same (c u : UInt8) : sw9 c c u = u := by
  unfold sw9
  split
  · exact (by assumption : u = c).symm
  · rfl
theorem replAll9 (c d : UInt8) (s : List UInt8) : Lib.replaceAll s [c] [d] = s.map (sw9 c d) := by
  unfold Lib.replaceAll Lib.replace
  by_cases h : c = d
  · subst h
    rw [if_pos (by simp)]
    have : s.map (sw9 c c) = s := by
      rw [show sw9 c c = id from funext fun u => sw9_same c u, List.map_id]
    rw [this]
  · rw [if_neg (by simp [h])]
    have hn : Lib.replaceNum s [c] (-1) = Lib.count s [c] := if_pos (.inl (by decide))
    rw [hn]
    exact repl9_one c d s

def hd9 (s : ByteArray) : UInt8 := s.data.toList.headD 0
def namesOk9 (l : List Seg) (t s x : ByteArray) : Bool := (traceB l t.data.toList).isSome && decide (0 ≤ indexB l s) && decide (0 ≤ indexB l x)
def bytes9 (xs : List UInt8) : ByteArray := ⟨xs.toArray⟩
def namesIn9 (l : List Seg) (t s x : ByteArray) : ByteArray := if namesOk9 l t s x = true then bytes9 (t.data.toList.map (sw9 (hd9 s) (hd9 x))) else ⟨#[]⟩
theorem namesIn9_off {l : List Seg} {t s x : ByteArray} (h : namesOk9 l t s x = false) : namesIn9 l t s x = ⟨#[]⟩ := if_neg (by rw [h]; decide)
theorem one9 {l : List Seg} {s : ByteArray} (h : 0 ≤ indexB l s) : s = ⟨#[hd9 s]⟩ := by
  unfold indexB at h
  by_cases hv : validB l = true
  · rw [if_pos hv] at h
    obtain ⟨j, hj⟩ := Int.eq_ofNat_of_zero_le h
    obtain ⟨x, hx, hn⟩ := seek_name hj
    have hjl := (List.getElem?_eq_some_iff.1 hx).1
    have h1 := (nmAt_one hv hjl).2
    rw [List.getElem?_eq_getElem hjl] at hx
    injection hx with hx
    rw [hx, hn] at h1
    rw [h1]
    rfl
  · rw [if_neg hv] at h
    omega
theorem bytes9_app (xs ys : List UInt8) : bytes9 (xs ++ ys) = bytes9 xs ++ bytes9 ys := by
  apply ByteArray.ext
  rw [ByteArray.data_append]
  unfold bytes9
  apply Array.ext'
  simp
theorem cut9_one (t : ByteArray) (k : Nat) (hk : k < t.data.toList.length) : t.extract k (k + 1) = ⟨#[t.data.toList[k]]⟩ := by
  apply ByteArray.ext
  apply Array.ext'
  have e4 : (t.extract k (k + 1)).data.toList = (t.data.toList.drop k).take 1 := by
    simp [ByteArray.data_extract]
  rw [e4, List.drop_eq_getElem_cons hk]
  rfl
theorem size9 (t : ByteArray) : t.size = t.data.toList.length := by simp

/-- What the reference writes, byte by byte. -/
theorem step9 (t s x : ByteArray) (hs : s = ⟨#[hd9 s]⟩) (hx : x = ⟨#[hd9 x]⟩) (k : Nat) (hk : k < t.size) :
    (((t.extract k (k + 1)).toList == s.toList) = true ∧ bytes9 ((t.data.toList.take k).map (sw9 (hd9 s) (hd9 x))) ++ x = bytes9 ((t.data.toList.take (k + 1)).map (sw9 (hd9 s) (hd9 x)))) ∨
    (((t.extract k (k + 1)).toList == s.toList) = false ∧ bytes9 ((t.data.toList.take k).map (sw9 (hd9 s) (hd9 x))) ++ t.extract k (k + 1) = bytes9 ((t.data.toList.take (k + 1)).map (sw9 (hd9 s) (hd9 x)))) := by
  rw [size9] at hk
  rw [cut9_one t k hk, List.take_succ_eq_append_getElem hk, List.map_append, bytes9_app]
  generalize hd9 s = c at *
  generalize hd9 x = d at *
  subst hs hx
  generalize t.data.toList[k] = u
  by_cases hu : u = c
  · subst hu
    refine .inl ⟨by simp, ?_⟩
    congr 1
    simp [sw9, bytes9]
  · refine .inr ⟨?_, ?_⟩
    · rw [beq_eq_false_iff_ne]
      intro e
      have e2 : (⟨#[u]⟩ : ByteArray).toList = [u] := ByteArray.toList_eq _
      have e3 : (⟨#[c]⟩ : ByteArray).toList = [c] := ByteArray.toList_eq _
      rw [e2, e3] at e
      injection e with e
      exact hu e
    · congr 1
      simp [sw9, bytes9, hu]

end Go.Proofs.YtcpiojliakgdlaaGreatDoor
/- Chapter 9: a trace in which one segment stands for another is read alike (plain). -/
namespace Go.Proofs.YtcpiojliakgdlaaGreatDoor
open Go.RowKit

def Forest.map9 (g : UInt8 → UInt8) : Forest → Forest
  | .nil => .nil
  | .cons c k r => .cons (g c) (k.map9 g) (r.map9 g)
theorem Forest.map9_size (g : UInt8 → UInt8) : ∀ f : Forest, (f.map9 g).size = f.size
  | .nil => rfl
  | .cons c k r => by
    show (k.map9 g).size + (r.map9 g).size + 1 = k.size + r.size + 1
    rw [Forest.map9_size g k, Forest.map9_size g r]
def got9 (g : UInt8 → UInt8) (x : Got) : Got := x.map fun p => (p.1.map9 g, p.2.map g)
/-- Names for names, and nothing else. -/
structure Swap9 (P : UInt8 → Bool) (g : UInt8 → UInt8) : Prop where
  opens : ∀ u, g u = 40 ↔ u = 40
  shuts : ∀ u, g u = 41 ↔ u = 41
  keeps : ∀ u, P (g u) = P u
theorem closed9 {P : UInt8 → Bool} {g : UInt8 → UInt8} (h : Swap9 P g) : ∀ x : Got, closed (got9 g x) = got9 g (closed x)
  | none => rfl
  | some (.nil, _) => rfl
  | some (.cons _ _ _, []) => rfl
  | some (.cons c k f, x :: r) => by
    show (if g x = 41 then some (Forest.cons (g c) (k.map9 g) (f.map9 g), r.map g) else none) = got9 g (if x = 41 then some (.cons c k f, r) else none)
    by_cases hx : x = 41
    · rw [if_pos ((h.shuts x).2 hx), if_pos hx]; rfl
    · rw [if_neg (fun e => hx ((h.shuts x).1 e)), if_neg hx]; rfl
theorem inner9 {P : UInt8 → Bool} {g : UInt8 → UInt8} (h : Swap9 P g) {rdr : Nat → List UInt8 → Got} (hr : ∀ d s, rdr d (s.map g) = got9 g (rdr d s)) (d : Nat) : ∀ s, innerBy rdr d (s.map g) = got9 g (innerBy rdr d s)
  | [] => rfl
  | c :: r => by
    show (if g c = 40 then closed (rdr d (r.map g)) else some (Forest.nil, g c :: r.map g)) = got9 g (if c = 40 then closed (rdr d r) else some (.nil, c :: r))
    by_cases hc : c = 40
    · rw [if_pos ((h.opens c).2 hc), if_pos hc, hr, closed9 h]
    · rw [if_neg (fun e => hc ((h.opens c).1 e)), if_neg hc]; rfl
theorem call9 {P : UInt8 → Bool} {g : UInt8 → UInt8} (h : Swap9 P g) {rdr : Nat → List UInt8 → Got} (hr : ∀ d s, rdr d (s.map g) = got9 g (rdr d s)) (c : UInt8) (s : List UInt8) : ∀ d, callBy P rdr d (g c) (s.map g) = got9 g (callBy P rdr d c s)
  | 0 => rfl
  | d + 1 => by
    show (if P (g c) = true then innerBy rdr d (s.map g) else none) = got9 g (if P c = true then innerBy rdr d s else none)
    rw [h.keeps]
    by_cases hp : P c = true
    · rw [if_pos hp, if_pos hp, inner9 h hr]
    · rw [if_neg hp, if_neg hp]; rfl
theorem then9 {g : UInt8 → UInt8} {more : List UInt8 → Got} (hm : ∀ s, more (s.map g) = got9 g (more s)) (c : UInt8) : ∀ x : Got, thenBy (g c) more (got9 g x) = got9 g (thenBy c more x)
  | none => rfl
  | some (k, r) => by
    show (match more (r.map g) with | none => none | some (f, r2) => some (Forest.cons (g c) (k.map9 g) f, r2)) = got9 g (match more r with | none => none | some (f, r2) => some (.cons c k f, r2))
    rw [hm]
    cases more r with
    | none => rfl
    | some p => rfl
theorem rd9 {P : UInt8 → Bool} {g : UInt8 → UInt8} (h : Swap9 P g) : ∀ n d s, rd P n d (s.map g) = got9 g (rd P n d s)
  | 0, _, _ => rfl
  | _ + 1, _, [] => rfl
  | n + 1, d, c :: r => by
    show (if g c = 41 then some (Forest.nil, g c :: r.map g) else thenBy (g c) (fun s => rd P n d s) (callBy P (fun e s => rd P n e s) d (g c) (r.map g))) = got9 g (if c = 41 then some (.nil, c :: r) else thenBy c (fun s => rd P n d s) (callBy P (fun e s => rd P n e s) d c r))
    by_cases hc : c = 41
    · rw [if_pos ((h.shuts c).2 hc), if_pos hc]; rfl
    · rw [if_neg (fun e => hc ((h.shuts c).1 e)), if_neg hc, call9 h (fun e s => rd9 h n e s), then9 (fun s => rd9 h n d s)]
theorem trace9_map {l : List Seg} {g : UInt8 → UInt8} (h : Swap9 (callP l) g) (t : List UInt8) : traceB l (t.map g) = (traceB l t).map (Forest.map9 g) := by
  unfold traceB
  rw [List.length_map]
  by_cases hv : (validB l && decide (t.length ≤ 80)) = true
  · rw [if_pos hv, if_pos hv]
    have hc : calls (callP l) 8 (t.map g) = got9 g (calls (callP l) 8 t) := by
      unfold calls
      rw [List.length_map]
      exact rd9 h _ _ _
    rw [hc]
    cases calls (callP l) 8 t with
    | none => rfl
    | some p =>
      obtain ⟨f, r⟩ := p
      cases r with
      | nil => rfl
      | cons a r => rfl
  · rw [if_neg hv, if_neg hv]; rfl
theorem swap9_of {l : List Seg} {c d : UInt8} (hc : 0 ≤ indexB l ⟨#[c]⟩) (hd : 0 ≤ indexB l ⟨#[d]⟩) (hl : ∀ u, 0 ≤ indexB l ⟨#[u]⟩ → u ≠ 40 ∧ u ≠ 41) : Swap9 (callP l) (sw9 c d) := by
  have h1 := hl c hc
  have h2 := hl d hd
  refine ⟨fun u => ?_, fun u => ?_, fun u => ?_⟩
  · unfold sw9
    split
    · rename_i e
      subst e
      exact ⟨fun e => absurd e h2.1, fun e => absurd e h1.1⟩
    · exact Iff.rfl
  · unfold sw9
    split
    · rename_i e
      subst e
      exact ⟨fun e => absurd e h2.2, fun e => absurd e h1.2⟩
    · exact Iff.rfl
  · unfold sw9
    split
    · rename_i e
      subst e
      unfold callP
      rw [decide_eq_true hc, decide_eq_true hd]
    · rfl
theorem namesOk9_all {l : List Seg} {t s x : ByteArray} (h : namesOk9 l t s x = true) : 0 ≤ indexB l s ∧ 0 ≤ indexB l x := by
  unfold namesOk9 at h
  rw [Bool.and_eq_true, Bool.and_eq_true] at h
  exact ⟨of_decide_eq_true h.1.2, of_decide_eq_true h.2⟩
/-- A trace with one name for another has as many calls. -/
theorem names9_count {l : List Seg} {t s x : ByteArray} (h : namesOk9 l t s x = true) : (traceB l (namesIn9 l t s x).data.toList).map Forest.size = (traceB l t.data.toList).map Forest.size := by
  obtain ⟨hs, hx⟩ := namesOk9_all h
  have h1 := one9 hs
  have h2 := one9 hx
  have hc : 0 ≤ indexB l ⟨#[hd9 s]⟩ := by rw [← h1]; exact hs
  have hd : 0 ≤ indexB l ⟨#[hd9 x]⟩ := by rw [← h2]; exact hx
  have hsw := swap9_of hc hd fun u hu => by
    have hp : callP l u = true := decide_eq_true hu
    refine ⟨fun e => ?_, fun e => ?_⟩
    · rw [e, callP_open] at hp; cases hp
    · rw [e, callP_shut] at hp; cases hp
  have e : (namesIn9 l t s x).data.toList = t.data.toList.map (sw9 (hd9 s) (hd9 x)) := by
    unfold namesIn9
    rw [if_pos h]
    rfl
  rw [e, trace9_map hsw]
  cases traceB l t.data.toList with
  | none => rfl
  | some f => exact congrArg some (Forest.map9_size _ f)

end Go.Proofs.YtcpiojliakgdlaaGreatDoor
/- The program's reader of traces: skip, readName, newCall. -/
namespace Go.Proofs.YtcpiojliakgdlaaGreatDoor
open Go.RowKit

/-- Is this byte the next one? -/
def headIs (s : List UInt8) (c : UInt8) : Bool := match s with
  | [] => false
  | x :: _ => decide (x = c)
/-- What is left behind it. -/
def tailIf (s : List UInt8) (c : UInt8) : List UInt8 := if headIs s c = true then s.drop 1 else s
theorem headIs_yes {s : List UInt8} {c : UInt8} (h : headIs s c = true) : ∃ r, s = c :: r ∧ tailIf s c = r := by
  cases s with
  | nil => cases h
  | cons x r =>
    have hx : x = c := of_decide_eq_true h
    refine ⟨r, by rw [hx], ?_⟩
    unfold tailIf
    rw [if_pos h]; rfl
theorem headIs_no {s : List UInt8} {c : UInt8} (h : headIs s c = false) : (∀ x u, s = x :: u → x ≠ c) ∧ tailIf s c = s := by
  refine ⟨fun x u e hx => ?_, ?_⟩
  · subst e
    exact absurd hx (of_decide_eq_false h)
  · unfold tailIf
    rw [if_neg (by rw [h]; decide)]
theorem hasPrefix_one (s : List UInt8) (c : UInt8) : Lib.hasPrefix s [c] = headIs s c := by
  unfold Lib.hasPrefix headIs
  cases s with
  | nil => rfl
  | cons x r =>
    rw [List.isPrefixOf_cons_cons]
    dsimp only
    by_cases h : x = c
    · subst h; simp
    · rw [decide_eq_false h, show (c == x) = false from beq_eq_false_iff_ne.2 (fun e => h e.symm)]; rfl
theorem trimPrefix_one (s : List UInt8) (c : UInt8) : Lib.trimPrefix s [c] = tailIf s c := by
  unfold Lib.trimPrefix tailIf
  rw [hasPrefix_one]
  rfl

set_option maxRecDepth 100000 in
set_option maxHeartbeats 400000 in
theorem traceSkip_raw (b : Nat) (nv : Value) (s p : ByteArray) (w : World) (hr : Row w b 105 #[nv, .string s]) :
    Calls Tryz.prog 93 #[.pointer (some ⟨b, 0, none⟩), .string p] w fun e w' => e = .returned (.bool (Lib.hasPrefix s.data.toList p.data.toList)) ∧ w' = w.setCell ⟨b, 1, none⟩ (.string ⟨(Lib.trimPrefix s.data.toList p.data.toList).toArray⟩) := by
  have c1 : w.cell? ⟨b, 1, none⟩ = some (.string s) := hr.cell 1
  have z1 : w.frozen? ⟨b, 1, none⟩ = false := hr.free 1
  clear hr
  go_enter Tryz.func93, Tryz.ntmps93
  go_wp2_with fail
  refine (Tryz.strings_CutPrefix s p _).mono ?_
  rintro e w' ⟨rfl, hw⟩
  rw [hw]
  go_wp2
  go_ret
  exact ⟨rfl, rfl⟩

/-- One byte is passed over if it stands next. -/
theorem traceSkip_any (b : Nat) (nv : Value) (s : List UInt8) (c : UInt8) (w : World) (hr : Row w b 105 #[nv, .string ⟨s.toArray⟩]) :
    Calls Tryz.prog 93 #[.pointer (some ⟨b, 0, none⟩), .string ⟨#[c]⟩] w fun e w' => e = .returned (.bool (headIs s c)) ∧ Row w' b 105 #[nv, .string ⟨(tailIf s c).toArray⟩] ∧ Only w w' (· = b) := by
  refine (traceSkip_raw b nv ⟨s.toArray⟩ ⟨#[c]⟩ w hr).mono ?_
  rintro e w' ⟨rfl, rfl⟩
  have h1 : Lib.hasPrefix (⟨s.toArray⟩ : ByteArray).data.toList (⟨#[c]⟩ : ByteArray).data.toList = headIs s c := hasPrefix_one s c
  have h2 : Lib.trimPrefix (⟨s.toArray⟩ : ByteArray).data.toList (⟨#[c]⟩ : ByteArray).data.toList = tailIf s c := trimPrefix_one s c
  rw [h1, h2]
  exact ⟨rfl, hr.put 1 _, (Only.refl w _).set 1 _⟩

/-- The nodes' names lie below block 'b'. -/
def Known (w : World) (b g : Nat) (l : List Seg) (nb : Nat → Nat) : Prop :=
  g < b ∧ ∀ i x, l[i]? = some x → nb i < b ∧ w.cell? ⟨g, i, none⟩ = some (.pointer (some ⟨nb i, 0, none⟩)) ∧ w.cell? ⟨nb i, 0, none⟩ = some (.string x.name)
theorem Known.below {w w' : World} {b g : Nat} {l : List Seg} {nb : Nat → Nat} (h : Known w b g l nb) (hb : Below b w w') : Known w' b g l nb :=
  ⟨h.1, fun i x hx => by
    obtain ⟨h1, h2, h3⟩ := h.2 i x hx
    exact ⟨h1, (hb.cell (p := ⟨g, i, none⟩) h.1).trans h2, (hb.cell (p := ⟨nb i, 0, none⟩) h1).trans h3⟩⟩
theorem Only.belowRow {w w' : World} {b : Nat} (ho : Only w w' (· = b)) (hb : b ≤ w.heap.size) : Below b w w' :=
  Only.below (Below.refl b w) ho hb (fun k h1 h2 => by omega)

theorem taken_take_succ {l : List Seg} {c d : UInt8} {k : Nat} (hk : k < l.length) (hd : l[k].name = ⟨#[d]⟩) (hcd : c ≠ d) (h : takenB (l.take k) ⟨#[c]⟩ = false) : takenB (l.take (k + 1)) ⟨#[c]⟩ = false := by
  rw [takenB_take_succ hk, h, hd]
  rw [Bool.false_or, Bool.eq_false_iff]
  intro he
  have := sameB_iff.1 he
  injection this with this
  have h3 : [d] = [c] := congrArg Array.toList this
  injection h3 with h3
  exact hcd h3.symm
theorem callP_at {l : List Seg} (hv : validB l = true) {c : UInt8} {k : Nat} (hk : k < l.length) (hd : l[k].name = ⟨#[c]⟩) : callP l c = true := by
  rw [callP_taken hv]
  exact List.any_eq_true.2 ⟨l[k], List.getElem_mem hk, sameB_iff.2 hd⟩

/-- What readName has done. -/
def TraceName (w : World) (b : Nat) (l : List Seg) (nv : Value) (s : List UInt8) (e : Ending) (w' : World) : Prop :=
  ((∃ c r, s = c :: r ∧ callP l c = true ∧ e = .returned (.string ⟨#[c]⟩) ∧ Row w' b 105 #[nv, .string ⟨r.toArray⟩]) ∨ ((∀ c r, s = c :: r → callP l c = false) ∧ Died e)) ∧ Only w w' (· = b)

set_option maxRecDepth 100000 in
set_option maxHeartbeats 1000000 in
theorem traceName_any (b g : Nat) (l : List Seg) (nb : Nat → Nat) (s : List UInt8) (w : World) (hk : Known w b g l nb) (hv : validB l = true) (hr : Row w b 105 #[.slice (some ⟨g, 0, none⟩) l.length l.length, .string ⟨s.toArray⟩]) :
    Calls Tryz.prog 92 #[.pointer (some ⟨b, 0, none⟩)] w (TraceName w b l (.slice (some ⟨g, 0, none⟩) l.length l.length) s) := by
  have hl8 := (valid_all hv).2.1
  have HV := Lib.hid hv
  have HK : Hid (Known w b g l nb) := hk
  have c0 : w.cell? ⟨b, 0, none⟩ = some (.slice (some ⟨g, 0, none⟩) l.length l.length) := hr.cell 0
  have HR := Lib.hid hr
  have hbw := hr.lt
  clear hv hk hr
  go_enter Tryz.func92, Tryz.ntmps92
  go_wp2
  go_loopw [10] (fun i wr => ∃ k : Nat, k ≤ l.length ∧ i = .int .i64 k ∧ Row wr b 105 #[.slice (some ⟨g, 0, none⟩) l.length l.length, .string ⟨s.toArray⟩] ∧ Only w wr (· = b) ∧ Hid (∀ c r, s = c :: r → takenB (l.take k) ⟨#[c]⟩ = false))
    (fun i _ => l.length - (intOf i).toNat)
  case atStart => exact ⟨0, Nat.zero_le _, rfl, HR.out, Only.refl _ _, fun c r _ => rfl⟩
  case round =>
    obtain ⟨k, hk, rfl, hr, ho, HT⟩ := hrel
    clear c0
    by_cases hlt : k < l.length
    · obtain ⟨hnb, gk, nk⟩ := (HK.out.below (ho.belowRow (Nat.le_of_lt hbw))).2 k l[k] (List.getElem?_eq_getElem hlt)
      obtain ⟨d, hd, -, -⟩ := nameOk_one (validB_names HV.out (List.getElem_mem hlt))
      rw [hd] at nk
      have HD := Lib.hid hd
      have HR1 := Lib.hid hr
      have HO := Lib.hid ho
      have hwz := hr.lt
      clear hd hr ho
      cases hh : headIs s d with
      | true =>
        obtain ⟨r, hs, htl⟩ := headIs_yes hh
        have HH := Lib.hid hh
        have HTL := Lib.hid htl
        have HS := Lib.hid hs
        clear hh htl hs
        go_wp2_with fail
        refine (traceSkip_any b _ s d _ HR1.out).mono ?_
        rw [HH.out, HTL.out]
        rintro e w1 ⟨rfl, hr1, ho1⟩
        have nk1 : w1.cell? ⟨nb k, 0, none⟩ = some (.string ⟨#[d]⟩) := ((ho1.belowRow (Nat.le_of_lt hwz)).cell (p := ⟨nb k, 0, none⟩) hnb).trans nk
        have HR2 := Lib.hid hr1
        have HO2 := Lib.hid (HO.out.trans ho1)
        clear hr1 ho1
        go_wp2
        go_ret
        exact ⟨.inl ⟨d, r, HS.out, callP_at HV.out hlt HD.out, rfl, HR2.out⟩, HO2.out⟩
      | false =>
        obtain ⟨hs, htl⟩ := headIs_no hh
        have HH := Lib.hid hh
        have HTL := Lib.hid htl
        have HS := Lib.hid hs
        clear hh htl hs
        go_wp2_with fail
        refine (traceSkip_any b _ s d _ HR1.out).mono ?_
        rw [HH.out, HTL.out]
        rintro e w1 ⟨rfl, hr1, ho1⟩
        have HR2 := Lib.hid hr1
        have HO2 := Lib.hid (HO.out.trans ho1)
        clear hr1 ho1
        go_wp2
        go_roundw
        case rel => exact ⟨k + 1, by omega, by go_num, HR2.out, HO2.out, fun c r e => taken_take_succ hlt HD.out (HS.out c r e) (HT.out c r e)⟩
        case measure => simp [intOf]; omega
    · obtain rfl : k = l.length := by omega
      have HN : Hid (∀ c r, s = c :: r → callP l c = false) := fun c r e => by
        rw [callP_taken HV.out]
        have := HT.out c r e
        rwa [List.take_length] at this
      have HO := Lib.hid ho
      clear ho hr
      go_wp2
      exact ⟨rfl, .inr ⟨HN.out, _, rfl⟩, HO.out⟩

/-- A call that makes none, and one that makes some. -/
def leafV (c : UInt8) : Value := .iface 147 (.agg #[.string ⟨#[c]⟩])
def branchV (c : UInt8) (g n cap : Nat) : Value := .iface 149 (.agg #[.string ⟨#[c]⟩, .slice (some ⟨g, 0, none⟩) n cap])

set_option maxRecDepth 100000 in
theorem newCall_leaf (c : UInt8) (A : Option Addr) (cap : Nat) (w : World) :
    Calls Tryz.prog 94 #[.string ⟨#[c]⟩, .slice A 0 cap] w fun e w' => e = .returned (leafV c) ∧ w = w' := by
  go_enter Tryz.func94, Tryz.ntmps94
  go_wp2
  go_ret
  exact ⟨rfl, rfl⟩
set_option maxRecDepth 100000 in
theorem newCall_branch (c : UInt8) (g n cap : Nat) (w : World) (hn : 0 < n) :
    Calls Tryz.prog 94 #[.string ⟨#[c]⟩, .slice (some ⟨g, 0, none⟩) n cap] w fun e w' => e = .returned (branchV c g n cap) ∧ w = w' := by
  have h0 : ((n : Int) == 0) = false := by rw [beq_eq_false_iff_ne]; omega
  have h1 : ¬ (n : Int) = 0 := by omega
  go_enter Tryz.func94, Tryz.ntmps94
  go_wp2
  go_ret
  exact ⟨rfl, rfl⟩

end Go.Proofs.YtcpiojliakgdlaaGreatDoor
