/- Joined: Em. -/
import Derived.Test.YtcpiojliakgdlaaU25
import Derived.Test.YtcpiojliakgdlaaU21
import Derived.Test.YtcpiojliakgdlaaU03
/- The program: all pins that fit, by an iterator that ranges over itself. -/
namespace Go.Proofs.Ytcpiojliakgdlaa
open Go.RowKit Go.Shelf
attribute [local go_sem] Oper.semAt_some

/-- The segments from an index on. -/
def rf10 (n i : Nat) : List Nat := List.range' i (n - i)
theorem rf10_cons {n i : Nat} (h : i < n) : rf10 n i = i :: rf10 n (i + 1) := by
  unfold rf10
  rw [show n - i = (n - (i + 1)) + 1 by omega, List.range'_succ]
theorem rf10_end (n : Nat) : rf10 n n = [] := by
  unfold rf10
  rw [Nat.sub_self]
  rfl
theorem rest_rf10 (n : Nat) : rest10 n = rf10 n 1 := by
  unfold rest10 rf10
  apply List.ext_getElem
  · simp
  · intro k h1 h2
    simp
    omega
theorem pins_snoc10 {l : List Seg} {T : List Nat} {i : Nat} (hT : Pins10 l T) (hlt : ∀ x ∈ T, x < i) (h1 : 1 ≤ i) (hi : i < l.length) : Pins10 l (T ++ [i]) := by
  refine ⟨?_, fun j hj => ?_⟩
  · rw [List.pairwise_append]
    refine ⟨hT.1, List.pairwise_singleton _ _, fun a ha b hb => ?_⟩
    rw [List.mem_singleton.1 hb]
    exact hlt a ha
  · rcases List.mem_append.1 hj with hj | hj
    · exact hT.2 j hj
    · rw [List.mem_singleton.1 hj]
      exact ⟨by omega, hi⟩
theorem setF_snoc10 (T : List Nat) (i : Nat) : setF (fun j => memF (0 :: T) j || decide (j = i)) = setF (memF (0 :: (T ++ [i]))) := by
  apply setF_congr
  intro j _
  unfold memF
  rw [Bool.eq_iff_iff]
  simp [or_assoc]
theorem fits_anti10 {l : List Seg} (hv : validB l = true) (room : Int) (T : List Nat) {x : Nat} (hx : x < l.length) (h : fits10 l room (T ++ [x]) = true) : fits10 l room T = true := by
  have h1 := room10_mono hv T hx
  have h2 : room10 l (T ++ [x]) ≤ room := of_decide_eq_true h
  exact decide_eq_true (Int.le_trans h1 h2)
theorem all_none10 {l : List Seg} (hv : validB l = true) (room : Int) : ∀ (xs T : List Nat), (∀ x ∈ xs, x < l.length) → fits10 l room T = false → allR10 (fits10 l room) T xs = []
  | [], _, _, _ => rfl
  | x :: xs, T, h, hT => by
    have h1 : fits10 l room (T ++ [x]) = false := by
      cases h2 : fits10 l room (T ++ [x]) with
      | false => rfl
      | true => rw [fits_anti10 hv room T (h x List.mem_cons_self) h2] at hT; cases hT
    have h3 := fun y hy => h y (List.mem_cons_of_mem _ hy)
    rw [allR10_cons, all10, all_none10 hv room xs _ h3 h1, all_none10 hv room xs _ h3 hT, h1]
    rfl
theorem rf10_lt {n i x : Nat} (h : x ∈ rf10 n i) : x < n := by
  unfold rf10 at h
  rw [List.mem_range'] at h
  obtain ⟨k, hk, rfl⟩ := h
  omega

set_option maxRecDepth 100000 in
set_option maxHeartbeats 1000000 in
theorem fitsFn_any (bt br : Nat) (A : Option Addr) (l : List Seg) (c : Nat) (room : Int) (T : List Nat) (w : World) (hw : Segs w w.heap.size A l) (hl : l.length ≤ 1048576) (hlc : l.length ≤ c) (hcm : c ≤ 9223372036854775807) (hn : Short l) (hv : validB l = true) (hT : Pins10 l T)
    (hbt : bt < w.heap.size) (hct : w.cell? ⟨bt, 0, none⟩ = some (.slice A l.length c)) (hbr : br < w.heap.size) (hcr : w.cell? ⟨br, 0, none⟩ = some (.int .i64 room)) :
    Calls Try.prog 135 #[.int .u64 (setF (memF (0 :: T)) : Int), .pointer (some ⟨bt, 0, none⟩), .pointer (some ⟨br, 0, none⟩)] w fun e w' => e = .returned (.bool (fits10 l room T)) ∧ Below w.heap.size w w' := by
  have HW : Hid (Segs w w.heap.size A l) := hw
  have HRW := Lib.hid (fun W h => roomWith_any A l c T W h hl hlc hcm hn hv hT)
  have HT : Hid (∀ W, Below w.heap.size w W → W.cell? ⟨bt, 0, none⟩ = some (.slice A l.length c)) := fun W h => (h.cell (p := ⟨bt, 0, none⟩) hbt).trans hct
  have HR : Hid (∀ W, Below w.heap.size w W → W.cell? ⟨br, 0, none⟩ = some (.int .i64 room)) := fun W h => (h.cell (p := ⟨br, 0, none⟩) hbr).trans hcr
  clear hw hn hv hT hct hcr
  unfold fits10
  generalize room10 l T = r at *
  generalize (setF (memF (0 :: T)) : Int) = y at *
  go_enter Try.func135, Try.ntmps135
  go_wp2_with fail
  refine wp_region_held_drew (S := (fun W => Below w.heap.size w W)) (by kernel_rfl) ?_ (fun hHeld => ?_)
  · exact (Below.refl _ w).drew
  refine take_at (i := 0) (d := 5) (v := .slice A l.length c) rfl rfl (by kernel_rfl) (by kernel_rfl) (by kernel_rfl) (fun _ _ _ h => h) (by kernel_rfl) ((by (intro W hS; have hcW := HT.out W hS; go_simp))) (by assumption) ?_
  simp only [List.setIfInBounds_toArray, List.set_cons_succ, List.set_cons_zero]
  refine take_at (i := 1) (d := 6) (v := .int .u64 y) rfl rfl (by kernel_rfl) (by kernel_rfl) (by kernel_rfl) (fun _ _ _ h => h) (by kernel_rfl) (by (intro w hSw; (try dsimp only at hSw); go_simp)) (by assumption) ?_
  simp only [List.setIfInBounds_toArray, List.set_cons_succ, List.set_cons_zero]
  refine take_at (i := 3) (d := 8) (v := .int .i64 room) rfl rfl (by kernel_rfl) (by kernel_rfl) (by kernel_rfl) (fun _ _ _ h => h) (by kernel_rfl) ((by (intro W hS; have hcW := HR.out W hS; go_simp))) (by assumption) ?_
  simp only [List.setIfInBounds_toArray, List.set_cons_succ, List.set_cons_zero]
  refine wpAnyH_ready (rs := [2]) (by kernel_rfl) (by simp) ?_
  refine AllReadyH.cons rfl (fun K hK => ?_) AllReadyH.nil
  go_simp
  refine Calls.mono (HRW.out _ ((HW.out.below hHeld).more hHeld.size)) ?_
  rintro e w3 ⟨rfl, hb2⟩
  have hs2 : Below w.heap.size w w3 := hHeld.trans (hb2.mono hHeld.size)
  clear hb2 hHeld
  refine hK.out _ _ hs2 (fun hHeld => ?_)
  clear hK K hs2
  refine take_at (i := 4) (d := 9) (v := .bool (decide (r ≤ room))) rfl rfl (by kernel_rfl) (by kernel_rfl) (by kernel_rfl) (fun _ _ _ h => h) (by kernel_rfl) (by (intro w hSw; (try dsimp only at hSw); go_simp)) (by assumption) ?_
  simp only [List.setIfInBounds_toArray, List.set_cons_succ, List.set_cons_zero]
  refine take_at (i := 5) (d := 4) (v := .bool (decide (r ≤ room))) rfl rfl (by kernel_rfl) (by kernel_rfl) (by kernel_rfl) (fun _ _ _ h => h) (by kernel_rfl) (by (intro w hSw; (try dsimp only at hSw); go_simp)) (by assumption) ?_
  simp only [List.setIfInBounds_toArray, List.set_cons_succ, List.set_cons_zero]
  refine wpAnyH_done (by kernel_rfl) ?_ _
  have HBE : Hid (Below w.heap.size w w3) := hHeld
  clear hHeld
  go_wp2
  go_ret
  exact ⟨rfl, HBE.out⟩

def fitsV10 (bt br : Nat) : Value := .func (.func 135) #[] #[.pointer (some ⟨bt, 0, none⟩), .pointer (some ⟨br, 0, none⟩)]

set_option maxRecDepth 100000 in
set_option maxHeartbeats 400000 in
theorem pinsOn_any (s : Int) (a b : Int) (bt br : Nat) (w : World) :
    Calls Try.prog 134 #[.int .u64 s, .int .i64 a, .int .i64 b, fitsV10 bt br] w fun e w' => e = .returned (.func (.func 154) #[] #[.pointer (some ⟨w.heap.size + 3, 0, none⟩), .pointer (some ⟨w.heap.size, 0, none⟩), .pointer (some ⟨w.heap.size + 1, 0, none⟩), .pointer (some ⟨w.heap.size + 2, 0, none⟩)]) ∧
      w' = (((w.alloc (.cells #[.int .u64 s] 113)).alloc (.cells #[.int .i64 a] 3)).alloc (.cells #[.int .i64 b] 3)).alloc (.cells #[fitsV10 bt br] 162) := by
  unfold fitsV10
  go_enter Try.func134, Try.ntmps134
  go_wp2
  go_ret
  exact ⟨rfl, rfl⟩

/-- What the closure that tells whether pins fit reads. -/
structure Env10 (n₀ D : Nat) (A : Option Addr) (l : List Seg) (c : Nat) (room : Int) (bt br : Nat) (W : World) : Prop where
  tree : BoxAt W n₀ D bt (.slice A l.length c) 23
  room : BoxAt W n₀ D br (.int .i64 room) 3
  segs : Segs W n₀ A l
theorem Env10.keep {n₀ D : Nat} {A : Option Addr} {l : List Seg} {c : Nat} {room : Int} {bt br : Nat} {W W' : World} (h : Env10 n₀ D A l c room bt br W) (hb : Below n₀ W W') (hk : KeepsN D W W') : Env10 n₀ D A l c room bt br W' := ⟨h.tree.keep hb hk, h.room.keep hb hk, h.segs.below hb⟩
theorem Env10.grown {n₀ D : Nat} {A : Option Addr} {l : List Seg} {c : Nat} {room : Int} {bt br : Nat} {W W' : World} {row : Option Nat} (h : Env10 n₀ D A l c room bt br W) (hg : W.grownBy W' row) (hr : ∀ r, row = some r → n₀ ≤ r ∧ ∃ o : Obj, W.heap[r]? = some o ∧ o.isCells = false) (hn : n₀ ≤ W.heap.size) : Env10 n₀ D A l c room bt br W' :=
  ⟨h.tree.grown hg (fun r e => (hr r e).2), h.room.grown hg (fun r e => (hr r e).2), h.segs.below ((Below.refl n₀ W).grown hg hn (fun k e => (hr k e).1))⟩
theorem Env10.fits {n₀ D : Nat} {A : Option Addr} {l : List Seg} {c : Nat} {room : Int} {bt br : Nat} {W : World} (h : Env10 n₀ D A l c room bt br W) (hn : n₀ ≤ W.heap.size) (hl : l.length ≤ 1048576) (hlc : l.length ≤ c) (hcm : c ≤ 9223372036854775807) (hs : Short l) (hv : validB l = true) {T : List Nat} (hT : Pins10 l T) :
    Calls Try.prog 135 #[.int .u64 (setF (memF (0 :: T)) : Int), .pointer (some ⟨bt, 0, none⟩), .pointer (some ⟨br, 0, none⟩)] W fun e w' => e = .returned (.bool (fits10 l room T)) ∧ Below W.heap.size W w' :=
  fitsFn_any bt br A l c room T W (h.segs.more hn) hl hlc hcm hs hv hT (Array.getElem?_eq_some_iff.1 h.tree.2.2).1 h.tree.cell (Array.getElem?_eq_some_iff.1 h.room.2.2).1 h.room.cell

/-- The boxes of an iterator over pins. -/
structure Box10 (n₀ D : Nat) (n : Nat) (i : Nat) (T : List Nat) (bt br Bf Bs Bn Be : Nat) (W : World) : Prop where
  fits : BoxAt W n₀ D Bf (fitsV10 bt br) 162
  stay : BoxAt W n₀ D Bs (.int .u64 (setF (memF (0 :: T)) : Int)) 113
  next : BoxAt W n₀ D Bn (.int .i64 (i : Nat)) 3
  last : BoxAt W n₀ D Be (.int .i64 (n : Nat)) 3
theorem Box10.keep {n₀ D n i : Nat} {T : List Nat} {bt br Bf Bs Bn Be : Nat} {W W' : World} (h : Box10 n₀ D n i T bt br Bf Bs Bn Be W) (hb : Below n₀ W W') (hk : KeepsN D W W') : Box10 n₀ D n i T bt br Bf Bs Bn Be W' := ⟨h.fits.keep hb hk, h.stay.keep hb hk, h.next.keep hb hk, h.last.keep hb hk⟩
theorem Box10.grown {n₀ D n i : Nat} {T : List Nat} {bt br Bf Bs Bn Be : Nat} {W W' : World} {row : Option Nat} (h : Box10 n₀ D n i T bt br Bf Bs Bn Be W) (hg : W.grownBy W' row) (hr : ∀ r, row = some r → ∃ o : Obj, W.heap[r]? = some o ∧ o.isCells = false) : Box10 n₀ D n i T bt br Bf Bs Bn Be W' := ⟨h.fits.grown hg hr, h.stay.grown hg hr, h.next.grown hg hr, h.last.grown hg hr⟩

/-- What holds at the head of a round of the iterator. -/
structure PiHead10 (W : World) (n₀ D : Nat) (A : Option Addr) (l : List Seg) (c : Nat) (room : Int) (bt br i0 : Nat) (T : List Nat) (Bf Bs Bn Be l' : Nat) (J : List (List Nat) → World → Prop) (i : Nat) (Ls : List Nat) (W' : World) : Prop where
  come : ∃ pre, all10 (fits10 l room) T (rf10 l.length i0) = pre ++ allR10 (fits10 l room) T (rf10 l.length i) ∧ J pre W'
  low : Below n₀ W W'
  size : W.heap.size + 1 ≤ W'.heap.size
  boxY : BoxAt W' n₀ D W.heap.size (.func (.yield l') #[] #[]) 162
  boxes : Box10 n₀ D l.length i0 T bt br Bf Bs Bn Be W'
  env : Env10 n₀ D A l c room bt br W'
  marks : MarksIn W.heap.size W'.heap.size W' Ls
/-- What holds between two rounds of the loop within. -/
structure PiMid10 (W W3 : World) (n₀ D hi : Nat) (A : Option Addr) (l : List Seg) (c : Nat) (room : Int) (bt br i0 : Nat) (T : List Nat) (Bf Bs Bn Be l' : Nat) (Ls : List Nat) (W' : World) : Prop where
  low : Below n₀ W3 W'
  size : hi ≤ W'.heap.size
  boxY : BoxAt W' n₀ D W.heap.size (.func (.yield l') #[] #[]) 162
  boxes : Box10 n₀ D l.length i0 T bt br Bf Bs Bn Be W'
  env : Env10 n₀ D A l c room bt br W'
  marks : MarksIn W.heap.size hi W' Ls
theorem PiMid10.grown {W W3 : World} {n₀ D hi : Nat} {A : Option Addr} {l : List Seg} {c : Nat} {room : Int} {bt br i0 : Nat} {T : List Nat} {Bf Bs Bn Be l' : Nat} {Ls : List Nat} {X Y : World} {row : Option Nat} (h : PiMid10 W W3 n₀ D hi A l c room bt br i0 T Bf Bs Bn Be l' Ls X) (hg : X.grownBy Y row)
    (hr : ∀ r, row = some r → hi ≤ r ∧ ∃ o : Obj, X.heap[r]? = some o ∧ o.isCells = false) (hn : n₀ ≤ hi) : PiMid10 W W3 n₀ D hi A l c room bt br i0 T Bf Bs Bn Be l' Ls Y :=
  ⟨h.low.grown hg (Nat.le_trans hn h.size) (fun k e => Nat.le_trans hn (hr k e).1), Nat.le_trans h.size hg.size, h.boxY.grown hg (fun r e => (hr r e).2), h.boxes.grown hg (fun r e => (hr r e).2), h.env.grown hg (fun r e => ⟨Nat.le_trans hn (hr r e).1, (hr r e).2⟩) (Nat.le_trans hn h.size), h.marks.grown hg (fun r e => (hr r e).1) (Nat.le_refl _)⟩
theorem PiMid10.keep {W W3 : World} {n₀ D hi : Nat} {A : Option Addr} {l : List Seg} {c : Nat} {room : Int} {bt br i0 : Nat} {T : List Nat} {Bf Bs Bn Be l' : Nat} {Ls : List Nat} {X Y : World} (h : PiMid10 W W3 n₀ D hi A l c room bt br i0 T Bf Bs Bn Be l' Ls X) (hb : Below n₀ X Y) (hk : KeepsN D X Y) (hD : D ≤ W.heap.size) : PiMid10 W W3 n₀ D hi A l c room bt br i0 T Bf Bs Bn Be l' Ls Y :=
  ⟨h.low.trans hb, Nat.le_trans h.size hk.size, h.boxY.keep hb hk, h.boxes.keep hb hk, h.env.keep hb hk, h.marks.keep hk hD⟩
def PiInv10 (W : World) (n₀ D : Nat) (A : Option Addr) (l : List Seg) (c : Nat) (room : Int) (bt br i0 : Nat) (T : List Nat) (Bf Bs Bn Be l' : Nat) (J : List (List Nat) → World → Prop) (a' : Act) (W' : World) : Prop :=
  ∃ (i : Nat) (Ls : List Nat) (u6 u7 u8 u9 u10 u11 u12 u13 u14 u15 u16 u17 u18 u19 u20 u21 u22 u23 u24 u25 u26 u27 u28 u29 u30 u31 u32 u33 u34 u35 u36 : Value), a' = { tmps := #[.func (.yield l') #[] #[], .pointer (some ⟨Bf, 0, none⟩), .pointer (some ⟨Bs, 0, none⟩), .pointer (some ⟨Bn, 0, none⟩), .pointer (some ⟨Be, 0, none⟩), .pointer (some ⟨W.heap.size, 0, none⟩), u6, u7, u8, u9, u10, u11, u12, u13, u14, u15, u16, u17, u18, u19, u20, u21, u22, u23, u24, u25, u26, u27, u28, u29, u30, u31, u32, u33, u34, u35, u36], defers := marksOf Ls } ∧ u6 = .int .i64 (i : Nat) ∧ i0 ≤ i ∧ i ≤ l.length ∧ PiHead10 W n₀ D A l c room bt br i0 T Bf Bs Bn Be l' J i Ls W'

set_option maxRecDepth 100000 in
set_option maxHeartbeats 8000000 in
theorem pins1_seq (n₀ D : Nat) (fix : List Nat → List Nat) (A : Option Addr) (l : List Seg) (c : Nat) (room : Int) (bt br : Nat) (hl : l.length ≤ 1048576) (hlc : l.length ≤ c) (hcm : c ≤ 9223372036854775807) (hsh : Short l) (hv : validB l = true) :
    ∀ (m i0 : Nat) (T : List Nat) (N n Bf Bs Bn Be : Nat) (w : World), l.length - i0 < m → i0 ≤ l.length → 1 ≤ i0 → Pins10 l T → (∀ x ∈ T, x < i0) → (∀ x ∈ all10 (fits10 l room) T (rf10 l.length i0), fix x = x) → Box10 n₀ D l.length i0 T bt br Bf Bs Bn Be w → Env10 n₀ D A l c room bt br w → n₀ ≤ w.heap.size → (all10 (fits10 l room) T (rf10 l.length i0)).length ≤ N → l.length - i0 + 1 ≤ n →
    SeqR n 154 #[.pointer (some ⟨Bf, 0, none⟩), .pointer (some ⟨Bs, 0, none⟩), .pointer (some ⟨Bn, 0, none⟩), .pointer (some ⟨Be, 0, none⟩)] (fun x : List Nat => #[.int .u64 (setF (memF (0 :: fix x)) : Int)]) n₀ D (fun ys => ys = all10 (fits10 l room) T (rf10 l.length i0)) (fun ys => ys <+: all10 (fits10 l room) T (rf10 l.length i0)) N w := by
  have h8 := (valid_all hv).2.1
  intro m
  induction m with
  | zero => intro i0 T N n Bf Bs Bn Be w h; omega
  | succ m ih =>
    intro i0 T N n Bf Bs Bn Be w hm hi0 hi1 hT hTi hfx hbox henv hn₀ hN hn l' J Jx W hbW hDW hJ hJx hY h0
    have hn₀W : n₀ ≤ W.heap.size := Nat.le_trans hn₀ hbW.size
    have hg1 : w.grownBy W none := grown_of_below hbW
    have hg0 : W.grownBy (W.alloc (.cells #[.func (.yield l') #[] #[]] 162)) none := World.grownBy_alloc W _ none
    have HBX : Hid (Box10 n₀ D l.length i0 T bt br Bf Bs Bn Be (W.alloc (.cells #[.func (.yield l') #[] #[]] 162))) := (hbox.grown hg1 (fun r e => by cases e)).grown hg0 (fun r e => by cases e)
    have HEV : Hid (Env10 n₀ D A l c room bt br (W.alloc (.cells #[.func (.yield l') #[] #[]] 162))) := (henv.grown hg1 (fun r e => by cases e) hn₀).grown hg0 (fun r e => by cases e) hn₀W
    have HBY : Hid (BoxAt (W.alloc (.cells #[.func (.yield l') #[] #[]] 162)) n₀ D W.heap.size (.func (.yield l') #[] #[]) 162) := ⟨.inr hDW, by decide, Row.new W _ _⟩
    have HJ0 : Hid (J [] (W.alloc (.cells #[.func (.yield l') #[] #[]] 162))) := hJ.alloc _ h0
    have HLW : Hid (Below n₀ W (W.alloc (.cells #[.func (.yield l') #[] #[]] 162))) := (Below.refl _ W).alloc hn₀W _
    have HY : Hid _ := hY
    have HJ : Hid (OwnFrom W.heap.size J) := hJ
    have HJX : Hid (OwnFrom W.heap.size Jx) := hJx
    have HBW := Lib.hid hbW
    have IH := Lib.hid ih
    have HFX := Lib.hid hfx
    have HT := Lib.hid hT
    have HTI := Lib.hid hTi
    have HV := Lib.hid hv
    have HSH := Lib.hid hsh
    have HAL : Hid (all10 (fits10 l room) T (rf10 l.length i0) = (if fits10 l room T = true then [T] else []) ++ allR10 (fits10 l room) T (rf10 l.length i0)) := rfl
    have HNO : Hid (fits10 l room T = false → all10 (fits10 l room) T (rf10 l.length i0) = []) := fun h => by
      show _ ++ _ = []
      rw [if_neg (by rw [h]; decide), all_none10 hv room _ _ (fun x hx => rf10_lt hx) h]
      rfl
    clear hY hJ hJx hbW ih hfx hbox henv h0 hg0 hg1 hT hTi hsh hv
    have hz1 : (W.alloc (.cells #[.func (.yield l') #[] #[]] 162)).heap.size = W.heap.size + 1 := by simp
    have HZ1 := Lib.hid hz1
    clear hz1
    have cF := HBX.out.fits.cell
    have cS := HBX.out.stay.cell
    unfold fitsV10 at cF
    refine callsIn_of_wp_marks Try.func154 rfl trivial ?_ rfl
    simp only [Try.ntmps154, List.size_toArray, List.length_cons, List.length_nil, Nat.reduceAdd, Nat.reduceSub, Array.replicate_succ, Array.replicate_zero, List.push_toArray, List.append_toArray, List.nil_append, List.cons_append]
    gi_wp2_with fail
    refine ⟨trivial, fun h => by simp [Fence.wide] at h, ?_⟩
    refine (callsIn_wide.2 (HEV.out.fits (by rw [HZ1.out]; omega) hl hlc hcm HSH.out HV.out HT.out)).mono ?_
    rintro e w1 ⟨rfl, hb1⟩
    have hg1 := grown_of_below hb1
    have hz1 : W.heap.size + 1 ≤ w1.heap.size := by have := hb1.size; rw [HZ1.out] at this; exact this
    have HBX1 := Lib.hid (HBX.out.grown hg1 (fun r e => by cases e))
    have HEV1 := Lib.hid (HEV.out.grown hg1 (fun r e => by cases e) (by rw [HZ1.out]; omega))
    have HBY1 := Lib.hid (HBY.out.grown hg1 (fun r e => by cases e))
    have HJ1 : Hid (J [] w1) := HJ.out _ _ _ none HJ0.out hg1 (fun r e => by cases e)
    have HLW1 := Lib.hid (HLW.out.trans (hb1.mono (by rw [HZ1.out]; omega)))
    clear hb1 hg1 HBX HEV HBY HJ0 HLW cF cS
    cases hf : fits10 l room T with
    | false =>
      have HE := Lib.hid (HNO.out hf)
      clear hf
      gi_wp2
      refine ⟨fun _ h => (nomatch h), ?_⟩
      gi_wp2
      exact marks_leave (lo := W.heap.size) (hi := w1.heap.size) (I := fun W' => J [] W') (fun X L hX hL hk => HJ.out.putObj _ hX hL hk rfl) rfl (fun X hX => ⟨⟨_, rfl⟩, .inl ⟨_, HE.out.symm, hX⟩⟩) [] w1 (MarksIn.nil _ _ _) HJ1.out
    | true =>
      have HAL2 : Hid (all10 (fits10 l room) T (rf10 l.length i0) = [T] ++ allR10 (fits10 l room) T (rf10 l.length i0)) := by
        show _ = _
        rw [HAL.out, if_pos hf]
      have hyq := HY.out [] T w1 HJ1.out (by rw [HAL2.out, List.length_append] at hN; simp at hN ⊢; omega) (by omega)
      rw [HFX.out T (by rw [HAL2.out]; simp)] at hyq
      have HYQ := Lib.hid hyq
      have cY := HBY1.out.cell
      have cS := HBX1.out.stay.cell
      clear hyq hf HNO
      obtain ⟨fn, tmps, assign, body, hy, hR⟩ := yield_any (n - 1) HYQ.out
      gi_wp2_with fail
      refine ⟨fun h => by simp [Fence.wide] at h, ?_⟩
      refine hR.mono ?_
      rintro e W3 (⟨rfl, hJ3, hb3, hk3⟩ | ⟨rfl, hx3, hk3⟩)
      · have hz3 : W.heap.size + 1 ≤ W3.heap.size := Nat.le_trans hz1 hk3.size
        have H0 : Hid (PiHead10 W n₀ D A l c room bt br i0 T Bf Bs Bn Be l' J i0 [] W3) :=
          ⟨⟨[T], HAL2.out, hJ3⟩, HLW1.out.trans hb3, hz3, HBY1.out.keep hb3 hk3, HBX1.out.keep hb3 hk3, HEV1.out.keep hb3 hk3, MarksIn.nil _ _ _⟩
        have cN := H0.out.boxes.next.cell
        clear hJ3 hb3 hk3 hR hy HBX1 HEV1 HBY1 HJ1 HLW1 HYQ cY cS HAL
        gi_wp2
        refine wpIn_loop (PiInv10 W n₀ D A l c room bt br i0 T Bf Bs Bn Be l' J) (fun a' _ => l.length - (intOf (a'.tmps.getD 6 undef)).toNat) ?_ ?_
        · exact ⟨i0, [], _, _, _, _, _, _, _, _, _, _, _, _, _, _, _, _, _, _, _, _, _, _, _, _, _, _, _, _, _, _, _, rfl, rfl, Nat.le_refl _, hi0, H0.out⟩
        · rintro _ W1 ⟨i, Ls, u6, u7, u8, u9, u10, u11, u12, u13, u14, u15, u16, u17, u18, u19, u20, u21, u22, u23, u24, u25, u26, u27, u28, u29, u30, u31, u32, u33, u34, u35, u36, rfl, rfl, hii, hil, hH⟩
          clear H0 cN
          have HH := Lib.hid hH
          clear hH
          have cE := HH.out.boxes.last.cell
          have hi00 : (0 : Int) ≤ (i : Int) := Int.natCast_nonneg _
          by_cases hlt : i < l.length
          · have hlt' : (i : Int) < (l.length : Int) := by omega
            obtain ⟨pre, hpre, hJp⟩ := HH.out.come
            have HPR : Hid (all10 (fits10 l room) T (rf10 l.length i0) = pre ++ all10 (fits10 l room) (T ++ [i]) (rf10 l.length (i + 1)) ++ allR10 (fits10 l room) T (rf10 l.length (i + 1))) := by
              show _ = _
              rw [hpre, rf10_cons hlt, allR10_cons, List.append_assoc]
            have hpl : pre.length + (all10 (fits10 l room) (T ++ [i]) (rf10 l.length (i + 1))).length ≤ N := by
              have h1 := congrArg List.length HPR.out
              rw [List.length_append, List.length_append] at h1
              omega
            have HTI2 : Hid (Pins10 l (T ++ [i]) ∧ ∀ x ∈ T ++ [i], x < i + 1) := ⟨pins_snoc10 HT.out (fun x hx => by have := HTI.out x hx; omega) (by omega) hlt, fun x hx => by
              rcases List.mem_append.1 hx with hx | hx
              · have := HTI.out x hx; omega
              · rw [List.mem_singleton.1 hx]; omega⟩
            have HJP := Lib.hid hJp
            have HWA := Lib.hid (fun W => with_any (memF (0 :: T)) i W (by omega))
            rw [setF_snoc10 T i] at HWA
            have HPO := Lib.hid (fun W => pinsOn_any (setF (memF (0 :: (T ++ [i]))) : Int) ((i + 1 : Nat) : Int) (l.length : Nat) bt br W)
            unfold fitsV10 at HPO
            have hwr : IntKind.i64.wrap ((i : Int) + 1) = ((i + 1 : Nat) : Int) := (IntWalk.i64_in _ (by omega)).trans (by omega)
            have cS := HH.out.boxes.stay.cell
            have cF := HH.out.boxes.fits.cell
            unfold fitsV10 at cF
            have hmx : Try.prog.follows .mixedOrders = true := by kernel_rfl
            have hsz1 := HH.out.size
            clear hpre hJp
            gi_wp2_with fail
            refine wpIn_mono (Q := fun e a' W' => e = .normal ∧ a' = { tmps := #[.func (.yield l') #[] #[], .pointer (some ⟨Bf, 0, none⟩), .pointer (some ⟨Bs, 0, none⟩), .pointer (some ⟨Bn, 0, none⟩), .pointer (some ⟨Be, 0, none⟩), .pointer (some ⟨W.heap.size, 0, none⟩), .int .i64 (i : Nat), u7, u8, u9, u10, u11, u12, u13, u14, u15, u16, u17, u18, .int .i64 (i : Nat), .int .i64 (l.length : Nat), .bool true, u22, u23, .int .u64 (setF (memF (0 :: T)) : Int), .int .i64 (i : Nat), .int .u64 (setF (memF (0 :: (T ++ [i]))) : Int), .int .i64 (i : Nat), .int .i64 ((i + 1 : Nat) : Int), .int .i64 (l.length : Nat), .func (.func 135) #[] #[.pointer (some ⟨bt, 0, none⟩), .pointer (some ⟨br, 0, none⟩)], .func (.func 154) #[] #[.pointer (some ⟨W1.heap.size + 3, 0, none⟩), .pointer (some ⟨W1.heap.size, 0, none⟩), .pointer (some ⟨W1.heap.size + 1, 0, none⟩), .pointer (some ⟨W1.heap.size + 2, 0, none⟩)], u32, u33, u34, u35, u36], defers := marksOf Ls } ∧ W' = (((W1.drew.alloc (.cells #[.int .u64 (setF (memF (0 :: (T ++ [i]))) : Int)] 113)).alloc (.cells #[.int .i64 ((i + 1 : Nat) : Int)] 3)).alloc (.cells #[.int .i64 (l.length : Nat)] 3)).alloc (.cells #[fitsV10 bt br] 162)) ?_ ?_
            · unfold fitsV10
              refine wpIn_region_any (by assumption) ?_
              refine wpAnyIn_take (i := 1) (v := .int .i64 (i : Nat)) rfl rfl (by kernel_rfl) (by kernel_rfl) (by kernel_rfl) (fun _ _ _ h => nomatch h.1) ⟨Or.inl ⟨by rfl, by intro w; go_simp⟩, fun _ => rfl⟩ ?_
              refine wpAnyIn_take (i := 3) (v := .int .i64 (i : Nat)) rfl rfl (by kernel_rfl) (by kernel_rfl) (by kernel_rfl) (fun _ _ _ h => nomatch h.1) ⟨Or.inl ⟨by rfl, by intro w; go_simp⟩, fun _ => rfl⟩ ?_
              refine wpAnyIn_take (i := 4) (v := .int .i64 ((i + 1 : Nat) : Int)) rfl rfl (by kernel_rfl) (by kernel_rfl) (by kernel_rfl) (fun _ _ _ h => nomatch h.1) ⟨Or.inl ⟨by rfl, by intro w; go_simp⟩, fun _ => rfl⟩ ?_
              refine wpAnyIn_ready (rs := [0, 5, 6]) (by kernel_rfl) (by simp) ?_
              refine AllReadyIn.cons rfl (fun K hK => ?_) (AllReadyIn.cons rfl (fun K hK => ?_) (AllReadyIn.cons rfl (fun K hK => ?_) AllReadyIn.nil))
              ·
                go_simp
                refine hK _ _ ?_
                clear hK K
                refine wpAnyIn_ready (rs := [2, 5, 6]) (by kernel_rfl) (by simp) ?_
                refine AllReadyIn.cons rfl (fun K hK => ?_) (AllReadyIn.cons rfl (fun K hK => ?_) (AllReadyIn.cons rfl (fun K hK => ?_) AllReadyIn.nil))
                ·
                  go_simp
                  refine ⟨trivial, (fun h => by simp [Fence.wide] at h), ?_⟩
                  gi_at_call 131
                  refine (callsIn_wide.2 (HWA.out _)).mono ?_
                  rintro e w' ⟨rfl, rfl⟩
                  refine hK _ _ ?_
                  clear hK K
                  refine wpAnyIn_ready (rs := [5, 6]) (by kernel_rfl) (by simp) ?_
                  refine AllReadyIn.cons rfl (fun K hK => ?_) (AllReadyIn.cons rfl (fun K hK => ?_) AllReadyIn.nil)
                  ·
                    go_simp
                    refine hK _ _ ?_
                    clear hK K
                    refine wpAnyIn_ready (rs := [6]) (by kernel_rfl) (by simp) ?_
                    refine AllReadyIn.cons rfl (fun K hK => ?_) AllReadyIn.nil
                    go_simp
                    refine hK _ _ ?_
                    clear hK K
                    refine wpAnyIn_ready (rs := [7]) (by kernel_rfl) (by simp) ?_
                    refine AllReadyIn.cons rfl (fun K hK => ?_) AllReadyIn.nil
                    go_simp
                    refine ⟨trivial, (fun h => by simp [Fence.wide] at h), ?_⟩
                    gi_at_call 134
                    refine (callsIn_wide.2 (HPO.out _)).mono ?_
                    rintro e w' ⟨rfl, rfl⟩
                    refine hK _ _ ?_
                    clear hK K
                    refine wpAnyIn_done (by kernel_rfl) ?_ _
                    exact ⟨rfl, rfl, rfl⟩
                  ·
                    go_simp
                    refine hK _ _ ?_
                    clear hK K
                    refine wpAnyIn_ready (rs := [5]) (by kernel_rfl) (by simp) ?_
                    refine AllReadyIn.cons rfl (fun K hK => ?_) AllReadyIn.nil
                    go_simp
                    refine hK _ _ ?_
                    clear hK K
                    refine wpAnyIn_ready (rs := [7]) (by kernel_rfl) (by simp) ?_
                    refine AllReadyIn.cons rfl (fun K hK => ?_) AllReadyIn.nil
                    go_simp
                    refine ⟨trivial, (fun h => by simp [Fence.wide] at h), ?_⟩
                    gi_at_call 134
                    refine (callsIn_wide.2 (HPO.out _)).mono ?_
                    rintro e w' ⟨rfl, rfl⟩
                    refine hK _ _ ?_
                    clear hK K
                    refine wpAnyIn_done (by kernel_rfl) ?_ _
                    exact ⟨rfl, rfl, rfl⟩
                ·
                  go_simp
                  refine hK _ _ ?_
                  clear hK K
                  refine wpAnyIn_ready (rs := [2, 6]) (by kernel_rfl) (by simp) ?_
                  refine AllReadyIn.cons rfl (fun K hK => ?_) (AllReadyIn.cons rfl (fun K hK => ?_) AllReadyIn.nil)
                  ·
                    go_simp
                    refine ⟨trivial, (fun h => by simp [Fence.wide] at h), ?_⟩
                    gi_at_call 131
                    refine (callsIn_wide.2 (HWA.out _)).mono ?_
                    rintro e w' ⟨rfl, rfl⟩
                    refine hK _ _ ?_
                    clear hK K
                    refine wpAnyIn_ready (rs := [6]) (by kernel_rfl) (by simp) ?_
                    refine AllReadyIn.cons rfl (fun K hK => ?_) AllReadyIn.nil
                    go_simp
                    refine hK _ _ ?_
                    clear hK K
                    refine wpAnyIn_ready (rs := [7]) (by kernel_rfl) (by simp) ?_
                    refine AllReadyIn.cons rfl (fun K hK => ?_) AllReadyIn.nil
                    go_simp
                    refine ⟨trivial, (fun h => by simp [Fence.wide] at h), ?_⟩
                    gi_at_call 134
                    refine (callsIn_wide.2 (HPO.out _)).mono ?_
                    rintro e w' ⟨rfl, rfl⟩
                    refine hK _ _ ?_
                    clear hK K
                    refine wpAnyIn_done (by kernel_rfl) ?_ _
                    exact ⟨rfl, rfl, rfl⟩
                  ·
                    go_simp
                    refine hK _ _ ?_
                    clear hK K
                    refine wpAnyIn_ready (rs := [2]) (by kernel_rfl) (by simp) ?_
                    refine AllReadyIn.cons rfl (fun K hK => ?_) AllReadyIn.nil
                    go_simp
                    refine ⟨trivial, (fun h => by simp [Fence.wide] at h), ?_⟩
                    gi_at_call 131
                    refine (callsIn_wide.2 (HWA.out _)).mono ?_
                    rintro e w' ⟨rfl, rfl⟩
                    refine hK _ _ ?_
                    clear hK K
                    refine wpAnyIn_ready (rs := [7]) (by kernel_rfl) (by simp) ?_
                    refine AllReadyIn.cons rfl (fun K hK => ?_) AllReadyIn.nil
                    go_simp
                    refine ⟨trivial, (fun h => by simp [Fence.wide] at h), ?_⟩
                    gi_at_call 134
                    refine (callsIn_wide.2 (HPO.out _)).mono ?_
                    rintro e w' ⟨rfl, rfl⟩
                    refine hK _ _ ?_
                    clear hK K
                    refine wpAnyIn_done (by kernel_rfl) ?_ _
                    exact ⟨rfl, rfl, rfl⟩
                ·
                  go_simp
                  refine hK _ _ ?_
                  clear hK K
                  refine wpAnyIn_ready (rs := [2, 5]) (by kernel_rfl) (by simp) ?_
                  refine AllReadyIn.cons rfl (fun K hK => ?_) (AllReadyIn.cons rfl (fun K hK => ?_) AllReadyIn.nil)
                  ·
                    go_simp
                    refine ⟨trivial, (fun h => by simp [Fence.wide] at h), ?_⟩
                    gi_at_call 131
                    refine (callsIn_wide.2 (HWA.out _)).mono ?_
                    rintro e w' ⟨rfl, rfl⟩
                    refine hK _ _ ?_
                    clear hK K
                    refine wpAnyIn_ready (rs := [5]) (by kernel_rfl) (by simp) ?_
                    refine AllReadyIn.cons rfl (fun K hK => ?_) AllReadyIn.nil
                    go_simp
                    refine hK _ _ ?_
                    clear hK K
                    refine wpAnyIn_ready (rs := [7]) (by kernel_rfl) (by simp) ?_
                    refine AllReadyIn.cons rfl (fun K hK => ?_) AllReadyIn.nil
                    go_simp
                    refine ⟨trivial, (fun h => by simp [Fence.wide] at h), ?_⟩
                    gi_at_call 134
                    refine (callsIn_wide.2 (HPO.out _)).mono ?_
                    rintro e w' ⟨rfl, rfl⟩
                    refine hK _ _ ?_
                    clear hK K
                    refine wpAnyIn_done (by kernel_rfl) ?_ _
                    exact ⟨rfl, rfl, rfl⟩
                  ·
                    go_simp
                    refine hK _ _ ?_
                    clear hK K
                    refine wpAnyIn_ready (rs := [2]) (by kernel_rfl) (by simp) ?_
                    refine AllReadyIn.cons rfl (fun K hK => ?_) AllReadyIn.nil
                    go_simp
                    refine ⟨trivial, (fun h => by simp [Fence.wide] at h), ?_⟩
                    gi_at_call 131
                    refine (callsIn_wide.2 (HWA.out _)).mono ?_
                    rintro e w' ⟨rfl, rfl⟩
                    refine hK _ _ ?_
                    clear hK K
                    refine wpAnyIn_ready (rs := [7]) (by kernel_rfl) (by simp) ?_
                    refine AllReadyIn.cons rfl (fun K hK => ?_) AllReadyIn.nil
                    go_simp
                    refine ⟨trivial, (fun h => by simp [Fence.wide] at h), ?_⟩
                    gi_at_call 134
                    refine (callsIn_wide.2 (HPO.out _)).mono ?_
                    rintro e w' ⟨rfl, rfl⟩
                    refine hK _ _ ?_
                    clear hK K
                    refine wpAnyIn_done (by kernel_rfl) ?_ _
                    exact ⟨rfl, rfl, rfl⟩
              ·
                go_simp
                refine hK _ _ ?_
                clear hK K
                refine wpAnyIn_ready (rs := [0, 6]) (by kernel_rfl) (by simp) ?_
                refine AllReadyIn.cons rfl (fun K hK => ?_) (AllReadyIn.cons rfl (fun K hK => ?_) AllReadyIn.nil)
                ·
                  go_simp
                  refine hK _ _ ?_
                  clear hK K
                  refine wpAnyIn_ready (rs := [2, 6]) (by kernel_rfl) (by simp) ?_
                  refine AllReadyIn.cons rfl (fun K hK => ?_) (AllReadyIn.cons rfl (fun K hK => ?_) AllReadyIn.nil)
                  ·
                    go_simp
                    refine ⟨trivial, (fun h => by simp [Fence.wide] at h), ?_⟩
                    gi_at_call 131
                    refine (callsIn_wide.2 (HWA.out _)).mono ?_
                    rintro e w' ⟨rfl, rfl⟩
                    refine hK _ _ ?_
                    clear hK K
                    refine wpAnyIn_ready (rs := [6]) (by kernel_rfl) (by simp) ?_
                    refine AllReadyIn.cons rfl (fun K hK => ?_) AllReadyIn.nil
                    go_simp
                    refine hK _ _ ?_
                    clear hK K
                    refine wpAnyIn_ready (rs := [7]) (by kernel_rfl) (by simp) ?_
                    refine AllReadyIn.cons rfl (fun K hK => ?_) AllReadyIn.nil
                    go_simp
                    refine ⟨trivial, (fun h => by simp [Fence.wide] at h), ?_⟩
                    gi_at_call 134
                    refine (callsIn_wide.2 (HPO.out _)).mono ?_
                    rintro e w' ⟨rfl, rfl⟩
                    refine hK _ _ ?_
                    clear hK K
                    refine wpAnyIn_done (by kernel_rfl) ?_ _
                    exact ⟨rfl, rfl, rfl⟩
                  ·
                    go_simp
                    refine hK _ _ ?_
                    clear hK K
                    refine wpAnyIn_ready (rs := [2]) (by kernel_rfl) (by simp) ?_
                    refine AllReadyIn.cons rfl (fun K hK => ?_) AllReadyIn.nil
                    go_simp
                    refine ⟨trivial, (fun h => by simp [Fence.wide] at h), ?_⟩
                    gi_at_call 131
                    refine (callsIn_wide.2 (HWA.out _)).mono ?_
                    rintro e w' ⟨rfl, rfl⟩
                    refine hK _ _ ?_
                    clear hK K
                    refine wpAnyIn_ready (rs := [7]) (by kernel_rfl) (by simp) ?_
                    refine AllReadyIn.cons rfl (fun K hK => ?_) AllReadyIn.nil
                    go_simp
                    refine ⟨trivial, (fun h => by simp [Fence.wide] at h), ?_⟩
                    gi_at_call 134
                    refine (callsIn_wide.2 (HPO.out _)).mono ?_
                    rintro e w' ⟨rfl, rfl⟩
                    refine hK _ _ ?_
                    clear hK K
                    refine wpAnyIn_done (by kernel_rfl) ?_ _
                    exact ⟨rfl, rfl, rfl⟩
                ·
                  go_simp
                  refine hK _ _ ?_
                  clear hK K
                  refine wpAnyIn_ready (rs := [0]) (by kernel_rfl) (by simp) ?_
                  refine AllReadyIn.cons rfl (fun K hK => ?_) AllReadyIn.nil
                  go_simp
                  refine hK _ _ ?_
                  clear hK K
                  refine wpAnyIn_ready (rs := [2]) (by kernel_rfl) (by simp) ?_
                  refine AllReadyIn.cons rfl (fun K hK => ?_) AllReadyIn.nil
                  go_simp
                  refine ⟨trivial, (fun h => by simp [Fence.wide] at h), ?_⟩
                  gi_at_call 131
                  refine (callsIn_wide.2 (HWA.out _)).mono ?_
                  rintro e w' ⟨rfl, rfl⟩
                  refine hK _ _ ?_
                  clear hK K
                  refine wpAnyIn_ready (rs := [7]) (by kernel_rfl) (by simp) ?_
                  refine AllReadyIn.cons rfl (fun K hK => ?_) AllReadyIn.nil
                  go_simp
                  refine ⟨trivial, (fun h => by simp [Fence.wide] at h), ?_⟩
                  gi_at_call 134
                  refine (callsIn_wide.2 (HPO.out _)).mono ?_
                  rintro e w' ⟨rfl, rfl⟩
                  refine hK _ _ ?_
                  clear hK K
                  refine wpAnyIn_done (by kernel_rfl) ?_ _
                  exact ⟨rfl, rfl, rfl⟩
              ·
                go_simp
                refine hK _ _ ?_
                clear hK K
                refine wpAnyIn_ready (rs := [0, 5]) (by kernel_rfl) (by simp) ?_
                refine AllReadyIn.cons rfl (fun K hK => ?_) (AllReadyIn.cons rfl (fun K hK => ?_) AllReadyIn.nil)
                ·
                  go_simp
                  refine hK _ _ ?_
                  clear hK K
                  refine wpAnyIn_ready (rs := [2, 5]) (by kernel_rfl) (by simp) ?_
                  refine AllReadyIn.cons rfl (fun K hK => ?_) (AllReadyIn.cons rfl (fun K hK => ?_) AllReadyIn.nil)
                  ·
                    go_simp
                    refine ⟨trivial, (fun h => by simp [Fence.wide] at h), ?_⟩
                    gi_at_call 131
                    refine (callsIn_wide.2 (HWA.out _)).mono ?_
                    rintro e w' ⟨rfl, rfl⟩
                    refine hK _ _ ?_
                    clear hK K
                    refine wpAnyIn_ready (rs := [5]) (by kernel_rfl) (by simp) ?_
                    refine AllReadyIn.cons rfl (fun K hK => ?_) AllReadyIn.nil
                    go_simp
                    refine hK _ _ ?_
                    clear hK K
                    refine wpAnyIn_ready (rs := [7]) (by kernel_rfl) (by simp) ?_
                    refine AllReadyIn.cons rfl (fun K hK => ?_) AllReadyIn.nil
                    go_simp
                    refine ⟨trivial, (fun h => by simp [Fence.wide] at h), ?_⟩
                    gi_at_call 134
                    refine (callsIn_wide.2 (HPO.out _)).mono ?_
                    rintro e w' ⟨rfl, rfl⟩
                    refine hK _ _ ?_
                    clear hK K
                    refine wpAnyIn_done (by kernel_rfl) ?_ _
                    exact ⟨rfl, rfl, rfl⟩
                  ·
                    go_simp
                    refine hK _ _ ?_
                    clear hK K
                    refine wpAnyIn_ready (rs := [2]) (by kernel_rfl) (by simp) ?_
                    refine AllReadyIn.cons rfl (fun K hK => ?_) AllReadyIn.nil
                    go_simp
                    refine ⟨trivial, (fun h => by simp [Fence.wide] at h), ?_⟩
                    gi_at_call 131
                    refine (callsIn_wide.2 (HWA.out _)).mono ?_
                    rintro e w' ⟨rfl, rfl⟩
                    refine hK _ _ ?_
                    clear hK K
                    refine wpAnyIn_ready (rs := [7]) (by kernel_rfl) (by simp) ?_
                    refine AllReadyIn.cons rfl (fun K hK => ?_) AllReadyIn.nil
                    go_simp
                    refine ⟨trivial, (fun h => by simp [Fence.wide] at h), ?_⟩
                    gi_at_call 134
                    refine (callsIn_wide.2 (HPO.out _)).mono ?_
                    rintro e w' ⟨rfl, rfl⟩
                    refine hK _ _ ?_
                    clear hK K
                    refine wpAnyIn_done (by kernel_rfl) ?_ _
                    exact ⟨rfl, rfl, rfl⟩
                ·
                  go_simp
                  refine hK _ _ ?_
                  clear hK K
                  refine wpAnyIn_ready (rs := [0]) (by kernel_rfl) (by simp) ?_
                  refine AllReadyIn.cons rfl (fun K hK => ?_) AllReadyIn.nil
                  go_simp
                  refine hK _ _ ?_
                  clear hK K
                  refine wpAnyIn_ready (rs := [2]) (by kernel_rfl) (by simp) ?_
                  refine AllReadyIn.cons rfl (fun K hK => ?_) AllReadyIn.nil
                  go_simp
                  refine ⟨trivial, (fun h => by simp [Fence.wide] at h), ?_⟩
                  gi_at_call 131
                  refine (callsIn_wide.2 (HWA.out _)).mono ?_
                  rintro e w' ⟨rfl, rfl⟩
                  refine hK _ _ ?_
                  clear hK K
                  refine wpAnyIn_ready (rs := [7]) (by kernel_rfl) (by simp) ?_
                  refine AllReadyIn.cons rfl (fun K hK => ?_) AllReadyIn.nil
                  go_simp
                  refine ⟨trivial, (fun h => by simp [Fence.wide] at h), ?_⟩
                  gi_at_call 134
                  refine (callsIn_wide.2 (HPO.out _)).mono ?_
                  rintro e w' ⟨rfl, rfl⟩
                  refine hK _ _ ?_
                  clear hK K
                  refine wpAnyIn_done (by kernel_rfl) ?_ _
                  exact ⟨rfl, rfl, rfl⟩
            · rintro _ _ _ ⟨rfl, rfl, rfl⟩
              have hb5 : Below W1.heap.size W1 ((((W1.drew.alloc (.cells #[.int .u64 (setF (memF (0 :: (T ++ [i]))) : Int)] 113)).alloc (.cells #[.int .i64 ((i + 1 : Nat) : Int)] 3)).alloc (.cells #[.int .i64 (l.length : Nat)] 3)).alloc (.cells #[fitsV10 bt br] 162)) := (((((Below.refl _ W1).drew).alloc (Nat.le_refl _) _).alloc (by simp) _).alloc (by simp; omega) _).alloc (by simp; omega) _
              have hz5 : ((((W1.drew.alloc (.cells #[.int .u64 (setF (memF (0 :: (T ++ [i]))) : Int)] 113)).alloc (.cells #[.int .i64 ((i + 1 : Nat) : Int)] 3)).alloc (.cells #[.int .i64 (l.length : Nat)] 3)).alloc (.cells #[fitsV10 bt br] 162)).heap.size = W1.heap.size + 4 := by simp
              have hx0 : Row ((((W1.drew.alloc (.cells #[.int .u64 (setF (memF (0 :: (T ++ [i]))) : Int)] 113)).alloc (.cells #[.int .i64 ((i + 1 : Nat) : Int)] 3)).alloc (.cells #[.int .i64 (l.length : Nat)] 3)).alloc (.cells #[fitsV10 bt br] 162)) W1.heap.size 113 #[.int .u64 (setF (memF (0 :: (T ++ [i]))) : Int)] := (((Row.new W1.drew _ _).alloc _).alloc _).alloc _
              have hx1 : Row ((((W1.drew.alloc (.cells #[.int .u64 (setF (memF (0 :: (T ++ [i]))) : Int)] 113)).alloc (.cells #[.int .i64 ((i + 1 : Nat) : Int)] 3)).alloc (.cells #[.int .i64 (l.length : Nat)] 3)).alloc (.cells #[fitsV10 bt br] 162)) (W1.heap.size + 1) 3 #[.int .i64 ((i + 1 : Nat) : Int)] := by
                have h1 := ((Row.new (W1.drew.alloc (.cells #[.int .u64 (setF (memF (0 :: (T ++ [i]))) : Int)] 113)) 3 #[.int .i64 ((i + 1 : Nat) : Int)]).alloc (.cells #[.int .i64 (l.length : Nat)] 3)).alloc (.cells #[fitsV10 bt br] 162)
                simpa using h1
              have hx2 : Row ((((W1.drew.alloc (.cells #[.int .u64 (setF (memF (0 :: (T ++ [i]))) : Int)] 113)).alloc (.cells #[.int .i64 ((i + 1 : Nat) : Int)] 3)).alloc (.cells #[.int .i64 (l.length : Nat)] 3)).alloc (.cells #[fitsV10 bt br] 162)) (W1.heap.size + 2) 3 #[.int .i64 (l.length : Nat)] := by
                have h1 := (Row.new ((W1.drew.alloc (.cells #[.int .u64 (setF (memF (0 :: (T ++ [i]))) : Int)] 113)).alloc (.cells #[.int .i64 ((i + 1 : Nat) : Int)] 3)) 3 #[.int .i64 (l.length : Nat)]).alloc (.cells #[fitsV10 bt br] 162)
                simpa using h1
              have hx3 : Row ((((W1.drew.alloc (.cells #[.int .u64 (setF (memF (0 :: (T ++ [i]))) : Int)] 113)).alloc (.cells #[.int .i64 ((i + 1 : Nat) : Int)] 3)).alloc (.cells #[.int .i64 (l.length : Nat)] 3)).alloc (.cells #[fitsV10 bt br] 162)) (W1.heap.size + 3) 162 #[fitsV10 bt br] := by
                have h1 := Row.new (((W1.drew.alloc (.cells #[.int .u64 (setF (memF (0 :: (T ++ [i]))) : Int)] 113)).alloc (.cells #[.int .i64 ((i + 1 : Nat) : Int)] 3)).alloc (.cells #[.int .i64 (l.length : Nat)] 3)) 162 #[fitsV10 bt br]
                simpa using h1
              generalize (((W1.drew.alloc (.cells #[.int .u64 (setF (memF (0 :: (T ++ [i]))) : Int)] 113)).alloc (.cells #[.int .i64 ((i + 1 : Nat) : Int)] 3)).alloc (.cells #[.int .i64 (l.length : Nat)] 3)).alloc (.cells #[fitsV10 bt br] 162) = W5 at *
              have hg5 := grown_of_below hb5
              have hBX5 : Box10 n₀ D l.length (i + 1) (T ++ [i]) bt br (W1.heap.size + 3) W1.heap.size (W1.heap.size + 1) (W1.heap.size + 2) W5 := ⟨⟨.inr (by omega), by decide, hx3⟩, ⟨.inr (by omega), by decide, hx0⟩, ⟨.inr (by omega), by decide, hx1⟩, ⟨.inr (by omega), by decide, hx2⟩⟩
              have hEV5 := HH.out.env.grown hg5 (fun r e => by cases e) (by omega)
              have HMID : Hid (PiMid10 W W1 n₀ D W5.heap.size A l c room bt br i0 T Bf Bs Bn Be l' Ls W5) :=
                ⟨hb5.mono (by omega), Nat.le_refl _, HH.out.boxY.grown hg5 (fun r e => by cases e), HH.out.boxes.grown hg5 (fun r e => by cases e), hEV5, (HH.out.marks.grown hg5 (B := W1.heap.size) (fun r e => by cases e) (Nat.le_refl _)).up (by omega)⟩
              have HJ5 : Hid (J pre W5) := HJ.out _ _ _ _ HJP.out hg5 (fun r e => by cases e)
              have HLOW := Lib.hid HH.out.low
              have hseq := IH.out (i + 1) (T ++ [i]) (all10 (fits10 l room) (T ++ [i]) (rf10 l.length (i + 1))).length (n - 1) (W1.heap.size + 3) W1.heap.size (W1.heap.size + 1) (W1.heap.size + 2) W5 (by omega) (by omega) (by omega) HTI2.out.1 HTI2.out.2 (fun x hx => HFX.out x (by rw [HPR.out]; simp [hx])) hBX5 hEV5 (by omega) (Nat.le_refl _) (by omega)
              clear hb5 hx0 hx1 hx2 hx3 hBX5 hEV5 HJP HWA HPO cS cF cE HH
              gi_wp2
              refine wpIn_rangeFunc_R (by omega) (gf := 154) (lb := #[.pointer (some ⟨W1.heap.size + 3, 0, none⟩), .pointer (some ⟨W1.heap.size, 0, none⟩), .pointer (some ⟨W1.heap.size + 1, 0, none⟩), .pointer (some ⟨W1.heap.size + 2, 0, none⟩)]) rfl (enters_of Try.func154 (by kernel_rfl) rfl) hseq (by omega) (by omega) (Below.refl _ _) (fun _ => rfl)
                (fun ys W' => J (pre ++ ys) W' ∧ PiMid10 W W1 n₀ D W5.heap.size A l c room bt br i0 T Bf Bs Bn Be l' Ls W')
                (fun c' ys W' => c' = .ret ∧ Jx (pre ++ ys) W' ∧ MarksIn W.heap.size W5.heap.size W' Ls)
                (fun s X Y row hs hg hr => ⟨HJ.out _ X Y row hs.1 hg (fun r e => ⟨by have := (hr r e).1; omega, (hr r e).2⟩), hs.2.grown hg hr (by omega)⟩)
                (fun c' s X Y row hs hg hr => ⟨hs.1, HJX.out _ X Y row hs.2.1 hg (fun r e => ⟨by have := (hr r e).1; omega, (hr r e).2⟩), hs.2.2.grown hg (fun r e => (hr r e).1) (Nat.le_refl _)⟩)
                ⟨by rw [List.append_nil]; exact HJ5.out, HMID.out⟩
                (fun x => { tmps := #[.func (.yield l') #[] #[], .pointer (some ⟨Bf, 0, none⟩), .pointer (some ⟨Bs, 0, none⟩), .pointer (some ⟨Bn, 0, none⟩), .pointer (some ⟨Be, 0, none⟩), .pointer (some ⟨W.heap.size, 0, none⟩), .int .i64 (i : Nat), .int .u64 (setF (memF (0 :: fix x)) : Int), u8, u9, u10, u11, u12, u13, u14, u15, u16, u17, u18, .int .i64 (i : Nat), .int .i64 (l.length : Nat), .bool true, u22, u23, .int .u64 (setF (memF (0 :: T)) : Int), .int .i64 (i : Nat), .int .u64 (setF (memF (0 :: (T ++ [i]))) : Int), .int .i64 (i : Nat), .int .i64 ((i + 1 : Nat) : Int), .int .i64 (l.length : Nat), .func (.func 135) #[] #[.pointer (some ⟨bt, 0, none⟩), .pointer (some ⟨br, 0, none⟩)], .func (.func 154) #[] #[.pointer (some ⟨W1.heap.size + 3, 0, none⟩), .pointer (some ⟨W1.heap.size, 0, none⟩), .pointer (some ⟨W1.heap.size + 1, 0, none⟩), .pointer (some ⟨W1.heap.size + 2, 0, none⟩)], .int .u64 (setF (memF (0 :: fix x)) : Int), u33, u34, u35, u36], defers := [] }) ?assign ?body ?done ?stop
              case assign =>
                intro l2 x X K hK
                gi_wp2
                exact hK
              case body =>
                rintro l2 ys x X ⟨hJ6, hM6⟩ hlen hz
                have cY6 := hM6.boxY.cell
                obtain ⟨fn, tmps, assign, body, hy, hR⟩ := yield_any (n - 1 - 1 - 1) (HY.out (pre ++ ys) x X hJ6 (by rw [List.length_append]; omega) (by omega))
                gi_wp2
                refine ⟨fun h => by simp [Fence.wide] at h, ?_⟩
                refine (show RoundIn (Fence.wide.inRound l2) (n - 1 - 1 - 1) Try.prog l' fn tmps assign body X _ from hR).mono ?_
                rintro e X3 (⟨rfl, hJ7, hb7, hk7⟩ | ⟨rfl, hx7, hk7⟩)
                · gi_wp2
                  exact ⟨hk7.mono (by omega), hb7, by rw [← List.append_assoc]; exact hJ7, hM6.keep hb7 hk7 hDW⟩
                · gi_wp2
                  exact ⟨hk7.mono (by omega), rfl, by rw [← List.append_assoc]; exact hx7, hM6.marks.keep hk7 (Nat.le_refl _)⟩
              case done =>
                rintro L ys X hL rfl ⟨hJ6, hM6⟩ hK
                have HD : Hid (PiHead10 W n₀ D A l c room bt br i0 T Bf Bs Bn Be l' J (i + 1) (L :: Ls) X) :=
                  ⟨⟨_, HPR.out, hJ6⟩, HLOW.out.trans hM6.low, by have := hM6.size; omega, hM6.boxY, hM6.boxes, hM6.env, (hM6.marks.cons hL (by omega) hK).up (Array.getElem?_eq_some_iff.1 hK).1⟩
                clear hJ6 hM6 hseq
                gi_wp2
                refine ⟨⟨i + 1, L :: Ls, _, _, _, _, _, _, _, _, _, _, _, _, _, _, _, _, _, _, _, _, _, _, _, _, _, _, _, _, _, _, _, rfl, by go_num, by omega, by omega, HD.out⟩, ?_⟩
                simp [intOf]; omega
              case stop =>
                rintro L c' ys X hL hSp ⟨rfl, hx, hmk⟩ hK
                have HM6 := Lib.hid (hmk.cons hL (by omega) hK)
                have HX6 := Lib.hid hx
                have HSP := Lib.hid hSp
                clear hx hmk hSp hseq
                gi_wp2
                exact marks_leave (lo := W.heap.size) (hi := L + 1) (I := fun W' => Jx (pre ++ ys) W') (fun X' L' hX' hL' hk' => HJX.out.putObj _ hX' hL' hk' rfl) rfl (fun X' hX' => ⟨⟨_, rfl⟩, .inr ⟨_, by
                  obtain ⟨q, hq⟩ := HSP.out
                  rw [HPR.out, ← hq]
                  exact ⟨q ++ allR10 (fits10 l room) T (rf10 l.length (i + 1)), by simp⟩, hX'⟩⟩) (L :: Ls) X HM6.out HX6.out
          · obtain rfl : i = l.length := by omega
            obtain ⟨pre, hpre, hJp⟩ := HH.out.come
            have HE : Hid (all10 (fits10 l room) T (rf10 l.length i0) = pre) := by
              show _ = _
              rw [hpre, rf10_end]
              exact List.append_nil _
            have HJP := Lib.hid hJp
            clear hpre hJp
            gi_wp2
            exact marks_leave (lo := W.heap.size) (hi := W1.heap.size) (I := fun W' => J pre W') (fun X L hX hL hk => HJ.out.putObj _ hX hL hk rfl) rfl (fun X hX => ⟨⟨_, rfl⟩, .inl ⟨_, HE.out.symm, hX⟩⟩) Ls W1 HH.out.marks HJP.out
      · have HX3 := Lib.hid hx3
        clear hx3 hk3 hR hy
        gi_wp2
        exact marks_leave (lo := W.heap.size) (hi := W3.heap.size) (I := fun W' => Jx [T] W') (fun X L hX hL hk => HJX.out.putObj _ hX hL hk rfl) rfl (fun X hX => ⟨⟨_, rfl⟩, .inr ⟨_, by rw [HAL2.out]; exact ⟨_, rfl⟩, hX⟩⟩) [] W3 (MarksIn.nil _ _ _) HX3.out

end Go.Proofs.Ytcpiojliakgdlaa
