/- One node adopts another. -/
import Derived.Test.YtdbddockmdkmeaaDoorIx
namespace Go.Proofs.YtdbddockmdkmeaaDoor
open Go.RowKit

theorem own_ne {w : World} {base g n : Nat} {e t : TypeId} {v : Value} {xs : List Value} {cs : Array Value} (h : w.ownsRow base e 1 v n xs) (hr : Row w g t cs) (hne : e ≠ t) : v.ownBlock ≠ some g := by
  rcases h.2 with ⟨rfl, _⟩ | ⟨g', cap, cur, rfl, _, hh, _⟩
  · simp [Value.ownBlock]
  · intro he
    have : g' = g := by simpa [Value.ownBlock] using he
    subst this
    unfold Row at hr
    rw [hh] at hr
    injection hr with hr
    injection hr with _ ht
    exact hne ht
theorem own_keep {w w' : World} {base n : Nat} {e : TypeId} {v : Value} {xs : List Value} (h : w.ownsRow base e 1 v n xs) (hk : ∀ g, v.ownBlock = some g → w'.heap[g]? = w.heap[g]?) : w'.ownsRow base e 1 v n xs := by
  refine ⟨h.1, ?_⟩
  rcases h.2 with h0 | ⟨g', cap, cur, rfl, hg, hh, r⟩
  · exact .inl h0
  · exact .inr ⟨g', cap, cur, rfl, hg, (hk g' rfl).trans hh, r⟩
theorem own_set {w : World} {base g n : Nat} {e t : TypeId} {v : Value} {xs : List Value} {cs : Array Value} (h : w.ownsRow base e 1 v n xs) (hr : Row w g t cs) (hne : e ≠ t) (i : Nat) (u : Value) : (w.setCell ⟨g, i, none⟩ u).ownsRow base e 1 v n xs :=
  own_keep h fun k hk => Below.heap_setCell w _ u k (fun he => own_ne h hr hne (by rw [hk, he]))

/-- All blocks but those that 'may' names are as they were. -/
structure Only (w w' : World) (may : Nat → Prop) : Prop where
  os : w'.os = w.os
  tape : w'.tape = w.tape
  output : w'.output = w.output
  size : w.heap.size ≤ w'.heap.size
  block : ∀ k, k < w.heap.size → ¬ may k → w'.heap[k]? = w.heap[k]?

theorem Only.below {w0 w w' : World} {B : Nat} {may : Nat → Prop} (hb : Below B w0 w) (h : Only w w' may) (hB : B ≤ w.heap.size) (hm : ∀ k, k < B → ¬ may k) : Below B w0 w' :=
  hb.trans ⟨h.os, h.tape, h.output, h.size, fun k hk => h.block k (by omega) (hm k hk)⟩
theorem Only.row {w w' : World} {may : Nat → Prop} (h : Only w w' may) {g : Nat} {t : TypeId} {cs : Array Value} (hr : Row w g t cs) (hg : ¬ may g) : Row w' g t cs := (h.block g hr.lt hg).trans hr

def nodeCells (nm : ByteArray) (sz : Int) (pp : Option Addr) (cv : Value) : Array Value := #[.string nm, .int .i64 sz, .pointer pp, cv]
def ptrTo (b : Nat) : Value := .pointer (some ⟨b, 0, none⟩)

/-- What is behind 'p.adopt(c)'. -/
def Adopted (w : World) (B p c n : Nat) (nm nm' : ByteArray) (sz sz' : Int) (pp' : Option Addr) (cc cv : Value) (xs : List Value) (e : Ending) (w' : World) : Prop :=
  e = .returned (.tuple #[]) ∧ ∃ v', Row w' c 106 (nodeCells nm sz (some ⟨p, 0, none⟩) cc) ∧ Row w' p 106 (nodeCells nm' sz' pp' v') ∧
    w'.ownsRow B 57 1 v' (n + 1) (xs ++ [ptrTo c]) ∧ (v'.ownBlock = cv.ownBlock ∨ ∃ g, v'.ownBlock = some g ∧ w.heap.size ≤ g) ∧
    Only w w' (fun k => k = p ∨ k = c ∨ some k = cv.ownBlock)

theorem info_ptr : (Tryd.prog.info? 57).map (fun i => (i.zero, i.size, i.bytes)) = some (some (.pointer none), 1, 8) := by kernel_rfl

theorem adopt_end {w w1 : World} {B p c n : Nat} {nm nm' : ByteArray} {sz sz' : Int} {pp pp' : Option Addr} {cc cv v' : Value} {xs : List Value} {t : TypeId} {o : Obj}
    (hc : Row w c 106 (nodeCells nm sz pp cc)) (hp : Row w p 106 (nodeCells nm' sz' pp' cv)) (hpc : p ≠ c) (hcv : w.ownsRow B 57 1 cv n xs)
    (hown : w1.ownsRow B 57 1 v' (n + 1) (xs ++ [ptrTo c])) (hgrow : ((w.setCell ⟨c, 2, none⟩ (ptrTo p)).alloc o).grownBy w1 cv.ownBlock)
    (hat : v'.ownBlock = cv.ownBlock ∨ v'.ownBlock = some ((w.setCell ⟨c, 2, none⟩ (ptrTo p)).alloc o).heap.size) (_ht : t = t) :
    Adopted w B p c n nm nm' sz sz' pp' cc cv xs (.returned (.tuple #[])) (w1.setCell ⟨p, 3, none⟩ v') := by
  have hne1 : cv.ownBlock ≠ some c := own_ne hcv hc (by decide)
  have hne2 : cv.ownBlock ≠ some p := own_ne hcv hp (by decide)
  have hz : ((w.setCell ⟨c, 2, none⟩ (ptrTo p)).alloc o).heap.size = w.heap.size + 1 := by simp [World.setCell, World.alloc]
  have hc0 : Row (w.setCell ⟨c, 2, none⟩ (ptrTo p)) c 106 (nodeCells nm sz (some ⟨p, 0, none⟩) cc) := hc.put 2 _
  have hp0 : Row (w.setCell ⟨c, 2, none⟩ (ptrTo p)) p 106 (nodeCells nm' sz' pp' cv) := hp.far hpc _
  have hc1 : Row w1 c 106 (nodeCells nm sz (some ⟨p, 0, none⟩) cc) := (hgrow.block c (hc0.alloc o).lt (Ne.symm hne1)).trans (hc0.alloc o)
  have hp1 : Row w1 p 106 (nodeCells nm' sz' pp' cv) := (hgrow.block p (hp0.alloc o).lt (Ne.symm hne2)).trans (hp0.alloc o)
  refine ⟨rfl, v', hc1.far (Ne.symm hpc) _, hp1.put 3 v', own_set hown hp1 (by decide) 3 v', ?_, ?_⟩
  · rcases hat with h | h
    · exact .inl h
    · exact .inr ⟨_, h, by rw [hz]; omega⟩
  · refine ⟨hgrow.os, hgrow.tape, hgrow.output, ?_, fun k hk hm => ?_⟩
    · have := hgrow.size
      rw [hz] at this
      simp [World.setCell]
      omega
    · have h1 : k ≠ p := fun h => hm (.inl h)
      have h2 : k ≠ c := fun h => hm (.inr (.inl h))
      have h3 : some k ≠ cv.ownBlock := fun h => hm (.inr (.inr h))
      rw [Below.heap_setCell _ _ _ _ h1, hgrow.block k (by rw [hz]; omega) h3, Below.heap_alloc _ _ _ (by simpa [World.setCell] using hk), Below.heap_setCell _ _ _ _ h2]

theorem size_set (w : World) (a : Addr) (y : Value) : (w.setCell a y).heap.size = w.heap.size := by simp [World.setCell]
theorem cell_new_set (w : World) (a : Addr) (y x : Value) (t : TypeId) : ∀ j u, [x][j]? = some u → ((w.setCell a y).alloc (.cells #[x] t)).cell? ((⟨w.heap.size, 0, none⟩ : Addr).add j) = some u := by
  have h := cell_one_new (w.setCell a y) x t
  rw [size_set] at h
  exact h

theorem adopt_row {w w1 : World} {B p c n : Nat} {nm nm' : ByteArray} {sz sz' : Int} {pp pp' : Option Addr} {cc cv : Value} {xs : List Value} {o : Obj}
    (_hc : Row w c 106 (nodeCells nm sz pp cc)) (hp : Row w p 106 (nodeCells nm' sz' pp' cv)) (hpc : p ≠ c) (hcv : w.ownsRow B 57 1 cv n xs)
    (hgrow : ((w.setCell ⟨c, 2, none⟩ (ptrTo p)).alloc o).grownBy w1 cv.ownBlock) : Row w1 p 106 (nodeCells nm' sz' pp' cv) := by
  have hne2 : cv.ownBlock ≠ some p := own_ne hcv hp (by decide)
  have hp0 : Row (w.setCell ⟨c, 2, none⟩ (ptrTo p)) p 106 (nodeCells nm' sz' pp' cv) := hp.far hpc _
  exact (hgrow.block p (hp0.alloc o).lt (Ne.symm hne2)).trans (hp0.alloc o)

set_option maxRecDepth 100000 in
set_option maxHeartbeats 400000 in
theorem adopt_any (B p c n : Nat) (nm nm' : ByteArray) (sz sz' : Int) (pp pp' : Option Addr) (cc cv : Value) (xs : List Value) (w : World)
    (hc : Row w c 106 (nodeCells nm sz pp cc)) (hp : Row w p 106 (nodeCells nm' sz' pp' cv)) (hpc : p ≠ c) (hcv : w.ownsRow B 57 1 cv n xs) (hB : B ≤ w.heap.size) (hn : n ≤ 1000) :
    Calls Tryd.prog 99 #[.pointer (some ⟨p, 0, none⟩), .pointer (some ⟨c, 0, none⟩)] w (Adopted w B p c n nm nm' sz sz' pp' cc cv xs) := by
  obtain ⟨i0, hi0, hz0, hz1, hz2⟩ := info_parts info_ptr
  have I0 := Lib.hid hi0
  have Z0 := Lib.hid hz0
  have Z1 := Lib.hid hz1
  have Z2 := Lib.hid hz2
  clear hi0 hz0 hz1 hz2
  have e2 : w.cell? ⟨c, 2, none⟩ = some (.pointer pp) := hc.cell 2
  have e3 : w.cell? ⟨p, 3, none⟩ = some cv := hp.cell 3
  have f2 := hc.free 2
  have f3 := hp.free 3
  have HC := Lib.hid hc
  have HP := Lib.hid hp
  have HO := Lib.hid hcv
  have HE := Lib.hid hcv.2
  clear hc hp hcv
  have hl : ∃ A nn cc', cv = .slice A nn cc' := by
    rcases HE.out with ⟨rfl, _⟩ | ⟨g, cap, _, rfl, _⟩
    · exact ⟨_, _, _, rfl⟩
    · exact ⟨_, _, _, rfl⟩
  obtain ⟨A, nn, cc', rfl⟩ := hl
  clear HE
  go_enter Tryd.func99, Tryd.ntmps99
  go_wp2_with (at_builtin; go_must (refine wpList_append_own_at _ rfl _ _ 52 rfl B 57 i0 (.pointer none) 1 8 Tryd.underlying52 I0.out Z0.out Z1.out Z2.out rfl (by decide) _ n xs rfl ((own_set HO.out HC.out (by decide) _ _).alloc _) ⟨w.heap.size, 0, none⟩ 1 1 [ptrTo c] rfl rfl (cell_new_set _ _ _ _ _) (by simp [ptrTo, Value.oneCell']) (by simp [maxLen]; omega) (by omega) (by simp [World.setCell]; omega) ?_); intro v' w1 hown1 hgrow _ hat; obtain ⟨g', cap', rfl⟩ := own_form hown1 (by omega); have H1 := Lib.hid hown1; have H2 := Lib.hid hgrow; have H3 := Lib.hid hat; have hp1 := adopt_row HC.out HP.out hpc HO.out hgrow; have g3 := hp1.free 3; have g4 : w1.cell? ⟨p, 3, none⟩ = some (.slice A nn cc') := hp1.cell 3; clear hown1 hgrow hat hp1)
  go_end0
  exact adopt_end HC.out HP.out hpc HO.out H1.out H2.out H3.out (t := 0) rfl

end Go.Proofs.YtdbddockmdkmeaaDoor
