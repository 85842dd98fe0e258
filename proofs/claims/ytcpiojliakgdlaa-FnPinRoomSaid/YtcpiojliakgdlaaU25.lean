/- Joined: Ef. -/
import Derived.Test.YtcpiojliakgdlaaU24
/- The program's roomWith and PinRoom. -/
namespace Go.Proofs.Ytcpiojliakgdlaa
open Go.RowKit Go.Shelf
attribute [local go_sem] Oper.semAt_some

/-- What is known behind the loop of roomWith. -/
structure Fin10 (w w1 : World) (l : List Seg) (sz : Nat → Int) (g : Nat) (nb : Nat → Nat) (L : Nat) (s : Int) (X : World) : Prop where
  low : Below w.heap.size w X
  placed : Placed10 X l sz nb
  rowed : Rowed10 X l.length g nb
  lt : w1.heap.size + 1 < X.heap.size ∧ L < X.heap.size
  box : X.cell? ⟨w1.heap.size, 0, none⟩ = some (.slice (some ⟨g, 0, none⟩) l.length l.length)
  sum : X.cell? ⟨w1.heap.size + 1, 0, none⟩ = some (.int .i64 s)
  mark : X.heap[L]? = some (.deferred (some []))
theorem Fin10.below {w w1 X Y : World} {l : List Seg} {sz : Nat → Int} {g : Nat} {nb : Nat → Nat} {L : Nat} {s : Int} (h : Fin10 w w1 l sz g nb L s X) (hb : Below X.heap.size X Y) : Fin10 w w1 l sz g nb L s Y :=
  ⟨h.low.trans (hb.mono h.low.size), h.placed.below hb, h.rowed.below hb, by have := hb.size; have := h.lt; omega, (hb.cell (p := ⟨w1.heap.size, 0, none⟩) (by have := h.lt; show w1.heap.size < _; omega)).trans h.box, (hb.cell (p := ⟨w1.heap.size + 1, 0, none⟩) h.lt.1).trans h.sum, (hb.block L h.lt.2).trans h.mark⟩

theorem pins_fix10 {l : List Seg} (hv : validB l = true) {T : List Nat} (hT : Pins10 l T) : (∀ x, x < 8 → memF (0 :: T) x = true → fixR10 l x = x) ∧ selIx (memF (0 :: T)) 8 = 0 :: T ∧ (0 :: T).map (fixR10 l) = 0 :: T := by
  have h0 : 0 < l.length := by have := (valid_all hv).2.2; omega
  have h8 := (valid_all hv).2.1
  obtain ⟨h1, h2⟩ := hT.all h0
  have hfx : ∀ x ∈ 0 :: T, fixR10 l x = x := fun x hx => if_pos (h2 x hx)
  refine ⟨fun x _ hx => hfx x (of_decide_eq_true hx), ?_, ?_⟩
  · exact sel_mem h1 (fun j hj => by have := h2 j hj; omega)
  · rw [List.map_congr_left hfx]
    exact List.map_id' _

set_option maxRecDepth 100000 in
set_option maxHeartbeats 8000000 in
theorem roomWith_any (A : Option Addr) (l : List Seg) (c : Nat) (T : List Nat) (w : World) (hw : Segs w w.heap.size A l) (hl : l.length ≤ 1048576) (hlc : l.length ≤ c) (hcm : c ≤ 9223372036854775807) (hn : Short l) (hv : validB l = true) (hT : Pins10 l T) :
    Calls Try.prog 93 #[.slice A l.length c, .int .u64 (setF (memF (0 :: T)) : Int)] w fun e w' => e = .returned (.int .i64 (room10 l T)) ∧ Below w.heap.size w w' := by
  have h8 := (valid_all hv).2.1
  have hpos : 0 < l.length := by have := (valid_all hv).2.2; omega
  have HW : Hid (Segs w w.heap.size A l) := hw
  have HV := Lib.hid hv
  have HNO := Lib.hid (fun W h => nodesOf_any A l c W h hl hlc hcm hn hv)
  unfold NodesPost at HNO
  obtain ⟨hfx, hsel, hmap⟩ := pins_fix10 hv hT
  have hsm : Small10 l (szZ10 l (memF (0 :: T))) := szZ10_bd hv _
  have HFO := Lib.hid (fun g nb W h1 h2 => fold10_any g l (szZ10 l (memF (0 :: T))) nb W h1 h2 hv hsm)
  have hlast := lastZ10_le l (szZ10 l (memF (0 :: T))) (l.length - 1)
  have hlast2 : lastZ10 l (szZ10 l (memF (0 :: T))) (l.length - 1) < l.length := by omega
  have HPL := Lib.hid (fun nb W h => place10_any l (szZ10 l (memF (0 :: T))) nb hv hsm _ hlast2 W h)
  have hres : keptR10 l [] (0 :: T) + enZ10 l (szZ10 l (memF (0 :: T))) (lastZ10 l (szZ10 l (memF (0 :: T))) (l.length - 1)) = room10 l T := by
    rw [lastZ10_room hv T (l.length - 1) (by omega), keptR10_all l _ [] (hT.all hpos).1 (fun _ _ h => by cases h), show l.length - 1 + 1 = l.length by omega]
    show sizeAt l 0 + szs l T + deep10 l T l.length = room10 l T
    rfl
  have HRES := Lib.hid hres
  obtain ⟨b1, b2, b3, b4⟩ := room10_bd hv hT
  obtain ⟨e1, e2⟩ := enZ10_small hv hsm hlast2
  have HSX : Hid ((selIx (memF (0 :: T)) 8).map (fixR10 l) = 0 :: T) := by
    show _ = _
    rw [hsel, hmap]
  clear hw hn hv hT hsel hmap hsm hlast hres
  generalize hz10 : szZ10 l (memF (0 :: T)) = sz at *
  have HZ10 := Lib.hid hz10
  clear hz10
  generalize hkt : keptR10 l [] (0 :: T) = kt at *
  have HKT := Lib.hid hkt
  clear hkt
  generalize hft : memF (0 :: T) = f at *
  have HFT := Lib.hid hft
  clear hft
  generalize enZ10 l sz (lastZ10 l sz (l.length - 1)) = en at *
  generalize lastZ10 l sz (l.length - 1) = il at *
  refine (callsIn_wide (n := 20)).1 ?_
  refine callsIn_of_wp_marks Try.func93 rfl trivial ?_ rfl
  simp only [Try.ntmps93, List.size_toArray, List.length_cons, List.length_nil, Nat.reduceAdd, Nat.reduceSub, Array.replicate_succ, Array.replicate_zero, List.push_toArray, List.append_toArray, List.nil_append, List.cons_append]
  gi_wp2_with fail
  refine ⟨trivial, ?_⟩
  gi_at_call 61
  refine (callsIn_wide.2 (HNO.out _ HW.out)).mono ?_
  rintro e w1 ⟨g, nb, cv, rfl, hN, hb1⟩
  have HAT := Lib.hid (hN.at10 hb1.size)
  have HN := Lib.hid hN
  have HB1 := Lib.hid hb1
  clear hN hb1 HNO
  gi_wp2_with fail
  refine ⟨trivial, ?_⟩
  gi_at_call 132
  refine (callsIn_wide.2 (indices10_any _ _)).mono ?_
  rintro e w5 ⟨rfl, rfl⟩
  gi_wp2
  simp only [Nat.add_assoc, Nat.reduceAdd]
  have hr0 : Row (((w1.alloc (.cells #[.slice (some ⟨g, 0, none⟩) l.length l.length] 61)).alloc (.cells #[.int .i64 0] 3)).alloc (.cells #[.int .u64 (setF f : Int)] 113)) w1.heap.size 61 #[.slice (some ⟨g, 0, none⟩) l.length l.length] := ((Row.new w1 _ _).alloc _).alloc _
  have hr1 : Row (((w1.alloc (.cells #[.slice (some ⟨g, 0, none⟩) l.length l.length] 61)).alloc (.cells #[.int .i64 0] 3)).alloc (.cells #[.int .u64 (setF f : Int)] 113)) (w1.heap.size + 1) 3 #[.int .i64 0] := by
    have h1 := Row.new (w1.alloc (.cells #[.slice (some ⟨g, 0, none⟩) l.length l.length] 61)) 3 #[.int .i64 0]
    rw [World.size_alloc] at h1
    exact h1.alloc _
  have hr2 : Row (((w1.alloc (.cells #[.slice (some ⟨g, 0, none⟩) l.length l.length] 61)).alloc (.cells #[.int .i64 0] 3)).alloc (.cells #[.int .u64 (setF f : Int)] 113)) (w1.heap.size + 2) 113 #[.int .u64 (setF f : Int)] := by
    have h1 := Row.new ((w1.alloc (.cells #[.slice (some ⟨g, 0, none⟩) l.length l.length] 61)).alloc (.cells #[.int .i64 0] 3)) 113 #[.int .u64 (setF f : Int)]
    rw [World.size_alloc, World.size_alloc] at h1
    exact h1
  have hlow : Below w1.heap.size w1 (((w1.alloc (.cells #[.slice (some ⟨g, 0, none⟩) l.length l.length] 61)).alloc (.cells #[.int .i64 0] 3)).alloc (.cells #[.int .u64 (setF f : Int)] 113)) := (((Below.refl _ w1).alloc (Nat.le_refl _) _).alloc (by simp) _).alloc (by simp; omega) _
  have hz : (((w1.alloc (.cells #[.slice (some ⟨g, 0, none⟩) l.length l.length] 61)).alloc (.cells #[.int .i64 0] 3)).alloc (.cells #[.int .u64 (setF f : Int)] 113)).heap.size = w1.heap.size + 3 := by simp
  generalize (((w1.alloc (.cells #[.slice (some ⟨g, 0, none⟩) l.length l.length] 61)).alloc (.cells #[.int .i64 0] 3)).alloc (.cells #[.int .u64 (setF f : Int)] 113)) = W3 at *
  have hw1 := HB1.out.size
  have hZ0 : Zed10 w w1 l g nb cv [] W3 := by
    obtain ⟨cs, hrow, -, hci⟩ := HN.out.row
    refine ⟨HB1.out.trans (hlow.mono hw1), by omega, ⟨cs, hrow.below hlow hrow.lt, hci⟩, fun j s hj => ?_, hr0, hr1⟩
    have h1 := HN.out.node j s (List.getElem?_eq_some_iff.1 hj).1 hj
    have h2 : szZ10 l (memF []) j = s.size := by
      show (if memF [] j = true then (0 : Int) else sizeAt l j) = s.size
      rw [if_neg (by unfold memF; simp)]
      unfold sizeAt
      rw [hj]
    rw [h2]
    exact h1.below hlow h1.lt
  have HZ0 := Lib.hid hZ0
  clear hZ0 hr0 hr1 hlow
  have hmx : Try.prog.follows .mixedOrders = true := by kernel_rfl
  have hseq := indices1_seq w.heap.size (w1.heap.size + 2) (fixR10 l) f hfx 8 19 (w1.heap.size + 2) W3 (by omega) ⟨.inr (Nat.le_refl _), hr2⟩ (Nat.le_refl _)
  refine wpIn_rangeFunc_M (by omega) (gf := 151) (lb := #[.pointer (some ⟨w1.heap.size + 2, 0, none⟩)]) rfl (enters_of Try.func151 (by kernel_rfl) rfl) hseq (by omega) (by omega) (Below.refl _ _) (fun _ => rfl)
    (fun xs X => Zed10 w w1 l g nb cv (xs.map (fixR10 l)) X)
    (fun _ _ _ => False)
    (fun xs X Y hs hb => hs.below HAT.out hb (by omega))
    (fun _ _ _ _ hs _ => hs)
    HZ0.out
    (fun x => { tmps := #[.slice A l.length c, .int .u64 (setF f : Int), undef, undef, .int .i64 0, .pointer (some ⟨w1.heap.size, 0, none⟩), .pointer (some ⟨w1.heap.size + 1, 0, none⟩), .int .i64 (fixR10 l x : Nat), .slice A l.length c, .slice (some ⟨g, 0, none⟩) l.length l.length, .int .u64 (setF f : Int), .func (.func 151) #[] #[.pointer (some ⟨w1.heap.size + 2, 0, none⟩)], .int .i64 (fixR10 l x : Nat), undef, undef, undef, undef, undef, undef, undef, undef, undef, undef, undef, undef, undef, undef, undef, undef, undef, undef, undef, undef, undef], defers := [] }) ?assign ?body ?done ?stop
  case assign =>
    intro l2 x X K hK
    gi_wp2
    exact hK
  case body =>
    clear HZ0 HRES HFO HPL HSX HKT HZ10 HFT hr2 e1 e2 b1 b2 b3 b4 HN HW
    rintro l2 xs x X hZ hlen hzX
    have hi := fixR10_lt hpos x
    have HX : Hid ((xs ++ [x]).map (fixR10 l) = xs.map (fixR10 l) ++ [fixR10 l x]) := by
      show _ = _
      rw [List.map_append]
      rfl
    have hsb := keptR10_bd HV.out (xs.map (fixR10 l)) [] (fun j hj => by
      obtain ⟨y, _, rfl⟩ := List.mem_map.1 hj
      exact fixR10_lt hpos y)
    rw [List.length_map] at hsb
    have hsa := szZ10_bd HV.out (memF (xs.map (fixR10 l))) _ hi
    have HZX := Lib.hid (hZ.below HAT.out (B := X.heap.size) ((Below.refl _ X).drew) (by omega))
    clear hZ
    generalize xs.map (fixR10 l) = ys at *
    generalize hix : fixR10 l x = i at *
    clear hix
    obtain ⟨cs, hrow, hci⟩ := HZX.out.row
    have hnode := HZX.out.node i _ (List.getElem?_eq_getElem hi)
    have cG : X.cell? ⟨g, i, none⟩ = some (.pointer (some ⟨nb i, 0, none⟩)) := (hrow.cell i).trans (hci i hi)
    have cN : X.cell? ⟨nb i, 1, none⟩ = some (.int .i64 (szZ10 l (memF ys) i)) := hnode.cell 1
    have c5 : X.cell? ⟨w1.heap.size, 0, none⟩ = some (.slice (some ⟨g, 0, none⟩) l.length l.length) := HZX.out.box.cell 0
    have c6 : X.cell? ⟨w1.heap.size + 1, 0, none⟩ = some (.int .i64 (keptR10 l [] ys)) := HZX.out.sum.cell 0
    have z6 : X.frozen? ⟨w1.heap.size + 1, 0, none⟩ = false := HZX.out.sum.free 0
    have HZ : Hid (∀ Z, Z = (X.setCell ⟨w1.heap.size + 1, 0, none⟩ (.int .i64 (keptR10 l [] ys + szZ10 l (memF ys) i))).drew → Z.cell? ⟨w1.heap.size, 0, none⟩ = some (.slice (some ⟨g, 0, none⟩) l.length l.length) ∧ Z.cell? ⟨g, i, none⟩ = some (.pointer (some ⟨nb i, 0, none⟩)) ∧ Z.cell? ⟨nb i, 1, none⟩ = some (.int .i64 (szZ10 l (memF ys) i)) ∧ Z.frozen? ⟨nb i, 1, none⟩ = false ∧
        ∀ u, postM W3.heap.size w.heap.size (w1.heap.size + 2) (fun xs X => Zed10 w w1 l g nb cv (xs.map (fixR10 l)) X) (fun _ _ _ => False) (xs ++ [x]) X .normal u (Z.setCell ⟨nb i, 1, none⟩ (.int .i64 0))) := by
      rintro Z rfl
      rw [show (X.setCell ⟨w1.heap.size + 1, 0, none⟩ (.int .i64 (keptR10 l [] ys + szZ10 l (memF ys) i))).drew = X.drew.setCell ⟨w1.heap.size + 1, 0, none⟩ (.int .i64 (keptR10 l [] ys + szZ10 l (memF ys) i)) from rfl]
      have a1 := HAT.out.hi.1
      have a2 := HAT.out.hi.2 i hi
      have a3 := HAT.out.lo.2 i hi
      have r1 := (hrow.far (p := ⟨w1.heap.size + 1, 0, none⟩) (by show g ≠ w1.heap.size + 1; omega) (.int .i64 (keptR10 l [] ys + szZ10 l (memF ys) i)))
      have r2 := (hnode.far (p := ⟨w1.heap.size + 1, 0, none⟩) (by show nb i ≠ w1.heap.size + 1; omega) (.int .i64 (keptR10 l [] ys + szZ10 l (memF ys) i)))
      have r3 := (HZX.out.box.far (p := ⟨w1.heap.size + 1, 0, none⟩) (by show w1.heap.size ≠ w1.heap.size + 1; omega) (.int .i64 (keptR10 l [] ys + szZ10 l (memF ys) i)))
      refine ⟨r3.cell 0, (r1.cell i).trans (hci i hi), r2.cell 1, r2.free 1, fun u => ⟨?_, ?_, ?_⟩⟩
      · rw [Nat.min_eq_right (by omega)]
        refine ⟨by simp [World.setCell], fun q o hq ho => ?_⟩
        exact (Below.heap_setCell _ _ _ q (by show q ≠ nb i; omega)).trans ((Below.heap_setCell X.drew _ _ q (by show q ≠ w1.heap.size + 1; omega)).trans ho)
      · exact (((Below.refl _ X).drew).setCell (by show _ ≤ w1.heap.size + 1; omega) _).setCell (by show _ ≤ nb i; exact a3) _
      · show Zed10 w w1 l g nb cv ((xs ++ [x]).map (fixR10 l)) _
        rw [HX.out]
        exact HZX.out.step HAT.out hi
    clear HX hrow hci hnode hseq hfx HZX HV
    obtain ⟨s2, hs2⟩ : ∃ s2 : Int, s2 = keptR10 l [] ys + szZ10 l (memF ys) i := ⟨_, rfl⟩
    rw [← hs2] at HZ
    have hw2 : IntKind.i64.wrap (keptR10 l [] ys + szZ10 l (memF ys) i) = s2 := (IntWalk.i64_in _ (by omega)).trans hs2.symm
    have hi' : (i : Int) < (l.length : Int) := by omega
    have hi0 : (0 : Int) ≤ (i : Int) := Int.natCast_nonneg _
    clear hs2
    generalize keptR10 l [] ys = s1 at *
    generalize szZ10 l (memF ys) i = szi at *
    gi_wp2_with fail
    refine wpIn_region_any (by assumption) ?_
    refine any_round rfl l2 (by kernel_rfl) _ _ _ _ ?_
    change wpAnyIn _ _ _ _ _ _ _ _ _ X.drew
    refine wpAnyIn_take (i := 2) (v := .int .i64 (i : Nat)) rfl rfl (by kernel_rfl) (by kernel_rfl) (by kernel_rfl) (fun _ _ _ h => h) ⟨Or.inl ⟨by rfl, by intro w; go_simp⟩, fun _ => rfl⟩ ?_
    refine wpAnyIn_ready (rs := [0, 1]) (by kernel_rfl) (by simp) ?_
    refine AllReadyIn.cons rfl (fun K hK => ?_) (AllReadyIn.cons rfl (fun K hK => ?_) AllReadyIn.nil)
    ·
      go_simp
      refine hK _ _ ?_
      clear hK K
      refine wpAnyIn_ready (rs := [1]) (by kernel_rfl) (by simp) ?_
      refine AllReadyIn.cons rfl (fun K hK => ?_) AllReadyIn.nil
      go_simp
      refine hK _ _ ?_
      clear hK K
      refine wpAnyIn_take (i := 3) (v := .pointer (some ⟨g, i, none⟩)) rfl rfl (by kernel_rfl) (by kernel_rfl) (by kernel_rfl) (fun _ _ _ h => h) ⟨Or.inl ⟨by rfl, by intro w; go_simp⟩, fun _ => rfl⟩ ?_
      refine wpAnyIn_ready (rs := [4]) (by kernel_rfl) (by simp) ?_
      refine AllReadyIn.cons rfl (fun K hK => ?_) AllReadyIn.nil
      go_simp
      refine hK _ _ ?_
      clear hK K
      refine wpAnyIn_take (i := 5) (v := .pointer (some ⟨nb i, 0, none⟩)) rfl rfl (by kernel_rfl) (by kernel_rfl) (by kernel_rfl) (fun _ _ _ h => h) ⟨Or.inl ⟨by rfl, by intro w; go_simp⟩, fun _ => rfl⟩ ?_
      refine wpAnyIn_take (i := 6) (v := .pointer (some ⟨nb i, 1, none⟩)) rfl rfl (by kernel_rfl) (by kernel_rfl) (by kernel_rfl) (fun _ _ _ h => h) ⟨Or.inl ⟨by rfl, by intro w; go_simp⟩, fun _ => rfl⟩ ?_
      refine wpAnyIn_ready (rs := [7]) (by kernel_rfl) (by simp) ?_
      refine AllReadyIn.cons rfl (fun K hK => ?_) AllReadyIn.nil
      go_simp
      refine hK _ _ ?_
      clear hK K
      refine wpAnyIn_take (i := 8) (v := .int .i64 s2) rfl rfl (by kernel_rfl) (by kernel_rfl) (by kernel_rfl) (fun _ _ _ h => h) ⟨Or.inl ⟨by rfl, by intro w; go_simp⟩, fun _ => rfl⟩ ?_
      refine wpAnyIn_ready (rs := [9]) (by kernel_rfl) (by simp) ?_
      refine AllReadyIn.cons rfl (fun K hK => ?_) AllReadyIn.nil
      go_simp
      refine hK _ _ ?_
      clear hK K
      refine wpAnyIn_done (by kernel_rfl) ?_ _
      obtain ⟨d1, d2, d3, d4, d5⟩ := HZ.out _ rfl
      have HD5 := Lib.hid d5
      clear HZ d5 c5 c6 cG cN z6
      generalize (X.setCell ⟨w1.heap.size + 1, 0, none⟩ (.int .i64 s2)).drew = Z at *
      gi_wp2
      exact HD5.out _
    ·
      go_simp
      refine hK _ _ ?_
      clear hK K
      refine wpAnyIn_take (i := 3) (v := .pointer (some ⟨g, i, none⟩)) rfl rfl (by kernel_rfl) (by kernel_rfl) (by kernel_rfl) (fun _ _ _ h => h) ⟨Or.inl ⟨by rfl, by intro w; go_simp⟩, fun _ => rfl⟩ ?_
      refine wpAnyIn_ready (rs := [0, 4]) (by kernel_rfl) (by simp) ?_
      refine AllReadyIn.cons rfl (fun K hK => ?_) (AllReadyIn.cons rfl (fun K hK => ?_) AllReadyIn.nil)
      ·
        go_simp
        refine hK _ _ ?_
        clear hK K
        refine wpAnyIn_ready (rs := [4]) (by kernel_rfl) (by simp) ?_
        refine AllReadyIn.cons rfl (fun K hK => ?_) AllReadyIn.nil
        go_simp
        refine hK _ _ ?_
        clear hK K
        refine wpAnyIn_take (i := 5) (v := .pointer (some ⟨nb i, 0, none⟩)) rfl rfl (by kernel_rfl) (by kernel_rfl) (by kernel_rfl) (fun _ _ _ h => h) ⟨Or.inl ⟨by rfl, by intro w; go_simp⟩, fun _ => rfl⟩ ?_
        refine wpAnyIn_take (i := 6) (v := .pointer (some ⟨nb i, 1, none⟩)) rfl rfl (by kernel_rfl) (by kernel_rfl) (by kernel_rfl) (fun _ _ _ h => h) ⟨Or.inl ⟨by rfl, by intro w; go_simp⟩, fun _ => rfl⟩ ?_
        refine wpAnyIn_ready (rs := [7]) (by kernel_rfl) (by simp) ?_
        refine AllReadyIn.cons rfl (fun K hK => ?_) AllReadyIn.nil
        go_simp
        refine hK _ _ ?_
        clear hK K
        refine wpAnyIn_take (i := 8) (v := .int .i64 s2) rfl rfl (by kernel_rfl) (by kernel_rfl) (by kernel_rfl) (fun _ _ _ h => h) ⟨Or.inl ⟨by rfl, by intro w; go_simp⟩, fun _ => rfl⟩ ?_
        refine wpAnyIn_ready (rs := [9]) (by kernel_rfl) (by simp) ?_
        refine AllReadyIn.cons rfl (fun K hK => ?_) AllReadyIn.nil
        go_simp
        refine hK _ _ ?_
        clear hK K
        refine wpAnyIn_done (by kernel_rfl) ?_ _
        obtain ⟨d1, d2, d3, d4, d5⟩ := HZ.out _ rfl
        have HD5 := Lib.hid d5
        clear HZ d5 c5 c6 cG cN z6
        generalize (X.setCell ⟨w1.heap.size + 1, 0, none⟩ (.int .i64 s2)).drew = Z at *
        gi_wp2
        exact HD5.out _
      ·
        go_simp
        refine hK _ _ ?_
        clear hK K
        refine wpAnyIn_take (i := 5) (v := .pointer (some ⟨nb i, 0, none⟩)) rfl rfl (by kernel_rfl) (by kernel_rfl) (by kernel_rfl) (fun _ _ _ h => h) ⟨Or.inl ⟨by rfl, by intro w; go_simp⟩, fun _ => rfl⟩ ?_
        refine wpAnyIn_take (i := 6) (v := .pointer (some ⟨nb i, 1, none⟩)) rfl rfl (by kernel_rfl) (by kernel_rfl) (by kernel_rfl) (fun _ _ _ h => h) ⟨Or.inl ⟨by rfl, by intro w; go_simp⟩, fun _ => rfl⟩ ?_
        refine wpAnyIn_ready (rs := [0, 7]) (by kernel_rfl) (by simp) ?_
        refine AllReadyIn.cons rfl (fun K hK => ?_) (AllReadyIn.cons rfl (fun K hK => ?_) AllReadyIn.nil)
        ·
          go_simp
          refine hK _ _ ?_
          clear hK K
          refine wpAnyIn_ready (rs := [7]) (by kernel_rfl) (by simp) ?_
          refine AllReadyIn.cons rfl (fun K hK => ?_) AllReadyIn.nil
          go_simp
          refine hK _ _ ?_
          clear hK K
          refine wpAnyIn_take (i := 8) (v := .int .i64 s2) rfl rfl (by kernel_rfl) (by kernel_rfl) (by kernel_rfl) (fun _ _ _ h => h) ⟨Or.inl ⟨by rfl, by intro w; go_simp⟩, fun _ => rfl⟩ ?_
          refine wpAnyIn_ready (rs := [9]) (by kernel_rfl) (by simp) ?_
          refine AllReadyIn.cons rfl (fun K hK => ?_) AllReadyIn.nil
          go_simp
          refine hK _ _ ?_
          clear hK K
          refine wpAnyIn_done (by kernel_rfl) ?_ _
          obtain ⟨d1, d2, d3, d4, d5⟩ := HZ.out _ rfl
          have HD5 := Lib.hid d5
          clear HZ d5 c5 c6 cG cN z6
          generalize (X.setCell ⟨w1.heap.size + 1, 0, none⟩ (.int .i64 s2)).drew = Z at *
          gi_wp2
          exact HD5.out _
        ·
          go_simp
          refine hK _ _ ?_
          clear hK K
          refine wpAnyIn_ready (rs := [0]) (by kernel_rfl) (by simp) ?_
          refine AllReadyIn.cons rfl (fun K hK => ?_) AllReadyIn.nil
          go_simp
          refine hK _ _ ?_
          clear hK K
          refine wpAnyIn_take (i := 8) (v := .int .i64 s2) rfl rfl (by kernel_rfl) (by kernel_rfl) (by kernel_rfl) (fun _ _ _ h => h) ⟨Or.inl ⟨by rfl, by intro w; go_simp⟩, fun _ => rfl⟩ ?_
          refine wpAnyIn_ready (rs := [9]) (by kernel_rfl) (by simp) ?_
          refine AllReadyIn.cons rfl (fun K hK => ?_) AllReadyIn.nil
          go_simp
          refine hK _ _ ?_
          clear hK K
          refine wpAnyIn_done (by kernel_rfl) ?_ _
          obtain ⟨d1, d2, d3, d4, d5⟩ := HZ.out _ rfl
          have HD5 := Lib.hid d5
          clear HZ d5 c5 c6 cG cN z6
          generalize (X.setCell ⟨w1.heap.size + 1, 0, none⟩ (.int .i64 s2)).drew = Z at *
          gi_wp2
          exact HD5.out _
  case done =>
    clear HZ0
    rintro L ys X hL rfl hZ hK
    rw [HSX.out] at hZ
    have hsum := hZ.sum.cell 0
    rw [HKT.out] at hsum
    have hpl := hZ.placed
    rw [HFT.out, HZ10.out] at hpl
    have hF : Fin10 w w1 l sz g nb L kt X := ⟨hZ.low, hpl, hZ.rowed, by have := hZ.size; have := (Array.getElem?_eq_some_iff.1 hK).1; omega, hZ.box.cell 0, hsum, hK⟩
    have HF : Hid (Fin10 w w1 l sz g nb L kt X.drew) := hF.below ((Below.refl _ X).drew)
    have HLo : Hid (w.heap.size ≤ L) := Nat.le_trans (by omega) hL
    have hwr : IntKind.i64.wrap (kt + en) = kt + en := IntWalk.i64_in _ (by have := HRES.out; omega)
    have hfl := run_end10
    clear hZ hsum hpl hF hK hseq hfx HN HW HV HSX HKT HFT HZ10 HAT HB1 hr2
    gi_wp2_with fail
    refine wpIn_region_any (by assumption) ?_
    refine wpAnyIn_ready (rs := [0, 1]) (by kernel_rfl) (by simp) ?_
    refine AllReadyIn.cons rfl (fun K hK => ?_) (AllReadyIn.cons rfl (fun K hK => ?_) AllReadyIn.nil)
    ·
      have cc := HF.out.sum
      go_simp
      refine hK _ _ ?_
      clear hK K cc
      refine wpAnyIn_ready (rs := [1]) (by kernel_rfl) (by simp) ?_
      refine AllReadyIn.cons rfl (fun K hK => ?_) AllReadyIn.nil
      have cc := HF.out.box
      go_simp
      refine hK _ _ ?_
      clear hK K cc
      refine wpAnyIn_ready (rs := [2]) (by kernel_rfl) (by simp) ?_
      refine AllReadyIn.cons rfl (fun K hK => ?_) AllReadyIn.nil
      go_simp
      refine ⟨trivial, ?_⟩
      gi_at_call 89
      refine (callsIn_wide.2 (HFO.out g nb _ HF.out.placed HF.out.rowed)).mono ?_
      rintro e w4 ⟨rfl, hb⟩
      have HF4 := Lib.hid (HF.out.below hb)
      clear hb
      refine hK _ _ ?_
      clear hK K
      refine wpAnyIn_ready (rs := [3]) (by kernel_rfl) (by simp) ?_
      refine AllReadyIn.cons rfl (fun K hK => ?_) AllReadyIn.nil
      go_simp
      refine ⟨trivial, ?_⟩
      gi_at_call 74
      refine (callsIn_wide.2 (HPL.out nb _ HF4.out.placed)).mono ?_
      rintro e w5 ⟨rfl, hb⟩
      have HF5 := Lib.hid (HF4.out.below hb)
      clear hb
      refine hK _ _ ?_
      clear hK K
      refine wpAnyIn_ready (rs := [4]) (by kernel_rfl) (by simp) ?_
      refine AllReadyIn.cons rfl (fun K hK => ?_) AllReadyIn.nil
      go_simp
      refine hK _ _ ?_
      clear hK K
      refine wpAnyIn_ready (rs := [5]) (by kernel_rfl) (by simp) ?_
      refine AllReadyIn.cons rfl (fun K hK => ?_) AllReadyIn.nil
      go_simp
      refine hK _ _ ?_
      clear hK K
      refine wpAnyIn_ready (rs := [6]) (by kernel_rfl) (by simp) ?_
      refine AllReadyIn.cons rfl (fun K hK => ?_) AllReadyIn.nil
      go_simp
      refine hK _ _ ?_
      clear hK K
      refine wpAnyIn_done (by kernel_rfl) ?_ _
      have hmk := HF5.out.mark
      have hsz := HF5.out.lt
      gi_wp2
      refine ⟨by simp, .inl ⟨_, _, rfl, run_takeDeferred hmk, ?_⟩⟩
      refine ⟨_, results_tmp rfl _ _ _, ?_, HF5.out.low.trans (put_low _ _ (by have := HLo.out; omega) (by have := HF5.out.low.size; omega))⟩
      exact congrArg (fun z => Ending.returned (.int .i64 z)) HRES.out
    ·
      have cc := HF.out.box
      go_simp
      refine hK _ _ ?_
      clear hK K cc
      refine wpAnyIn_ready (rs := [0, 2]) (by kernel_rfl) (by simp) ?_
      refine AllReadyIn.cons rfl (fun K hK => ?_) (AllReadyIn.cons rfl (fun K hK => ?_) AllReadyIn.nil)
      ·
        have cc := HF.out.sum
        go_simp
        refine hK _ _ ?_
        clear hK K cc
        refine wpAnyIn_ready (rs := [2]) (by kernel_rfl) (by simp) ?_
        refine AllReadyIn.cons rfl (fun K hK => ?_) AllReadyIn.nil
        go_simp
        refine ⟨trivial, ?_⟩
        gi_at_call 89
        refine (callsIn_wide.2 (HFO.out g nb _ HF.out.placed HF.out.rowed)).mono ?_
        rintro e w4 ⟨rfl, hb⟩
        have HF4 := Lib.hid (HF.out.below hb)
        clear hb
        refine hK _ _ ?_
        clear hK K
        refine wpAnyIn_ready (rs := [3]) (by kernel_rfl) (by simp) ?_
        refine AllReadyIn.cons rfl (fun K hK => ?_) AllReadyIn.nil
        go_simp
        refine ⟨trivial, ?_⟩
        gi_at_call 74
        refine (callsIn_wide.2 (HPL.out nb _ HF4.out.placed)).mono ?_
        rintro e w5 ⟨rfl, hb⟩
        have HF5 := Lib.hid (HF4.out.below hb)
        clear hb
        refine hK _ _ ?_
        clear hK K
        refine wpAnyIn_ready (rs := [4]) (by kernel_rfl) (by simp) ?_
        refine AllReadyIn.cons rfl (fun K hK => ?_) AllReadyIn.nil
        go_simp
        refine hK _ _ ?_
        clear hK K
        refine wpAnyIn_ready (rs := [5]) (by kernel_rfl) (by simp) ?_
        refine AllReadyIn.cons rfl (fun K hK => ?_) AllReadyIn.nil
        go_simp
        refine hK _ _ ?_
        clear hK K
        refine wpAnyIn_ready (rs := [6]) (by kernel_rfl) (by simp) ?_
        refine AllReadyIn.cons rfl (fun K hK => ?_) AllReadyIn.nil
        go_simp
        refine hK _ _ ?_
        clear hK K
        refine wpAnyIn_done (by kernel_rfl) ?_ _
        have hmk := HF5.out.mark
        have hsz := HF5.out.lt
        gi_wp2
        refine ⟨by simp, .inl ⟨_, _, rfl, run_takeDeferred hmk, ?_⟩⟩
        refine ⟨_, results_tmp rfl _ _ _, ?_, HF5.out.low.trans (put_low _ _ (by have := HLo.out; omega) (by have := HF5.out.low.size; omega))⟩
        exact congrArg (fun z => Ending.returned (.int .i64 z)) HRES.out
      ·
        go_simp
        refine ⟨trivial, ?_⟩
        gi_at_call 89
        refine (callsIn_wide.2 (HFO.out g nb _ HF.out.placed HF.out.rowed)).mono ?_
        rintro e w4 ⟨rfl, hb⟩
        have HF4 := Lib.hid (HF.out.below hb)
        clear hb
        refine hK _ _ ?_
        clear hK K
        refine wpAnyIn_ready (rs := [0, 3]) (by kernel_rfl) (by simp) ?_
        refine AllReadyIn.cons rfl (fun K hK => ?_) (AllReadyIn.cons rfl (fun K hK => ?_) AllReadyIn.nil)
        ·
          have cc := HF4.out.sum
          go_simp
          refine hK _ _ ?_
          clear hK K cc
          refine wpAnyIn_ready (rs := [3]) (by kernel_rfl) (by simp) ?_
          refine AllReadyIn.cons rfl (fun K hK => ?_) AllReadyIn.nil
          go_simp
          refine ⟨trivial, ?_⟩
          gi_at_call 74
          refine (callsIn_wide.2 (HPL.out nb _ HF4.out.placed)).mono ?_
          rintro e w5 ⟨rfl, hb⟩
          have HF5 := Lib.hid (HF4.out.below hb)
          clear hb
          refine hK _ _ ?_
          clear hK K
          refine wpAnyIn_ready (rs := [4]) (by kernel_rfl) (by simp) ?_
          refine AllReadyIn.cons rfl (fun K hK => ?_) AllReadyIn.nil
          go_simp
          refine hK _ _ ?_
          clear hK K
          refine wpAnyIn_ready (rs := [5]) (by kernel_rfl) (by simp) ?_
          refine AllReadyIn.cons rfl (fun K hK => ?_) AllReadyIn.nil
          go_simp
          refine hK _ _ ?_
          clear hK K
          refine wpAnyIn_ready (rs := [6]) (by kernel_rfl) (by simp) ?_
          refine AllReadyIn.cons rfl (fun K hK => ?_) AllReadyIn.nil
          go_simp
          refine hK _ _ ?_
          clear hK K
          refine wpAnyIn_done (by kernel_rfl) ?_ _
          have hmk := HF5.out.mark
          have hsz := HF5.out.lt
          gi_wp2
          refine ⟨by simp, .inl ⟨_, _, rfl, run_takeDeferred hmk, ?_⟩⟩
          refine ⟨_, results_tmp rfl _ _ _, ?_, HF5.out.low.trans (put_low _ _ (by have := HLo.out; omega) (by have := HF5.out.low.size; omega))⟩
          exact congrArg (fun z => Ending.returned (.int .i64 z)) HRES.out
        ·
          go_simp
          refine ⟨trivial, ?_⟩
          gi_at_call 74
          refine (callsIn_wide.2 (HPL.out nb _ HF4.out.placed)).mono ?_
          rintro e w5 ⟨rfl, hb⟩
          have HF5 := Lib.hid (HF4.out.below hb)
          clear hb
          refine hK _ _ ?_
          clear hK K
          refine wpAnyIn_ready (rs := [0, 4]) (by kernel_rfl) (by simp) ?_
          refine AllReadyIn.cons rfl (fun K hK => ?_) (AllReadyIn.cons rfl (fun K hK => ?_) AllReadyIn.nil)
          ·
            have cc := HF5.out.sum
            go_simp
            refine hK _ _ ?_
            clear hK K cc
            refine wpAnyIn_ready (rs := [4]) (by kernel_rfl) (by simp) ?_
            refine AllReadyIn.cons rfl (fun K hK => ?_) AllReadyIn.nil
            go_simp
            refine hK _ _ ?_
            clear hK K
            refine wpAnyIn_ready (rs := [5]) (by kernel_rfl) (by simp) ?_
            refine AllReadyIn.cons rfl (fun K hK => ?_) AllReadyIn.nil
            go_simp
            refine hK _ _ ?_
            clear hK K
            refine wpAnyIn_ready (rs := [6]) (by kernel_rfl) (by simp) ?_
            refine AllReadyIn.cons rfl (fun K hK => ?_) AllReadyIn.nil
            go_simp
            refine hK _ _ ?_
            clear hK K
            refine wpAnyIn_done (by kernel_rfl) ?_ _
            have hmk := HF5.out.mark
            have hsz := HF5.out.lt
            gi_wp2
            refine ⟨by simp, .inl ⟨_, _, rfl, run_takeDeferred hmk, ?_⟩⟩
            refine ⟨_, results_tmp rfl _ _ _, ?_, HF5.out.low.trans (put_low _ _ (by have := HLo.out; omega) (by have := HF5.out.low.size; omega))⟩
            exact congrArg (fun z => Ending.returned (.int .i64 z)) HRES.out
          ·
            go_simp
            refine hK _ _ ?_
            clear hK K
            refine wpAnyIn_ready (rs := [0]) (by kernel_rfl) (by simp) ?_
            refine AllReadyIn.cons rfl (fun K hK => ?_) AllReadyIn.nil
            have cc := HF5.out.sum
            go_simp
            refine hK _ _ ?_
            clear hK K cc
            refine wpAnyIn_ready (rs := [5]) (by kernel_rfl) (by simp) ?_
            refine AllReadyIn.cons rfl (fun K hK => ?_) AllReadyIn.nil
            go_simp
            refine hK _ _ ?_
            clear hK K
            refine wpAnyIn_ready (rs := [6]) (by kernel_rfl) (by simp) ?_
            refine AllReadyIn.cons rfl (fun K hK => ?_) AllReadyIn.nil
            go_simp
            refine hK _ _ ?_
            clear hK K
            refine wpAnyIn_done (by kernel_rfl) ?_ _
            have hmk := HF5.out.mark
            have hsz := HF5.out.lt
            gi_wp2
            refine ⟨by simp, .inl ⟨_, _, rfl, run_takeDeferred hmk, ?_⟩⟩
            refine ⟨_, results_tmp rfl _ _ _, ?_, HF5.out.low.trans (put_low _ _ (by have := HLo.out; omega) (by have := HF5.out.low.size; omega))⟩
            exact congrArg (fun z => Ending.returned (.int .i64 z)) HRES.out
  case stop =>
    rintro L c' pre X _ _ h _
    exact h.elim

end Go.Proofs.Ytcpiojliakgdlaa
