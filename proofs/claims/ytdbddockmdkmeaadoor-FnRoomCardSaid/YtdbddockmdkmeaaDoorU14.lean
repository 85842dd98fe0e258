/- Joined: Hb Mc Ti Ml Md. -/
import Derived.Test.YtdbddockmdkmeaaDoorU13
import Derived.Test.YtdbddockmdkmeaaDoorU12
import Derived.Test.YtdbddockmdkmeaaDoorU02
import Derived.Lib.AppendIntMem
/- Where all segments lie, as a text: plain, and the reference's MapOf. -/
namespace Go.Proofs.YtdbddockmdkmeaaDoor
open Go.RowKit

/-- Texts with spaces between them. -/
def joinS : List (List UInt8) → List UInt8
  | [] => []
  | x :: r => x ++ r.flatMap fun y => 32 :: y
theorem joinS_snoc (xs : List (List UInt8)) (y : List UInt8) : joinS (xs ++ [y]) = (if xs = [] then [] else joinS xs ++ [32]) ++ y := by
  cases xs with
  | nil => simp [joinS]
  | cons x r => simp [joinS]
theorem joinS_len (b : Nat) : ∀ xs : List (List UInt8), (∀ x ∈ xs, x.length ≤ b) → (joinS xs).length ≤ xs.length * (b + 1) := by
  intro xs h
  cases xs with
  | nil => simp [joinS]
  | cons x r =>
    have h1 := h x (by simp)
    have h2 : ∀ r : List (List UInt8), (∀ x ∈ r, x.length ≤ b) → (r.flatMap fun y => (32 : UInt8) :: y).length ≤ r.length * (b + 1) := by
      intro r
      induction r with
      | nil => intro _; simp
      | cons y r ih =>
        intro hr
        have i1 := ih fun x hx => hr x (List.mem_cons_of_mem _ hx)
        have i2 := hr y (by simp)
        rw [List.flatMap_cons, List.length_append, List.length_cons, List.length_cons, Nat.succ_mul]
        omega
    have h3 := h2 r fun x hx => h x (List.mem_cons_of_mem _ hx)
    rw [joinS, List.length_append, List.length_cons, Nat.succ_mul]
    omega
/-- Where a segment lies. -/
def placeT (l : List Seg) (i : Nat) : List UInt8 := nameB l i ++ Lib.itoa (begAt l i) ++ 45 :: Lib.itoa (endAt l i - 1)
theorem placeT_ne (l : List Seg) (i : Nat) : placeT l i ≠ [] := by
  intro e
  exact itoa_ne _ (List.append_eq_nil_iff.1 (List.append_eq_nil_iff.1 e).1).2
theorem placeT_len {l : List Seg} (hv : validB l = true) {i : Nat} (hi : i < l.length) : (placeT l i).length ≤ 42 := by
  obtain ⟨n1, n2, n3⟩ := place_small hv hi
  have h1 := nameB_len hv hi
  have h2 := itoa_len (begAt l i) (by omega) (by omega)
  have h3 := itoa_len (endAt l i - 1) (by omega) (by omega)
  unfold placeT
  rw [List.length_append, List.length_append, List.length_cons]
  omega
/-- The text of where the first segments lie. -/
def mapT (l : List Seg) (k : Nat) : List UInt8 := joinS ((List.range k).map (placeT l))
theorem mapT_succ (l : List Seg) (k : Nat) : mapT l (k + 1) = (if k = 0 then [] else mapT l k ++ [32]) ++ placeT l k := by
  unfold mapT
  rw [List.range_succ, List.map_append]
  show joinS (_ ++ [placeT l k]) = _
  rw [joinS_snoc]
  by_cases h : k = 0
  · subst h; rfl
  · rw [if_neg h, if_neg (fun e => by
      have := congrArg List.length e
      rw [List.length_map, List.length_range, List.length_nil] at this
      omega)]
theorem mapT_len {l : List Seg} (hv : validB l = true) {k : Nat} (hk : k ≤ l.length) : (mapT l k).length ≤ k * 43 := by
  have := joinS_len 42 ((List.range k).map (placeT l)) (fun x hx => by
    obtain ⟨j, hj, rfl⟩ := List.mem_map.1 hx
    have := List.mem_range.1 hj
    exact placeT_len hv (by omega))
  rw [List.length_map, List.length_range] at this
  exact this
/-- What MapOf answers. -/
def mapRes (l : List Seg) : ByteArray := if validB l = true then txt12 (mapT l l.length) else ⟨#[]⟩

set_option maxRecDepth 100000 in
set_option maxHeartbeats 4000000 in
theorem specMapOf_any (A : Option Addr) (l : List Seg) (c : Nat) (w : World) (hw : Segs w w.heap.size A l) (hl : l.length ≤ 1048576) (hn : Short l) :
    Calls Tryd.prog 25 #[.slice A l.length c] w fun e w' => e = .returned (.tuple #[.string (mapRes l), .bool (validB l)]) ∧ Below w.heap.size w w' := by
  have HW : Hid (Segs w w.heap.size A l) := hw
  clear hw
  cases hv : validB l with
  | false =>
    have HF : Hid (mapRes l = ⟨#[]⟩) := if_neg (by rw [hv]; decide)
    go_enter Tryd.func25, Tryd.ntmps25
    go_wp2_with fail
    refine (specTreeValid_any _ _ _ _ HW.out hl hn).mono ?_
    rw [hv]
    rintro e w1 ⟨rfl, hb1⟩
    go_wp2
    go_ret2
    exact ⟨ret_two HF.out.symm rfl, hb1⟩
  | true =>
    have HF : Hid (mapRes l = txt12 (mapT l l.length)) := if_pos hv
    have HV := Lib.hid hv
    have h8 := (valid_all hv).2.1
    go_enter Tryd.func25, Tryd.ntmps25
    go_wp2_with fail
    refine (specTreeValid_any _ _ _ _ HW.out hl hn).mono ?_
    rw [hv]
    rintro e w1 ⟨rfl, hb1⟩
    have HB1 := Lib.hid hb1
    clear hb1 hv
    go_wp2
    go_loopw [4, 12] (fun t i' wr => ∃ (k : Nat) (z : ByteArray), k ≤ l.length ∧ i' = .int .i64 k ∧ t = .string z ∧ Hid (z = txt12 (mapT l k)) ∧ Hid (Below w.heap.size w wr))
      (fun _ i' _ => l.length - (intOf i').toNat)
    case atStart => exact ⟨0, _, Nat.zero_le _, rfl, rfl, Lib.hid rfl, HB1⟩
    case round =>
      obtain ⟨k, z, hk, rfl, rfl, HZ, HB⟩ := hrel
      clear HB1
      by_cases hlt : k < l.length
      · obtain ⟨b, o, rfl, hB, hc⟩ := HW.out (by omega)
        obtain ⟨c0, c1, c2⟩ := hc k l[k] (List.getElem?_eq_getElem hlt)
        clear hc
        rw [← HB.out.cell hB] at c0 c1 c2
        obtain ⟨n1, n2, n3⟩ := place_small HV.out hlt
        have hzs : z.size ≤ 344 := by
          have := mapT_len HV.out hk
          rw [HZ.out, txt12_size]
          omega
        have hnm : l[k].name.size = 1 := by
          have := nameB_len HV.out hlt
          unfold nameB at this
          rw [List.getElem?_eq_getElem hlt] at this
          exact this
        have e1 : l[k].name = txt12 (nameB l k) := by
          unfold nameB
          rw [List.getElem?_eq_getElem hlt]
          rfl
        have HPL : Hid (txt12 (placeT l k) = l[k].name ++ txt12 (Lib.itoa (begAt l k)) ++ ⟨#[45]⟩ ++ txt12 (Lib.itoa (endAt l k - 1))) := by
          show _ = _ ++ txt12 [45] ++ _
          rw [e1, txt12_app, txt12_app, txt12_app]
          unfold placeT
          simp
        have HMS := Lib.hid (mapT_succ l k)
        have HEA := Lib.hid (fun w hw => l2Address_any (some ⟨b, o, none⟩) l c k w hw HV.out hlt)
        have HEE := Lib.hid (fun w hw => l2End_any (some ⟨b, o, none⟩) l c k w hw HV.out hlt)
        have HQ1 := Lib.hid (fun w => l13Dec_any (begAt l k) w (by omega) (by omega))
        have HQ2 := Lib.hid (fun w => l13Dec_any (endAt l k - 1) w (by omega) (by omega))
        have hy1 := itoa_len (begAt l k) (by omega) (by omega)
        have hy2 := itoa_len (endAt l k - 1) (by omega) (by omega)
        clear e1
        generalize begAt l k = p1 at *
        generalize hp2 : endAt l k = p2 at *
        obtain ⟨y1, HY1⟩ : ∃ y, Hid (y = txt12 (Lib.itoa p1)) := ⟨_, Lib.hid rfl⟩
        obtain ⟨y2, HY2⟩ : ∃ y, Hid (y = txt12 (Lib.itoa (p2 - 1))) := ⟨_, Lib.hid rfl⟩
        have hs1 : y1.size ≤ 20 := by rw [HY1.out, txt12_size]; exact hy1
        have hs2 : y2.size ≤ 20 := by rw [HY2.out, txt12_size]; exact hy2
        rw [← HY1.out] at HQ1 HPL
        rw [← HY2.out] at HQ2 HPL
        clear HY1 HY2 hy1 hy2 hp2
        generalize l[k] = s at *
        have hz9 := HB.out.size
        have HBX : Hid ((wr.alloc (.cells #[.string s.name, .int .i64 s.size, .int .i64 s.par] 66)).cell? ⟨wr.heap.size, 0, none⟩ = some (.string s.name)) := Row.cell (Row.new wr 66 #[.string s.name, .int .i64 s.size, .int .i64 s.par]) 0
        have HBW := Lib.hid (HB.out.alloc HB.out.size (.cells #[.string s.name, .int .i64 s.size, .int .i64 s.par] 66))
        by_cases h0 : k = 0
        · have h0' : ¬ (0 : Int) < (k : Int) := by omega
          rw [if_pos h0] at HMS
          have hz0 : z = ⟨#[]⟩ := by rw [HZ.out, h0]; rfl
          subst hz0
          clear h0
          have hone : (⟨#[45]⟩ : ByteArray).size = 1 := rfl
          obtain ⟨q1, HG1⟩ : ∃ q, Hid (q = (⟨#[]⟩ : ByteArray) ++ s.name) := ⟨_, Lib.hid rfl⟩
          obtain ⟨q2, HG2⟩ : ∃ q, Hid (q = q1 ++ y1) := ⟨_, Lib.hid rfl⟩
          obtain ⟨q3, HG3⟩ : ∃ q, Hid (q = q2 ++ ⟨#[45]⟩) := ⟨_, Lib.hid rfl⟩
          obtain ⟨q4, HG4⟩ : ∃ q, Hid (q = q3 ++ y2) := ⟨_, Lib.hid rfl⟩
          have hg1 : q1.size ≤ 400 := by rw [HG1.out, ByteArray.size_append]; rw [nil12]; omega
          have hg2 : q2.size ≤ 420 := by rw [HG2.out, ByteArray.size_append]; omega
          have hg3 : q3.size ≤ 421 := by rw [HG3.out, ByteArray.size_append, one12]; omega
          have HN : Hid (q4 = txt12 (mapT l (k + 1))) := by
            show _ = _
            rw [HMS.out, List.nil_append, HPL.out, HG4.out, HG3.out, HG2.out, HG1.out, nil_app12]
          clear HMS HPL
          go_wp2_with fail
          refine wp_region_held_drew (S := (fun w' => w'.cell? ⟨wr.heap.size, 0, none⟩ = some (.string s.name) ∧ wr.heap.size < w'.heap.size ∧ Below w.heap.size w w')) (by kernel_rfl) ?_ (fun hHeld => ?_)
          · exact ⟨HBX.out, by simp, HBW.out.drew⟩
          refine take_at (i := 0) (d := 21) (v := .string ⟨#[]⟩) rfl rfl (by kernel_rfl) (by kernel_rfl) (by kernel_rfl) (fun _ _ _ h => h) (by kernel_rfl) (by (intro w hSw; (try dsimp only at hSw); go_simp)) (by assumption) ?_
          simp only [List.setIfInBounds_toArray, List.set_cons_succ, List.set_cons_zero]
          refine take_at (i := 1) (d := 22) (v := .pointer (some ⟨wr.heap.size, 0, none⟩)) rfl rfl (by kernel_rfl) (by kernel_rfl) (by kernel_rfl) (fun _ _ _ h => h) (by kernel_rfl) (by (intro w hSw; (try dsimp only at hSw); go_simp)) (by assumption) ?_
          simp only [List.setIfInBounds_toArray, List.set_cons_succ, List.set_cons_zero]
          refine take_at (i := 2) (d := 23) (v := .string s.name) rfl rfl (by kernel_rfl) (by kernel_rfl) (by kernel_rfl) (fun _ _ _ h => h) (by kernel_rfl) (by (intro w hSw; (try dsimp only at hSw); go_simp)) (by assumption) ?_
          simp only [List.setIfInBounds_toArray, List.set_cons_succ, List.set_cons_zero]
          refine take_at (i := 3) (d := 24) (v := .string q1) rfl rfl (by kernel_rfl) (by kernel_rfl) (by kernel_rfl) (fun _ _ _ h => h) (by kernel_rfl) ((by (intro W hS; rw [HG1.out]; go_simp <;> omega))) (by assumption) ?_
          simp only [List.setIfInBounds_toArray, List.set_cons_succ, List.set_cons_zero]
          refine take_at (i := 4) (d := 25) (v := .slice (some ⟨b, o, none⟩) l.length c) rfl rfl (by kernel_rfl) (by kernel_rfl) (by kernel_rfl) (fun _ _ _ h => h) (by kernel_rfl) (by (intro w hSw; (try dsimp only at hSw); go_simp)) (by assumption) ?_
          simp only [List.setIfInBounds_toArray, List.set_cons_succ, List.set_cons_zero]
          refine take_at (i := 5) (d := 26) (v := .int .i64 k) rfl rfl (by kernel_rfl) (by kernel_rfl) (by kernel_rfl) (fun _ _ _ h => h) (by kernel_rfl) (by (intro w hSw; (try dsimp only at hSw); go_simp)) (by assumption) ?_
          simp only [List.setIfInBounds_toArray, List.set_cons_succ, List.set_cons_zero]
          refine take_at (i := 10) (d := 31) (v := .slice (some ⟨b, o, none⟩) l.length c) rfl rfl (by kernel_rfl) (by kernel_rfl) (by kernel_rfl) (fun _ _ _ h => h) (by kernel_rfl) (by (intro w hSw; (try dsimp only at hSw); go_simp)) (by assumption) ?_
          simp only [List.setIfInBounds_toArray, List.set_cons_succ, List.set_cons_zero]
          refine take_at (i := 11) (d := 32) (v := .int .i64 k) rfl rfl (by kernel_rfl) (by kernel_rfl) (by kernel_rfl) (fun _ _ _ h => h) (by kernel_rfl) (by (intro w hSw; (try dsimp only at hSw); go_simp)) (by assumption) ?_
          simp only [List.setIfInBounds_toArray, List.set_cons_succ, List.set_cons_zero]
          refine wpAnyH_ready (rs := [6]) (by kernel_rfl) (by simp) ?_
          refine AllReadyH.cons rfl (fun K hK => ?_) AllReadyH.nil
          go_simp
          refine (HEA.out _ ((HW.out.below hHeld.2.2).more hHeld.2.2.size)).mono ?_
          rintro e w2 ⟨rfl, hb2⟩
          have hs2 : w2.cell? ⟨wr.heap.size, 0, none⟩ = some (.string s.name) ∧ wr.heap.size < w2.heap.size ∧ Below w.heap.size w w2 := ⟨(hb2.cell (p := ⟨wr.heap.size, 0, none⟩) hHeld.2.1).trans hHeld.1, Nat.lt_of_lt_of_le hHeld.2.1 hb2.size, hHeld.2.2.trans (hb2.mono hHeld.2.2.size)⟩
          clear hb2 hHeld
          refine hK.out _ _ hs2 (fun hHeld => ?_)
          clear hK K hs2
          refine wpAnyH_ready (rs := [7]) (by kernel_rfl) (by simp) ?_
          refine AllReadyH.cons rfl (fun K hK => ?_) AllReadyH.nil
          go_simp
          refine (HQ1.out _).mono ?_
          rintro e w2 ⟨rfl, hb2⟩
          have hs2 : w2.cell? ⟨wr.heap.size, 0, none⟩ = some (.string s.name) ∧ wr.heap.size < w2.heap.size ∧ Below w.heap.size w w2 := ⟨(hb2.cell (p := ⟨wr.heap.size, 0, none⟩) hHeld.2.1).trans hHeld.1, Nat.lt_of_lt_of_le hHeld.2.1 hb2.size, hHeld.2.2.trans (hb2.mono hHeld.2.2.size)⟩
          clear hb2 hHeld
          refine hK.out _ _ hs2 (fun hHeld => ?_)
          clear hK K hs2
          refine take_at (i := 8) (d := 29) (v := .string q2) rfl rfl (by kernel_rfl) (by kernel_rfl) (by kernel_rfl) (fun _ _ _ h => h) (by kernel_rfl) ((by (intro W hS; rw [HG2.out]; go_simp <;> omega))) (by assumption) ?_
          simp only [List.setIfInBounds_toArray, List.set_cons_succ, List.set_cons_zero]
          refine take_at (i := 9) (d := 30) (v := .string q3) rfl rfl (by kernel_rfl) (by kernel_rfl) (by kernel_rfl) (fun _ _ _ h => h) (by kernel_rfl) ((by (intro W hS; rw [HG3.out]; go_simp <;> omega))) (by assumption) ?_
          simp only [List.setIfInBounds_toArray, List.set_cons_succ, List.set_cons_zero]
          refine wpAnyH_ready (rs := [12]) (by kernel_rfl) (by simp) ?_
          refine AllReadyH.cons rfl (fun K hK => ?_) AllReadyH.nil
          go_simp
          refine (HEE.out _ ((HW.out.below hHeld.2.2).more hHeld.2.2.size)).mono ?_
          rintro e w2 ⟨rfl, hb2⟩
          have hs2 : w2.cell? ⟨wr.heap.size, 0, none⟩ = some (.string s.name) ∧ wr.heap.size < w2.heap.size ∧ Below w.heap.size w w2 := ⟨(hb2.cell (p := ⟨wr.heap.size, 0, none⟩) hHeld.2.1).trans hHeld.1, Nat.lt_of_lt_of_le hHeld.2.1 hb2.size, hHeld.2.2.trans (hb2.mono hHeld.2.2.size)⟩
          clear hb2 hHeld
          refine hK.out _ _ hs2 (fun hHeld => ?_)
          clear hK K hs2
          refine take_at (i := 13) (d := 34) (v := .int .i64 (p2 - 1)) rfl rfl (by kernel_rfl) (by kernel_rfl) (by kernel_rfl) (fun _ _ _ h => h) (by kernel_rfl) (fun _ _ => run_sub_op rfl rfl rfl (IntWalk.i64_in _ (by omega)) _) (by assumption) ?_
          simp only [List.setIfInBounds_toArray, List.set_cons_succ, List.set_cons_zero]
          refine wpAnyH_ready (rs := [14]) (by kernel_rfl) (by simp) ?_
          refine AllReadyH.cons rfl (fun K hK => ?_) AllReadyH.nil
          go_simp
          refine (HQ2.out _).mono ?_
          rintro e w2 ⟨rfl, hb2⟩
          have hs2 : w2.cell? ⟨wr.heap.size, 0, none⟩ = some (.string s.name) ∧ wr.heap.size < w2.heap.size ∧ Below w.heap.size w w2 := ⟨(hb2.cell (p := ⟨wr.heap.size, 0, none⟩) hHeld.2.1).trans hHeld.1, Nat.lt_of_lt_of_le hHeld.2.1 hb2.size, hHeld.2.2.trans (hb2.mono hHeld.2.2.size)⟩
          clear hb2 hHeld
          refine hK.out _ _ hs2 (fun hHeld => ?_)
          clear hK K hs2
          refine take_at (i := 15) (d := 36) (v := .string q4) rfl rfl (by kernel_rfl) (by kernel_rfl) (by kernel_rfl) (fun _ _ _ h => h) (by kernel_rfl) ((by (intro W hS; rw [HG4.out]; go_simp <;> omega))) (by assumption) ?_
          simp only [List.setIfInBounds_toArray, List.set_cons_succ, List.set_cons_zero]
          refine take_at (i := 16) (d := 4) (v := .string q4) rfl rfl (by kernel_rfl) (by kernel_rfl) (by kernel_rfl) (fun _ _ _ h => h) (by kernel_rfl) (by (intro w hSw; (try dsimp only at hSw); go_simp)) (by assumption) ?_
          simp only [List.setIfInBounds_toArray, List.set_cons_succ, List.set_cons_zero]
          refine wpAnyH_done (by kernel_rfl) ?_ _
          have HB3 := Lib.hid hHeld.2.2
          clear hHeld HG1 HG2 HG3 HG4
          go_wp2
          go_roundw
          case rel => exact ⟨k + 1, _, by omega, by go_num, rfl, HN, HB3⟩
          case measure => simp [intOf]; omega
        · have h0' : (0 : Int) < (k : Int) := by omega
          rw [if_neg h0] at HMS
          have hz32 : z.size + (⟨#[32]⟩ : ByteArray).size ≤ 9223372036854775807 := by rw [one12]; omega
          have hz3s : (z ++ (⟨#[32]⟩ : ByteArray)).size = z.size + 1 := by rw [ByteArray.size_append, one12]
          have hone : (⟨#[45]⟩ : ByteArray).size = 1 := rfl
          obtain ⟨q1, HG1⟩ : ∃ q, Hid (q = z ++ ⟨#[32]⟩ ++ s.name) := ⟨_, Lib.hid rfl⟩
          obtain ⟨q2, HG2⟩ : ∃ q, Hid (q = q1 ++ y1) := ⟨_, Lib.hid rfl⟩
          obtain ⟨q3, HG3⟩ : ∃ q, Hid (q = q2 ++ ⟨#[45]⟩) := ⟨_, Lib.hid rfl⟩
          obtain ⟨q4, HG4⟩ : ∃ q, Hid (q = q3 ++ y2) := ⟨_, Lib.hid rfl⟩
          have hg1 : q1.size ≤ 400 := by rw [HG1.out, ByteArray.size_append]; rw [hz3s]; omega
          have hg2 : q2.size ≤ 420 := by rw [HG2.out, ByteArray.size_append]; omega
          have hg3 : q3.size ≤ 421 := by rw [HG3.out, ByteArray.size_append, one12]; omega
          have HN : Hid (q4 = txt12 (mapT l (k + 1))) := by
            show _ = _
            rw [HMS.out, ← txt12_app, HPL.out, HG4.out, HG3.out, HG2.out, HG1.out, HZ.out, ← txt12_app]
            simp only [ByteArray.append_assoc]
            rfl
          clear HMS HPL
          go_wp2_with fail
          refine wp_region_held_drew (S := (fun w' => w'.cell? ⟨wr.heap.size, 0, none⟩ = some (.string s.name) ∧ wr.heap.size < w'.heap.size ∧ Below w.heap.size w w')) (by kernel_rfl) ?_ (fun hHeld => ?_)
          · exact ⟨HBX.out, by simp, HBW.out.drew⟩
          refine take_at (i := 0) (d := 21) (v := .string (z ++ ⟨#[32]⟩)) rfl rfl (by kernel_rfl) (by kernel_rfl) (by kernel_rfl) (fun _ _ _ h => h) (by kernel_rfl) (by (intro w hSw; (try dsimp only at hSw); go_simp)) (by assumption) ?_
          simp only [List.setIfInBounds_toArray, List.set_cons_succ, List.set_cons_zero]
          refine take_at (i := 1) (d := 22) (v := .pointer (some ⟨wr.heap.size, 0, none⟩)) rfl rfl (by kernel_rfl) (by kernel_rfl) (by kernel_rfl) (fun _ _ _ h => h) (by kernel_rfl) (by (intro w hSw; (try dsimp only at hSw); go_simp)) (by assumption) ?_
          simp only [List.setIfInBounds_toArray, List.set_cons_succ, List.set_cons_zero]
          refine take_at (i := 2) (d := 23) (v := .string s.name) rfl rfl (by kernel_rfl) (by kernel_rfl) (by kernel_rfl) (fun _ _ _ h => h) (by kernel_rfl) (by (intro w hSw; (try dsimp only at hSw); go_simp)) (by assumption) ?_
          simp only [List.setIfInBounds_toArray, List.set_cons_succ, List.set_cons_zero]
          refine take_at (i := 3) (d := 24) (v := .string q1) rfl rfl (by kernel_rfl) (by kernel_rfl) (by kernel_rfl) (fun _ _ _ h => h) (by kernel_rfl) ((by (intro W hS; rw [HG1.out]; go_simp <;> omega))) (by assumption) ?_
          simp only [List.setIfInBounds_toArray, List.set_cons_succ, List.set_cons_zero]
          refine take_at (i := 4) (d := 25) (v := .slice (some ⟨b, o, none⟩) l.length c) rfl rfl (by kernel_rfl) (by kernel_rfl) (by kernel_rfl) (fun _ _ _ h => h) (by kernel_rfl) (by (intro w hSw; (try dsimp only at hSw); go_simp)) (by assumption) ?_
          simp only [List.setIfInBounds_toArray, List.set_cons_succ, List.set_cons_zero]
          refine take_at (i := 5) (d := 26) (v := .int .i64 k) rfl rfl (by kernel_rfl) (by kernel_rfl) (by kernel_rfl) (fun _ _ _ h => h) (by kernel_rfl) (by (intro w hSw; (try dsimp only at hSw); go_simp)) (by assumption) ?_
          simp only [List.setIfInBounds_toArray, List.set_cons_succ, List.set_cons_zero]
          refine take_at (i := 10) (d := 31) (v := .slice (some ⟨b, o, none⟩) l.length c) rfl rfl (by kernel_rfl) (by kernel_rfl) (by kernel_rfl) (fun _ _ _ h => h) (by kernel_rfl) (by (intro w hSw; (try dsimp only at hSw); go_simp)) (by assumption) ?_
          simp only [List.setIfInBounds_toArray, List.set_cons_succ, List.set_cons_zero]
          refine take_at (i := 11) (d := 32) (v := .int .i64 k) rfl rfl (by kernel_rfl) (by kernel_rfl) (by kernel_rfl) (fun _ _ _ h => h) (by kernel_rfl) (by (intro w hSw; (try dsimp only at hSw); go_simp)) (by assumption) ?_
          simp only [List.setIfInBounds_toArray, List.set_cons_succ, List.set_cons_zero]
          refine wpAnyH_ready (rs := [6]) (by kernel_rfl) (by simp) ?_
          refine AllReadyH.cons rfl (fun K hK => ?_) AllReadyH.nil
          go_simp
          refine (HEA.out _ ((HW.out.below hHeld.2.2).more hHeld.2.2.size)).mono ?_
          rintro e w2 ⟨rfl, hb2⟩
          have hs2 : w2.cell? ⟨wr.heap.size, 0, none⟩ = some (.string s.name) ∧ wr.heap.size < w2.heap.size ∧ Below w.heap.size w w2 := ⟨(hb2.cell (p := ⟨wr.heap.size, 0, none⟩) hHeld.2.1).trans hHeld.1, Nat.lt_of_lt_of_le hHeld.2.1 hb2.size, hHeld.2.2.trans (hb2.mono hHeld.2.2.size)⟩
          clear hb2 hHeld
          refine hK.out _ _ hs2 (fun hHeld => ?_)
          clear hK K hs2
          refine wpAnyH_ready (rs := [7]) (by kernel_rfl) (by simp) ?_
          refine AllReadyH.cons rfl (fun K hK => ?_) AllReadyH.nil
          go_simp
          refine (HQ1.out _).mono ?_
          rintro e w2 ⟨rfl, hb2⟩
          have hs2 : w2.cell? ⟨wr.heap.size, 0, none⟩ = some (.string s.name) ∧ wr.heap.size < w2.heap.size ∧ Below w.heap.size w w2 := ⟨(hb2.cell (p := ⟨wr.heap.size, 0, none⟩) hHeld.2.1).trans hHeld.1, Nat.lt_of_lt_of_le hHeld.2.1 hb2.size, hHeld.2.2.trans (hb2.mono hHeld.2.2.size)⟩
          clear hb2 hHeld
          refine hK.out _ _ hs2 (fun hHeld => ?_)
          clear hK K hs2
          refine take_at (i := 8) (d := 29) (v := .string q2) rfl rfl (by kernel_rfl) (by kernel_rfl) (by kernel_rfl) (fun _ _ _ h => h) (by kernel_rfl) ((by (intro W hS; rw [HG2.out]; go_simp <;> omega))) (by assumption) ?_
          simp only [List.setIfInBounds_toArray, List.set_cons_succ, List.set_cons_zero]
          refine take_at (i := 9) (d := 30) (v := .string q3) rfl rfl (by kernel_rfl) (by kernel_rfl) (by kernel_rfl) (fun _ _ _ h => h) (by kernel_rfl) ((by (intro W hS; rw [HG3.out]; go_simp <;> omega))) (by assumption) ?_
          simp only [List.setIfInBounds_toArray, List.set_cons_succ, List.set_cons_zero]
          refine wpAnyH_ready (rs := [12]) (by kernel_rfl) (by simp) ?_
          refine AllReadyH.cons rfl (fun K hK => ?_) AllReadyH.nil
          go_simp
          refine (HEE.out _ ((HW.out.below hHeld.2.2).more hHeld.2.2.size)).mono ?_
          rintro e w2 ⟨rfl, hb2⟩
          have hs2 : w2.cell? ⟨wr.heap.size, 0, none⟩ = some (.string s.name) ∧ wr.heap.size < w2.heap.size ∧ Below w.heap.size w w2 := ⟨(hb2.cell (p := ⟨wr.heap.size, 0, none⟩) hHeld.2.1).trans hHeld.1, Nat.lt_of_lt_of_le hHeld.2.1 hb2.size, hHeld.2.2.trans (hb2.mono hHeld.2.2.size)⟩
          clear hb2 hHeld
          refine hK.out _ _ hs2 (fun hHeld => ?_)
          clear hK K hs2
          refine take_at (i := 13) (d := 34) (v := .int .i64 (p2 - 1)) rfl rfl (by kernel_rfl) (by kernel_rfl) (by kernel_rfl) (fun _ _ _ h => h) (by kernel_rfl) (fun _ _ => run_sub_op rfl rfl rfl (IntWalk.i64_in _ (by omega)) _) (by assumption) ?_
          simp only [List.setIfInBounds_toArray, List.set_cons_succ, List.set_cons_zero]
          refine wpAnyH_ready (rs := [14]) (by kernel_rfl) (by simp) ?_
          refine AllReadyH.cons rfl (fun K hK => ?_) AllReadyH.nil
          go_simp
          refine (HQ2.out _).mono ?_
          rintro e w2 ⟨rfl, hb2⟩
          have hs2 : w2.cell? ⟨wr.heap.size, 0, none⟩ = some (.string s.name) ∧ wr.heap.size < w2.heap.size ∧ Below w.heap.size w w2 := ⟨(hb2.cell (p := ⟨wr.heap.size, 0, none⟩) hHeld.2.1).trans hHeld.1, Nat.lt_of_lt_of_le hHeld.2.1 hb2.size, hHeld.2.2.trans (hb2.mono hHeld.2.2.size)⟩
          clear hb2 hHeld
          refine hK.out _ _ hs2 (fun hHeld => ?_)
          clear hK K hs2
          refine take_at (i := 15) (d := 36) (v := .string q4) rfl rfl (by kernel_rfl) (by kernel_rfl) (by kernel_rfl) (fun _ _ _ h => h) (by kernel_rfl) ((by (intro W hS; rw [HG4.out]; go_simp <;> omega))) (by assumption) ?_
          simp only [List.setIfInBounds_toArray, List.set_cons_succ, List.set_cons_zero]
          refine take_at (i := 16) (d := 4) (v := .string q4) rfl rfl (by kernel_rfl) (by kernel_rfl) (by kernel_rfl) (fun _ _ _ h => h) (by kernel_rfl) (by (intro w hSw; (try dsimp only at hSw); go_simp)) (by assumption) ?_
          simp only [List.setIfInBounds_toArray, List.set_cons_succ, List.set_cons_zero]
          refine wpAnyH_done (by kernel_rfl) ?_ _
          have HB3 := Lib.hid hHeld.2.2
          clear hHeld HG1 HG2 HG3 HG4
          go_wp2
          go_roundw
          case rel => exact ⟨k + 1, _, by omega, by go_num, rfl, HN, HB3⟩
          case measure => simp [intOf]; omega
      · obtain rfl : k = l.length := by omega
        go_wp2
        go_ret2
        exact ⟨ret_two (by rw [HF.out, HZ.out]) rfl, HB.out⟩

end Go.Proofs.YtdbddockmdkmeaaDoor
/- formatThings. -/
namespace Go.Proofs.YtdbddockmdkmeaaDoor
open Go.RowKit

end Go.Proofs.YtdbddockmdkmeaaDoor
/- A row of numbers of the call's own; marks in numbers: what a law writes into what it was given, and whether it is held. -/
namespace Go.Proofs.YtdbddockmdkmeaaDoor.Si
open Go.RowKit

/-- Numbers in a row of the call's own. -/
def OwnInts (w : World) (B : Nat) (v : Value) (ts : List Int) : Prop := w.ownsRow B 3 1 v ts.length (ts.map (Value.int .i64))
theorem OwnInts.far {w w' : World} {B : Nat} {v : Value} {ts : List Int} (h : OwnInts w B v ts) (hk : ∀ g, v.ownBlock = some g → w'.heap[g]? = w.heap[g]?) : OwnInts w' B v ts := by
  refine ⟨h.1, ?_⟩
  rcases h.2 with h0 | ⟨g', cap, cur, rfl, hg, hh, r⟩
  · exact .inl h0
  · exact .inr ⟨g', cap, cur, rfl, hg, (hk g' rfl).trans hh, r⟩
theorem OwnInts.below {w w' : World} {B : Nat} {v : Value} {ts : List Int} (h : OwnInts w B v ts) (hb : Below w.heap.size w w') : OwnInts w' B v ts := h.far fun g hg => hb.block g (World.ownsRow.lt h g hg).2
theorem OwnInts.empty (w : World) {B : Nat} (hB : B ≤ w.heap.size) : OwnInts (w.alloc (.cells #[] 3)) B (.slice (some ⟨w.heap.size, 0, none⟩) 0 0) [] :=
  World.ownsRow_lit w #[] 0 hB (by simp [maxLen]) rfl
/-- A slice of numbers in memory below 'B'. -/
def Ints (w : World) (B : Nat) (A : Option Addr) (ts : List Int) : Prop :=
  0 < ts.length → ∃ b o, A = some ⟨b, o, none⟩ ∧ b < B ∧ ∀ (k : Nat) (s : Int), ts[k]? = some s → w.cell? ⟨b, o + k, none⟩ = some (.int .i64 s)
theorem Ints.below {w w' : World} {B : Nat} {A : Option Addr} {l : List Int} (h : Ints w B A l) (hb : Below B w w') : Ints w' B A l := fun hl => by
  obtain ⟨b, o, e, hB, hc⟩ := h hl
  refine ⟨b, o, e, hB, fun k s hk => ?_⟩
  rw [hb.cell hB]
  exact hc k s hk
theorem Ints.more {w : World} {B B' : Nat} {A : Option Addr} {l : List Int} (h : Ints w B A l) (hB : B ≤ B') : Ints w B' A l := fun hl => by
  obtain ⟨b, o, e, hb, hc⟩ := h hl
  exact ⟨b, o, e, Nat.lt_of_lt_of_le hb hB, hc⟩
end Go.Proofs.YtdbddockmdkmeaaDoor.Si

namespace Go.Proofs.YtdbddockmdkmeaaDoor
open Go.RowKit

end Go.Proofs.YtdbddockmdkmeaaDoor
/- The reference's text of numbers. -/
namespace Go.Proofs.YtdbddockmdkmeaaDoor
open Go.RowKit

end Go.Proofs.YtdbddockmdkmeaaDoor
/- The program's FormatNumbers. -/
namespace Go.Proofs.YtdbddockmdkmeaaDoor
open Go.RowKit

/-- The powers of ten lie where the library reads them, whatever is made from here on. -/
def Pow12 (w : World) : Prop := Lib.TabBelow Tryd.prog w.heap.size w "internal/strconv.uint64pow10" .u64 Lib.pow10Tab
theorem Pow12.of {w : World} (h : Lib.TabIs Tryd.prog w "internal/strconv.uint64pow10" .u64 Lib.pow10Tab) : Pow12 w := Lib.tabBelow_of_tabIs h
theorem Pow12.below {w w' : World} (h : Pow12 w) (hb : Below w.heap.size w w') : Pow12 w' :=
  Pow12.of ((h.on hb).here)
theorem itoa12_any (n : Int) (w : World) (h : Pow12 w) (h0 : -9223372036854775808 ≤ n) (h1 : n ≤ 9223372036854775807) :
    Calls Tryd.prog 94 #[.int .i64 n] w fun e w' => e = .returned (.string (txt12 (Lib.itoa n))) ∧ Below w.heap.size w w' := by
  refine (Tryd.strconv_Itoa n h0 h1 w h.here).mono ?_
  rintro e w' ⟨rfl, k, os, rfl⟩
  exact ⟨rfl, Lib.below_grow _ _ (Nat.le_refl _) _ _⟩

end Go.Proofs.YtdbddockmdkmeaaDoor
