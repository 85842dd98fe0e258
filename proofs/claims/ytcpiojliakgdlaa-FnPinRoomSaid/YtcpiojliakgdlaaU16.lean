/- Joined: La Cs Er Lb Kt Ga Pc Pd. -/
import Derived.Test.YtcpiojliakgdlaaU15
import Derived.IntWalk
import Derived.BigQuiet
import Derived.Lib.IndexAny
import Derived.Test.YtcpiojliakgdlaaU07
/- The model's side of rooms: where segments begin and end. -/
namespace Go.Proofs.Ytcpiojliakgdlaa
open Go.RowKit

theorem szsNot_take {l : List Seg} {i : Nat} {js : List Nat} {k : Nat} (hk : k < js.length) : szsNot l i (js.take (k + 1)) = szsNot l i (js.take k) + if js[k] = i then 0 else sizeAt l js[k] := by
  rw [List.take_succ_eq_append_getElem hk, szsNot_append]
  simp [szsNot]

theorem run_add_op {P : Program} {ρ : Operand → Value} {o : Oper} {x y : Operand} {t u : TypeId} {A B C : Int} (ho : o.op = .binOp .add t x y u) (hx : ρ x = .int .i64 A) (hy : ρ y = .int .i64 B) (hC : IntKind.i64.wrap (A + B) = C) (w : World) :
    (execOp ρ o).run P w = .ok (.value (.int .i64 C)) w := by
  unfold execOp
  rw [ho]
  subst hC
  simp [hx, hy, go_sem]

set_option maxRecDepth 100000 in
set_option maxHeartbeats 400000 in
theorem l2Address_any (A : Option Addr) (l : List Seg) (c i : Nat) (w : World) (hw : Segs w w.heap.size A l) (hv : validB l = true) (hi : i < l.length) :
    Calls Try.prog 164 #[.slice A l.length c, .int .i64 i] w fun e w' => e = .returned (.int .i64 (begAt l i)) ∧ Below w.heap.size w w' := by
  have HW : Hid (Segs w w.heap.size A l) := hw
  have HV := Lib.hid hv
  have HD : Hid (Down l l.length) := (valid_all hv).1.down
  have hl8 := (valid_all hv).2.1
  have HP : Hid (pathOf l i = (rp l i).map fun j : Nat => (j : Int)) := rootPath_chain HD.out (i + 1) i hi (by omega)
  have HJ : Hid (∀ j ∈ rp l i, j < l.length) := rootPath_lt HD.out (i + 1) i hi
  have hz : (rp l i).length ≤ i + 1 := rootPath_len l (i + 1) i
  have HE : Hid (szsNot l i (rp l i) = begAt l i) := szsNot_rp HD.out hi
  clear hw hv
  go_enter Try.func164, Try.ntmps164
  go_wp2_with fail
  refine (l1Path_any _ _ _ _ _ HW.out (by omega) hi (HD.out.mono (by omega))).mono ?_
  rw [HP.out]
  rintro e w1 ⟨g, cap, rfl, hown, hb1⟩
  rw [List.length_map] at hown ⊢
  have HO := Lib.hid hown
  clear hown HP
  generalize rp l i = js at *
  go_wp2
  go_loop [5, 12] (fun s i' => ∃ (k : Nat), k ≤ js.length ∧ i' = .int .i64 k ∧ s = .int .i64 (szsNot l i (js.take k)))
    (fun _ i' => js.length - (intOf i').toNat)
  case atStart => exact ⟨0, Nat.zero_le _, rfl, rfl⟩
  case round =>
    obtain ⟨k, hk, rfl, rfl⟩ := hrel
    by_cases hlt : k < js.length
    · have hj := HJ.out js[k] (List.getElem_mem hlt)
      have hc : w1.cell? ⟨g, k, none⟩ = some (.int .i64 (js[k] : Int)) := by
        rw [HO.out.cellAt k (by omega)]
        simp [hlt]
      obtain ⟨b, o, rfl, hB, hc'⟩ := HW.out (by omega)
      obtain ⟨c0, c1, c2⟩ := hc' js[k] l[js[k]] (List.getElem?_eq_getElem hj)
      clear hc' c0 c2
      rw [← hb1.cell hB, ← sizeAt_of hj] at c1
      have HQ : Hid _ := szsNot_take (l := l) (i := i) hlt
      have hb0 := szsNot_bd HV.out i (js.take k) (fun j hj => HJ.out j (List.mem_of_mem_take hj))
      have hb0' : 0 ≤ szsNot l i (js.take k) ∧ szsNot l i (js.take k) ≤ 792 := by rw [List.length_take] at hb0; omega
      obtain ⟨n1, n2⟩ := hb0'
      obtain ⟨z1, z2⟩ := sizeAt_bd HV.out hj
      have hj0 : (0 : Int) ≤ (js[k] : Int) := Int.natCast_nonneg _
      have hj1 : (js[k] : Int) < (l.length : Int) := by omega
      clear hb0
      generalize js[k] = j at *
      generalize szsNot l i (js.take k) = n at *
      generalize sizeAt l j = sz at *
      by_cases he : j = i
      · have ht : ((j : Int) != (i : Int)) = false := by rw [he]; simp
        have HR : Hid (szsNot l i (js.take (k + 1)) = n) := by
          show _ = _
          rw [HQ.out, if_pos he, Int.add_zero]
        clear he HQ
        go_wp2
        go_round
        case rel => exact ⟨k + 1, by omega, by go_num, by rw [HR.out]⟩
        case measure => simp [intOf]; omega
      · have ht : ((j : Int) != (i : Int)) = true := by rw [bne_iff_ne]; omega
        have HR : Hid (szsNot l i (js.take (k + 1)) = n + sz) := by
          show _ = _
          rw [HQ.out, if_neg he]
        clear he HQ
        go_wp2
        go_round
        case rel => exact ⟨k + 1, by omega, by go_num, by rw [HR.out]⟩
        case measure => simp [intOf]; omega
    · obtain rfl : k = js.length := by omega
      go_wp2
      go_ret
      exact ⟨ret_int HE.out, hb1⟩

set_option maxRecDepth 100000 in
set_option maxHeartbeats 400000 in
theorem l2End_any (A : Option Addr) (l : List Seg) (c i : Nat) (w : World) (hw : Segs w w.heap.size A l) (hv : validB l = true) (hi : i < l.length) :
    Calls Try.prog 160 #[.slice A l.length c, .int .i64 i] w fun e w' => e = .returned (.int .i64 (endAt l i)) ∧ Below w.heap.size w w' := by
  have HW : Hid (Segs w w.heap.size A l) := hw
  have HV := Lib.hid hv
  have HE : Hid (begAt l i + sizeAt l i = endAt l i) := (endAt_beg l i).symm
  have hl8 := (valid_all hv).2.1
  obtain ⟨n1, n2, n3⟩ := place_small hv hi
  obtain ⟨z1, z2⟩ := sizeAt_bd hv hi
  obtain ⟨b, o, rfl, hB, hc⟩ := hw (by omega)
  obtain ⟨c0, c1, c2⟩ := hc i l[i] (List.getElem?_eq_getElem hi)
  rw [← sizeAt_of hi] at c1
  clear hc c0 c2 hv hw
  have hn : begAt l i ≤ 792 := by omega
  clear n2 n3
  go_enter Try.func160, Try.ntmps160
  go_wp2_with fail
  have hi0 : (0 : Int) ≤ (i : Int) := Int.natCast_nonneg _
  have hi1 : (i : Int) < (l.length : Int) := by omega
  refine wp_region_held_drew (S := (fun w' => w'.cell? ⟨b, o + i * 3 + 1, none⟩ = some (.int .i64 (sizeAt l i)) ∧ Below w.heap.size w w')) (by kernel_rfl) ?_ (fun hHeld => ?_)
  · exact ⟨c1, (Below.refl _ _).drew⟩
  refine take_at (i := 0) (d := 5) (v := .slice (some ⟨b, o, none⟩) l.length c) rfl rfl (by kernel_rfl) (by kernel_rfl) (by kernel_rfl) (fun _ _ _ h => h) (by kernel_rfl) (by (intro w hSw; (try dsimp only at hSw); go_simp)) (by assumption) ?_
  simp only [List.setIfInBounds_toArray, List.set_cons_succ, List.set_cons_zero]
  refine take_at (i := 1) (d := 6) (v := .int .i64 i) rfl rfl (by kernel_rfl) (by kernel_rfl) (by kernel_rfl) (fun _ _ _ h => h) (by kernel_rfl) (by (intro w hSw; (try dsimp only at hSw); go_simp)) (by assumption) ?_
  simp only [List.setIfInBounds_toArray, List.set_cons_succ, List.set_cons_zero]
  refine take_at (i := 3) (d := 8) (v := .slice (some ⟨b, o, none⟩) l.length c) rfl rfl (by kernel_rfl) (by kernel_rfl) (by kernel_rfl) (fun _ _ _ h => h) (by kernel_rfl) (by (intro w hSw; (try dsimp only at hSw); go_simp)) (by assumption) ?_
  simp only [List.setIfInBounds_toArray, List.set_cons_succ, List.set_cons_zero]
  refine take_at (i := 4) (d := 9) (v := .int .i64 i) rfl rfl (by kernel_rfl) (by kernel_rfl) (by kernel_rfl) (fun _ _ _ h => h) (by kernel_rfl) (by (intro w hSw; (try dsimp only at hSw); go_simp)) (by assumption) ?_
  simp only [List.setIfInBounds_toArray, List.set_cons_succ, List.set_cons_zero]
  refine take_at (i := 5) (d := 10) (v := .pointer (some ⟨b, o + i * 3, none⟩)) rfl rfl (by kernel_rfl) (by kernel_rfl) (by kernel_rfl) (fun _ _ _ h => h) (by kernel_rfl) (by (intro w hSw; (try dsimp only at hSw); go_simp)) (by assumption) ?_
  simp only [List.setIfInBounds_toArray, List.set_cons_succ, List.set_cons_zero]
  refine take_at (i := 6) (d := 11) (v := .pointer (some ⟨b, o + i * 3 + 1, none⟩)) rfl rfl (by kernel_rfl) (by kernel_rfl) (by kernel_rfl) (fun _ _ _ h => h) (by kernel_rfl) (by (intro w hSw; (try dsimp only at hSw); go_simp)) (by assumption) ?_
  simp only [List.setIfInBounds_toArray, List.set_cons_succ, List.set_cons_zero]
  refine take_at (i := 7) (d := 12) (v := .int .i64 (sizeAt l i)) rfl rfl (by kernel_rfl) (by kernel_rfl) (by kernel_rfl) (fun _ _ _ h => h) (by kernel_rfl) (by (intro w hSw; (try dsimp only at hSw); go_simp)) (by assumption) ?_
  simp only [List.setIfInBounds_toArray, List.set_cons_succ, List.set_cons_zero]
  refine wpAnyH_ready (rs := [2]) (by kernel_rfl) (by simp) ?_
  refine AllReadyH.cons rfl (fun K hK => ?_) AllReadyH.nil
  go_simp
  refine (l2Address_any _ _ _ _ _ ((HW.out.below hHeld.2).more hHeld.2.size) HV.out hi).mono ?_
  rintro e w2 ⟨rfl, hb2⟩
  have hs2 : w2.cell? ⟨b, o + i * 3 + 1, none⟩ = some (.int .i64 (sizeAt l i)) ∧ Below w.heap.size w w2 := ⟨(hb2.cell (p := ⟨b, o + i * 3 + 1, none⟩) (Nat.lt_of_lt_of_le hB hHeld.2.size)).trans hHeld.1, hHeld.2.trans (hb2.mono hHeld.2.size)⟩
  clear hb2 hHeld
  refine hK.out _ _ hs2 (fun hHeld => ?_)
  clear hK K hs2
  refine take_at (i := 8) (d := 13) (v := .int .i64 (begAt l i + sizeAt l i)) rfl rfl (by kernel_rfl) (by kernel_rfl) (by kernel_rfl) (fun _ _ _ h => h) (by kernel_rfl) (fun _ _ => run_add_op rfl rfl rfl (IntWalk.i64_in _ (by omega)) _) (by assumption) ?_
  simp only [List.setIfInBounds_toArray, List.set_cons_succ, List.set_cons_zero]
  refine take_at (i := 9) (d := 4) (v := .int .i64 (begAt l i + sizeAt l i)) rfl rfl (by kernel_rfl) (by kernel_rfl) (by kernel_rfl) (fun _ _ _ h => h) (by kernel_rfl) (by (intro w hSw; (try dsimp only at hSw); go_simp)) (by assumption) ?_
  simp only [List.setIfInBounds_toArray, List.set_cons_succ, List.set_cons_zero]
  refine wpAnyH_done (by kernel_rfl) ?_ _
  have hb3 := hHeld.2
  clear hHeld
  go_wp2
  go_ret
  exact ⟨ret_int HE.out, hb3⟩

end Go.Proofs.Ytcpiojliakgdlaa
/- spec.CommonOf. -/
namespace Go.Proofs.Ytcpiojliakgdlaa
open Go.RowKit

def byteOf (l : List Seg) (v : Nat) : UInt8 := (nmAt l v).headD 0
theorem nmAt_one {l : List Seg} (h : validB l = true) {v : Nat} (hv : v < l.length) : nmAt l v = [byteOf l v] ∧ l[v].name = ⟨#[byteOf l v]⟩ := by
  obtain ⟨c, hc, _⟩ := nameOk_one ((valid_all h).1.name hv (List.getElem?_eq_getElem hv))
  unfold byteOf
  rw [nmAt_of hv, hc]
  exact ⟨rfl, rfl⟩
theorem byteOf_inj {l : List Seg} (h : validB l = true) {u v : Nat} (hu : u < l.length) (hv : v < l.length) (he : byteOf l u = byteOf l v) : u = v := by
  have key : ∀ a b : Nat, a < b → b < l.length → byteOf l a ≠ byteOf l b := fun a b hab hb e => by
    have h1 := (valid_all h).1 b hb
    rw [segOk_of hb] at h1
    simp only [Bool.and_eq_true, Bool.not_eq_true'] at h1
    have h2 := h1.1.1.2
    have h3 : takenB (l.take b) l[b].name = true := by
      unfold takenB
      refine List.any_eq_true.2 ⟨l[a]'(by omega), ?_, sameB_iff.2 ?_⟩
      · exact List.mem_take_iff_getElem.2 ⟨a, by omega, rfl⟩
      · rw [(nmAt_one h (show a < l.length by omega)).2, (nmAt_one h hb).2, e]
    rw [h3] at h2
    cases h2
  rcases Nat.lt_trichotomy u v with h1 | h1 | h1
  · exact absurd he (key u v h1 hv)
  · exact h1
  · exact absurd he.symm (key v u h1 hu)
theorem namesAt_map {l : List Seg} (h : validB l = true) : ∀ js : List Nat, (∀ j ∈ js, j < l.length) → (namesAt l js).data.toList = js.map (byteOf l)
  | [], _ => rfl
  | j :: js, hj => by
    have h1 := namesAt_map h js (fun x hx => hj x (List.mem_cons_of_mem _ hx))
    have e : (namesAt l (j :: js)).data.toList = nmAt l j ++ (namesAt l js).data.toList := by simp [namesAt]
    rw [e, h1, (nmAt_one h (hj j List.mem_cons_self)).1]
    rfl

end Go.Proofs.Ytcpiojliakgdlaa

/- spec.CommonOf: the last name of the common beginning of two paths. -/
namespace Go.Proofs.Ytcpiojliakgdlaa
open Go.RowKit

end Go.Proofs.Ytcpiojliakgdlaa

/- What the loop of impl.CommonOf leaves, plain. -/
namespace Go.Proofs.Ytcpiojliakgdlaa
open Go.RowKit

def lastNm (l : List Seg) (T : List Nat) : ByteArray := namesAt l T.getLast?.toList
theorem lastNm_snoc {l : List Seg} (T : List Nat) {v : Nat} (hv : v < l.length) : lastNm l (T ++ [v]) = l[v].name := by
  unfold lastNm
  rw [List.getLast?_concat]
  apply ByteArray.ext
  apply Array.ext'
  simp [namesAt, nmAt_of hv]
end Go.Proofs.Ytcpiojliakgdlaa
/- Segments that lie together, and over an address. No program. -/
namespace Go.Proofs.Ytcpiojliakgdlaa
open Go.RowKit

theorem index_lt {l : List Seg} {s : ByteArray} (h : 0 ≤ indexB l s) : (indexB l s).toNat < l.length := by
  rcases indexB_bd l s with a | ⟨_, a⟩ <;> omega
theorem index_nm {l : List Seg} {s : ByteArray} (h : 0 ≤ indexB l s) : namesAt l [(indexB l s).toNat] = s := by
  have hv := index_valid h
  have h1 : indexB l s = seek l s := if_pos hv
  obtain ⟨x, hx, hn⟩ := seek_name (l := l) (s := s) (j := (indexB l s).toNat) (by omega)
  have hlt := index_lt h
  rw [← List.nil_append [(indexB l s).toNat], namesAt_snoc [] hlt]
  rw [List.getElem?_eq_getElem hlt] at hx
  injection hx with hx
  rw [hx, hn]
  apply ByteArray.ext
  simp [namesAt]
theorem namesAt_one_inj {l : List Seg} (hv : validB l = true) {u v : Nat} (hu : u < l.length) (hv' : v < l.length) (h : namesAt l [u] = namesAt l [v]) : u = v := by
  have h1 := namesAt_map hv [u] (fun j hj => by rw [List.mem_singleton.1 hj]; exact hu)
  have h2 := namesAt_map hv [v] (fun j hj => by rw [List.mem_singleton.1 hj]; exact hv')
  rw [h, h2] at h1
  exact (byteOf_inj hv hv' hu (by simpa using h1)).symm
end Go.Proofs.Ytcpiojliakgdlaa
/- The model's side of rooms: the whole room, what is saved, who lies together. -/
namespace Go.Proofs.Ytcpiojliakgdlaa
open Go.RowKit

set_option maxRecDepth 100000 in
set_option maxHeartbeats 400000 in
theorem l2Room_any (A : Option Addr) (l : List Seg) (c : Nat) (w : World) (hw : Segs w w.heap.size A l) (hv : validB l = true) :
    Calls Try.prog 153 #[.slice A l.length c] w fun e w' => e = .returned (.int .i64 (roomTo l l.length)) ∧ Below w.heap.size w w' := by
  have HW : Hid (Segs w w.heap.size A l) := hw
  have HV := Lib.hid hv
  have hl8 := (valid_all hv).2.1
  clear hw hv
  go_enter Try.func153, Try.ntmps153
  go_wp2
  go_loopw [3, 7] (fun s i wr => ∃ (k : Nat) (n : Int), k ≤ l.length ∧ i = .int .i64 k ∧ s = .int .i64 n ∧ Hid (roomTo l k = n) ∧ Below w.heap.size w wr)
    (fun _ i _ => l.length - (intOf i).toNat)
  case atStart => exact ⟨0, 0, Nat.zero_le _, rfl, rfl, rfl, Below.refl _ _⟩
  case round =>
    obtain ⟨k, n, hk, rfl, rfl, HN, hb⟩ := hrel
    by_cases hlt : k < l.length
    · have HR : Hid (roomTo l (k + 1) = max n (endAt l k)) := by
        show _ = _
        rw [roomTo, HN.out]
      obtain ⟨n1, n2, n3⟩ := place_small HV.out hlt
      have hr := roomTo_bd HV.out k hk
      rw [HN.out] at hr
      obtain ⟨r1, r2⟩ := hr
      have he0 : 0 ≤ endAt l k := by omega
      clear n1 n2 HN
      go_wp2_with fail
      refine (l2End_any _ _ _ _ _ ((HW.out.below hb).more hb.size) HV.out hlt).mono ?_
      rintro e w1 ⟨rfl, hb1⟩
      have B1 := hb.trans (hb1.mono hb.size)
      clear hb hb1
      generalize endAt l k = en at *
      go_wp2
      all_goals go_roundw
      all_goals first
        | exact ⟨k + 1, _, by omega, by go_num, rfl, by rw [HR.out]; omega, B1⟩
        | exact ⟨k + 1, _, by omega, by go_num, rfl, HR, B1⟩
        | (simp [intOf]; omega)
    · obtain rfl : k = l.length := by omega
      go_wp2
      go_ret
      exact ⟨ret_int HN.out.symm, hb⟩

set_option maxRecDepth 100000 in
set_option maxHeartbeats 400000 in
theorem specRoom_any (A : Option Addr) (l : List Seg) (c : Nat) (w : World) (hw : Segs w w.heap.size A l) (hl : l.length ≤ 1048576) (hn : Short l) :
    Calls Try.prog 133 #[.slice A l.length c] w fun e w' => e = .returned (.int .i64 (roomB l)) ∧ Below w.heap.size w w' := by
  have HW : Hid (Segs w w.heap.size A l) := hw
  clear hw
  cases hv : validB l with
  | false =>
    have HF : Hid (roomB l = -1) := if_neg (by rw [hv]; decide)
    go_enter Try.func133, Try.ntmps133
    go_wp2_with fail
    refine (specTreeValid_any _ _ _ _ HW.out hl hn).mono ?_
    rw [hv]
    rintro e w1 ⟨rfl, hb1⟩
    go_wp2
    go_ret
    exact ⟨ret_int HF.out.symm, hb1⟩
  | true =>
    have HF : Hid (roomB l = roomTo l l.length) := if_pos hv
    go_enter Try.func133, Try.ntmps133
    go_wp2_with fail
    refine (specTreeValid_any _ _ _ _ HW.out hl hn).mono ?_
    rw [hv]
    rintro e w1 ⟨rfl, hb1⟩
    have HV := Lib.hid hv
    clear hv
    go_wp2_with fail
    refine (l2Room_any _ _ _ _ ((HW.out.below hb1).more hb1.size) HV.out).mono ?_
    rintro e w2 ⟨rfl, hb2⟩
    have B2 := hb1.trans (hb2.mono hb1.size)
    clear hb1 hb2
    go_wp2
    go_ret
    exact ⟨ret_int HF.out.symm, B2⟩

end Go.Proofs.Ytcpiojliakgdlaa
/- Draws of chapter 10: pins of a tree, and a room. All over l1Good's contract. -/
namespace Go.Proofs.Ytcpiojliakgdlaa
open Go.RowKit

def pinOf10 : List ByteArray := [⟨#[65]⟩, ⟨#[66]⟩, ⟨#[88]⟩, ⟨#[72]⟩]

set_option maxRecDepth 100000 in
set_option maxHeartbeats 2000000 in
theorem l10Pins_any (b P c : Nat) (A : Option Addr) (l : List Seg) (w : World) (hr : Rd w b P) (hP : P ≤ 1000) (hw : Segs w w.heap.size A l) (hA : ∀ g o, A = some ⟨g, o, none⟩ → b < g) (h9 : l.length ≤ 9) (hnm : ∀ s ∈ l, s.name.size ≤ 8) :
    Calls Try.prog 129 #[.pointer (some ⟨b, 0, none⟩), .slice A l.length c] w fun e w' => ∃ x : ByteArray, e = .returned (.string x) ∧ x.size ≤ 80 ∧ Only w w' (· = b) := by
  have HR := Lib.hid hr
  have HS := Lib.hid hw
  have HA := Lib.hid hA
  have HN := Lib.hid hnm
  clear hr hw hA hnm
  go_enter Try.func129, Try.ntmps129
  go_wp2
  go_loopw [5, 10] (fun u i wr => ∃ (k : Nat) (s : ByteArray), k ≤ l.length ∧ i = .int .i64 k ∧ u = .string s ∧ s.size ≤ 8 * k ∧ Hid (Only w wr (· = b)) ∧ Hid (Rd wr b (P + k)))
    (fun _ i _ => l.length - (intOf i).toNat)
  case atStart => exact ⟨0, _, Nat.zero_le _, rfl, rfl, Nat.le_refl _, Only.refl w (· = b), HR⟩
  case round =>
    obtain ⟨k, s, hk, rfl, rfl, hsz, HO, HRk⟩ := hrel
    clear HR
    by_cases hlt : k < l.length
    · have hlt' : (k : Int) < (l.length : Int) := by omega
      have hk0 : (0 : Int) ≤ (k : Int) := Int.natCast_nonneg _
      have HSk : Hid (Segs wr wr.heap.size A l) := HS.out.farO HO.out HA.out
      obtain ⟨g, o, rfl, hB, hc⟩ := HSk.out (by omega)
      obtain ⟨c0, c1, c2⟩ := hc k l[k] (List.getElem?_eq_getElem hlt)
      have hx8 := HN.out l[k] (List.getElem_mem hlt)
      clear hc HSk
      generalize l[k] = x at *
      obtain ⟨nm, sz, pa⟩ := x
      dsimp only at c0 c1 c2 hx8
      have hbr := HRk.out.lt
      have HO1 : Hid (Only w (wr.alloc (.cells #[.string nm, .int .i64 sz, .int .i64 pa] 99)) (· = b)) := HO.out.andBelow ((Below.refl _ wr).alloc (Nat.le_refl _) _)
      have HR1 := Lib.hid (HRk.out.alloc (.cells #[.string nm, .int .i64 sz, .int .i64 pa] 99))
      have HC1 : Hid ((wr.alloc (.cells #[.string nm, .int .i64 sz, .int .i64 pa] 99)).cell? ⟨wr.heap.size, 0, none⟩ = some (.string nm)) := ((Row.new _ _ _).cell 0).trans rfl
      have hbz : wr.heap.size < (wr.alloc (.cells #[.string nm, .int .i64 sz, .int .i64 pa] 99)).heap.size := by simp
      by_cases h0 : k = 0
      · subst h0
        have c0 : wr.cell? ⟨g, o, none⟩ = some (.string nm) := c0
        have c1 : wr.cell? ⟨g, o + 1, none⟩ = some (.int .i64 sz) := c1
        have c2 : wr.cell? ⟨g, o + 2, none⟩ = some (.int .i64 pa) := c2
        go_wp2
        go_roundw
        case rel => exact ⟨1, s, by omega, by go_num, rfl, by omega, HO1, Lib.hid (HR1.out.weak (by omega))⟩
        case measure => simp [intOf]; omega
      · have h0' : (0 : Int) < (k : Int) := by omega
        have hwk : IntKind.i64.wrap ((k : Int) + 1) = (k : Int) + 1 := IntWalk.i64_in _ (by omega)
        go_wp2_with fail
        refine (draw_any b (P + k) 3 _ HR1.out (by omega) (by omega) (by omega)).mono ?_
        rintro e w3 ⟨v, rfl, -, ho3, hr3⟩
        have HO3 := Lib.hid (HO1.out.trans ho3)
        have HR3 := Lib.hid hr3
        have hc3 : w3.cell? ⟨wr.heap.size, 0, none⟩ = some (.string nm) := (only_cell ho3 (by omega) hbz 0).trans HC1.out
        clear ho3 hr3 HO1 HR1 HC1 HO HRk c0 c1 c2
        by_cases hv : v = 0
        · subst hv
          go_wp2
          go_roundw
          case rel => exact ⟨k + 1, _, by omega, by go_num, rfl, by rw [ByteArray.size_append]; omega, HO3, HR3⟩
          case measure => simp [intOf]; omega
        · have hv' : (v == 0) = false := beq_eq_false_iff_ne.2 hv
          go_wp2
          go_roundw
          case rel => exact ⟨k + 1, s, by omega, by go_num, rfl, by omega, HO3, HR3⟩
          case measure => simp [intOf]; omega
    · obtain rfl : k = l.length := by omega
      clear HS HN HA
      go_wp2_with fail
      refine (draw_any b (P + l.length) 16 _ HRk.out (by omega) (by omega) (by omega)).mono ?_
      rintro e w3 ⟨v, rfl, -, ho3, hr3⟩
      have HO3 := Lib.hid (HO.out.trans ho3)
      have HR3 := Lib.hid hr3
      clear ho3 hr3 HO HRk
      by_cases hv : v = 0
      · subst hv
        have HRn := Lib.hid (HR3.out.alloc (.cells (pinOf10.map Value.string).toArray 9))
        have HX := Lib.hid (texts_new w3 b 9 pinOf10 HR3.out.lt)
        have HO4 := Lib.hid (HO3.out.andBelow ((Below.refl _ w3).alloc (Nat.le_refl _) (.cells (pinOf10.map Value.string).toArray 9)))
        clear HO3 HR3
        go_wp2_with fail
        refine (of_any b (P + l.length + 1) w3.heap.size 0 4 4 (· ∈ pinOf10) _ HRn.out (by omega) (by omega) (by omega) HX.out).mono ?_
        rintro e w4 ⟨x, rfl, hx, ho4, -⟩
        have HO5 := Lib.hid (HO4.out.trans ho4)
        have hx1 : x.size ≤ 1 := by
          have h : ∀ x ∈ pinOf10, x.size ≤ 1 := by decide
          exact h x hx
        clear ho4 hx HX HRn HO4
        go_wp2
        go_ret
        exact ⟨_, rfl, by rw [ByteArray.size_append]; omega, HO5.out⟩
      · have hv' : (v == 0) = false := beq_eq_false_iff_ne.2 hv
        go_wp2
        go_ret
        exact ⟨_, rfl, by omega, HO3.out⟩

theorem roomB10_bd (l : List Seg) : -1 ≤ roomB l ∧ roomB l ≤ 792 := by
  unfold roomB
  split
  · have := roomTo_bd (by assumption) l.length (Nat.le_refl _)
    omega
  · omega

set_option maxRecDepth 100000 in
set_option maxHeartbeats 2000000 in
theorem l10Size_any (b P c : Nat) (A : Option Addr) (l : List Seg) (w : World) (hr : Rd w b P) (hP : P ≤ 1000) (hw : Segs w w.heap.size A l) (h9 : l.length ≤ 9) (hsh : Short l) :
    Calls Try.prog 94 #[.pointer (some ⟨b, 0, none⟩), .slice A l.length c] w fun e w' => ∃ x : Int, e = .returned (.int .i64 x) ∧ Only w w' (· = b) := by
  have HR := Lib.hid hr
  have HRM := Lib.hid (specRoom_any A l c w hw (by omega) hsh)
  have hrb := roomB10_bd l
  clear hr hw hsh
  generalize roomB l = q at *
  go_enter Try.func94, Try.ntmps94
  go_wp2_with fail
  refine Calls.mono HRM.out ?_
  rintro e w1 ⟨rfl, hb1⟩
  have HO1 : Hid (Only w w1 (· = b)) := (Only.refl w (· = b)).andBelow hb1
  have HR1 := Lib.hid (HR.out.below hb1)
  clear hb1 HRM HR
  have hm0 : 0 ≤ max q 0 ∧ max q 0 ≤ 792 := by omega
  go_wp2_with fail
  refine (draw_any b P 10 w1 HR1.out (by omega) (by omega) (by omega)).mono ?_
  rintro e w2 ⟨v, rfl, ⟨hv0, hv1⟩, ho2, hr2⟩
  have hv2 : v < 10 := hv1 (by omega)
  have HO2 := Lib.hid (HO1.out.trans ho2)
  have HR2 := Lib.hid hr2
  clear ho2 hr2 HO1 HR1 hv1
  generalize max q 0 = m at *
  have hw1 : IntKind.i64.wrap (m + v) = m + v := IntWalk.i64_in _ (by omega)
  have hw2 : IntKind.i64.wrap (m + 1) = m + 1 := IntWalk.i64_in _ (by omega)
  have hw3 : IntKind.i64.wrap (m - 1) = m - 1 := IntWalk.i64_in _ (by omega)
  go_wp2_with fail
  refine (draw_any b (P + 1) 30 w2 HR2.out (by omega) (by omega) (by omega)).mono ?_
  rintro e w3 ⟨u, rfl, ⟨hu0, hu1⟩, ho3, hr3⟩
  have hu2 : u < 30 := hu1 (by omega)
  have HO3 := Lib.hid (HO2.out.trans ho3)
  have HR3 := Lib.hid (hr3.alloc (.cells #[.int .i64 m, .int .i64 (m + v), .int .i64 (m + 1 + u), .int .i64 (m - 1), .int .i64 1000, .int .i64 0, .int .i64 (-1), .int .i64 9223372036854775807] 3))
  have HX := Lib.hid (nums_new w3 b 3 [m, m + v, m + 1 + u, m - 1, 1000, 0, -1, 9223372036854775807] hr3.lt)
  clear ho3 hr3 HO2 HR2 hu1
  have hw4 : IntKind.i64.wrap (m + 1 + u) = m + 1 + u := IntWalk.i64_in _ (by omega)
  go_wp2_with fail
  refine (num_any b (P + 1 + 1) w3.heap.size 0 8 8 _ _ HR3.out (by omega) (by omega) (by omega) HX.out).mono ?_
  rintro e w4 ⟨z, rfl, -, ho4, -⟩
  have HO4 := Lib.hid (HO3.out.trans ho4.fresh)
  clear ho4 HO3 HR3 HX
  go_wp2
  go_ret
  exact ⟨z, rfl, HO4.out⟩

set_option maxRecDepth 100000 in
set_option maxHeartbeats 1000000 in
theorem drawAllPins10 (hgood : GoodSaid) (A0 : Option Addr) (n c0 : Nat) (w : World) (hn : n ≤ c0) (hx : ∀ b, w.heap.size ≤ b → Bytes w b A0 n) :
    Calls Try.prog 42 #[.slice A0 n c0] w fun e w' => ∃ A l c, ∃ z : Int, e = .returned (.tuple #[.slice A (List.length l) c, .int .i64 z]) ∧ TreeHas w' A l c ∧ Below w.heap.size w w' := by
  have HO := Lib.hid (l13Open_any A0 n c0 w hn hx)
  have HP := Lib.hid (fun b w h => l1Some_plain b 0 w h (Nat.zero_le _) (fun w h => hgood b 0 w (Nat.zero_le _) h))
  unfold SomePost at HP
  clear hx hgood
  go_enter Try.func42, Try.ntmps42
  go_wp2_with fail
  refine Calls.mono HO.out ?_
  rintro e w1 ⟨b, rfl, hbb, hr, hb1⟩
  have HB1 := Lib.hid hb1
  have HPP := Lib.hid (HP.out b w1 hr)
  clear hr hb1 HP HO
  go_wp2_with fail
  refine Calls.mono HPP.out ?_
  rintro e w2 ⟨A, l, c, rfl, ⟨hs, hA⟩, hl, hsh, ho, hr2⟩
  have HSZ := Lib.hid (l10Size_any b (0 + 50) c A l w2 hr2 (by omega) hs hl.1 (fun x hx => by have := hsh x hx; unfold maxLen; omega))
  have HS := Lib.hid hs
  have HA := Lib.hid hA
  have HL := Lib.hid hl
  have HH := Lib.hid hsh
  have HB2 := Lib.hid (only_below HB1.out hbb ho)
  clear hs hA hl hsh ho hr2 HPP HB1
  go_wp2_with fail
  refine Calls.mono HSZ.out ?_
  rintro e w3 ⟨z, rfl, ho3⟩
  have HT : Hid (TreeHas w3 A l c) := ⟨HS.out.farO ho3 HA.out, HL.out, HH.out⟩
  have HB3 := Lib.hid (only_below HB2.out hbb ho3)
  clear ho3 HSZ HB2 HS
  go_wp2
  refine bodyPost_ret (v := .tuple #[.slice A l.length c, .int .i64 z]) (by simp [results, Try.results42, go_sem]) rfl ?_
  exact ⟨A, l, c, z, rfl, HT.out, HB3.out⟩

set_option maxRecDepth 100000 in
set_option maxHeartbeats 1000000 in
theorem drawPinsValid10 (hgood : GoodSaid) (A0 : Option Addr) (n c0 : Nat) (w : World) (hn : n ≤ c0) (hx : ∀ b, w.heap.size ≤ b → Bytes w b A0 n) :
    Calls Try.prog 91 #[.slice A0 n c0] w fun e w' => ∃ A l c x, e = .returned (.tuple #[.slice A (List.length l) c, .string x]) ∧ TreeHas w' A l c ∧ x.size ≤ 80 ∧ Below w.heap.size w w' := by
  have HO := Lib.hid (l13Open_any A0 n c0 w hn hx)
  have HP := Lib.hid (fun b w h => l1Some_plain b 0 w h (Nat.zero_le _) (fun w h => hgood b 0 w (Nat.zero_le _) h))
  unfold SomePost at HP
  clear hx hgood
  go_enter Try.func91, Try.ntmps91
  go_wp2_with fail
  refine Calls.mono HO.out ?_
  rintro e w1 ⟨b, rfl, hbb, hr, hb1⟩
  have HB1 := Lib.hid hb1
  have HPP := Lib.hid (HP.out b w1 hr)
  clear hr hb1 HP HO
  go_wp2_with fail
  refine Calls.mono HPP.out ?_
  rintro e w2 ⟨A, l, c, rfl, ⟨hs, hA⟩, hl, hsh, ho, hr2⟩
  have HSZ := Lib.hid (l10Pins_any b (0 + 50) c A l w2 hr2 (by omega) hs hA hl.1 hsh)
  have HS := Lib.hid hs
  have HA := Lib.hid hA
  have HL := Lib.hid hl
  have HH := Lib.hid hsh
  have HB2 := Lib.hid (only_below HB1.out hbb ho)
  clear hs hA hl hsh ho hr2 HPP HB1
  go_wp2_with fail
  refine Calls.mono HSZ.out ?_
  rintro e w3 ⟨x, rfl, hx8, ho3⟩
  have HT : Hid (TreeHas w3 A l c) := ⟨HS.out.farO ho3 HA.out, HL.out, HH.out⟩
  have HB3 := Lib.hid (only_below HB2.out hbb ho3)
  have HX := Lib.hid hx8
  clear ho3 hx8 HSZ HB2 HS
  go_wp2
  refine bodyPost_ret (v := .tuple #[.slice A l.length c, .string x]) (by simp [results, Try.results91, go_sem]) rfl ?_
  exact ⟨A, l, c, x, rfl, HT.out, HX.out, HB3.out⟩

set_option maxRecDepth 100000 in
set_option maxHeartbeats 1000000 in
theorem drawPinRoom10 (hgood : GoodSaid) (A0 : Option Addr) (n c0 : Nat) (w : World) (hn : n ≤ c0) (hx : ∀ b, w.heap.size ≤ b → Bytes w b A0 n) :
    Calls Try.prog 39 #[.slice A0 n c0] w fun e w' => ∃ A l c x, e = .returned (.tuple #[.slice A (List.length l) c, .string x]) ∧ TreeHas w' A l c ∧ x.size ≤ 80 ∧ Below w.heap.size w w' := by
  have HO := Lib.hid (drawPinsValid10 hgood A0 n c0 w hn hx)
  clear hx hgood
  go_enter Try.func39, Try.ntmps39
  go_wp2_with fail
  refine Calls.mono HO.out ?_
  rintro e w1 ⟨A, l, c, x, rfl, hT, hxx, hb⟩
  have HT := Lib.hid hT
  have HX := Lib.hid hxx
  have HB := Lib.hid hb
  clear hT hxx hb HO
  go_wp2
  refine bodyPost_ret (v := .tuple #[.slice A l.length c, .string x]) (by simp [results, Try.results39, go_sem]) rfl ?_
  exact ⟨A, l, c, x, rfl, HT.out, HX.out, HB.out⟩

end Go.Proofs.Ytcpiojliakgdlaa
/- States, needs and what they load: no program. -/
namespace Go.Proofs.Ytcpiojliakgdlaa
open Go.RowKit

def IsState (l : List Seg) (T : List Nat) : Prop := T = [] ∨ ∃ j, j < l.length ∧ T = rp l j
theorem IsState.lt {l : List Seg} (hd : Down l l.length) {T : List Nat} (h : IsState l T) : ∀ j ∈ T, j < l.length := by
  rcases h with rfl | ⟨i, hi, rfl⟩
  · intro j hj; cases hj
  · intro j hj
    have := rp_le hd i hi j hj
    omega
theorem IsState.asc {l : List Seg} (hd : Down l l.length) {T : List Nat} (h : IsState l T) : T.Pairwise (· < ·) := by
  rcases h with rfl | ⟨i, hi, rfl⟩
  · exact List.Pairwise.nil
  · exact rp_asc hd i hi
theorem seek_nm {l : List Seg} (hv : validB l = true) {i : Nat} (hi : i < l.length) : indexB l (namesAt l [i]) = (i : Int) := by
  have h1 : indexB l (namesAt l [i]) = seek l (namesAt l [i]) := if_pos hv
  have h2 : 0 ≤ indexB l (namesAt l [i]) := by
    rw [h1]
    have key : ∀ (k : Nat), k ≤ i → seek l (namesAt l [i]) = seekFrom (namesAt l [i]) (l.drop k) k ∨ 0 ≤ seek l (namesAt l [i]) := by
      intro k
      induction k with
      | zero => intro _; exact .inl rfl
      | succ k ih =>
        intro hk
        rcases ih (by omega) with h | h
        · rw [seekFrom_drop l _ k (by omega)] at h
          by_cases hs : sameB (l[k]'(by omega)).name (namesAt l [i]) = true
          · rw [if_pos hs] at h; right; omega
          · rw [if_neg hs] at h; exact .inl h
        · exact .inr h
    rcases key i (Nat.le_refl _) with h | h
    · rw [seekFrom_drop l _ i hi, if_pos (sameB_iff.2 ?_)] at h
      · omega
      · rw [(nmAt_one hv hi).2]
        show _ = (⟨([i].flatMap (nmAt l)).toArray⟩ : ByteArray)
        rw [List.flatMap_cons, (nmAt_one hv hi).1]
        rfl
    · exact h
  have h3 := index_nm h2
  have h4 := namesAt_one_inj hv (index_lt h2) hi h3
  omega

end Go.Proofs.Ytcpiojliakgdlaa

/- Costs, needs one after the other, the cheapest need: no program. -/
namespace Go.Proofs.Ytcpiojliakgdlaa
open Go.RowKit

/-- Where the segment that a byte names stands. -/
def bSeek (l : List Seg) (b : UInt8) : Int := seek l ⟨#[b]⟩
def namedOk (l : List Seg) (bs : List UInt8) : Bool := bs.all (fun b => decide (0 ≤ bSeek l b))
def namedJs (l : List Seg) (bs : List UInt8) : List Nat := bs.map (fun b => (bSeek l b).toNat)
theorem namedOk_snoc (l : List Seg) (bs : List UInt8) (b : UInt8) : namedOk l (bs ++ [b]) = (namedOk l bs && decide (0 ≤ bSeek l b)) := by
  unfold namedOk
  rw [List.all_append]
  simp
theorem namedJs_snoc (l : List Seg) (bs : List UInt8) (b : UInt8) : namedJs l (bs ++ [b]) = namedJs l bs ++ [(bSeek l b).toNat] := by
  unfold namedJs
  rw [List.map_append]
  rfl
theorem namedOk_bad {l : List Seg} {bs : List UInt8} {b : UInt8} (h : b ∈ bs) (hb : bSeek l b < 0) : namedOk l bs = false := by
  unfold namedOk
  rw [List.all_eq_false]
  exact ⟨b, h, by simp; omega⟩
theorem namedJs_lt {l : List Seg} {bs : List UInt8} (h : namedOk l bs = true) : ∀ j ∈ namedJs l bs, j < l.length := by
  intro j hj
  obtain ⟨b, hb, rfl⟩ := List.mem_map.1 hj
  have h1 := List.all_eq_true.1 h b hb
  have h2 : 0 ≤ bSeek l b := by simpa using h1
  rcases seek_bd l ⟨#[b]⟩ with h3 | ⟨_, h3⟩
  · unfold bSeek at h2; omega
  · unfold bSeek at *; omega
theorem bSeek_byte {l : List Seg} (hv : validB l = true) {i : Nat} (hi : i < l.length) : bSeek l (byteOf l i) = (i : Int) := by
  have h := seek_nm hv hi
  have h1 : namesAt l [i] = ⟨#[byteOf l i]⟩ := by
    show (⟨([i].flatMap (nmAt l)).toArray⟩ : ByteArray) = _
    rw [List.flatMap_cons, (nmAt_one hv hi).1]
    rfl
  rw [h1] at h
  have h2 : indexB l ⟨#[byteOf l i]⟩ = seek l ⟨#[byteOf l i]⟩ := if_pos hv
  unfold bSeek
  omega
theorem named_names {l : List Seg} (hv : validB l = true) : ∀ js : List Nat, (∀ j ∈ js, j < l.length) → namedOk l (namesAt l js).data.toList = true ∧ namedJs l (namesAt l js).data.toList = js := by
  intro js hj
  rw [namesAt_map hv js hj]
  induction js with
  | nil => exact ⟨rfl, rfl⟩
  | cons j js ih =>
    obtain ⟨h1, h2⟩ := ih (fun x hx => hj x (List.mem_cons_of_mem _ hx))
    have h3 := bSeek_byte hv (hj j List.mem_cons_self)
    unfold namedOk at h1 ⊢
    unfold namedJs at h2 ⊢
    rw [List.map_cons, List.all_cons, List.map_cons, h1, h2, h3]
    simp

theorem szs_append (l : List Seg) : ∀ js ks, szs l (js ++ ks) = szs l js + szs l ks := by
  intro js ks
  unfold szs
  rw [List.map_append, List.sum_append]
theorem szs_bd {l : List Seg} (h : validB l = true) : ∀ js : List Nat, (∀ j ∈ js, j < l.length) → (js.length : Int) ≤ szs l js ∧ szs l js ≤ 99 * (js.length : Int)
  | [], _ => by simp [szs]
  | j :: js, hj => by
    have h1 := szs_bd h js (fun x hx => hj x (List.mem_cons_of_mem _ hx))
    have h2 := sizeAt_bd h (hj j List.mem_cons_self)
    have h3 : szs l (j :: js) = sizeAt l j + szs l js := rfl
    rw [h3, List.length_cons]
    omega

def costB (l : List Seg) (s : ByteArray) : Int := if validB l = true ∧ namedOk l s.data.toList = true then szs l (namedJs l s.data.toList) else -1
theorem costB_names {l : List Seg} (hv : validB l = true) {js : List Nat} (hj : ∀ j ∈ js, j < l.length) : costB l (namesAt l js) = szs l js := by
  obtain ⟨h1, h2⟩ := named_names hv js hj
  unfold costB
  rw [if_pos ⟨hv, h1⟩, h2]

end Go.Proofs.Ytcpiojliakgdlaa
/- Where a node lies: the program's own place, by the parents. -/
namespace Go.Proofs.Ytcpiojliakgdlaa
open Go.RowKit

/-- What place reads of the nodes. -/
def Placed (w : World) (l : List Seg) (nb : Nat → Nat) : Prop := ∀ j, j < l.length → nb j < w.heap.size ∧ w.cell? ⟨nb j, 1, none⟩ = some (.int .i64 (sizeAt l j)) ∧ w.cell? ⟨nb j, 2, none⟩ = some (.pointer (parPtr l nb j))
theorem Placed.below {w w' : World} {l : List Seg} {nb : Nat → Nat} (h : Placed w l nb) (hb : Below w.heap.size w w') : Placed w' l nb := fun j hj => by
  obtain ⟨h1, h2, h3⟩ := h j hj
  exact ⟨Nat.lt_of_lt_of_le h1 hb.size, (hb.cell (p := ⟨nb j, 1, none⟩) h1).trans h2, (hb.cell (p := ⟨nb j, 2, none⟩) h1).trans h3⟩
theorem Nodes.placed {w : World} {B g : Nat} {l : List Seg} {nb : Nat → Nat} {cv : Nat → Value} (h : Nodes w B g l.length l.length l nb cv) : Placed w l nb := fun j hj => by
  have h1 := h.node j _ hj (List.getElem?_eq_getElem hj)
  refine ⟨h1.lt, ?_, h1.cell 2⟩
  rw [sizeAt_of hj]
  exact h1.cell 1

theorem run_end (a b : Int) (w : World) : (Instr.field 84 (.agg #[.int .i64 a, .int .i64 b]) 1).run Try.prog w = .ok (.int .i64 b) w := by kernel_rfl

set_option maxRecDepth 100000 in
set_option maxHeartbeats 400000 in
theorem place_any (l : List Seg) (nb : Nat → Nat) (hv : validB l = true) : ∀ i, i < l.length → ∀ w, Placed w l nb →
    Calls Try.prog 74 #[.pointer (some ⟨nb i, 0, none⟩)] w fun e w' => e = .returned (.agg #[.int .i64 (begAt l i), .int .i64 (endAt l i)]) ∧ Below w.heap.size w w' := by
  refine rp_ind (valid_all hv).1.down (fun i hi hp w hw => ?_) (fun i p hi hpi hp ih w hw => ?_)
  · obtain ⟨h1, c1, c2⟩ := hw i hi
    have hpp : parPtr l nb i = none := if_pos hp
    have HB : Hid (begAt l i = 0 ∧ endAt l i = sizeAt l i) := by
      have a := begAt_root hp
      have b := endAt_beg l i
      exact ⟨a, by omega⟩
    obtain ⟨z1, z2⟩ := sizeAt_bd hv hi
    rw [hpp] at c2
    clear hw hpp hp
    rw [HB.out.1, HB.out.2]
    generalize sizeAt l i = sz at *
    go_enter Try.func74, Try.ntmps74
    go_wp2
    refine bodyPost_ret (v := .agg #[.int .i64 0, .int .i64 sz]) (by simp [results, Try.results74, go_sem]) rfl ⟨rfl, ?_⟩
    repeat (first | exact Below.refl _ _ | refine Below.setCell ?_ (by simp) _ | refine Below.alloc ?_ (by simp; try omega) _)
  · obtain ⟨h1, c1, c2⟩ := hw i hi
    have hd := (valid_all hv).1.down i hi
    have hpp : parPtr l nb i = some ⟨nb p, 0, none⟩ := by
      unfold parPtr
      rw [if_neg (by omega), hp, Int.toNat_natCast]
    have HB : Hid (begAt l i = endAt l p ∧ endAt l i = endAt l p + sizeAt l i) := by
      have a := begAt_step (valid_all hv).1.down hi hp
      have b := endAt_beg l i
      exact ⟨a, by omega⟩
    obtain ⟨z1, z2⟩ := sizeAt_bd hv hi
    obtain ⟨e1, e2, e3⟩ := place_small hv (show p < l.length by omega)
    have e0 : 0 ≤ endAt l p := by omega
    rw [hpp] at c2
    have HW := Lib.hid hw
    have HI := Lib.hid ih
    clear hw hpp hp ih hd e1 e2
    rw [HB.out.1, HB.out.2]
    clear HB
    have hz0 : w.heap.size < w.heap.size + 1 := Nat.lt_succ_self _
    have hf1 := run_end
    go_enter Try.func74, Try.ntmps74
    go_wp2_with fail
    refine (HI.out _ (HW.out.below ((Below.refl _ _).alloc (Nat.le_refl _) _))).mono ?_
    rintro e w1 ⟨rfl, hb1⟩
    have hb : Below w.heap.size w w1 := ((Below.refl _ w).alloc (Nat.le_refl _) _).trans (hb1.mono (by simp))
    rw [← hb.cell (p := ⟨nb i, 1, none⟩) h1] at c1
    rw [← hb.cell (p := ⟨nb i, 2, none⟩) h1] at c2
    have hr : Row w1 w.heap.size 84 #[.int .i64 0, .int .i64 0] := (Row.new w _ _).below hb1 (by simp)
    have r0 := hr.cell 0
    have r1 := hr.cell 1
    have f0 := hr.free 0
    have f1 := hr.free 1
    have hz := hr.lt
    have H := Lib.hid hb
    clear hb hb1 hr HW HI
    go_wp2
    refine bodyPost_ret (v := .agg #[.int .i64 (endAt l p), .int .i64 (endAt l p + sizeAt l i)]) (by simp [results, Try.results74, go_sem, r0, r1]) rfl ⟨rfl, ?_⟩
    repeat (first | exact H.out | refine Below.setCell ?_ (by simp) _ | refine Below.alloc ?_ (by simp; try omega) _)

end Go.Proofs.Ytcpiojliakgdlaa
/- The program's rooms: where segments begin and end, the whole room, what is saved. -/
namespace Go.Proofs.Ytcpiojliakgdlaa
open Go.RowKit

set_option maxRecDepth 100000 in
set_option maxHeartbeats 400000 in
theorem endsBehind_any (a b x y : Int) (w : World) :
    Calls Try.prog 128 #[.agg #[.int .i64 a, .int .i64 b], .agg #[.int .i64 x, .int .i64 y]] w fun e w' => e = .returned (.bool (decide (y < b))) ∧ Below w.heap.size w w' := by
  go_enter Try.func128, Try.ntmps128
  go_wp2
  go_ret
  refine ⟨ret_bool (by simp), ?_⟩
  repeat (first | exact Below.refl _ _ | refine Below.setCell ?_ (by simp) _ | refine Below.alloc ?_ (by simp; try omega) _)

/-- Of two the one that ends later, the first if neither does. -/
def laterOf (l : List Seg) (i j : Nat) : Nat := if endAt l i < endAt l j then j else i

set_option maxRecDepth 100000 in
set_option maxHeartbeats 400000 in
theorem endingLast_any (l : List Seg) (nb : Nat → Nat) (hv : validB l = true) (i j : Nat) (hi : i < l.length) (hj : j < l.length) (w : World) (hw : Placed w l nb) :
    Calls Try.prog 90 #[.pointer (some ⟨nb i, 0, none⟩), .pointer (some ⟨nb j, 0, none⟩)] w fun e w' => e = .returned (.pointer (some ⟨nb (laterOf l i j), 0, none⟩)) ∧ Below w.heap.size w w' := by
  have HW := Lib.hid hw
  have HV := Lib.hid hv
  clear hw hv
  by_cases h : endAt l i < endAt l j
  · have hd : decide (endAt l i < endAt l j) = true := decide_eq_true h
    have HP : Hid ((some ⟨nb (laterOf l i j), 0, none⟩ : Option Addr) = some ⟨nb j, 0, none⟩) := by
      show _ = _
      unfold laterOf
      rw [if_pos h]
    clear h
    go_enter Try.func90, Try.ntmps90
    go_wp2_with fail
    refine (place_any l nb HV.out j hj _ HW.out).mono ?_
    rintro e w1 ⟨rfl, hb1⟩
    go_wp2_with fail
    refine (place_any l nb HV.out i hi _ (HW.out.below hb1)).mono ?_
    rintro e w2 ⟨rfl, hb2⟩
    have B2 := hb1.trans (hb2.mono hb1.size)
    clear hb1 hb2
    go_wp2_with fail
    refine (endsBehind_any _ _ _ _ _).mono ?_
    rw [hd]
    rintro e w3 ⟨rfl, hb3⟩
    have B3 := B2.trans (hb3.mono B2.size)
    clear B2 hb3 hd
    go_wp2
    go_ret
    exact ⟨ret_ptr HP.out.symm, B3⟩
  · have hd : decide (endAt l i < endAt l j) = false := decide_eq_false h
    have HP : Hid ((some ⟨nb (laterOf l i j), 0, none⟩ : Option Addr) = some ⟨nb i, 0, none⟩) := by
      show _ = _
      unfold laterOf
      rw [if_neg h]
    clear h
    go_enter Try.func90, Try.ntmps90
    go_wp2_with fail
    refine (place_any l nb HV.out j hj _ HW.out).mono ?_
    rintro e w1 ⟨rfl, hb1⟩
    go_wp2_with fail
    refine (place_any l nb HV.out i hi _ (HW.out.below hb1)).mono ?_
    rintro e w2 ⟨rfl, hb2⟩
    have B2 := hb1.trans (hb2.mono hb1.size)
    clear hb1 hb2
    go_wp2_with fail
    refine (endsBehind_any _ _ _ _ _).mono ?_
    rw [hd]
    rintro e w3 ⟨rfl, hb3⟩
    have B3 := B2.trans (hb3.mono B2.size)
    clear B2 hb3 hd
    go_wp2
    go_ret
    exact ⟨ret_ptr HP.out.symm, B3⟩

set_option maxRecDepth 100000 in
set_option maxHeartbeats 400000 in
theorem fold_any (B g : Nat) (l : List Seg) (nb : Nat → Nat) (cv : Nat → Value) (w : World) (hN : Nodes w B g l.length l.length l nb cv) (hv : validB l = true) :
    Calls Try.prog 89 #[.slice (some ⟨g, 0, none⟩) l.length l.length, .func (.func 90) #[] #[]] w fun e w' => e = .returned (.pointer (some ⟨nb (lastIx l (l.length - 1)), 0, none⟩)) ∧ Below w.heap.size w w' := by
  have HN := Lib.hid hN
  have HV := Lib.hid hv
  obtain ⟨-, hl8, hl1⟩ := valid_all hv
  obtain ⟨cs, hrow, -, hci⟩ := hN.row
  have HC : Hid (∀ i, i < l.length → w.cell? ⟨g, i, none⟩ = some (.pointer (some ⟨nb i, 0, none⟩))) := fun i hi => by rw [hrow.cell]; exact hci i hi
  have hg := hrow.lt
  have c0 := HC.out 0 (by omega)
  clear hN hv hrow hci cs
  go_enter Try.func89, Try.ntmps89
  go_wp2
  · have H1 := Lib.hid h
    clear h
    go_loop [5, 14] (fun v i => v = .pointer (some ⟨nb 0, 0, none⟩) ∧ i = .int .i64 0) (fun _ _ => 0)
    case atStart => exact ⟨rfl, rfl⟩
    case round =>
      obtain ⟨rfl, rfl⟩ := hrel
      have HE : Hid (lastIx l (l.length - 1) = 0) := by
        show lastIx l (l.length - 1) = 0
        rw [H1.out]; rfl
      go_wp2
      go_ret
      exact ⟨ret_ptr (by rw [HE.out]), Below.refl _ _⟩
  · go_loopw [5, 14] (fun v i wr => ∃ (k : Nat), k + 1 ≤ l.length ∧ i = .int .i64 k ∧ v = .pointer (some ⟨nb (lastIx l k), 0, none⟩) ∧ Below w.heap.size w wr)
      (fun _ i _ => l.length - (intOf i).toNat)
    case atStart => exact ⟨0, by omega, rfl, rfl, Below.refl _ _⟩
    case round =>
      obtain ⟨k, hk, rfl, rfl, hb⟩ := hrel
      have hle := lastIx_le l k
      by_cases hlt : k + 1 < l.length
      · have HR : Hid (nb (lastIx l (k + 1)) = nb (laterOf l (lastIx l k) (k + 1))) := rfl
        have ck : wr.cell? ⟨g, 1 + k, none⟩ = some (.pointer (some ⟨nb (k + 1), 0, none⟩)) := by
          rw [Nat.add_comm 1 k, hb.cell (p := ⟨g, k + 1, none⟩) hg]
          exact HC.out (k + 1) hlt
        clear c0
        have hlt2 : (k : Int) < ((l.length - 1 : Nat) : Int) := by omega
        have hlt3 : decide (k < l.length - 1) = true := decide_eq_true (by omega)
        have hlt4 : k < l.length - 1 := by omega
        go_wp2_with fail
        refine (endingLast_any l nb HV.out (lastIx l k) (k + 1) (by omega) hlt _ (HN.out.placed.below hb)).mono ?_
        rintro e w1 ⟨rfl, hb1⟩
        have B1 := hb.trans (hb1.mono hb.size)
        clear hb hb1
        rw [← HR.out]
        go_wp2
        go_roundw
        case rel => exact ⟨k + 1, by omega, by go_num, rfl, B1⟩
        case measure => simp [intOf]; omega
      · obtain rfl : k = l.length - 1 := by omega
        go_wp2
        go_ret
        exact ⟨rfl, hb⟩

end Go.Proofs.Ytcpiojliakgdlaa
