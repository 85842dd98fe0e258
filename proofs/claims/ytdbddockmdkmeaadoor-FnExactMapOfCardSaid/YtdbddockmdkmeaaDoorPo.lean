/- PathOf: the program's and the model's. -/
import Derived.Test.YtdbddockmdkmeaaDoorJr
import Derived.Test.YtdbddockmdkmeaaDoorCh
namespace Go.Proofs.YtdbddockmdkmeaaDoor
open Go.RowKit Go.Shelf

def namesAt (l : List Seg) (js : List Nat) : ByteArray := ⟨(js.flatMap (nmAt l)).toArray⟩
theorem namesAt_snoc {l : List Seg} (js : List Nat) {j : Nat} (hj : j < l.length) : namesAt l (js ++ [j]) = namesAt l js ++ l[j].name := by
  apply WideShapes.bytes_inj
  show _ = (namesAt l js ++ l[j].name).data.toList
  rw [ByteArray.data_append, Array.toList_append]
  show (js ++ [j]).flatMap (nmAt l) = js.flatMap (nmAt l) ++ _
  rw [List.flatMap_append, List.flatMap_cons, List.flatMap_nil, List.append_nil, nmAt_of hj]
theorem nmAt_len {l : List Seg} (h : ∀ s ∈ l, s.name.size ≤ 1) (j : Nat) : (nmAt l j).length ≤ 1 := by
  unfold nmAt
  cases hj : l[j]? with
  | none => exact Nat.zero_le _
  | some s =>
    have := h s (List.mem_of_getElem? hj)
    simpa using this
theorem namesAt_len {l : List Seg} (h : ∀ s ∈ l, s.name.size ≤ 1) : ∀ js : List Nat, (namesAt l js).size ≤ js.length
  | [] => Nat.le_refl 0
  | j :: js => by
    have h1 := namesAt_len h js
    have h2 := nmAt_len h j
    have e1 : ∀ is : List Nat, (namesAt l is).size = (is.flatMap (nmAt l)).length := fun is => by simp [namesAt, ByteArray.size]
    rw [e1] at h1 ⊢
    rw [List.flatMap_cons, List.length_append, List.length_cons]
    omega

set_option maxRecDepth 100000 in
set_option maxHeartbeats 400000 in
theorem l1Names_any (A : Option Addr) (l : List Seg) (c g cap base : Nat) (js : List Nat) (w : World) (hw : Segs w w.heap.size A l) (hl : l.length ≤ 1048576) (hone : ∀ s ∈ l, s.name.size ≤ 1) (hjs : ∀ j ∈ js, j < l.length) (hjl : js.length ≤ 1048577)
    (hown : w.ownsRow base 3 1 (.slice (some ⟨g, 0, none⟩) js.length cap) js.length ((js.map fun j : Nat => (j : Int)).map (Value.int .i64))) :
    Calls Tryd.prog 78 #[.slice A l.length c, .slice (some ⟨g, 0, none⟩) js.length cap] w fun e w' => e = .returned (.string (namesAt l js)) ∧ w = w' := by
  have HW : Hid (Segs w w.heap.size A l) := hw
  have HO := Lib.hid hown
  have HJ := Lib.hid hjs
  have H1 := Lib.hid hone
  clear hw hown hjs hone
  go_enter Tryd.func78, Tryd.ntmps78
  go_wp2
  go_loop [5, 10] (fun s i => ∃ (k : Nat), k ≤ js.length ∧ i = .int .i64 k ∧ s = .string (namesAt l (js.take k)))
    (fun _ i => js.length - (intOf i).toNat)
  case atStart => exact ⟨0, Nat.zero_le _, rfl, rfl⟩
  case round =>
    obtain ⟨k, hk, rfl, rfl⟩ := hrel
    by_cases hlt : k < js.length
    · have hj := HJ.out js[k] (List.getElem_mem hlt)
      have hc : w.cell? ⟨g, k, none⟩ = some (.int .i64 (js[k] : Int)) := by
        rw [HO.out.cellAt k (by omega)]
        simp [hlt]
      obtain ⟨b, o, rfl, hB, hc'⟩ := HW.out (by omega)
      obtain ⟨c0, c1, c2⟩ := hc' js[k] l[js[k]] (List.getElem?_eq_getElem hj)
      clear hc' c1 c2
      have HQ : Hid (namesAt l (js.take (k + 1)) = namesAt l (js.take k) ++ l[js[k]].name) := by
        show _ = _
        rw [List.take_succ_eq_append_getElem hlt, namesAt_snoc _ hj]
      have hlen : (namesAt l (js.take k)).size ≤ 1048577 := by
        have h1 := namesAt_len H1.out (js.take k)
        rw [List.length_take] at h1
        omega
      have hx1 := H1.out l[js[k]] (List.getElem_mem hj)
      have hj0 : (0 : Int) ≤ (js[k] : Int) := Int.natCast_nonneg _
      have hj1 : (js[k] : Int) < (l.length : Int) := by omega
      generalize l[js[k]] = x at *
      generalize js[k] = j at *
      go_wp2
      go_round
      case rel => exact ⟨k + 1, by omega, by go_num, by rw [HQ.out]⟩
      case measure => simp [intOf]; omega
    · obtain rfl : k = js.length := by omega
      have HE : Hid (namesAt l (js.take js.length) = namesAt l js) := by
        show _ = _
        rw [List.take_length]
      go_wp2
      go_ret
      exact ⟨by rw [← HE.out]; rfl, rfl⟩

def pathStr (l : List Seg) (s : ByteArray) : ByteArray := if indexB l s < 0 then ⟨#[]⟩ else namesAt l (rootPath l ((indexB l s).toNat + 1) (indexB l s).toNat)

end Go.Proofs.YtdbddockmdkmeaaDoor
