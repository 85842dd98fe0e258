/- The program's reader: readName. -/
import Derived.Test.YtfdcmlmemcbblaaRy
import Derived.Laws.IdiomStrings
namespace Go.Proofs.Ytfdcmlmemcbblaa
open Go.RowKit

theorem Only.andBelow {w w1 w2 : World} {may : Nat → Prop} (h : Only w w1 may) (hb : Below w1.heap.size w1 w2) : Only w w2 may :=
  ⟨hb.os.trans h.os, hb.tape.trans h.tape, hb.output.trans h.output, Nat.le_trans h.size hb.size, fun k hk hm => (hb.block k (Nat.lt_of_lt_of_le hk h.size)).trans (h.block k hk hm)⟩

/-- What readName has done. -/
def NamePost (w : World) (b : Nat) (t : ByteArray) (k : Nat) (tr : List Seg) (v : Value) (e : Ending) (w' : World) : Prop :=
  ((∃ c : UInt8, (t.data.toList.drop k) = c :: t.data.toList.drop (k + 1) ∧ k < t.size ∧ nameOk ⟨#[c]⟩ = true ∧ takenB tr ⟨#[c]⟩ = false ∧ e = .returned (.string ⟨#[c]⟩) ∧ Row w' b 110 #[.string t, .int .i64 ((k + 1 : Nat) : Int), v]) ∨
    ((∀ c r, t.data.toList.drop k = c :: r → (nameOk ⟨#[c]⟩ && !takenB tr ⟨#[c]⟩) = false) ∧ Died e)) ∧ Only w w' (· = b)

set_option maxRecDepth 100000 in
set_option maxHeartbeats 2000000 in
theorem readName_any (b : Nat) (t : ByteArray) (k : Nat) (A : Option Addr) (tr : List Seg) (cap : Nat) (w : World) (hr : Row w b 110 #[.string t, .int .i64 k, .slice A tr.length cap]) (hw : Segs w w.heap.size A tr) (hl : tr.length ≤ 1048576) (hk : k ≤ t.size) (ht : t.size ≤ 1048576) :
    Calls Try.prog 120 #[.pointer (some ⟨b, 0, none⟩)] w (NamePost w b t k tr (.slice A tr.length cap)) := by
  have c0 : w.cell? ⟨b, 0, none⟩ = some (.string t) := hr.cell 0
  have c1 : w.cell? ⟨b, 1, none⟩ = some (.int .i64 k) := hr.cell 1
  have c2 : w.cell? ⟨b, 2, none⟩ = some (.slice A tr.length cap) := hr.cell 2
  have HR := Lib.hid hr
  have HW : Hid (Segs w w.heap.size A tr) := hw
  clear hr hw
  have hk0 : (0 : Int) ≤ (k : Int) := Int.natCast_nonneg _
  by_cases hlt : k < t.size
  · have hlt' : (k : Int) < (t.size : Int) := by omega
    have hg : ((k : Int) == (t.size : Int)) = false := by rw [beq_eq_false_iff_ne]; omega
    have hne : ¬ (k : Int) = (t.size : Int) := by omega
    have HD : Hid (t.data.toList.drop k = t[k] :: t.data.toList.drop (k + 1)) := List.drop_eq_getElem_cons (by simpa using hlt)
    have hcv : ∀ q, (convert 22 9 (.slice (some ⟨w.heap.size, 0, none⟩) 1 1)).run Try.prog ((w.drewN q).alloc (.cells #[.int .u8 (t[k].toNat : Int)] 5)) = .ok (.string ⟨#[t[k]]⟩) ((w.drewN q).alloc (.cells #[.int .u8 (t[k].toNat : Int)] 5)) := fun q =>
      run_convert_bytes_back (P := Try.prog) _ 22 9 5 ⟨w.heap.size, 0, none⟩ 1 [t[k]] Try.underlying22 Try.underlying5 Try.underlying9 (fun j hj => by
        have : j = 0 := by simp at hj; omega
        subst this
        have := (Row.new (w.drewN q) 5 #[.int .u8 (t[k].toNat : Int)]).cell 0
        exact this)
    go_enter Try.func120, Try.ntmps120
    go_wp2_with fail
    go_quiet (fail)
    go_wp2_with fail
    go_region
    all_goals go_wp2_with fail
    have hB1 : Below w.heap.size w ((w.drewN (nq + 1)).alloc (.cells #[.int .u8 (t[k].toNat : Int)] 5)) := (below_drewN (Below.refl _ w) _).alloc (Nat.le_refl _) _
    have hO1 : Only w ((w.drewN (nq + 1)).alloc (.cells #[.int .u8 (t[k].toNat : Int)] 5)) (· = b) := ⟨hB1.os, hB1.tape, hB1.output, hB1.size, fun q hq _ => hB1.block q hq⟩
    have hR1 : Row ((w.drewN (nq + 1)).alloc (.cells #[.int .u8 (t[k].toNat : Int)] 5)) b 110 #[.string t, .int .i64 k, .slice A tr.length cap] := HR.out.below hB1 HR.out.lt
    have hW1 := (HW.out.below hB1).more hB1.size
    generalize (w.drewN (nq + 1)).alloc (.cells #[.int .u8 (t[k].toNat : Int)] 5) = W1 at *
    have HW1 := Lib.hid hW1
    have HR1 := Lib.hid hR1
    have HO1 := Lib.hid hO1
    have d1 : W1.cell? ⟨b, 1, none⟩ = some (.int .i64 k) := hR1.cell 1
    have d2 : W1.cell? ⟨b, 2, none⟩ = some (.slice A tr.length cap) := hR1.cell 2
    have z1 : W1.frozen? ⟨b, 1, none⟩ = false := hR1.free 1
    clear hW1 hR1 hO1 hB1 hcv c0 c1 c2
    cases hn : nameOk ⟨#[t[k]]⟩ with
    | false =>
      have HN := Lib.hid hn
      refine (nameValid_any ⟨#[t[k]]⟩ _ (show 1 ≤ maxLen by decide)).mono ?_
      rw [hn]
      clear hn
      rintro e w2 ⟨rfl, rfl⟩
      go_wp2
      exact ⟨rfl, .inr ⟨fun c r h => (by rw [HD.out] at h; injection h with h1 _; rw [← h1, HN.out]; rfl), _, rfl⟩, HO1.out⟩
    | true =>
      have HN := Lib.hid hn
      refine (nameValid_any ⟨#[t[k]]⟩ _ (show 1 ≤ maxLen by decide)).mono ?_
      rw [hn]
      clear hn
      rintro e w2 ⟨rfl, rfl⟩
      go_wp2_with fail
      cases htk : takenB tr ⟨#[t[k]]⟩ with
      | true =>
        have HT := Lib.hid htk
        refine (nameTaken_any A tr cap ⟨#[t[k]]⟩ _ HW1.out hl).mono ?_
        rw [htk]
        clear htk
        rintro e w2 ⟨rfl, hb2⟩
        have HO2 := Lib.hid (HO1.out.andBelow hb2)
        go_wp2
        exact ⟨rfl, .inr ⟨fun c r h => (by rw [HD.out] at h; injection h with h1 _; rw [← h1, HN.out, HT.out]; rfl), _, rfl⟩, HO2.out⟩
      | false =>
        have HT := Lib.hid htk
        refine (nameTaken_any A tr cap ⟨#[t[k]]⟩ _ HW1.out hl).mono ?_
        rw [htk]
        clear htk
        rintro e w2 ⟨rfl, hb2⟩
        have HO2 := Lib.hid (HO1.out.andBelow hb2)
        have hR2 := HR1.out.below hb2 HR1.out.lt
        have HR2 := Lib.hid hR2
        have d1 : w2.cell? ⟨b, 1, none⟩ = some (.int .i64 k) := hR2.cell 1
        have z1 : w2.frozen? ⟨b, 1, none⟩ = false := hR2.free 1
        clear hR2
        go_wp2
        go_ret
        exact ⟨.inl ⟨t[k], HD.out, hlt, HN.out, HT.out, rfl, Row.put HR2.out 1 _⟩, HO2.out.set 1 _⟩
  · have hg : ((k : Int) == (t.size : Int)) = true := by rw [beq_iff_eq]; omega
    have heq : (k : Int) = (t.size : Int) := by omega
    have HD : Hid (t.data.toList.drop k = []) := List.drop_of_length_le (by simp; omega)
    go_enter Try.func120, Try.ntmps120
    go_wp2_with fail
    go_quiet (fail)
    go_wp2
    exact ⟨rfl, .inr ⟨fun c r h => (by rw [HD.out] at h; cases h), _, rfl⟩, (Only.refl w _).drewN' _⟩

end Go.Proofs.Ytfdcmlmemcbblaa
