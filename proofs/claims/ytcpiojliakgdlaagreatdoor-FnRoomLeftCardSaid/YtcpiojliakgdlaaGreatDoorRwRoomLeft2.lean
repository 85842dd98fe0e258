/- For every two slices of bytes, the law FnRoomLeft returns true and leaves its arguments as they were: of every drawn tree and name the program tells as the reference does by how much the segment can grow; grown by that it leaves the tree its room, by one more it does not, if it can be so great at all; a resized segment has the size that was asked for; and a trace with one name for another has as many calls. The tied card: utf8's tables as the text lays them. -/
import Derived.Test.YtcpiojliakgdlaaGreatDoorU08
import Derived.Test.YtcpiojliakgdlaaGreatDoorU26
import Derived.Test.YtcpiojliakgdlaaGreatDoorCards
import Derived.Test.YtcpiojliakgdlaaGreatDoorTie
import Derived.LaidMore
import Derived.Lay
import Derived.OpenShut
import Derived.ChangeVars
import Derived.OpenVars
import Derived.SevenTiedAt
import Derived.Stop.Joined
import Derived.Shelf.Vars
import Derived.Test.YtcpiojliakgdlaaGreatDoorU06
import Derived.Test.YtcpiojliakgdlaaGreatDoorZa
import Derived.Test.YtcpiojliakgdlaaGreatDoorZb
import Derived.Test.YtcpiojliakgdlaaGreatDoorZc
namespace Go.Proofs.YtcpiojliakgdlaaGreatDoor.lawRoomLeft2
open Go.ChangeShapes Go.WideShapes Go.ChangeAt Go.RowKit
open Go.ChangeMaps (open_string shut_string)

theorem cell9_lt {w : World} {p : Addr} {v : Value} (h : w.cell? p = some v) : 0 < w.heap.size := by
  refine Nat.pos_of_ne_zero fun e => ?_
  have : w.heap = #[] := Array.eq_empty_of_size_eq_zero e
  unfold World.cell? at h
  rw [this] at h
  simp at h

set_option maxRecDepth 100000 in
theorem lifted (os : Os) (started : os.Started) (H : Type) (enc : TypeId × Value → H) :
    ReturnsInHanded {} Tryz.checked os 3 .any (fun w args => (Rows.fnRoomLeftSpec.pre enc Tryz.prog Tryz.f3 Rows.fnRoomLeftRow.domain false w args ∧ laidMetH Tryz.prog Rows.fnRoomLeftRow.laid w) ∧ sizedMet enc Tryz.prog Tryz.f3 (OpenSpec.ofChange Rows.fnRoomLeftSpec) false w args)
      (Rows.fnRoomLeftSpec.post enc Tryz.prog Tryz.f3 false true false false) := by
  refine returnsInHanded_of_calls (C := Tryz.checked) own started (by kernel_rfl)
    (ChangeSpec.witness_shaped (enc := enc) (C := Tryz.checked) (os := os) (X := fun w _ => laidMetH Tryz.prog Rows.fnRoomLeftRow.laid w) false (World.laidAll Tryz.prog os Rows.fnRoomLeftRow.laid) #[.slice none 0 0, .slice none 0 0] 8 (World.laidAll_os _ _ _) (World.shaped_of_ZipB (by kernel_rfl) (by kernel_rfl)) (by kernel_rfl) (by kernel_rfl) (by kernel_rfl) (by rw [MakeChecks.laidMetH_plain _ _ _ (by kernel_rfl)]; exact laidMet_laidAll _ (by kernel_rfl) (by kernel_rfl))) ?_
  intro w0 tape input _ hsh _ hok hpre _
  obtain ⟨_, _, _, fn', hfn', _, _, _, _, hval1⟩ := hok
  obtain rfl : fn' = Tryz.f3 := Option.some.inj (hfn'.symm.trans Tryz.func3)
  obtain ⟨⟨⟨ds, gs, before, hw0, hcnd⟩, hx⟩, hz⟩ := hpre
  have hW := DataW.Whole.of_heap (w' := w0.forCall tape input) (by rfl) hw0
  suffices hend : Calls Tryz.prog 3 input.args (w0.forCall tape input) fun e W' => ∃ v, e = .returned v ∧ Rows.fnRoomLeftSpec.post enc Tryz.prog Tryz.f3 false true false false (w0.forCall tape input) input.args v W' from
    hend.mono fun e W' ⟨v, he, hp⟩ => by
      subst he
      exact ChangeSpec.post_blind hp
  have hval0 : ∀ (j : Nat) t v, Tryz.f3.params[j]? = some t → input.args[j]? = some v → Value.okWide Tryz.prog (w0.forCall tape input) .any w0.heap.size t v := hval1
  obtain ⟨m, hm0⟩ : ∃ m, (w0.forCall tape input).cell? ⟨0, 0, none⟩ = some (.int .i64 m) := cell_of_shapedOpen_int (P := Tryz.prog) (g := 0) (t := 3) (zero := #[.int .i64 0]) hsh (of_decide_eq_true (by kernel_rfl)) (by kernel_rfl) rfl (by kernel_rfl) (by kernel_rfl) Tryz.underlying3
  clear hsh hw0 hval1 hx hz hcnd
  generalize w0.heap.size = base at *
  generalize hargs0 : input.args = args at *
  generalize w0.forCall tape input = W at *
  have hval : ∀ (j : Nat) t v, Tryz.f3.params[j]? = some t → args[j]? = some v → Value.okWide Tryz.prog W .any base t v := hval0
  have hW' := hW
  obtain ⟨p, q, hA0, hV, rfl, hfz, hnd⟩ := hW
  have hA : DataW.TrodAll enc Tryz.prog W 0 (fun _ => true) true Tryz.f3.params.toList args.toList ds p := hA0
  rw [Tryz.params3] at hA hval
  obtain ⟨v0, vs0, d0, ds0, p0, q0, hargs, rfl, rfl, h0, r0⟩ := trodAll_cons hA
  obtain ⟨v1, vs1, d1, ds1, p1, q1, rfl, rfl, rfl, h1, r1⟩ := trodAll_cons r0
  obtain ⟨rfl, rfl, rfl⟩ := trodAll_nil r1
  obtain rfl : args = #[v0, v1] := by cases args; simp_all
  obtain ⟨rfl, rfl⟩ := trodVars_none hV
  obtain ⟨a0, len0, cap0, rfl⟩ := okWide_slice Tryz.underlying22 (hval 0 22 v0 rfl rfl)
  obtain ⟨a1, len1, cap1, rfl⟩ := okWide_slice Tryz.underlying22 (hval 1 22 v1 rfl rfl)
  have k0 := h0
  have k1 := h1
  have lt0 : ∀ x ∈ p0, x.block < W.heap.size := by obtain ⟨m, hm⟩ := k0; exact DataW.trod_lt m _ _ _ hm
  have lt1 : ∀ x ∈ p1, x.block < W.heap.size := by obtain ⟨m, hm⟩ := k1; exact DataW.trod_lt m _ _ _ hm
  obtain ⟨hlc, hl, hb⟩ : len0 ≤ cap0 ∧ len0 ≤ maxLen ∧ ∀ b, W.heap.size ≤ b → Bytes W b a0 len0 := by
    obtain ⟨fuel, hf⟩ := h0
    exact open_bytes hf
  obtain ⟨hlc1, hl1, hb1⟩ : len1 ≤ cap1 ∧ len1 ≤ maxLen ∧ ∀ b, W.heap.size ≤ b → Bytes W b a1 len1 := by
    obtain ⟨fuel, hf⟩ := h1
    exact open_bytes hf
  clear hA0 hval0
  refine (roomLeftLaw_any (fun b P w hP hr => l1Good_any b P w hr hP) a0 len0 cap0 a1 len1 cap1 m W hm0 (cell9_lt hm0) hlc hl hb hlc1 hl1 hb1).mono fun e W' ⟨he, bel⟩ => ?_
  subst he
  exact ⟨_, rfl, _, _, _, [], _, [], hW', trodAll_mk1 (shut_bool Tryz.underlying4 _), (trodAll_cons_mk (Below.trod laidOut (by kernel_rfl) (of_decide_eq_true (by kernel_rfl)) k0 bel lt0) (trodAll_cons_mk (Below.trod laidOut (by kernel_rfl) (of_decide_eq_true (by kernel_rfl)) k1 bel lt1) trodAll_mk0)), rfl, bel.frame _, fun h => by cases h⟩

theorem over : Rows.FnRoomLeftSaid :=
  OpenClaim.holds_of_wide 3 Tryz.f3 rfl rfl rfl rfl rfl rfl rfl ⟨rfl, rfl, rfl, rfl, rfl⟩ rfl rfl rfl rfl rfl (by kernel_rfl) Tryz.func3 (by kernel_rfl)
    (of_decide_eq_true (by kernel_rfl)) (by unfold Func.isWrapper; first | (rw [if_pos (by decide +kernel)]; kernel_rfl) | (rw [if_neg (by decide +kernel)]; exact ⟨rfl, rfl⟩))
    (fun os started H enc _ => lifted os started H enc)

theorem proved : Rows.FnRoomLeftCardSaid :=
  Claim7.holds_tied_plain_at .later [] [.data, .pinned] true (true, "9cdfb630792a7af7d4b19a17fb4f1de9e2974837cb13468da4648abeb3c736ad") false
    over (fun _ h => by cases h) (by kernel_rfl) (fun _ h => by cases h) fnRoomLeft_row_tie rfl ⟨rfl, rfl⟩ (by kernel_rfl) rfl
    (fun f fn hf hfn => by
      obtain rfl : f = 3 := Option.some.inj ((show Tryz.prog.funcNamed "loop.example/segmentrooms/laws.FnRoomLeft" = some 3 by kernel_rfl).symm.trans hf) |>.symm
      obtain rfl : fn = Tryz.f3 := (Option.some.inj (Tryz.func3.symm.trans hfn)).symm
      exact ⟨by kernel_rfl, fun j t ht => by
        rw [Tryz.params3] at ht
        have hm : t ∈ [22, 22] := by simpa using Array.mem_of_getElem? ht
        have hall : ([22, 22].all fun u => !Tryz.prog.wantsStandIn u) = true := by kernel_rfl
        exact (show Tryz.prog.wantsStandIn t = false by simpa using List.all_eq_true.1 hall t hm)⟩)
    (by kernel_rfl)

end Go.Proofs.YtcpiojliakgdlaaGreatDoor.lawRoomLeft2
