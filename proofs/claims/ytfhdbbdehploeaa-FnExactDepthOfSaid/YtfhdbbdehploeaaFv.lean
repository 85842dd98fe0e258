/- The program's DepthOf. -/
import Derived.Test.YtfhdbbdehploeaaFz
namespace Go.Proofs.Ytfhdbbdehploeaa
open Go.RowKit Go.Shelf
attribute [local go_sem] Oper.semAt_some

set_option maxRecDepth 100000 in
set_option maxHeartbeats 2000000 in
theorem implDepthOf_any (A : Option Addr) (l : List Seg) (c : Nat) (t : ByteArray) (w : World) (hw : Segs w w.heap.size A l) (hl : l.length ≤ 1048576) (hlc : l.length ≤ c) (hcm : c ≤ 9223372036854775807) (hn : Short l) (ht : t.size ≤ 1048576) :
    Calls Try.prog 60 #[.slice A l.length c, .string t] w fun e w' => e = .returned (.int .i64 (depthRes l t)) ∧ Below w.heap.size w w' := by
  have HQ := Lib.hid (readTrace_any A l c t w hw hl hlc hcm hn ht)
  unfold depthRes
  cases hR : traceB l t.data.toList with
  | none =>
    rw [hR] at HQ
    clear hw hn hR
    go_enter Try.func60, Try.ntmps60
    go_wp2_with fail
    refine Calls.mono HQ.out ?_
    rintro e w2 ⟨v, rfl, -, hb⟩
    go_wp2
    go_ret
    exact ⟨rfl, hb⟩
  | some f =>
    have hsz := traceB_size hR
    rw [hR] at HQ
    clear hw hn hR
    refine (callsIn_wide (n := 20)).1 ?_
    refine callsIn_of_wp_marks Try.func60 rfl trivial ?_ rfl
    simp only [Try.ntmps60, List.size_toArray, List.length_cons, List.length_nil, Nat.reduceAdd, Nat.reduceSub, Array.replicate_succ, Array.replicate_zero, List.push_toArray, List.append_toArray, List.nil_append, List.cons_append]
    gi_wp2_with fail
    refine ⟨trivial, ?_⟩
    gi_at_call 112
    refine (callsIn_wide.2 HQ.out).mono ?_
    rintro e w2 ⟨v, rfl, (⟨f', hf', hsl⟩ | ⟨h0, -⟩), hb⟩
    · obtain rfl : f = f' := by injection hf'
      have HSL : Hid (SliceIs w2 (· < w2.heap.size) v f) := hsl.keep fun q hq => ⟨hq.2, rfl⟩
      have HB := Lib.hid hb
      obtain ⟨A2, cap2, rfl, -⟩ := id hsl
      clear hsl hb hf' HQ
      gi_wp2_with fail
      refine ⟨trivial, ?_⟩
      gi_at_call 122
      refine (callsIn_wide.2 (chainsOf_any _ _ _ _ _)).mono ?_
      rintro e w3 ⟨rfl, rfl⟩
      gi_wp2
      have hz0 : (((w2.alloc (.cells #[.int .i64 0] 3)).alloc (.cells #[.string ⟨#[]⟩] 9)).alloc (.cells #[.slice A2 f.len cap2] 114)).heap.size = w2.heap.size + 3 := by simp
      have hr0 : Row (((w2.alloc (.cells #[.int .i64 0] 3)).alloc (.cells #[.string ⟨#[]⟩] 9)).alloc (.cells #[.slice A2 f.len cap2] 114)) w2.heap.size 3 #[.int .i64 ((mxLen [] : Nat) : Int)] := ((Row.new w2 _ _).alloc _).alloc _
      have hr1 : Row (((w2.alloc (.cells #[.int .i64 0] 3)).alloc (.cells #[.string ⟨#[]⟩] 9)).alloc (.cells #[.slice A2 f.len cap2] 114)) (w2.heap.size + 1) 9 #[.string ⟨#[]⟩] := by
        have := Row.new (w2.alloc (.cells #[.int .i64 0] 3)) 9 #[.string ⟨#[]⟩]
        rw [World.size_alloc] at this
        exact this.alloc _
      have hr2 : Row (((w2.alloc (.cells #[.int .i64 0] 3)).alloc (.cells #[.string ⟨#[]⟩] 9)).alloc (.cells #[.slice A2 f.len cap2] 114)) (w2.heap.size + 2) 114 #[.slice A2 f.len cap2] := by
        have := Row.new ((w2.alloc (.cells #[.int .i64 0] 3)).alloc (.cells #[.string ⟨#[]⟩] 9)) 114 #[.slice A2 f.len cap2]
        rw [World.size_alloc, World.size_alloc] at this
        exact this
      have hb0 : Below w2.heap.size w2 (((w2.alloc (.cells #[.int .i64 0] 3)).alloc (.cells #[.string ⟨#[]⟩] 9)).alloc (.cells #[.slice A2 f.len cap2] 114)) := (((Below.refl _ w2).alloc (Nat.le_refl _) _).alloc (by simp) _).alloc (by simp; omega) _
      generalize ((w2.alloc (.cells #[.int .i64 0] 3)).alloc (.cells #[.string ⟨#[]⟩] 9)).alloc (.cells #[.slice A2 f.len cap2] 114) = W0 at *
      refine wpIn_rangeFunc_R (by omega) (gf := 157) (lb := #[.pointer (some ⟨w2.heap.size + 1 + 1, 0, none⟩), .pointer (some ⟨w2.heap.size + 1, 0, none⟩)]) rfl (enters_of Try.func157 (by kernel_rfl) rfl)
        (chains1_seq w2.heap.size (w2.heap.size + 1) (fun x => x) (f.size + 1) f [] f.size 19 (w2.heap.size + 2) (w2.heap.size + 1) (.slice A2 f.len cap2) W0 (by omega) (by simp; omega) (fun _ _ => rfl) ⟨.inr (by omega), by decide, hr2⟩ ⟨.inr (by omega), by decide, hr1⟩ (HSL.out.below hb0) (by omega) (Nat.le_refl _) (by omega))
        (by omega) (by omega) (Below.refl _ _) (fun _ => rfl)
        (fun pre W => Row W w2.heap.size 3 #[.int .i64 ((mxLen pre : Nat) : Int)] ∧ Below w2.heap.size w2 W)
        (fun _ _ _ => False)
        (fun pre X Y row hs hg hr => ⟨row_grownT hs.1 hg hr, hs.2.grown hg hs.2.size (fun k e => by have := (hr k e).1; omega)⟩)
        (fun _ _ _ _ _ hs _ _ => hs)
        ⟨hr0, hb0⟩
        (fun x => { tmps := #[.slice A l.length c, .string t, undef, undef, .int .i64 0, .slice A2 f.len cap2, .bool true, .pointer (some ⟨w2.heap.size, 0, none⟩), .string (strOf x), .tuple #[.slice A2 f.len cap2, .bool true], .slice A l.length c, .string t, .tuple #[.slice A2 f.len cap2, .bool true], .slice A2 f.len cap2, .bool true, .bool true, .bool false, .slice A2 f.len cap2, .func (.func 157) #[] #[.pointer (some ⟨w2.heap.size + 1 + 1, 0, none⟩), .pointer (some ⟨w2.heap.size + 1, 0, none⟩)], .string (strOf x), undef, undef, undef, undef, undef], defers := [] }) ?assign ?body ?done ?stop
      case assign =>
        intro l2 x X K hK
        gi_wp2
        exact hK
      case body =>
        rintro l2 pre x X ⟨hr, hbx⟩ hlen hz
        have d0 : X.cell? ⟨w2.heap.size, 0, none⟩ = some (.int .i64 ((mxLen pre : Nat) : Int)) := hr.cell 0
        have z0 : X.frozen? ⟨w2.heap.size, 0, none⟩ = false := hr.free 0
        have HM : Hid (max ((mxLen pre : Nat) : Int) ((strOf x).size : Int) = ((mxLen (pre ++ [x]) : Nat) : Int)) := by
          show _ = _
          rw [mxLen_snoc, str_size]
          omega
        have HR := Lib.hid hr
        have HBX := Lib.hid hbx
        clear hr hbx
        gi_wp2
        refine ⟨⟨by simp [World.setCell], fun k o hk ho _ => (Below.heap_setCell X _ _ k (by show k ≠ w2.heap.size; omega)).trans ho⟩, (Below.refl w2.heap.size X).setCell (p := ⟨w2.heap.size, 0, none⟩) (Nat.le_refl _) _, ?_, HBX.out.setCell (p := ⟨w2.heap.size, 0, none⟩) (Nat.le_refl _) _⟩
        rw [← HM.out]
        exact HR.out.put 0 _
      case done =>
        rintro L ys X hL rfl ⟨hr, hbx⟩ hK
        have d0 : X.cell? ⟨w2.heap.size, 0, none⟩ = some (.int .i64 ((mxLen (chainsB [] f) : Nat) : Int)) := hr.cell 0
        have HBX := Lib.hid hbx
        clear hr hbx
        gi_wp2
        refine ⟨by simp, .inl ⟨_, _, rfl, run_takeDeferred hK, ?_⟩⟩
        refine ⟨_, results_tmp rfl _ _ _, rfl, (HB.out.trans (HBX.out.mono HB.out.size)).trans (belowK_b (w := w) (Nat.le_refl _) X L _ _ (by have := HB.out.size; omega) hK rfl rfl)⟩
      case stop =>
        rintro L c' pre X _ _ h _
        exact h.elim
    · cases h0

end Go.Proofs.Ytfhdbbdehploeaa
