/- The reference's NeedsOf, ChainsOf, CountCalls, DepthOf. -/
import Derived.Test.YtfhdbbdehploeaaFk
import Derived.Test.YtfhdbbdehploeaaFr
import Derived.WalkLawsBesides
namespace Go.Proofs.Ytfhdbbdehploeaa
open Go.RowKit

theorem own_low {w : World} {B B' : Nat} {e : TypeId} {size : Nat} {v : Value} {n : Nat} {xs : List Value} (h : w.ownsRow B e size v n xs) (hB : B' ≤ B) : w.ownsRow B' e size v n xs := by
  refine ⟨h.1, ?_⟩
  rcases h.2 with h0 | ⟨g, cap, cur, e1, hg, r⟩
  · exact .inl h0
  · exact .inr ⟨g, cap, cur, e1, by omega, r⟩
set_option maxRecDepth 100000 in
set_option maxHeartbeats 1000000 in
theorem specNeedsOf_any (A : Option Addr) (l : List Seg) (c : Nat) (t : ByteArray) (w : World) (hw : Segs w w.heap.size A l) (hl : l.length ≤ 1048576) (hn : Short l) (ht : t.size ≤ 1048576) :
    Calls Try.prog 47 #[.slice A l.length c, .string t] w fun e w' => e = .returned (.tuple #[.string (needsRes l t), .bool (traceB l t.data.toList).isSome]) ∧ Below w.heap.size w w' := by
  have HQ := Lib.hid (l4Read_any A l c t w hw hl hn ht)
  have HW : Hid (Segs w w.heap.size A l) := hw
  unfold needsRes
  cases hR : traceB l t.data.toList with
  | none =>
    rw [hR] at HQ
    clear hw hn hR
    go_enter Try.func47, Try.ntmps47
    go_wp2_with fail
    refine Calls.mono HQ.out ?_
    rintro e w2 ⟨v, rfl, -, hb⟩
    go_wp2
    go_ret2
    exact ⟨rfl, hb⟩
  | some f =>
    obtain ⟨hv, h80, hcl⟩ := traceB_some hR
    have hsz := (traceB_size hR).1
    have HV := Lib.hid hv
    have hl1 := (valid_all hv).2.2
    rw [hR] at HQ
    clear hw hn hR h80 hcl hv
    go_enter Try.func47, Try.ntmps47
    go_wp2_with fail
    refine Calls.mono HQ.out ?_
    rintro e w2 ⟨v, rfl, (⟨f', hf', hsl⟩ | ⟨h0, -⟩), hb⟩
    · obtain rfl : f = f' := by injection hf'
      have HSL : Hid (IsKids w2 (· < w2.heap.size) f v) := hsl.keep fun q hq => ⟨hq.2, rfl⟩
      have HB := Lib.hid hb
      obtain ⟨b0, o0, rfl, hB0, c0⟩ := (HW.out.below hb).root HV.out
      clear hsl hb hf' HQ
      go_wp2_with fail
      refine (l4Needs_any (f.size + 1) f (rootB l) v w2 (by omega) (by omega) HSL.out).mono ?_
      rintro e w3 ⟨rfl, hb3⟩
      have HB3 := Lib.hid (HB.out.trans (hb3.mono HB.out.size))
      clear hb3
      go_wp2
      go_ret2
      exact ⟨rfl, HB3.out⟩
    · cases h0

/-- The chains of a trace. -/
def chainsRes (l : List Seg) (t : ByteArray) : List ByteArray := match traceB l t.data.toList with
  | none => []
  | some f => (chainsB [rootB l] f).map strOf
def ChainsResPost (w : World) (l : List Seg) (t : ByteArray) (e : Ending) (w' : World) : Prop :=
  ∃ v, e = .returned (.tuple #[v, .bool (traceB l t.data.toList).isSome]) ∧ OwnTexts w' w.heap.size v (chainsRes l t) ∧ Below w.heap.size w w'

set_option maxRecDepth 100000 in
set_option maxHeartbeats 1000000 in
theorem specChainsOf_any (A : Option Addr) (l : List Seg) (c : Nat) (t : ByteArray) (w : World) (hw : Segs w w.heap.size A l) (hl : l.length ≤ 1048576) (hn : Short l) (ht : t.size ≤ 1048576) :
    Calls Try.prog 55 #[.slice A l.length c, .string t] w (ChainsResPost w l t) := by
  have HQ := Lib.hid (l4Read_any A l c t w hw hl hn ht)
  have HW : Hid (Segs w w.heap.size A l) := hw
  unfold ChainsResPost chainsRes
  cases hR : traceB l t.data.toList with
  | none =>
    rw [hR] at HQ
    have HE : Hid (∀ W : World, Below w.heap.size w W → ∃ v, Ending.returned (.tuple #[.slice (some ⟨W.heap.size, 0, none⟩) 0 0, .bool false]) = .returned (.tuple #[v, .bool (none : Option Forest).isSome]) ∧ OwnTexts (W.alloc (.cells #[] 9)) w.heap.size v [] ∧ Below w.heap.size w (W.alloc (.cells #[] 9))) :=
      fun W hb => ⟨_, rfl, OwnTexts.empty W hb.size, hb.alloc hb.size _⟩
    clear hw hn hR
    go_enter Try.func55, Try.ntmps55
    go_wp2_with fail
    refine Calls.mono HQ.out ?_
    rintro e w2 ⟨v, rfl, -, hb⟩
    go_wp2
    go_ret2
    exact HE.out _ hb
  | some f =>
    obtain ⟨hv, h80, hcl⟩ := traceB_some hR
    have hsz := (traceB_size hR).1
    have HV := Lib.hid hv
    have hl1 := (valid_all hv).2.2
    rw [hR] at HQ
    have HE : Hid (∀ (v : Value) (W : World), SolidTexts W w.heap.size v ((chainsB [rootB l] f).map strOf) → Below w.heap.size w W → ∃ u, Ending.returned (.tuple #[v, .bool true]) = .returned (.tuple #[u, .bool (some f).isSome]) ∧ OwnTexts W w.heap.size u ((chainsB [rootB l] f).map strOf) ∧ Below w.heap.size w W) :=
      fun v W h hb => ⟨v, rfl, h.1, hb⟩
    clear hw hn hR h80 hcl hv
    go_enter Try.func55, Try.ntmps55
    go_wp2_with fail
    refine Calls.mono HQ.out ?_
    rintro e w2 ⟨v, rfl, (⟨f', hf', hsl⟩ | ⟨h0, -⟩), hb⟩
    · obtain rfl : f = f' := by injection hf'
      have HSL : Hid (IsKids w2 (· < w2.heap.size) f v) := hsl.keep fun q hq => ⟨hq.2, rfl⟩
      have HB := Lib.hid hb
      obtain ⟨b0, o0, rfl, hB0, c0⟩ := (HW.out.below hb).root HV.out
      clear hsl hb hf' HQ
      go_wp2_with fail
      refine (l4Chains_any (f.size + 1) f [rootB l] v w2 (by omega) (by simp; omega) HSL.out).mono ?_
      rintro e w3 ⟨v3, rfl, hs3, hb3⟩
      have HB3 := Lib.hid (HB.out.trans (hb3.mono HB.out.size))
      have HS3 : Hid (SolidTexts w3 w.heap.size v3 ((chainsB [rootB l] f).map strOf)) := ⟨own_low hs3.1 HB.out.size, hs3.2⟩
      clear hb3 hs3
      go_wp2
      go_ret2
      exact HE.out _ _ HS3.out HB3.out
    · cases h0

def countRes (l : List Seg) (t : ByteArray) : Int := match traceB l t.data.toList with
  | none => -1
  | some f => f.size
theorem chainsRes_len {l : List Seg} {t : ByteArray} {f : Forest} (h : traceB l t.data.toList = some f) : (chainsRes l t).length = f.size := by
  unfold chainsRes
  rw [h]
  show ((chainsB [rootB l] f).map strOf).length = _
  rw [List.length_map, chainsB_len]

set_option maxRecDepth 100000 in
set_option maxHeartbeats 1000000 in
theorem specCountCalls_any (A : Option Addr) (l : List Seg) (c : Nat) (t : ByteArray) (w : World) (hw : Segs w w.heap.size A l) (hl : l.length ≤ 1048576) (hn : Short l) (ht : t.size ≤ 1048576) :
    Calls Try.prog 50 #[.slice A l.length c, .string t] w fun e w' => e = .returned (.int .i64 (countRes l t)) ∧ Below w.heap.size w w' := by
  have HQ := Lib.hid (specChainsOf_any A l c t w hw hl hn ht)
  unfold countRes
  unfold ChainsResPost at HQ
  cases hR : traceB l t.data.toList with
  | none =>
    rw [hR] at HQ
    clear hw hn hR
    go_enter Try.func50, Try.ntmps50
    go_wp2_with fail
    refine Calls.mono HQ.out ?_
    rintro e w2 ⟨v, rfl, -, hb⟩
    go_wp2
    go_ret
    exact ⟨rfl, hb⟩
  | some f =>
    have HL := Lib.hid (chainsRes_len hR)
    have hsz := (traceB_size hR).1
    rw [hR] at HQ
    clear hw hn hR
    generalize chainsRes l t = ts at *
    go_enter Try.func50, Try.ntmps50
    go_wp2_with fail
    refine Calls.mono HQ.out ?_
    rintro e w2 ⟨v, rfl, ho, hb⟩
    obtain ⟨A2, cap2, rfl, -⟩ := St.textsForm ho
    clear ho
    go_wp2
    go_ret
    exact ⟨by rw [HL.out]; rfl, hb⟩

/-- The greatest length. -/
def mxLen (L : List (List UInt8)) : Nat := L.foldl (fun m x => max m x.length) 0
theorem mxLen_snoc (L : List (List UInt8)) (x : List UInt8) : mxLen (L ++ [x]) = max (mxLen L) x.length := by simp [mxLen, List.foldl_append]
theorem mxLen_le {L : List (List UInt8)} {n : Nat} (h : ∀ x ∈ L, x.length ≤ n) : mxLen L ≤ n := by
  have key : ∀ (L : List (List UInt8)) (m : Nat), m ≤ n → (∀ x ∈ L, x.length ≤ n) → L.foldl (fun m x => max m x.length) m ≤ n := by
    intro L
    induction L with
    | nil => intro m hm _; exact hm
    | cons y L ih => intro m hm hx; exact ih _ (Nat.max_le.2 ⟨hm, hx y (by simp)⟩) (fun x hx' => hx x (by simp [hx']))
  exact key L 0 (Nat.zero_le _) h
def depthRes (l : List Seg) (t : ByteArray) : Int := match traceB l t.data.toList with
  | none => -1
  | some f => mxLen (chainsB [] f)

set_option maxRecDepth 100000 in
set_option maxHeartbeats 1000000 in
theorem specDepthOf_any (A : Option Addr) (l : List Seg) (c : Nat) (t : ByteArray) (w : World) (hw : Segs w w.heap.size A l) (hl : l.length ≤ 1048576) (hn : Short l) (ht : t.size ≤ 1048576) :
    Calls Try.prog 62 #[.slice A l.length c, .string t] w fun e w' => e = .returned (.int .i64 (depthRes l t)) ∧ Below w.heap.size w w' := by
  have HQ := Lib.hid (specChainsOf_any A l c t w hw hl hn ht)
  unfold depthRes
  unfold ChainsResPost at HQ
  cases hR : traceB l t.data.toList with
  | none =>
    rw [hR] at HQ
    clear hw hn hR
    go_enter Try.func62, Try.ntmps62
    go_wp2_with fail
    refine Calls.mono HQ.out ?_
    rintro e w2 ⟨v, rfl, -, hb⟩
    go_wp2
    go_ret
    exact ⟨rfl, hb⟩
  | some f =>
    have HL := Lib.hid (chainsRes_len hR)
    have HC : Hid (chainsRes l t = (chainsB [] f).map (fun x => strOf (rootB l :: x))) := by
      show _ = _
      unfold chainsRes
      rw [hR]
      show (chainsB [rootB l] f).map strOf = _
      rw [show [rootB l] = [rootB l] ++ [] from rfl, chainsB_pre, List.map_map]
      rfl
    have HN : Hid ((chainsB [] f).length = f.size) := chainsB_len f []
    have HX : Hid (∀ x ∈ chainsB [] f, x.length ≤ 8) := fun x hx => by
      have h1 := (chainsB_bound f [] x hx).1
      have h2 := (traceB_size hR).2
      simp at h1
      omega
    have hsz := (traceB_size hR).1
    rw [hR] at HQ
    clear hw hn hR
    generalize chainsRes l t = ts at *
    generalize hxs : chainsB [] f = xs at *
    have HXS := Lib.hid hxs
    clear hxs
    have HTS : Hid (ts.length = xs.length) := by show _ = _; rw [HL.out, HN.out]
    have htl : ts.length ≤ 80 := by rw [HL.out]; exact hsz
    go_enter Try.func62, Try.ntmps62
    go_wp2_with fail
    refine Calls.mono HQ.out ?_
    rintro e w2 ⟨v, rfl, ho, hb⟩
    obtain ⟨A2, cap2, rfl, hstr⟩ := St.textsForm ho
    have HS := Lib.hid hstr
    clear ho hstr
    go_wp2
    go_loop [7, 20] (fun o i => ∃ k m : Nat, k ≤ ts.length ∧ i = .int .i64 k ∧ o = .int .i64 m ∧ m ≤ 8 ∧ Hid (m = mxLen (xs.take k)))
      (fun _ i => ts.length - (intOf i).toNat)
    case atStart => exact ⟨0, 0, Nat.zero_le _, rfl, rfl, Nat.zero_le _, rfl⟩
    case round =>
      obtain ⟨k, m, hk, rfl, rfl, hm8, HM⟩ := hrel
      by_cases hlt : k < ts.length
      · obtain ⟨b, o, rfl, hB, hc⟩ := HS.out (by omega)
        have hkx : k < xs.length := by rw [← HTS.out]; exact hlt
        have hts : ts[k]? = some (strOf (rootB l :: xs[k])) := by rw [HC.out, List.getElem?_map, List.getElem?_eq_getElem hkx]; rfl
        have c0 := hc k _ hts
        have hxl := HX.out xs[k] (List.getElem_mem hkx)
        have hsz1 : (strOf (rootB l :: xs[k])).size = xs[k].length + 1 := by rw [str_size]; rfl
        have HM2 : Hid (max m xs[k].length = mxLen (xs.take (k + 1))) := by
          show _ = _
          rw [List.take_succ_eq_append_getElem hkx, mxLen_snoc, ← HM.out]
        have h1 : ((strOf (rootB l :: xs[k])).size : Int) - 1 = (xs[k].length : Int) := by rw [hsz1]; omega
        generalize strOf (rootB l :: xs[k]) = y at *
        generalize xs[k].length = q at *
        have HZ := Lib.hid hsz1
        have H1 := Lib.hid h1
        have hy9 : y.size ≤ 9 := by omega
        have hy1 : 1 ≤ y.size := by omega
        clear hc hts hkx hsz1 h1
        go_wp2
        go_round
        case rel => exact ⟨k + 1, max m q, by omega, by go_num, by rw [H1.out]; exact congrArg (Value.int .i64) (by omega), by omega, HM2⟩
        case measure => simp [intOf]; omega
      · have hkl : k = ts.length := by omega
        have HE : Hid (m = mxLen xs) := by show _ = _; rw [HM.out, hkl, HTS.out, List.take_length]
        clear hkl
        go_wp2
        go_ret
        exact ⟨by rw [HE.out, HXS.out]; rfl, hb⟩

end Go.Proofs.Ytfhdbbdehploeaa
