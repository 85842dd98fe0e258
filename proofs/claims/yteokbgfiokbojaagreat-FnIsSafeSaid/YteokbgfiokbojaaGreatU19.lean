/- Joined: Aj Bj Gf Gj Gk Gl Gm Gn Go. -/
import Derived.Test.YteokbgfiokbojaaGreatU16
import Derived.Test.YteokbgfiokbojaaGreatU18
import Derived.Test.YteokbgfiokbojaaGreatU17
import Derived.IntWalk
import Derived.Test.YteokbgfiokbojaaGreatU11
import Derived.Maps.AppendAt
import Derived.Deep.AppendLies
import Derived.Test.YteokbgfiokbojaaGreatU01
/- Safe traces, as the law FnIsSafe asks: they load nothing for returns; nothing is lost where all chains lie; plain. -/
namespace Go.Proofs.YteokbgfiokbojaaGreat
open Go.RowKit

/-- No return loads anything. -/
def Still6 (rs : List (Stp × Bool)) : Prop := ∀ s ∈ rs, s.2 = true → s.1.ld = ⟨#[]⟩
/-- All that are active are loaded. -/
def Has6 (l : List Seg) (T : List Nat) (a : List UInt8) : Prop := ∀ b ∈ a, ∀ x ∈ pathAt l b, x ∈ T
/-- Each segment of a chain lies together with its last one. -/
def Ends6 (l : List Seg) (x : List UInt8) : Prop := ∀ b ∈ x, lieIx l (segIx l b) (segIx l (lastB x)) = true

theorem last_snoc6 (a : List UInt8) (c : UInt8) : lastB (a ++ [c]) = c := by simp [lastB]
theorem has_step6 {l : List Seg} (hv : validB l = true) {T : List Nat} {a : List UInt8} {c : UInt8} (hT : Has6 l T a) (ha : ∀ b ∈ a, callP l b = true) (hc : callP l c = true) (he : Ends6 l (a ++ [c])) : Has6 l (nextT l T c) (a ++ [c]) := by
  have hd := (valid_all hv).1.down
  have hci := (callP_ix hc).2
  unfold nextT needT
  by_cases hall : ∀ x ∈ pathAt l c, x ∈ T
  · rw [if_pos hall]
    intro b hb
    rcases List.mem_append.1 hb with hb | hb
    · exact hT b hb
    · rw [List.mem_singleton.1 hb]; exact hall
  · rw [if_neg hall]
    intro b hb
    rcases List.mem_append.1 hb with hb | hb
    · have h1 := he b (List.mem_append.2 (.inl hb))
      rw [last_snoc6] at h1
      unfold lieIx at h1
      rw [Bool.or_eq_true, decide_eq_true_eq, decide_eq_true_eq] at h1
      rcases h1 with h1 | h1
      · exact fun x hx => (rp_prefix hd _ hci _ h1).subset hx
      · exact absurd (fun x hx => hT b hb x ((rp_prefix hd _ (callP_ix (ha b hb)).2 _ h1).subset hx)) hall
    · rw [List.mem_singleton.1 hb]; exact fun x hx => hx
theorem has_back6 {l : List Seg} {T : List Nat} {a : List UInt8} {b : UInt8} (hT : Has6 l T a) (hb : b ∈ a) : nextT l T b = T ∧ (stepAt l T b).ld = ⟨#[]⟩ := by
  have h1 : needT T (pathAt l b) = T := if_pos (hT b hb)
  refine ⟨h1, ?_⟩
  show namesAt l (loadT T (pathAt l b)) = ⟨#[]⟩
  unfold loadT
  rw [h1, less_self]
  rfl
/-- Calls whose chains all end so load nothing for returns. -/
theorem still_calls6 {l : List Seg} (hv : validB l = true) : ∀ (f : Forest) (p : List UInt8) (c0 : UInt8) (T : List Nat), (∀ b ∈ p ++ [c0], callP l b = true) → f.all (callP l) → Has6 l T (p ++ [c0]) → (∀ x ∈ chainsB (p ++ [c0]) f, Ends6 l x) →
    Still6 (runS l T (needsR c0 f)) ∧ Has6 l (endT l T (needsR c0 f)) (p ++ [c0])
  | .nil, _, _, _, _, _, hT, _ => ⟨(fun s hs => nomatch hs), hT⟩
  | .cons c k r, p, c0, T, hp, hf, hT, hx => by
    obtain ⟨hc, hk, hr⟩ := hf
    have hx : ∀ x ∈ (p ++ [c0] ++ [c]) :: (chainsB (p ++ [c0] ++ [c]) k ++ chainsB (p ++ [c0]) r), Ends6 l x := hx
    have hT1 := has_step6 hv hT hp hc (hx _ List.mem_cons_self)
    have hp1 : ∀ b ∈ p ++ [c0] ++ [c], callP l b = true := fun b hb => by
      rcases List.mem_append.1 hb with hb | hb
      · exact hp b hb
      · rw [List.mem_singleton.1 hb]; exact hc
    obtain ⟨s2, h2⟩ := still_calls6 hv k (p ++ [c0]) c (nextT l T c) hp1 hk hT1 (fun x hxm => hx x (List.mem_cons_of_mem _ (List.mem_append.2 (.inl hxm))))
    have h2' : Has6 l (endT l (nextT l T c) (needsR c k)) (p ++ [c0]) := fun b hb => h2 b (List.mem_append.2 (.inl hb))
    obtain ⟨e3, e4⟩ := has_back6 h2' (List.mem_append.2 (.inr (List.mem_singleton.2 rfl)) : c0 ∈ p ++ [c0])
    obtain ⟨s3, h3⟩ := still_calls6 hv r p c0 (endT l (nextT l T c) (needsR c k)) hp hr h2' (fun x hxm => hx x (List.mem_cons_of_mem _ (List.mem_append.2 (.inr hxm))))
    have hrun : runS l T (needsR c0 (.cons c k r)) = (stepAt l T c, false) :: (runS l (nextT l T c) (needsR c k) ++ ((stepAt l (endT l (nextT l T c) (needsR c k)) c0, true) :: runS l (endT l (nextT l T c) (needsR c k)) (needsR c0 r))) := by
      show (stepAt l T c, false) :: runS l (nextT l T c) (needsR c k ++ ((c0, true) :: needsR c0 r)) = _
      rw [runS_app]
      show (stepAt l T c, false) :: (runS l (nextT l T c) (needsR c k) ++ ((stepAt l (endT l (nextT l T c) (needsR c k)) c0, true) :: runS l (nextT l (endT l (nextT l T c) (needsR c k)) c0) (needsR c0 r))) = _
      rw [e3]
    have hend : endT l T (needsR c0 (.cons c k r)) = endT l (endT l (nextT l T c) (needsR c k)) (needsR c0 r) := by
      show endT l (nextT l T c) (needsR c k ++ ((c0, true) :: needsR c0 r)) = _
      rw [endT_app]
      show endT l (nextT l (endT l (nextT l T c) (needsR c k)) c0) (needsR c0 r) = _
      rw [e3]
    rw [hrun, hend]
    refine ⟨fun s hs ht => ?_, h3⟩
    rcases List.mem_cons.1 hs with rfl | hs
    · cases ht
    · rcases List.mem_append.1 hs with hs | hs
      · exact s2 s hs ht
      · rcases List.mem_cons.1 hs with rfl | hs
        · exact e4
        · exact s3 s hs ht
theorem loads_none6 : ∀ (rs : List (Stp × Bool)), Still6 rs → loadsB (keptB rs) = ⟨#[]⟩ := fun rs h => by
  have h1 : (keptB rs).flatMap (fun s => s.ld.data.toList) = [] := by
    refine List.flatMap_eq_nil_iff.2 fun s hs => ?_
    unfold keptB at hs
    obtain ⟨q, hq, rfl⟩ := List.mem_map.1 hs
    obtain ⟨h2, h3⟩ := List.mem_filter.1 hq
    rw [h q h2 h3]
  unfold loadsB
  rw [h1]
theorem back_none6 {l : List Seg} {t : ByteArray} {f : Forest} (h : traceB l t.data.toList = some f) (hv : validB l = true) (hf : f.all (callP l)) (hx : ∀ x ∈ chainsB [rootB l] f, Ends6 l x) : backRes l t = ⟨#[]⟩ := by
  have h1 : backRes l t = loadsB (keptB (runF l f)) := by unfold backRes; rw [h]
  rw [h1, runF_eq hv]
  refine loads_none6 _ fun s hs ht => ?_
  rcases List.mem_cons.1 hs with hs | hs
  · rw [hs] at ht; cases ht
  · have hroot := rootPath_is hv
    refine (still_calls6 hv f [] (rootB l) [0] (fun b hb => ?_) hf (fun b hb => ?_) hx).1 s hs ht
    · rw [List.mem_singleton.1 hb]; exact (callP_root hv).1
    · rw [List.mem_singleton.1 hb, hroot.1]; exact fun x hx => hx

/-- Where each chain's segments lie together with its last one, each two of a chain lie together. -/
theorem ends_all6 {l : List Seg} (xs : List (List UInt8)) (r : UInt8) (hpre : ∀ (i : Nat) (x : List UInt8), xs[i]? = some x → x.dropLast = [r] ∨ ∃ j : Nat, j < i ∧ xs[j]? = some x.dropLast) (hne : ∀ x ∈ xs, x ≠ []) (he : ∀ x ∈ xs, Ends6 l x) : ∀ (n i : Nat) (x : List UInt8), i < n → xs[i]? = some x → ∀ b ∈ x, ∀ d ∈ x, lieIx l (segIx l b) (segIx l d) = true
  | 0, _, _, h, _, _, _, _, _ => absurd h (by omega)
  | n + 1, i, x, hi, hx, b, hb, d, hd => by
    have hxm := List.mem_of_getElem? hx
    have h0 := hne x hxm
    have hlast : x = x.dropLast ++ [x.getLast h0] := (List.dropLast_concat_getLast h0).symm
    have hlb : lastB x = x.getLast h0 := by
      have := last_snoc6 x.dropLast (x.getLast h0)
      rwa [← hlast] at this
    have hE : ∀ b ∈ x, lieIx l (segIx l b) (segIx l (lastB x)) = true := he x hxm
    rw [hlb] at hE
    have hpair : ∀ b ∈ x.dropLast, ∀ d ∈ x.dropLast, lieIx l (segIx l b) (segIx l d) = true := fun b hb d hd => by
      rcases hpre i x hx with h1 | ⟨j, hj, h1⟩
      · rw [h1] at hb hd
        rw [List.mem_singleton.1 hb, List.mem_singleton.1 hd]
        exact lieIx_self l _
      · exact ends_all6 xs r hpre hne he n j x.dropLast (by omega) h1 b hb d hd
    by_cases hb1 : b = x.getLast h0
    · rw [hb1, lieIx_comm]; exact hE d hd
    · by_cases hd1 : d = x.getLast h0
      · rw [hd1]; exact hE b hb
      · have hin : ∀ y ∈ x, y ≠ x.getLast h0 → y ∈ x.dropLast := fun y hy hne => by
          rw [hlast] at hy
          rcases List.mem_append.1 hy with h | h
          · exact h
          · exact absurd (List.mem_singleton.1 h) hne
        exact hpair b (hin b hb hb1) d (hin d hd hd1)

/-- A chain without its last name is what the chains began with, or a chain ahead of it. -/
theorem chain_ahead6 : ∀ (f : Forest) (a : List UInt8) (i : Nat) (x : List UInt8), (chainsB a f)[i]? = some x → x.dropLast = a ∨ ∃ j, j < i ∧ (chainsB a f)[j]? = some x.dropLast
  | .nil, _, i, x, h => by cases h
  | .cons c k r, a, i, x, h => by
    have e : chainsB a (.cons c k r) = (a ++ [c]) :: (chainsB (a ++ [c]) k ++ chainsB a r) := rfl
    rw [e] at h ⊢
    cases i with
    | zero =>
      injection h with h
      subst h
      exact .inl (List.dropLast_concat)
    | succ i =>
      have h' : (chainsB (a ++ [c]) k ++ chainsB a r)[i]? = some x := h
      by_cases hi : i < (chainsB (a ++ [c]) k).length
      · rw [List.getElem?_append_left hi] at h'
        rcases chain_ahead6 k (a ++ [c]) i x h' with h1 | ⟨j, hj, h1⟩
        · exact .inr ⟨0, by omega, by rw [h1]; rfl⟩
        · exact .inr ⟨j + 1, by omega, by show (chainsB (a ++ [c]) k ++ chainsB a r)[j]? = _; rw [List.getElem?_append_left (by omega)]; exact h1⟩
      · rw [List.getElem?_append_right (by omega)] at h'
        rcases chain_ahead6 r a _ x h' with h1 | ⟨j, hj, h1⟩
        · exact .inl h1
        · refine .inr ⟨(chainsB (a ++ [c]) k).length + j + 1, by omega, ?_⟩
          show (chainsB (a ++ [c]) k ++ chainsB a r)[(chainsB (a ++ [c]) k).length + j]? = _
          rw [List.getElem?_append_right (by omega), Nat.add_sub_cancel_left]
          exact h1
theorem chains_call6 {P : UInt8 → Bool} : ∀ (f : Forest) (a : List UInt8), (∀ b ∈ a, P b = true) → f.all P → ∀ x ∈ chainsB a f, ∀ b ∈ x, P b = true
  | .nil, _, _, _, x, hx, _, _ => nomatch hx
  | .cons c k r, a, ha, hf, x, hx, b, hb => by
    obtain ⟨hc, hk, hr⟩ := hf
    have hx : x ∈ (a ++ [c]) :: (chainsB (a ++ [c]) k ++ chainsB a r) := hx
    have ha1 : ∀ b ∈ a ++ [c], P b = true := fun b hb => by
      rcases List.mem_append.1 hb with hb | hb
      · exact ha b hb
      · rw [List.mem_singleton.1 hb]; exact hc
    rcases List.mem_cons.1 hx with rfl | hx
    · exact ha1 b hb
    · rcases List.mem_append.1 hx with hx | hx
      · exact chains_call6 k (a ++ [c]) ha1 hk x hx b hb
      · exact chains_call6 r a ha hr x hx b hb

end Go.Proofs.YteokbgfiokbojaaGreat
/- Sets of segments: the program's small functions on bits. -/
namespace Go.Proofs.YteokbgfiokbojaaGreat
open Go.RowKit Go.Shelf

theorem ret_u64 {a b : Int} (h : a = b) : Ending.returned (.int .u64 a) = .returned (.int .u64 b) := by rw [h]
theorem bits_or_nat {a b : Nat} (ha : a < 256) (hb : b < 256) : bits .or .u64 (a : Int) (b : Int) = ((a ||| b : Nat) : Int) := by
  have h : a ||| b < 2 ^ 8 := Nat.or_lt_two_pow (by omega) (by omega)
  have e : ((BitVec.ofInt IntKind.u64.bits (a : Int)) ||| (BitVec.ofInt IntKind.u64.bits (b : Int))).toNat = a ||| b := by
    show ((BitVec.ofInt 64 (a : Int)) ||| (BitVec.ofInt 64 (b : Int))).toNat = a ||| b
    rw [BitVec.toNat_or, BitVec.ofInt_natCast, BitVec.ofInt_natCast, BitVec.toNat_ofNat, BitVec.toNat_ofNat, Nat.mod_eq_of_lt (by omega), Nat.mod_eq_of_lt (by omega)]
  show IntKind.u64.wrap (((BitVec.ofInt IntKind.u64.bits (a : Int)) ||| (BitVec.ofInt IntKind.u64.bits (b : Int))).toNat : Int) = _
  rw [e]
  exact IntWalk.u64_in _ (by omega)
theorem bits_and_nat {a b : Nat} (ha : a < 256) (hb : b < 256) : bits .and .u64 (a : Int) (b : Int) = ((a &&& b : Nat) : Int) := by
  have h : a &&& b ≤ a := Nat.and_le_left
  have e : ((BitVec.ofInt IntKind.u64.bits (a : Int)) &&& (BitVec.ofInt IntKind.u64.bits (b : Int))).toNat = a &&& b := by
    show ((BitVec.ofInt 64 (a : Int)) &&& (BitVec.ofInt 64 (b : Int))).toNat = a &&& b
    rw [BitVec.toNat_and, BitVec.ofInt_natCast, BitVec.ofInt_natCast, BitVec.toNat_ofNat, BitVec.toNat_ofNat, Nat.mod_eq_of_lt (by omega), Nat.mod_eq_of_lt (by omega)]
  show IntKind.u64.wrap (((BitVec.ofInt IntKind.u64.bits (a : Int)) &&& (BitVec.ofInt IntKind.u64.bits (b : Int))).toNat : Int) = _
  rw [e]
  exact IntWalk.u64_in _ (by omega)
theorem one_shl {i : Nat} (hi : i < 8) : IntKind.u64.wrap ((2 : Int) ^ i) = ((2 ^ i : Nat) : Int) := by
  have : i = 0 ∨ i = 1 ∨ i = 2 ∨ i = 3 ∨ i = 4 ∨ i = 5 ∨ i = 6 ∨ i = 7 := by omega
  rcases this with rfl | rfl | rfl | rfl | rfl | rfl | rfl | rfl <;> decide +kernel
theorem pow_lt {i : Nat} (hi : i < 8) : 2 ^ i < 256 := by
  have : i = 0 ∨ i = 1 ∨ i = 2 ∨ i = 3 ∨ i = 4 ∨ i = 5 ∨ i = 6 ∨ i = 7 := by omega
  rcases this with rfl | rfl | rfl | rfl | rfl | rfl | rfl | rfl <;> decide

set_option maxRecDepth 100000 in
set_option maxHeartbeats 400000 in
theorem has_any (f : Nat → Bool) (i : Nat) (w : World) (hi : i < 8) :
    Calls Tryz.prog 55 #[.int .u64 (setF f : Int), .int .i64 (i : Int)] w fun e w' => e = .returned (.bool (f i)) ∧ w = w' := by
  have H1 := Lib.hid (one_shl hi)
  have H2 := Lib.hid (bits_and_nat (setF_lt f) (pow_lt hi))
  have H3 : Hid (f i = (((setF f &&& 2 ^ i : Nat) : Int) != 0)) := by
    show _ = _
    rw [← setF_has f hi, Bool.eq_iff_iff, bne_iff_ne, bne_iff_ne]
    omega
  go_enter Tryz.func55, Tryz.ntmps55
  go_wp2
  go_ret
  exact ⟨ret_bool (show (bits .and .u64 (setF f : Int) (IntKind.u64.wrap ((2 : Int) ^ i)) != 0) = f i by rw [H1.out, H2.out, H3.out]), rfl⟩

set_option maxRecDepth 100000 in
set_option maxHeartbeats 400000 in
theorem with_any (f : Nat → Bool) (i : Nat) (w : World) (hi : i < 8) :
    Calls Tryz.prog 54 #[.int .u64 (setF f : Int), .int .i64 (i : Int)] w fun e w' => e = .returned (.int .u64 (setF (fun j => f j || decide (j = i)) : Int)) ∧ w = w' := by
  have H1 := Lib.hid (one_shl hi)
  have H2 := Lib.hid (bits_or_nat (setF_lt f) (pow_lt hi))
  have H3 := Lib.hid (setF_with f hi)
  go_enter Tryz.func54, Tryz.ntmps54
  go_wp2
  go_ret
  exact ⟨ret_u64 (show bits .or .u64 (setF f : Int) (IntKind.u64.wrap ((2 : Int) ^ i)) = _ by rw [H1.out, H2.out, H3.out]), rfl⟩

set_option maxRecDepth 100000 in
set_option maxHeartbeats 400000 in
theorem joined_any (f g : Nat → Bool) (w : World) :
    Calls Tryz.prog 27 #[.int .u64 (setF f : Int), .int .u64 (setF g : Int)] w fun e w' => e = .returned (.int .u64 (setF (fun j => f j || g j) : Int)) ∧ w = w' := by
  have H2 := Lib.hid (bits_or_nat (setF_lt f) (setF_lt g))
  have H3 := Lib.hid (setF_joined f g)
  go_enter Tryz.func27, Tryz.ntmps27
  go_wp2
  go_ret
  exact ⟨ret_u64 (show bits .or .u64 (setF f : Int) (setF g : Int) = _ by rw [H2.out, H3.out]), rfl⟩

end Go.Proofs.YteokbgfiokbojaaGreat
/- The model's NeedAll and CheapestNeed. -/
namespace Go.Proofs.YteokbgfiokbojaaGreat
open Go.RowKit

end Go.Proofs.YteokbgfiokbojaaGreat

/- The model's StatesOf: all states, as texts of the call's own. -/
namespace Go.Proofs.YteokbgfiokbojaaGreat
open Go.RowKit

end Go.Proofs.YteokbgfiokbojaaGreat
/- All states, yielded one by one. -/
namespace Go.Proofs.YteokbgfiokbojaaGreat
open Go.RowKit Go.Shelf
attribute [local go_sem] Oper.semAt_some

/-- Nodes lie where all blocks below 'w' but one are kept. -/
theorem Nodes.kept {w w' : World} {B g m k bb : Nat} {l : List Seg} {nb : Nat → Nat} {cv : Nat → Value} (h : Nodes w B g m k l nb cv) (hk : Kept w.heap.size bb w w') (hbb : ∀ q, B ≤ q → q < w.heap.size → q ≠ bb) (hkm : k ≤ m) : Nodes w' B g m k l nb cv := by
  obtain ⟨cs, hg, hcs, hci⟩ := h.row
  refine ⟨⟨cs, hk.row hg hg.lt (hbb _ h.low.1 hg.lt) (by decide), hcs, hci⟩, fun i t hi ht => ?_, fun i t hi hi2 ht => ?_, fun i hi => ?_, h.apart, h.apartC, h.notg, h.low⟩
  · have h1 := h.node i t hi ht
    exact hk.row h1 h1.lt (hbb _ (h.low.2 i (by omega)) h1.lt) (by decide)
  · have h1 := h.fresh i t hi hi2 ht
    exact hk.row h1 h1.lt (hbb _ (h.low.2 i hi2) h1.lt) (by decide)
  · refine own_keep (h.kids i hi) fun b hb' => ?_
    have hlt := (h.kids i hi).lt b hb'
    rcases (h.kids i hi).2 with ⟨he, _⟩ | ⟨g', cap, cur, he, _, hh, _⟩
    · rw [he] at hb'
      cases hb'
    · rw [he] at hb'
      have : g' = b := by simpa [Value.ownBlock] using hb'
      subst this
      rw [hh]
      exact hk g' _ hlt.2 (hbb _ hlt.1 hlt.2) hh (fun c fz e => by injection e with _ e2; exact absurd e2 (by decide))

theorem Kept.less {n₀ n₁ bb : Nat} {A B : World} (h : Kept n₀ bb A B) (hn : n₁ ≤ n₀) : Kept n₁ bb A B := fun k o h1 h2 h3 h4 => h k o (Nat.lt_of_lt_of_le h1 hn) h2 h3 h4
end Go.Proofs.YteokbgfiokbojaaGreat
/- impl.findState over whatever iterator that yields states. -/
namespace Go.Proofs.YteokbgfiokbojaaGreat
open Go.RowKit Go.Shelf
attribute [local go_sem] Oper.semAt_some

/-- What the loop keeps. -/
structure Finding (w : World) (v : Value) (s : ByteArray) (nm : List Nat → ByteArray) (pre : List (List Nat)) (W : World) : Prop where
  nodes : Row W w.heap.size 56 #[v]
  text : Row W (w.heap.size + 1) 9 #[.string s]
  res : Row W (w.heap.size + 1 + 1) 139 (bitCells fun _ => false)
  ok : Row W (w.heap.size + 1 + 1 + 1) 4 #[.bool false]
  below : Below w.heap.size w W
  none : ∀ T ∈ pre, sameB (nm T) s = false
theorem Finding.grown {w W W' : World} {v : Value} {s : ByteArray} {nm : List Nat → ByteArray} {pre : List (List Nat)} {B : Nat} {row : Option Nat} (h : Finding w v s nm pre W) (hg : W.grownBy W' row) (hB : w.heap.size ≤ B) (hr : ∀ r, row = some r → B ≤ r ∧ ∃ o : Obj, W.heap[r]? = some o ∧ o.isCells = false) : Finding w v s nm pre W' :=
  ⟨row_grown h.nodes hg hr, row_grown h.text hg hr, row_grown h.res hg hr, row_grown h.ok hg hr, h.below.grown hg h.below.size (fun k e => by have := (hr k e).1; omega), h.none⟩
theorem Finding.next {w W : World} {v : Value} {s : ByteArray} {nm : List Nat → ByteArray} {pre : List (List Nat)} {T : List Nat} (h : Finding w v s nm pre W) (hT : sameB (nm T) s = false) : Finding w v s nm (pre ++ [T]) W :=
  ⟨h.nodes, h.text, h.res, h.ok, h.below, fun U hU => by
    rcases List.mem_append.1 hU with hU | hU
    · exact h.none U hU
    · rw [List.mem_singleton.1 hU]; exact hT⟩
/-- How it stops: the state is found and told. -/
structure Found (w : World) (s : ByteArray) (nm : List Nat → ByteArray) (pre : List (List Nat)) (W : World) : Prop where
  ex : ∃ P T, pre = P ++ [T] ∧ (∀ U ∈ P, sameB (nm U) s = false) ∧ sameB (nm T) s = true ∧ Row W (w.heap.size + 1 + 1) 139 (bitCells fun j => decide (j ∈ T))
  ok : Row W (w.heap.size + 1 + 1 + 1) 4 #[.bool true]
  below : Below w.heap.size w W
theorem Found.grown {w W W' : World} {s : ByteArray} {nm : List Nat → ByteArray} {pre : List (List Nat)} {B : Nat} {row : Option Nat} (h : Found w s nm pre W) (hg : W.grownBy W' row) (hB : w.heap.size ≤ B) (hr : ∀ r, row = some r → B ≤ r ∧ ∃ o : Obj, W.heap[r]? = some o ∧ o.isCells = false) : Found w s nm pre W' := by
  obtain ⟨P, T, h1, h2, h3, h4⟩ := h.ex
  exact ⟨⟨P, T, h1, h2, h3, row_grown h4 hg hr⟩, row_grown h.ok hg hr, h.below.grown hg h.below.size (fun k e => by have := (hr k e).1; omega)⟩

end Go.Proofs.YteokbgfiokbojaaGreat
/- impl.findState at nodes; needFor, meet; StateValid. -/
namespace Go.Proofs.YteokbgfiokbojaaGreat
open Go.RowKit Go.Shelf

/-- The truths of a state. -/
def inT (T : List Nat) (j : Nat) : Bool := decide (j ∈ T)

set_option maxRecDepth 100000 in
set_option maxHeartbeats 400000 in
theorem needFor_any (B g i : Nat) (l : List Seg) (nb : Nat → Nat) (cv : Nat → Value) (w : World) (h : Nodes w B g l.length l.length l nb cv) (hv : validB l = true) (hi : i < l.length) :
    Calls Tryz.prog 87 #[.slice (some ⟨g, 0, none⟩) l.length l.length, .pointer (some ⟨nb i, 0, none⟩)] w fun e w' => e = .returned (bitsV (inT (rp l i))) ∧ Below w.heap.size w w' := by
  have HN := Lib.hid h
  clear h
  go_enter Tryz.func87, Tryz.ntmps87
  go_wp2_with fail
  refine (pathState_any B g i l nb cv _ (HN.out.below ((Below.refl _ w).alloc (Nat.le_refl _) _)) hv hi).mono ?_
  rintro e w1 ⟨rfl, hb1⟩
  have hR1 : Row w1 w.heap.size 141 (bitCells fun _ => false) := (Row.new w _ _).below hb1 (by simp)
  obtain ⟨⟨d0, d1, d2, d3⟩, d4, d5, d6, d7⟩ := bits_cells hR1
  have hfz := fun j => hR1.free j
  have z0 := hfz 0
  have z1 := hfz 1
  have z2 := hfz 2
  have z3 := hfz 3
  have z4 := hfz 4
  have z5 := hfz 5
  have z6 := hfz 6
  have z7 := hfz 7
  have HRow : Hid (Row (putBits w1 w.heap.size fun j => decide (j ∈ rp l i)) w.heap.size 141 (bitCells fun j => decide (j ∈ rp l i))) := putBits_row hR1
  have HBel : Hid (Below w.heap.size w (putBits w1 w.heap.size fun j => decide (j ∈ rp l i))) := putBits_below (((Below.refl _ w).alloc (Nat.le_refl _) _).trans (hb1.mono (by simp))) (Nat.le_refl _)
  clear hR1 hfz hb1
  unfold bitsV bitCells
  go_wp2
  exact bodyPost_ret (v := bitsV (inT (rp l i))) (results_cell_row (p := 4) (ty := 141) rfl _ (putBits w1 w.heap.size fun j => decide (j ∈ rp l i)) w.heap.size 141 _ (0, 0) _ rfl HRow.out Tryz.underlying141 rfl (by kernel_rfl)) rfl ⟨rfl, HBel.out⟩

theorem eql_none (w : World) : (Op.equalIn 10000 139 (.agg #[.bool false, .bool false, .bool false, .bool false, .bool false, .bool false, .bool false, .bool false]) (.agg #[.bool false, .bool false, .bool false, .bool false, .bool false, .bool false, .bool false, .bool false])).run Tryz.prog w = .ok true w := by kernel_rfl
theorem eql_true0 (b1 b2 b3 b4 b5 b6 b7 : Bool) (w : World) : (Op.equalIn 10000 139 (.agg #[.bool true, .bool b1, .bool b2, .bool b3, .bool b4, .bool b5, .bool b6, .bool b7]) (.agg #[.bool false, .bool false, .bool false, .bool false, .bool false, .bool false, .bool false, .bool false])).run Tryz.prog w = .ok false w := by kernel_rfl
theorem eql_true1 (b2 b3 b4 b5 b6 b7 : Bool) (w : World) : (Op.equalIn 10000 139 (.agg #[.bool false, .bool true, .bool b2, .bool b3, .bool b4, .bool b5, .bool b6, .bool b7]) (.agg #[.bool false, .bool false, .bool false, .bool false, .bool false, .bool false, .bool false, .bool false])).run Tryz.prog w = .ok false w := by kernel_rfl
theorem eql_true2 (b3 b4 b5 b6 b7 : Bool) (w : World) : (Op.equalIn 10000 139 (.agg #[.bool false, .bool false, .bool true, .bool b3, .bool b4, .bool b5, .bool b6, .bool b7]) (.agg #[.bool false, .bool false, .bool false, .bool false, .bool false, .bool false, .bool false, .bool false])).run Tryz.prog w = .ok false w := by kernel_rfl
theorem eql_true3 (b4 b5 b6 b7 : Bool) (w : World) : (Op.equalIn 10000 139 (.agg #[.bool false, .bool false, .bool false, .bool true, .bool b4, .bool b5, .bool b6, .bool b7]) (.agg #[.bool false, .bool false, .bool false, .bool false, .bool false, .bool false, .bool false, .bool false])).run Tryz.prog w = .ok false w := by kernel_rfl
theorem eql_true4 (b5 b6 b7 : Bool) (w : World) : (Op.equalIn 10000 139 (.agg #[.bool false, .bool false, .bool false, .bool false, .bool true, .bool b5, .bool b6, .bool b7]) (.agg #[.bool false, .bool false, .bool false, .bool false, .bool false, .bool false, .bool false, .bool false])).run Tryz.prog w = .ok false w := by kernel_rfl
theorem eql_true5 (b6 b7 : Bool) (w : World) : (Op.equalIn 10000 139 (.agg #[.bool false, .bool false, .bool false, .bool false, .bool false, .bool true, .bool b6, .bool b7]) (.agg #[.bool false, .bool false, .bool false, .bool false, .bool false, .bool false, .bool false, .bool false])).run Tryz.prog w = .ok false w := by kernel_rfl
theorem eql_true6 (b7 : Bool) (w : World) : (Op.equalIn 10000 139 (.agg #[.bool false, .bool false, .bool false, .bool false, .bool false, .bool false, .bool true, .bool b7]) (.agg #[.bool false, .bool false, .bool false, .bool false, .bool false, .bool false, .bool false, .bool false])).run Tryz.prog w = .ok false w := by kernel_rfl
theorem eql_true7 (w : World) : (Op.equalIn 10000 139 (.agg #[.bool false, .bool false, .bool false, .bool false, .bool false, .bool false, .bool false, .bool true]) (.agg #[.bool false, .bool false, .bool false, .bool false, .bool false, .bool false, .bool false, .bool false])).run Tryz.prog w = .ok false w := by kernel_rfl
theorem eql_bools (b0 b1 b2 b3 b4 b5 b6 b7 : Bool) (w : World) : (Op.equalIn 10000 139 (.agg #[.bool b0, .bool b1, .bool b2, .bool b3, .bool b4, .bool b5, .bool b6, .bool b7]) (.agg #[.bool false, .bool false, .bool false, .bool false, .bool false, .bool false, .bool false, .bool false])).run Tryz.prog w = .ok (!b0 && !b1 && !b2 && !b3 && !b4 && !b5 && !b6 && !b7) w := by
  cases b0 with
  | true => exact eql_true0 b1 b2 b3 b4 b5 b6 b7 w
  | false =>
    cases b1 with
    | true => exact eql_true1 b2 b3 b4 b5 b6 b7 w
    | false =>
      cases b2 with
      | true => exact eql_true2 b3 b4 b5 b6 b7 w
      | false =>
        cases b3 with
        | true => exact eql_true3 b4 b5 b6 b7 w
        | false =>
          cases b4 with
          | true => exact eql_true4 b5 b6 b7 w
          | false =>
            cases b5 with
            | true => exact eql_true5 b6 b7 w
            | false =>
              cases b6 with
              | true => exact eql_true6 b7 w
              | false =>
                cases b7 with
                | true => exact eql_true7  w
                | false =>
                  exact eql_none w
def offB (f : Nat → Bool) : Bool := !f 0 && !f 1 && !f 2 && !f 3 && !f 4 && !f 5 && !f 6 && !f 7
theorem offB_iff (f : Nat → Bool) : offB f = true ↔ ∀ j, j < 8 → f j = false := by
  unfold offB
  simp only [Bool.and_eq_true, Bool.not_eq_true']
  constructor
  · rintro ⟨⟨⟨⟨⟨⟨⟨h0, h1⟩, h2⟩, h3⟩, h4⟩, h5⟩, h6⟩, h7⟩ j hj
    match j, hj with
    | 0, _ => exact h0
    | 1, _ => exact h1
    | 2, _ => exact h2
    | 3, _ => exact h3
    | 4, _ => exact h4
    | 5, _ => exact h5
    | 6, _ => exact h6
    | 7, _ => exact h7
  · intro h
    exact ⟨⟨⟨⟨⟨⟨⟨h 0 (by decide), h 1 (by decide)⟩, h 2 (by decide)⟩, h 3 (by decide)⟩, h 4 (by decide)⟩, h 5 (by decide)⟩, h 6 (by decide)⟩, h 7 (by decide)⟩

set_option maxRecDepth 100000 in
set_option maxHeartbeats 400000 in
theorem meet_any (T P : List Nat) (w : World) (hP : ∀ j ∈ P, j < 8) :
    Calls Tryz.prog 88 #[bitsV (inT P), bitsV (inT T)] w fun e w' => e = .returned (bitsV (inT (needT T P))) ∧ Below w.heap.size w w' := by
  have HL := Lib.hid (fun W => less_any (inT P) (inT T) W)
  have HE := Lib.hid (fun W => eql_bools (inT P 0 && !inT T 0) (inT P 1 && !inT T 1) (inT P 2 && !inT T 2) (inT P 3 && !inT T 3) (inT P 4 && !inT T 4) (inT P 5 && !inT T 5) (inT P 6 && !inT T 6) (inT P 7 && !inT T 7) W)
  have hiff : offB (fun j => inT P j && !inT T j) = true ↔ ∀ x ∈ P, x ∈ T := by
    rw [offB_iff]
    constructor
    · intro h x hx
      have := h x (hP x hx)
      unfold inT at this
      rw [decide_eq_true hx] at this
      simpa using this
    · intro h j _
      unfold inT
      by_cases hj : j ∈ P
      · rw [decide_eq_true (h j hj)]
        simp
      · rw [decide_eq_false hj]
        rfl
  by_cases hs : ∀ x ∈ P, x ∈ T
  · have HT : Hid (needT T P = T) := if_pos hs
    have HO : Hid (offB (fun j => inT P j && !inT T j) = true) := hiff.2 hs
    have he : ∀ W, (Op.equalIn 10000 139 (bitsV fun j => inT P j && !inT T j) (bitsV fun _ => false)).run Tryz.prog W = .ok true W := fun W => by
      have h1 := HE.out W
      exact h1.trans (congrArg (fun b => Result.ok b W) HO.out)
    unfold bitsV bitCells at HL he ⊢
    clear hiff hs HE
    rw [HT.out]
    have hR1 : ∀ W1, Below (w.heap.size + 1 + 1 + 1) (((w.alloc (.cells (bitCells (inT P)) 141)).alloc (.cells (bitCells (inT T)) 139)).alloc (.cells (bitCells fun _ => false) 139)) W1 → Row W1 (w.heap.size + 1 + 1) 139 (bitCells fun _ => false) ∧ Row W1 (w.heap.size + 1) 139 (bitCells (inT T)) ∧ Row W1 w.heap.size 141 (bitCells (inT P)) ∧ Below w.heap.size w W1 := fun W1 hb => by
      refine ⟨Row.below ?_ hb (by omega), Row.below ?_ hb (by omega), (((Row.new w _ _).alloc _).alloc _).below hb (by omega), ((((Below.refl _ w).alloc (Nat.le_refl _) _).alloc (by simp) _).alloc (by simp; omega) _).trans (hb.mono (by omega))⟩
      · have := Row.new ((w.alloc (.cells (bitCells (inT P)) 141)).alloc (.cells (bitCells (inT T)) 139)) 139 (bitCells fun _ => false)
        simpa using this
      · have := (Row.new (w.alloc (.cells (bitCells (inT P)) 141)) 139 (bitCells (inT T))).alloc (.cells (bitCells fun _ => false) 139)
        simpa using this
    have HR1 := Lib.hid hR1
    clear hR1
    go_enter Tryz.func88, Tryz.ntmps88
    go_wp2_with fail
    refine (HL.out _).mono ?_
    rintro e w1 ⟨rfl, hb1⟩
    rw [World.size_alloc, World.size_alloc, World.size_alloc] at hb1
    obtain ⟨r1, r2, r3, r4⟩ := HR1.out w1 hb1
    obtain ⟨⟨d0, d1, d2, d3⟩, d4, d5, d6, d7⟩ := bits_cells r1
    obtain ⟨⟨e0, e1, e2, e3⟩, e4, e5, e6, e7⟩ := bits_cells r2
    have hfz := fun j => r1.free j
    have z0 := hfz 0
    have z1 := hfz 1
    have z2 := hfz 2
    have z3 := hfz 3
    have z4 := hfz 4
    have z5 := hfz 5
    have z6 := hfz 6
    have z7 := hfz 7
    have HRow : Hid (Row (putBits w1 (w.heap.size + 1 + 1) (inT T)) (w.heap.size + 1 + 1) 139 (bitCells (inT T))) := putBits_row r1
    have HBel : Hid (Below w.heap.size w (putBits w1 (w.heap.size + 1 + 1) (inT T))) := putBits_below r4 (by omega)
    clear r1 r2 r3 r4 hfz hb1
    go_wp2
    exact bodyPost_ret (v := bitsV (inT T)) (results_cell_row (p := 4) (ty := 139) rfl _ (putBits w1 (w.heap.size + 1 + 1) (inT T)) (w.heap.size + 1 + 1) 139 _ (0, 0) _ rfl HRow.out Tryz.underlying139 rfl (by kernel_rfl)) rfl ⟨rfl, HBel.out⟩
  · have HT : Hid (needT T P = P) := if_neg hs
    have HO : Hid (offB (fun j => inT P j && !inT T j) = false) := Bool.eq_false_iff.2 (fun h => hs (hiff.1 h))
    have he : ∀ W, (Op.equalIn 10000 139 (bitsV fun j => inT P j && !inT T j) (bitsV fun _ => false)).run Tryz.prog W = .ok false W := fun W => by
      have h1 := HE.out W
      exact h1.trans (congrArg (fun b => Result.ok b W) HO.out)
    unfold bitsV bitCells at HL he ⊢
    clear hiff hs HE
    rw [HT.out]
    have hR1 : ∀ W1, Below (w.heap.size + 1 + 1 + 1) (((w.alloc (.cells (bitCells (inT P)) 141)).alloc (.cells (bitCells (inT T)) 139)).alloc (.cells (bitCells fun _ => false) 139)) W1 → Row W1 (w.heap.size + 1 + 1) 139 (bitCells fun _ => false) ∧ Row W1 (w.heap.size + 1) 139 (bitCells (inT T)) ∧ Row W1 w.heap.size 141 (bitCells (inT P)) ∧ Below w.heap.size w W1 := fun W1 hb => by
      refine ⟨Row.below ?_ hb (by omega), Row.below ?_ hb (by omega), (((Row.new w _ _).alloc _).alloc _).below hb (by omega), ((((Below.refl _ w).alloc (Nat.le_refl _) _).alloc (by simp) _).alloc (by simp; omega) _).trans (hb.mono (by omega))⟩
      · have := Row.new ((w.alloc (.cells (bitCells (inT P)) 141)).alloc (.cells (bitCells (inT T)) 139)) 139 (bitCells fun _ => false)
        simpa using this
      · have := (Row.new (w.alloc (.cells (bitCells (inT P)) 141)) 139 (bitCells (inT T))).alloc (.cells (bitCells fun _ => false) 139)
        simpa using this
    have HR1 := Lib.hid hR1
    clear hR1
    go_enter Tryz.func88, Tryz.ntmps88
    go_wp2_with fail
    refine (HL.out _).mono ?_
    rintro e w1 ⟨rfl, hb1⟩
    rw [World.size_alloc, World.size_alloc, World.size_alloc] at hb1
    obtain ⟨r1, r2, r3, r4⟩ := HR1.out w1 hb1
    obtain ⟨⟨d0, d1, d2, d3⟩, d4, d5, d6, d7⟩ := bits_cells r1
    obtain ⟨⟨e0, e1, e2, e3⟩, e4, e5, e6, e7⟩ := bits_cells r3
    have hfz := fun j => r1.free j
    have z0 := hfz 0
    have z1 := hfz 1
    have z2 := hfz 2
    have z3 := hfz 3
    have z4 := hfz 4
    have z5 := hfz 5
    have z6 := hfz 6
    have z7 := hfz 7
    have HRow : Hid (Row (putBits w1 (w.heap.size + 1 + 1) (inT P)) (w.heap.size + 1 + 1) 139 (bitCells (inT P))) := putBits_row r1
    have HBel : Hid (Below w.heap.size w (putBits w1 (w.heap.size + 1 + 1) (inT P))) := putBits_below r4 (by omega)
    clear r1 r2 r3 r4 hfz hb1
    go_wp2
    exact bodyPost_ret (v := bitsV (inT P)) (results_cell_row (p := 4) (ty := 139) rfl _ (putBits w1 (w.heap.size + 1 + 1) (inT P)) (w.heap.size + 1 + 1) 139 _ (0, 0) _ rfl HRow.out Tryz.underlying139 rfl (by kernel_rfl)) rfl ⟨rfl, HBel.out⟩

end Go.Proofs.YteokbgfiokbojaaGreat
/- impl.meetNeed: the states ahead of a need and behind it. -/
namespace Go.Proofs.YteokbgfiokbojaaGreat
open Go.RowKit Go.Shelf

theorem run_load_state_op {ρ : Operand → Value} {o : Oper} {x : Operand} {b : Nat} {f : Nat → Bool} {w : World} (ho : o.op = .load 139 x) (hx : ρ x = .pointer (some ⟨b, 0, none⟩)) (h : Row w b 139 (bitCells f)) :
    (execOp ρ o).run Tryz.prog w = .ok (.value (bitsV f)) w := by
  unfold execOp
  simp only [ho, hx, Instr.loadAt, Instr.sureAddr, Sem.run_bind, Sem.run_pure, Result.andThen_ok, run_loadState h]

end Go.Proofs.YteokbgfiokbojaaGreat
/- impl.StateValid, DropsOf, NeedOf. -/
namespace Go.Proofs.YteokbgfiokbojaaGreat
open Go.RowKit Go.Shelf

end Go.Proofs.YteokbgfiokbojaaGreat
/- impl.nodesNamed, sizesTogether, CostOf, LoadCost. -/
namespace Go.Proofs.YteokbgfiokbojaaGreat
open Go.RowKit Go.Shelf

/-- The nodes that are named, in a row of the call's own. -/
def NamedPost (w : World) (l : List Seg) (nb : Nat → Nat) (s : ByteArray) (e : Ending) (w' : World) : Prop :=
  ∃ v, e = .returned (.tuple #[v, .bool true]) ∧ w'.ownsRow w.heap.size 92 1 v (namedJs l s.data.toList).length (ptrsOf nb (namedJs l s.data.toList)) ∧ Below w.heap.size w w'

set_option maxRecDepth 100000 in
set_option maxHeartbeats 400000 in
theorem nodesNamed_bad (s : ByteArray) (w : World) (hs : s.size ≤ 1048576) :
    Calls Tryz.prog 33 #[.slice none 0 0, .string s] w fun e w' => e = .returned (.tuple #[.slice none 0 0, .bool (decide (s.size = 0))]) ∧ w = w' := by
  by_cases h0 : s.size = 0
  · have HD : Hid (decide (s.size = 0) = true) := decide_eq_true h0
    go_enter Tryz.func33, Tryz.ntmps33
    go_wp2
    go_loop [6, 11] (fun v i => v = .slice none 0 0 ∧ i = .int .i64 0) (fun _ _ => 0)
    case atStart => exact ⟨rfl, rfl⟩
    case round =>
      obtain ⟨rfl, rfl⟩ := hrel
      go_wp2
      refine bodyPost_ret (v := .tuple #[.slice none 0 0, .bool true]) (by simp [results, Tryz.results33, go_sem]) rfl ?_
      exact ⟨rfl, rfl⟩
  · have HD : Hid (decide (s.size = 0) = false) := decide_eq_false h0
    have hp : 0 < s.size := by omega
    clear h0
    go_enter Tryz.func33, Tryz.ntmps33
    go_wp2
    go_loop [6, 11] (fun v i => v = .slice none 0 0 ∧ i = .int .i64 0) (fun _ _ => 0)
    case atStart => exact ⟨rfl, rfl⟩
    case round =>
      obtain ⟨rfl, rfl⟩ := hrel
      go_wp2_with fail
      refine (findNode_nil _ _).mono ?_
      rintro e w1 ⟨rfl, rfl⟩
      go_wp2
      refine bodyPost_ret (v := .tuple #[.slice none 0 0, .bool false]) (by simp [results, Tryz.results33, go_sem]) rfl ?_
      exact ⟨by rw [HD.out], rfl⟩

theorem found_byte {l : List Seg} {nb : Nat → Nat} {b : UInt8} (h : 0 ≤ bSeek l b) : foundPtr l nb ⟨#[b]⟩ = some ⟨nb (bSeek l b).toNat, 0, none⟩ := if_neg (by unfold bSeek at h; omega)
theorem found_none {l : List Seg} {nb : Nat → Nat} {b : UInt8} (h : bSeek l b < 0) : foundPtr l nb ⟨#[b]⟩ = none := if_pos h

def NamedEither (w : World) (l : List Seg) (nb : Nat → Nat) (s : ByteArray) (e : Ending) (w' : World) : Prop :=
  (namedOk l s.data.toList = true ∧ NamedPost w l nb s e w') ∨ (namedOk l s.data.toList = false ∧ e = .returned (.tuple #[.slice none 0 0, .bool false]) ∧ Below w.heap.size w w')

set_option maxRecDepth 100000 in
set_option maxHeartbeats 1000000 in
theorem nodesNamed_any (B g : Nat) (l : List Seg) (nb : Nat → Nat) (cv : Nat → Value) (s : ByteArray) (w : World) (h : Nodes w B g l.length l.length l nb cv) (hv : validB l = true) (hs : s.size ≤ 1048576) :
    Calls Tryz.prog 33 #[.slice (some ⟨g, 0, none⟩) l.length l.length, .string s] w (NamedEither w l nb s) := by
  have h8 := (valid_all hv).2.1
  have HN := Lib.hid h
  obtain ⟨i0, hi0, hz0, hz1, hz2⟩ := info_parts info_ptr
  have I0 := Lib.hid hi0
  have Z0 := Lib.hid hz0
  have Z1 := Lib.hid hz1
  have Z2 := Lib.hid hz2
  clear hi0 hz0 hz1 hz2 h hv
  go_enter Tryz.func33, Tryz.ntmps33
  go_wp2
  go_loopw [6, 11] (fun v i wr => ∃ k : Nat, k ≤ s.size ∧ i = .int .i64 k ∧ Hid (namedOk l (s.data.toList.take k) = true) ∧ Hid (wr.ownsRow w.heap.size 92 1 v (namedJs l (s.data.toList.take k)).length (ptrsOf nb (namedJs l (s.data.toList.take k)))) ∧ Hid (Below w.heap.size w wr) ∧ ∃ a n c, v = .slice a n c)
    (fun _ i _ => s.size - (intOf i).toNat)
  case atStart => exact ⟨0, Nat.zero_le _, rfl, rfl, World.ownsRow_nil _ _ _ _, Below.refl _ _, _, _, _, rfl⟩
  case round =>
    obtain ⟨k, hk, rfl, HK, HO, HB, a, n, c, rfl⟩ := hrel
    have hk0 : (0 : Int) ≤ (k : Int) := Int.natCast_nonneg _
    by_cases hlt : k < s.size
    · have hlt' : (k : Int) < (s.size : Int) := by omega
      have h1 : (k : Int) + 1 ≤ (s.size : Int) := by omega
      obtain ⟨t1, t2⟩ := named_take (l := l) s hlt
      have HM : Hid (s[k] ∈ s.data.toList) := by
        show s.data.toList[k]'(by simpa using hlt) ∈ _
        exact List.getElem_mem _
      have HX := Lib.hid (one_byte s hlt)
      have HT1 := Lib.hid t1
      have HT2 := Lib.hid t2
      have hbd := bSeek_bd l s[k]
      clear t1 t2
      generalize s[k] = b at *
      have HNk := Lib.hid (HN.out.below HB.out)
      go_wp2_with fail
      refine (findNode_any _ _ _ _ _ _ _ HNk.out (by omega)).mono ?_
      rw [HX.out]
      rcases hbd with hbd | ⟨hb0, hb1⟩
      · have HF : Hid (namedOk l s.data.toList = false) := namedOk_bad HM.out (by omega)
        rw [found_none (by omega)]
        rintro e w1 ⟨rfl, rfl⟩
        clear hbd
        go_wp2
        refine bodyPost_ret (v := .tuple #[.slice none 0 0, .bool false]) (by simp [results, Tryz.results33, go_sem]) rfl ?_
        exact .inr ⟨HF.out, rfl, HB.out⟩
      · rw [found_byte hb0]
        rintro e w1 ⟨rfl, rfl⟩
        have hlen : (namedJs l (s.data.toList.take k)).length = k := by
          unfold namedJs
          rw [List.length_map, List.length_take]
          simp
          omega
        have HK1 : Hid (namedOk l (s.data.toList.take (k + 1)) = true) := by
          show _ = _
          rw [HT1.out, HK.out, decide_eq_true hb0]
          rfl
        generalize (bSeek l b).toNat = j at *
        clear hb0 hb1
        have HJ : Hid (ptrsOf nb (namedJs l (s.data.toList.take (k + 1))) = ptrsOf nb (namedJs l (s.data.toList.take k)) ++ [.pointer (some ⟨nb j, 0, none⟩)] ∧ (namedJs l (s.data.toList.take (k + 1))).length = (namedJs l (s.data.toList.take k)).length + 1) := by
          rw [HT2.out]
          exact ⟨by simp [ptrsOf, ptrTo], by simp⟩
        have hHO := HO.out
        rw [hlen] at hHO
        have HO2 := Lib.hid (hHO.alloc (.cells #[.pointer (some ⟨nb j, 0, none⟩)] 92))
        clear hHO
        have hbz := HB.out.size
        go_wp2_with (at_builtin; refine wpList_append_own_at _ rfl _ _ 56 rfl w.heap.size 92 i0 (.pointer none) 1 8 Tryz.underlying56 I0.out Z0.out Z1.out Z2.out rfl (by decide) _ _ _ rfl HO2.out ⟨wr.heap.size, 0, none⟩ 1 1 [.pointer (some ⟨nb j, 0, none⟩)] rfl rfl (cell_one_new _ _ _) (by simp [Value.oneCell']) (by unfold maxLen; omega) (by omega) (by simp; omega) ?_; intro v4 w4 hown4 hgrow _ _)
        have HB4 : Hid (Below w.heap.size w w4) := (HB.out.alloc hbz _).grown hgrow (by simp; omega) (fun q hq => (World.ownsRow.lt HO2.out q hq).1)
        have HO4 : Hid (w4.ownsRow w.heap.size 92 1 v4 (namedJs l (s.data.toList.take (k + 1))).length (ptrsOf nb (namedJs l (s.data.toList.take (k + 1))))) := by
          show World.ownsRow _ _ _ _ _ _ _
          rw [HJ.out.1, HJ.out.2, hlen]
          exact hown4
        have HV : ∃ a n c, v4 = .slice a n c := by
          obtain ⟨q, cap, rfl⟩ := own_form hown4 (by omega)
          exact ⟨_, _, _, rfl⟩
        clear hown4 hgrow
        go_roundw
        case rel => exact ⟨k + 1, by omega, by go_num, HK1, HO4, HB4, HV⟩
        case measure => simp [intOf]; omega
    · obtain rfl : k = s.size := by omega
      have e : s.data.toList.take s.size = s.data.toList := List.take_of_length_le (by simp)
      rw [e] at HK HO
      go_wp2
      refine bodyPost_ret (v := .tuple #[.slice a n c, .bool true]) (by simp [results, Tryz.results33, go_sem]) rfl ?_
      exact .inl ⟨HK.out, _, rfl, HO.out, HB.out⟩

end Go.Proofs.YteokbgfiokbojaaGreat

/- impl.needsFor: what is to be met, as functions. -/
namespace Go.Proofs.YteokbgfiokbojaaGreat
open Go.RowKit Go.Shelf

/-- What the loop over needs keeps. -/
structure Going (w1 : World) (H b : Nat) (fv : Value) (fs : List Value) (T : List Nat) (bs : List Value) (W : World) : Prop where
  held : Row W H 139 (bitCells (inT T))
  text : Lib.IsBuilderF 48 5 w1.heap.size b bs W
  funcs : W.ownsRow w1.heap.size 143 1 fv fs.length fs
  below : Below w1.heap.size w1 W
  low : w1.heap.size ≤ H ∧ w1.heap.size ≤ b ∧ b ≠ H
theorem Going.put {w1 W : World} {H b : Nat} {fv : Value} {fs : List Value} {T : List Nat} {bs : List Value} (h : Going w1 H b fv fs T bs W) (U : List Nat) : Going w1 H b fv fs U bs (putBits W H (inT U)) := by
  have hne : ∀ g, fv.ownBlock = some g → g ≠ H := fun g hg e => by
    rcases h.funcs.2 with ⟨rfl, _⟩ | ⟨g', cap, cur, rfl, _, hh, _⟩
    · cases hg
    · have : g' = g := by simpa [Value.ownBlock] using hg
      subst this
      subst e
      have h1 : W.heap[g']? = some (.cells _ 139 (0, 0)) := h.held
      rw [hh] at h1
      injection h1 with h1
      injection h1 with _ h2
      exact absurd h2 (by decide)
  refine ⟨putBits_row h.held, ?_, own_keep h.funcs (fun g hg => putBits_block W H _ (hne g hg)), putBits_below h.below h.low.1, h.low⟩
  have key : ∀ p, Lib.BuilderAtF 48 5 w1.heap.size b p bs W → Lib.BuilderAtF 48 5 w1.heap.size b p bs (putBits W H (inT U)) := fun p hp => by
    obtain ⟨h1, v, h2, h3, h4⟩ := hp
    refine ⟨h1, v, (putBits_block W H _ h.low.2.2).trans h2, ⟨h3.1, ?_⟩, h4⟩
    rcases h3.2 with h5 | ⟨g, cap, cur, fz, hv, hg, hh, r⟩
    · exact .inl h5
    · refine .inr ⟨g, cap, cur, fz, hv, hg, (putBits_block W H _ (fun e => ?_)).trans hh, r⟩
      subst e
      have h6 : W.heap[g]? = some (.cells _ 139 (0, 0)) := h.held
      rw [hh] at h6
      injection h6 with h6
      injection h6 with _ h7
      exact absurd h7 (by decide)
  exact h.text.elim (fun x => .inl (key _ x)) (fun x => .inr (key _ x))
end Go.Proofs.YteokbgfiokbojaaGreat
