/- The program's callsWithout. -/
import Derived.Test.YtfhdbbdehploeaaFw
import Derived.Test.YtfhdbbdehploeaaFd
namespace Go.Proofs.Ytfhdbbdehploeaa
open Go.RowKit

theorem CRow.keep {w w' : World} {q : Nat} (h : CRow w q) (hq : w'.heap[q]? = w.heap[q]?) : CRow w' q := by
  obtain ⟨cs, h⟩ := h
  exact ⟨cs, hq.trans h⟩
/-- A slice of calls of the call's own, each row of calls being known as one. -/
def OwnT (w : World) (B : Nat) (v : Value) (f : Forest) : Prop :=
  ∃ xs, w.ownsRow B 164 1 v f.len xs ∧ Vals w (fun q => B ≤ q ∧ q < w.heap.size ∧ v.ownBlock ≠ some q ∧ CRow w q) f xs
theorem OwnT.lt {w : World} {B : Nat} {v : Value} {f : Forest} (h : OwnT w B v f) : ∀ x, v.ownBlock = some x → B ≤ x ∧ x < w.heap.size := by
  obtain ⟨xs, hown, _⟩ := h
  exact fun x e => hown.lt x e
theorem OwnT.nil (w : World) (B : Nat) : OwnT w B (.slice none 0 0) .nil := ⟨[], World.ownsRow_nil w B _ 1, rfl⟩
theorem OwnT.far {w w' : World} {B : Nat} {v : Value} {f : Forest} (h : OwnT w B v f) (hb : Below w.heap.size w w') : OwnT w' B v f := by
  have hl := h.lt
  obtain ⟨xs, hown, hv⟩ := h
  exact ⟨xs, own_keep hown fun g hg => hb.block g (hl g hg).2, Vals.keep (fun q h => ⟨⟨h.1, Nat.lt_of_lt_of_le h.2.1 hb.size, h.2.2.1, h.2.2.2.keep (hb.block q h.2.1)⟩, hb.block q h.2.1⟩) f xs hv⟩
theorem OwnT.form {w : World} {B : Nat} {v : Value} {f : Forest} (h : OwnT w B v f) (hf : f.isNil = false) : ∃ g cap, v = .slice (some ⟨g, 0, none⟩) f.len cap ∧ (B ≤ g ∧ g < w.heap.size ∧ CRow w g) ∧ Cells w (fun q => B ≤ q ∧ q < w.heap.size ∧ CRow w q) f g 0 := by
  obtain ⟨xs, hown, hv⟩ := h
  rw [Forest.isNil_len] at hf
  have hl : f.len ≠ 0 := of_decide_eq_false hf
  have hx := Vals.len f xs hv
  rcases hown.2 with ⟨rfl, h0⟩ | ⟨g, cap, cur, rfl, hg, hh, r⟩
  · exact absurd h0 hl
  · refine ⟨g, cap, rfl, ⟨hg, (Array.getElem?_eq_some_iff.1 hh).1, cur, hh⟩, ?_⟩
    refine Vals.cells f xs 0 (Vals.keep (fun q h => ⟨⟨h.1, h.2.1, h.2.2.2⟩, rfl⟩) f xs hv) fun i hi => ?_
    rw [Nat.zero_add]
    exact World.ownsRow.cellAt hown i (by omega)
theorem OwnT.slice {w : World} {B : Nat} {v : Value} {f : Forest} (h : OwnT w B v f) : SliceIs w (fun q => B ≤ q ∧ q < w.heap.size ∧ CRow w q) v f := by
  cases hf : f.isNil with
  | false =>
    obtain ⟨g, cap, e, h1, h2⟩ := h.form hf
    exact ⟨_, cap, e, fun _ => ⟨g, rfl, h1, h2⟩⟩
  | true =>
    rw [Forest.isNil_len] at hf
    have hl : f.len = 0 := of_decide_eq_true hf
    obtain ⟨xs, hown, hv⟩ := h
    rcases hown.2 with ⟨rfl, h0⟩ | ⟨g, cap, cur, rfl, hg, hh, r⟩
    · exact ⟨none, 0, by rw [hl], fun h => by omega⟩
    · exact ⟨_, cap, rfl, fun h => by omega⟩
theorem OwnT.more {w W w' : World} {B c0 : Nat} {v v' u : Value} {f k : Forest} {c : UInt8} {xs : List Value} (hv : Vals w (fun q => B ≤ q ∧ q < w.heap.size ∧ v.ownBlock ≠ some q ∧ CRow w q) f xs)
    (hu : IsCall w (fun q => c0 ≤ q ∧ q < w.heap.size ∧ CRow w q) c k u) (hc0 : B ≤ c0) (hvc : ∀ q, v.ownBlock = some q → q < c0)
    (hW : Below w.heap.size w W) (hg : W.grownBy w' v.ownBlock) (hown' : w'.ownsRow B 164 1 v' (f.len + 1) (xs ++ [u])) (hat : v'.ownBlock = v.ownBlock ∨ v'.ownBlock = some W.heap.size) :
    OwnT w' B v' (f.app (.cons c k .nil)) := by
  have hs := hW.size
  have hs2 := hg.size
  have keep : ∀ q, q < w.heap.size → v.ownBlock ≠ some q → w'.heap[q]? = w.heap[q]? := fun q h1 h2 => (hg.block q (by omega) (fun e => h2 e.symm)).trans (hW.block q h1)
  have ne : ∀ q, q < w.heap.size → v.ownBlock ≠ some q → v'.ownBlock ≠ some q := fun q h1 h2 => by
    rcases hat with e | e
    · rw [e]; exact h2
    · rw [e]; intro he; injection he with he; omega
  refine ⟨xs ++ [u], by rw [Forest.app_len]; exact hown', Vals.snoc ?_ f xs (Vals.keep (fun q h => ⟨⟨h.1, by omega, ne q h.2.1 h.2.2.1, h.2.2.2.keep (keep q h.2.1 h.2.2.1)⟩, keep q h.2.1 h.2.2.1⟩) f xs hv)⟩
  refine hu.keep fun q h => ?_
  have h2 : v.ownBlock ≠ some q := fun e => by have := hvc q e; omega
  exact ⟨⟨by omega, by omega, ne q h.2.1 h2, h.2.2.keep (keep q h.2.1 h2)⟩, keep q h.2.1 h2⟩

theorem newCall_any (B : Nat) (c : UInt8) (k : Forest) (v : Value) (w : World) (h : OwnT w B v k) :
    Calls Try.prog 161 #[.string ⟨#[c]⟩, v] w fun e w' => ∃ u, e = .returned u ∧ IsCall w (fun q => B ≤ q ∧ q < w.heap.size ∧ CRow w q) c k u ∧ w = w' := by
  cases hk : k.isNil with
  | true =>
    obtain ⟨A, cap, rfl, -⟩ := h.slice
    have h0 : k.len = 0 := by rw [Forest.isNil_len] at hk; exact of_decide_eq_true hk
    rw [h0]
    exact (newCall_leaf c A cap w).mono fun e w' ⟨he, hw⟩ => ⟨_, he, .inl ⟨hk, rfl⟩, hw⟩
  | false =>
    obtain ⟨g, cap, rfl, h1, h3⟩ := h.form hk
    have h0 : 0 < k.len := by rw [Forest.isNil_len] at hk; have := of_decide_eq_false hk; omega
    exact (newCall_branch c g k.len cap w h0).mono fun e w' ⟨he, hw⟩ => ⟨_, he, .inr ⟨hk, g, cap, rfl, h1, h3⟩, hw⟩
def LeftPost (w : World) (f : Forest) (e : Ending) (w' : World) : Prop := ∃ v, e = .returned v ∧ OwnT w' w.heap.size v f ∧ Below w.heap.size w w'

set_option maxRecDepth 100000 in
set_option maxHeartbeats 4000000 in
theorem callsWithout_any (n : ByteArray) : ∀ (m : Nat) (f : Forest) (v : Value) (w : World), f.size < m → f.size ≤ 1000 → SliceIs w (· < w.heap.size) v f →
    Calls Try.prog 130 #[v, .string n] w (LeftPost w (lessB n f)) := by
  intro m
  induction m with
  | zero => intro f v w h; omega
  | succ m ih =>
    intro f v w hm h80 hv
    obtain ⟨A, cap, rfl, hl0⟩ := LeftC.start hv
    have IH := Lib.hid ih
    have HL0 := Lib.hid hl0
    have hfl : f.len ≤ 1000 := Nat.le_trans f.len_size h80
    clear ih hv hl0
    obtain ⟨i0, hi0, hz0, hz1, hz2'⟩ := info_parts info_call
    have I0 := Lib.hid hi0
    have Z0 := Lib.hid hz0
    have Z1 := Lib.hid hz1
    have Z2 := Lib.hid hz2'
    clear hi0 hz0 hz1 hz2'
    go_enter Try.func130, Try.ntmps130
    go_wp2
    go_loopw [5, 10] (fun o i wr => ∃ (pre rest : Forest), i = .int .i64 pre.len ∧ Hid (OwnT wr w.heap.size o (lessB n pre)) ∧ Hid (LeftC wr w.heap.size f A pre rest) ∧ Hid (Below w.heap.size w wr))
      (fun _ i _ => f.len - (intOf i).toNat)
    case atStart => exact ⟨.nil, f, rfl, OwnT.nil _ _, HL0, Below.refl _ _⟩
    case round =>
      obtain ⟨pre, rest, rfl, HT, HL, HB⟩ := hrel
      clear HL0
      cases rest with
      | nil =>
        have HE := Lib.hid HL.out.done
        have hle : ¬ (pre.len < f.len) := by rw [HE.out]; omega
        go_wp2
        go_ret
        exact ⟨_, rfl, by rw [HE.out]; exact HT.out, HB.out⟩
      | cons c k r =>
        obtain ⟨hnext, hlt, hks, g, u, rfl, hg, c0, hu⟩ := HL.out.take
        obtain ⟨T, x, kv, rfl, hf, hkv⟩ := hu.facts
        obtain ⟨K, z, o, hmt, hen, hc⟩ := hf.calls
        have hnm := hf.name
        have HC := Lib.hid hc
        have HKV := Lib.hid hkv
        have HNX := Lib.hid hnext
        have hz := HB.out.size
        obtain ⟨A5, cap5, rfl, -⟩ := HT.out.slice
        have hps : pre.size + (k.size + r.size + 1) = f.size := by rw [HL.out.1, Forest.app_size]; rfl
        have hpl : (lessB n pre).len ≤ 1000 := by have := lessB_len n pre; have := pre.len_size; omega
        have HLN : Hid ((pre.app (.cons c k .nil)).len = pre.len + 1) := by show _ = _; rw [Forest.app_len]; rfl
        have HNM := Lib.hid (leafName_any c)
        have HNC := Lib.hid (fun B k v w h => newCall_any B c k v w h)
        have HIC := Lib.hid (fun (w : World) (S : Nat → Prop) (k : Forest) (u : Value) (h : IsCall w S c k u) => h.iface)
        by_cases hcn : (⟨#[c]⟩ : ByteArray) = n
        · have HLE : Hid (lessB n (pre.app (.cons c k .nil)) = lessB n pre) := by
            show _ = _
            rw [lessB_app, lessB_yes k hcn, Forest.app_nil]
          have HB1 : Hid (Below wr.heap.size wr (wr.alloc (.cells #[.string ⟨#[c]⟩] 189))) := (Below.refl _ wr).alloc (Nat.le_refl _) _
          have HT1 := Lib.hid (HT.out.far HB1.out)
          have HL1 := Lib.hid (HNX.out.below (HB1.out.mono hz))
          have HBB := Lib.hid (HB.out.trans (HB1.out.mono hz))
          clear hnext hf hkv hc hu HT HL HB HB1 HC HKV HNX HNC HIC
          rw [hcn] at HNM hnm HT1 HL1 HBB
          clear hcn
          go_wp2_with fail
          refine (HNM.out _).mono ?_
          rintro e w2 ⟨rfl, rfl⟩
          go_wp2
          go_roundw
          case rel => exact ⟨_, r, by rw [HLN.out]; go_num, by show OwnT _ _ _ _; rw [HLE.out]; exact HT1.out, HL1.out, HBB.out⟩
          case measure => simp [intOf]; omega
        · have HLE : Hid (lessB n (pre.app (.cons c k .nil)) = (lessB n pre).app (.cons c (lessB n k) .nil)) := by
            show _ = _
            rw [lessB_app, lessB_no k hcn]
          have HQ := Lib.hid (fun W h => IH.out k kv W (by omega) (by omega) h)
          clear hnext hf hkv hc hu HL
          generalize lessB n pre = F at *
          generalize lessB n k = k2 at *
          generalize hy : (⟨#[c]⟩ : ByteArray) = y at *
          have hne : ¬ y.toList = n.toList := fun e => hcn (by rw [ByteArray.toList_eq, ByteArray.toList_eq] at e; exact ByteArray.ext (Array.toList_inj.1 e))
          have hn2 : (y.toList == n.toList) = false := by simp [hne]
          have hn3 : (y.toList != n.toList) = true := by simp [hne]
          clear hy hcn
          go_wp2_with fail
          refine (HNM.out _).mono ?_
          rintro e w1 ⟨rfl, rfl⟩
          have hB1 : Below wr.heap.size wr (wr.alloc (.cells #[.string y] 189)) := (Below.refl _ wr).alloc (Nat.le_refl _) _
          have HB1 := Lib.hid hB1
          clear hB1
          go_wp2_with fail
          generalize wr.alloc (.cells #[.string y] 189) = W1 at *
          clear hne hn2 hn3
          refine (HNM.out _).mono ?_
          rintro e w2 ⟨rfl, rfl⟩
          have HB2 : Hid (Below wr.heap.size wr (W1.alloc (.cells #[.string y] 189))) := HB1.out.alloc HB1.out.size _
          clear HB1
          go_wp2_with fail
          generalize W1.alloc (.cells #[.string y] 189) = W2 at *
          refine (HC.out _).mono ?_
          rintro e w3 ⟨rfl, rfl⟩
          have HB3 : Hid (Below wr.heap.size wr (W2.alloc o)) := HB2.out.alloc HB2.out.size _
          clear HB2
          go_wp2_with fail
          generalize W2.alloc o = W3 at *
          have hkv3 : SliceIs W3 (· < W3.heap.size) kv k := (HKV.out.below (HB3.out.mono hz)).keep fun q hq => ⟨Nat.lt_of_lt_of_le hq (Nat.le_trans hz HB3.out.size), rfl⟩
          refine (HQ.out W3 hkv3).mono ?_
          rintro e w4 ⟨v4, rfl, ho4, hb4⟩
          have HO4 := Lib.hid ho4
          have HB4 : Hid (Below wr.heap.size wr w4) := HB3.out.trans (hb4.mono HB3.out.size)
          have HT4 : Hid (OwnT w4 w.heap.size (.slice A5 F.len cap5) F) := HT.out.far HB4.out
          have HOL := Lib.hid HT.out.lt
          obtain ⟨A6, cap6, rfl, -⟩ := ho4.slice
          clear ho4 hb4 hkv3 HQ
          go_wp2_with fail
          refine (HNC.out W3.heap.size k2 _ w4 HO4.out).mono ?_
          rintro e w5 ⟨u5, rfl, hu5, rfl⟩
          obtain ⟨t6, x6, rfl⟩ := HIC.out _ _ _ _ hu5
          obtain ⟨xs, hown, hvals⟩ := HT4.out
          have HU5 := Lib.hid hu5
          have HOWN := Lib.hid hown
          have HVAL := Lib.hid hvals
          have HZ : Hid (w.heap.size ≤ w4.heap.size ∧ wr.heap.size ≤ W3.heap.size ∧ w.heap.size ≤ W3.heap.size) := ⟨Nat.le_trans hz HB4.out.size, HB3.out.size, Nat.le_trans hz HB3.out.size⟩
          have HNW := Lib.hid (World.news_of_block (cs := #[.iface t6 x6]) (t := 164) (fr := (0, 0)) (heap_alloc_new w4 (.cells #[.iface t6 x6] 164)))
          clear hu5 hown hvals HT HT4 HO4 HB3 HNC HIC HNM HC HKV
          go_wp2_with (at_builtin; go_loud (refine wpList_append_own_at _ rfl _ _ 114 rfl w.heap.size 164 i0 .nilIface 1 16 Try.underlying114 I0.out Z0.out Z1.out Z2.out rfl (by decide) _ F.len xs rfl (HOWN.out.alloc _) ⟨w4.heap.size, 0, none⟩ 1 1 [.iface t6 x6] rfl rfl HNW.out (by simp [Value.oneCell']) (by unfold maxLen; omega) (by omega) (by have := HZ.out.1; simp; omega) ?_); intro v7 w7 hown7 hgrow7' _ hat7; have hgrow7 : World.grownBy _ w7 (Value.slice A5 F.len cap5).ownBlock := hgrow7'; have H7 := Lib.hid hown7; have HG := Lib.hid hgrow7; have HA := Lib.hid hat7; clear hown7 hgrow7 hgrow7' hat7)
          have HB7 : Hid (Below w.heap.size wr w7) := ((HB4.out.mono hz).alloc HZ.out.1 (.cells #[.iface t6 x6] 164)).grown HG.out (by have := HZ.out.1; simp; omega) (fun q hq => (HOL.out q hq).1)
          have HT7 : Hid (OwnT w7 w.heap.size v7 (F.app (.cons c k2 .nil))) :=
            OwnT.more HVAL.out HU5.out HZ.out.2.2 (fun q e => by have := (HOL.out q e).2; have := HZ.out.2.1; omega) ((Below.refl _ w4).alloc (Nat.le_refl _) (.cells #[.iface t6 x6] 164)) HG.out H7.out HA.out
          have HL7 := Lib.hid (HNX.out.below HB7.out)
          have HBB := Lib.hid (HB.out.trans HB7.out)
          clear HB7 HG H7 HA HVAL HU5 HOWN HNW HNX HB HB4 HOL HZ hmt hen hnm c0
          go_wp2
          go_roundw
          case rel => exact ⟨_, r, by rw [HLN.out]; go_num, by show OwnT _ _ _ _; rw [HLE.out]; exact HT7.out, HL7.out, HBB.out⟩
          case measure => simp [intOf]; omega

end Go.Proofs.Ytfhdbbdehploeaa
