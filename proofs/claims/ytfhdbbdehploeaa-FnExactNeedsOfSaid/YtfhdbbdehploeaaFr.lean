/- The reference's calls that are left. -/
import Derived.Test.YtfhdbbdehploeaaFq
namespace Go.Proofs.Ytfhdbbdehploeaa
open Go.RowKit

theorem oper_append_own {P : Program} {w : World} {o : Oper} {a : Act} {K : Act → World → Prop} {Q : Exit → Act → World → Prop} (s x : Operand) (t : TypeId)
    (ho : o.op = .call { callee := .builtin .append, args := #[s, x], argTypes := #[t, t] })
    (base : Nat) (e : TypeId) (i : TypeInfo) (z : Value) (size bytes : Nat) (ht : P.underlying t = some (.slice e)) (hi : P.info? e = some i) (hz : i.zero = some z)
    (hsize : i.size = size) (hby : i.bytes = bytes) (hzs : z.cells.size = size) (hsz : 0 < size)
    (v : Value) (n : Nat) (xs : List Value) (hs : a.eval s = v) (hown : w.ownsRow base e size v n xs)
    (ad : Addr) (m c : Nat) (news : List Value) (hx : a.eval x = .slice (some ad) m c) (hl : news.length = m * size) (hnews : ∀ j u, news[j]? = some u → w.cell? (ad.add j) = some u) (h1 : ∀ u ∈ news, u.oneCell' = true)
    (h63 : n + m ≤ maxLen) (hbytes : (n + m) * bytes ≤ 140737488355328) (hbase : base ≤ w.heap.size)
    (h : ∀ v' w', w'.ownsRow base e size v' (n + m) (xs ++ news) → w.grownBy w' v.ownBlock → (v' = .slice none 0 0 ↔ v = .slice none 0 0 ∧ m = 0) → (v'.ownBlock = v.ownBlock ∨ v'.ownBlock = some w.heap.size) → K (a.put o.dst v') w') :
    Oper.wp P o a w K Q := by
  obtain ⟨v', w', hr, h2, h3, h4, h5⟩ := run_append_own_at (P := P) w base t o.type e i z size bytes ht hi hz hsize hby hzs hsz v n xs hown ad m c news hl hnews h1 h63 hbytes hbase
  unfold Oper.wp execOp
  simp only [ho, resolve, invoke, builtin, Sem.run_bind, Sem.run_pure, Result.andThen_ok, List.map_toArray, List.map_cons, List.map_nil, hs, hx, hr]
  exact h v' w' h2 h3 h4 h5

/-- A slice of the reference's calls that is no nil. -/
def SolidS (w : World) (B : Nat) (v : Value) (f : Forest) : Prop := OwnS w B v f ∧ v ≠ .slice none 0 0
theorem SolidS.form {w : World} {B : Nat} {v : Value} {f : Forest} (h : SolidS w B v f) : ∃ g cap, v = .slice (some ⟨g, 0, none⟩) f.len cap := by
  obtain ⟨⟨xs, hown, _⟩, hn⟩ := h
  rcases hown.2 with ⟨h0, _⟩ | ⟨g, cap, cur, e, _⟩
  · exact absurd h0 hn
  · exact ⟨g, cap, e⟩
theorem SolidS.below {w w' : World} {B : Nat} {v : Value} {f : Forest} (h : SolidS w B v f) (hb : Below w.heap.size w w') : SolidS w' B v f :=
  ⟨h.1.far hb.size fun q _ h2 => hb.block q h2, h.2⟩
def LessPost (w : World) (f : Forest) (e : Ending) (w' : World) : Prop := ∃ v, e = .returned v ∧ SolidS w' w.heap.size v f ∧ Below w.heap.size w w'

/-- What holds in a round while one call is put behind those that are left. -/
structure LessHeld (w : World) (X : Nat) (c : UInt8) (kv v : Value) (F f pre k r : Forest) (A : Option Addr) (w' : World) : Prop where
  box : Row w' X 170 #[.string ⟨#[c]⟩, kv]
  own : SolidS w' w.heap.size v F
  left : LeftS w' w.heap.size f A (pre.app (.cons c k .nil)) r
  kids : IsKids w' (· < w.heap.size) k kv
  below : Below w.heap.size w w'
theorem LessHeld.later {w : World} {X : Nat} {c : UInt8} {kv v : Value} {F f pre k r : Forest} {A : Option Addr} {w1 w2 : World} (h : LessHeld w X c kv v F f pre k r A w1) (hb : Below w1.heap.size w1 w2) : LessHeld w X c kv v F f pre k r A w2 :=
  ⟨h.box.below hb h.box.lt, h.own.below hb, h.left.below (hb.mono h.below.size), h.kids.below (hb.mono h.below.size), h.below.trans (hb.mono h.below.size)⟩

set_option maxRecDepth 100000 in
set_option maxHeartbeats 4000000 in
theorem l4Less_any (n : ByteArray) : ∀ (m : Nat) (f : Forest) (v : Value) (w : World), f.size < m → f.size ≤ 1000 → IsKids w (· < w.heap.size) f v →
    Calls Try.prog 132 #[v, .string n] w (LessPost w (lessB n f)) := by
  intro m
  induction m with
  | zero => intro f v w h; omega
  | succ m ih =>
    intro f v w hn h80 hk
    obtain ⟨A, cap, rfl, hcs⟩ := hk.nil_or
    have IH := Lib.hid ih
    have HL0 : Hid (LeftS w w.heap.size f A .nil f) := LeftS.start hcs
    have hfl : f.len ≤ 1000 := Nat.le_trans f.len_size h80
    clear ih hk hcs
    obtain ⟨i0, hi0, hz0, hz1, hz2⟩ := info_parts info_l4
    have I0 := Lib.hid hi0
    have Z0 := Lib.hid hz0
    have Z1 := Lib.hid hz1
    have Z2 := Lib.hid hz2
    clear hi0 hz0 hz1 hz2
    have HS0 : Hid (SolidS (w.alloc (.cells #[] 170)) w.heap.size (.slice (some ⟨w.heap.size, 0, none⟩) 0 0) .nil) := ⟨OwnS.empty w (Nat.le_refl _), fun h => by cases h⟩
    have HB0 : Hid (Below w.heap.size w (w.alloc (.cells #[] 170))) := (Below.refl _ w).alloc (Nat.le_refl _) _
    go_enter Try.func132, Try.ntmps132
    go_wp2
    go_loopw [5, 11] (fun o i wr => ∃ (pre rest : Forest), i = .int .i64 pre.len ∧ Hid (SolidS wr w.heap.size o (lessB n pre)) ∧ Hid (LeftS wr w.heap.size f A pre rest) ∧ Hid (Below w.heap.size w wr))
      (fun _ i _ => f.len - (intOf i).toNat)
    case atStart => exact ⟨.nil, f, rfl, HS0, HL0.out.below HB0.out, HB0.out⟩
    case round =>
      obtain ⟨pre, rest, rfl, HT, HL, HB⟩ := hrel
      clear HL0 HS0 HB0
      cases rest with
      | nil =>
        have HE := Lib.hid HL.out.done
        have hle : ¬ (pre.len < f.len) := by rw [HE.out]; omega
        go_wp2
        go_ret
        exact ⟨_, rfl, by rw [HE.out]; exact HT.out, HB.out⟩
      | cons c k r =>
        obtain ⟨hnext, hlt, hks, g, u, rfl, hg, c0, c1, hu⟩ := HL.out.take
        obtain ⟨g1, cap1, rfl⟩ := HT.out.form
        obtain ⟨A2, cap2, rfl, -⟩ := id hu
        have hz := HB.out.size
        have hg1 : g1 < wr.heap.size := (HT.out.1.lt g1 rfl).2
        have hps : pre.size + (k.size + r.size + 1) = f.size := by rw [HL.out.1, Forest.app_size]; rfl
        have hpl : (lessB n pre).len ≤ 1000 := by have := lessB_len n pre; have := pre.len_size; omega
        have HLN : Hid ((pre.app (.cons c k .nil)).len = pre.len + 1) := by show _ = _; rw [Forest.app_len]; rfl
        have HH : Hid (LessHeld w wr.heap.size c (.slice A2 k.len cap2) (.slice (some ⟨g1, 0, none⟩) (lessB n pre).len cap1) (lessB n pre) f pre k r (some ⟨g, 0, none⟩) (wr.alloc (.cells #[.string ⟨#[c]⟩, .slice A2 k.len cap2] 170))) :=
          ⟨Row.new wr _ _, HT.out.below ((Below.refl _ wr).alloc (Nat.le_refl _) _), hnext.below ((Below.refl _ wr).alloc hz _), hu.below ((Below.refl _ wr).alloc hz _), HB.out.alloc hz _⟩
        by_cases hcn : (⟨#[c]⟩ : ByteArray) = n
        · have HLE : Hid (lessB n (pre.app (.cons c k .nil)) = lessB n pre) := by
            show _ = _
            rw [lessB_app, lessB_yes k hcn, Forest.app_nil]
          clear hnext hu HT HB HL
          rw [hcn] at c0 HH
          have HCN := Lib.hid hcn
          clear hcn
          go_wp2
          go_roundw
          case rel => exact ⟨_, r, by rw [HLN.out]; go_num, by show SolidS _ _ _ _; rw [HLE.out]; exact HH.out.own, HH.out.left, HH.out.below⟩
          case measure => simp [intOf]; omega
        · have HLE : Hid (lessB n (pre.app (.cons c k .nil)) = (lessB n pre).app (.cons c (lessB n k) .nil)) := by
            show _ = _
            rw [lessB_app, lessB_no k hcn]
          have HQ := Lib.hid (fun W h => IH.out k (.slice A2 k.len cap2) W (by omega) (by omega) h)
          have hlk : (lessB n k).len ≤ 1000 := by have := lessB_len n k; have := k.len_size; omega
          clear hnext hu HT HB HL
          generalize lessB n pre = F at *
          generalize lessB n k = k2 at *
          generalize hy : (⟨#[c]⟩ : ByteArray) = y at *
          have HY := Lib.hid hy
          have hne : ¬ y.toList = n.toList := fun e => hcn (by rw [ByteArray.toList_eq, ByteArray.toList_eq] at e; exact ByteArray.ext (Array.toList_inj.1 e))
          have hn2 : (y.toList == n.toList) = false := by simp [hne]
          have hn3 : (y.toList != n.toList) = true := by simp [hne]
          clear hy hcn
          go_wp2_with fail
          generalize wr.alloc (.cells #[.string y, .slice A2 k.len cap2] 170) = W1 at *
          have HH0 : Hid (LessHeld w wr.heap.size c (.slice A2 k.len cap2) (.slice (some ⟨g1, 0, none⟩) F.len cap1) F f pre k r (some ⟨g, 0, none⟩) W1.drew) := HH.out.later (Below.refl _ W1).drew
          have HCL : Hid (∀ W', LessHeld w wr.heap.size c (.slice A2 k.len cap2) (.slice (some ⟨g1, 0, none⟩) F.len cap1) F f pre k r (some ⟨g, 0, none⟩) W' → W'.cell? ⟨wr.heap.size, 0, none⟩ = some (.string y) ∧ W'.cell? ⟨wr.heap.size, 1, none⟩ = some (.slice A2 k.len cap2)) := fun W' h =>
            ⟨by rw [← HY.out]; exact h.box.cell 0, h.box.cell 1⟩
          clear HH hne hn2 hn3
          refine wp_region_held_drew (S := (fun w' => w'.cell? ⟨wr.heap.size, 0, none⟩ = some (.string y) ∧ w'.cell? ⟨wr.heap.size, 1, none⟩ = some (.slice A2 k.len cap2))) (by kernel_rfl) ?_ (fun hHeld => ?_)
          · exact HCL.out _ HH0.out
          refine take_at (i := 0) (d := 19) (v := .slice (some ⟨g1, 0, none⟩) F.len cap1) rfl rfl (by kernel_rfl) (by kernel_rfl) (by kernel_rfl) (fun _ _ _ h => h) (by kernel_rfl) (by (intro w hSw; (try dsimp only at hSw); go_simp)) (by assumption) ?_
          simp only [List.setIfInBounds_toArray, List.set_cons_succ, List.set_cons_zero]
          refine take_at (i := 1) (d := 20) (v := .pointer (some ⟨wr.heap.size, 0, none⟩)) rfl rfl (by kernel_rfl) (by kernel_rfl) (by kernel_rfl) (fun _ _ _ h => h) (by kernel_rfl) (by (intro w hSw; (try dsimp only at hSw); go_simp)) (by assumption) ?_
          simp only [List.setIfInBounds_toArray, List.set_cons_succ, List.set_cons_zero]
          refine take_at (i := 2) (d := 21) (v := .string y) rfl rfl (by kernel_rfl) (by kernel_rfl) (by kernel_rfl) (fun _ _ _ h => h) (by kernel_rfl) (by (intro w hSw; (try dsimp only at hSw); go_simp)) (by assumption) ?_
          simp only [List.setIfInBounds_toArray, List.set_cons_succ, List.set_cons_zero]
          refine take_at (i := 3) (d := 22) (v := .pointer (some ⟨wr.heap.size, 1, none⟩)) rfl rfl (by kernel_rfl) (by kernel_rfl) (by kernel_rfl) (fun _ _ _ h => h) (by kernel_rfl) (by (intro w hSw; (try dsimp only at hSw); go_simp)) (by assumption) ?_
          simp only [List.setIfInBounds_toArray, List.set_cons_succ, List.set_cons_zero]
          refine take_at (i := 4) (d := 23) (v := .slice A2 k.len cap2) rfl rfl (by kernel_rfl) (by kernel_rfl) (by kernel_rfl) (fun _ _ _ h => h) (by kernel_rfl) (by (intro w hSw; (try dsimp only at hSw); go_simp)) (by assumption) ?_
          simp only [List.setIfInBounds_toArray, List.set_cons_succ, List.set_cons_zero]
          refine take_at (i := 5) (d := 24) (v := .string n) rfl rfl (by kernel_rfl) (by kernel_rfl) (by kernel_rfl) (fun _ _ _ h => h) (by kernel_rfl) (by (intro w hSw; (try dsimp only at hSw); go_simp)) (by assumption) ?_
          simp only [List.setIfInBounds_toArray, List.set_cons_succ, List.set_cons_zero]
          refine wpAnyH_ready (rs := [6]) (by kernel_rfl) (by simp) ?_
          refine AllReadyH.cons rfl (fun K hK => ?_) AllReadyH.nil
          go_simp
          refine (HQ.out _ (HH0.out.kids.up HH0.out.below.size)).mono ?_
          rintro e w2 ⟨v2, rfl, hs2, hb2⟩
          obtain ⟨g2, cap3, rfl⟩ := hs2.form
          have HH2 : Hid (LessHeld w wr.heap.size c (.slice A2 k.len cap2) (.slice (some ⟨g1, 0, none⟩) F.len cap1) F f pre k r (some ⟨g, 0, none⟩) w2) := HH0.out.later hb2
          have HK2 : Hid (IsKids w2 (fun q => W1.drew.heap.size ≤ q ∧ q < w2.heap.size) k2 (.slice (some ⟨g2, 0, none⟩) k2.len cap3)) := hs2.1.kids
          have hc2 := HCL.out _ HH2.out
          have hgW : g1 < W1.drew.heap.size := (HH0.out.own.1.lt g1 rfl).2
          have hWz : w.heap.size ≤ W1.drew.heap.size := HH0.out.below.size
          clear hs2 hb2 hHeld HH0
          refine hK.out _ _ hc2 (fun hHeld => ?_)
          clear hK K hc2
          refine take_at (i := 7) (d := 26) (v := .agg #[.string y, .slice (some ⟨g2, 0, none⟩) k2.len cap3]) rfl rfl (by kernel_rfl) (by kernel_rfl) (by kernel_rfl) (fun _ _ _ h => h) (by kernel_rfl) (by (intro w hSw; (try dsimp only at hSw); go_simp)) (by assumption) ?_
          simp only [List.setIfInBounds_toArray, List.set_cons_succ, List.set_cons_zero]
          refine wpAnyH_ready (rs := [8]) (by kernel_rfl) (by simp) ?_
          refine AllReadyH.cons rfl (fun K hK => ?_) AllReadyH.nil
          go_simp
          have HH3 : Hid (LessHeld w wr.heap.size c (.slice A2 k.len cap2) (.slice (some ⟨g1, 0, none⟩) F.len cap1) F f pre k r (some ⟨g, 0, none⟩) (w2.alloc (.cells #[.string y, .slice (some ⟨g2, 0, none⟩) k2.len cap3] 170))) := HH2.out.later ((Below.refl _ w2).alloc (Nat.le_refl _) _)
          have hc3 := HCL.out _ HH3.out
          refine hK.out _ _ hc3 (fun hHeld => ?_)
          clear hK K hc3
          obtain ⟨⟨xs, hown, hvals⟩, -⟩ := HH2.out.own
          have HOWN := Lib.hid hown
          have HVAL := Lib.hid hvals
          have HNW := Lib.hid (World.news_of_block (cs := #[.string y, .slice (some ⟨g2, 0, none⟩) k2.len cap3]) (t := 170) (fr := (0, 0)) (heap_alloc_new w2 (.cells #[.string y, .slice (some ⟨g2, 0, none⟩) k2.len cap3] 170)))
          have hz2 : w.heap.size ≤ w2.heap.size := HH2.out.below.size
          clear hown hvals
          refine wpAnyH_ready (rs := [9]) (by kernel_rfl) (by simp) ?_
          refine AllReadyH.cons rfl (fun K hK => ?_) AllReadyH.nil
          rw [if_pos (by kernel_rfl)]
          refine oper_append_own _ _ 118 rfl w.heap.size 170 i0 (.agg #[.string ByteArray.empty, .slice none 0 0]) 2 40 Try.underlying118 I0.out Z0.out Z1.out Z2.out rfl (by decide) (.slice (some ⟨g1, 0, none⟩) F.len cap1) F.len xs rfl (HOWN.out.alloc _) ⟨w2.heap.size, 0, none⟩ 1 1 [.string y, .slice (some ⟨g2, 0, none⟩) k2.len cap3] rfl rfl HNW.out (by simp [Value.oneCell']) (by unfold maxLen; omega) (by omega) (by simp; omega) ?_
          intro v3 w3 hown3 hgrow3 hnil3 hat3
          have HB3 : Hid (Below w.heap.size w w3) := HH3.out.below.grown hgrow3 HH3.out.below.size (fun q hq => by injection hq with hq; dsimp only at hq; have := (HOWN.out.lt g1 rfl).1; omega)
          have HL3 : Hid (LeftS w3 w.heap.size f (some ⟨g, 0, none⟩) (pre.app (.cons c k .nil)) r) := HH3.out.left.below ((Below.refl _ _).grown hgrow3 HH3.out.below.size (fun q hq => by injection hq with hq; dsimp only at hq; have := (HOWN.out.lt g1 rfl).1; omega))
          have HS3 : Hid (SolidS w3 w.heap.size v3 (F.app (.cons c k2 .nil))) := by
            refine ⟨?_, fun h => by have := (hnil3.1 h).1; cases this⟩
            rw [← HY.out] at hown3 hgrow3
            refine OwnS.more (w := w2) HVAL.out (HK2.out.keep fun q hq => ⟨⟨by omega, hq.2, fun e => by injection e with e; dsimp only at e; omega⟩, rfl⟩) ((Below.refl _ w2).alloc (Nat.le_refl _) (.cells #[.string ⟨#[c]⟩, .slice (some ⟨g2, 0, none⟩) k2.len cap3] 170)) hgrow3 hown3 ?_
            rw [World.size_alloc] at hat3
            rw [World.size_alloc]
            exact hat3
          have hr3 := (hgrow3.block wr.heap.size HH3.out.box.lt (fun e => by
            injection e with e
            dsimp only at e
            omega)).trans HH3.out.box
          have hc3 : w3.cell? ⟨wr.heap.size, 0, none⟩ = some (.string y) ∧ w3.cell? ⟨wr.heap.size, 1, none⟩ = some (.slice A2 k.len cap2) := ⟨by rw [← HY.out]; exact Row.cell hr3 0, Row.cell hr3 1⟩
          clear hown3 hgrow3 hnil3 hat3 hr3
          refine hK.out _ _ hc3 (fun hHeld => ?_)
          clear hK K hc3
          simp only [Act.put, List.setIfInBounds_toArray]
          refine take_at (i := 10) (d := 5) (v := v3) rfl rfl (by kernel_rfl) (by kernel_rfl) (by kernel_rfl) (fun _ _ _ h => h) (by kernel_rfl) (by (intro w hSw; (try dsimp only at hSw); go_simp)) (by assumption) ?_
          simp only [List.setIfInBounds_toArray, List.set_cons_succ, List.set_cons_zero]
          refine wpAnyH_done (by kernel_rfl) ?_ _
          clear hHeld HH2 HH3 HOWN HVAL HNW HK2 HCL HQ
          go_wp2
          go_roundw
          case rel => exact ⟨_, r, by rw [HLN.out]; go_num, by show SolidS _ _ _ _; rw [HLE.out]; exact HS3.out, HL3.out, HB3.out⟩
          case measure => simp [intOf]; omega

end Go.Proofs.Ytfhdbbdehploeaa
