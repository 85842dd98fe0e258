/- Joined: De Df Dh Fj. -/
import Derived.Test.YtifkmehnikfihaaGreatU12
import Derived.Deep.DeepCutAuto
import Derived.Test.YtifkmehnikfihaaGreatU09
/- slices.symMergeCmpFunc, whole. -/
namespace Go.Proofs.YtifkmehnikfihaaGreat
open Go.RowKit

theorem rot11_idl (d : Nat → Nat) (m e : Nat) : rot11 d m m e = d := by
  funext k
  unfold rot11
  repeat' split
  all_goals first | (exfalso; omega) | rfl | (congr 1; omega)
theorem rot11_idr (d : Nat → Nat) (s m : Nat) : rot11 d s m m = d := by
  funext k
  unfold rot11
  repeat' split
  all_goals first | (exfalso; omega) | rfl | (congr 1; omega)
theorem Inside.bound {d d' : Nat → Nat} {a b n N : Nat} (h : Inside d d' a b) (hb : b ≤ n) (hd : ∀ k, k < n → d k < N) : ∀ k, k < n → d' k < N := fun k hk => by
  by_cases hin : a ≤ k ∧ k < b
  · obtain ⟨j, j1, j2, e⟩ := h.1 k hin.1 hin.2
    rw [e]; exact hd j (by omega)
  · rw [h.2 k (by omega)]; exact hd k hk

/-- What the merge is asked. -/
def MergeAsk (g off n cap N : Nat) (key : Nat → Int) (bx : Addr) (a m b : Nat) (d : Nat → Nat) (w : World) : Prop :=
  DataAt w g off n d → CmpSays g N key 116 bx w → (∀ k, k < n → d k < N) → a < m → m < b → b ≤ n → Sorted11 key d a m → Sorted11 key d m b → Cross11 d a m b →
    Calls Tryz.prog 229 #[.slice (some ⟨g, off, none⟩) n cap, .int .i64 a, .int .i64 m, .int .i64 b, .func (.func 116) #[] #[.pointer (some bx)]] w (Merged11 w g off n key d a b)

set_option maxRecDepth 100000 in
set_option maxHeartbeats 4000000 in
theorem symMerge_step (g off n cap a m b N : Nat) (key : Nat → Int) (bx : Addr) (d : Nat → Nat) (w : World) (ih : ∀ a' m' b' d' w', b' - a' < b - a → MergeAsk g off n cap N key bx a' m' b' d' w') (h : DataAt w g off n d) (hc : CmpSays g N key 116 bx w) (hd : ∀ k, k < n → d k < N) (hn : n ≤ 1000) (ham : a + 1 < m) (hmb : m + 1 < b) (hb : b ≤ n)
    (hs1 : Sorted11 key d a m) (hs2 : Sorted11 key d m b) (hx : Cross11 d a m b) :
    Calls Tryz.prog 229 #[.slice (some ⟨g, off, none⟩) n cap, .int .i64 a, .int .i64 m, .int .i64 b, .func (.func 116) #[] #[.pointer (some bx)]] w (Merged11 w g off n key d a b) := by
  have H0 := Lib.hid (Rest11.refl h)
  have HC := Lib.hid hc
  have HD := Lib.hid hd
  have IH := Lib.hid ih
  obtain ⟨M, hM⟩ : ∃ M, M = (a + b) / 2 := ⟨_, rfl⟩
  obtain ⟨lo, hi, hlh⟩ : ∃ lo hi, (M < m ∧ lo + b = M + m ∧ hi = M) ∨ (m ≤ M ∧ lo = a ∧ hi = m) := by
    by_cases hq : M < m
    · exact ⟨M + m - b, M, .inl ⟨hq, by omega, rfl⟩⟩
    · exact ⟨a, m, .inr ⟨by omega, rfl, rfl⟩⟩
  have HPA : Hid (∀ s, lo ≤ s → s ≤ hi → (s = lo ∨ key (d (s - 1)) ≤ key (d (M + m - s))) → (s = hi ∨ key (d (M + m - 1 - s)) < key (d s)) → Parts11 key d a m b s) := fun s s1 s2 s3 s4 => by
    refine ⟨by omega, by omega, by omega, by omega, by omega, ?_, ?_⟩
    · rcases s3 with s3 | s3
      · rcases hlh with ⟨x1, x2, x3⟩ | ⟨x1, x2, x3⟩
        · right; left; omega
        · left; omega
      · right; right; rw [← hM]; omega
    · rcases s4 with s4 | s4
      · rcases hlh with ⟨x1, x2, x3⟩ | ⟨x1, x2, x3⟩
        · right; left; omega
        · left; omega
      · right; right
        rw [← hM, show M + m - s - 1 = M + m - 1 - s by omega]; exact s4
  -- what stands behind the rotation and both merges
  have HEND : Hid (∀ s d2 d3, Parts11 key d a m b s → Sorted11 key d2 a M → Inside (rot11 d s m (M + m - s)) d2 a M → Sorted11 key d3 M b → Inside d2 d3 M b → Sorted11 key d3 a b ∧ Inside d d3 a b) := fun s d2 d3 P k1 k2 k3 k4 => by
    have hc := parts_cross hs1 hs2 hx P
    obtain ⟨p1, p2, p3, p4, p5, -, -⟩ := P
    rw [← hM] at hc p3 p4 p5
    refine ⟨Sorted11.join (k1.same fun k _ k2' => k4.2 k (.inl k2')) k3 (cross_inside hc k2 k4), ?_⟩
    exact (((rot11_inside (by omega) (by omega)).wide p1 (by omega)).trans (k2.wide (Nat.le_refl _) (by omega))).trans (k4.wide (by omega) (Nat.le_refl _))
  have HL : Hid (∀ s, Parts11 key d a m b s → Sorted11 key (rot11 d s m (M + m - s)) a s ∧ Sorted11 key (rot11 d s m (M + m - s)) s M ∧ Cross11 (rot11 d s m (M + m - s)) a s M) := fun s P => by
    have := parts_left hs1 hs2 hx P
    rw [← hM] at this; exact this
  have HR : Hid (∀ s, Parts11 key d a m b s → Sorted11 key (rot11 d s m (M + m - s)) M (M + m - s) ∧ Sorted11 key (rot11 d s m (M + m - s)) (M + m - s) b ∧ Cross11 (rot11 d s m (M + m - s)) M (M + m - s) b) := fun s P => by
    have := parts_right hs1 hs2 hx P
    rw [← hM] at this; exact this
  have heg : ∀ args w, (callFunc 116 args).run Tryz.prog w = .ok (.enter 116 args) w := enters_of Tryz.func116 (by kernel_rfl) rfl
  have eM : ((a : Int) + (b : Int)) / 2 = (M : Int) := by omega
  have hMa : a < M := by omega
  have hMb : M < b := by omega
  have e0 : ((m : Int) - (a : Int) == 1) = false := by rw [beq_eq_false_iff_ne]; omega
  have e1 : ((b : Int) - (m : Int) == 1) = false := by rw [beq_eq_false_iff_ne]; omega
  have hlo : a ≤ lo := by omega
  have hhi : hi ≤ m := by omega
  have hhM : hi ≤ M := by omega
  have hlh2 : lo ≤ hi := by omega
  have hlob : M + m ≤ lo + b := by omega
  have HLH := Lib.hid hlh
  clear h hc hd hs1 hs2 hx hM ih hlh
  unfold Merged11
  go_enter Tryz.func229, Tryz.ntmps229
  go_upto_if 140 with (fail)
  go_cut [20, 21] (fun s20 s21 wx => s20 = .int .i64 lo ∧ s21 = .int .i64 hi ∧ Hid (Rest11 w wx g off n d))
  case first =>
    as_aux_lemma =>
      rcases HLH.out with ⟨x1, x2, x3⟩ | ⟨x1, x2, x3⟩
      · subst x3
        have e2 : (hi : Int) + (m : Int) - (b : Int) = (lo : Int) := by omega
        clear HPA HEND HL HR HLH IH
        go_wp2_with fail
        go_meet
        exact ⟨rfl, rfl, H0⟩
      · subst x2 x3
        clear HPA HEND HL HR HLH IH
        go_wp2_with fail
        go_meet
        exact ⟨rfl, rfl, H0⟩
  case rest =>
    as_aux_lemma =>
      obtain ⟨rfl, rfl, H1⟩ := hcut
      clear H0 HLH
      go_wp2_with fail
      go_loopw [20, 21] (fun vi vj wr => ∃ (s r : Nat), vi = .int .i64 s ∧ vj = .int .i64 r ∧ lo ≤ s ∧ s ≤ r ∧ r ≤ hi ∧ Hid (Rest11 w wr g off n d) ∧ Hid (s = lo ∨ key (d (s - 1)) ≤ key (d (M + m - s))) ∧ Hid (r = hi ∨ key (d (M + m - 1 - r)) < key (d r)))
        (fun vi vj _ => (intOf vj).toNat - (intOf vi).toNat)
      case atStart => exact ⟨lo, hi, rfl, rfl, Nat.le_refl _, hlh2, Nat.le_refl _, H1, .inl rfl, .inl rfl⟩
      case round =>
        as_aux_lemma =>
          obtain ⟨s, r, rfl, rfl, hls, hsr, hrh, HR1, HI, HJ⟩ := hrel
          clear H1
          by_cases hlt : s < r
          · obtain ⟨cc, h1, h2, eh⟩ : ∃ cc : Nat, s ≤ cc ∧ cc < r ∧ ((s : Int) + (r : Int)) / 2 = (cc : Int) := ⟨(s + r) / 2, by omega, by omega, by omega⟩
            obtain ⟨q, hq, eq1⟩ : ∃ q : Nat, q = M + m - 1 - cc ∧ (M : Int) + (m : Int) - 1 - (cc : Int) = (q : Int) := ⟨M + m - 1 - cc, rfl, by omega⟩
            have hcn : cc < n := by omega
            have hqn : q < n := by omega
            have hwq : IntKind.i64.wrap (q : Int) = (q : Int) := IntWalk.i64_in _ (by omega)
            have hqi : (q : Int) < (n : Int) := by omega
            have hci : (cc : Int) < (n : Int) := by omega
            have HCM := Lib.hid (HC.out (d q) (d cc) wr.drew (HD.out q hqn) (HD.out cc hcn) HR1.out.only.drew')
            have c1 := HR1.out.data.cell hcn
            have c2 := HR1.out.data.cell hqn
            have HGL := Lib.hid HR1.out.data.lt
            have HLO := Lib.hid (fun (W : World) (h : Below wr.drew.heap.size wr.drew W) => (HR1.out.below (⟨h.os, h.tape, h.output, h.size, h.block⟩ : Below wr.heap.size wr W)))
            have HY : Hid (key (d cc) ≤ key (d q) → Hid (cc + 1 = lo ∨ key (d (cc + 1 - 1)) ≤ key (d (M + m - (cc + 1))))) := fun h => .inr (by rw [Nat.add_sub_cancel, show M + m - (cc + 1) = q by omega]; exact h)
            have HZ : Hid (key (d q) < key (d cc) → Hid (cc = hi ∨ key (d (M + m - 1 - cc)) < key (d cc))) := fun h => .inr (by rw [← hq]; exact h)
            clear HR1 HD HPA HEND HL HR IH hq
            generalize hx : d cc = x at *
            generalize hy : d q = y at *
            go_wp2_with fail
            go_still_tail 11, (by kernel_rfl)
            change wpList _ _ _ _ _ wr.drew
            go_wp2_with (go_at_fn 116; refine Calls.mono HCM.out ?_; rintro e w1 ⟨⟨r, rfl, hr⟩, hb1⟩; have HRW := Lib.hid (HLO.out w1 hb1); clear hb1 HCM HLO c1 c2)
            all_goals first
              | (have hl0 : (!decide (key y < key x)) = false := by assumption
                 have hl : key y < key x := by simpa using hl0
                 exact ⟨⟨s, cc, rfl, rfl, hls, h1, by omega, HRW, HI, by rw [hx]; exact HZ.out hl⟩, by simp [intOf]; omega⟩)
              | (have hl0 : (!decide (key y < key x)) = true := by assumption
                 have hl : key x ≤ key y := by simpa using hl0
                 exact ⟨⟨cc + 1, _, by go_num, rfl, by omega, by omega, hrh, HRW, HY.out hl, HJ⟩, by simp [intOf]; omega⟩)
          · have hre : r = s := by omega
            subst hre
            have HP := Lib.hid (HPA.out r hls hrh HI.out HJ.out)
            obtain ⟨E, hE, eE⟩ : ∃ E : Nat, E = M + m - r ∧ (M : Int) + (m : Int) - (r : Int) = (E : Int) := ⟨M + m - r, rfl, by omega⟩
            have HL1 := Lib.hid (HL.out r HP.out)
            have HR2 := Lib.hid (HR.out r HP.out)
            have HE2 := Lib.hid (fun d2 d3 => HEND.out r d2 d3 HP.out)
            have hrM : r ≤ M := by omega
            have hEm : m ≤ E := by omega
            have hEb : E ≤ b := by omega
            have hrm : r ≤ m := by omega
            have har : a ≤ r := by omega
            have HIN : Hid (Inside d (rot11 d r m E) r E) := rot11_inside hrm hEm
            rw [← hE] at HL1 HR2 HE2
            have HD1 := Lib.hid (HIN.out.bound (by omega) HD.out)
            have HROT : Hid (r < m → m < E → ∀ W, Rest11 w W g off n d → Calls Tryz.prog 248 #[.slice (some ⟨g, off, none⟩) n cap, .int .i64 r, .int .i64 m, .int .i64 E, .func (.func 116) #[] #[.pointer (some bx)]] W fun e w' => e = .returned (.tuple #[]) ∧ Rest11 w w' g off n (rot11 d r m E)) := fun x1 x2 W hW =>
              Calls.mono (rotate_any g off n cap r m E _ d W hW.data hn x1 x2 (by omega)) fun e w' h => ⟨h.1, hW.trans h.2⟩
            have HNO : Hid (r = m ∨ E = m → rot11 d r m E = d) := fun h => by
              rcases h with h | h
              · rw [h]; exact rot11_idl _ _ _
              · rw [h]; exact rot11_idr _ _ _
            clear HPA HEND HL HR HI HJ HP HD HIN
            clear hE
            generalize hd1 : rot11 d r m E = d1 at *
            clear hd1
            go_upto_region 39 with fail
            go_cut [185] (fun s185 wx => ∃ t : Bool, s185 = .bool t ∧ Hid (t = decide (r < m ∧ m < E)) ∧ Hid (Rest11 w wx g off n d))
            case first =>
              as_aux_lemma =>
                by_cases q1 : r < m
                · by_cases q2 : m < E
                  · go_wp2_with fail
                    go_meet
                    exact ⟨true, rfl, (decide_eq_true (p := r < m ∧ m < E) ⟨q1, q2⟩).symm, HR1⟩
                  · go_wp2_with fail
                    go_meet
                    exact ⟨false, rfl, (decide_eq_false (p := r < m ∧ m < E) (fun h => q2 h.2)).symm, HR1⟩
                · go_wp2_with fail
                  go_meet
                  exact ⟨false, rfl, (decide_eq_false (p := r < m ∧ m < E) (fun h => q1 h.1)).symm, HR1⟩
            case rest =>
              as_aux_lemma =>
                obtain ⟨t, rfl, HT, HR3⟩ := hcut
                clear HR1
                go_upto_if 185 with (fail)
                go_cut [186] (fun _ wx => Hid (Rest11 w wx g off n d1))
                case first =>
                  as_aux_lemma =>
                    cases t with
                    | true =>
                      have hq : r < m ∧ m < E := of_decide_eq_true HT.out.symm
                      have HRT := Lib.hid (HROT.out hq.1 hq.2 wc HR3.out)
                      clear HROT HNO HT hq HL1 HR2 HE2 HD1
                      go_wp2_with fail
                      refine Calls.mono HRT.out ?_
                      rintro e w4 ⟨rfl, hr4⟩
                      have HR4 := Lib.hid hr4
                      clear hr4
                      go_wp2_with fail
                      go_meet
                      exact HR4
                    | false =>
                      have hq : ¬ (r < m ∧ m < E) := of_decide_eq_false HT.out.symm
                      have HE1 : Hid (d1 = d) := HNO.out (by omega)
                      clear HROT HNO HT hq HL1 HR2 HE2 HD1
                      go_wp2_with fail
                      go_meet
                      rw [HE1.out]; exact HR3
                case rest =>
                  as_aux_lemma =>
                    clear HR3 HT HROT HNO
                    have HR4 : Hid (Rest11 w wc g off n d1) := hcut
                    clear hcut
                    obtain ⟨w4, rfl⟩ : ∃ w4 : World, w4 = wc := ⟨_, rfl⟩
                    go_upto_region 41 with fail
                    go_cut [199] (fun s199 wx => ∃ t : Bool, s199 = .bool t ∧ Hid (t = decide (a < r ∧ r < M)) ∧ Hid (Rest11 w wx g off n d1))
                    case first =>
                      as_aux_lemma =>
                        by_cases q1 : a < r
                        · by_cases q2 : r < M
                          · go_wp2_with fail
                            go_meet
                            exact ⟨true, rfl, (decide_eq_true (p := a < r ∧ r < M) ⟨q1, q2⟩).symm, HR4⟩
                          · go_wp2_with fail
                            go_meet
                            exact ⟨false, rfl, (decide_eq_false (p := a < r ∧ r < M) (fun h => q2 h.2)).symm, HR4⟩
                        · go_wp2_with fail
                          go_meet
                          exact ⟨false, rfl, (decide_eq_false (p := a < r ∧ r < M) (fun h => q1 h.1)).symm, HR4⟩
                    case rest =>
                      as_aux_lemma =>
                        obtain ⟨t2, rfl, HT, HR5⟩ := hcut
                        clear HR4
                        go_upto_if 199 with (fail)
                        go_cut [200] (fun _ wx => ∃ d2, Hid (Rest11 w wx g off n d2) ∧ Hid (Sorted11 key d2 a M) ∧ Hid (Inside d1 d2 a M))
                        case first =>
                          as_aux_lemma =>
                            cases t2 with
                            | true =>
                              have hq : a < r ∧ r < M := of_decide_eq_true HT.out.symm
                              have HQ := Lib.hid (IH.out a r M d1 wc (by omega) HR5.out.data (HC.out.later HR5.out.only) HD1.out hq.1 hq.2 (by omega) HL1.out.1 HL1.out.2.1 HL1.out.2.2)
                              clear HT hq HL1 HR2 HE2 HD1 IH HC
                              go_wp2_with fail
                              refine Calls.mono HQ.out ?_
                              rintro e w6 ⟨rfl, d2, hr6, hs6, hi6⟩
                              have HR6 := Lib.hid (HR5.out.trans hr6)
                              have HS6 := Lib.hid hs6
                              have HI6 := Lib.hid hi6
                              clear hr6 hs6 hi6
                              go_wp2_with fail
                              go_meet
                              exact ⟨d2, HR6, HS6, HI6⟩
                            | false =>
                              have hq : ¬ (a < r ∧ r < M) := of_decide_eq_false HT.out.symm
                              have HS6 : Hid (Sorted11 key d1 a M) := by
                                show Sorted11 _ _ _ _
                                by_cases q1 : a < r
                                · have : r = M := by omega
                                  rw [← this]; exact HL1.out.1
                                · have : r = a := by omega
                                  rw [← this]; exact HL1.out.2.1
                              clear HT hq HL1 HR2 HE2 HD1 IH HC
                              go_wp2_with fail
                              go_meet
                              exact ⟨d1, HR5, HS6, Inside.refl _ _ _⟩
                        case rest =>
                          as_aux_lemma =>
                            obtain ⟨d2, HR6, HS6, HI6⟩ := hcut
                            clear HR5 HT HL1
                            have HD2 := Lib.hid (HI6.out.bound (by omega) HD1.out)
                            have HX2 : Hid (Sorted11 key d2 M E ∧ Sorted11 key d2 E b ∧ Cross11 d2 M E b) :=
                              ⟨HR2.out.1.same fun k k1 _ => HI6.out.2 k (.inr k1), HR2.out.2.1.same fun k k1 _ => HI6.out.2 k (.inr (by omega)), HR2.out.2.2.same fun k k1 _ => HI6.out.2 k (.inr k1)⟩
                            have HE3 := Lib.hid (fun d3 => HE2.out d2 d3 HS6.out HI6.out)
                            clear HR2 HE2 HS6 HI6 HD1
                            go_upto_region 43 with fail
                            go_cut [213] (fun s213 wx => ∃ t : Bool, s213 = .bool t ∧ Hid (t = decide (M < E ∧ E < b)) ∧ Hid (Rest11 w wx g off n d2))
                            case first =>
                              as_aux_lemma =>
                                by_cases q1 : M < E
                                · by_cases q2 : E < b
                                  · go_wp2_with fail
                                    go_meet
                                    exact ⟨true, rfl, (decide_eq_true (p := M < E ∧ E < b) ⟨q1, q2⟩).symm, HR6⟩
                                  · go_wp2_with fail
                                    go_meet
                                    exact ⟨false, rfl, (decide_eq_false (p := M < E ∧ E < b) (fun h => q2 h.2)).symm, HR6⟩
                                · go_wp2_with fail
                                  go_meet
                                  exact ⟨false, rfl, (decide_eq_false (p := M < E ∧ E < b) (fun h => q1 h.1)).symm, HR6⟩
                            case rest =>
                              as_aux_lemma =>
                                obtain ⟨t3, rfl, HT, HR7⟩ := hcut
                                clear HR6
                                cases t3 with
                                | true =>
                                  have hq : M < E ∧ E < b := of_decide_eq_true HT.out.symm
                                  have HQ := Lib.hid (IH.out M E b d2 wc (by omega) HR7.out.data (HC.out.later HR7.out.only) HD2.out hq.1 hq.2 hb HX2.out.1 HX2.out.2.1 HX2.out.2.2)
                                  clear HT hq HX2 HD2 IH HC
                                  go_wp2_with fail
                                  refine Calls.mono HQ.out ?_
                                  rintro e w8 ⟨rfl, d3, hr8, hs8, hi8⟩
                                  have HR8 := Lib.hid (HR7.out.trans hr8)
                                  have HF := Lib.hid (HE3.out d3 hs8 hi8)
                                  clear hr8 hs8 hi8 HE3
                                  go_wp2
                                  go_end0
                                  exact ⟨rfl, d3, HR8.out, HF.out.1, HF.out.2⟩
                                | false =>
                                  have hq : ¬ (M < E ∧ E < b) := of_decide_eq_false HT.out.symm
                                  have hME : M ≤ E := by omega
                                  have HS8 : Hid (Sorted11 key d2 M b) := by
                                    show Sorted11 _ _ _ _
                                    by_cases q1 : M < E
                                    · have : E = b := by omega
                                      rw [← this]; exact HX2.out.1
                                    · have : E = M := by omega
                                      have h2 := HX2.out.2.1
                                      rw [this] at h2; exact h2
                                  have HF := Lib.hid (HE3.out d2 HS8.out (Inside.refl _ _ _))
                                  clear HT hq HX2 HD2 IH HC HE3
                                  go_wp2
                                  go_end0
                                  exact ⟨rfl, d2, HR7.out, HF.out.1, HF.out.2⟩

theorem symMerge_any (g off n cap N : Nat) (key : Nat → Int) (bx : Addr) (hn : n ≤ 1000) : ∀ (s a m b : Nat) (d : Nat → Nat) (w : World), b - a < s → MergeAsk g off n cap N key bx a m b d w := by
  intro s
  induction s with
  | zero => intro a m b d w h; omega
  | succ s ih =>
    intro a m b d w hs h hc hd ham hmb hb h1 h2 h3
    by_cases e1 : m = a + 1
    · exact symMerge_left g off n cap a m b N key bx d w h hc hd hn e1 hmb hb (by subst e1; exact h2) h3
    · by_cases e2 : b = m + 1
      · exact symMerge_right g off n cap a m b N key bx d w h hc hd hn (by omega) e2 hb h1 h3
      · exact symMerge_step g off n cap a m b N key bx d w (fun a' m' b' d' w' hlt => ih a' m' b' d' w' (by omega)) h hc hd hn (by omega) (by omega) hb h1 h2 h3

end Go.Proofs.YtifkmehnikfihaaGreat
/- A stable sort by blocks, plain: what holds between its rounds. -/
namespace Go.Proofs.YtifkmehnikfihaaGreat
open Go.RowKit

/-- What stands ahead of p has lower numbers than what stands behind it. -/
def CutAt (d : Nat → Nat) (n p : Nat) : Prop := ∀ i j, i < p → p ≤ j → j < n → d i < d j
theorem CutAt.inside {d d' : Nat → Nat} {n p a b : Nat} (h : CutAt d n p) (k : Inside d d' a b) (hb : b ≤ n) (hp : p ≤ a ∨ b ≤ p) : CutAt d' n p := by
  intro i j hi hj hn
  have e1 : ∃ i', i' < p ∧ d' i = d i' := by
    by_cases hin : a ≤ i ∧ i < b
    · obtain ⟨x, x1, x2, e⟩ := k.1 i hin.1 hin.2
      exact ⟨x, by omega, e⟩
    · exact ⟨i, hi, k.2 i (by omega)⟩
  have e2 : ∃ j', p ≤ j' ∧ j' < n ∧ d' j = d j' := by
    by_cases hin : a ≤ j ∧ j < b
    · obtain ⟨x, x1, x2, e⟩ := k.1 j hin.1 hin.2
      exact ⟨x, by omega, by omega, e⟩
    · exact ⟨j, hj, hn, k.2 j (by omega)⟩
  obtain ⟨i', h1, h2⟩ := e1
  obtain ⟨j', h3, h4, h5⟩ := e2
  rw [h2, h5]
  exact h i' j' h1 h3 h4
theorem CutAt.cross {d : Nat → Nat} {n a m b : Nat} (h : CutAt d n m) (hb : b ≤ n) : Cross11 d a m b := fun i j _ i2 j1 j2 => h i j i2 j1 (by omega)

/-- While blocks of twenty are sorted: those ahead of a are. -/
structure Twenty (key : Nat → Int) (d : Nat → Nat) (n a : Nat) : Prop where
  srt : ∀ t, 20 * t + 20 ≤ a → Sorted11 key d (20 * t) (20 * t + 20)
  rest : ∀ k, a ≤ k → d k = k
  cut : ∀ t, CutAt d n (20 * t)
  low : ∀ k, k < n → d k < n
theorem Twenty.start (key : Nat → Int) (n : Nat) : Twenty key id n 0 :=
  ⟨fun t h => by omega, fun _ _ => rfl, fun t i j h1 h2 _ => by show i < j; omega, fun k hk => hk⟩
theorem Twenty.inc {key : Nat → Int} {d : Nat → Nat} {n a : Nat} (h : Twenty key d n a) : ∀ i j, a ≤ i → i < j → d i < d j := fun i j h1 h2 => by
  rw [h.rest i h1, h.rest j (by omega)]; exact h2
theorem Twenty.next {key : Nat → Int} {d d' : Nat → Nat} {n u : Nat} (h : Twenty key d n (20 * u)) (hb : 20 * u + 20 ≤ n) (hs : Sorted11 key d' (20 * u) (20 * u + 20)) (hi : Inside d d' (20 * u) (20 * u + 20)) : Twenty key d' n (20 * (u + 1)) := by
  refine ⟨fun t ht => ?_, fun k hk => ?_, fun t => (h.cut t).inside hi hb (by omega), hi.bound hb h.low⟩
  · by_cases e : t = u
    · rw [e]; exact hs
    · exact (h.srt t (by omega)).same fun k _ k2 => hi.2 k (by omega)
  · rw [hi.2 k (by omega)]; exact h.rest k (by omega)

/-- Blocks of s are sorted, and stand in their order. -/
structure Stage11 (key : Nat → Int) (d : Nat → Nat) (n s : Nat) : Prop where
  cut : ∀ t, CutAt d n (s * t)
  srt : ∀ t, Sorted11 key d (s * t) (min (s * t + s) n)
  low : ∀ k, k < n → d k < n
theorem Twenty.last {key : Nat → Int} {d d' : Nat → Nat} {n u : Nat} (h : Twenty key d n (20 * u)) (ha : 20 * u ≤ n) (hb : n < 20 * u + 20) (hs : Sorted11 key d' (20 * u) n) (hi : Inside d d' (20 * u) n) : Stage11 key d' n 20 := by
  refine ⟨fun t => ?_, fun t => ?_, hi.bound (Nat.le_refl _) h.low⟩
  · by_cases e : 20 * t ≤ 20 * u
    · exact (h.cut t).inside hi (Nat.le_refl _) (.inl e)
    · exact fun i j _ h2 h3 => by omega
  · by_cases e : t < u
    · rw [Nat.min_eq_left (by omega)]
      exact (h.srt t (by omega)).same fun k _ k2 => hi.2 k (by omega)
    · by_cases e2 : t = u
      · rw [e2, Nat.min_eq_right (by omega)]; exact hs
      · exact fun i j _ _ h3 => by omega
theorem Stage11.done {key : Nat → Int} {d : Nat → Nat} {n s : Nat} (h : Stage11 key d n s) (hs : n ≤ s) : Sorted11 key d 0 n := by
  have := h.srt 0
  rw [Nat.mul_zero, Nat.zero_add, Nat.min_eq_right hs] at this
  exact this

/-- While pairs of blocks are merged: the first u pairs are. -/
structure Mid11 (key : Nat → Int) (d : Nat → Nat) (n s u : Nat) : Prop where
  done : ∀ t, t < u → Sorted11 key d (2 * s * t) (2 * s * t + 2 * s)
  rest : ∀ t, 2 * u ≤ t → Sorted11 key d (s * t) (min (s * t + s) n)
  cut2 : ∀ t, CutAt d n (2 * s * t)
  cut1 : ∀ t, 2 * u ≤ t → CutAt d n (s * t)
  low : ∀ k, k < n → d k < n
theorem two_mul11 (s t : Nat) : 2 * s * t = s * (2 * t) := by rw [Nat.mul_comm 2 s, Nat.mul_assoc]
theorem Stage11.mid {key : Nat → Int} {d : Nat → Nat} {n s : Nat} (h : Stage11 key d n s) : Mid11 key d n s 0 :=
  ⟨fun t ht => by omega, fun t _ => h.srt t, fun t => by rw [two_mul11]; exact h.cut _, fun t _ => h.cut t, h.low⟩
theorem Mid11.runs {key : Nat → Int} {d : Nat → Nat} {n s u : Nat} (h : Mid11 key d n s u) {b : Nat} (hb : b ≤ n) (hm : 2 * s * u + s ≤ b) (hb2 : b ≤ 2 * s * u + s + s) :
    Sorted11 key d (2 * s * u) (2 * s * u + s) ∧ Sorted11 key d (2 * s * u + s) b ∧ Cross11 d (2 * s * u) (2 * s * u + s) b := by
  have e1 : s * (2 * u) = 2 * s * u := (two_mul11 s u).symm
  have e2 : s * (2 * u + 1) = 2 * s * u + s := by rw [Nat.mul_succ, e1]
  have h1 := h.rest (2 * u) (Nat.le_refl _)
  have h2 := h.rest (2 * u + 1) (by omega)
  have h3 := h.cut1 (2 * u + 1) (by omega)
  rw [e1, Nat.min_eq_left (by omega)] at h1
  rw [e2] at h2 h3
  exact ⟨h1, fun i j i1 i2 i3 => h2 i j i1 i2 (by omega), h3.cross hb⟩
theorem mul_le11 {s t u : Nat} (h : t < u) : 2 * s * t + 2 * s ≤ 2 * s * u := by
  have := Nat.mul_le_mul_left (2 * s) h
  rw [Nat.succ_eq_add_one, Nat.mul_succ] at this
  exact this
theorem mul_le11' {s t u : Nat} (h : 2 * u + 2 ≤ t) : 2 * s * u + 2 * s ≤ s * t := by
  have := Nat.mul_le_mul_left s h
  rw [Nat.mul_add, ← two_mul11] at this
  omega
theorem Mid11.next {key : Nat → Int} {d d' : Nat → Nat} {n s u : Nat} (h : Mid11 key d n s u) (hb : 2 * s * u + 2 * s ≤ n) (hs : Sorted11 key d' (2 * s * u) (2 * s * u + 2 * s)) (hi : Inside d d' (2 * s * u) (2 * s * u + 2 * s)) : Mid11 key d' n s (u + 1) := by
  refine ⟨fun t ht => ?_, fun t ht => ?_, fun t => (h.cut2 t).inside hi hb ?_, fun t ht => (h.cut1 t (by omega)).inside hi hb (.inr (mul_le11' (by omega))), hi.bound hb h.low⟩
  · by_cases e : t = u
    · rw [e]; exact hs
    · have h1 : t < u := by omega
      have h2 := mul_le11 (s := s) h1
      exact (h.done t h1).same fun k _ k2 => hi.2 k (by omega)
  · have h2 := mul_le11' (s := s) (u := u) (t := t) (by omega)
    exact (h.rest t (by omega)).same fun k k1 _ => hi.2 k (by omega)
  · by_cases e : t ≤ u
    · exact .inl (Nat.mul_le_mul_left _ e)
    · exact .inr (mul_le11 (by omega))
theorem Mid11.last {key : Nat → Int} {d d' : Nat → Nat} {n s u : Nat} (h : Mid11 key d n s u) (ha : 2 * s * u ≤ n) (hb : n < 2 * s * u + 2 * s) (hs : Sorted11 key d' (2 * s * u) n) (hi : Inside d d' (2 * s * u) n) : Stage11 key d' n (2 * s) := by
  refine ⟨fun t => ?_, fun t => ?_, hi.bound (Nat.le_refl _) h.low⟩
  · by_cases e : t ≤ u
    · exact (h.cut2 t).inside hi (Nat.le_refl _) (.inl (Nat.mul_le_mul_left _ e))
    · have h2 := mul_le11 (s := s) (show u < t by omega)
      exact fun i j _ h3 h4 => by omega
  · by_cases e : t < u
    · have h2 := mul_le11 (s := s) e
      rw [Nat.min_eq_left (by omega)]
      exact (h.done t e).same fun k _ k2 => hi.2 k (by omega)
    · by_cases e2 : t = u
      · rw [e2, Nat.min_eq_right (by omega)]; exact hs
      · have h2 := mul_le11 (s := s) (show u < t by omega)
        exact fun i j _ _ h3 => by omega
theorem Mid11.rest_one {key : Nat → Int} {d : Nat → Nat} {n s u : Nat} (h : Mid11 key d n s u) (hm : n ≤ 2 * s * u + s) : Sorted11 key d (2 * s * u) n := by
  have h1 := h.rest (2 * u) (Nat.le_refl _)
  rw [← two_mul11, Nat.min_eq_right hm] at h1
  exact h1

end Go.Proofs.YtifkmehnikfihaaGreat
/- slices.stableCmpFunc, slices.SortStableFunc: the indices from 0 on, sorted. -/
namespace Go.Proofs.YtifkmehnikfihaaGreat
open Go.RowKit

/-- What the sort leaves. -/
def SortedPost (w : World) (g off n : Nat) (key : Nat → Int) (e : Ending) (w' : World) : Prop := e = .returned (.tuple #[]) ∧ ∃ d', Rest11 w w' g off n d' ∧ Sorted11 key d' 0 n ∧ ∀ k, k < n → d' k < n

set_option maxRecDepth 100000 in
set_option maxHeartbeats 4000000 in
theorem stableCmp_any (g off n cap : Nat) (key : Nat → Int) (bx : Addr) (w : World) (h : DataAt w g off n id) (hc : CmpSays g n key 116 bx w) (hn : n ≤ 80) :
    Calls Tryz.prog 174 #[.slice (some ⟨g, off, none⟩) n cap, .int .i64 n, .func (.func 116) #[] #[.pointer (some bx)]] w (SortedPost w g off n key) := by
  have H0 := Lib.hid (Rest11.refl h)
  have HC := Lib.hid hc
  have HT0 := Lib.hid (Twenty.start key n)
  have HINS := Lib.hid (fun a b d W h1 h2 h3 h4 h5 h6 => insertion_any g off n cap a b n key bx d W h1 h2 h3 (by omega) h4 h5 h6)
  have HMRG := Lib.hid (fun a m b d W => symMerge_any g off n cap n key bx (by omega) (b - a + 1) a m b d W (by omega))
  unfold MergeAsk at HMRG
  clear h hc
  unfold SortedPost
  go_enter Tryz.func174, Tryz.ntmps174
  go_wp2
  go_loopw [7, 8] (fun va vb wr => ∃ (A B u : Nat) (d : Nat → Nat), va = .int .i64 A ∧ vb = .int .i64 B ∧ B ≤ A + 20 ∧ A + 20 ≤ B ∧ A ≤ n ∧ Hid (A = 20 * u) ∧ Hid (Rest11 w wr g off n d) ∧ Hid (Twenty key d n (20 * u)))
    (fun va _ _ => n + 1 - (intOf va).toNat)
  case atStart => exact ⟨0, 20, 0, id, rfl, rfl, by omega, by omega, Nat.zero_le _, rfl, H0, HT0⟩
  case round =>
    obtain ⟨A, B, u, d, rfl, rfl, hB1, hB2, hA, HA, HR, HT⟩ := hrel
    clear H0 HT0
    by_cases hlt : B ≤ n
    · have HQ := Lib.hid (HINS.out A B d wr HR.out.data (HC.out.later HR.out.only) HT.out.low (by omega) hlt (fun i j i1 i2 _ => HT.out.inc i j (by have := HA.out; omega) i2))
      go_wp2_with fail
      refine Calls.mono HQ.out ?_
      rintro e w2 ⟨rfl, d2, hr2, hs2, hi2⟩
      have HR2 := Lib.hid (HR.out.trans hr2)
      have HT2 : Hid (Twenty key d2 n (20 * (u + 1))) := by
        show Twenty _ _ _ _
        have e1 : A = 20 * u := HA.out
        have e2 : B = 20 * u + 20 := by omega
        rw [e1, e2] at hs2 hi2
        exact HT.out.next (by omega) hs2 hi2
      have HA2 : Hid (B = 20 * (u + 1)) := by
        show _ = _
        have e1 : A = 20 * u := HA.out
        omega
      clear hr2 hs2 hi2 HQ HR HT HA
      go_wp2
      go_roundw
      case rel => exact ⟨B, B + 20, u + 1, d2, rfl, by go_num, by omega, by omega, hlt, HA2, HR2, HT2⟩
      case measure => simp [intOf]; omega
    · have HQ := Lib.hid (HINS.out A n d wr HR.out.data (HC.out.later HR.out.only) HT.out.low hA (Nat.le_refl _) (fun i j i1 i2 _ => HT.out.inc i j (by have := HA.out; omega) i2))
      go_wp2_with fail
      refine Calls.mono HQ.out ?_
      rintro e w2 ⟨rfl, d2, hr2, hs2, hi2⟩
      have HR2 := Lib.hid (HR.out.trans hr2)
      have HS2 : Hid (Stage11 key d2 n 20) := by
        show Stage11 _ _ _ _
        have e1 : A = 20 * u := HA.out
        rw [e1] at hs2 hi2
        exact HT.out.last (by omega) (by omega) hs2 hi2
      clear hr2 hs2 hi2 HQ HR HT HA HINS hA hB1 hB2 hlt
      go_wp2
      go_loopw [6, 7, 8, 9] (fun vs _ _ _ wr => ∃ (s : Nat) (d : Nat → Nat), vs = .int .i64 s ∧ 0 < s ∧ s ≤ 1000 ∧ Hid (Rest11 w wr g off n d) ∧ Hid (Stage11 key d n s))
        (fun vs _ _ _ _ => n - (intOf vs).toNat)
      case atStart => exact ⟨20, d2, rfl, by omega, by omega, HR2, HS2⟩
      case round =>
        obtain ⟨s, d3, rfl, hs0, hs1, HR3, HS3⟩ := hrel
        clear HR2 HS2
        by_cases hsn : s < n
        · have HM0 := Lib.hid HS3.out.mid
          go_wp2
          go_loopw [7, 8] (fun va vb wr => ∃ (A B u : Nat) (d : Nat → Nat), va = .int .i64 A ∧ vb = .int .i64 B ∧ B ≤ A + 2 * s ∧ A + 2 * s ≤ B ∧ A ≤ n ∧ Hid (A = 2 * s * u) ∧ Hid (Rest11 w wr g off n d) ∧ Hid (Mid11 key d n s u))
            (fun va _ _ => n + 1 - (intOf va).toNat)
          case atStart => exact ⟨0, 2 * s, 0, d3, rfl, by go_num, by omega, by omega, Nat.zero_le _, rfl, HR3, HM0⟩
          case round =>
            obtain ⟨A2, B2, u2, d4, rfl, rfl, hB1, hB2, hA, HA, HR4, HM⟩ := hrel
            clear HM0 HR3 HS3
            obtain ⟨mm, hm1, hm2, em⟩ : ∃ mm : Nat, mm ≤ A2 + s ∧ A2 + s ≤ mm ∧ (A2 : Int) + (s : Int) = (mm : Int) := ⟨A2 + s, Nat.le_refl _, Nat.le_refl _, by omega⟩
            by_cases hlt2 : B2 ≤ n
            · have hru := HM.out.runs (b := B2) hlt2 (by have := HA.out; omega) (by have := HA.out; omega)
              have e1 : A2 = 2 * s * u2 := HA.out
              have e2 : mm = A2 + s := by omega
              rw [← e1, ← e2] at hru
              have HQ := Lib.hid (HMRG.out A2 mm B2 d4 wr HR4.out.data (HC.out.later HR4.out.only) HM.out.low (by omega) (by omega) hlt2 hru.1 hru.2.1 hru.2.2)
              clear hru e1 e2
              go_wp2_with fail
              refine Calls.mono HQ.out ?_
              rintro e w5 ⟨rfl, d5, hr5, hs5, hi5⟩
              have HR5 := Lib.hid (HR4.out.trans hr5)
              have HM5 : Hid (Mid11 key d5 n s (u2 + 1)) := by
                show Mid11 _ _ _ _ _
                have e1 : A2 = 2 * s * u2 := HA.out
                have e2 : B2 = 2 * s * u2 + 2 * s := by omega
                rw [e2, e1] at hs5 hi5
                exact HM.out.next (by omega) hs5 hi5
              have HA5 : Hid (B2 = 2 * s * (u2 + 1)) := by
                show _ = _
                have e1 : A2 = 2 * s * u2 := HA.out
                rw [Nat.mul_succ]; omega
              clear hr5 hs5 hi5 HQ HR4 HM HA em hm1 hm2
              go_wp2
              go_roundw
              case rel => exact ⟨B2, B2 + 2 * s, u2 + 1, d5, rfl, by go_num, by omega, by omega, hlt2, HA5, HR5, HM5⟩
              case measure => simp [intOf]; omega
            · by_cases hmn : mm < n
              · have hru := HM.out.runs (b := n) (Nat.le_refl _) (by have := HA.out; omega) (by have := HA.out; omega)
                have e1 : A2 = 2 * s * u2 := HA.out
                have e2 : mm = A2 + s := by omega
                rw [← e1, ← e2] at hru
                have HQ := Lib.hid (HMRG.out A2 mm n d4 wr HR4.out.data (HC.out.later HR4.out.only) HM.out.low (by omega) hmn (Nat.le_refl _) hru.1 hru.2.1 hru.2.2)
                clear hru e1 e2
                go_wp2_with fail
                refine Calls.mono HQ.out ?_
                rintro e w5 ⟨rfl, d5, hr5, hs5, hi5⟩
                have HR5 := Lib.hid (HR4.out.trans hr5)
                have HS5 : Hid (Stage11 key d5 n (2 * s)) := by
                  show Stage11 _ _ _ _
                  have e1 : A2 = 2 * s * u2 := HA.out
                  rw [e1] at hs5 hi5
                  exact HM.out.last (by omega) (by omega) hs5 hi5
                clear hr5 hs5 hi5 HQ HR4 HM HA em hm1 hm2 hB1 hB2
                go_wp2
                go_roundw
                case rel => exact ⟨2 * s, d5, by go_num, by omega, by omega, HR5, HS5⟩
                case measure => simp [intOf]; omega
              · have HS5 : Hid (Stage11 key d4 n (2 * s)) := by
                  show Stage11 _ _ _ _
                  have e1 : A2 = 2 * s * u2 := HA.out
                  exact HM.out.last (by omega) (by omega) (HM.out.rest_one (by omega)) (Inside.refl _ _ _)
                clear HM HA hB1 hB2
                go_wp2
                go_roundw
                case rel => exact ⟨2 * s, d4, by go_num, by omega, by omega, HR4, HS5⟩
                case measure => simp [intOf]; omega
        · go_wp2
          go_end0
          exact ⟨rfl, d3, HR3.out, HS3.out.done (by omega), HS3.out.low⟩

set_option maxRecDepth 100000 in
theorem sortStable_any (g off n cap : Nat) (key : Nat → Int) (bx : Addr) (w : World) (h : DataAt w g off n id) (hc : CmpSays g n key 116 bx w) (hn : n ≤ 80) :
    Calls Tryz.prog 115 #[.slice (some ⟨g, off, none⟩) n cap, .func (.func 116) #[] #[.pointer (some bx)]] w (SortedPost w g off n key) := by
  have HQ := Lib.hid (stableCmp_any g off n cap key bx w h hc hn)
  clear h hc
  unfold SortedPost at HQ ⊢
  go_enter Tryz.func115, Tryz.ntmps115
  go_wp2_with fail
  refine Calls.mono HQ.out ?_
  rintro e w2 ⟨rfl, h2⟩
  go_wp2
  go_end0
  exact ⟨rfl, h2⟩

end Go.Proofs.YtifkmehnikfihaaGreat
/- A trace twice, plain; which letters stand in a trace. -/
namespace Go.Proofs.YtifkmehnikfihaaGreat
open Go.RowKit

theorem callA_some {P : UInt8 → Bool} {d : Nat} {c : UInt8} {s : List UInt8} {k : Forest} {r1 : List UInt8} (h : callA P d c s = some (k, r1)) : ∃ d', d = d' + 1 ∧ P c = true ∧
    ((k = .nil ∧ r1 = s ∧ ∀ x u, s = x :: u → x ≠ 40) ∨ (∃ s', s = 40 :: s' ∧ k.isNil = false ∧ calls P d' s' = some (k, 41 :: r1))) := by
  cases d with
  | zero => rw [callA_zero] at h; cases h
  | succ d =>
    refine ⟨d, rfl, ?_⟩
    cases hP : P c with
    | false => rw [callA_no hP] at h; cases h
    | true =>
      refine ⟨rfl, ?_⟩
      cases s with
      | nil =>
        rw [callA_leaf hP (fun x u e => by cases e)] at h
        injection h with h
        injection h with h1 h2
        exact .inl ⟨h1.symm, h2.symm, fun x u e => by cases e⟩
      | cons x u =>
        by_cases hx : x = 40
        · subst hx
          rw [callA_open hP] at h
          refine .inr ⟨u, rfl, ?_⟩
          unfold closed at h
          split at h
          · cases h
          · cases h
          · cases h
          · next c' k' f' x' r' h7 =>
            split at h
            · next h8 =>
              injection h with h
              injection h with h1 h2
              subst h1 h2 h8
              exact ⟨rfl, h7⟩
            · cases h
        · rw [callA_leaf hP (fun y v e => by injection e with e1 e2; rw [← e1]; exact hx)] at h
          injection h with h
          injection h with h1 h2
          exact .inl ⟨h1.symm, h2.symm, fun y v e => by injection e with e1 e2; rw [← e1]; exact hx⟩

theorem calls_some_cons {P : UInt8 → Bool} {d : Nat} {c : UInt8} {s : List UInt8} {f : Forest} {r : List UInt8} (hc : c ≠ 41) (h : calls P d (c :: s) = some (f, r)) :
    ∃ k r1 f', callA P d c s = some (k, r1) ∧ calls P d r1 = some (f', r) ∧ f = .cons c k f' := by
  rw [calls_cons P d s hc] at h
  unfold thenBy at h
  split at h
  · cases h
  · next k r1 h2 =>
    split at h
    · cases h
    · next f' r2 h4 =>
      injection h with h
      injection h with h1 h2'
      subst h1 h2'
      exact ⟨k, r1, f', h2, h4, rfl⟩

theorem calls_more {P : UInt8 → Bool} {u : List UInt8} (hu : ∀ x v, u = x :: v → x ≠ 40) : ∀ (n d : Nat) (s : List UInt8), s.length ≤ n → ∀ f r, calls P d s = some (f, r) → calls P d (s ++ u) = if r = [] then ahead f (calls P d u) else some (f, r ++ u)
  | n, d, [], _, f, r, h => by
    rw [calls_nil] at h
    injection h with h
    injection h with h1 h2
    subst h1 h2
    rw [if_pos rfl, List.nil_append, ahead_nil]
  | 0, d, c :: s, hn, f, r, h => absurd hn (by simp)
  | n + 1, d, c :: s, hn, f, r, h => by
    by_cases hc : c = 41
    · subst hc
      rw [calls_close] at h
      injection h with h
      injection h with h1 h2
      subst h1 h2
      rw [if_neg (by simp), List.cons_append, calls_close]
    · obtain ⟨k, r1, f', h1, h2, rfl⟩ := calls_some_cons hc h
      have hl : r1.length ≤ s.length := callA_less P d c s k r1 h1
      have hn' : s.length ≤ n := by simpa using hn
      have h3 : callA P d c (s ++ u) = some (k, r1 ++ u) := by
        obtain ⟨d', rfl, hP, ⟨rfl, rfl, hx⟩ | ⟨s', rfl, hk, hcs⟩⟩ := callA_some h1
        · refine callA_leaf hP fun x v e => ?_
          cases r1 with
          | nil => exact hu x v e
          | cons y w => injection e with e1 e2; rw [← e1]; exact hx y w rfl
        · have := calls_more hu n d' s' (by simp at hn'; omega) _ _ hcs
          rw [if_neg (by simp)] at this
          rw [List.cons_append, callA_open hP, this]
          exact closed_app hk _
      rw [List.cons_append, calls_step .nil hc h3 |> (ahead_nil _).symm.trans, calls_more hu n d r1 (by omega) _ _ h2]
      split
      · rw [ahead_ahead]; rfl
      · rfl

theorem trace_head {l : List Seg} {d : Nat} {t : List UInt8} {f : Forest} (h : calls (callP l) d t = some (f, [])) : ∀ x v, t = x :: v → x ≠ 40 := by
  rintro x v rfl rfl
  obtain ⟨k, r1, f', h1, _⟩ := calls_some_cons (by decide) h
  rw [callA_no (callP_open l)] at h1
  cases h1

/-- A trace twice is one, unless it is too long. -/
theorem traceB_twice {l : List Seg} {t : List UInt8} {f : Forest} (h : traceB l t = some f) : traceB l (t ++ t) = if t.length + t.length ≤ 80 then some (f.app f) else none := by
  obtain ⟨h1, h2, h3⟩ := traceB_some h
  rw [traceB_eq, h1, Bool.true_and, List.length_append]
  by_cases hl : t.length + t.length ≤ 80
  · rw [if_pos (decide_eq_true hl), if_pos hl, calls_more (trace_head h3) _ _ _ (Nat.le_refl _) _ _ h3, if_pos rfl, h3]
    rfl
  · rw [if_neg (by simpa using hl), if_neg hl]

/-- All letters of calls are names. -/
def Forest.all (P : UInt8 → Bool) : Forest → Prop
  | .nil => True
  | .cons c k r => P c = true ∧ k.all P ∧ r.all P
theorem calls_all {P : UInt8 → Bool} : ∀ (n d : Nat) (s : List UInt8), s.length ≤ n → ∀ f r, calls P d s = some (f, r) → f.all P
  | n, d, [], _, f, r, h => by
    rw [calls_nil] at h
    injection h with h
    injection h with h1 h2
    subst h1
    exact trivial
  | 0, d, c :: s, hn, f, r, h => absurd hn (by simp)
  | n + 1, d, c :: s, hn, f, r, h => by
    by_cases hc : c = 41
    · subst hc
      rw [calls_close] at h
      injection h with h
      injection h with h1 h2
      subst h1
      exact trivial
    · obtain ⟨k, r1, f', h1, h2, rfl⟩ := calls_some_cons hc h
      have hl : r1.length ≤ s.length := callA_less P d c s k r1 h1
      have hn' : s.length ≤ n := by simpa using hn
      obtain ⟨d', rfl, hP, h4⟩ := callA_some h1
      refine ⟨hP, ?_, calls_all n _ r1 (by omega) _ _ h2⟩
      rcases h4 with ⟨rfl, _⟩ | ⟨s', rfl, _, hcs⟩
      · exact trivial
      · exact calls_all n d' s' (by simp at hn'; omega) _ _ hcs
theorem traceB_all {l : List Seg} {t : List UInt8} {f : Forest} (h : traceB l t = some f) : f.all (callP l) := by
  obtain ⟨_, _, h3⟩ := traceB_some h
  exact calls_all _ _ _ (Nat.le_refl _) _ _ h3

end Go.Proofs.YtifkmehnikfihaaGreat
