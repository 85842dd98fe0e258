/- Joined: Fh. -/
import Derived.Test.YtifkmehnikfihaaGreatU17
/- The reference's reader of calls. -/
namespace Go.Proofs.YtifkmehnikfihaaGreat
open Go.RowKit

theorem IsKids.set2 {w W8 : World} {b : Nat} {u1 u2 : Value} {v : Value} {k : Forest} {o : Option Nat} (h : IsKids W8 (fun q => w.heap.size ≤ q ∧ q < W8.heap.size ∧ o ≠ some q) k v) (hb : b < w.heap.size) :
    IsKids ((W8.drew.setCell ⟨b, 2, none⟩ u1).setCell ⟨b, 1, none⟩ u2) (fun q => w.heap.size ≤ q ∧ q < ((W8.drew.setCell ⟨b, 2, none⟩ u1).setCell ⟨b, 1, none⟩ u2).heap.size ∧ o ≠ some q) k v := by
  refine h.keep fun q hq => ⟨⟨hq.1, by rw [size_set, size_set]; exact hq.2.1, hq.2.2⟩, ?_⟩
  exact (Below.heap_setCell _ ⟨b, 1, none⟩ _ q (by show q ≠ b; omega)).trans (Below.heap_setCell W8.drew ⟨b, 2, none⟩ _ q (by show q ≠ b; omega))

/-- What holds while the reader asks whether a name is one. -/
def SHeld (w : World) (b X : Nat) (ch : UInt8) (t : ByteArray) (k Z : Nat) (A : Option Addr) (n c : Nat) (dp : Int) (A' : Option Addr) (F : Forest) (cap' N : Nat) (w' : World) : Prop :=
  Row w' X 210 #[.string ⟨#[ch]⟩, .slice (some ⟨Z, 0, none⟩) 0 0] ∧ (∃ q, Row w' b 239 (rdCells t k q (.slice A n c) dp)) ∧ OwnN w' w.heap.size N (.slice A' F.len cap') F ∧ Only w w' (· = b)
theorem SHeld.put2 {w w' : World} {b X : Nat} {ch : UInt8} {t : ByteArray} {k Z : Nat} {A A' : Option Addr} {n c cap' N : Nat} {dp : Int} {F : Forest} (h : SHeld w b X ch t k Z A n c dp A' F cap' N w') (v : Bool) :
    Row (w'.setCell ⟨b, 2, none⟩ (.bool v)) b 239 (rdCells t k v (.slice A n c) dp) := by
  obtain ⟨_, ⟨q, h2⟩, _, _⟩ := h
  exact h2.put 2 _
theorem SHeld.set2 {w w' : World} {b X : Nat} {ch : UInt8} {t : ByteArray} {k Z : Nat} {A A' : Option Addr} {n c cap' N : Nat} {dp : Int} {F : Forest} (h : SHeld w b X ch t k Z A n c dp A' F cap' N w') (hb : b < w.heap.size) (hX : w.heap.size ≤ X) (v : Bool) :
    SHeld w b X ch t k Z A n c dp A' F cap' N (w'.setCell ⟨b, 2, none⟩ (.bool v)) :=
  ⟨h.1.far (p := ⟨b, 2, none⟩) (show X ≠ b by omega) _, ⟨v, h.put2 v⟩, h.2.2.1.setRow hb 2 _, h.2.2.2.set 2 _⟩

/-- What the reference's reader does at one level, if it does so within. -/
def CallsAt (b : Nat) (t : ByteArray) (A : Option Addr) (l : List Seg) (c : Nat) (d : Nat) : Prop :=
  ∀ (k₀ : Nat) (dp : Int) (w : World), d ≤ 8 → dp = 8 - (d : Int) → k₀ ≤ t.size → Segs w b A l →
    Row w b 239 (rdCells t k₀ false (.slice A l.length c) dp) →
    Calls Tryz.prog 208 #[.pointer (some ⟨b, 0, none⟩)] w (SPost w b t k₀ (.slice A l.length c) dp (callP l) d)

attribute [local irreducible] wpStill in
set_option maxRecDepth 100000 in
set_option maxHeartbeats 16000000 in
theorem specCalls_step (b : Nat) (t : ByteArray) (ht : t.size ≤ 1048576) (A : Option Addr) (l : List Seg) (c : Nat) (hl : l.length ≤ 1048576) (hn : Short l) (d : Nat) (ih : ∀ d', d = d' + 1 → CallsAt b t A l c d') : CallsAt b t A l c d := by
    intro k₀ dp w hd hdp hk₀ hw hr
    have IH := Lib.hid ih
    have HW : Hid (Segs w b A l) := hw
    have HR := Lib.hid hr
    have hbw := hr.lt
    have HDP := Lib.hid hdp
    have hdp0 : 0 ≤ dp := by omega
    have hdp8 : dp ≤ 8 := by omega
    clear ih hw hr hdp
    have HS0 : Hid (SRel w b t k₀ (.slice A l.length c) dp (callP l) d (.slice (some ⟨w.heap.size, 0, none⟩) 0 0) (w.alloc (.cells #[] 210))) :=
      ⟨(Only.refl w _).andBelow ((Below.refl _ w).alloc (Nat.le_refl _) _), .inl ⟨.nil, k₀, hk₀, Nat.zero_le _, OwnS.empty w (Nat.le_refl _), HR.out.alloc _, by rw [ahead_nil]⟩⟩
    go_enter Tryz.func208, Tryz.ntmps208
    go_wp2
    go_loopw [3] (fun v wr => SRel w b t k₀ (.slice A l.length c) dp (callP l) d v wr)
      (fun _ wr => leftS t b wr)
    case atStart => exact HS0.out
    case round =>
      obtain ⟨hon, (⟨F, k, hk, hFk, how, hrw, hEj⟩ | ⟨a, A', n', cap', rfl, ha0, ha1, hrw, hEj⟩)⟩ := hrel
      · obtain ⟨A', cap', rfl⟩ := how.form
        have HON := Lib.hid hon
        have HOW := Lib.hid how
        have HRW := Lib.hid hrw
        have HEJ := Lib.hid hEj
        have HM := Lib.hid (leftS_good hrw)
        have c0 : wr.cell? ⟨b, 0, none⟩ = some (.string t) := hrw.cell 0
        have c1 : wr.cell? ⟨b, 1, none⟩ = some (.int .i64 k) := hrw.cell 1
        have c2 : wr.cell? ⟨b, 2, none⟩ = some (.bool false) := hrw.cell 2
        have hk0 : (0 : Int) ≤ (k : Int) := Int.natCast_nonneg _
        clear hon how hrw hEj HS0
        by_cases hlt : k < t.size
        · have hlt' : (k : Int) < (t.size : Int) := by omega
          have g1 : decide (k < t.size) = true := decide_eq_true hlt
          have HD : Hid (t.data.toList.drop k = t[k] :: t.data.toList.drop (k + 1)) := List.drop_eq_getElem_cons (by simpa using hlt)
          by_cases h41 : t[k] = 41
          · have q1 : ((t[k].toNat : Int) != 41) = false := by rw [h41]; rfl
            have q2 : (t[k].toNat : Int) = 41 := by rw [h41]; rfl
            have HN : Hid (calls (callP l) d (t.data.toList.drop k₀) = some (F, t.data.toList.drop k)) := by
              show _ = _
              rw [HEJ.out, HD.out, h41, ahead_shut]
            clear h41
            go_wp2_with fail
            go_quiet (fail)
            go_wp2
            go_ret
            exact ⟨_, rfl, HON.out.drewN' _, .inl ⟨F, k, hk, HOW.out.far (Nat.le_refl _) (fun q _ _ => rfl), HRW.out, HN.out⟩⟩
          · have q1 : ((t[k].toNat : Int) != 41) = true := by
              rw [bne_iff_ne]
              exact fun e => h41 (UInt8.toNat_inj.1 (by have : t[k].toNat = 41 := by omega
                                                        rw [this]; rfl))
            have q2 : ¬ (t[k].toNat : Int) = 41 := bne_iff_ne.1 q1
            have hx : t.extract k (k + 1) = ⟨#[t[k]]⟩ := by
              rw [Lib.extract_eq, List.drop_eq_getElem_cons (by simpa using hlt)]
              simp
              rfl
            have HX := Lib.hid hx
            have H41 : Hid (t[k] ≠ 41) := h41
            clear h41 hx
            go_wp2_with fail
            go_quiet (fail)
            go_wp2_with fail
            have s1 : IntKind.i64.wrap ((k : Int) + 1) = (k : Int) + 1 := IntWalk.i64_in _ (by omega)
            have s2 : (0 : Int) ≤ (k : Int) + 1 := by omega
            have s3 : ((k : Int) + 1).toNat = k + 1 := by omega
            have s4 : (k : Int) ≤ (k : Int) + 1 := by omega
            have s5 : (k : Int) + 1 ≤ (t.size : Int) := by omega
            have HRW1 : Hid (Row (wr.drewN nq) b 239 (rdCells t k false (.slice A l.length c) dp)) := HRW
            have HOW1 : Hid (OwnS (wr.drewN nq) w.heap.size (.slice A' F.len cap') F) := HOW.out.far (Nat.le_refl _) (fun q _ _ => rfl)
            have HON1 : Hid (Only w (wr.drewN nq) (· = b)) := HON.out.drewN' nq
            clear c0 c1 c2 HRW HOW HON
            generalize wr.drewN nq = W1 at *
            have c0 : W1.cell? ⟨b, 0, none⟩ = some (.string t) := HRW1.out.cell 0
            have c1 : W1.cell? ⟨b, 1, none⟩ = some (.int .i64 k) := HRW1.out.cell 1
            have hbW := HRW1.out.lt
            have hbW2 : b < W1.heap.size + 1 := by omega
            have HZ : Hid (w.heap.size ≤ W1.heap.size) := HON1.out.size
            have HOWN : Hid (OwnN W1 w.heap.size W1.heap.size (.slice A' F.len cap') F) := HOW1.out.toN
            generalize hNN : W1.heap.size = N at HOWN
            have HNN0 := Lib.hid hNN
            clear hNN
            generalize t[k] = ch at *
            go_cut [3, 4] (fun s3 s4 wx => ∃ X Z : Nat, s3 = .slice A' F.len cap' ∧ s4 = .pointer (some ⟨X, 0, none⟩) ∧ w.heap.size ≤ X ∧ N ≤ X ∧ Row wx X 210 #[.string ⟨#[ch]⟩, .slice (some ⟨Z, 0, none⟩) 0 0] ∧ Row wx b 239 (rdCells t k false (.slice A l.length c) dp) ∧ OwnN wx w.heap.size N (.slice A' F.len cap') F ∧ Only w wx (· = b))
            case first =>
              as_aux_lemma =>
                go_region
                all_goals (go_wp2_with fail; go_meet)
                · rw [HX.out]
                  have hb := (((Below.refl _ W1).alloc (Nat.le_refl _) (.cells #[] 210)).alloc (by simp) (.cells #[.string ⟨#[ch]⟩, .slice (some ⟨W1.heap.size, 0, none⟩) 0 0] 210)).drew
                  refine ⟨W1.heap.size + 1, W1.heap.size, rfl, rfl, by have := HZ.out; omega, by have := HNN0.out; omega, ?_, HRW1.out.below hb hbW, HOWN.out.below hb, HON1.out.andBelow hb⟩
                  have := Row.new (W1.alloc (.cells #[] 210)) 210 #[.string ⟨#[ch]⟩, .slice (some ⟨W1.heap.size, 0, none⟩) 0 0]
                  rw [World.size_alloc] at this
                  exact this
                · rw [HX.out]
                  have hb := (((Below.refl _ W1).alloc (Nat.le_refl _) (.cells #[.string ⟨#[ch]⟩, .slice (some ⟨W1.heap.size + 1, 0, none⟩) 0 0] 210)).alloc (by simp) (.cells #[] 210)).drew
                  exact ⟨W1.heap.size, W1.heap.size + 1, rfl, rfl, HZ.out, by have := HNN0.out; omega, (Row.new W1 210 _).alloc _, HRW1.out.below hb hbW, HOWN.out.below hb, HON1.out.andBelow hb⟩
            case rest =>
              as_aux_lemma =>
                obtain ⟨X, Z, rfl, rfl, hX, hNX, hrx, hrb, how, hon⟩ := hcut
                obtain ⟨W2, rfl⟩ : ∃ W2 : World, W2 = wc := ⟨_, rfl⟩
                clear c0 c1 HRW1 HOW1 HON1 hbW hbW2 HZ HX s2 s3 s4 s5 HOWN HNN0
                have HRX := Lib.hid hrx
                have HRB := Lib.hid hrb
                have HOW := Lib.hid how
                have HON := Lib.hid hon
                have HWX : Hid (Segs W2 b A l) := HW.out.below (hon.belowRow (Nat.le_of_lt hbw))
                have hbX : b < W2.heap.size := hrb.lt
                clear hrx hrb how hon
                go_wp2_with fail
                generalize hbb : (!(callP l ch && decide (0 < d))) = bb at *
                have HBB := Lib.hid hbb
                clear hbb
                go_cut [3, 4] (fun s3 s4 wx => s3 = .slice A' F.len cap' ∧ s4 = .pointer (some ⟨X, 0, none⟩) ∧ Row wx X 210 #[.string ⟨#[ch]⟩, .slice (some ⟨Z, 0, none⟩) 0 0] ∧ Row wx b 239 (rdCells t k bb (.slice A l.length c) dp) ∧ OwnN wx w.heap.size N (.slice A' F.len cap') F ∧ Only w wx (· = b))
                case first =>
                  as_aux_lemma =>
                    cases hP : callP l ch with
                    | false =>
                      have HP : Hid (decide (0 ≤ indexB l ⟨#[ch]⟩) = false) := hP
                      obtain rfl : bb = true := by rw [← HBB.out, hP]; rfl
                      clear hP
                      refine wp_region_held_drew (S := (fun w' => w'.cell? ⟨b, 3, none⟩ = some (.slice A l.length c) ∧ w'.cell? ⟨X, 0, none⟩ = some (.string ⟨#[ch]⟩) ∧ w'.cell? ⟨b, 4, none⟩ = some (.int .i64 dp) ∧ Hid (SHeld w b X ch t k Z A l.length c dp A' F cap' N w'))) (by kernel_rfl) ?_ (fun hHeld => ?_)
                      · exact ⟨HRB.out.cell 3, HRX.out.cell 0, HRB.out.cell 4, HRX.out, ⟨false, HRB.out⟩, HOW.out.same rfl, HON.out.drew'⟩
                      refine take_at (i := 0) (d := 51) (v := .pointer (some ⟨b, 0, none⟩)) rfl rfl (by kernel_rfl) (by kernel_rfl) (by kernel_rfl) (fun _ _ _ h => h) (by kernel_rfl) (by (intro w hSw; (try dsimp only at hSw); go_simp)) (by assumption) ?_
                      simp only [List.setIfInBounds_toArray, List.set_cons_succ, List.set_cons_zero]
                      refine take_at (i := 1) (d := 52) (v := .pointer (some ⟨b, 0, none⟩)) rfl rfl (by kernel_rfl) (by kernel_rfl) (by kernel_rfl) (fun _ _ _ h => h) (by kernel_rfl) (by (intro w hSw; (try dsimp only at hSw); go_simp)) (by assumption) ?_
                      simp only [List.setIfInBounds_toArray, List.set_cons_succ, List.set_cons_zero]
                      refine take_at (i := 2) (d := 53) (v := .pointer (some ⟨b, 0, none⟩)) rfl rfl (by kernel_rfl) (by kernel_rfl) (by kernel_rfl) (fun _ _ _ h => h) (by kernel_rfl) (by (intro w hSw; (try dsimp only at hSw); go_simp)) (by assumption) ?_
                      simp only [List.setIfInBounds_toArray, List.set_cons_succ, List.set_cons_zero]
                      refine take_at (i := 3) (d := 54) (v := .pointer (some ⟨b, 3, none⟩)) rfl rfl (by kernel_rfl) (by kernel_rfl) (by kernel_rfl) (fun _ _ _ h => h) (by kernel_rfl) (by (intro w hSw; (try dsimp only at hSw); go_simp)) (by assumption) ?_
                      simp only [List.setIfInBounds_toArray, List.set_cons_succ, List.set_cons_zero]
                      refine take_at (i := 4) (d := 55) (v := .slice A l.length c) rfl rfl (by kernel_rfl) (by kernel_rfl) (by kernel_rfl) (fun _ _ _ h => h) (by kernel_rfl) (by (intro w hSw; (try dsimp only at hSw); go_simp)) (by assumption) ?_
                      simp only [List.setIfInBounds_toArray, List.set_cons_succ, List.set_cons_zero]
                      refine take_at (i := 5) (d := 56) (v := .pointer (some ⟨X, 0, none⟩)) rfl rfl (by kernel_rfl) (by kernel_rfl) (by kernel_rfl) (fun _ _ _ h => h) (by kernel_rfl) (by (intro w hSw; (try dsimp only at hSw); go_simp)) (by assumption) ?_
                      simp only [List.setIfInBounds_toArray, List.set_cons_succ, List.set_cons_zero]
                      refine take_at (i := 6) (d := 57) (v := .string ⟨#[ch]⟩) rfl rfl (by kernel_rfl) (by kernel_rfl) (by kernel_rfl) (fun _ _ _ h => h) (by kernel_rfl) (by (intro w hSw; (try dsimp only at hSw); go_simp)) (by assumption) ?_
                      simp only [List.setIfInBounds_toArray, List.set_cons_succ, List.set_cons_zero]
                      refine wpAnyH_ready (rs := [7]) (by kernel_rfl) (by simp) ?_
                      refine AllReadyH.cons rfl (fun K hK => ?_) AllReadyH.nil
                      go_simp
                      refine (l1Index_any A l c ⟨#[ch]⟩ _ ((HW.out.below (hHeld.2.2.2.out.2.2.2.belowRow (Nat.le_of_lt hbw))).more (Nat.le_trans (Nat.le_of_lt hbw) hHeld.2.2.2.out.2.2.2.size)) hl hn).mono ?_
                      rintro e w3 ⟨rfl, hb3⟩
                      obtain ⟨-, -, -, HH⟩ := hHeld
                      obtain ⟨hrx3, ⟨q3, hrb3⟩, how3, hon3⟩ := HH.out
                      have HH3 : Hid (SHeld w b X ch t k Z A l.length c dp A' F cap' N w3) := ⟨hrx3.below hb3 hrx3.lt, ⟨q3, hrb3.below hb3 hrb3.lt⟩, how3.below hb3, hon3.andBelow hb3⟩
                      have hrb4 := hrb3.below hb3 hrb3.lt
                      have hrx4 := hrx3.below hb3 hrx3.lt
                      have d2 : w3.cell? ⟨b, 2, none⟩ = some (.bool q3) := hrb4.cell 2
                      have z2 : w3.frozen? ⟨b, 2, none⟩ = false := hrb4.free 2
                      have hs3 : w3.cell? ⟨b, 3, none⟩ = some (.slice A l.length c) ∧ w3.cell? ⟨X, 0, none⟩ = some (.string ⟨#[ch]⟩) ∧ w3.cell? ⟨b, 4, none⟩ = some (.int .i64 dp) ∧ Hid (SHeld w b X ch t k Z A l.length c dp A' F cap' N w3) := ⟨hrb4.cell 3, hrx4.cell 0, hrb4.cell 4, HH3⟩
                      clear hrx3 hrb3 how3 hon3 hb3 HH hrb4 hrx4
                      generalize indexB l ⟨#[ch]⟩ = ix at *
                      refine hK.out _ _ hs3 (fun hHeld => ?_)
                      clear hK K hs3
                      have hi : ix < 0 := by have := of_decide_eq_false HP.out; omega
                      refine take_at (i := 8) (d := 59) (v := .bool true) rfl rfl (by kernel_rfl) (by kernel_rfl) (by kernel_rfl) (fun _ _ _ h => h) (by kernel_rfl) (by (intro w hSw; (try dsimp only at hSw); go_simp)) (by assumption) ?_
                      simp only [List.setIfInBounds_toArray, List.set_cons_succ, List.set_cons_zero]
                      refine take_at (i := 9) (d := 60) (v := .bool true) rfl rfl (by kernel_rfl) (by kernel_rfl) (by kernel_rfl) (fun _ _ _ h => h) (by kernel_rfl) (by (intro w hSw; (try dsimp only at hSw); go_simp)) (by assumption) ?_
                      simp only [List.setIfInBounds_toArray, List.set_cons_succ, List.set_cons_zero]
                      refine skip_at (i := 10) (d := 61) rfl rfl (by kernel_rfl) (by kernel_rfl) (by kernel_rfl) (fun _ _ _ h => h) (by kernel_rfl) (by assumption) ?_
                      simp only [List.setIfInBounds_toArray, List.set_cons_succ, List.set_cons_zero]
                      refine skip_at (i := 11) (d := 62) rfl rfl (by kernel_rfl) (by kernel_rfl) (by kernel_rfl) (fun _ _ _ h => h) (by kernel_rfl) (by assumption) ?_
                      simp only [List.setIfInBounds_toArray, List.set_cons_succ, List.set_cons_zero]
                      refine skip_at (i := 12) (d := 63) rfl rfl (by kernel_rfl) (by kernel_rfl) (by kernel_rfl) (fun _ _ _ h => h) (by kernel_rfl) (by assumption) ?_
                      simp only [List.setIfInBounds_toArray, List.set_cons_succ, List.set_cons_zero]
                      refine skip_at (i := 13) (d := 64) rfl rfl (by kernel_rfl) (by kernel_rfl) (by kernel_rfl) (fun _ _ _ h => h) (by kernel_rfl) (by assumption) ?_
                      simp only [List.setIfInBounds_toArray, List.set_cons_succ, List.set_cons_zero]
                      refine skip_at (i := 14) (d := 65) rfl rfl (by kernel_rfl) (by kernel_rfl) (by kernel_rfl) (fun _ _ _ h => h) (by kernel_rfl) (by assumption) ?_
                      simp only [List.setIfInBounds_toArray, List.set_cons_succ, List.set_cons_zero]
                      refine take_at (i := 15) (d := 66) (v := .bool true) rfl rfl (by kernel_rfl) (by kernel_rfl) (by kernel_rfl) (fun _ _ _ h => h) (by kernel_rfl) (by (intro w hSw; (try dsimp only at hSw); go_simp)) (by assumption) ?_
                      simp only [List.setIfInBounds_toArray, List.set_cons_succ, List.set_cons_zero]
                      refine take_at (i := 16) (d := 67) (v := .pointer (some ⟨b, 0, none⟩)) rfl rfl (by kernel_rfl) (by kernel_rfl) (by kernel_rfl) (fun _ _ _ h => h) (by kernel_rfl) (by (intro w hSw; (try dsimp only at hSw); go_simp)) (by assumption) ?_
                      simp only [List.setIfInBounds_toArray, List.set_cons_succ, List.set_cons_zero]
                      refine take_at (i := 17) (d := 68) (v := .pointer (some ⟨b, 2, none⟩)) rfl rfl (by kernel_rfl) (by kernel_rfl) (by kernel_rfl) (fun _ _ _ h => h) (by kernel_rfl) (by (intro w hSw; (try dsimp only at hSw); go_simp)) (by assumption) ?_
                      simp only [List.setIfInBounds_toArray, List.set_cons_succ, List.set_cons_zero]
                      refine wpAnyH_ready (rs := [18]) (by kernel_rfl) (by simp) ?_
                      refine AllReadyH.cons rfl (fun K hK => ?_) AllReadyH.nil
                      go_simp
                      have HX4 : Hid (SHeld w b X ch t k Z A l.length c dp A' F cap' N (w3.setCell ⟨b, 2, none⟩ (.bool true))) := HH3.out.set2 hbw hX true
                      have hs4 : (w3.setCell ⟨b, 2, none⟩ (.bool true)).cell? ⟨b, 3, none⟩ = some (.slice A l.length c) ∧ (w3.setCell ⟨b, 2, none⟩ (.bool true)).cell? ⟨X, 0, none⟩ = some (.string ⟨#[ch]⟩) ∧ (w3.setCell ⟨b, 2, none⟩ (.bool true)).cell? ⟨b, 4, none⟩ = some (.int .i64 dp) ∧ Hid (SHeld w b X ch t k Z A l.length c dp A' F cap' N (w3.setCell ⟨b, 2, none⟩ (.bool true))) := ⟨HX4.out.2.1.choose_spec.cell 3, HX4.out.1.cell 0, HX4.out.2.1.choose_spec.cell 4, HX4⟩
                      refine hK.out _ _ hs4 (fun hHeld => ?_)
                      clear hK K hs4 hHeld
                      refine wpAnyH_done (by kernel_rfl) ?_ _
                      go_wp2_with fail
                      go_meet
                      exact ⟨rfl, rfl, HX4.out.1, HH3.out.put2 true, HX4.out.2.2.1, HX4.out.2.2.2⟩
                    | true =>
                      have HP : Hid (decide (0 ≤ indexB l ⟨#[ch]⟩) = true) := hP
                      by_cases h0 : d = 0
                      · obtain rfl : bb = true := by rw [← HBB.out, hP, h0]; rfl
                        have h8 : 8 ≤ dp := by have := HDP.out; omega
                        clear hP
                        refine wp_region_held_drew (S := (fun w' => w'.cell? ⟨b, 3, none⟩ = some (.slice A l.length c) ∧ w'.cell? ⟨X, 0, none⟩ = some (.string ⟨#[ch]⟩) ∧ w'.cell? ⟨b, 4, none⟩ = some (.int .i64 dp) ∧ Hid (SHeld w b X ch t k Z A l.length c dp A' F cap' N w'))) (by kernel_rfl) ?_ (fun hHeld => ?_)
                        · exact ⟨HRB.out.cell 3, HRX.out.cell 0, HRB.out.cell 4, HRX.out, ⟨false, HRB.out⟩, HOW.out.same rfl, HON.out.drew'⟩
                        refine take_at (i := 0) (d := 51) (v := .pointer (some ⟨b, 0, none⟩)) rfl rfl (by kernel_rfl) (by kernel_rfl) (by kernel_rfl) (fun _ _ _ h => h) (by kernel_rfl) (by (intro w hSw; (try dsimp only at hSw); go_simp)) (by assumption) ?_
                        simp only [List.setIfInBounds_toArray, List.set_cons_succ, List.set_cons_zero]
                        refine take_at (i := 1) (d := 52) (v := .pointer (some ⟨b, 0, none⟩)) rfl rfl (by kernel_rfl) (by kernel_rfl) (by kernel_rfl) (fun _ _ _ h => h) (by kernel_rfl) (by (intro w hSw; (try dsimp only at hSw); go_simp)) (by assumption) ?_
                        simp only [List.setIfInBounds_toArray, List.set_cons_succ, List.set_cons_zero]
                        refine take_at (i := 2) (d := 53) (v := .pointer (some ⟨b, 0, none⟩)) rfl rfl (by kernel_rfl) (by kernel_rfl) (by kernel_rfl) (fun _ _ _ h => h) (by kernel_rfl) (by (intro w hSw; (try dsimp only at hSw); go_simp)) (by assumption) ?_
                        simp only [List.setIfInBounds_toArray, List.set_cons_succ, List.set_cons_zero]
                        refine take_at (i := 3) (d := 54) (v := .pointer (some ⟨b, 3, none⟩)) rfl rfl (by kernel_rfl) (by kernel_rfl) (by kernel_rfl) (fun _ _ _ h => h) (by kernel_rfl) (by (intro w hSw; (try dsimp only at hSw); go_simp)) (by assumption) ?_
                        simp only [List.setIfInBounds_toArray, List.set_cons_succ, List.set_cons_zero]
                        refine take_at (i := 4) (d := 55) (v := .slice A l.length c) rfl rfl (by kernel_rfl) (by kernel_rfl) (by kernel_rfl) (fun _ _ _ h => h) (by kernel_rfl) (by (intro w hSw; (try dsimp only at hSw); go_simp)) (by assumption) ?_
                        simp only [List.setIfInBounds_toArray, List.set_cons_succ, List.set_cons_zero]
                        refine take_at (i := 5) (d := 56) (v := .pointer (some ⟨X, 0, none⟩)) rfl rfl (by kernel_rfl) (by kernel_rfl) (by kernel_rfl) (fun _ _ _ h => h) (by kernel_rfl) (by (intro w hSw; (try dsimp only at hSw); go_simp)) (by assumption) ?_
                        simp only [List.setIfInBounds_toArray, List.set_cons_succ, List.set_cons_zero]
                        refine take_at (i := 6) (d := 57) (v := .string ⟨#[ch]⟩) rfl rfl (by kernel_rfl) (by kernel_rfl) (by kernel_rfl) (fun _ _ _ h => h) (by kernel_rfl) (by (intro w hSw; (try dsimp only at hSw); go_simp)) (by assumption) ?_
                        simp only [List.setIfInBounds_toArray, List.set_cons_succ, List.set_cons_zero]
                        refine wpAnyH_ready (rs := [7]) (by kernel_rfl) (by simp) ?_
                        refine AllReadyH.cons rfl (fun K hK => ?_) AllReadyH.nil
                        go_simp
                        refine (l1Index_any A l c ⟨#[ch]⟩ _ ((HW.out.below (hHeld.2.2.2.out.2.2.2.belowRow (Nat.le_of_lt hbw))).more (Nat.le_trans (Nat.le_of_lt hbw) hHeld.2.2.2.out.2.2.2.size)) hl hn).mono ?_
                        rintro e w3 ⟨rfl, hb3⟩
                        obtain ⟨-, -, -, HH⟩ := hHeld
                        obtain ⟨hrx3, ⟨q3, hrb3⟩, how3, hon3⟩ := HH.out
                        have HH3 : Hid (SHeld w b X ch t k Z A l.length c dp A' F cap' N w3) := ⟨hrx3.below hb3 hrx3.lt, ⟨q3, hrb3.below hb3 hrb3.lt⟩, how3.below hb3, hon3.andBelow hb3⟩
                        have hrb4 := hrb3.below hb3 hrb3.lt
                        have hrx4 := hrx3.below hb3 hrx3.lt
                        have d2 : w3.cell? ⟨b, 2, none⟩ = some (.bool q3) := hrb4.cell 2
                        have z2 : w3.frozen? ⟨b, 2, none⟩ = false := hrb4.free 2
                        have hs3 : w3.cell? ⟨b, 3, none⟩ = some (.slice A l.length c) ∧ w3.cell? ⟨X, 0, none⟩ = some (.string ⟨#[ch]⟩) ∧ w3.cell? ⟨b, 4, none⟩ = some (.int .i64 dp) ∧ Hid (SHeld w b X ch t k Z A l.length c dp A' F cap' N w3) := ⟨hrb4.cell 3, hrx4.cell 0, hrb4.cell 4, HH3⟩
                        clear hrx3 hrb3 how3 hon3 hb3 HH hrb4 hrx4
                        generalize indexB l ⟨#[ch]⟩ = ix at *
                        refine hK.out _ _ hs3 (fun hHeld => ?_)
                        clear hK K hs3
                        have hi : ¬ ix < 0 := by have := of_decide_eq_true HP.out; omega
                        refine take_at (i := 8) (d := 59) (v := .bool false) rfl rfl (by kernel_rfl) (by kernel_rfl) (by kernel_rfl) (fun _ _ _ h => h) (by kernel_rfl) (by (intro w hSw; (try dsimp only at hSw); go_simp)) (by assumption) ?_
                        simp only [List.setIfInBounds_toArray, List.set_cons_succ, List.set_cons_zero]
                        refine take_at (i := 9) (d := 60) (v := .bool false) rfl rfl (by kernel_rfl) (by kernel_rfl) (by kernel_rfl) (fun _ _ _ h => h) (by kernel_rfl) (by (intro w hSw; (try dsimp only at hSw); go_simp)) (by assumption) ?_
                        simp only [List.setIfInBounds_toArray, List.set_cons_succ, List.set_cons_zero]
                        refine take_at (i := 10) (d := 61) (v := .pointer (some ⟨b, 0, none⟩)) rfl rfl (by kernel_rfl) (by kernel_rfl) (by kernel_rfl) (fun _ _ _ h => h) (by kernel_rfl) (by (intro w hSw; (try dsimp only at hSw); go_simp)) (by assumption) ?_
                        simp only [List.setIfInBounds_toArray, List.set_cons_succ, List.set_cons_zero]
                        refine take_at (i := 11) (d := 62) (v := .pointer (some ⟨b, 0, none⟩)) rfl rfl (by kernel_rfl) (by kernel_rfl) (by kernel_rfl) (fun _ _ _ h => h) (by kernel_rfl) (by (intro w hSw; (try dsimp only at hSw); go_simp)) (by assumption) ?_
                        simp only [List.setIfInBounds_toArray, List.set_cons_succ, List.set_cons_zero]
                        refine take_at (i := 12) (d := 63) (v := .pointer (some ⟨b, 4, none⟩)) rfl rfl (by kernel_rfl) (by kernel_rfl) (by kernel_rfl) (fun _ _ _ h => h) (by kernel_rfl) (by (intro w hSw; (try dsimp only at hSw); go_simp)) (by assumption) ?_
                        simp only [List.setIfInBounds_toArray, List.set_cons_succ, List.set_cons_zero]
                        refine take_at (i := 13) (d := 64) (v := .int .i64 dp) rfl rfl (by kernel_rfl) (by kernel_rfl) (by kernel_rfl) (fun _ _ _ h => h) (by kernel_rfl) (by (intro w hSw; (try dsimp only at hSw); go_simp)) (by assumption) ?_
                        simp only [List.setIfInBounds_toArray, List.set_cons_succ, List.set_cons_zero]
                        refine take_at (i := 14) (d := 65) (v := .bool true) rfl rfl (by kernel_rfl) (by kernel_rfl) (by kernel_rfl) (fun _ _ _ h => h) (by kernel_rfl) (by (intro w hSw; (try dsimp only at hSw); go_simp)) (by assumption) ?_
                        simp only [List.setIfInBounds_toArray, List.set_cons_succ, List.set_cons_zero]
                        refine take_at (i := 15) (d := 66) (v := .bool true) rfl rfl (by kernel_rfl) (by kernel_rfl) (by kernel_rfl) (fun _ _ _ h => h) (by kernel_rfl) (by (intro w hSw; (try dsimp only at hSw); go_simp)) (by assumption) ?_
                        simp only [List.setIfInBounds_toArray, List.set_cons_succ, List.set_cons_zero]
                        refine take_at (i := 16) (d := 67) (v := .pointer (some ⟨b, 0, none⟩)) rfl rfl (by kernel_rfl) (by kernel_rfl) (by kernel_rfl) (fun _ _ _ h => h) (by kernel_rfl) (by (intro w hSw; (try dsimp only at hSw); go_simp)) (by assumption) ?_
                        simp only [List.setIfInBounds_toArray, List.set_cons_succ, List.set_cons_zero]
                        refine take_at (i := 17) (d := 68) (v := .pointer (some ⟨b, 2, none⟩)) rfl rfl (by kernel_rfl) (by kernel_rfl) (by kernel_rfl) (fun _ _ _ h => h) (by kernel_rfl) (by (intro w hSw; (try dsimp only at hSw); go_simp)) (by assumption) ?_
                        simp only [List.setIfInBounds_toArray, List.set_cons_succ, List.set_cons_zero]
                        refine wpAnyH_ready (rs := [18]) (by kernel_rfl) (by simp) ?_
                        refine AllReadyH.cons rfl (fun K hK => ?_) AllReadyH.nil
                        go_simp
                        have HX4 : Hid (SHeld w b X ch t k Z A l.length c dp A' F cap' N (w3.setCell ⟨b, 2, none⟩ (.bool true))) := HH3.out.set2 hbw hX true
                        have hs4 : (w3.setCell ⟨b, 2, none⟩ (.bool true)).cell? ⟨b, 3, none⟩ = some (.slice A l.length c) ∧ (w3.setCell ⟨b, 2, none⟩ (.bool true)).cell? ⟨X, 0, none⟩ = some (.string ⟨#[ch]⟩) ∧ (w3.setCell ⟨b, 2, none⟩ (.bool true)).cell? ⟨b, 4, none⟩ = some (.int .i64 dp) ∧ Hid (SHeld w b X ch t k Z A l.length c dp A' F cap' N (w3.setCell ⟨b, 2, none⟩ (.bool true))) := ⟨HX4.out.2.1.choose_spec.cell 3, HX4.out.1.cell 0, HX4.out.2.1.choose_spec.cell 4, HX4⟩
                        refine hK.out _ _ hs4 (fun hHeld => ?_)
                        clear hK K hs4 hHeld
                        refine wpAnyH_done (by kernel_rfl) ?_ _
                        go_wp2_with fail
                        go_meet
                        exact ⟨rfl, rfl, HX4.out.1, HH3.out.put2 true, HX4.out.2.2.1, HX4.out.2.2.2⟩
                      · obtain rfl : bb = false := by rw [← HBB.out, hP, decide_eq_true (Nat.pos_of_ne_zero h0)]; rfl
                        have h8 : ¬ 8 ≤ dp := by have := HDP.out; omega
                        clear hP
                        refine wp_region_held_drew (S := (fun w' => w'.cell? ⟨b, 3, none⟩ = some (.slice A l.length c) ∧ w'.cell? ⟨X, 0, none⟩ = some (.string ⟨#[ch]⟩) ∧ w'.cell? ⟨b, 4, none⟩ = some (.int .i64 dp) ∧ Hid (SHeld w b X ch t k Z A l.length c dp A' F cap' N w'))) (by kernel_rfl) ?_ (fun hHeld => ?_)
                        · exact ⟨HRB.out.cell 3, HRX.out.cell 0, HRB.out.cell 4, HRX.out, ⟨false, HRB.out⟩, HOW.out.same rfl, HON.out.drew'⟩
                        refine take_at (i := 0) (d := 51) (v := .pointer (some ⟨b, 0, none⟩)) rfl rfl (by kernel_rfl) (by kernel_rfl) (by kernel_rfl) (fun _ _ _ h => h) (by kernel_rfl) (by (intro w hSw; (try dsimp only at hSw); go_simp)) (by assumption) ?_
                        simp only [List.setIfInBounds_toArray, List.set_cons_succ, List.set_cons_zero]
                        refine take_at (i := 1) (d := 52) (v := .pointer (some ⟨b, 0, none⟩)) rfl rfl (by kernel_rfl) (by kernel_rfl) (by kernel_rfl) (fun _ _ _ h => h) (by kernel_rfl) (by (intro w hSw; (try dsimp only at hSw); go_simp)) (by assumption) ?_
                        simp only [List.setIfInBounds_toArray, List.set_cons_succ, List.set_cons_zero]
                        refine take_at (i := 2) (d := 53) (v := .pointer (some ⟨b, 0, none⟩)) rfl rfl (by kernel_rfl) (by kernel_rfl) (by kernel_rfl) (fun _ _ _ h => h) (by kernel_rfl) (by (intro w hSw; (try dsimp only at hSw); go_simp)) (by assumption) ?_
                        simp only [List.setIfInBounds_toArray, List.set_cons_succ, List.set_cons_zero]
                        refine take_at (i := 3) (d := 54) (v := .pointer (some ⟨b, 3, none⟩)) rfl rfl (by kernel_rfl) (by kernel_rfl) (by kernel_rfl) (fun _ _ _ h => h) (by kernel_rfl) (by (intro w hSw; (try dsimp only at hSw); go_simp)) (by assumption) ?_
                        simp only [List.setIfInBounds_toArray, List.set_cons_succ, List.set_cons_zero]
                        refine take_at (i := 4) (d := 55) (v := .slice A l.length c) rfl rfl (by kernel_rfl) (by kernel_rfl) (by kernel_rfl) (fun _ _ _ h => h) (by kernel_rfl) (by (intro w hSw; (try dsimp only at hSw); go_simp)) (by assumption) ?_
                        simp only [List.setIfInBounds_toArray, List.set_cons_succ, List.set_cons_zero]
                        refine take_at (i := 5) (d := 56) (v := .pointer (some ⟨X, 0, none⟩)) rfl rfl (by kernel_rfl) (by kernel_rfl) (by kernel_rfl) (fun _ _ _ h => h) (by kernel_rfl) (by (intro w hSw; (try dsimp only at hSw); go_simp)) (by assumption) ?_
                        simp only [List.setIfInBounds_toArray, List.set_cons_succ, List.set_cons_zero]
                        refine take_at (i := 6) (d := 57) (v := .string ⟨#[ch]⟩) rfl rfl (by kernel_rfl) (by kernel_rfl) (by kernel_rfl) (fun _ _ _ h => h) (by kernel_rfl) (by (intro w hSw; (try dsimp only at hSw); go_simp)) (by assumption) ?_
                        simp only [List.setIfInBounds_toArray, List.set_cons_succ, List.set_cons_zero]
                        refine wpAnyH_ready (rs := [7]) (by kernel_rfl) (by simp) ?_
                        refine AllReadyH.cons rfl (fun K hK => ?_) AllReadyH.nil
                        go_simp
                        refine (l1Index_any A l c ⟨#[ch]⟩ _ ((HW.out.below (hHeld.2.2.2.out.2.2.2.belowRow (Nat.le_of_lt hbw))).more (Nat.le_trans (Nat.le_of_lt hbw) hHeld.2.2.2.out.2.2.2.size)) hl hn).mono ?_
                        rintro e w3 ⟨rfl, hb3⟩
                        obtain ⟨-, -, -, HH⟩ := hHeld
                        obtain ⟨hrx3, ⟨q3, hrb3⟩, how3, hon3⟩ := HH.out
                        have HH3 : Hid (SHeld w b X ch t k Z A l.length c dp A' F cap' N w3) := ⟨hrx3.below hb3 hrx3.lt, ⟨q3, hrb3.below hb3 hrb3.lt⟩, how3.below hb3, hon3.andBelow hb3⟩
                        have hrb4 := hrb3.below hb3 hrb3.lt
                        have hrx4 := hrx3.below hb3 hrx3.lt
                        have d2 : w3.cell? ⟨b, 2, none⟩ = some (.bool q3) := hrb4.cell 2
                        have z2 : w3.frozen? ⟨b, 2, none⟩ = false := hrb4.free 2
                        have hs3 : w3.cell? ⟨b, 3, none⟩ = some (.slice A l.length c) ∧ w3.cell? ⟨X, 0, none⟩ = some (.string ⟨#[ch]⟩) ∧ w3.cell? ⟨b, 4, none⟩ = some (.int .i64 dp) ∧ Hid (SHeld w b X ch t k Z A l.length c dp A' F cap' N w3) := ⟨hrb4.cell 3, hrx4.cell 0, hrb4.cell 4, HH3⟩
                        clear hrx3 hrb3 how3 hon3 hb3 HH hrb4 hrx4
                        generalize indexB l ⟨#[ch]⟩ = ix at *
                        refine hK.out _ _ hs3 (fun hHeld => ?_)
                        clear hK K hs3
                        have hi : ¬ ix < 0 := by have := of_decide_eq_true HP.out; omega
                        refine take_at (i := 8) (d := 59) (v := .bool false) rfl rfl (by kernel_rfl) (by kernel_rfl) (by kernel_rfl) (fun _ _ _ h => h) (by kernel_rfl) (by (intro w hSw; (try dsimp only at hSw); go_simp)) (by assumption) ?_
                        simp only [List.setIfInBounds_toArray, List.set_cons_succ, List.set_cons_zero]
                        refine take_at (i := 9) (d := 60) (v := .bool false) rfl rfl (by kernel_rfl) (by kernel_rfl) (by kernel_rfl) (fun _ _ _ h => h) (by kernel_rfl) (by (intro w hSw; (try dsimp only at hSw); go_simp)) (by assumption) ?_
                        simp only [List.setIfInBounds_toArray, List.set_cons_succ, List.set_cons_zero]
                        refine take_at (i := 10) (d := 61) (v := .pointer (some ⟨b, 0, none⟩)) rfl rfl (by kernel_rfl) (by kernel_rfl) (by kernel_rfl) (fun _ _ _ h => h) (by kernel_rfl) (by (intro w hSw; (try dsimp only at hSw); go_simp)) (by assumption) ?_
                        simp only [List.setIfInBounds_toArray, List.set_cons_succ, List.set_cons_zero]
                        refine take_at (i := 11) (d := 62) (v := .pointer (some ⟨b, 0, none⟩)) rfl rfl (by kernel_rfl) (by kernel_rfl) (by kernel_rfl) (fun _ _ _ h => h) (by kernel_rfl) (by (intro w hSw; (try dsimp only at hSw); go_simp)) (by assumption) ?_
                        simp only [List.setIfInBounds_toArray, List.set_cons_succ, List.set_cons_zero]
                        refine take_at (i := 12) (d := 63) (v := .pointer (some ⟨b, 4, none⟩)) rfl rfl (by kernel_rfl) (by kernel_rfl) (by kernel_rfl) (fun _ _ _ h => h) (by kernel_rfl) (by (intro w hSw; (try dsimp only at hSw); go_simp)) (by assumption) ?_
                        simp only [List.setIfInBounds_toArray, List.set_cons_succ, List.set_cons_zero]
                        refine take_at (i := 13) (d := 64) (v := .int .i64 dp) rfl rfl (by kernel_rfl) (by kernel_rfl) (by kernel_rfl) (fun _ _ _ h => h) (by kernel_rfl) (by (intro w hSw; (try dsimp only at hSw); go_simp)) (by assumption) ?_
                        simp only [List.setIfInBounds_toArray, List.set_cons_succ, List.set_cons_zero]
                        refine take_at (i := 14) (d := 65) (v := .bool false) rfl rfl (by kernel_rfl) (by kernel_rfl) (by kernel_rfl) (fun _ _ _ h => h) (by kernel_rfl) (by (intro w hSw; (try dsimp only at hSw); go_simp)) (by assumption) ?_
                        simp only [List.setIfInBounds_toArray, List.set_cons_succ, List.set_cons_zero]
                        refine take_at (i := 15) (d := 66) (v := .bool false) rfl rfl (by kernel_rfl) (by kernel_rfl) (by kernel_rfl) (fun _ _ _ h => h) (by kernel_rfl) (by (intro w hSw; (try dsimp only at hSw); go_simp)) (by assumption) ?_
                        simp only [List.setIfInBounds_toArray, List.set_cons_succ, List.set_cons_zero]
                        refine take_at (i := 16) (d := 67) (v := .pointer (some ⟨b, 0, none⟩)) rfl rfl (by kernel_rfl) (by kernel_rfl) (by kernel_rfl) (fun _ _ _ h => h) (by kernel_rfl) (by (intro w hSw; (try dsimp only at hSw); go_simp)) (by assumption) ?_
                        simp only [List.setIfInBounds_toArray, List.set_cons_succ, List.set_cons_zero]
                        refine take_at (i := 17) (d := 68) (v := .pointer (some ⟨b, 2, none⟩)) rfl rfl (by kernel_rfl) (by kernel_rfl) (by kernel_rfl) (fun _ _ _ h => h) (by kernel_rfl) (by (intro w hSw; (try dsimp only at hSw); go_simp)) (by assumption) ?_
                        simp only [List.setIfInBounds_toArray, List.set_cons_succ, List.set_cons_zero]
                        refine wpAnyH_ready (rs := [18]) (by kernel_rfl) (by simp) ?_
                        refine AllReadyH.cons rfl (fun K hK => ?_) AllReadyH.nil
                        go_simp
                        have HX4 : Hid (SHeld w b X ch t k Z A l.length c dp A' F cap' N (w3.setCell ⟨b, 2, none⟩ (.bool false))) := HH3.out.set2 hbw hX false
                        have hs4 : (w3.setCell ⟨b, 2, none⟩ (.bool false)).cell? ⟨b, 3, none⟩ = some (.slice A l.length c) ∧ (w3.setCell ⟨b, 2, none⟩ (.bool false)).cell? ⟨X, 0, none⟩ = some (.string ⟨#[ch]⟩) ∧ (w3.setCell ⟨b, 2, none⟩ (.bool false)).cell? ⟨b, 4, none⟩ = some (.int .i64 dp) ∧ Hid (SHeld w b X ch t k Z A l.length c dp A' F cap' N (w3.setCell ⟨b, 2, none⟩ (.bool false))) := ⟨HX4.out.2.1.choose_spec.cell 3, HX4.out.1.cell 0, HX4.out.2.1.choose_spec.cell 4, HX4⟩
                        refine hK.out _ _ hs4 (fun hHeld => ?_)
                        clear hK K hs4 hHeld
                        refine wpAnyH_done (by kernel_rfl) ?_ _
                        go_wp2_with fail
                        go_meet
                        exact ⟨rfl, rfl, HX4.out.1, HH3.out.put2 false, HX4.out.2.2.1, HX4.out.2.2.2⟩
                case rest =>
                  as_aux_lemma =>
                    obtain ⟨rfl, rfl, hrx, hrb, how, hon⟩ := hcut
                    obtain ⟨W3, rfl⟩ : ∃ W3 : World, W3 = wc := ⟨_, rfl⟩
                    clear HRX HRB HOW HON HWX hbX
                    have c1 : W3.cell? ⟨b, 1, none⟩ = some (.int .i64 k) := hrb.cell 1
                    have z1 : W3.frozen? ⟨b, 1, none⟩ = false := hrb.free 1
                    have HRX4 : Hid (Row (W3.setCell ⟨b, 1, none⟩ (.int .i64 ((k : Int) + 1))) X 210 #[.string ⟨#[ch]⟩, .slice (some ⟨Z, 0, none⟩) 0 0]) := hrx.far (p := ⟨b, 1, none⟩) (show X ≠ b by omega) _
                    have HRB4 : Hid (Row (W3.setCell ⟨b, 1, none⟩ (.int .i64 ((k : Int) + 1))) b 239 (rdCells t ((k + 1 : Nat) : Int) bb (.slice A l.length c) dp)) := hrb.put 1 _
                    have HOW4 : Hid (OwnN (W3.setCell ⟨b, 1, none⟩ (.int .i64 ((k : Int) + 1))) w.heap.size N (.slice A' F.len cap') F) := how.setRow hbw 1 _
                    have HON4 : Hid (Only w (W3.setCell ⟨b, 1, none⟩ (.int .i64 ((k : Int) + 1))) (· = b)) := hon.set 1 _
                    clear hrx hrb how hon
                    go_wp2_with fail
                    generalize W3.setCell ⟨b, 1, none⟩ (.int .i64 ((k : Int) + 1)) = W4 at *
                    clear c1 z1 g1 q1 q2 hlt'
                    generalize hqq : (!bb && nextB t (k + 1) 40) = qq at *
                    have HQQ := Lib.hid hqq
                    clear hqq
                    go_cut [3, 4, 104] (fun s3 s4 s5 wx => s3 = .slice A' F.len cap' ∧ s4 = .pointer (some ⟨X, 0, none⟩) ∧ s5 = .bool qq ∧ Row wx X 210 #[.string ⟨#[ch]⟩, .slice (some ⟨Z, 0, none⟩) 0 0] ∧ Row wx b 239 (rdCells t ((k + 1 : Nat) : Int) bb (.slice A l.length c) dp) ∧ OwnN wx w.heap.size N (.slice A' F.len cap') F ∧ Only w wx (· = b))
                    case first =>
                      as_aux_lemma =>
                        have c0 : W4.cell? ⟨b, 0, none⟩ = some (.string t) := HRB4.out.cell 0
                        have c1 : W4.cell? ⟨b, 1, none⟩ = some (.int .i64 ((k + 1 : Nat) : Int)) := HRB4.out.cell 1
                        have c2 : W4.cell? ⟨b, 2, none⟩ = some (.bool bb) := HRB4.out.cell 2
                        cases bb with
                        | true =>
                          go_quiet (fail)
                          go_wp2_with fail
                          go_meet
                          exact ⟨rfl, rfl, by rw [← HQQ.out]; rfl, HRX4.out, HRB4.out, HOW4.out.same rfl, HON4.out.drewN' _⟩
                        | false =>
                          have hk10 : (0 : Int) ≤ ((k + 1 : Nat) : Int) := Int.natCast_nonneg _
                          by_cases hlt2 : k + 1 < t.size
                          · have g1 : decide (k + 1 < t.size) = true := decide_eq_true hlt2
                            have g2 : ((k + 1 : Nat) : Int) < (t.size : Int) := by omega
                            have HNX := Lib.hid (nextB_at 40 hlt2)
                            generalize hk1 : k + 1 = k1 at *
                            cases hq : decide (t[k1] = 40) with
                            | true =>
                              have he := of_decide_eq_true hq
                              have HNY := Lib.hid (HNX.out.trans hq)
                              have q1 : ((t[k1].toNat : Int) == 40) = true := by rw [he]; rfl
                              clear hq he
                              go_quiet (fail)
                              go_wp2_with fail
                              go_meet
                              exact ⟨rfl, rfl, by rw [← HQQ.out, HNY.out]; rfl, HRX4.out, HRB4.out, HOW4.out.same rfl, HON4.out.drewN' _⟩
                            | false =>
                              have he := of_decide_eq_false hq
                              have HNY := Lib.hid (HNX.out.trans hq)
                              have q1 : ((t[k1].toNat : Int) == 40) = false := by
                                rw [beq_eq_false_iff_ne]
                                exact fun e => he (UInt8.toNat_inj.1 (by have : t[k1].toNat = 40 := by omega
                                                                         rw [this]; rfl))
                              clear hq he
                              go_quiet (fail)
                              go_wp2_with fail
                              go_meet
                              exact ⟨rfl, rfl, by rw [← HQQ.out, HNY.out]; rfl, HRX4.out, HRB4.out, HOW4.out.same rfl, HON4.out.drewN' _⟩
                          · have g1 : decide (k + 1 < t.size) = false := decide_eq_false hlt2
                            have HNY := Lib.hid (nextB_end (t := t) (k := k + 1) 40 (by omega))
                            generalize hk1 : k + 1 = k1 at *
                            go_quiet (fail)
                            go_wp2_with fail
                            go_meet
                            exact ⟨rfl, rfl, by rw [← HQQ.out, HNY.out]; rfl, HRX4.out, HRB4.out, HOW4.out.same rfl, HON4.out.drewN' _⟩
                    case rest =>
                      as_aux_lemma =>
                        obtain ⟨rfl, rfl, rfl, hrx, hrb, how, hon⟩ := hcut
                        obtain ⟨W5, rfl⟩ : ∃ W5 : World, W5 = wc := ⟨_, rfl⟩
                        clear HRX4 HRB4 HOW4 HON4
                        have HRX5 := Lib.hid hrx
                        have HRB5 := Lib.hid hrb
                        have HOW5 := Lib.hid how
                        have HON5 := Lib.hid hon
                        clear hrx hrb how hon
                        have HZ5 : Hid (w.heap.size ≤ W5.heap.size) := HON5.out.size
                        have HXL : Hid (X < W5.heap.size) := HRX5.out.lt
                        go_upto_if 104 with (fail)
                        go_cut [3, 4] (fun s3 s4 wx => s3 = .slice A' F.len cap' ∧ SMid w b t k₀ (.slice A l.length c) dp (callP l) d k N ch F s3 s4 wx)
                        case first =>
                          as_aux_lemma =>
                            cases qq with
                            | false =>
                              have hnb : bb = true ∨ (bb = false ∧ nextB t (k + 1) 40 = false) := by
                                have h := HQQ.out
                                cases bb with
                                | true => exact .inl rfl
                                | false => exact .inr ⟨rfl, by simpa using h⟩
                              have HMD : Hid (SMid w b t k₀ (.slice A l.length c) dp (callP l) d k N ch F (.slice A' F.len cap') (.pointer (some ⟨X, 0, none⟩)) W5) := by
                                rcases hnb with rfl | ⟨rfl, hnx⟩
                                · have hnone : callA (callP l) d ch (t.data.toList.drop (k + 1)) = none := by
                                    cases hP : callP l ch with
                                    | false => exact callA_no hP
                                    | true =>
                                      have h0 : decide (0 < d) = false := by have := HBB.out; rw [hP] at this; simpa using this
                                      obtain rfl : d = 0 := by have := of_decide_eq_false h0; omega
                                      rfl
                                  have HN : calls (callP l) d (t.data.toList.drop k₀) = none := by
                                    rw [HEJ.out, HD.out]
                                    exact calls_fail F H41.out hnone
                                  exact ⟨X, _, rfl, HRX5.out, HON5.out, HOW5.out, .inr ⟨((k + 1 : Nat) : Int), _, 0, 0, rfl, by omega, by omega, HRB5.out, HN⟩⟩
                                · obtain ⟨d', rfl⟩ : ∃ d', d = d' + 1 := by
                                    have h0 : 0 < d := by
                                      have := HBB.out
                                      simp at this
                                      exact this.2
                                    exact ⟨d - 1, by omega⟩
                                  have hP : callP l ch = true := by
                                    have := HBB.out
                                    simp at this
                                    exact this
                                  have HN : calls (callP l) (d' + 1) (t.data.toList.drop k₀) = ahead (F.app (.cons ch .nil .nil)) (calls (callP l) (d' + 1) (t.data.toList.drop (k + 1))) := by
                                    rw [HEJ.out, HD.out]
                                    exact calls_step F H41.out (callA_leaf hP (nextB_other hnx))
                                  exact ⟨X, _, rfl, HRX5.out, HON5.out, HOW5.out, .inl ⟨.nil, k + 1, by omega, by omega, by omega, HRB5.out, ⟨_, 0, rfl, fun h => by cases h⟩, HN⟩⟩
                              clear hnb
                              go_wp2_with fail
                              go_meet
                              exact ⟨rfl, HMD.out⟩
                            | true =>
                              have hnb : bb = false ∧ nextB t (k + 1) 40 = true := by
                                have h := HQQ.out
                                cases bb with
                                | true => cases h
                                | false => exact ⟨rfl, by simpa using h⟩
                              obtain ⟨rfl, hnx⟩ := hnb
                              obtain ⟨d', rfl⟩ : ∃ d', d = d' + 1 := by
                                have h0 : 0 < d := by
                                  have := HBB.out
                                  simp at this
                                  exact this.2
                                exact ⟨d - 1, by omega⟩
                              have hP : callP l ch = true := by
                                have := HBB.out
                                simp at this
                                exact this
                              obtain ⟨hd2, hlt2⟩ := nextB_head (by omega) hnx
                              have HN : Hid (callA (callP l) (d' + 1) ch (t.data.toList.drop (k + 1)) = closed (calls (callP l) d' (t.data.toList.drop (k + 2)))) := by
                                show _ = _
                                rw [hd2]
                                exact callA_open hP
                              have c1 : W5.cell? ⟨b, 1, none⟩ = some (.int .i64 ((k + 1 : Nat) : Int)) := HRB5.out.cell 1
                              have z1 : W5.frozen? ⟨b, 1, none⟩ = false := HRB5.out.free 1
                              have z4 : W5.frozen? ⟨b, 4, none⟩ = false := HRB5.out.free 4
                              have c4 : W5.cell? ⟨b, 4, none⟩ = some (.int .i64 dp) := HRB5.out.cell 4
                              have hdp7 : dp ≤ 7 := by have := HDP.out; omega
                              have HR6 : Hid (Row ((W5.setCell ⟨b, 1, none⟩ (.int .i64 ((k : Int) + 1 + 1))).setCell ⟨b, 4, none⟩ (.int .i64 (dp + 1))) b 239 (rdCells t ((k + 2 : Nat) : Int) false (.slice A l.length c) (dp + 1))) := (HRB5.out.put 1 _).put 4 _
                              have HX6 : Hid (Row ((W5.setCell ⟨b, 1, none⟩ (.int .i64 ((k : Int) + 1 + 1))).setCell ⟨b, 4, none⟩ (.int .i64 (dp + 1))) X 210 #[.string ⟨#[ch]⟩, .slice (some ⟨Z, 0, none⟩) 0 0]) := (HRX5.out.far (p := ⟨b, 1, none⟩) (show X ≠ b by omega) _).far (p := ⟨b, 4, none⟩) (show X ≠ b by omega) _
                              have HO6 : Hid (OwnN ((W5.setCell ⟨b, 1, none⟩ (.int .i64 ((k : Int) + 1 + 1))).setCell ⟨b, 4, none⟩ (.int .i64 (dp + 1))) w.heap.size N (.slice A' F.len cap') F) := (HOW5.out.setRow hbw 1 _).setRow hbw 4 _
                              have HN6 : Hid (Only w ((W5.setCell ⟨b, 1, none⟩ (.int .i64 ((k : Int) + 1 + 1))).setCell ⟨b, 4, none⟩ (.int .i64 (dp + 1))) (· = b)) := (HON5.out.set 1 _).set 4 _
                              clear hnx hd2 hP
                              go_wp2_with fail
                              generalize (W5.setCell ⟨b, 1, none⟩ (.int .i64 ((k : Int) + 1 + 1))).setCell ⟨b, 4, none⟩ (.int .i64 (dp + 1)) = W6 at *
                              clear c1 z1 z4 c4
                              have HQ := Lib.hid (IH.out d' rfl (k + 2) (dp + 1) W6 (by omega) (by have := HDP.out; omega) (by omega) (HW.out.below (HN6.out.belowRow (Nat.le_of_lt hbw))) HR6.out)
                              refine Calls.mono HQ.out ?_
                              rintro e w7 ⟨v7, rfl, ho7, hres⟩
                              have hX6 := HX6.out.lt
                              have hb6 := HR6.out.lt
                              have HX7 := Lib.hid (HX6.out.only ho7 (show X ≠ b by omega))
                              have HO7 := Lib.hid (HO6.out.only ho7 hbw)
                              have HN7 := Lib.hid (HN6.out.trans ho7)
                              have HOL6 := Lib.hid HO6.out.lt
                              have HNZ6 : Hid (N ≤ W6.heap.size) := HO6.out.1
                              have hz67 : W6.heap.size ≤ w7.heap.size := ho7.size
                              have hz6 : w.heap.size ≤ W6.heap.size := HN6.out.size
                              have hXb : ¬ X = b := by omega
                              have hbX : ¬ b = X := by omega
                              have x1 : w7.cell? ⟨X, 1, none⟩ = some (.slice (some ⟨Z, 0, none⟩) 0 0) := HX7.out.cell 1
                              have y1 : w7.frozen? ⟨X, 1, none⟩ = false := HX7.out.free 1
                              rcases hres with ⟨Fk, k1, hk1, hok, hrk, hck⟩ | ⟨a, A7, n7, c7, rfl, ha0, ha1, hrk, hck⟩
                              · obtain ⟨A7, c7, rfl⟩ := hok.form
                                have HX8 : Hid (Row ((w7.setCell ⟨X, 1, none⟩ (.slice A7 Fk.len c7)).setCell ⟨b, 4, none⟩ (.int .i64 dp)) X 210 #[.string ⟨#[ch]⟩, (.slice A7 Fk.len c7)]) := (HX7.out.put 1 _).far (p := ⟨b, 4, none⟩) (show X ≠ b by omega) _
                                have HR8 : Hid (Row ((w7.setCell ⟨X, 1, none⟩ (.slice A7 Fk.len c7)).setCell ⟨b, 4, none⟩ (.int .i64 dp)) b 239 (rdCells t k1 false (.slice A l.length c) dp)) := (hrk.far (p := ⟨X, 1, none⟩) (show b ≠ X by omega) _).put 4 _
                                have HN8 : Hid (Only w ((w7.setCell ⟨X, 1, none⟩ (.slice A7 Fk.len c7)).setCell ⟨b, 4, none⟩ (.int .i64 dp)) (· = b)) := (HN7.out.andLow ((Below.refl _ w7).setCell hX _)).set 4 _
                                have HO8 : Hid (OwnN ((w7.setCell ⟨X, 1, none⟩ (.slice A7 Fk.len c7)).setCell ⟨b, 4, none⟩ (.int .i64 dp)) w.heap.size N (.slice A' F.len cap') F) := (HO7.out.setAt hNX 1 _).setRow hbw 4 _
                                have c4 : w7.cell? ⟨b, 4, none⟩ = some (.int .i64 (dp + 1)) := hrk.cell 4
                                have z4 : w7.frozen? ⟨b, 4, none⟩ = false := hrk.free 4
                                have HCK := Lib.hid hck
                                have HK7 := Lib.hid hok.kids
                                clear hrk hck hok
                                go_wp2_with fail
                                have HK8 : Hid (IsKids ((w7.setCell ⟨X, 1, none⟩ (.slice A7 Fk.len c7)).setCell ⟨b, 4, none⟩ (.int .i64 dp)) (fun q => w.heap.size ≤ q ∧ q < ((w7.setCell ⟨X, 1, none⟩ (.slice A7 Fk.len c7)).setCell ⟨b, 4, none⟩ (.int .i64 dp)).heap.size ∧ (Value.slice A' F.len cap').ownBlock ≠ some q) Fk (.slice A7 Fk.len c7)) := by
                                  refine HK7.out.keep fun q hq => ⟨⟨by omega, by simpa [World.setCell] using hq.2, fun e => by have := (HOL6.out q e).2; have := HNZ6.out; omega⟩, ?_⟩
                                  exact (Below.heap_setCell _ ⟨b, 4, none⟩ _ q (by show q ≠ b; omega)).trans (Below.heap_setCell w7 ⟨X, 1, none⟩ _ q (by show q ≠ X; omega))
                                generalize (w7.setCell ⟨X, 1, none⟩ (.slice A7 Fk.len c7)).setCell ⟨b, 4, none⟩ (.int .i64 dp) = W8 at *
                                clear c4 z4 x1 y1
                                have e3 : W8.cell? ⟨X, 1, none⟩ = some (.slice A7 Fk.len c7) := HX8.out.cell 1
                                have hk10 : (0 : Int) ≤ (k1 : Int) := Int.natCast_nonneg _
                                cases hfn : Fk.isNil with
                                | true =>
                                  have h0 : Fk.len = 0 := by rw [Forest.isNil_len] at hfn; exact of_decide_eq_true hfn
                                  have r1 : ((Fk.len : Int) == 0) = true := by rw [h0]; rfl
                                  have HNN : Hid (calls (callP l) (d' + 1) (t.data.toList.drop k₀) = none) := by
                                    show _ = _
                                    rw [HEJ.out, HD.out]
                                    refine calls_fail F H41.out ?_
                                    rw [HN.out, HCK.out]
                                    cases Fk with
                                    | nil => rfl
                                    | cons _ _ _ => cases hfn
                                  clear hfn h0
                                  have e0 : W8.cell? ⟨b, 0, none⟩ = some (.string t) := HR8.out.cell 0
                                  have e1 : W8.cell? ⟨b, 1, none⟩ = some (.int .i64 k1) := HR8.out.cell 1
                                  have e2 : W8.cell? ⟨b, 2, none⟩ = some (.bool false) := HR8.out.cell 2
                                  have y2 : W8.frozen? ⟨b, 2, none⟩ = false := HR8.out.free 2
                                  have y1 : W8.frozen? ⟨b, 1, none⟩ = false := HR8.out.free 1
                                  refine wp_region_still_tail 25 (by kernel_rfl) (readerLex_of (by kernel_rfl)) ?_
                                  change wpStill _ _ W8.drew _ _ _
                                  simp only [List.take_succ_cons, List.take_zero, List.drop_succ_cons, List.drop_zero]
                                  refine still_put (d := 129) (v := .pointer (some ⟨b, 0, none⟩)) rfl (by kernel_rfl) (by simp only [List.setIfInBounds_toArray, List.set_cons_succ, List.set_cons_zero]; rfl) (by kernel_rfl) ?_
                                  refine still_put (d := 130) (v := .pointer (some ⟨b, 0, none⟩)) rfl (by kernel_rfl) (by simp only [List.setIfInBounds_toArray, List.set_cons_succ, List.set_cons_zero]; rfl) (by kernel_rfl) ?_
                                  refine still_put (d := 131) (v := .pointer (some ⟨b, 0, none⟩)) rfl (by kernel_rfl) (by simp only [List.setIfInBounds_toArray, List.set_cons_succ, List.set_cons_zero]; rfl) (by kernel_rfl) ?_
                                  refine still_put (d := 132) (v := .pointer (some ⟨b, 2, none⟩)) rfl (by kernel_rfl) (by simp only [List.setIfInBounds_toArray, List.set_cons_succ, List.set_cons_zero]; rfl) (by kernel_rfl) ?_
                                  refine still_put (d := 133) (v := .bool false) rfl (by kernel_rfl) (by simp only [List.setIfInBounds_toArray, List.set_cons_succ, List.set_cons_zero]; rfl) (hy_loadB rfl (by kernel_rfl) e2) ?_
                                  refine still_put (d := 134) (v := .bool false) rfl (by kernel_rfl) (by simp only [List.setIfInBounds_toArray, List.set_cons_succ, List.set_cons_zero]; rfl) (by kernel_rfl) ?_
                                  refine still_put (d := 135) (v := .pointer (some ⟨X, 1, none⟩)) rfl (by kernel_rfl) (by simp only [List.setIfInBounds_toArray, List.set_cons_succ, List.set_cons_zero]; rfl) (by kernel_rfl) ?_
                                  refine still_put (d := 136) (v := .slice A7 Fk.len c7) rfl (by kernel_rfl) (by simp only [List.setIfInBounds_toArray, List.set_cons_succ, List.set_cons_zero]; rfl) (hy_loadS rfl (by kernel_rfl) e3) ?_
                                  refine still_put (d := 137) (v := .int .i64 Fk.len) rfl (by kernel_rfl) (by simp only [List.setIfInBounds_toArray, List.set_cons_succ, List.set_cons_zero]; rfl) (hy_lenS (A := A7) (n := Fk.len) (c := c7) rfl (by kernel_rfl)) ?_
                                  refine still_put (d := 138) (v := .bool true) rfl (by kernel_rfl) (by simp only [List.setIfInBounds_toArray, List.set_cons_succ, List.set_cons_zero]; rfl) (hy_eql (A := (Fk.len : Int)) (B := 0) (q := true) rfl (by kernel_rfl) (by kernel_rfl) r1) ?_
                                  refine still_put (d := 139) (v := .bool true) rfl (by kernel_rfl) (by simp only [List.setIfInBounds_toArray, List.set_cons_succ, List.set_cons_zero]; rfl) (by kernel_rfl) ?_
                                  refine still_put (d := 140) (v := .bool true) rfl (by kernel_rfl) (by simp only [List.setIfInBounds_toArray, List.set_cons_succ, List.set_cons_zero]; rfl) (by kernel_rfl) ?_
                                  refine still_skip (d := 141) rfl (by kernel_rfl) (by simp only [List.setIfInBounds_toArray, List.set_cons_succ, List.set_cons_zero]; rfl) ?_
                                  refine still_skip (d := 142) rfl (by kernel_rfl) (by simp only [List.setIfInBounds_toArray, List.set_cons_succ, List.set_cons_zero]; rfl) ?_
                                  refine still_skip (d := 143) rfl (by kernel_rfl) (by simp only [List.setIfInBounds_toArray, List.set_cons_succ, List.set_cons_zero]; rfl) ?_
                                  refine still_skip (d := 144) rfl (by kernel_rfl) (by simp only [List.setIfInBounds_toArray, List.set_cons_succ, List.set_cons_zero]; rfl) ?_
                                  refine still_skip (d := 145) rfl (by kernel_rfl) (by simp only [List.setIfInBounds_toArray, List.set_cons_succ, List.set_cons_zero]; rfl) ?_
                                  refine still_skip (d := 146) rfl (by kernel_rfl) (by simp only [List.setIfInBounds_toArray, List.set_cons_succ, List.set_cons_zero]; rfl) ?_
                                  refine still_skip (d := 147) rfl (by kernel_rfl) (by simp only [List.setIfInBounds_toArray, List.set_cons_succ, List.set_cons_zero]; rfl) ?_
                                  refine still_skip (d := 148) rfl (by kernel_rfl) (by simp only [List.setIfInBounds_toArray, List.set_cons_succ, List.set_cons_zero]; rfl) ?_
                                  refine still_skip (d := 149) rfl (by kernel_rfl) (by simp only [List.setIfInBounds_toArray, List.set_cons_succ, List.set_cons_zero]; rfl) ?_
                                  refine still_skip (d := 150) rfl (by kernel_rfl) (by simp only [List.setIfInBounds_toArray, List.set_cons_succ, List.set_cons_zero]; rfl) ?_
                                  refine still_put (d := 151) (v := .bool true) rfl (by kernel_rfl) (by simp only [List.setIfInBounds_toArray, List.set_cons_succ, List.set_cons_zero]; rfl) (by kernel_rfl) ?_
                                  refine still_put (d := 152) (v := .pointer (some ⟨b, 0, none⟩)) rfl (by kernel_rfl) (by simp only [List.setIfInBounds_toArray, List.set_cons_succ, List.set_cons_zero]; rfl) (by kernel_rfl) ?_
                                  refine still_put (d := 153) (v := .pointer (some ⟨b, 2, none⟩)) rfl (by kernel_rfl) (by simp only [List.setIfInBounds_toArray, List.set_cons_succ, List.set_cons_zero]; rfl) (by kernel_rfl) ?_
                                  refine wpStill_nil ?_
                                  change wpList _ _ _ _ _ W8.drew
                                  go_wp2_with fail
                                  go_meet
                                  exact ⟨rfl, X, _, rfl, (HX8.out.far (p := ⟨b, 2, none⟩) (show X ≠ b by omega) _).far (p := ⟨b, 1, none⟩) (show X ≠ b by omega) _, (HN8.out.drew'.set 2 _).set 1 _, (OwnN.setRow (w := W8.drew) (HO8.out.same rfl) hbw 2 _).setRow hbw 1 _, .inr ⟨(k1 : Int) + 1, _, _, c7, rfl, by omega, by omega, (Row.put (w := W8.drew) HR8.out 2 _).put 1 _, HNN.out⟩⟩
                                | false =>
                                  have h0 : ¬ Fk.len = 0 := by rw [Forest.isNil_len] at hfn; exact of_decide_eq_false hfn
                                  have r1 : ((Fk.len : Int) == 0) = false := by rw [beq_eq_false_iff_ne]; omega
                                  by_cases hend : t.size ≤ k1
                                  · have r2 : decide (t.size ≤ k1) = true := decide_eq_true hend
                                    have r3 : (t.size : Int) ≤ (k1 : Int) := by omega
                                    have HNN : Hid (calls (callP l) (d' + 1) (t.data.toList.drop k₀) = none) := by
                                      show _ = _
                                      rw [HEJ.out, HD.out]
                                      refine calls_fail F H41.out ?_
                                      rw [HN.out, HCK.out, List.drop_of_length_le (by simp; omega)]
                                      exact closed_end Fk
                                    clear hfn h0 hend
                                    have e0 : W8.cell? ⟨b, 0, none⟩ = some (.string t) := HR8.out.cell 0
                                    have e1 : W8.cell? ⟨b, 1, none⟩ = some (.int .i64 k1) := HR8.out.cell 1
                                    have e2 : W8.cell? ⟨b, 2, none⟩ = some (.bool false) := HR8.out.cell 2
                                    have y2 : W8.frozen? ⟨b, 2, none⟩ = false := HR8.out.free 2
                                    have y1 : W8.frozen? ⟨b, 1, none⟩ = false := HR8.out.free 1
                                    refine wp_region_still_tail 25 (by kernel_rfl) (readerLex_of (by kernel_rfl)) ?_
                                    change wpStill _ _ W8.drew _ _ _
                                    simp only [List.take_succ_cons, List.take_zero, List.drop_succ_cons, List.drop_zero]
                                    refine still_put (d := 129) (v := .pointer (some ⟨b, 0, none⟩)) rfl (by kernel_rfl) (by simp only [List.setIfInBounds_toArray, List.set_cons_succ, List.set_cons_zero]; rfl) (by kernel_rfl) ?_
                                    refine still_put (d := 130) (v := .pointer (some ⟨b, 0, none⟩)) rfl (by kernel_rfl) (by simp only [List.setIfInBounds_toArray, List.set_cons_succ, List.set_cons_zero]; rfl) (by kernel_rfl) ?_
                                    refine still_put (d := 131) (v := .pointer (some ⟨b, 0, none⟩)) rfl (by kernel_rfl) (by simp only [List.setIfInBounds_toArray, List.set_cons_succ, List.set_cons_zero]; rfl) (by kernel_rfl) ?_
                                    refine still_put (d := 132) (v := .pointer (some ⟨b, 2, none⟩)) rfl (by kernel_rfl) (by simp only [List.setIfInBounds_toArray, List.set_cons_succ, List.set_cons_zero]; rfl) (by kernel_rfl) ?_
                                    refine still_put (d := 133) (v := .bool false) rfl (by kernel_rfl) (by simp only [List.setIfInBounds_toArray, List.set_cons_succ, List.set_cons_zero]; rfl) (hy_loadB rfl (by kernel_rfl) e2) ?_
                                    refine still_put (d := 134) (v := .bool false) rfl (by kernel_rfl) (by simp only [List.setIfInBounds_toArray, List.set_cons_succ, List.set_cons_zero]; rfl) (by kernel_rfl) ?_
                                    refine still_put (d := 135) (v := .pointer (some ⟨X, 1, none⟩)) rfl (by kernel_rfl) (by simp only [List.setIfInBounds_toArray, List.set_cons_succ, List.set_cons_zero]; rfl) (by kernel_rfl) ?_
                                    refine still_put (d := 136) (v := .slice A7 Fk.len c7) rfl (by kernel_rfl) (by simp only [List.setIfInBounds_toArray, List.set_cons_succ, List.set_cons_zero]; rfl) (hy_loadS rfl (by kernel_rfl) e3) ?_
                                    refine still_put (d := 137) (v := .int .i64 Fk.len) rfl (by kernel_rfl) (by simp only [List.setIfInBounds_toArray, List.set_cons_succ, List.set_cons_zero]; rfl) (hy_lenS (A := A7) (n := Fk.len) (c := c7) rfl (by kernel_rfl)) ?_
                                    refine still_put (d := 138) (v := .bool false) rfl (by kernel_rfl) (by simp only [List.setIfInBounds_toArray, List.set_cons_succ, List.set_cons_zero]; rfl) (hy_eql (A := (Fk.len : Int)) (B := 0) (q := false) rfl (by kernel_rfl) (by kernel_rfl) r1) ?_
                                    refine still_put (d := 139) (v := .bool false) rfl (by kernel_rfl) (by simp only [List.setIfInBounds_toArray, List.set_cons_succ, List.set_cons_zero]; rfl) (by kernel_rfl) ?_
                                    refine still_put (d := 140) (v := .bool false) rfl (by kernel_rfl) (by simp only [List.setIfInBounds_toArray, List.set_cons_succ, List.set_cons_zero]; rfl) (by kernel_rfl) ?_
                                    refine still_put (d := 141) (v := .pointer (some ⟨b, 0, none⟩)) rfl (by kernel_rfl) (by simp only [List.setIfInBounds_toArray, List.set_cons_succ, List.set_cons_zero]; rfl) (by kernel_rfl) ?_
                                    refine still_put (d := 142) (v := .pointer (some ⟨b, 0, none⟩)) rfl (by kernel_rfl) (by simp only [List.setIfInBounds_toArray, List.set_cons_succ, List.set_cons_zero]; rfl) (by kernel_rfl) ?_
                                    refine still_put (d := 143) (v := .pointer (some ⟨b, 1, none⟩)) rfl (by kernel_rfl) (by simp only [List.setIfInBounds_toArray, List.set_cons_succ, List.set_cons_zero]; rfl) (by kernel_rfl) ?_
                                    refine still_put (d := 144) (v := .int .i64 k1) rfl (by kernel_rfl) (by simp only [List.setIfInBounds_toArray, List.set_cons_succ, List.set_cons_zero]; rfl) (hy_loadI rfl (by kernel_rfl) e1) ?_
                                    refine still_put (d := 145) (v := .pointer (some ⟨b, 0, none⟩)) rfl (by kernel_rfl) (by simp only [List.setIfInBounds_toArray, List.set_cons_succ, List.set_cons_zero]; rfl) (by kernel_rfl) ?_
                                    refine still_put (d := 146) (v := .pointer (some ⟨b, 0, none⟩)) rfl (by kernel_rfl) (by simp only [List.setIfInBounds_toArray, List.set_cons_succ, List.set_cons_zero]; rfl) (by kernel_rfl) ?_
                                    refine still_put (d := 147) (v := .pointer (some ⟨b, 0, none⟩)) rfl (by kernel_rfl) (by simp only [List.setIfInBounds_toArray, List.set_cons_succ, List.set_cons_zero]; rfl) (by kernel_rfl) ?_
                                    refine still_put (d := 148) (v := .string t) rfl (by kernel_rfl) (by simp only [List.setIfInBounds_toArray, List.set_cons_succ, List.set_cons_zero]; rfl) (hy_loadT rfl (by kernel_rfl) e0) ?_
                                    refine still_put (d := 149) (v := .int .i64 t.size) rfl (by kernel_rfl) (by simp only [List.setIfInBounds_toArray, List.set_cons_succ, List.set_cons_zero]; rfl) (hy_lenT (s := t) rfl (by kernel_rfl)) ?_
                                    refine still_put (d := 150) (v := .bool true) rfl (by kernel_rfl) (by simp only [List.setIfInBounds_toArray, List.set_cons_succ, List.set_cons_zero]; rfl) (hy_geq (A := (k1 : Int)) (B := (t.size : Int)) (q := true) rfl (by kernel_rfl) (by kernel_rfl) (decide_eq_true r3)) ?_
                                    refine still_put (d := 151) (v := .bool true) rfl (by kernel_rfl) (by simp only [List.setIfInBounds_toArray, List.set_cons_succ, List.set_cons_zero]; rfl) (by kernel_rfl) ?_
                                    refine still_put (d := 152) (v := .pointer (some ⟨b, 0, none⟩)) rfl (by kernel_rfl) (by simp only [List.setIfInBounds_toArray, List.set_cons_succ, List.set_cons_zero]; rfl) (by kernel_rfl) ?_
                                    refine still_put (d := 153) (v := .pointer (some ⟨b, 2, none⟩)) rfl (by kernel_rfl) (by simp only [List.setIfInBounds_toArray, List.set_cons_succ, List.set_cons_zero]; rfl) (by kernel_rfl) ?_
                                    refine wpStill_nil ?_
                                    change wpList _ _ _ _ _ W8.drew
                                    go_wp2_with fail
                                    go_meet
                                    exact ⟨rfl, X, _, rfl, (HX8.out.far (p := ⟨b, 2, none⟩) (show X ≠ b by omega) _).far (p := ⟨b, 1, none⟩) (show X ≠ b by omega) _, (HN8.out.drew'.set 2 _).set 1 _, (OwnN.setRow (w := W8.drew) (HO8.out.same rfl) hbw 2 _).setRow hbw 1 _, .inr ⟨(k1 : Int) + 1, _, _, c7, rfl, by omega, by omega, (Row.put (w := W8.drew) HR8.out 2 _).put 1 _, HNN.out⟩⟩
                                  · have r2 : decide (t.size ≤ k1) = false := decide_eq_false hend
                                    have r3 : ¬ (t.size : Int) ≤ (k1 : Int) := by omega
                                    have hk1d : k + 1 < k1 + 1 ∧ t.data.toList.drop k1 = 41 :: t.data.toList.drop (k1 + 1) := by
                                      have hle := calls_less (callP l) d' (t.data.toList.drop (k + 2)) _ _ HCK.out
                                      have hde : t.data.toList.drop k1 = t[k1] :: t.data.toList.drop (k1 + 1) := List.drop_eq_getElem_cons (by simp; omega)
                                      refine ⟨by simp at hle; omega, ?_⟩
                                      rcases calls_rest HCK.out with h | ⟨u, h⟩
                                      · rw [h] at hde; cases hde
                                      · rw [h] at hde
                                        injection hde with h1 h2
                                        rw [h, h2]
                                    have HNN : Hid (calls (callP l) (d' + 1) (t.data.toList.drop k₀) = ahead (F.app (.cons ch Fk .nil)) (calls (callP l) (d' + 1) (t.data.toList.drop (k1 + 1)))) := by
                                      show _ = _
                                      rw [HEJ.out, HD.out]
                                      refine calls_step F H41.out ?_
                                      rw [HN.out, HCK.out, hk1d.2]
                                      exact closed_app hfn _
                                    have hkk := hk1d.1
                                    clear hfn h0 hk1d
                                    have e0 : W8.cell? ⟨b, 0, none⟩ = some (.string t) := HR8.out.cell 0
                                    have e1 : W8.cell? ⟨b, 1, none⟩ = some (.int .i64 k1) := HR8.out.cell 1
                                    have e2 : W8.cell? ⟨b, 2, none⟩ = some (.bool false) := HR8.out.cell 2
                                    have y2 : W8.frozen? ⟨b, 2, none⟩ = false := HR8.out.free 2
                                    have y1 : W8.frozen? ⟨b, 1, none⟩ = false := HR8.out.free 1
                                    refine wp_region_still_tail 25 (by kernel_rfl) (readerLex_of (by kernel_rfl)) ?_
                                    change wpStill _ _ W8.drew _ _ _
                                    simp only [List.take_succ_cons, List.take_zero, List.drop_succ_cons, List.drop_zero]
                                    refine still_put (d := 129) (v := .pointer (some ⟨b, 0, none⟩)) rfl (by kernel_rfl) (by simp only [List.setIfInBounds_toArray, List.set_cons_succ, List.set_cons_zero]; rfl) (by kernel_rfl) ?_
                                    refine still_put (d := 130) (v := .pointer (some ⟨b, 0, none⟩)) rfl (by kernel_rfl) (by simp only [List.setIfInBounds_toArray, List.set_cons_succ, List.set_cons_zero]; rfl) (by kernel_rfl) ?_
                                    refine still_put (d := 131) (v := .pointer (some ⟨b, 0, none⟩)) rfl (by kernel_rfl) (by simp only [List.setIfInBounds_toArray, List.set_cons_succ, List.set_cons_zero]; rfl) (by kernel_rfl) ?_
                                    refine still_put (d := 132) (v := .pointer (some ⟨b, 2, none⟩)) rfl (by kernel_rfl) (by simp only [List.setIfInBounds_toArray, List.set_cons_succ, List.set_cons_zero]; rfl) (by kernel_rfl) ?_
                                    refine still_put (d := 133) (v := .bool false) rfl (by kernel_rfl) (by simp only [List.setIfInBounds_toArray, List.set_cons_succ, List.set_cons_zero]; rfl) (hy_loadB rfl (by kernel_rfl) e2) ?_
                                    refine still_put (d := 134) (v := .bool false) rfl (by kernel_rfl) (by simp only [List.setIfInBounds_toArray, List.set_cons_succ, List.set_cons_zero]; rfl) (by kernel_rfl) ?_
                                    refine still_put (d := 135) (v := .pointer (some ⟨X, 1, none⟩)) rfl (by kernel_rfl) (by simp only [List.setIfInBounds_toArray, List.set_cons_succ, List.set_cons_zero]; rfl) (by kernel_rfl) ?_
                                    refine still_put (d := 136) (v := .slice A7 Fk.len c7) rfl (by kernel_rfl) (by simp only [List.setIfInBounds_toArray, List.set_cons_succ, List.set_cons_zero]; rfl) (hy_loadS rfl (by kernel_rfl) e3) ?_
                                    refine still_put (d := 137) (v := .int .i64 Fk.len) rfl (by kernel_rfl) (by simp only [List.setIfInBounds_toArray, List.set_cons_succ, List.set_cons_zero]; rfl) (hy_lenS (A := A7) (n := Fk.len) (c := c7) rfl (by kernel_rfl)) ?_
                                    refine still_put (d := 138) (v := .bool false) rfl (by kernel_rfl) (by simp only [List.setIfInBounds_toArray, List.set_cons_succ, List.set_cons_zero]; rfl) (hy_eql (A := (Fk.len : Int)) (B := 0) (q := false) rfl (by kernel_rfl) (by kernel_rfl) r1) ?_
                                    refine still_put (d := 139) (v := .bool false) rfl (by kernel_rfl) (by simp only [List.setIfInBounds_toArray, List.set_cons_succ, List.set_cons_zero]; rfl) (by kernel_rfl) ?_
                                    refine still_put (d := 140) (v := .bool false) rfl (by kernel_rfl) (by simp only [List.setIfInBounds_toArray, List.set_cons_succ, List.set_cons_zero]; rfl) (by kernel_rfl) ?_
                                    refine still_put (d := 141) (v := .pointer (some ⟨b, 0, none⟩)) rfl (by kernel_rfl) (by simp only [List.setIfInBounds_toArray, List.set_cons_succ, List.set_cons_zero]; rfl) (by kernel_rfl) ?_
                                    refine still_put (d := 142) (v := .pointer (some ⟨b, 0, none⟩)) rfl (by kernel_rfl) (by simp only [List.setIfInBounds_toArray, List.set_cons_succ, List.set_cons_zero]; rfl) (by kernel_rfl) ?_
                                    refine still_put (d := 143) (v := .pointer (some ⟨b, 1, none⟩)) rfl (by kernel_rfl) (by simp only [List.setIfInBounds_toArray, List.set_cons_succ, List.set_cons_zero]; rfl) (by kernel_rfl) ?_
                                    refine still_put (d := 144) (v := .int .i64 k1) rfl (by kernel_rfl) (by simp only [List.setIfInBounds_toArray, List.set_cons_succ, List.set_cons_zero]; rfl) (hy_loadI rfl (by kernel_rfl) e1) ?_
                                    refine still_put (d := 145) (v := .pointer (some ⟨b, 0, none⟩)) rfl (by kernel_rfl) (by simp only [List.setIfInBounds_toArray, List.set_cons_succ, List.set_cons_zero]; rfl) (by kernel_rfl) ?_
                                    refine still_put (d := 146) (v := .pointer (some ⟨b, 0, none⟩)) rfl (by kernel_rfl) (by simp only [List.setIfInBounds_toArray, List.set_cons_succ, List.set_cons_zero]; rfl) (by kernel_rfl) ?_
                                    refine still_put (d := 147) (v := .pointer (some ⟨b, 0, none⟩)) rfl (by kernel_rfl) (by simp only [List.setIfInBounds_toArray, List.set_cons_succ, List.set_cons_zero]; rfl) (by kernel_rfl) ?_
                                    refine still_put (d := 148) (v := .string t) rfl (by kernel_rfl) (by simp only [List.setIfInBounds_toArray, List.set_cons_succ, List.set_cons_zero]; rfl) (hy_loadT rfl (by kernel_rfl) e0) ?_
                                    refine still_put (d := 149) (v := .int .i64 t.size) rfl (by kernel_rfl) (by simp only [List.setIfInBounds_toArray, List.set_cons_succ, List.set_cons_zero]; rfl) (hy_lenT (s := t) rfl (by kernel_rfl)) ?_
                                    refine still_put (d := 150) (v := .bool false) rfl (by kernel_rfl) (by simp only [List.setIfInBounds_toArray, List.set_cons_succ, List.set_cons_zero]; rfl) (hy_geq (A := (k1 : Int)) (B := (t.size : Int)) (q := false) rfl (by kernel_rfl) (by kernel_rfl) (decide_eq_false r3)) ?_
                                    refine still_put (d := 151) (v := .bool false) rfl (by kernel_rfl) (by simp only [List.setIfInBounds_toArray, List.set_cons_succ, List.set_cons_zero]; rfl) (by kernel_rfl) ?_
                                    refine still_put (d := 152) (v := .pointer (some ⟨b, 0, none⟩)) rfl (by kernel_rfl) (by simp only [List.setIfInBounds_toArray, List.set_cons_succ, List.set_cons_zero]; rfl) (by kernel_rfl) ?_
                                    refine still_put (d := 153) (v := .pointer (some ⟨b, 2, none⟩)) rfl (by kernel_rfl) (by simp only [List.setIfInBounds_toArray, List.set_cons_succ, List.set_cons_zero]; rfl) (by kernel_rfl) ?_
                                    refine wpStill_nil ?_
                                    change wpList _ _ _ _ _ W8.drew
                                    go_wp2_with fail
                                    go_meet
                                    exact ⟨rfl, X, _, rfl, (HX8.out.far (p := ⟨b, 2, none⟩) (show X ≠ b by omega) _).far (p := ⟨b, 1, none⟩) (show X ≠ b by omega) _, (HN8.out.drew'.set 2 _).set 1 _, (OwnN.setRow (w := W8.drew) (HO8.out.same rfl) hbw 2 _).setRow hbw 1 _, .inl ⟨Fk, k1 + 1, by omega, by omega, by omega, (Row.put (w := W8.drew) HR8.out 2 _).put 1 _, HK8.out.set2 hbw, HNN.out⟩⟩
                              · have HX8 : Hid (Row ((w7.setCell ⟨X, 1, none⟩ (.slice A7 n7 c7)).setCell ⟨b, 4, none⟩ (.int .i64 dp)) X 210 #[.string ⟨#[ch]⟩, (.slice A7 n7 c7)]) := (HX7.out.put 1 _).far (p := ⟨b, 4, none⟩) (show X ≠ b by omega) _
                                have HR8 : Hid (Row ((w7.setCell ⟨X, 1, none⟩ (.slice A7 n7 c7)).setCell ⟨b, 4, none⟩ (.int .i64 dp)) b 239 (rdCells t a true (.slice A l.length c) dp)) := (hrk.far (p := ⟨X, 1, none⟩) (show b ≠ X by omega) _).put 4 _
                                have HN8 : Hid (Only w ((w7.setCell ⟨X, 1, none⟩ (.slice A7 n7 c7)).setCell ⟨b, 4, none⟩ (.int .i64 dp)) (· = b)) := (HN7.out.andLow ((Below.refl _ w7).setCell hX _)).set 4 _
                                have HO8 : Hid (OwnN ((w7.setCell ⟨X, 1, none⟩ (.slice A7 n7 c7)).setCell ⟨b, 4, none⟩ (.int .i64 dp)) w.heap.size N (.slice A' F.len cap') F) := (HO7.out.setAt hNX 1 _).setRow hbw 4 _
                                have c4 : w7.cell? ⟨b, 4, none⟩ = some (.int .i64 (dp + 1)) := hrk.cell 4
                                have z4 : w7.frozen? ⟨b, 4, none⟩ = false := hrk.free 4
                                have HNN : Hid (calls (callP l) (d' + 1) (t.data.toList.drop k₀) = none) := by
                                  show _ = _
                                  rw [HEJ.out, HD.out]
                                  refine calls_fail F H41.out ?_
                                  rw [HN.out, hck]
                                  rfl
                                clear hrk hck
                                go_wp2_with fail
                                generalize (w7.setCell ⟨X, 1, none⟩ (.slice A7 n7 c7)).setCell ⟨b, 4, none⟩ (.int .i64 dp) = W8 at *
                                clear c4 z4 x1 y1
                                have e0 : W8.cell? ⟨b, 0, none⟩ = some (.string t) := HR8.out.cell 0
                                have e1 : W8.cell? ⟨b, 1, none⟩ = some (.int .i64 a) := HR8.out.cell 1
                                have e2 : W8.cell? ⟨b, 2, none⟩ = some (.bool true) := HR8.out.cell 2
                                have y2 : W8.frozen? ⟨b, 2, none⟩ = false := HR8.out.free 2
                                have y1 : W8.frozen? ⟨b, 1, none⟩ = false := HR8.out.free 1
                                refine wp_region_still_tail 25 (by kernel_rfl) (readerLex_of (by kernel_rfl)) ?_
                                change wpStill _ _ W8.drew _ _ _
                                simp only [List.take_succ_cons, List.take_zero, List.drop_succ_cons, List.drop_zero]
                                refine still_put (d := 129) (v := .pointer (some ⟨b, 0, none⟩)) rfl (by kernel_rfl) (by simp only [List.setIfInBounds_toArray, List.set_cons_succ, List.set_cons_zero]; rfl) (by kernel_rfl) ?_
                                refine still_put (d := 130) (v := .pointer (some ⟨b, 0, none⟩)) rfl (by kernel_rfl) (by simp only [List.setIfInBounds_toArray, List.set_cons_succ, List.set_cons_zero]; rfl) (by kernel_rfl) ?_
                                refine still_put (d := 131) (v := .pointer (some ⟨b, 0, none⟩)) rfl (by kernel_rfl) (by simp only [List.setIfInBounds_toArray, List.set_cons_succ, List.set_cons_zero]; rfl) (by kernel_rfl) ?_
                                refine still_put (d := 132) (v := .pointer (some ⟨b, 2, none⟩)) rfl (by kernel_rfl) (by simp only [List.setIfInBounds_toArray, List.set_cons_succ, List.set_cons_zero]; rfl) (by kernel_rfl) ?_
                                refine still_put (d := 133) (v := .bool true) rfl (by kernel_rfl) (by simp only [List.setIfInBounds_toArray, List.set_cons_succ, List.set_cons_zero]; rfl) (hy_loadB rfl (by kernel_rfl) e2) ?_
                                refine still_put (d := 134) (v := .bool true) rfl (by kernel_rfl) (by simp only [List.setIfInBounds_toArray, List.set_cons_succ, List.set_cons_zero]; rfl) (by kernel_rfl) ?_
                                refine still_skip (d := 135) rfl (by kernel_rfl) (by simp only [List.setIfInBounds_toArray, List.set_cons_succ, List.set_cons_zero]; rfl) ?_
                                refine still_skip (d := 136) rfl (by kernel_rfl) (by simp only [List.setIfInBounds_toArray, List.set_cons_succ, List.set_cons_zero]; rfl) ?_
                                refine still_skip (d := 137) rfl (by kernel_rfl) (by simp only [List.setIfInBounds_toArray, List.set_cons_succ, List.set_cons_zero]; rfl) ?_
                                refine still_skip (d := 138) rfl (by kernel_rfl) (by simp only [List.setIfInBounds_toArray, List.set_cons_succ, List.set_cons_zero]; rfl) ?_
                                refine still_put (d := 139) (v := .bool true) rfl (by kernel_rfl) (by simp only [List.setIfInBounds_toArray, List.set_cons_succ, List.set_cons_zero]; rfl) (by kernel_rfl) ?_
                                refine still_put (d := 140) (v := .bool true) rfl (by kernel_rfl) (by simp only [List.setIfInBounds_toArray, List.set_cons_succ, List.set_cons_zero]; rfl) (by kernel_rfl) ?_
                                refine still_skip (d := 141) rfl (by kernel_rfl) (by simp only [List.setIfInBounds_toArray, List.set_cons_succ, List.set_cons_zero]; rfl) ?_
                                refine still_skip (d := 142) rfl (by kernel_rfl) (by simp only [List.setIfInBounds_toArray, List.set_cons_succ, List.set_cons_zero]; rfl) ?_
                                refine still_skip (d := 143) rfl (by kernel_rfl) (by simp only [List.setIfInBounds_toArray, List.set_cons_succ, List.set_cons_zero]; rfl) ?_
                                refine still_skip (d := 144) rfl (by kernel_rfl) (by simp only [List.setIfInBounds_toArray, List.set_cons_succ, List.set_cons_zero]; rfl) ?_
                                refine still_skip (d := 145) rfl (by kernel_rfl) (by simp only [List.setIfInBounds_toArray, List.set_cons_succ, List.set_cons_zero]; rfl) ?_
                                refine still_skip (d := 146) rfl (by kernel_rfl) (by simp only [List.setIfInBounds_toArray, List.set_cons_succ, List.set_cons_zero]; rfl) ?_
                                refine still_skip (d := 147) rfl (by kernel_rfl) (by simp only [List.setIfInBounds_toArray, List.set_cons_succ, List.set_cons_zero]; rfl) ?_
                                refine still_skip (d := 148) rfl (by kernel_rfl) (by simp only [List.setIfInBounds_toArray, List.set_cons_succ, List.set_cons_zero]; rfl) ?_
                                refine still_skip (d := 149) rfl (by kernel_rfl) (by simp only [List.setIfInBounds_toArray, List.set_cons_succ, List.set_cons_zero]; rfl) ?_
                                refine still_skip (d := 150) rfl (by kernel_rfl) (by simp only [List.setIfInBounds_toArray, List.set_cons_succ, List.set_cons_zero]; rfl) ?_
                                refine still_put (d := 151) (v := .bool true) rfl (by kernel_rfl) (by simp only [List.setIfInBounds_toArray, List.set_cons_succ, List.set_cons_zero]; rfl) (by kernel_rfl) ?_
                                refine still_put (d := 152) (v := .pointer (some ⟨b, 0, none⟩)) rfl (by kernel_rfl) (by simp only [List.setIfInBounds_toArray, List.set_cons_succ, List.set_cons_zero]; rfl) (by kernel_rfl) ?_
                                refine still_put (d := 153) (v := .pointer (some ⟨b, 2, none⟩)) rfl (by kernel_rfl) (by simp only [List.setIfInBounds_toArray, List.set_cons_succ, List.set_cons_zero]; rfl) (by kernel_rfl) ?_
                                refine wpStill_nil ?_
                                change wpList _ _ _ _ _ W8.drew
                                go_wp2_with fail
                                go_meet
                                exact ⟨rfl, X, _, rfl, (HX8.out.far (p := ⟨b, 2, none⟩) (show X ≠ b by omega) _).far (p := ⟨b, 1, none⟩) (show X ≠ b by omega) _, (HN8.out.drew'.set 2 _).set 1 _, (OwnN.setRow (w := W8.drew) (HO8.out.same rfl) hbw 2 _).setRow hbw 1 _, .inr ⟨a + 1, _, n7, c7, rfl, by omega, by omega, (Row.put (w := W8.drew) HR8.out 2 _).put 1 _, HNN.out⟩⟩
                        case rest =>
                          as_aux_lemma =>
                            obtain ⟨rfl, hmid⟩ := hcut
                            obtain ⟨W6, rfl⟩ : ∃ W6 : World, W6 = wc := ⟨_, rfl⟩
                            obtain ⟨X', kv, rfl, hrx, hon, how, hcase⟩ := hmid
                            obtain ⟨xs, hown, hvals⟩ := how.form
                            have HOL := Lib.hid how.lt
                            have hz6 : w.heap.size ≤ W6.heap.size := hon.size
                            have HON6 := Lib.hid hon
                            have HOWN := Lib.hid hown
                            have HVAL := Lib.hid hvals
                            have x0 : W6.cell? ⟨X', 0, none⟩ = some (.string ⟨#[ch]⟩) := hrx.cell 0
                            have x1 : W6.cell? ⟨X', 1, none⟩ = some kv := hrx.cell 1
                            clear HRX5 HRB5 HOW5 HON5 HZ5 HXL hon how hown hvals hrx
                            obtain ⟨i0, hi0, hz0, hz1, hz2'⟩ := info_parts info_l4
                            have I0 := Lib.hid hi0
                            have Z0 := Lib.hid hz0
                            have Z1 := Lib.hid hz1
                            have Z2 := Lib.hid hz2'
                            clear hi0 hz0 hz1 hz2'
                            rcases hcase with ⟨kf, k', hk', hF1, hkk, hrb, hik, heq⟩ | ⟨a, A7, n7, c7, rfl, ha0, ha1, hrb, heq⟩
                            · have HIK := Lib.hid hik
                              have HEQ := Lib.hid heq
                              have HRB := Lib.hid hrb
                              obtain ⟨A7, c7, rfl, -⟩ := hik
                              have HNW := Lib.hid (World.news_of_block (cs := #[.string ⟨#[ch]⟩, .slice A7 kf.len c7]) (t := 210) (fr := (0, 0)) (heap_alloc_new W6 (.cells #[.string ⟨#[ch]⟩, .slice A7 kf.len c7] 210)))
                              clear heq hrb
                              go_wp2_with (at_builtin; go_loud (refine wpList_append_own_at _ rfl _ _ 167 rfl w.heap.size 210 i0 (.agg #[.string ByteArray.empty, .slice none 0 0]) 2 40 Tryz.underlying167 I0.out Z0.out Z1.out Z2.out rfl (by decide) _ F.len xs rfl (HOWN.out.alloc _) ⟨W6.heap.size, 0, none⟩ 1 1 [.string ⟨#[ch]⟩, .slice A7 kf.len c7] rfl rfl HNW.out (by simp [Value.oneCell']) (by unfold maxLen; omega) (by omega) (by simp; omega) ?_); intro v8 w8 hown8 hgrow8 _ hat8; obtain ⟨g8, cap8, rfl⟩ := own_form2 hown8 (by omega); have H8 := Lib.hid hown8; have HG8 := Lib.hid hgrow8; have HA8 := Lib.hid hat8; clear hown8 hgrow8 hat8)
                              have hgb : Below w.heap.size (W6.alloc (.cells #[.string ⟨#[ch]⟩, .slice A7 kf.len c7] 210)) w8 := (Below.refl _ _).grown HG8.out (by simp; omega) (fun x e => (HOL.out x e).1)
                              have hrb8 : Row w8 b 239 (rdCells t k' false (.slice A l.length c) dp) := (HRB.out.alloc _).below hgb hbw
                              have HREL : Hid (SRel w b t k₀ (.slice A l.length c) dp (callP l) d (.slice (some ⟨g8, 0, none⟩) (F.len + 1) cap8) w8) :=
                                ⟨(HON6.out.andBelow ((Below.refl _ W6).alloc (Nat.le_refl _) (.cells #[.string ⟨#[ch]⟩, .slice A7 kf.len c7] 210))).andLow hgb, .inl ⟨F.app (.cons ch kf .nil), k', hk', by rw [Forest.app_len]; exact hF1, OwnS.more HVAL.out HIK.out ((Below.refl _ W6).alloc (Nat.le_refl _) (.cells #[.string ⟨#[ch]⟩, .slice A7 kf.len c7] 210)) HG8.out H8.out HA8.out, hrb8, HEQ.out⟩⟩
                              have HM8 := Lib.hid (leftS_good hrb8)
                              clear HVAL HOWN HIK HG8 H8 HA8 HOL hgb hrb8 HRB HNW I0 Z0 Z1 Z2 x0 x1
                              go_wp2
                              go_roundw
                              case rel => exact HREL.out
                              case measure => rw [HM8.out, HM.out]; omega
                            · have HEQ := Lib.hid heq
                              have HRB := Lib.hid hrb
                              have HNW := Lib.hid (World.news_of_block (cs := #[.string ⟨#[ch]⟩, .slice A7 n7 c7]) (t := 210) (fr := (0, 0)) (heap_alloc_new W6 (.cells #[.string ⟨#[ch]⟩, .slice A7 n7 c7] 210)))
                              clear heq hrb
                              go_wp2_with (at_builtin; go_loud (refine wpList_append_own_at _ rfl _ _ 167 rfl w.heap.size 210 i0 (.agg #[.string ByteArray.empty, .slice none 0 0]) 2 40 Tryz.underlying167 I0.out Z0.out Z1.out Z2.out rfl (by decide) _ F.len xs rfl (HOWN.out.alloc _) ⟨W6.heap.size, 0, none⟩ 1 1 [.string ⟨#[ch]⟩, .slice A7 n7 c7] rfl rfl HNW.out (by simp [Value.oneCell']) (by unfold maxLen; omega) (by omega) (by simp; omega) ?_); intro v8 w8 hown8 hgrow8 _ hat8; obtain ⟨g8, cap8, rfl⟩ := own_form2 hown8 (by omega); have HG8 := Lib.hid hgrow8; clear hown8 hgrow8 hat8)
                              have hgb : Below w.heap.size (W6.alloc (.cells #[.string ⟨#[ch]⟩, .slice A7 n7 c7] 210)) w8 := (Below.refl _ _).grown HG8.out (by simp; omega) (fun x e => (HOL.out x e).1)
                              have hrb8 : Row w8 b 239 (rdCells t a true (.slice A l.length c) dp) := (HRB.out.alloc _).below hgb hbw
                              have HREL : Hid (SRel w b t k₀ (.slice A l.length c) dp (callP l) d (.slice (some ⟨g8, 0, none⟩) (F.len + 1) cap8) w8) :=
                                ⟨(HON6.out.andBelow ((Below.refl _ W6).alloc (Nat.le_refl _) (.cells #[.string ⟨#[ch]⟩, .slice A7 n7 c7] 210))).andLow hgb, .inr ⟨a, _, _, cap8, rfl, ha0, ha1, hrb8, HEQ.out⟩⟩
                              have HM8 := Lib.hid (leftS_bad hrb8)
                              clear HVAL HOWN HG8 HOL hgb hrb8 HRB HNW I0 Z0 Z1 Z2 x0 x1
                              go_wp2
                              go_roundw
                              case rel => exact HREL.out
                              case measure => rw [HM8.out, HM.out]; omega
        · have g1 : decide (k < t.size) = false := decide_eq_false hlt
          have HN : Hid (calls (callP l) d (t.data.toList.drop k₀) = some (F, t.data.toList.drop k)) := by
            show _ = _
            rw [HEJ.out, List.drop_of_length_le (by simp; omega), ahead_end]
          go_wp2_with fail
          go_quiet (fail)
          go_wp2
          go_ret
          exact ⟨_, rfl, HON.out.drewN' _, .inl ⟨F, k, hk, HOW.out.far (Nat.le_refl _) (fun q _ _ => rfl), HRW.out, HN.out⟩⟩
      · have HON := Lib.hid hon
        have HRW := Lib.hid hrw
        have HEJ := Lib.hid hEj
        have c2 : wr.cell? ⟨b, 2, none⟩ = some (.bool true) := hrw.cell 2
        clear hon hrw hEj HS0
        go_wp2_with fail
        go_quiet (fail)
        go_wp2
        go_ret
        exact ⟨_, rfl, HON.out.drewN' _, .inr ⟨a, A', n', cap', rfl, ha0, ha1, HRW.out, HEJ.out⟩⟩

theorem specCalls_any (b : Nat) (t : ByteArray) (ht : t.size ≤ 1048576) (A : Option Addr) (l : List Seg) (c : Nat) (hl : l.length ≤ 1048576) (hn : Short l) : ∀ d, CallsAt b t A l c d
  | 0 => specCalls_step b t ht A l c hl hn 0 fun d' e => absurd e (by omega)
  | d + 1 => specCalls_step b t ht A l c hl hn (d + 1) fun d' e => by
    have h := specCalls_any b t ht A l c hl hn d
    obtain rfl : d = d' := by omega
    exact h

end Go.Proofs.YtifkmehnikfihaaGreat
