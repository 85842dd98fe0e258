/- The program reads a number. -/
import Derived.Test.YtdbddockmdkmeaaDoorHk
import Derived.Test.YtdbddockmdkmeaaDoorMd
namespace Go.Proofs.YtdbddockmdkmeaaDoor
open Go.RowKit

/-- The library's two errors of reading lie where it reads them, whatever is made from here on. -/
def Errs12 (w : World) : Prop := ∃ tp p tr q, ∀ w', Below w.heap.size w w' → w'.var? Tryd.prog "strconv.ErrSyntax" = some #[.iface tp p] ∧ w'.var? Tryd.prog "strconv.ErrRange" = some #[.iface tr q]
theorem Errs12.below {w w' : World} (h : Errs12 w) (hb : Below w.heap.size w w') : Errs12 w' := by
  obtain ⟨tp, p, tr, q, h⟩ := h
  exact ⟨tp, p, tr, q, fun w2 h2 => h w2 (hb.trans (h2.mono hb.size))⟩
theorem not_ok12 {x : List UInt8} (h : ∀ v, Lib.atoiAll x ≠ .ok v) : ok12 x = false := by
  rw [← Bool.not_eq_true]
  exact fun e => h _ (atoi_ok e)

/-- What the program's reader of a number answers. -/
def numV (s : ByteArray) : Value := .tuple #[.int .i64 (if ok12 s.data.toList = true then (val12 s.data.toList : Int) else 0), .bool (ok12 s.data.toList)]
theorem numV_no {s : ByteArray} (h : ok12 s.data.toList = false) : numV s = .tuple #[.int .i64 0, .bool false] := by
  unfold numV
  rw [h]
  rfl
theorem numV_yes {s : ByteArray} {v : Int} (h : ok12 s.data.toList = true) (hv : Lib.atoiAll s.data.toList = .ok v) : numV s = .tuple #[.int .i64 v, .bool true] := by
  have e := atoi_ok h
  rw [hv] at e
  injection e with e
  unfold numV
  rw [h, e]
  rfl

set_option maxRecDepth 100000 in
set_option maxHeartbeats 1000000 in
theorem parseNumber_any (s : ByteArray) (w : World) (hp : Pow12 w) (he : Errs12 w) (hs : s.size ≤ 100000000) :
    Calls Tryd.prog 91 #[.string s] w fun e w' => e = .returned (numV s) ∧ Below w.heap.size w w' := by
  have HP := Lib.hid hp
  obtain ⟨tp, p, tr, q, he⟩ := he
  obtain ⟨he1, he2⟩ := he w (Below.refl _ w)
  have HE1 := Lib.hid he1
  have HE2 := Lib.hid he2
  clear hp he he1 he2
  rcases hh : Lib.atoiAll s.data.toList with v | _ | _
  · have hsd := num_said hh
    obtain ⟨hv0, hv1⟩ := Lib.atoiAll_bounds hh
    have HH := Lib.hid hh
    have HQ := Lib.hid (Tryd.strconv_Atoi_ok s (by omega) v hh w)
    clear hh
    go_enter Tryd.func91, Tryd.ntmps91
    go_wp2_with fail
    refine Calls.mono HQ.out ?_
    rintro e w1 ⟨rfl, hw1⟩
    have HB1 : Hid (Below w.heap.size w w1) := by
      show Below w.heap.size w w1
      rcases hw1 with rfl | ⟨t, rfl⟩
      · exact Below.refl _ _
      · exact Lib.bytesWorld_below _ _ _
    clear hw1 HQ
    by_cases hneg : v < 0
    · have HN := Lib.hid (numV_no (s := s) (by
        rw [← Bool.not_eq_true]
        intro e
        have := (hsd.2 e).1
        omega))
      clear hsd
      go_wp2
      go_ret2
      exact ⟨by rw [HN.out]; rfl, HB1.out⟩
    · by_cases hlong : 17 < s.size
      · have HN := Lib.hid (numV_no (s := s) (by
          rw [← Bool.not_eq_true]
          intro e
          have h1 := (hsd.2 e).2.1
          have h2 : s.data.toList.length = s.size := rfl
          omega))
        have hl' : (17 : Int) < (s.size : Int) := by omega
        clear hsd
        go_wp2
        go_ret2
        exact ⟨by rw [HN.out]; rfl, HB1.out⟩
      · have hl' : ¬ (17 : Int) < (s.size : Int) := by omega
        have hsz : s.data.toList.length ≤ 17 := by
          have h2 : s.data.toList.length = s.size := rfl
          omega
        by_cases hit : Lib.itoa v = s.data.toList
        · have HN := Lib.hid (numV_yes (s := s) (hsd.1 ⟨by omega, hsz, hit⟩) HH.out)
          have hts : txt12 (Lib.itoa v) = s := by rw [hit]; rfl
          clear hsd
          go_wp2_with fail
          refine Calls.mono (itoa12_any v w1 (HP.out.below HB1.out) hv0 hv1) ?_
          rw [hts]
          rintro e w2 ⟨rfl, hb2⟩
          have HB2 := Lib.hid (HB1.out.trans (hb2.mono HB1.out.size))
          clear hb2
          go_wp2
          go_ret2
          exact ⟨by rw [HN.out]; rfl, HB2.out⟩
        · have HN := Lib.hid (numV_no (s := s) (by
            rw [← Bool.not_eq_true]
            intro e
            exact hit (hsd.2 e).2.2))
          have hne : txt12 (Lib.itoa v) ≠ s := fun e => hit (by rw [← e]; rfl)
          clear hsd hit
          go_wp2_with fail
          refine Calls.mono (itoa12_any v w1 (HP.out.below HB1.out) hv0 hv1) ?_
          rintro e w2 ⟨rfl, hb2⟩
          have HB2 := Lib.hid (HB1.out.trans (hb2.mono HB1.out.size))
          clear hb2
          generalize txt12 (Lib.itoa v) = y at *
          have hsm : (y.toList == s.toList) = false := by
            rw [← Bool.not_eq_true]
            intro e
            exact hne (sameB_iff.1 e)
          clear hne
          go_wp2
          go_ret2
          exact ⟨by rw [HN.out]; rfl, HB2.out⟩
  · have HN := Lib.hid (numV_no (s := s) (not_ok12 fun v e => by rw [hh] at e; cases e))
    have HQ := Lib.hid (Tryd.strconv_Atoi_syntax_var s (by omega) hh tp p w HE1.out)
    clear hh
    go_enter Tryd.func91, Tryd.ntmps91
    go_wp2_with fail
    refine Calls.mono HQ.out ?_
    rintro e w1 ⟨N, rfl, -, -, hb1⟩
    have HB1 := Lib.hid hb1
    clear hb1 HQ
    go_wp2
    go_ret2
    exact ⟨by rw [HN.out]; rfl, HB1.out⟩
  · have HN := Lib.hid (numV_no (s := s) (not_ok12 fun v e => by rw [hh] at e; cases e))
    have HQ := Lib.hid (Tryd.strconv_Atoi_range_var s (by omega) hh tr q w HE2.out)
    clear hh
    go_enter Tryd.func91, Tryd.ntmps91
    go_wp2_with fail
    refine Calls.mono HQ.out ?_
    rintro e w1 ⟨N, rfl, -, -, hb1⟩
    have HB1 := Lib.hid hb1
    clear hb1 HQ
    go_wp2
    go_ret2
    exact ⟨by rw [HN.out]; rfl, HB1.out⟩

end Go.Proofs.YtdbddockmdkmeaaDoor
