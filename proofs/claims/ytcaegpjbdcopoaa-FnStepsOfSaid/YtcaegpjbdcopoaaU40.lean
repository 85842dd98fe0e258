/- Joined: Wh. -/
import Derived.Test.YtcaegpjbdcopoaaU39
import Derived.Test.YtcaegpjbdcopoaaU28
import Derived.Test.YtcaegpjbdcopoaaU35
import Derived.Test.YtcaegpjbdcopoaaU32
import Derived.Test.YtcaegpjbdcopoaaU11
/- The law FnStepsOf: its walk. -/
namespace Go.Proofs.Ytcaegpjbdcopoaa
open Go.RowKit

theorem bytes_laterW {w w' : World} {A : Option Addr} {m : Nat} (h : ∀ b, w.heap.size ≤ b → Bytes w b A m) (hb : Below w.heap.size w w') : ∀ b, w'.heap.size ≤ b → Bytes w' b A m := fun b hbb h0 => by
  have hz := hb.size
  obtain ⟨g, o, rfl, hne, hlt, hx⟩ := h b (by omega) h0
  refine ⟨g, o, rfl, hne, by omega, fun i hi => ?_⟩
  obtain ⟨x, hc, hx2⟩ := hx i hi
  exact ⟨x, (hb.cell (p := ⟨g, o + i, none⟩) hlt).trans hc, hx2⟩

set_option maxRecDepth 100000 in
set_option maxHeartbeats 8000000 in
theorem stepsLaw_any (hgood : GoodSaid) (A0 : Option Addr) (n c0 : Nat) (A2 : Option Addr) (n2 c2 : Nat) (w : World) (hn : n ≤ c0) (hm : n ≤ maxLen) (hx : ∀ b, w.heap.size ≤ b → Bytes w b A0 n) (hn2 : n2 ≤ c2) (hm2 : n2 ≤ maxLen) (hx2 : ∀ b, w.heap.size ≤ b → Bytes w b A2 n2) :
    Calls Try.prog 3 #[.slice A0 n c0, .slice A2 n2 c2] w fun e w' => e = .returned (.bool true) ∧ Below w.heap.size w w' := by
  unfold maxLen at hm hm2
  by_cases hbig : 1048576 < n
  · clear hx hx2 hgood
    go_enter Try.func3, Try.ntmps3
    go_wp2
    go_ret
    exact ⟨rfl, Below.refl _ _⟩
  by_cases hbig2 : 1048576 < n2
  · clear hx hx2 hgood
    go_enter Try.func3, Try.ntmps3
    go_wp2
    go_ret
    exact ⟨rfl, Below.refl _ _⟩
  have HD := Lib.hid (drawStepsOf_plain hgood A0 n c0 w hn hx)
  have HD2 := Lib.hid (fun w' (hb : Below w.heap.size w w') => drawFormatSteps_plain hgood A2 n2 c2 w' hn2 (bytes_laterW hx2 hb))
  clear hx hx2 hgood
  go_enter Try.func3, Try.ntmps3
  go_wp2_with fail
  refine Calls.mono HD.out ?_
  rintro e w1 ⟨A, l, c, t, rfl, ⟨hS, ⟨hl9, hlc, hcm⟩, hsh⟩, htz, hb1⟩
  have hl : l.length ≤ 1048576 := by omega
  have ht : t.size ≤ 1048576 := by omega
  have HSH := Lib.hid (fun s hs => Nat.le_trans (hsh s hs) (by decide) : Short l)
  have HS1 : Hid (Segs w1 w1.heap.size A l) := hS
  have HB1 : Hid (Below w.heap.size w w1) := hb1
  have C1 := Lib.hid (fun w h => stepsOf_any A l c t w h hl hlc hcm HSH.out ht)
  have C2 := Lib.hid (fun w h => specSteps_ss A l c t w h hl HSH.out ht)
  have C3 := Lib.hid (fun w h => loadsIn_any A l c t w h hl hlc hcm HSH.out ht)
  have C4 := Lib.hid (fun w h => specLoadsIn_any A l c t w h hl HSH.out ht)
  have C5 := Lib.hid (fun w h => needsOf_any A l c t w h hl hlc hcm HSH.out ht)
  have C6 := Lib.hid (fun x y w h => needOf_any A l c x y w h hl hlc hcm HSH.out)
  unfold StepsPostI at C1
  unfold StepsPostS at C2
  rw [show (runRes l t).map (·.1) = stepsRes l t from rfl] at C1
  have hss := stepsRes_le l t
  have HTX := Lib.hid (stepsRes_texts l t)
  have HLS : Hid (loadsB (stepsRes l t) = loadsRes l t) := (loadsRes_eq l t).symm
  have hlz : (loadsRes l t).size ≤ 2000 := by
    rw [← HLS.out]
    have := loadsB_size (stepsRes l t) (fun s hs => (HTX.out s hs).2.1)
    omega
  have HSAID : Hid ((traceB l t.data.toList).isSome = true → ChainS l ⟨#[]⟩ (stepsRes l t) ∧ namesC (stepsRes l t) = needsRes l t) := fun h => by
    obtain ⟨f, hf⟩ := Option.isSome_iff_exists.1 h
    exact ⟨(steps_said hf).1, (steps_said hf).2.1⟩
  clear hS hb1 HD hsh
  generalize (traceB l t.data.toList).isSome = d at *
  generalize hld : loadsRes l t = ld at *
  clear hld
  generalize stepsRes l t = ss at *
  generalize needsRes l t = nd at *
  have HEQ : Hid ((ld.toList == ld.toList) = true) := Lib.hid (beq_self_eq_true _)
  -- the program's steps
  go_wp2_with fail
  refine (C1.out _ HS1.out).mono ?_
  rintro e w2 ⟨v1, rfl, ho2, hb⟩
  obtain ⟨A1, cap1, rfl, -⟩ := ssForm ho2
  have HP2 : Hid (OwnSs w2 w1.heap.size (.slice A1 ss.length cap1) ss) := ho2
  have HS2 : Hid (Segs w2 w2.heap.size A l) := (HS1.out.below hb).more hb.size
  have HB2 : Hid (Below w.heap.size w w2) := HB1.out.trans (hb.mono HB1.out.size)
  clear hb HS1 HB1 ho2 C1
  -- the reference's
  go_wp2_with fail
  refine (C2.out _ HS2.out).mono ?_
  rintro e w3 ⟨v2, rfl, ho3, hb⟩
  obtain ⟨A3, cap3, rfl, -⟩ := ssForm ho3
  have HQ3 : Hid (OwnSs w3 w2.heap.size (.slice A3 ss.length cap3) ss) := ho3
  have HP3 : Hid (OwnSs w3 w1.heap.size (.slice A1 ss.length cap1) ss) := HP2.out.below hb
  have HS3 : Hid (Segs w3 w3.heap.size A l) := (HS2.out.below hb).more hb.size
  have HB3 : Hid (Below w.heap.size w w3) := HB2.out.trans (hb.mono HB2.out.size)
  clear hb HS2 HB2 ho3 C2 HP2
  go_wp2_with fail
  refine (C3.out _ HS3.out).mono ?_
  rintro e w4 ⟨rfl, hb⟩
  have HP4 : Hid (OwnSs w4 w1.heap.size (.slice A1 ss.length cap1) ss) := HP3.out.below hb
  have HQ4 : Hid (OwnSs w4 w2.heap.size (.slice A3 ss.length cap3) ss) := HQ3.out.below hb
  have HS4 : Hid (Segs w4 w4.heap.size A l) := (HS3.out.below hb).more hb.size
  have HB4 : Hid (Below w.heap.size w w4) := HB3.out.trans (hb.mono HB3.out.size)
  clear hb HB3 HS3 HP3 HQ3 C3
  go_wp2_with fail
  refine (C4.out _ HS4.out).mono ?_
  rintro e w5 ⟨rfl, hb⟩
  have HP5 : Hid (OwnSs w5 w1.heap.size (.slice A1 ss.length cap1) ss) := HP4.out.below hb
  have HQ5 : Hid (OwnSs w5 w2.heap.size (.slice A3 ss.length cap3) ss) := HQ4.out.below hb
  have HS5 : Hid (Segs w5 w5.heap.size A l) := (HS4.out.below hb).more hb.size
  have HB5 : Hid (Below w.heap.size w w5) := HB4.out.trans (hb.mono HB4.out.size)
  clear hb HB4 HS4 HP4 HQ4 C4
  go_wp2_with fail
  refine Calls.mono (HD2.out _ HB5.out) ?_
  rintro e w6 ⟨v4, os, rfl, ho6, ⟨hos, hot⟩, hb⟩
  obtain ⟨A4, cap4, rfl, -⟩ := ssForm ho6
  have HOT := Lib.hid hot
  have HR6 : Hid (OwnSs w6 w5.heap.size (.slice A4 os.length cap4) os) := ho6
  have HP6 : Hid (OwnSs w6 w1.heap.size (.slice A1 ss.length cap1) ss) := HP5.out.below hb
  have HQ6 : Hid (OwnSs w6 w2.heap.size (.slice A3 ss.length cap3) ss) := HQ5.out.below hb
  have HS6 : Hid (Segs w6 w6.heap.size A l) := (HS5.out.below hb).more hb.size
  have HB6 : Hid (Below w.heap.size w w6) := HB5.out.trans (hb.mono HB5.out.size)
  clear hb HS5 HB5 HP5 HQ5 ho6 HD2 hot
  have hrz : (fmtRes os).size ≤ 2000 := by
    unfold fmtRes
    split
    · show 1 ≤ 2000; omega
    · have := (fmtTo_size HOT.out os.length (Nat.le_refl _)).2; omega
  have F1 := Lib.hid (fun w h => formatSteps_any A4 os cap4 w h (by omega) HOT.out)
  have F2 := Lib.hid (fun w h => specFormatSteps_any A4 os cap4 w h (by omega) HOT.out)
  have F0 := Lib.hid (fun w h h' => soSteps_same A1 A3 ss cap1 cap3 w h h' (by omega))
  clear HOT
  generalize fmtRes os = fo at *
  go_wp2_with fail
  refine Calls.mono (F0.out _ (ssOf HP6.out) (ssOf HQ6.out)) ?_
  rintro e w7 ⟨rfl, hb⟩
  have HP7 : Hid (OwnSs w7 w1.heap.size (.slice A1 ss.length cap1) ss) := HP6.out.below hb
  have HQ7 : Hid (OwnSs w7 w2.heap.size (.slice A3 ss.length cap3) ss) := HQ6.out.below hb
  have HR7 : Hid (OwnSs w7 w5.heap.size (.slice A4 os.length cap4) os) := HR6.out.below hb
  have HS7 : Hid (Segs w7 w7.heap.size A l) := (HS6.out.below hb).more hb.size
  have HB7 : Hid (Below w.heap.size w w7) := HB6.out.trans (hb.mono HB6.out.size)
  clear hb HB6 HS6 HP6 HQ6 HR6 
  go_wp2_with fail
  refine Calls.mono (F1.out _ (ssOf HR7.out)) ?_
  rintro e w8 ⟨rfl, hb⟩
  have HP8 : Hid (OwnSs w8 w1.heap.size (.slice A1 ss.length cap1) ss) := HP7.out.below hb
  have HQ8 : Hid (OwnSs w8 w2.heap.size (.slice A3 ss.length cap3) ss) := HQ7.out.below hb
  have HR8 : Hid (OwnSs w8 w5.heap.size (.slice A4 os.length cap4) os) := HR7.out.below hb
  have HS8 : Hid (Segs w8 w8.heap.size A l) := (HS7.out.below hb).more hb.size
  have HB8 : Hid (Below w.heap.size w w8) := HB7.out.trans (hb.mono HB7.out.size)
  clear hb HB7 HS7 HP7 HQ7 HR7 
  go_wp2_with fail
  refine Calls.mono (F2.out _ (ssOf HR8.out)) ?_
  rintro e w9 ⟨rfl, hb⟩
  have HP9 : Hid (OwnSs w9 w1.heap.size (.slice A1 ss.length cap1) ss) := HP8.out.below hb
  have HQ9 : Hid (OwnSs w9 w2.heap.size (.slice A3 ss.length cap3) ss) := HQ8.out.below hb
  have HR9 : Hid (OwnSs w9 w5.heap.size (.slice A4 os.length cap4) os) := HR8.out.below hb
  have HS9 : Hid (Segs w9 w9.heap.size A l) := (HS8.out.below hb).more hb.size
  have HB9 : Hid (Below w.heap.size w w9) := HB8.out.trans (hb.mono HB8.out.size)
  clear hb HB8 HS8 HP8 HQ8 HR8 
  cases d with
  | false =>
    clear HSAID C5 C6 HS9
    go_wp2_with fail
    refine Calls.mono (F0.out _ (ssOf HP9.out) (ssOf HQ9.out)) ?_
    rintro e w10 ⟨rfl, hb⟩
    have HP10 : Hid (OwnSs w10 w1.heap.size (.slice A1 ss.length cap1) ss) := HP9.out.below hb
    have HQ10 : Hid (OwnSs w10 w2.heap.size (.slice A3 ss.length cap3) ss) := HQ9.out.below hb
    have HR10 : Hid (OwnSs w10 w5.heap.size (.slice A4 os.length cap4) os) := HR9.out.below hb
    have HB10 : Hid (Below w.heap.size w w10) := HB9.out.trans (hb.mono HB9.out.size)
    clear hb HB9  HP9 HQ9 HR9 
    go_wp2_with fail
    refine Calls.mono (F1.out _ (ssOf HR10.out)) ?_
    rintro e w11 ⟨rfl, hb⟩
    have HP11 : Hid (OwnSs w11 w1.heap.size (.slice A1 ss.length cap1) ss) := HP10.out.below hb
    have HQ11 : Hid (OwnSs w11 w2.heap.size (.slice A3 ss.length cap3) ss) := HQ10.out.below hb
    have HR11 : Hid (OwnSs w11 w5.heap.size (.slice A4 os.length cap4) os) := HR10.out.below hb
    have HB11 : Hid (Below w.heap.size w w11) := HB10.out.trans (hb.mono HB10.out.size)
    clear hb HB10  HP10 HQ10 HR10 
    go_wp2_with fail
    refine Calls.mono (F2.out _ (ssOf HR11.out)) ?_
    rintro e w12 ⟨rfl, hb⟩
    have HP12 : Hid (OwnSs w12 w1.heap.size (.slice A1 ss.length cap1) ss) := HP11.out.below hb
    have HQ12 : Hid (OwnSs w12 w2.heap.size (.slice A3 ss.length cap3) ss) := HQ11.out.below hb
    have HR12 : Hid (OwnSs w12 w5.heap.size (.slice A4 os.length cap4) os) := HR11.out.below hb
    have HB12 : Hid (Below w.heap.size w w12) := HB11.out.trans (hb.mono HB11.out.size)
    clear hb HB11  HP11 HQ11 HR11 
    go_wp2
    go_ret
    exact ⟨rfl, HB12.out⟩
  | true =>
    obtain ⟨hch, hnm⟩ := HSAID.out rfl
    have HCH := Lib.hid hch
    have HNM := Lib.hid hnm
    clear hch hnm HSAID F0 F1 F2 HQ9 HR9
    go_wp2_with fail
    refine (C5.out _ HS9.out).mono ?_
    rintro e w10 ⟨rfl, hb⟩
    have HP10 : Hid (OwnSs w10 w1.heap.size (.slice A1 ss.length cap1) ss) := HP9.out.below hb
    have HS10 : Hid (Segs w10 w10.heap.size A l) := (HS9.out.below hb).more hb.size
    have HB10 : Hid (Below w.heap.size w w10) := HB9.out.trans (hb.mono HB9.out.size)
    clear hb HB9 HS9 HP9 C5
    have HSP : Hid (Stps w10 w10.heap.size A1 ss) := ssOf HP10.out
    clear HP10
    go_wp2
    go_loopw [18, 19, 20, 128] (fun st al nm i wr => ∃ (k : Nat) (x a m : ByteArray) (pre rest : List Stp), st = .string x ∧ al = .string a ∧ nm = .string m ∧ i = .int .i64 k ∧ k ≤ ss.length ∧ Hid (pre.length = k) ∧ Hid (ss = pre ++ rest) ∧ Hid (ChainS l x rest) ∧ Hid (a = loadsB pre) ∧ Hid (m = namesC pre) ∧ Hid (Segs wr wr.heap.size A l) ∧ Hid (Below w10.heap.size w10 wr))
      (fun _ _ _ i _ => ss.length - (intOf i).toNat)
    case atStart => exact ⟨0, _, _, _, [], ss, rfl, rfl, rfl, rfl, Nat.zero_le _, Lib.hid rfl, Lib.hid rfl, HCH, Lib.hid rfl, Lib.hid rfl, HS10, Lib.hid (Below.refl _ _)⟩
    case round =>
      obtain ⟨k, x, a, m, pre, rest, rfl, rfl, rfl, rfl, hk, HL, HSS, HC, HA, HM, HSW, HBW⟩ := hrel
      clear HS10 HCH
      by_cases hlt : k < ss.length
      · have hlt' : (k : Int) < (ss.length : Int) := by omega
        obtain ⟨g, o, rfl, hg, hc⟩ := HSP.out (by omega)
        obtain ⟨s, r, hr⟩ : ∃ s r, rest = s :: r := by
          cases rest with
          | nil => exact absurd (by rw [HSS.out, List.append_nil, HL.out]) (Nat.ne_of_gt hlt)
          | cons s r => exact ⟨s, r, rfl⟩
        subst hr
        have hks : ss[k]? = some s := by rw [HSS.out, ← HL.out, List.getElem?_append_right (Nat.le_refl _), Nat.sub_self]; rfl
        obtain ⟨e0, e1, e2⟩ := hc k s hks
        rw [← HBW.out.cell hg] at e0 e1 e2
        obtain ⟨⟨hn1, hn2, hn3⟩, hch⟩ := HC.out
        obtain ⟨ht1, ht2, ht3⟩ := HTX.out s (List.mem_of_getElem? hks)
        have hpz : pre.length ≤ 161 := by rw [HL.out]; omega
        have haz : a.size ≤ 2000 := by
          rw [HA.out]
          have := loadsB_size pre (fun z hz => (HTX.out z (by rw [HSS.out]; exact List.mem_append_left _ hz)).2.1)
          omega
        have hmz : m.size ≤ 200 := by
          rw [HM.out]
          have := namesC_size pre (fun z hz => (HTX.out z (by rw [HSS.out]; exact List.mem_append_left _ hz)).1)
          omega
        have D6 := Lib.hid (fun w h => C6.out x s.nm w h)
        rw [hn1, hn2, hn3] at D6
        have HSB : Hid (Segs (wr.alloc (.cells #[.string s.nm, .string s.ld, .string s.st] 35)) (wr.alloc (.cells #[.string s.nm, .string s.ld, .string s.st] 35)).heap.size A l) := (HSW.out.below ((Below.refl _ wr).alloc (Nat.le_refl _) _)).more (by simp)
        have HR1 : Hid (Row (wr.alloc (.cells #[.string s.nm, .string s.ld, .string s.st] 35)) wr.heap.size 35 #[.string s.nm, .string s.ld, .string s.st]) := Row.new wr _ _
        have HBB : Hid (Below w10.heap.size w10 (wr.alloc (.cells #[.string s.nm, .string s.ld, .string s.st] 35))) := HBW.out.alloc HBW.out.size _
        have c1 := HR1.out.cell 0
        have HL2 : Hid ((pre ++ [s]).length = k + 1) := Lib.hid (by rw [List.length_append, HL.out]; rfl)
        have HSS2 : Hid (ss = (pre ++ [s]) ++ r) := Lib.hid (by rw [HSS.out]; simp)
        have HC2 := Lib.hid hch
        have HA2 : Hid (a ++ s.ld = loadsB (pre ++ [s])) := Lib.hid (by rw [loadsB_snoc, ← HA.out])
        have HM2 : Hid (m ++ s.nm = namesC (pre ++ [s])) := Lib.hid (by rw [namesC_snoc, ← HM.out])
        clear hc hn1 hn2 hn3 hch HL HSS HC HA HM hks
        go_wp2_with fail
        generalize wr.alloc (.cells #[.string s.nm, .string s.ld, .string s.st] 35) = W1 at *
        refine (D6.out _ HSB.out).mono ?_
        rintro e w12 ⟨rfl, hb⟩
        have HR2 := Lib.hid (HR1.out.below hb HR1.out.lt)
        have HS2 : Hid (Segs w12 w12.heap.size A l) := (HSB.out.below hb).more hb.size
        have HB2 : Hid (Below w10.heap.size w10 w12) := HBB.out.trans (hb.mono HBB.out.size)
        have d0 := HR2.out.cell 0
        have d1 := HR2.out.cell 1
        have d2 := HR2.out.cell 2
        clear hb c1 HR1 HSB HBB D6 HSW HBW
        go_wp2
        go_roundw
        case rel => exact ⟨k + 1, _, _, _, pre ++ [s], r, rfl, rfl, rfl, by go_num, by omega, HL2, HSS2, HC2, HA2, HM2, HS2, HB2⟩
        case measure => simp [intOf]; omega
      · obtain rfl : k = ss.length := by omega
        have hrest : rest = [] := by
          have h1 := congrArg List.length HSS.out
          rw [List.length_append, HL.out] at h1
          exact List.eq_nil_of_length_eq_zero (by omega)
        have hss2 : ss = pre := by have := HSS.out; rw [hrest, List.append_nil] at this; exact this
        have hm1 : m = nd := by rw [HM.out, ← hss2]; exact HNM.out
        have ha1 : a = ld := by rw [HA.out, ← hss2]; exact HLS.out
        subst hm1
        subst ha1
        have HBF : Hid (Below w.heap.size w wr) := HB10.out.trans (HBW.out.mono HB10.out.size)
        clear hss2 hrest HSS HL HC HA HM HSW HBW
        go_wp2
        go_ret
        exact ⟨rfl, HBF.out⟩

end Go.Proofs.Ytcaegpjbdcopoaa
