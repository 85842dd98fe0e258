/- Joined: Be Jc. -/
import Derived.Test.YtbmfbnlmdjnddaaGreatU21
import Derived.Test.YtbmfbnlmdjnddaaGreatU17
import Derived.Test.YtbmfbnlmdjnddaaGreatU15
import Derived.Test.YtbmfbnlmdjnddaaGreatU18
import Derived.Test.YtbmfbnlmdjnddaaGreatU13
/- LostIn on both sides. -/
namespace Go.Proofs.YtbmfbnlmdjnddaaGreat
open Go.RowKit Go.Shelf

theorem strOf_byte {x : List UInt8} {k : Nat} (hk : k < x.length) : (strOf x).extract k (k + 1) = ⟨#[byteAt x k]⟩ := by
  have hk' : k < (strOf x).size := by rw [str_size]; exact hk
  rw [one_byte _ hk']
  have : (strOf x)[k] = byteAt x k := by
    unfold byteAt
    rw [List.getD_eq_getElem?_getD, List.getElem?_eq_getElem hk]
    simp [strOf, ByteArray.getElem_eq_getElem_data]
  rw [this]
theorem strOf_last {x : List UInt8} (hx : x ≠ []) : (strOf x).extract ((strOf x).size - 1) (strOf x).size = ⟨#[lastB x]⟩ := by
  obtain ⟨y, c, rfl⟩ : ∃ y c, x = y ++ [c] := ⟨x.dropLast, x.getLast hx, (List.dropLast_concat_getLast hx).symm⟩
  rw [lastB_snoc]
  exact str_last y c
theorem strOf_snoc (a : List UInt8) (c : UInt8) : strOf a ++ ⟨#[c]⟩ = strOf (a ++ [c]) := bytes_cat a [c]

set_option maxRecDepth 100000 in
set_option maxHeartbeats 4000000 in
theorem specLostIn_any (A : Option Addr) (l : List Seg) (c : Nat) (t : ByteArray) (w : World) (hw : Segs w w.heap.size A l) (hl : l.length ≤ 1048576) (hn : Short l) (ht : t.size ≤ 1048576) :
    Calls Tryz.prog 10 #[.slice A l.length c, .string t] w fun e w' => e = .returned (.tuple #[.string (lostRes l t), .bool (traceB l t.data.toList).isSome]) ∧ Below w.heap.size w w' := by
  have HW : Hid (Segs w w.heap.size A l) := hw
  have HQ := Lib.hid (specChainsOf_any A l c t w hw hl hn ht)
  unfold lostRes
  unfold ChainsResPost chainsRes at HQ
  cases hR : traceB l t.data.toList with
  | none =>
    rw [hR] at HQ
    clear hw hn hR
    go_enter Tryz.func10, Tryz.ntmps10
    go_wp2_with fail
    refine Calls.mono HQ.out ?_
    rintro e w2 ⟨v, rfl, ho, hb⟩
    obtain ⟨A2, cap2, rfl, -⟩ := St.textsForm ho
    have HB := Lib.hid hb
    clear ho hb
    go_wp2
    go_loop [6, 24] (fun o i => o = .string ⟨#[]⟩ ∧ i = .int .i64 0) (fun _ _ => 0)
    case atStart => exact ⟨rfl, rfl⟩
    case round =>
      obtain ⟨rfl, rfl⟩ := hrel
      go_wp2
      go_loopw [7, 58] (fun o i wr => ∃ k : Nat, k ≤ l.length ∧ i = .int .i64 k ∧ o = .string ⟨#[]⟩ ∧ Below w.heap.size w wr)
        (fun _ i _ => l.length - (intOf i).toNat)
      case atStart => exact ⟨0, Nat.zero_le _, rfl, rfl, HB.out⟩
      case round =>
        obtain ⟨k, hk, rfl, rfl, hb⟩ := hrel
        by_cases hlt : k < l.length
        · obtain ⟨b, o, rfl, hB, hc⟩ := HW.out (by omega)
          obtain ⟨c0, c1, c2⟩ := hc k l[k] (List.getElem?_eq_getElem hlt)
          clear hc
          rw [← hb.cell hB] at c0 c1 c2
          generalize l[k] = x at *
          go_wp2
          go_roundw
          case rel => exact ⟨k + 1, by omega, by go_num, rfl, hb.alloc hb.size _⟩
          case measure => simp [intOf]; omega
        · obtain rfl : k = l.length := by omega
          go_wp2
          go_ret2
          exact ⟨rfl, hb⟩
  | some f =>
    have HV := Lib.hid (traceB_some hR).1
    have h8 := (valid_all (traceB_some hR).1).2.1
    have HN : Hid ((chainsB [rootB l] f).length = f.size) := chainsB_len f [rootB l]
    have HA : Hid (∀ x ∈ chainsB [rootB l] f, x ≠ [] ∧ x.length ≤ 9 ∧ callP l (lastB x) = true) := fun x hx => by
      obtain ⟨⟨y, u, v, rfl, _, hv⟩, h9⟩ := trace_two hR x hx
      exact ⟨by simp, h9, by rw [(ends_of y u v).1]; exact hv⟩
    have hsz := (traceB_size hR).1
    have HL := Lib.hid (fun W a b h => specLie_any A l c a b W h hl hn)
    rw [hR] at HQ
    have HQ : Hid (Calls Tryz.prog 56 #[.slice A l.length c, .string t] w fun e w' => ∃ v, e = .returned (.tuple #[v, .bool true]) ∧ OwnTexts w' w.heap.size v ((chainsB [rootB l] f).map strOf) ∧ Below w.heap.size w w') := HQ
    clear hw hn hR
    show Calls Tryz.prog 10 #[.slice A l.length c, .string t] w fun e w' => e = .returned (.tuple #[.string (namesAt l (selIx (lostF l (chainsB [rootB l] f)) l.length)), .bool true]) ∧ Below w.heap.size w w'
    generalize chainsB [rootB l] f = xs at *
    have HFIN : Hid (selIx (fun i => decide (byteOf l i ∈ lostAll l xs)) l.length = selIx (lostF l xs) l.length) := selIx_congr fun i hi => lost_same HV.out (fun x hx => (HA.out x hx).2.2) hi
    have HLA : Hid ((lostAll l xs).length ≤ 720) := by
      have h1 := lostAll_len l xs (fun x hx => (HA.out x hx).2.1)
      have h2 := HN.out
      show _ ≤ _
      omega
    have HTS : Hid ((xs.map strOf).length = xs.length) := List.length_map _
    have HC : Hid (∀ k (hk : k < xs.length), (xs.map strOf)[k]? = some (strOf xs[k])) := fun k hk => by rw [List.getElem?_map, List.getElem?_eq_getElem hk]; rfl
    generalize xs.map strOf = ts at *
    have htl : ts.length ≤ 80 := by rw [HTS.out, HN.out]; exact hsz
    go_enter Tryz.func10, Tryz.ntmps10
    go_wp2_with fail
    refine Calls.mono HQ.out ?_
    rintro e w2 ⟨v, rfl, ho, hb⟩
    obtain ⟨A2, cap2, rfl, -⟩ := St.textsForm ho
    have HB := Lib.hid hb
    have HO := Lib.hid ho
    clear ho hb
    go_wp2
    go_loopw [6, 24] (fun o i wr => ∃ k : Nat, k ≤ ts.length ∧ i = .int .i64 k ∧ o = .string (strOf (lostAll l (xs.take k))) ∧ Hid (Below w2.heap.size w2 wr))
      (fun _ i _ => ts.length - (intOf i).toNat)
    case atStart => exact ⟨0, Nat.zero_le _, rfl, rfl, Below.refl _ _⟩
    case round =>
      obtain ⟨k, hk, rfl, rfl, HBr⟩ := hrel
      by_cases hlt : k < ts.length
      · have hkx : k < xs.length := by rw [← HTS.out]; exact hlt
        obtain ⟨hne, hx9, hcl⟩ := HA.out xs[k] (List.getElem_mem hkx)
        obtain ⟨b, o, hA2, hB2, hc⟩ := strsOf HO.out (by omega)
        subst hA2
        have c0 : wr.cell? ⟨b, o + k, none⟩ = some (.string (strOf xs[k])) := (HBr.out.cell (p := ⟨b, o + k, none⟩) hB2).trans (hc k _ (HC.out k hkx))
        have hsz1 : (strOf xs[k]).size = xs[k].length := str_size _
        have HX := Lib.hid (strOf_last hne)
        have hx1 : 1 ≤ xs[k].length := by
          have : xs[k].length ≠ 0 := fun e => hne (List.eq_nil_of_length_eq_zero e)
          omega
        have HSN : Hid (lostAll l (xs.take (k + 1)) = lostAll l (xs.take k) ++ lostOne l xs[k] xs[k].length) := by
          show _ = _
          rw [List.take_succ_eq_append_getElem hkx]
          exact lostAll_snoc l _ _
        have hla : (lostAll l (xs.take k)).length ≤ 720 := by
          have h1 := lostAll_len l (xs.take k) (fun x hx => (HA.out x (List.mem_of_mem_take hx)).2.1)
          rw [List.length_take] at h1
          have h2 := HN.out
          omega
        have HEX : Hid (∀ j, j < xs[k].length → (strOf xs[k]).extract j (j + 1) = ⟨#[byteAt xs[k] j]⟩) := fun j hj => strOf_byte hj
        clear hc hne hcl
        generalize hxk : xs[k] = x at *
        generalize hz : strOf x = z at *
        generalize lostAll l (xs.take k) = La at *
        have hz1 : 1 ≤ z.size := by omega
        have hz9 : z.size ≤ 9 := by omega
        have h3 : (z.size : Int) - 1 = ((z.size - 1 : Nat) : Int) := by omega
        have HZX := Lib.hid hsz1
        clear hxk hz hsz1
        go_wp2_with fail
        rw [HX.out]
        go_loopw [6, 35] (fun o i wr => ∃ j : Nat, j ≤ z.size ∧ i = .int .i64 j ∧ o = .string (strOf (La ++ lostOne l x j)) ∧ Hid (Below w2.heap.size w2 wr))
          (fun _ i _ => z.size - (intOf i).toNat)
        case atStart => exact ⟨0, Nat.zero_le _, rfl, by rw [show lostOne l x 0 = [] from rfl, List.append_nil], HBr⟩
        case round =>
          obtain ⟨j, hj, rfl, rfl, HBj⟩ := hrel
          clear c0 HBr
          by_cases hltj : j < z.size
          · have hj0 : (0 : Int) ≤ (j : Int) := Int.natCast_nonneg _
            have hj1 : (j : Int) + 1 ≤ (z.size : Int) := by omega
            have hj2 : (j : Int) < (z.size : Int) := by omega
            have HXj := Lib.hid (HEX.out j (by have := HZX.out; omega))
            have HSJ := Lib.hid (lostOne_succ l x j)
            have hlj := lostOne_len l x j
            have hs1 : (strOf (La ++ lostOne l x j)).size ≤ 729 := by rw [str_size, List.length_append]; omega
            have HCT := Lib.hid (strOf_snoc (La ++ lostOne l x j) (byteAt x j))
            rw [List.append_assoc] at HCT
            go_wp2_with fail
            rw [HXj.out]
            refine (HL.out _ _ _ ((HW.out.below (HB.out.trans (HBj.out.mono HB.out.size))).more (Nat.le_trans HB.out.size HBj.out.size))).mono ?_
            cases hd : lieB l ⟨#[byteAt x j]⟩ ⟨#[lastB x]⟩ with
            | true =>
              rw [hd] at HSJ
              have HS1 : Hid (lostOne l x (j + 1) = lostOne l x j) := by
                show _ = _
                rw [HSJ.out, if_pos rfl, List.append_nil]
              rintro e w3 ⟨rfl, hb3⟩
              have HB3 : Hid (Below w2.heap.size w2 w3) := HBj.out.trans (hb3.mono HBj.out.size)
              clear hb3 hd HSJ HCT
              go_wp2
              go_roundw
              case rel => exact ⟨j + 1, by omega, by go_num, by rw [HS1.out], HB3⟩
              case measure => simp [intOf]; omega
            | false =>
              rw [hd] at HSJ
              have HS1 : Hid (lostOne l x (j + 1) = lostOne l x j ++ [byteAt x j]) := by
                show _ = _
                rw [HSJ.out, if_neg (by decide)]
              have hbs : (⟨#[byteAt x j]⟩ : ByteArray).size = 1 := rfl
              rintro e w3 ⟨rfl, hb3⟩
              have HB3 : Hid (Below w2.heap.size w2 w3) := HBj.out.trans (hb3.mono HBj.out.size)
              clear hb3 hd HSJ
              generalize strOf (La ++ lostOne l x j) = S0 at *
              generalize hq : (⟨#[byteAt x j]⟩ : ByteArray) = qb at *
              go_wp2
              go_roundw
              case rel => exact ⟨j + 1, by omega, by go_num, by rw [HS1.out, ← HCT.out]; first | rfl | rw [HXj.out] | (rw [HXj.out, hq]), HB3⟩
              case measure => simp [intOf]; omega
          · obtain rfl : j = z.size := by omega
            have HE2 : Hid (lostAll l (xs.take (k + 1)) = La ++ lostOne l x z.size) := by
              show _ = _
              rw [HSN.out, HZX.out]
            go_wp2
            go_roundw
            case rel => exact ⟨k + 1, by omega, by go_num, by rw [HE2.out], HBj⟩
            case measure => simp [intOf]; omega
      · have hkl : k = ts.length := by omega
        have HE : Hid (lostAll l (xs.take k) = lostAll l xs) := by
          show _ = _
          rw [hkl, HTS.out, List.take_length]
        rw [HE.out]
        have hs1 : (strOf (lostAll l xs)).size ≤ 720 := by rw [str_size]; exact HLA.out
        have HFD : Hid (∀ i, i < l.length → decide (0 ≤ findB (strOf (lostAll l xs)) (byteOf l i)) = decide (byteOf l i ∈ lostAll l xs)) := fun i _ => by
          rw [decide_eq_decide, findB_lo]
          exact Iff.rfl
        generalize hLs : strOf (lostAll l xs) = Ls at *
        have HG : Hid (∀ i, i < l.length → decide (0 ≤ findB Ls (byteOf l i)) = (fun i => decide (byteOf l i ∈ lostAll l xs)) i) := HFD
        generalize (fun i => decide (byteOf l i ∈ lostAll l xs)) = g at *
        clear HFD hLs hkl HE
        go_wp2
        go_loopw [7, 58] (fun o i wr => ∃ k : Nat, k ≤ l.length ∧ i = .int .i64 k ∧ o = .string (namesAt l (selIx g k)) ∧ Hid (Below w.heap.size w wr))
          (fun _ i _ => l.length - (intOf i).toNat)
        case atStart => exact ⟨0, Nat.zero_le _, rfl, rfl, HB.out.trans (HBr.out.mono HB.out.size)⟩
        case round =>
          obtain ⟨k2, hk2, rfl, rfl, HB2⟩ := hrel
          clear HBr
          by_cases hlt2 : k2 < l.length
          · obtain ⟨b, o, rfl, hB, hc⟩ := HW.out (by omega)
            obtain ⟨c0, c1, c2⟩ := hc k2 l[k2] (List.getElem?_eq_getElem hlt2)
            clear hc
            rw [← HB2.out.cell hB] at c0 c1 c2
            have hn1 := (nmAt_one HV.out hlt2).2
            have HG1 := Lib.hid (HG.out k2 hlt2)
            have HSK := Lib.hid (selIx_succ g k2)
            have HNS : Hid (∀ js : List Nat, namesAt l (js ++ [k2]) = namesAt l js ++ ⟨#[byteOf l k2]⟩) := fun js => by rw [← hn1]; exact namesAt_snoc js hlt2
            have hln : (namesAt l (selIx g k2)).size ≤ 1048576 := by
              have h1 := namesAt_len (valid_names HV.out) (selIx g k2)
              have h2 := selIx_len g k2
              omega
            rw [hn1] at c0
            have hb2 := HB2.out.size
            generalize byteOf l k2 = bt at *
            generalize l[k2] = sg at *
            have HBA : Hid (Below w.heap.size w (wr.alloc (.cells #[.string ⟨#[bt]⟩, .int .i64 sg.size, .int .i64 sg.par] 51))) := HB2.out.alloc hb2 _
            go_wp2_with fail
            refine (l13Find_any Ls bt _ (by unfold maxLen; omega)).mono ?_
            rintro e w3 ⟨rfl, rfl⟩
            by_cases hf : 0 ≤ findB Ls bt
            · have HS1 : Hid (selIx g (k2 + 1) = selIx g k2 ++ [k2]) := by
                show _ = _
                rw [HSK.out, ← HG1.out, decide_eq_true hf, if_pos rfl]
              clear HG1 HSK
              have hbs : (⟨#[bt]⟩ : ByteArray).size = 1 := rfl
              go_wp2
              go_roundw
              case rel => exact ⟨k2 + 1, by omega, by go_num, by rw [HS1.out, HNS.out], HBA⟩
              case measure => simp [intOf]; omega
            · have HS1 : Hid (selIx g (k2 + 1) = selIx g k2) := by
                show _ = _
                rw [HSK.out, ← HG1.out, decide_eq_false hf, if_neg (by decide), List.append_nil]
              clear HG1 HSK
              go_wp2
              go_roundw
              case rel => exact ⟨k2 + 1, by omega, by go_num, by rw [HS1.out], HBA⟩
              case measure => simp [intOf]; omega
          · obtain rfl : k2 = l.length := by omega
            rw [HFIN.out]
            go_wp2
            go_ret2
            exact ⟨rfl, HB2.out⟩

set_option maxRecDepth 100000 in
set_option maxHeartbeats 2000000 in
theorem setNames_any (B g : Nat) (l : List Seg) (nb : Nat → Nat) (cv : Nat → Value) (f : Nat → Bool) (w : World) (h : Nodes w B g l.length l.length l nb cv) (hv : validB l = true) :
    Calls Tryz.prog 55 #[.int .u64 (setF f : Int), .slice (some ⟨g, 0, none⟩) l.length l.length] w fun e w' => e = .returned (.string (namesAt l (selIx f l.length))) ∧ Below w.heap.size w w' := by
  have HN := Lib.hid h
  have HV := Lib.hid hv
  have h8 := (valid_all hv).2.1
  clear h hv
  go_enter Tryz.func55, Tryz.ntmps55
  go_wp2
  have hI0 : Lib.IsBuilderF 107 5 w.heap.size w.heap.size (Lib.byteCells (namesAt l (selIx f 0)).data.toList) (w.alloc (.cells #[.pointer none, .slice none 0 0] 107)) :=
    Lib.IsBuilderF.of (Lib.fresh_isBuilder 107 5 w)
  have hB0 : Below w.heap.size w (w.alloc (.cells #[.pointer none, .slice none 0 0] 107)) := (Below.refl _ w).alloc (Nat.le_refl _) _
  go_loopw [10] (fun i wr => ∃ k : Nat, k ≤ l.length ∧ i = .int .i64 k ∧ Hid (Lib.IsBuilderF 107 5 w.heap.size w.heap.size (Lib.byteCells (namesAt l (selIx f k)).data.toList) wr) ∧ Hid (Below w.heap.size w wr))
    (fun i _ => l.length - (intOf i).toNat)
  case atStart => exact ⟨0, Nat.zero_le _, rfl, hI0, hB0⟩
  case round =>
    clear hI0 hB0
    obtain ⟨k, hk, rfl, HI, HB⟩ := hrel
    have hk0 : (0 : Int) ≤ (k : Int) := Int.natCast_nonneg _
    have hbz := HB.out.size
    have hbw : w.heap.size < wr.heap.size := by
      obtain ⟨cb, hcb⟩ := builder_cells HI.out
      exact (Array.getElem?_eq_some_iff.1 hcb).1
    by_cases hlt : k < l.length
    · have hlt' : (k : Int) < (l.length : Int) := by omega
      obtain ⟨cs, hrow, _, hci⟩ := HN.out.row
      have gk : wr.cell? ⟨g, k, none⟩ = some (.pointer (some ⟨nb k, 0, none⟩)) := by
        rw [HB.out.cell (p := ⟨g, k, none⟩) hrow.lt, hrow.cell]
        exact hci k hlt
      have hnk := HN.out.node k _ hlt (List.getElem?_eq_getElem hlt)
      have nk : wr.cell? ⟨nb k, 0, none⟩ = some (.string l[k].name) := (HB.out.cell (p := ⟨nb k, 0, none⟩) hnk.lt).trans (hnk.cell 0)
      clear hrow hci hnk
      have HS := Lib.hid (selIx_succ f k)
      go_wp2_with fail
      refine (has_any f k _ (by omega)).mono ?_
      cases hf : f k with
      | false =>
        have HS1 : Hid (selIx f (k + 1) = selIx f k) := by
          show _ = _
          rw [HS.out, if_neg (by rw [hf]; decide), List.append_nil]
        have HI1 : Hid (Lib.IsBuilderF 107 5 w.heap.size w.heap.size (Lib.byteCells (namesAt l (selIx f (k + 1))).data.toList) wr) := by
          show Lib.IsBuilderF _ _ _ _ _ _
          rw [HS1.out]
          exact HI.out
        clear hf
        rintro e w1 ⟨rfl, rfl⟩
        go_wp2
        go_roundw
        case rel => exact ⟨k + 1, by omega, by go_num, HI1, HB⟩
        case measure => simp [intOf]; omega
      | true =>
        rintro e w1 ⟨rfl, rfl⟩
        have hlen : (Lib.byteCells (namesAt l (selIx f k)).data.toList).length = (namesAt l (selIx f k)).size := by simp [Lib.byteCells]
        have HS1 : Hid (Lib.byteCells (namesAt l (selIx f (k + 1))).data.toList = Lib.byteCells (namesAt l (selIx f k)).data.toList ++ Lib.strCells l[k].name) := by
          show _ = _
          rw [HS.out, if_pos hf, namesAt_snoc _ hlt, ByteArray.data_append, Array.toList_append]
          simp [Lib.byteCells, Lib.strCells]
        have hz1 := valid_names HV.out _ (List.getElem_mem hlt)
        have hz2 := namesAt_len (valid_names HV.out) (selIx f k)
        have hz3 := selIx_len f k
        have hl1 : (Lib.byteCells (namesAt l (selIx f k)).data.toList).length + l[k].name.size ≤ 140737488355328 := by omega
        clear hz2 hz3 hf hlen
        generalize l[k].name = nm at *
        go_wp2_with fail
        refine (writeString_any w.heap.size w.heap.size _ nm _ HI.out hl1 (by omega)).mono ?_
        rintro e w2 ⟨rfl, hI1, hb1, hk1⟩
        have HI1 : Hid (Lib.IsBuilderF 107 5 w.heap.size w.heap.size (Lib.byteCells (namesAt l (selIx f (k + 1))).data.toList) w2) := by
          show Lib.IsBuilderF _ _ _ _ _ _
          rw [HS1.out]
          exact hI1
        have HB1 := Lib.hid (HB.out.trans (hb1.mono (by omega)))
        clear hI1 hb1 hk1 gk nk
        go_wp2
        go_roundw
        case rel => exact ⟨k + 1, by omega, by go_num, HI1, HB1⟩
        case measure => simp [intOf]; omega
    · obtain rfl : k = l.length := by omega
      go_wp2_with fail
      refine (Tryz.Builder_String_any_k w.heap.size w.heap.size _ _ HI.out (by omega)).mono ?_
      rintro e w2 ⟨rfl, hI1, hb1, hk1⟩
      have HB1 := Lib.hid (HB.out.trans (hb1.mono (by omega)))
      clear hI1 hb1 hk1
      go_wp2
      go_ret
      exact ⟨rfl, HB1.out⟩

theorem contains_said (s : ByteArray) (b : UInt8) : decide (0 ≤ Lib.indexByte s.data.toList b) = decide (b ∈ s.data.toList) := by
  rw [← Lib.contains_iff_indexByte]
  simp

set_option maxRecDepth 100000 in
set_option maxHeartbeats 2000000 in
theorem lostAt_any (B g : Nat) (l : List Seg) (nb : Nat → Nat) (cv : Nat → Value) (x : List UInt8) (w : World) (h : Nodes w B g l.length l.length l nb cv) (hv : validB l = true) (hne : x ≠ []) (h9 : x.length ≤ 9) (hcl : callP l (lastB x) = true) :
    Calls Tryz.prog 54 #[.slice (some ⟨g, 0, none⟩) l.length l.length, .string (strOf x)] w fun e w' => e = .returned (.int .u64 (setF (fun i => decide (i < l.length) && lostX l x i) : Int)) ∧ Below w.heap.size w w' := by
  have h8 := (valid_all hv).2.1
  have HN := Lib.hid h
  have hc0 : 0 ≤ bSeek l (lastB x) := by
    have h1 := of_decide_eq_true hcl
    rwa [show indexB l ⟨#[lastB x]⟩ = bSeek l (lastB x) from if_pos hv] at h1
  have hcb : (bSeek l (lastB x)).toNat < l.length := by rcases bSeek_bd l (lastB x) with a | ⟨_, a⟩ <;> omega
  have HP : Hid (foundPtr l nb ⟨#[lastB x]⟩ = some ⟨nb (bSeek l (lastB x)).toNat, 0, none⟩) := found_byte hc0
  obtain ⟨cs, hrow, -, hci⟩ := h.row
  have HC : Hid (∀ i, i < l.length → w.cell? ⟨g, i, none⟩ = some (.pointer (some ⟨nb i, 0, none⟩))) := fun i hi => by rw [hrow.cell]; exact hci i hi
  have hg := hrow.lt
  have HNM : Hid (∀ i (hi : i < l.length), nb i < w.heap.size ∧ w.cell? ⟨nb i, 0, none⟩ = some (.string ⟨#[byteOf l i]⟩)) := fun i hi => by
    have hnk := h.node i _ hi (List.getElem?_eq_getElem hi)
    have h1 : w.cell? ⟨nb i, 0, none⟩ = some (.string l[i].name) := hnk.cell 0
    have h2 := (nmAt_one hv hi).2
    rw [h2] at h1
    exact ⟨hnk.lt, h1⟩
  have HK := Lib.hid (fun i j W hb hi hj => kindOfCall_any B g i j l nb cv W (HN.out.below (w' := W) hb) hv hi hj)
  have HZ : Hid (setF (fun i => decide (i < 0) && lostX l x i) = 0) := by
    show _ = _
    rw [setF_congr (g := fun _ => false) (fun i _ => by simp)]
    rfl
  have HLX : Hid (∀ i, lostX l x i = (decide (byteOf l i ∈ x) && decide (kindIx l i (bSeek l (lastB x)).toNat = 2))) := fun i => rfl
  have HCN : Hid (∀ b W, Calls Tryz.prog 116 #[.string (strOf x), .string ⟨#[b]⟩] W fun e w' => e = .returned (.bool (decide (b ∈ x))) ∧ w' = W) := fun b W => by
    have h1 := Tryz.strings_Contains_one (strOf x) b W
    rw [contains_said] at h1
    exact h1
  have hsz1 : (strOf x).size = x.length := str_size _
  have hx1 : 1 ≤ x.length := by
    have : x.length ≠ 0 := fun e => hne (List.eq_nil_of_length_eq_zero e)
    omega
  have HX := Lib.hid (strOf_last hne)
  have HFN := Lib.hid (fun s => findNode_any B g l nb cv s w HN.out)
  clear h hv hrow hci cs HN hne hcl hc0
  generalize (bSeek l (lastB x)).toNat = q at *
  generalize hz : strOf x = z at *
  have hz1 : 1 ≤ z.size := by omega
  have hz9 : z.size ≤ 9 := by omega
  have h3 : (z.size : Int) - 1 = ((z.size - 1 : Nat) : Int) := by omega
  clear hz hsz1 hx1
  go_enter Tryz.func54, Tryz.ntmps54
  go_wp2_with fail
  rw [HX.out]
  refine Calls.mono (HFN.out _ (by omega)) ?_
  rw [HP.out]
  rintro e w1 ⟨rfl, rfl⟩
  go_wp2
  go_loopw [6, 18] (fun o i wr => ∃ k : Nat, k ≤ l.length ∧ i = .int .i64 k ∧ o = .int .u64 (setF (fun i => decide (i < k) && lostX l x i) : Int) ∧ Hid (Below w.heap.size w wr))
    (fun _ i _ => l.length - (intOf i).toNat)
  case atStart => exact ⟨0, Nat.zero_le _, rfl, by rw [HZ.out]; rfl, Below.refl _ _⟩
  case round =>
    obtain ⟨k, hk, rfl, rfl, HB⟩ := hrel
    have hk0 : (0 : Int) ≤ (k : Int) := Int.natCast_nonneg _
    by_cases hlt : k < l.length
    · have hlt' : (k : Int) < (l.length : Int) := by omega
      have ck : wr.cell? ⟨g, k, none⟩ = some (.pointer (some ⟨nb k, 0, none⟩)) := (HB.out.cell (p := ⟨g, k, none⟩) hg).trans (HC.out k hlt)
      obtain ⟨n1, n2⟩ := HNM.out k hlt
      have nk : wr.cell? ⟨nb k, 0, none⟩ = some (.string ⟨#[byteOf l k]⟩) := (HB.out.cell (p := ⟨nb k, 0, none⟩) n1).trans n2
      have HL1 := Lib.hid (HLX.out k)
      have HSK : Hid (lostX l x k = false → setF (fun i => decide (i < k + 1) && lostX l x i) = setF (fun i => decide (i < k) && lostX l x i)) := fun h0 => setF_congr fun i _ => by
        by_cases hik : i = k
        · subst hik; rw [h0]; simp
        · rw [show decide (i < k + 1) = decide (i < k) from decide_eq_decide.2 (by omega)]
      have HSW : Hid (lostX l x k = true → setF (fun j => (decide (j < k) && lostX l x j) || decide (j = k)) = setF (fun i => decide (i < k + 1) && lostX l x i)) := fun h0 => setF_congr fun i _ => by
        by_cases hik : i = k
        · subst hik; rw [h0]; simp
        · rw [show decide (i < k + 1) = decide (i < k) from decide_eq_decide.2 (by omega), decide_eq_false hik, Bool.or_false]
      have HCK := Lib.hid (HCN.out (byteOf l k))
      have HKK := Lib.hid (fun W hb => HK.out k q W hb hlt hcb)
      clear n1 n2
      generalize byteOf l k = bt at *
      by_cases hm : bt ∈ x
      · rw [decide_eq_true hm] at HCK HL1
        generalize kindIx l k q = kd at *
        have hmx : Tryz.prog.follows .mixedOrders = true := by kernel_rfl
        go_wp2_with fail
        refine Calls.mono (HCK.out _) ?_
        rintro e w1 ⟨rfl, rfl⟩
        go_wp2_with fail
        refine (HKK.out _ HB.out).mono ?_
        rintro e w2 ⟨rfl, hb2⟩
        have HB2 : Hid (Below w.heap.size w w2) := HB.out.trans (hb2.mono HB.out.size)
        clear hb2 ck nk
        by_cases hq : kd = 2
        · have HS1 := Lib.hid (HSW.out (by rw [HL1.out, decide_eq_true hq]; rfl))
          subst hq
          have HW := Lib.hid (fun W => with_any (fun i => decide (i < k) && lostX l x i) k W (by omega))
          clear HSK HSW HL1 hm HCK
          go_wp2_with fail
          refine (HW.out _).mono ?_
          rw [HS1.out]
          rintro e w3 ⟨rfl, rfl⟩
          go_wp2
          go_roundw
          case rel => exact ⟨k + 1, by omega, by go_num, rfl, HB2⟩
          case measure => simp [intOf]; omega
        · have HS1 := Lib.hid (HSK.out (by rw [HL1.out, decide_eq_false hq]; rfl))
          have hq2 : (kd == 2) = false := by simpa using hq
          clear HSK HSW HL1 hm HCK hq
          go_wp2
          go_roundw
          case rel => exact ⟨k + 1, by omega, by go_num, by rw [HS1.out], HB2⟩
          case measure => simp [intOf]; omega
      · rw [decide_eq_false hm] at HCK HL1
        have HS1 := Lib.hid (HSK.out (by rw [HL1.out]; rfl))
        clear HSK HSW HL1 hm HKK
        go_wp2_with fail
        refine Calls.mono (HCK.out _) ?_
        rintro e w1 ⟨rfl, rfl⟩
        go_wp2
        go_roundw
        case rel => exact ⟨k + 1, by omega, by go_num, by rw [HS1.out], HB⟩
        case measure => simp [intOf]; omega
    · obtain rfl : k = l.length := by omega
      go_wp2
      go_ret
      exact ⟨rfl, HB.out⟩

set_option maxRecDepth 100000 in
set_option maxHeartbeats 2000000 in
theorem lostIn_any (A : Option Addr) (l : List Seg) (c : Nat) (t : ByteArray) (w : World) (hw : Segs w w.heap.size A l) (hl : l.length ≤ 1048576) (hlc : l.length ≤ c) (hcm : c ≤ 9223372036854775807) (hn : Short l) (ht : t.size ≤ 1048576) :
    Calls Tryz.prog 9 #[.slice A l.length c, .string t] w fun e w' => e = .returned (.tuple #[.string (lostRes l t), .bool (traceB l t.data.toList).isSome]) ∧ Below w.heap.size w w' := by
  have HW : Hid (Segs w w.heap.size A l) := hw
  have HQ := Lib.hid (implChainsOf_any A l c t w hw hl hlc hcm hn ht)
  unfold lostRes
  unfold ChainsResPost chainsRes at HQ
  cases hR : traceB l t.data.toList with
  | none =>
    rw [hR] at HQ
    clear hw hn hR
    go_enter Tryz.func9, Tryz.ntmps9
    go_wp2_with fail
    refine Calls.mono HQ.out ?_
    rintro e w2 ⟨v, rfl, -, hb⟩
    go_wp2
    go_ret2
    exact ⟨rfl, hb⟩
  | some f =>
    have HV := Lib.hid (traceB_some hR).1
    have h8 := (valid_all (traceB_some hR).1).2.1
    have HNL : Hid ((chainsB [rootB l] f).length = f.size) := chainsB_len f [rootB l]
    have HA : Hid (∀ x ∈ chainsB [rootB l] f, x ≠ [] ∧ x.length ≤ 9 ∧ callP l (lastB x) = true) := fun x hx => by
      obtain ⟨⟨y, u, v, rfl, _, hv⟩, h9⟩ := trace_two hR x hx
      exact ⟨by simp, h9, by rw [(ends_of y u v).1]; exact hv⟩
    have hsz := (traceB_size hR).1
    have HNO := Lib.hid (fun W h => nodesOf_any A l c W h hl hlc hcm hn HV.out)
    rw [hR] at HQ
    have HQ : Hid (Calls Tryz.prog 15 #[.slice A l.length c, .string t] w fun e w' => ∃ v, e = .returned (.tuple #[v, .bool true]) ∧ OwnTexts w' w.heap.size v ((chainsB [rootB l] f).map strOf) ∧ Below w.heap.size w w') := HQ
    clear hw hn hR
    show Calls Tryz.prog 9 #[.slice A l.length c, .string t] w fun e w' => e = .returned (.tuple #[.string (namesAt l (selIx (lostF l (chainsB [rootB l] f)) l.length)), .bool true]) ∧ Below w.heap.size w w'
    generalize chainsB [rootB l] f = xs at *
    have HTS : Hid ((xs.map strOf).length = xs.length) := List.length_map _
    have HC : Hid (∀ k (hk : k < xs.length), (xs.map strOf)[k]? = some (strOf xs[k])) := fun k hk => by rw [List.getElem?_map, List.getElem?_eq_getElem hk]; rfl
    have HZ : Hid (setF (lostF l (xs.take 0)) = 0) := by
      show setF (lostF l []) = 0
      rw [setF_congr (g := fun _ => false) (fun i _ => lostF_nil l i)]
      rfl
    generalize xs.map strOf = ts at *
    have htl : ts.length ≤ 80 := by rw [HTS.out, HNL.out]; exact hsz
    go_enter Tryz.func9, Tryz.ntmps9
    go_wp2_with fail
    refine Calls.mono HQ.out ?_
    rintro e w2 ⟨v, rfl, ho, hb⟩
    obtain ⟨A2, cap2, rfl, -⟩ := St.textsForm ho
    have HB := Lib.hid hb
    have HO := Lib.hid ho
    clear ho hb
    go_wp2_with fail
    refine (HNO.out _ ((HW.out.below HB.out).more HB.out.size)).mono ?_
    rintro e w3 ⟨g, nb, cv, rfl, hN, hb3⟩
    have HN := Lib.hid hN
    have HB3 : Hid (Below w.heap.size w w3) := HB.out.trans (hb3.mono HB.out.size)
    have HO3 : Hid (OwnTexts w3 w.heap.size (.slice A2 ts.length cap2) ts) := HO.out.below hb3
    clear hN hb3 HO HB HQ HNO
    go_wp2
    go_loopw [9, 24] (fun o i wr => ∃ k : Nat, k ≤ ts.length ∧ i = .int .i64 k ∧ o = .int .u64 (setF (lostF l (xs.take k)) : Int) ∧ Hid (Below w3.heap.size w3 wr))
      (fun _ i _ => ts.length - (intOf i).toNat)
    case atStart => exact ⟨0, Nat.zero_le _, rfl, by rw [HZ.out]; rfl, Below.refl _ _⟩
    case round =>
      obtain ⟨k, hk, rfl, rfl, HBr⟩ := hrel
      by_cases hlt : k < ts.length
      · have hkx : k < xs.length := by rw [← HTS.out]; exact hlt
        obtain ⟨hne, hx9, hcl⟩ := HA.out xs[k] (List.getElem_mem hkx)
        obtain ⟨b, o, hA2, hB2, hc⟩ := strsOf HO3.out (by omega)
        subst hA2
        have c0 : wr.cell? ⟨b, o + k, none⟩ = some (.string (strOf xs[k])) := (HBr.out.cell (p := ⟨b, o + k, none⟩) hB2).trans (hc k _ (HC.out k hkx))
        have HLA := Lib.hid (lostAt_any _ _ l nb cv xs[k] wr (HN.out.below HBr.out) HV.out hne hx9 hcl)
        have HSN : Hid (setF (fun j => lostF l (xs.take k) j || (decide (j < l.length) && lostX l xs[k] j)) = setF (lostF l (xs.take (k + 1)))) := setF_congr fun i _ => by
          rw [List.take_succ_eq_append_getElem hkx]
          exact (lostF_snoc l _ _ i).symm
        have HJ := Lib.hid (fun W => joined_any (lostF l (xs.take k)) (fun j => decide (j < l.length) && lostX l xs[k] j) W)
        clear hc hne hx9 hcl
        generalize strOf xs[k] = z at *
        go_wp2_with fail
        refine Calls.mono HLA.out ?_
        rintro e w4 ⟨rfl, hb4⟩
        have HB4 : Hid (Below w3.heap.size w3 w4) := HBr.out.trans (hb4.mono HBr.out.size)
        clear hb4 HLA
        go_wp2_with fail
        refine (HJ.out _).mono ?_
        rw [HSN.out]
        rintro e w5 ⟨rfl, rfl⟩
        go_wp2
        go_roundw
        case rel => exact ⟨k + 1, by omega, by go_num, rfl, HB4⟩
        case measure => simp [intOf]; omega
      · have hkl : k = ts.length := by omega
        have HE : Hid (lostF l (xs.take k) = lostF l xs) := by
          show _ = _
          rw [hkl, HTS.out, List.take_length]
        rw [HE.out]
        have HNM := Lib.hid (setNames_any _ _ l nb cv (lostF l xs) wr (HN.out.below HBr.out) HV.out)
        clear hkl HE
        go_wp2_with fail
        refine Calls.mono HNM.out ?_
        rintro e w4 ⟨rfl, hb4⟩
        have HB4 : Hid (Below w.heap.size w w4) := HB3.out.trans ((HBr.out.trans (hb4.mono HBr.out.size)).mono HB3.out.size)
        clear hb4
        go_wp2
        go_ret2
        exact ⟨rfl, HB4.out⟩

end Go.Proofs.YtbmfbnlmdjnddaaGreat
/- The reference: which pairs are valid, and what is reached. -/
namespace Go.Proofs.YtbmfbnlmdjnddaaGreat
open Go.RowKit

theorem two_bytes {z : ByteArray} (h : z.size = 2) : ∃ u v, z = strOf [u, v] := by
  obtain ⟨⟨l⟩⟩ := z
  match l, h with
  | [u, v], _ => exact ⟨u, v, rfl⟩
theorem two_cut (u v : UInt8) : (strOf [u, v]).size = 2 ∧ (strOf [u, v]).extract 0 1 = ⟨#[u]⟩ ∧ (strOf [u, v]).extract 1 2 = ⟨#[v]⟩ := ⟨rfl, rfl, rfl⟩
theorem txAt_str {ts : List ByteArray} {k : Nat} (h : k < ts.length) {x : Txt} (hx : ts[k] = strOf x) : txAt ts k = x := by
  rw [txAt_of h, hx]
  rfl
theorem str_of (z : ByteArray) : z = strOf z.data.toList := rfl

set_option maxRecDepth 100000 in
set_option maxHeartbeats 4000000 in
theorem specGraph_any (A : Option Addr) (l : List Seg) (c : Nat) (A2 : Option Addr) (ts : List ByteArray) (c2 : Nat) (w : World) (hw : Segs w w.heap.size A l) (ht : St.Strs w w.heap.size A2 ts) (hl : l.length ≤ 1048576) (hn : Short l) (htl : ts.length ≤ 1048576) (hts : ∀ s ∈ ts, s.size ≤ 1048576) :
    Calls Tryz.prog 78 #[.slice A l.length c, .slice A2 ts.length c2] w fun e w' => e = .returned (.bool (graphB l ts)) ∧ Below w.heap.size w w' := by
  have HW : Hid (Segs w w.heap.size A l) := hw
  have HT : Hid (St.Strs w w.heap.size A2 ts) := ht
  have HV := Lib.hid (fun W h => specTreeValid_any A l c W h hl hn)
  have HI := Lib.hid (fun s W h => l1Index_any A l c s W h hl hn)
  have HTS := Lib.hid hts
  have HF : Hid (pairsTo l ts ts.length = false → graphB l ts = false) := fun h => by
    show graphB l ts = false
    unfold graphB
    rw [h, Bool.and_false]
  clear hw ht hn hts
  go_enter Tryz.func78, Tryz.ntmps78
  go_wp2
  go_loopw [9] (fun i wr => ∃ k : Nat, k ≤ ts.length ∧ i = .int .i64 k ∧ Hid (pairsTo l ts k = true) ∧ Hid (Below w.heap.size w wr))
    (fun i _ => ts.length - (intOf i).toNat)
  case atStart => exact ⟨0, Nat.zero_le _, rfl, rfl, Below.refl _ _⟩
  case round =>
    obtain ⟨k, hk, rfl, HP, HB⟩ := hrel
    have hk0 : (0 : Int) ≤ (k : Int) := Int.natCast_nonneg _
    by_cases hlt : k < ts.length
    · have hlt' : (k : Int) < (ts.length : Int) := by omega
      obtain ⟨b, o, rfl, hB, hc⟩ := HT.out (by omega)
      have c0 := hc k ts[k] (List.getElem?_eq_getElem hlt)
      rw [← HB.out.cell (p := ⟨b, o + k, none⟩) hB] at c0
      have hsz := HTS.out ts[k] (List.getElem_mem hlt)
      have HBAD := Lib.hid (fun h => HF.out (pairsTo_bad (l := l) (ts := ts) hlt h))
      have HSU := Lib.hid (pairsTo_succ l ts k)
      by_cases hz : ts[k].size = 2
      · obtain ⟨u, v, hp⟩ := two_bytes hz
        have HX := Lib.hid (txAt_str hlt hp)
        obtain ⟨hz2, hx1, hx2⟩ := two_cut u v
        have HPA : Hid (pairAt l ts k = (callP l u && callP l v && (decide (k = 0) || decide (txAt ts (k - 1) < [u, v])))) := by
          show pairAt l ts k = _
          unfold pairAt
          rw [HX.out]
          rfl
        have HI1 := Lib.hid (fun W h => HI.out ⟨#[u]⟩ W h)
        have HI2 := Lib.hid (fun W h => HI.out ⟨#[v]⟩ W h)
        have hsw := HW.out
        rw [hp] at c0
        generalize hq1 : (⟨#[u]⟩ : ByteArray) = bu at *
        generalize hq2 : (⟨#[v]⟩ : ByteArray) = bv at *
        have HQ1 := Lib.hid hq1
        have HQ2 := Lib.hid hq2
        by_cases hu : callP l u = true
        · have hiu : ¬ indexB l bu < 0 := by
            have := of_decide_eq_true hu
            rw [hq1] at this
            omega
          by_cases hv : callP l v = true
          · have hiv : ¬ indexB l bv < 0 := by
              have := of_decide_eq_true hv
              rw [hq2] at this
              omega
            by_cases hk1 : k = 0
            · have HP1 : Hid (pairsTo l ts (k + 1) = true) := by
                show _ = _
                rw [HSU.out, HP.out, HPA.out, hu, hv, decide_eq_true hk1]
                rfl
              have h5 : ¬ (0 : Int) < (k : Int) := by omega
              clear hp hz HPA HBAD HSU hq1 hq2 hu hv hc hk1
              generalize strOf [u, v] = z at *
              go_wp2_with fail
              refine (HI1.out _ ((HW.out.below HB.out).more HB.out.size)).mono ?_
              rintro e w1 ⟨rfl, hb1⟩
              have HB1 : Hid (Below w.heap.size w w1) := HB.out.trans (hb1.mono HB.out.size)
              clear hb1
              go_wp2_with fail
              refine (HI2.out _ ((HW.out.below HB1.out).more HB1.out.size)).mono ?_
              rintro e w2 ⟨rfl, hb2⟩
              have HB2 : Hid (Below w.heap.size w w2) := HB1.out.trans (hb2.mono HB1.out.size)
              clear hb2
              go_wp2
              go_roundw
              case rel => exact ⟨k + 1, by omega, by go_num, HP1, HB2⟩
              case measure => simp [intOf]; omega
            · have hkp : k - 1 < ts.length := by omega
              have c1 := hc (k - 1) ts[k - 1] (List.getElem?_eq_getElem hkp)
              have h3 : (k : Int) - 1 = ((k - 1 : Nat) : Int) := by omega
              have h4 : ((k - 1 : Nat) : Int) < (ts.length : Int) := by omega
              have h5 : (0 : Int) < (k : Int) := by omega
              have HY := Lib.hid (txAt_of hkp)
              have hless : Op.bytesLess ts[k - 1].toList (strOf [u, v]).toList = decide (txAt ts (k - 1) < [u, v]) := by
                rw [str_of ts[k - 1], txt_less, HY.out]
              have HPA2 : Hid (pairAt l ts k = decide (txAt ts (k - 1) < [u, v])) := by
                show _ = _
                rw [HPA.out, hu, hv, decide_eq_false hk1]
                rfl
              have hsq := HTS.out ts[k - 1] (List.getElem_mem hkp)
              by_cases hlx : txAt ts (k - 1) < [u, v]
              · have HP1 : Hid (pairsTo l ts (k + 1) = true) := by
                  show _ = _
                  rw [HSU.out, HP.out, HPA2.out, decide_eq_true hlx]
                  rfl
                rw [decide_eq_true hlx] at hless
                clear hp hz HPA HPA2 HBAD HSU hq1 hq2 hu hv hc hlx hk1
                generalize strOf [u, v] = z at *
                generalize ts[k - 1] = q at *
                go_wp2_with fail
                refine (HI1.out _ ((HW.out.below HB.out).more HB.out.size)).mono ?_
                rintro e w1 ⟨rfl, hb1⟩
                have HB1 : Hid (Below w.heap.size w w1) := HB.out.trans (hb1.mono HB.out.size)
                clear hb1
                go_wp2_with fail
                refine (HI2.out _ ((HW.out.below HB1.out).more HB1.out.size)).mono ?_
                rintro e w2 ⟨rfl, hb2⟩
                have HB2 : Hid (Below w.heap.size w w2) := HB1.out.trans (hb2.mono HB1.out.size)
                rw [← HB2.out.cell (p := ⟨b, o + (k - 1), none⟩) hB] at c1
                clear hb2
                go_wp2
                go_roundw
                case rel => exact ⟨k + 1, by omega, by go_num, HP1, HB2⟩
                case measure => simp [intOf]; omega
              · have HE := Lib.hid (HBAD.out (by rw [HPA2.out, decide_eq_false hlx]))
                rw [decide_eq_false hlx] at hless
                clear hp hz HPA HPA2 HBAD HSU hq1 hq2 hu hv hc hlx hk1
                generalize strOf [u, v] = z at *
                generalize ts[k - 1] = q at *
                go_wp2_with fail
                refine (HI1.out _ ((HW.out.below HB.out).more HB.out.size)).mono ?_
                rintro e w1 ⟨rfl, hb1⟩
                have HB1 : Hid (Below w.heap.size w w1) := HB.out.trans (hb1.mono HB.out.size)
                clear hb1
                go_wp2_with fail
                refine (HI2.out _ ((HW.out.below HB1.out).more HB1.out.size)).mono ?_
                rintro e w2 ⟨rfl, hb2⟩
                have HB2 : Hid (Below w.heap.size w w2) := HB1.out.trans (hb2.mono HB1.out.size)
                rw [← HB2.out.cell (p := ⟨b, o + (k - 1), none⟩) hB] at c1
                clear hb2
                go_wp2
                go_ret
                exact ⟨ret_bool HE.out.symm, HB2.out⟩
          · have HE := Lib.hid (HBAD.out (by rw [HPA.out, show callP l v = false by simpa using hv]; simp))
            have hiv : indexB l bv < 0 := by
              have h6 : ¬ 0 ≤ indexB l ⟨#[v]⟩ := fun h => hv (decide_eq_true h)
              rw [hq2] at h6
              omega
            clear hp hz HPA HBAD HSU hq1 hq2 hu hv hc
            generalize strOf [u, v] = z at *
            go_wp2_with fail
            refine (HI1.out _ ((HW.out.below HB.out).more HB.out.size)).mono ?_
            rintro e w1 ⟨rfl, hb1⟩
            have HB1 : Hid (Below w.heap.size w w1) := HB.out.trans (hb1.mono HB.out.size)
            clear hb1
            go_wp2_with fail
            refine (HI2.out _ ((HW.out.below HB1.out).more HB1.out.size)).mono ?_
            rintro e w2 ⟨rfl, hb2⟩
            have HB2 : Hid (Below w.heap.size w w2) := HB1.out.trans (hb2.mono HB1.out.size)
            clear hb2
            go_wp2
            go_ret
            exact ⟨ret_bool HE.out.symm, HB2.out⟩
        · have HE := Lib.hid (HBAD.out (by rw [HPA.out, show callP l u = false by simpa using hu]; simp))
          have hiu : indexB l bu < 0 := by
            have h6 : ¬ 0 ≤ indexB l ⟨#[u]⟩ := fun h => hu (decide_eq_true h)
            rw [hq1] at h6
            omega
          clear hp hz HPA HBAD HSU hq1 hq2 hu hc
          generalize strOf [u, v] = z at *
          go_wp2_with fail
          refine (HI1.out _ ((HW.out.below HB.out).more HB.out.size)).mono ?_
          rintro e w1 ⟨rfl, hb1⟩
          have HB1 : Hid (Below w.heap.size w w1) := HB.out.trans (hb1.mono HB.out.size)
          clear hb1
          go_wp2
          go_ret
          exact ⟨ret_bool HE.out.symm, HB1.out⟩
      · have HE := Lib.hid (HBAD.out (by
          unfold pairAt
          rw [pairOk_len (by rw [txAt_of hlt]; simpa using hz)]
          rfl))
        have hzz : ((ts[k].size : Int) != 2) = true := by rw [bne_iff_ne]; omega
        clear hc HBAD hz
        generalize ts[k] = z at *
        go_wp2
        go_ret
        exact ⟨ret_bool HE.out.symm, HB.out⟩
    · obtain rfl : k = ts.length := by omega
      have HG : Hid (graphB l ts = (validB l && decide (ts.length ≤ 20))) := by
        show graphB l ts = _
        unfold graphB
        rw [HP.out, Bool.and_true]
      cases hv : validB l with
      | false =>
        rw [hv] at HG
        go_wp2_with fail
        refine (HV.out _ ((HW.out.below HB.out).more HB.out.size)).mono ?_
        rw [hv]
        rintro e w1 ⟨rfl, hb1⟩
        have HB1 : Hid (Below w.heap.size w w1) := HB.out.trans (hb1.mono HB.out.size)
        go_wp2
        go_ret
        exact ⟨ret_bool HG.out.symm, HB1.out⟩
      | true =>
        rw [hv] at HG
        go_wp2_with fail
        refine (HV.out _ ((HW.out.below HB.out).more HB.out.size)).mono ?_
        rw [hv]
        rintro e w1 ⟨rfl, hb1⟩
        have HB1 : Hid (Below w.heap.size w w1) := HB.out.trans (hb1.mono HB.out.size)
        go_wp2
        go_ret
        exact ⟨ret_bool (by rw [HG.out, Bool.true_and]; exact decide_eq_decide.2 (by omega)), HB1.out⟩

end Go.Proofs.YtbmfbnlmdjnddaaGreat
