/- Joined: Jl Jo. -/
import Derived.Test.YtbmfbnlmdjnddaaGreatU26
/- The program's ways, walked. -/
namespace Go.Proofs.YtbmfbnlmdjnddaaGreat
open Go.RowKit Go.Shelf
attribute [local go_sem] Oper.semAt_some

theorem own_keepA {X Y : World} {B D : Nat} {v : Value} {ts : List ByteArray} (h : OwnTexts X B v ts) (hk : KeepsA D X Y) (hD : D ≤ B) : OwnTexts Y B v ts := h.far fun g hg => by
  have h1 := World.ownsRow.lt h g hg
  have e : X.heap[g]? = some (X.heap[g]'h1.2) := Array.getElem?_eq_getElem h1.2
  rw [e]
  exact hk.same g _ (by omega) e
theorem singles_mem (c : UInt8) (L : List UInt8) : decide (([c] : Txt) ∈ L.map fun c => [c]) = decide (c ∈ L) := by
  rw [decide_eq_decide]
  simp

set_option maxRecDepth 100000 in
set_option maxHeartbeats 8000000 in
theorem ways1_seq (n₀ D B N b : Nat) (fix : Txt → Txt) (l : List Seg) (ps : List Txt) (u : UInt8) (Nn n Bs Bg : Nat) (w : World) (hG : IsGraph l ps) (hgr : GraphAt w B N b ps) (hN : N ≤ n₀) (hn₀ : n₀ ≤ w.heap.size)
    (hbs : BoxA w n₀ D Bs (.string ⟨#[u]⟩) 9) (hbg : BoxA w n₀ D Bg (.map (some b)) 95) (hfx : ∀ x ∈ outsB ps u, fix x = x) (hNn : 20 ≤ Nn) (hn : 3 ≤ n) :
    SeqM n 186 #[.pointer (some ⟨Bs, 0, none⟩), .pointer (some ⟨Bg, 0, none⟩)] (fun x => #[.string (strOf (fix x))]) n₀ D (fun ys => ys = outsB ps u) (fun ys => ys <+: outsB ps u) Nn w := by
  intro l' J Jx W hbW hDW hJ hJx hY h0
  have hn₀W : n₀ ≤ W.heap.size := Nat.le_trans hn₀ hbW.size
  have hsW := hbW.size
  have hbs1 : Row W Bs 9 #[.string ⟨#[u]⟩] := (hbW.block _ hbs.2.lt).trans hbs.2
  have hbg1 : Row W Bg 95 #[.map (some b)] := (hbW.block _ hbg.2.lt).trans hbg.2
  have hst := WRest.start (Bs := Bs) (Bg := Bg) l' ⟨hbs.1, hbs1⟩ ⟨hbg.1, hbg1⟩ (hgr.below (hbW.mono (by omega))) hN hn₀W hDW
  have hmk : (Instr.makeMap 99 none).run Tryz.prog (W.alloc (.cells #[.func (.yield l') #[] #[]] 104)) = .ok (.map (some (W.heap.size + 1))) ((W.alloc (.cells #[.func (.yield l') #[] #[]] 104)).alloc (.map #[] 0)) := by
    rw [← World.size_alloc W (.cells #[.func (.yield l') #[] #[]] 104)]
    rfl
  have cS : (((W.alloc (.cells #[.func (.yield l') #[] #[]] 104)).alloc (.map #[] 0)).alloc (.cells #[.map (some (W.heap.size + 1))] 99)).cell? ⟨Bs, 0, none⟩ = some (.string ⟨#[u]⟩) := (((hbs1.alloc _).alloc _).alloc _).cell 0
  have hlowW : Below W.heap.size W ((((((W.alloc (.cells #[.func (.yield l') #[] #[]] 104)).alloc (.map #[] 0)).alloc (.cells #[.map (some (W.heap.size + 1))] 99)).alloc (.cells #[.string ⟨#[u]⟩] 9)).alloc (.cells #[.slice (some ⟨W.heap.size + 3, 0, none⟩) 1 1] 29)).alloc (.cells #[.pointer (some ⟨W.heap.size + 4, 0, none⟩)] 223)) :=
    ((((((Below.refl _ W).alloc (Nat.le_refl _) _).alloc (by simp) _).alloc (by simp; omega) _).alloc (by simp; omega) _).alloc (by simp; omega) _).alloc (by simp; omega) _
  have hsz5 : ((((((W.alloc (.cells #[.func (.yield l') #[] #[]] 104)).alloc (.map #[] 0)).alloc (.cells #[.map (some (W.heap.size + 1))] 99)).alloc (.cells #[.string ⟨#[u]⟩] 9)).alloc (.cells #[.slice (some ⟨W.heap.size + 3, 0, none⟩) 1 1] 29)).alloc (.cells #[.pointer (some ⟨W.heap.size + 4, 0, none⟩)] 223)).heap.size = W.heap.size + 6 := by simp
  have HY : Hid (∀ pre x W1, J pre W1 → pre.length < Nn → W.heap.size ≤ W1.heap.size → YieldAt Fence.wide (n - 1) Tryz.prog l' #[.string (strOf (fix x))] W1 fun e W' => ∃ b, e = .returned (.bool b) ∧ YM J Jx n₀ D W.heap.size (pre ++ [x]) W1 W' b) := fun pre x W1 h1 h2 h3 => yieldYM (hY pre x W1 h1 h2 h3)
  have HJ : Hid (LowFrom W.heap.size J) := hJ
  have HJX : Hid (LowFrom W.heap.size Jx) := hJx
  have HFX := Lib.hid hfx
  have HGI := Lib.hid hG
  have hpl := hG.len
  have HQL : Hid (∀ k, (qAt ps u k).length ≤ 21) := fun k => by have := (qAt_ok ps u k).len; omega
  have hmx : Tryz.prog.follows .mixedOrders = true := by kernel_rfl
  have HST := Lib.hid hst
  have HLW := Lib.hid hlowW
  have HSZ := Lib.hid hsz5
  have HJ0 : Hid (J [] W) := h0
  clear hY hJ hJx hfx hG hst hlowW hbs hbg hgr hbs1 hbg1 h0 hbW
  refine callsIn_of_wp_marks Tryz.func186 rfl trivial ?_ rfl
  simp only [Tryz.ntmps186, List.size_toArray, List.length_cons, List.length_nil, Nat.reduceAdd, Nat.reduceSub, Array.replicate_succ, Array.replicate_zero, List.push_toArray, List.append_toArray, List.nil_append, List.cons_append]
  gi_wp2_with fail
  refine ⟨trivial, fun h => by simp [Fence.wide] at h, ?_⟩
  refine (callsIn_wide.2 (inTurn_any _ _)).mono ?_
  rintro e w5 ⟨rfl, rfl⟩
  gi_wp2
  simp only [Nat.add_assoc, Nat.reduceAdd]
  clear cS hmk hsz5
  generalize ((((((W.alloc (.cells #[.func (.yield l') #[] #[]] 104)).alloc (.map #[] 0)).alloc (.cells #[.map (some (W.heap.size + 1))] 99)).alloc (.cells #[.string ⟨#[u]⟩] 9)).alloc (.cells #[.slice (some ⟨W.heap.size + 3, 0, none⟩) 1 1] 29)).alloc (.cells #[.pointer (some ⟨W.heap.size + 4, 0, none⟩)] 223)) = W5 at *
  have hz5 : W5.heap.size = W.heap.size + 6 := HSZ.out
  refine wpIn_rangeFunc_T (by omega) (bx := W.heap.size + 5) rfl rfl (qAt ps u) (fun k => (qAt_pre ps u k).length_le)
    (fun k X => J (outQ (qAt ps u k)) X ∧ ∃ v, WRest W n₀ D B N b ps u Bs Bg l' (qAt ps u k) v X)
    (fun c _ X => c = .ret ∧ W.heap.size ≤ X.heap.size ∧ ∃ pre, pre <+: outsB ps u ∧ Jx pre X)
    (fun s X Y row hs hg hr => by
      obtain ⟨hj, v, hR⟩ := hs
      refine ⟨HJ.out _ _ _ hj ((Below.refl _ X).grown hg (by have := hR.size; omega) (fun k e => by have := (hr k e).1; omega)), v, hR.grown hg (fun r e => ⟨by have := (hr r e).1; omega, (hr r e).2⟩)⟩)
    (fun c s X Y row hs hg hr => ⟨hs.1, Nat.le_trans hs.2.1 hg.size, by
      obtain ⟨pre, hp, hx⟩ := hs.2.2
      exact ⟨pre, hp, HJX.out _ _ _ hx ((Below.refl _ X).grown hg hs.2.1 (fun k e => by have := (hr k e).1; omega))⟩⟩)
    ⟨HJ.out _ _ _ HJ0.out HLW.out, _, HST.out⟩
    (fun k X hI => by
      obtain ⟨_, v, hR⟩ := hI
      obtain ⟨A, cap, e, hS⟩ := St.textsForm hR.texts
      rw [List.length_map] at e
      exact ⟨W.heap.size + 4, A, cap, hR.boxT.cell 0, by rw [← e]; exact hR.boxQ.cell 0, hS, by have := HQL.out k; omega⟩)
    (fun x => { tmps := #[.func (.yield l') #[] #[], .pointer (some ⟨Bs, 0, none⟩), .pointer (some ⟨Bg, 0, none⟩), .pointer (some ⟨W.heap.size, 0, none⟩), .pointer (some ⟨W.heap.size + 2, 0, none⟩), .pointer (some ⟨W.heap.size + 4, 0, none⟩), .string (strOf x), undef, undef, .map (some (W.heap.size + 1)), .string ⟨#[u]⟩, .slice (some ⟨W.heap.size + 3, 0, none⟩) 1 1, .func (.func 203) #[] #[.pointer (some ⟨W.heap.size + 5, 0, none⟩)], .string (strOf x), undef, undef, undef, undef, undef, undef, undef, undef, undef, undef, undef, undef, undef, undef, undef, undef, undef, undef, undef, undef, undef, undef, undef, undef, undef, undef, undef, undef, undef, undef, undef, undef, undef, undef], defers := [] }) ?assign ?body ?done ?stop
  case assign =>
    intro l2 x X K hK
    gi_wp2
    exact hK
  case body =>
    rintro l2 k x X ⟨hj, v0, hR⟩ hx hz
    obtain ⟨r, hxr⟩ := qAt_head ps u k x (List.mem_of_getElem? hx)
    have hxl := qAt_long ps u k x (List.mem_of_getElem? hx)
    have hkl : k < (qAt ps u k).length := (List.getElem?_eq_some_iff.1 hx).1
    have hk21 := HQL.out k
    have HSUC := Lib.hid (qAt_succ hx)
    have hzX := hR.size
    have hx1 : 1 ≤ x.length := by rw [hxr]; simp
    have hne : x ≠ [] := by rw [hxr]; simp
    obtain ⟨gv, hlk, hSV⟩ := (hR.graph.drew).look (lastB x)
    have HLEN : Hid (((calleds ps (lastB x)).map fun v => ([v] : Txt)).length ≤ 20) := by
      show _ ≤ _
      unfold calleds
      rw [List.length_map, List.length_map]
      exact Nat.le_trans (List.length_filter_le _ _) hpl
    have hSRT := sorted_any B N gv _ X.drew hSV (Nat.le_trans HLEN.out (by decide))
    rw [putAll_asc (calleds_asc HGI.out (lastB x))] at hSRT
    have HSRT := Lib.hid hSRT
    have HTSL : Hid ((((calleds ps (lastB x)).map fun v => ([v] : Txt)).map strOf).length = (calleds ps (lastB x)).length) := by show _ = _; rw [List.length_map, List.length_map]
    have HTSA : Hid (∀ j (hj : j < (calleds ps (lastB x)).length), (((calleds ps (lastB x)).map fun v => ([v] : Txt)).map strOf)[j]? = some ⟨#[(calleds ps (lastB x))[j]]⟩) := fun j hj => by
      rw [List.getElem?_map, List.getElem?_map, List.getElem?_eq_getElem hj]
      rfl
    have hnb20 : (calleds ps (lastB x)).length ≤ 20 := by have := HLEN.out; rwa [List.length_map] at this
    clear HLEN
    generalize ((calleds ps (lastB x)).map fun v => ([v] : Txt)).map strOf = ts at *
    have cG : X.cell? ⟨Bg, 0, none⟩ = some (.map (some b)) := hR.boxG.cell
    have hzs : (strOf x).size = x.length := str_size _
    have HXL := Lib.hid (strOf_last hne)
    have HXT : Hid ((strOf x).extract 1 (strOf x).size = strOf x.tail) := by
      show _ = _
      rw [hxr]
      exact (strOf_cons u r).2
    have HXC := Lib.hid (fun c => bytes_cat x [c])
    have HXTC := Lib.hid (fun c => bytes_cat x.tail [c])
    obtain ⟨p2, hp2⟩ : ∃ p2 : Nat, p2 = (strOf x).size - 1 := ⟨_, rfl⟩
    have hz22 : (strOf x).size ≤ 22 := by omega
    have hz1 : 1 ≤ (strOf x).size := by omega
    have hw4 : IntKind.i64.wrap (((strOf x).size : Int) - 1) = (p2 : Int) := (IntWalk.i64_in _ (by omega)).trans (by omega)
    have hpz : (p2 : Int) ≤ ((strOf x).size : Int) := by omega
    have hxe : (strOf x).extract p2 (strOf x).size = ⟨#[lastB x]⟩ := by rw [hp2]; exact HXL.out
    have HR := Lib.hid hR
    have HJX0 := Lib.hid hj
    have HXN := Lib.hid hne
    have HXT1 : Hid (x.tail.length + 1 = x.length) := by show _ = _; rw [hxr]; rfl
    have HZS := Lib.hid hzs
    have HXE := Lib.hid hxl
    clear hzs hxl
    generalize hnb : calleds ps (lastB x) = nb at *
    generalize hat : (⟨#[lastB x]⟩ : ByteArray) = bat at *
    have HNB := Lib.hid hnb
    clear hnb hat hR hj hSRT hSV hxr hx1 hne hp2 HXL
    generalize hzx : strOf x = z at *
    have HZX := Lib.hid hzx
    clear hzx
    gi_wp2_with fail
    refine wpIn_region_any (by assumption) ?_
    refine any_round rfl l2 (by kernel_rfl) _ _ _ _ ?_
    change wpAnyIn _ _ _ _ _ _ _ _ _ X.drew
    refine wpAnyIn_take (i := 9) (v := .int .i64 0) rfl rfl (by kernel_rfl) (by kernel_rfl) (by kernel_rfl) (fun _ _ _ h => h) ⟨Or.inl ⟨by rfl, by intro w; go_simp⟩, fun _ => rfl⟩ ?_
    refine wpAnyIn_take (i := 1) (v := .string z) rfl rfl (by kernel_rfl) (by kernel_rfl) (by kernel_rfl) (fun _ _ _ h => h) ⟨Or.inl ⟨by rfl, by intro w; go_simp⟩, fun _ => rfl⟩ ?_
    refine wpAnyIn_take (i := 2) (v := .string z) rfl rfl (by kernel_rfl) (by kernel_rfl) (by kernel_rfl) (fun _ _ _ h => h) ⟨Or.inl ⟨by rfl, by intro w; go_simp⟩, fun _ => rfl⟩ ?_
    refine wpAnyIn_take (i := 3) (v := .int .i64 z.size) rfl rfl (by kernel_rfl) (by kernel_rfl) (by kernel_rfl) (fun _ _ _ h => h) ⟨Or.inl ⟨by rfl, by intro w; go_simp⟩, fun _ => rfl⟩ ?_
    refine wpAnyIn_take (i := 4) (v := .int .i64 p2) rfl rfl (by kernel_rfl) (by kernel_rfl) (by kernel_rfl) (fun _ _ _ h => h) ⟨Or.inl ⟨by rfl, by intro w; go_simp⟩, fun _ => rfl⟩ ?_
    refine wpAnyIn_take (i := 5) (v := .string bat) rfl rfl (by kernel_rfl) (by kernel_rfl) (by kernel_rfl) (fun _ _ _ h => h) ⟨Or.inl ⟨by rfl, by intro w; go_simp⟩, fun _ => rfl⟩ ?_
    refine wpAnyIn_ready (rs := [0]) (by kernel_rfl) (by simp) ?_
    refine AllReadyIn.cons rfl (fun K hK => ?_) AllReadyIn.nil
    go_simp
    refine hK _ _ ?_
    clear hK K
    refine wpAnyIn_ready (rs := [6]) (by kernel_rfl) (by simp) ?_
    refine AllReadyIn.cons rfl (fun K hK => ?_) AllReadyIn.nil
    go_simp
    refine hK _ _ ?_
    clear hK K
    refine wpAnyIn_ready (rs := [7]) (by kernel_rfl) (by simp) ?_
    refine AllReadyIn.cons rfl (fun K hK => ?_) AllReadyIn.nil
    go_simp
    refine ⟨trivial, (fun h => by simp [Fence.wide] at h), ?_⟩
    refine (callsIn_wide.2 HSRT.out).mono ?_
    rintro e X2 ⟨nv, rfl, hnv, hb2⟩
    obtain ⟨An, capn, rfl, -⟩ := St.textsForm hnv
    show K _ X2
    refine hK _ _ ?_
    clear hK K
    refine wpAnyIn_ready (rs := [8]) (by kernel_rfl) (by simp) ?_
    refine AllReadyIn.cons rfl (fun K hK => ?_) AllReadyIn.nil
    go_simp
    refine hK _ _ ?_
    clear hK K
    refine wpAnyIn_done (by kernel_rfl) ?_ _
    have HB2 : Hid (Below X.heap.size X X2) := ((Below.refl _ X).drew).trans hb2
    have HR2 : Hid (WRest W n₀ D B N b ps u Bs Bg l' (qAt ps u k) v0 X2) := HR.out.later HB2.out
    have HJ2 : Hid (J (outQ (qAt ps u k)) X2) := HJ.out _ _ _ HJX0.out (HB2.out.mono (by omega))
    have HNV : Hid (OwnTexts X2 X.heap.size (.slice An ts.length capn) ts) := hnv
    have HNE : Hid (∀ g, (Value.slice An ts.length capn).ownBlock = some g → v0.ownBlock ≠ some g) := fun g h1 h2 => by
      have h3 := (World.ownsRow.lt HNV.out g h1).1
      have h4 := (HR.out.own.lt g h2).2
      omega
    have HK2 : Hid (KeepsN W5.heap.size X X2) := ⟨HB2.out.size, fun q o _ ho _ => (HB2.out.block q (Array.getElem?_eq_some_iff.1 ho).1).trans ho⟩
    have hzX2 := HB2.out.size
    clear hb2 hnv HSRT hlk cG HR HJX0 HB2
    have htsl : ts.length ≤ 20 := by rw [HTSL.out]; exact hnb20
    gi_wp2
    gi_loopw [23] (fun i wr => ∃ (j : Nat) (v : Value), j ≤ ts.length ∧ i = .int .i64 j ∧ Hid (J (outQ (stepQ x (nb.take j) (qAt ps u k))) wr) ∧ Hid (WRest W n₀ D B N b ps u Bs Bg l' (stepQ x (nb.take j) (qAt ps u k)) v wr) ∧ Hid (OwnTexts wr X.heap.size (.slice An ts.length capn) ts) ∧ Hid (∀ g, (Value.slice An ts.length capn).ownBlock = some g → v.ownBlock ≠ some g) ∧ Hid (KeepsN W5.heap.size X wr) ∧ X2.heap.size ≤ wr.heap.size)
      (fun i _ => ts.length - (intOf i).toNat)
    case atStart => exact ⟨0, v0, Nat.zero_le _, rfl, HJ2, HR2, HNV, HNE, HK2, Nat.le_refl _⟩
    case round =>
      obtain ⟨j, v, hj, rfl, HJr, HRr, HNr, HEr, HKr, hzr⟩ := hrel
      clear HJ2 HR2 HNV HNE HK2
      have hj0 : (0 : Int) ≤ (j : Int) := Int.natCast_nonneg _
      have hzW := HRr.out.size
      by_cases hlt : j < ts.length
      · have hlt' : (j : Int) < (ts.length : Int) := by omega
        have hjn : j < nb.length := by rw [← HTSL.out]; exact hlt
        obtain ⟨bn, on, rfl, hBn, hcn⟩ := strsOf HNr.out (by omega)
        have c0 := hcn j _ (HTSA.out j hjn)
        clear hcn
        have cR : wr.cell? ⟨W.heap.size + 2, 0, none⟩ = some (.map (some (W.heap.size + 1))) := HRr.out.boxR.cell 0
        have HTK : Hid (nb.take (j + 1) = nb.take j ++ [nb[j]]) := List.take_succ_eq_append_getElem hjn
        have HNXT : Hid (stepQ x (nb.take (j + 1)) (qAt ps u k) = if nb[j] ∈ lasts (stepQ x (nb.take j) (qAt ps u k)) then stepQ x (nb.take j) (qAt ps u k) else stepQ x (nb.take j) (qAt ps u k) ++ [x ++ [nb[j]]]) := by
          show _ = _
          rw [HTK.out, stepQ_app, stepQ_one]
        have HPRE : Hid (stepQ x (nb.take (j + 1)) (qAt ps u k) <+: waysB ps u) := by
          show _ <+: _
          have h1 : stepQ x (nb.take (j + 1)) (qAt ps u k) <+: qAt ps u (k + 1) := by
            rw [HSUC.out]
            conv => rhs; rw [← List.take_append_drop (j + 1) nb, stepQ_app]
            exact stepQ_pre x _ _
          exact h1.trans (qAt_ways (by omega))
        have HQN : Hid (stepQ x (nb.take j) (qAt ps u k) ≠ []) := by
          show _ ≠ _
          intro h
          have h1 := (stepQ_pre x (nb.take j) (qAt ps u k)).length_le
          rw [h, List.length_nil] at h1
          omega
        have hset := HRr.out.set.look (X := wr) [nb[j]] (by rw [str_size]; exact (by decide : 1 ≤ 1000))
        rw [singles_mem] at hset
        have hset' : (Instr.lookup 99 (.map (some (W.heap.size + 1))) (.string ⟨#[nb[j]]⟩) false).run Tryz.prog wr = .ok (.bool (decide (nb[j] ∈ lasts (stepQ x (nb.take j) (qAt ps u k))))) wr := hset
        clear hset
        generalize hce : nb[j] = c at *
        generalize hQj : stepQ x (nb.take j) (qAt ps u k) = Q at *
        by_cases hm : c ∈ lasts Q
        · rw [decide_eq_true hm] at hset'
          rw [if_pos hm] at HNXT
          clear hm hce hQj HPRE HQN
          generalize (⟨#[c]⟩ : ByteArray) = bc at *
          gi_wp2
          go_roundw
          case rel =>
            refine ⟨j + 1, v, by omega, by go_num, ?_, ?_, HNr, HEr, HKr, hzr⟩
            · rw [HNXT.out]; exact HJr
            · rw [HNXT.out]; exact HRr
          case measure => simp [intOf]; omega
        · rw [decide_eq_false hm] at hset'
          rw [if_neg hm] at HNXT
          have hQl : Q.length ≤ 20 := by
            have h1 := HPRE.out.length_le
            rw [HNXT.out, List.length_append, List.length_singleton] at h1
            have h2 := waysB_len (u := u) hpl
            omega
          have hQp : 0 < Q.length := List.length_pos_iff.2 HQN.out
          have HXP : Hid (outQ (Q ++ [x ++ [c]]) = outQ Q ++ [x.tail ++ [c]]) := outQ_snoc HQN.out HXN.out c
          have HOP : Hid (outQ Q ++ [x.tail ++ [c]] <+: outsB ps u) := by
            show _ <+: _
            rw [← HXP.out, ← HNXT.out]
            exact outQ_pre HPRE.out (by rw [HNXT.out]; simp)
          have HFX1 : Hid (fix (x.tail ++ [c]) = x.tail ++ [c]) := HFX.out _ (HOP.out.subset (by simp))
          have HYK : Hid (∀ W2, J (outQ Q) W2 → W.heap.size ≤ W2.heap.size → YieldAt Fence.wide (n - 1 - 1 - 1) Tryz.prog l' #[.string (strOf (x.tail ++ [c]))] W2 fun e W' => ∃ b, e = .returned (.bool b) ∧ YM J Jx n₀ D W.heap.size (outQ (Q ++ [x ++ [c]])) W2 W' b) := fun W2 h1 h2 => by
            have h3 := HY.out (outQ Q) (x.tail ++ [c]) W2 h1 (by rw [outQ_len]; omega) h2
            rw [HFX1.out, ← HXP.out] at h3
            exact yield_any _ h3
          obtain ⟨w1, hrun, hs1, hg1⟩ := HRr.out.set.step (by rw [List.length_map, lasts_len]; omega) [c] (by rw [str_size]; exact (by decide : 1 ≤ 1000))
          have hrun' : (Instr.mapUpdate 99 (.map (some (W.heap.size + 1))) (.string ⟨#[c]⟩) (.bool true)).run Tryz.prog wr = .ok () w1 := hrun
          have HS1 := Lib.hid hs1
          have HG1 := Lib.hid hg1
          have hz1w := hg1.size
          have hgrow := fun q (hq : q < wr.heap.size) (hne : q ≠ W.heap.size + 1) => hg1.block q hq (fun e => hne (by injection e))
          have hrQ1 : Row w1 (W.heap.size + 4) 29 #[v] := (hgrow _ (by omega) (by omega)).trans HRr.out.boxQ
          have cQ1 : w1.cell? ⟨W.heap.size + 4, 0, none⟩ = some v := hrQ1.cell 0
          have hown1 : w1.ownsRow (W.heap.size + 3) 9 1 v Q.length (Q.map txtV) := own_keep HRr.out.own fun g hg => by
            have h1 := HRr.out.own.lt g hg
            exact hgrow g h1.2 (by omega)
          have HO1 := Lib.hid hown1
          have HRQ1 := Lib.hid hrQ1
          have HCC : Hid (z ++ ⟨#[c]⟩ = strOf (x ++ [c])) := by
            show _ = _
            rw [← HZX.out]
            exact HXC.out c
          have HTC : Hid (strOf x.tail ++ ⟨#[c]⟩ = strOf (x.tail ++ [c])) := HXTC.out c
          have hbs : (⟨#[c]⟩ : ByteArray).size = 1 := rfl
          clear hrun hs1 hg1 hgrow hrQ1 hown1 hm hce hQj
          generalize hbc : (⟨#[c]⟩ : ByteArray) = bc at *
          have HBC := Lib.hid hbc
          clear hbc
          gi_wp2_with (gi_at_builtin; refine wpListIn_append_turn rfl _ _ rfl (W.heap.size + 3) _ _ _ rfl (own_grownT HO1.out (World.grownBy_alloc w1 _ none) (fun r e => by cases e)) hQp ⟨w1.heap.size, 0, none⟩ (.string (z ++ bc)) rfl (cell_one_new _ _ _) (by simp [Value.oneCell']) (by omega) (by simp; omega) ?_; intro g cap w3 hown3 hgrow3 hst3 hat3; have hrow3 : Row w3 (W.heap.size + 4) 29 #[v] := (hgrow3.block _ (HRQ1.out.alloc _).lt (fun he => own_ne HO1.out HRQ1.out (by decide) he.symm)).trans (HRQ1.out.alloc _); have d1 : w3.cell? ⟨W.heap.size + 4, 0, none⟩ = some v := hrow3.cell 0; have z1 : w3.frozen? ⟨W.heap.size + 4, 0, none⟩ = false := hrow3.free 0; have HO3 := Lib.hid hown3; have HG3 := Lib.hid hgrow3; have HST3 := Lib.hid hst3; have HAT3 := Lib.hid hat3; clear hown3 hgrow3 hst3 hat3 hrow3)
          have hO3' : w3.ownsRow (W.heap.size + 3) 9 1 (.slice (some ⟨g, 0, none⟩) (Q.length + 1) cap) (Q.length + 1) (Q.map txtV ++ [txtV (x ++ [c])]) := by
            have h1 := HO3.out
            rw [HCC.out] at h1
            exact h1
          obtain ⟨hr4, hb4⟩ := WRest.step HRr.out HQN.out HS1.out HG1.out hO3' HG3.out
          have hgB : ∀ gg, (Value.slice (some ⟨bn, on, none⟩) ts.length capn).ownBlock = some gg → X.heap.size ≤ gg ∧ gg < wr.heap.size := fun gg h => World.ownsRow.lt HNr.out gg h
          have HN4 : Hid (OwnTexts (w3.setCell ⟨W.heap.size + 4, 0, none⟩ (.slice (some ⟨g, 0, none⟩) (Q.length + 1) cap)) X.heap.size (.slice (some ⟨bn, on, none⟩) ts.length capn) ts) := HNr.out.far fun gg hgg => by
            have h1 := hgB gg hgg
            refine (Below.heap_setCell w3 _ _ gg (by show gg ≠ W.heap.size + 4; omega)).trans ((HG3.out.block gg (by rw [World.size_alloc]; omega) (fun e => HEr.out gg hgg e.symm)).trans ((Below.heap_alloc w1 _ gg (by omega)).trans (HG1.out.block gg h1.2 (fun e => by injection e with e; omega))))
          have HE4 : Hid (∀ gg, (Value.slice (some ⟨bn, on, none⟩) ts.length capn).ownBlock = some gg → (Value.slice (some ⟨g, 0, none⟩) (Q.length + 1) cap).ownBlock ≠ some gg) := fun gg hgg he => by
            have h1 := hgB gg hgg
            have h2 : g = gg := by simpa [Value.ownBlock] using he
            subst h2
            rcases HAT3.out with h3 | h3
            · exact HEr.out _ hgg h3
            · rw [World.size_alloc] at h3; omega
          have hz34 : (w3.setCell ⟨W.heap.size + 4, 0, none⟩ (.slice (some ⟨g, 0, none⟩) (Q.length + 1) cap)).heap.size = w3.heap.size := by simp [World.setCell]
          have hz13 : w1.heap.size + 1 ≤ w3.heap.size := by
            have h1 := HG3.out.size
            rwa [World.size_alloc] at h1
          have HK4 : Hid (KeepsN W5.heap.size X (w3.setCell ⟨W.heap.size + 4, 0, none⟩ (.slice (some ⟨g, 0, none⟩) (Q.length + 1) cap))) := by
            refine HKr.out.trans ⟨by omega, fun q o hq ho hf => ?_⟩
            have hql := (Array.getElem?_eq_some_iff.1 ho).1
            refine (Below.heap_setCell w3 _ _ q (by show q ≠ W.heap.size + 4; omega)).trans (HST3.out q o ?_ hf)
            exact (Below.heap_alloc w1 _ q (by omega)).trans ((HG1.out.block q hql (fun e => by injection e with e; omega)).trans ho)
          have HJ4 : Hid (J (outQ Q) (w3.setCell ⟨W.heap.size + 4, 0, none⟩ (.slice (some ⟨g, 0, none⟩) (Q.length + 1) cap)).drew) := HJ.out _ _ _ HJr.out hb4.drew
          have hz4 : X2.heap.size ≤ (w3.setCell ⟨W.heap.size + 4, 0, none⟩ (.slice (some ⟨g, 0, none⟩) (Q.length + 1) cap)).heap.size := Nat.le_trans hzr hb4.size
          have HR4 : Hid (WRest W n₀ D B N b ps u Bs Bg l' (stepQ x (nb.take (j + 1)) (qAt ps u k)) (.slice (some ⟨g, 0, none⟩) (Q.length + 1) cap) (w3.setCell ⟨W.heap.size + 4, 0, none⟩ (.slice (some ⟨g, 0, none⟩) (Q.length + 1) cap))) := by
            show WRest _ _ _ _ _ _ _ _ _ _ _ _ _ _
            rw [HNXT.out]
            exact hr4
          have HPO0 : Hid (outQ (stepQ x (nb.take (j + 1)) (qAt ps u k)) <+: outsB ps u) := outQ_pre HPRE.out (by rw [HNXT.out]; simp)
          rw [← HNXT.out, ← HTC.out] at HYK
          have hzt : (strOf x.tail).size ≤ 22 := by rw [str_size]; have := HXT1.out; have := HXE.out; omega
          clear hz34 hz13 hO3' hr4 hb4 hgB HO3 HG3 HST3 HAT3 HO1 HRQ1 HS1 HG1 d1 z1 cQ1 hrun' HRr HJr HNr HEr HKr HTC HCC hset' c0 cR HFX1 HOP HXP HNXT HPRE HQN
          generalize (Value.slice (some ⟨g, 0, none⟩) (Q.length + 1) cap) = v4 at *
          generalize w3.setCell ⟨W.heap.size + 4, 0, none⟩ v4 = W4 at *
          have cY4 : W4.cell? ⟨W.heap.size, 0, none⟩ = some (.func (.yield l') #[] #[]) := HR4.out.boxY.cell 0
          have cS4 : W4.cell? ⟨Bs, 0, none⟩ = some (.string ⟨#[u]⟩) := HR4.out.boxS.cell
          obtain ⟨fn, tmps, assign, body, hy, hRD⟩ := HYK.out W4.drew HJ4.out (by have := HR4.out.size; show W.heap.size ≤ W4.heap.size; omega)
          have hxt := HXT.out
          have HRD := Lib.hid hRD
          clear hRD HYK HXT
          generalize strOf x.tail = zt at *
          refine wpIn_region_any (by assumption) ?_
          refine any_round rfl l2 (by kernel_rfl) _ _ _ _ ?_
          change wpAnyIn _ _ _ _ _ _ _ _ _ W4.drew
          refine wpAnyIn_take (i := 1) (v := .string z) rfl rfl (by kernel_rfl) (by kernel_rfl) (by kernel_rfl) (fun _ _ _ h => h) ⟨Or.inl ⟨by rfl, by intro w; go_simp⟩, fun _ => rfl⟩ ?_
          refine wpAnyIn_take (i := 5) (v := .string bc) rfl rfl (by kernel_rfl) (by kernel_rfl) (by kernel_rfl) (fun _ _ _ h => h) ⟨Or.inl ⟨by rfl, by intro w; go_simp⟩, fun _ => rfl⟩ ?_
          refine wpAnyIn_ready (rs := [0, 2]) (by kernel_rfl) (by simp) ?_
          refine AllReadyIn.cons rfl (fun K hK => ?_) (AllReadyIn.cons rfl (fun K hK => ?_) AllReadyIn.nil)
          case' refine_2 =>
            go_simp
            refine hK _ _ ?_
            clear hK K
            refine wpAnyIn_take (i := 3) (v := .int .i64 1) rfl rfl (by kernel_rfl) (by kernel_rfl) (by kernel_rfl) (fun _ _ _ h => h) ⟨Or.inl ⟨by rfl, by intro w; go_simp⟩, fun _ => rfl⟩ ?_
            refine wpAnyIn_take (i := 4) (v := .string zt) rfl rfl (by kernel_rfl) (by kernel_rfl) (by kernel_rfl) (fun _ _ _ h => h) ⟨Or.inl ⟨by rfl, by intro w; go_simp; intro h; omega⟩, fun _ => rfl⟩ ?_
            refine wpAnyIn_take (i := 6) (v := .string (zt ++ bc)) rfl rfl (by kernel_rfl) (by kernel_rfl) (by kernel_rfl) (fun _ _ _ h => h) ⟨Or.inl ⟨by rfl, by intro w; go_simp; omega⟩, fun _ => rfl⟩ ?_
            refine wpAnyIn_ready (rs := [0]) (by kernel_rfl) (by simp) ?_
            refine AllReadyIn.cons rfl (fun K hK => ?_) AllReadyIn.nil
            go_simp
            refine hK _ _ ?_
            clear hK K
          case' refine_1 =>
            go_simp
            refine hK _ _ ?_
            clear hK K
            refine wpAnyIn_ready (rs := [2]) (by kernel_rfl) (by simp) ?_
            refine AllReadyIn.cons rfl (fun K hK => ?_) AllReadyIn.nil
            go_simp
            refine hK _ _ ?_
            clear hK K
            refine wpAnyIn_take (i := 3) (v := .int .i64 1) rfl rfl (by kernel_rfl) (by kernel_rfl) (by kernel_rfl) (fun _ _ _ h => h) ⟨Or.inl ⟨by rfl, by intro w; go_simp⟩, fun _ => rfl⟩ ?_
            refine wpAnyIn_take (i := 4) (v := .string zt) rfl rfl (by kernel_rfl) (by kernel_rfl) (by kernel_rfl) (fun _ _ _ h => h) ⟨Or.inl ⟨by rfl, by intro w; go_simp; intro h; omega⟩, fun _ => rfl⟩ ?_
            refine wpAnyIn_take (i := 6) (v := .string (zt ++ bc)) rfl rfl (by kernel_rfl) (by kernel_rfl) (by kernel_rfl) (fun _ _ _ h => h) ⟨Or.inl ⟨by rfl, by intro w; go_simp; omega⟩, fun _ => rfl⟩ ?_
          all_goals (
            refine wpAnyIn_ready (rs := [7]) (by kernel_rfl) (by simp) ?_
            refine AllReadyIn.cons rfl (fun K hK => ?_) AllReadyIn.nil
            go_simp
            refine ⟨fun h => by simp [Fence.wide] at h, ?_⟩
            refine HRD.out.mono ?_
            rintro e X3 ⟨bb, rfl, hyp⟩
            show K _ X3
            refine hK _ _ ?_
            clear hK K
            refine wpAnyIn_ready (rs := [8]) (by kernel_rfl) (by simp) ?_
            refine AllReadyIn.cons rfl (fun K hK => ?_) AllReadyIn.nil
            go_simp
            refine hK _ _ ?_
            clear hK K
            refine wpAnyIn_done (by kernel_rfl) ?_ _
            have HYP := Lib.hid hyp
            clear hyp hy HRD cY4 cS4
            cases bb with
            | true =>
              obtain ⟨hJ7, hb7, hk7⟩ := HYP.out
              have hk7' : KeepsA D W4 X3 := ⟨hk7.size, hk7.same⟩
              have hb7' : Below n₀ W4 X3 := ((Below.refl _ W4).drew).trans hb7
              have HJ7 : Hid (J (outQ (stepQ x (nb.take (j + 1)) (qAt ps u k))) X3) := hJ7
              have HR7 : Hid (WRest W n₀ D B N b ps u Bs Bg l' (stepQ x (nb.take (j + 1)) (qAt ps u k)) v4 X3) := HR4.out.yield hb7' hk7'
              have HN7 : Hid (OwnTexts X3 X.heap.size (.slice (some ⟨bn, on, none⟩) ts.length capn) ts) := own_keepA HN4.out hk7' (by omega)
              have HK7 : Hid (KeepsN W5.heap.size X X3) := HK4.out.trans (hk7'.firm.mono (by omega))
              have hz7 : X2.heap.size ≤ X3.heap.size := Nat.le_trans hz4 hk7'.size
              clear hJ7 hb7 hk7 hk7' hb7' HYP HR4 HN4 HK4 HJ4
              gi_wp2
              go_roundw
              case rel => exact ⟨j + 1, v4, by omega, by go_num, HJ7, HR7, HN7, HE4, HK7, hz7⟩
              case measure => simp [intOf]; omega
            | false =>
              obtain ⟨hx7, hk7⟩ := HYP.out
              have hk7' : KeepsA W.heap.size W4 X3 := ⟨hk7.size, hk7.same⟩
              have HK7 : Hid (KeepsN W5.heap.size X X3) := HK4.out.trans (hk7'.firm.mono (by omega))
              have HX7 := Lib.hid hx7
              have hz7 : W.heap.size ≤ X3.heap.size := by have := hk7'.size; omega
              have HPO : Hid (outQ (stepQ x (nb.take (j + 1)) (qAt ps u k)) <+: outsB ps u) := HPO0.out
              clear hx7 hk7 hk7' HYP HR4 HN4 HK4 HJ4
              gi_wp2
              exact ⟨HK7.out, rfl, hz7, _, HPO.out, HX7.out⟩)
      · obtain rfl : j = ts.length := by omega
        have HFIN : Hid (stepQ x (nb.take ts.length) (qAt ps u k) = qAt ps u (k + 1)) := by
          show _ = _
          rw [HTSL.out, List.take_length, HSUC.out]
        have HJF : Hid (J (outQ (qAt ps u (k + 1))) wr) := by
          show J _ _
          rw [← HFIN.out]
          exact HJr.out
        have HRF : Hid (WRest W n₀ D B N b ps u Bs Bg l' (qAt ps u (k + 1)) v wr) := by
          show WRest _ _ _ _ _ _ _ _ _ _ _ _ _ _
          rw [← HFIN.out]
          exact HRr.out
        clear HJr HRr
        gi_wp2
        exact ⟨HKr.out, HJF.out, v, HRF.out⟩
  case done =>
    rintro L k X hL h1 h2 ⟨hj, v0, hR⟩ hK
    have HE : Hid (waysB ps u = qAt ps u k) := waysB_stop hpl h1 h2
    have HJ1 := Lib.hid hj
    have hsX := hR.size
    clear hR hj
    gi_wp2
    refine ⟨by simp, .inl ⟨_, _, rfl, run_takeDeferred hK, ?_⟩⟩
    refine ⟨_, results_none rfl _ _ _, ⟨_, rfl⟩, .inl ⟨_, rfl, ?_⟩⟩
    show J (outQ (waysB ps u)) _
    rw [HE.out]
    exact HJ.out _ _ _ HJ1.out (put_low X _ (by omega) (by omega))
  case stop =>
    rintro L c' k X hL ⟨rfl, hsX, pre, hp, hx⟩ hK
    have HX6 := Lib.hid hx
    have HSP := Lib.hid hp
    clear hx hp
    gi_wp2
    refine ⟨by simp, .inl ⟨_, _, rfl, run_takeDeferred hK, ?_⟩⟩
    refine ⟨_, results_none rfl _ _ _, ⟨_, rfl⟩, .inr ⟨_, HSP.out, HJX.out _ _ _ HX6.out (put_low X _ (by omega) hsX)⟩⟩

end Go.Proofs.YtbmfbnlmdjnddaaGreat
/- The program's sets of what is reached, and of what is live. -/
namespace Go.Proofs.YtbmfbnlmdjnddaaGreat
open Go.RowKit Go.Shelf
attribute [local go_sem] Oper.semAt_some

theorem tail_snoc {Q : List Txt} (hQ : Q ≠ []) (y : Txt) : (Q ++ [y]).tail = Q.tail ++ [y] := by
  cases Q with
  | nil => exact absurd rfl hQ
  | cons q Q => rfl
theorem stepQ_tails (way : Txt) (hw : way ≠ []) : ∀ (cs : List UInt8) (Q : List Txt), Q ≠ [] → (∀ x ∈ Q.tail, x.tail ≠ []) → ∀ x ∈ (stepQ way cs Q).tail, x.tail ≠ []
  | [], _, _, h => h
  | c :: cs, Q, hQ, h => by
    show ∀ x ∈ (if c ∈ lasts Q then stepQ way cs Q else stepQ way cs (Q ++ [way ++ [c]])).tail, _
    by_cases hm : c ∈ lasts Q
    · rw [if_pos hm]; exact stepQ_tails way hw cs Q hQ h
    · rw [if_neg hm]
      refine stepQ_tails way hw cs _ (by simp) fun x hx => ?_
      rw [tail_snoc hQ] at hx
      rcases List.mem_append.1 hx with hx | hx
      · exact h x hx
      · rw [List.mem_singleton] at hx
        rw [hx]
        cases way with
        | nil => exact absurd rfl hw
        | cons a way => simp
theorem qAt_tails (ps : List Txt) (u : UInt8) : ∀ k, ∀ x ∈ (qAt ps u k).tail, x.tail ≠ []
  | 0 => fun x hx => by simp [qAt] at hx
  | k + 1 => by
    have ih := qAt_tails ps u k
    cases h : (qAt ps u k)[k]? with
    | none =>
      rw [qAt_none (by rw [List.getElem?_eq_none_iff] at h; exact h)]
      exact ih
    | some way =>
      rw [qAt_succ h]
      exact stepQ_tails way ((qAt_ok ps u k).2.2.2 way (List.mem_of_getElem? h)) _ _ (qAt_ok ps u k).1 ih
theorem last_tail {x : Txt} (h : x.tail ≠ []) : lastB x.tail = lastB x := by
  cases x with
  | nil => rfl
  | cons a x =>
    have hx : x ≠ [] := h
    show x.getLastD 0 = (a :: x).getLastD 0
    rw [List.getLastD_eq_getLast?, List.getLastD_eq_getLast?, List.getLast?_cons]
    cases hg : x.getLast? with
    | none => exact absurd (List.getLast?_eq_none_iff.1 hg) hx
    | some y => simp
theorem outs_last (ps : List Txt) (u : UInt8) : (outsB ps u).map lastB = reachL ps u := by
  unfold outsB outQ reachL lasts
  rw [List.map_map]
  refine List.map_congr_left fun x hx => ?_
  exact last_tail (qAt_tails ps u 32 x hx)
theorem outs_ok {ps : List Txt} {u : UInt8} : ∀ x ∈ outsB ps u, x ≠ [] ∧ x.length ≤ 1000 := fun x hx => by
  unfold outsB outQ at hx
  obtain ⟨y, hy, rfl⟩ := List.mem_map.1 hx
  refine ⟨qAt_tails ps u 32 y hy, ?_⟩
  have := qAt_long ps u 32 y (List.mem_of_mem_tail hy)
  rw [List.length_tail]
  omega
/-- A way as a round is handed it. -/
def fixW (x : Txt) : Txt := if x ≠ [] ∧ x.length ≤ 1000 then x else [0]
theorem fixW_ok (x : Txt) : fixW x ≠ [] ∧ (fixW x).length ≤ 1000 := by
  unfold fixW
  split
  · next h => exact h
  · exact ⟨by simp, by simp⟩
theorem fixW_id {x : Txt} (h : x ≠ [] ∧ x.length ≤ 1000) : fixW x = x := if_pos h
theorem reach_len {ps : List Txt} {u : UInt8} (hp : ps.length ≤ 20) : (reachL ps u).length ≤ 20 := by
  unfold reachL
  rw [lasts_len]
  have := waysB_len (u := u) hp
  omega

attribute [local irreducible] waysB in
set_option maxRecDepth 100000 in
set_option maxHeartbeats 4000000 in
theorem reachedFrom_any (B N b : Nat) (l : List Seg) (ps : List Txt) (u : UInt8) (w : World) (hG : IsGraph l ps) (hgr : GraphAt w B N b ps) (hN : N ≤ w.heap.size) :
    Calls Tryz.prog 76 #[.map (some b), .string ⟨#[u]⟩] w fun e w' => e = .returned (.map (some w.heap.size)) ∧ SetAt w' w.heap.size ((reachL ps u).map fun c => [c]) ∧ Below w.heap.size w w' := by
  refine (callsIn_wide (n := 20)).1 ?_
  refine callsIn_of_wp_marks Tryz.func76 rfl trivial ?_ rfl
  simp only [Tryz.ntmps76, List.size_toArray, List.length_cons, List.length_nil, Nat.reduceAdd, Nat.reduceSub, Array.replicate_succ, Array.replicate_zero, List.push_toArray, List.append_toArray, List.nil_append, List.cons_append]
  have hmk : (Instr.makeMap 99 none).run Tryz.prog w = .ok (.map (some w.heap.size)) (w.alloc (.map #[] 0)) := rfl
  gi_wp2_with fail
  refine ⟨trivial, ?_⟩
  gi_at_call 145
  refine (callsIn_wide.2 (waysFrom_any _ _ _)).mono ?_
  rintro e w3 ⟨rfl, rfl⟩
  gi_wp2
  simp only [Nat.add_assoc, Nat.reduceAdd]
  have hset : SetAt ((((w.alloc (.map #[] 0)).alloc (.cells #[.map (some w.heap.size)] 99)).alloc (.cells #[.map (some b)] 95)).alloc (.cells #[.string ⟨#[u]⟩] 9)) w.heap.size (([] : List Txt).map fun y => [lastB (fixW y)]) :=
    (SetAt.made w).block ((Below.heap_alloc _ _ _ (by simp; omega)).trans ((Below.heap_alloc _ _ _ (by simp; omega)).trans (Below.heap_alloc _ _ _ (by simp))))
  have hbox : Row ((((w.alloc (.map #[] 0)).alloc (.cells #[.map (some w.heap.size)] 99)).alloc (.cells #[.map (some b)] 95)).alloc (.cells #[.string ⟨#[u]⟩] 9)) (w.heap.size + 1) 99 #[.map (some w.heap.size)] := ((row_at (by simp) _ _).alloc _).alloc _
  have hbg : Row ((((w.alloc (.map #[] 0)).alloc (.cells #[.map (some w.heap.size)] 99)).alloc (.cells #[.map (some b)] 95)).alloc (.cells #[.string ⟨#[u]⟩] 9)) (w.heap.size + 2) 95 #[.map (some b)] := (row_at (by simp) _ _).alloc _
  have hbs : Row ((((w.alloc (.map #[] 0)).alloc (.cells #[.map (some w.heap.size)] 99)).alloc (.cells #[.map (some b)] 95)).alloc (.cells #[.string ⟨#[u]⟩] 9)) (w.heap.size + 3) 9 #[.string ⟨#[u]⟩] := row_at (by simp) _ _
  have hlow : Below w.heap.size w ((((w.alloc (.map #[] 0)).alloc (.cells #[.map (some w.heap.size)] 99)).alloc (.cells #[.map (some b)] 95)).alloc (.cells #[.string ⟨#[u]⟩] 9)) := ((((Below.refl _ w).alloc (Nat.le_refl _) _).alloc (by simp) _).alloc (by simp; omega) _).alloc (by simp; omega) _
  have hz4 : ((((w.alloc (.map #[] 0)).alloc (.cells #[.map (some w.heap.size)] 99)).alloc (.cells #[.map (some b)] 95)).alloc (.cells #[.string ⟨#[u]⟩] 9)).heap.size = w.heap.size + 4 := by simp
  clear hmk
  generalize ((((w.alloc (.map #[] 0)).alloc (.cells #[.map (some w.heap.size)] 99)).alloc (.cells #[.map (some b)] 95)).alloc (.cells #[.string ⟨#[u]⟩] 9)) = W4 at *
  have hseq := ways1_seq w.heap.size (w.heap.size + 1) B N b fixW l ps u 20 19 (w.heap.size + 3) (w.heap.size + 2) W4 hG (hgr.below (hlow.mono hN)) hN (by omega) ⟨.inr (by omega), hbs⟩ ⟨.inr (by omega), hbg⟩ (fun x hx => fixW_id (outs_ok x hx)) (Nat.le_refl _) (by omega)
  have HLOW := Lib.hid hlow
  have HOL := Lib.hid (outs_last ps u)
  have HOK := Lib.hid (outs_ok (ps := ps) (u := u))
  have hmx : Tryz.prog.follows .mixedOrders = true := by kernel_rfl
  clear hG hgr hbg hbs
  refine wpIn_rangeFunc_M (by omega) (gf := 186) (lb := #[.pointer (some ⟨w.heap.size + 3, 0, none⟩), .pointer (some ⟨w.heap.size + 2, 0, none⟩)]) rfl (enters_of Tryz.func186 (by kernel_rfl) rfl) hseq (by omega) (by omega) (Below.refl _ _) (fun _ => rfl)
    (fun pre X => SetAt X w.heap.size (pre.map fun y => [lastB (fixW y)]) ∧ Row X (w.heap.size + 1) 99 #[.map (some w.heap.size)] ∧ Below w.heap.size w X)
    (fun _ _ _ => False)
    (fun pre X Y hs hb => ⟨hs.1.block (hb.block _ (by omega)), hs.2.1.below hb (by omega), hs.2.2.trans (hb.mono (by omega))⟩)
    (fun _ _ _ _ hs _ => hs)
    ⟨hset, hbox, hlow⟩
    (fun x => { tmps := #[.map (some b), .string ⟨#[u]⟩, undef, undef, .map none, .pointer (some ⟨w.heap.size + 1, 0, none⟩), .string (strOf (fixW x)), .map (some w.heap.size), .map (some b), .string ⟨#[u]⟩, .func (.func 186) #[] #[.pointer (some ⟨w.heap.size + 3, 0, none⟩), .pointer (some ⟨w.heap.size + 2, 0, none⟩)], .string (strOf (fixW x)), undef, undef, undef, undef, undef, undef, undef], defers := [] }) ?assign ?body ?done ?stop
  case assign =>
    intro l2 x X K hK
    gi_wp2
    exact hK
  case body =>
    rintro l2 pre x X ⟨hs, hr, hbX⟩ hlen hz
    obtain ⟨hne, hx9⟩ := fixW_ok x
    have cB : X.cell? ⟨w.heap.size + 1, 0, none⟩ = some (.map (some w.heap.size)) := hr.cell 0
    obtain ⟨X', hrun, hs', hg'⟩ := (show SetAt X.drew w.heap.size (pre.map fun y => [lastB (fixW y)]) from hs.block rfl).step (by rw [List.length_map]; omega) [lastB (fixW x)] (by rw [str_size]; exact (by decide : 1 ≤ 1000))
    have HS' : Hid (SetAt X' w.heap.size ((pre ++ [x]).map fun y => [lastB (fixW y)])) := by
      show SetAt _ _ _
      rw [List.map_append]
      exact hs'
    have HK' : Hid (KeepsA (w.heap.size + 1) X X') := ⟨hg'.size, fun q o hq ho => (hg'.block q (Array.getElem?_eq_some_iff.1 ho).1 (fun e => by injection e with e; omega)).trans ho⟩
    have HB' : Hid (Below w.heap.size X X') := ((Below.refl _ X).drew).grown hg' (by show w.heap.size ≤ X.heap.size; omega) (fun k e => by injection e with e; omega)
    have HR' : Hid (Row X' (w.heap.size + 1) 99 #[.map (some w.heap.size)]) := HK'.out.same _ _ (Nat.le_refl _) hr
    have HBX := Lib.hid hbX
    have hsz1 : (strOf (fixW x)).size = (fixW x).length := str_size _
    have HXL := Lib.hid (strOf_last hne)
    have hx1 : 1 ≤ (fixW x).length := List.length_pos_iff.2 hne
    obtain ⟨p2, hp2⟩ : ∃ p2 : Nat, p2 = (strOf (fixW x)).size - 1 := ⟨_, rfl⟩
    have hz9 : (strOf (fixW x)).size ≤ 1000 := by omega
    have hw4 : IntKind.i64.wrap (((strOf (fixW x)).size : Int) - 1) = (p2 : Int) := (IntWalk.i64_in _ (by omega)).trans (by omega)
    have hpz : (p2 : Int) ≤ ((strOf (fixW x)).size : Int) := by omega
    have hxe : (strOf (fixW x)).extract p2 (strOf (fixW x)).size = ⟨#[lastB (fixW x)]⟩ := by rw [hp2]; exact HXL.out
    have hrun' : (Instr.mapUpdate 99 (.map (some w.heap.size)) (.string ⟨#[lastB (fixW x)]⟩) (.bool true)).run Tryz.prog X.drew = .ok () X' := hrun
    clear hs hr hbX hs' hg' hne hx9 hsz1 hx1 hp2 HXL hrun
    generalize (⟨#[lastB (fixW x)]⟩ : ByteArray) = bat at *
    generalize strOf (fixW x) = z at *
    gi_wp2_with fail
    refine wpIn_region_any (by assumption) ?_
    refine any_round rfl l2 (by kernel_rfl) _ _ _ _ ?_
    change wpAnyIn _ _ _ _ _ _ _ _ _ X.drew
    refine wpAnyIn_take (i := 1) (v := .string z) rfl rfl (by kernel_rfl) (by kernel_rfl) (by kernel_rfl) (fun _ _ _ h => h) ⟨Or.inl ⟨by rfl, by intro w; go_simp⟩, fun _ => rfl⟩ ?_
    refine wpAnyIn_take (i := 2) (v := .string z) rfl rfl (by kernel_rfl) (by kernel_rfl) (by kernel_rfl) (fun _ _ _ h => h) ⟨Or.inl ⟨by rfl, by intro w; go_simp⟩, fun _ => rfl⟩ ?_
    refine wpAnyIn_take (i := 3) (v := .int .i64 z.size) rfl rfl (by kernel_rfl) (by kernel_rfl) (by kernel_rfl) (fun _ _ _ h => h) ⟨Or.inl ⟨by rfl, by intro w; go_simp⟩, fun _ => rfl⟩ ?_
    refine wpAnyIn_take (i := 4) (v := .int .i64 p2) rfl rfl (by kernel_rfl) (by kernel_rfl) (by kernel_rfl) (fun _ _ _ h => h) ⟨Or.inl ⟨by rfl, by intro w; go_simp⟩, fun _ => rfl⟩ ?_
    refine wpAnyIn_take (i := 5) (v := .string bat) rfl rfl (by kernel_rfl) (by kernel_rfl) (by kernel_rfl) (fun _ _ _ h => h) ⟨Or.inl ⟨by rfl, by intro w; go_simp⟩, fun _ => rfl⟩ ?_
    refine wpAnyIn_ready (rs := [0]) (by kernel_rfl) (by simp) ?_
    refine AllReadyIn.cons rfl (fun K hK => ?_) AllReadyIn.nil
    go_simp
    refine hK _ _ ?_
    clear hK K
    refine wpAnyIn_ready (rs := [6]) (by kernel_rfl) (by simp) ?_
    refine AllReadyIn.cons rfl (fun K hK => ?_) AllReadyIn.nil
    go_simp
    refine hK _ _ ?_
    clear hK K
    refine wpAnyIn_done (by kernel_rfl) ?_ _
    gi_wp2
    exact ⟨by rw [Nat.min_eq_right (by omega)]; exact HK'.out, HB'.out, HS'.out, HR'.out, HBX.out.trans HB'.out⟩
  case done =>
    rintro L ys X hL rfl ⟨hs, hr, hbX⟩ hK
    have cB : X.cell? ⟨w.heap.size + 1, 0, none⟩ = some (.map (some w.heap.size)) := hr.cell 0
    have HS : Hid (SetAt X w.heap.size ((reachL ps u).map fun c => [c])) := by
      show SetAt _ _ _
      have h1 : ((reachL ps u).map fun c => ([c] : Txt)) = (outsB ps u).map fun y => [lastB (fixW y)] := by
        rw [← HOL.out, List.map_map]
        exact List.map_congr_left fun y hy => by
          show [lastB y] = _
          rw [fixW_id (HOK.out y hy)]
      rw [h1]
      exact hs
    have HBX := Lib.hid hbX
    have hsX := hs.lt
    clear hs hr hbX
    gi_wp2
    refine ⟨by simp, .inl ⟨_, _, rfl, run_takeDeferred hK, ?_⟩⟩
    refine ⟨_, results_tmp rfl _ _ _, rfl, HS.out.block (World.putObj_heap_other (by omega)), HBX.out.trans (put_low X _ (by omega) (by omega))⟩
  case stop =>
    rintro L c' pre X _ _ h _
    exact h.elim

attribute [local irreducible] waysB in
set_option maxRecDepth 100000 in
set_option maxHeartbeats 1000000 in
theorem liveFrom_any (B N b : Nat) (l : List Seg) (ps : List Txt) (u : UInt8) (w : World) (hG : IsGraph l ps) (hgr : GraphAt w B N b ps) (hN : N ≤ w.heap.size) :
    Calls Tryz.prog 75 #[.map (some b), .string ⟨#[u]⟩] w fun e w' => e = .returned (.map (some w.heap.size)) ∧ SetAt w' w.heap.size ((reachL ps u ++ [u]).map fun c => [c]) ∧ Below w.heap.size w w' := by
  have HQ := Lib.hid (reachedFrom_any B N b l ps u w hG hgr hN)
  have hl := reach_len (u := u) hG.len
  clear hG hgr
  go_enter Tryz.func75, Tryz.ntmps75
  go_wp2_with fail
  refine Calls.mono HQ.out ?_
  rintro e w1 ⟨rfl, hs, hb⟩
  obtain ⟨w2, hrun, hs2, hg2⟩ := hs.step (by rw [List.length_map]; omega) [u] (by rw [str_size]; exact (by decide : 1 ≤ 1000))
  have hrun' : (Instr.mapUpdate 99 (.map (some w.heap.size)) (.string ⟨#[u]⟩) (.bool true)).run Tryz.prog w1 = .ok () w2 := hrun
  have HS2 : Hid (SetAt w2 w.heap.size ((reachL ps u ++ [u]).map fun c => [c])) := by
    show SetAt _ _ _
    rw [List.map_append, List.map_singleton]
    exact hs2
  have HB2 : Hid (Below w.heap.size w w2) := hb.grown hg2 hb.size (fun k e => by injection e with e; omega)
  clear hs hb hs2 hg2 hrun
  go_wp2
  go_ret
  exact ⟨rfl, HS2.out, HB2.out⟩

end Go.Proofs.YtbmfbnlmdjnddaaGreat
