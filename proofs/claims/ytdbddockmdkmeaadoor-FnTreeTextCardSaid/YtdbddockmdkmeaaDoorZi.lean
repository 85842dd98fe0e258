/- A tree's text read again is that tree; a text that is read is the tree's. Plain. -/
import Derived.Test.YtdbddockmdkmeaaDoorZh
import Derived.Lib.ItoaNum
namespace Go.Proofs.YtdbddockmdkmeaaDoor

theorem digC99 {n : Nat} (h : n < 10) : (UInt8.ofNat (48 + n)).toNat = 48 + n := by
  rw [UInt8.toNat_ofNat']; omega
theorem digIs99 {n : Nat} (h : n < 10) : isDig (UInt8.ofNat (48 + n)) = true := by
  rw [isDig_iff, digC99 h]; omega
theorem itoa_nat (n : Nat) : Lib.itoa (n : Int) = Lib.decDigits n := by
  unfold Lib.itoa
  rw [if_neg (by omega), Int.toNat_natCast]
theorem digOf99 {c : UInt8} (h : isDig c = true) : UInt8.ofNat (48 + (c.toNat - 48)) = c := by
  have := isDig_iff.1 h
  apply UInt8.toNat_inj.1
  rw [digC99 (by omega)]; omega
theorem iSize_stop {r : List UInt8} (h : ∀ c x, r = c :: x → isDig c = false) {n : Nat} (hn : n ≠ 0) : iSize r n = some (n, r) := by
  cases r with
  | nil => simp [iSize, hn]
  | cons c x => simp [iSize, hn, h c x rfl]
theorem iSize_one {c : UInt8} {r : List UInt8} {m : Nat} (hd : isDig c = true) (h : 1 ≤ 10 * m + (c.toNat - 48) ∧ 10 * m + (c.toNat - 48) ≤ 99) : iSize (c :: r) m = iSize r (10 * m + (c.toNat - 48)) := by
  rw [iSize, if_pos hd, if_pos h]
/-- A size read again. -/
theorem iSize_back {n : Nat} (h1 : 1 ≤ n) (h2 : n ≤ 99) {r : List UInt8} (hr : ∀ c x, r = c :: x → isDig c = false) : iSize (Lib.itoa n ++ r) 0 = some (n, r) := by
  rw [itoa_nat]
  by_cases h : n < 10
  · rw [Lib.decDigits_one h, List.singleton_append, iSize_one (digIs99 h) (by rw [digC99 h]; omega), digC99 h, show 10 * 0 + (48 + n - 48) = n by omega]
    exact iSize_stop hr (by omega)
  · have ha : n / 10 < 10 := by omega
    have hb : n % 10 < 10 := by omega
    rw [Lib.decDigits_two h (by omega), List.cons_append, List.singleton_append, iSize_one (digIs99 ha) (by rw [digC99 ha]; omega), digC99 ha, iSize_one (digIs99 hb) (by rw [digC99 hb]; omega), digC99 hb,
      show 10 * (10 * 0 + (48 + n / 10 - 48)) + (48 + n % 10 - 48) = n by omega]
    exact iSize_stop hr (by omega)
theorem iSize_big {r r2 : List UInt8} {m n : Nat} (h10 : 10 ≤ m) (h : iSize r m = some (n, r2)) : n = m ∧ r2 = r := by
  cases r with
  | nil =>
    rw [iSize, if_neg (by omega)] at h
    simp only [Option.some.injEq, Prod.mk.injEq] at h
    exact ⟨h.1.symm, h.2.symm⟩
  | cons c x =>
    by_cases hc : isDig c = true
    · rw [iSize, if_pos hc, if_neg (by omega)] at h; cases h
    · rw [iSize, if_neg hc, if_neg (by omega)] at h
      simp only [Option.some.injEq, Prod.mk.injEq] at h
      exact ⟨h.1.symm, h.2.symm⟩
/-- A size that is read is written so. -/
theorem iSize_fwd {r r2 : List UInt8} {n : Nat} (h : iSize r 0 = some (n, r2)) : r = Lib.itoa n ++ r2 ∧ 1 ≤ n ∧ n ≤ 99 := by
  cases r with
  | nil => simp [iSize] at h
  | cons c r =>
    by_cases hc : isDig c = true
    · have hd := isDig_iff.1 hc
      by_cases h0 : 1 ≤ 10 * 0 + (c.toNat - 48) ∧ 10 * 0 + (c.toNat - 48) ≤ 99
      · rw [iSize_one hc h0] at h
        have one : n = c.toNat - 48 → r2 = r → c :: r = Lib.itoa n ++ r2 ∧ 1 ≤ n ∧ n ≤ 99 := by
          intro e1 e2
          subst e1 e2
          refine ⟨?_, by omega, by omega⟩
          rw [itoa_nat, Lib.decDigits_one (by omega), digOf99 hc]; rfl
        cases r with
        | nil =>
          rw [iSize, if_neg (by omega)] at h
          simp only [Option.some.injEq, Prod.mk.injEq] at h
          exact one (by omega) h.2.symm
        | cons d x =>
          by_cases hdd : isDig d = true
          · have hd2 := isDig_iff.1 hdd
            rw [iSize_one hdd (by omega)] at h
            obtain ⟨e1, e2⟩ := iSize_big (by omega) h
            subst e2
            refine ⟨?_, by omega, by omega⟩
            rw [itoa_nat, Lib.decDigits_two (by omega) (by omega)]
            have q1 : n / 10 = c.toNat - 48 := by omega
            have q2 : n % 10 = d.toNat - 48 := by omega
            rw [q1, q2, digOf99 hc, digOf99 hdd]; rfl
          · rw [iSize, if_neg hdd, if_neg (by omega)] at h
            simp only [Option.some.injEq, Prod.mk.injEq] at h
            exact one (by omega) h.2.symm
      · rw [iSize, if_pos hc, if_neg h0] at h; cases h
    · rw [iSize, if_neg hc, if_pos rfl] at h; cases h

namespace Rs
/-- What may stand behind a segment's text. -/
def Stops (r : List UInt8) : Prop := ∀ c x, r = c :: x → isDig c = false ∧ c ≠ 40
theorem stops_tail (F : Rs) (r : List UInt8) : Stops (F.tail ++ 41 :: r) := fun c x e => by
  cases F with
  | nil => simp only [tail, List.nil_append, List.cons.injEq] at e; rw [← e.1]; exact ⟨by decide, by decide⟩
  | cons c1 n1 k1 r1 => simp only [tail, List.cons_append, List.cons.injEq] at e; rw [← e.1]; exact ⟨by decide, by decide⟩
theorem one_text (c : UInt8) (n : Nat) (k r : Rs) : (Rs.cons c n k .nil).text ++ r.tail = (Rs.cons c n k r).text := by
  rw [text_cons, text_cons]
  simp [tail]
/-- What is read is so written. -/
theorem kids_fwd {iS : List UInt8 → List Seg → Option Read} {p : Int}
    (H : ∀ (x : List UInt8) (tr : List Seg) (r' : List UInt8) (t' : List Seg), iS x tr = some (r', t') → ∃ c n k, x = (Rs.cons c n k .nil).text ++ r' ∧ t' = tr ++ (Rs.cons c n k .nil).segs p tr.length) :
    ∀ (g : Nat) (x : List UInt8) (tr : List Seg) (r' : List UInt8) (t' : List Seg), iKids iS g x tr = some (r', t') → ∃ F : Rs, x = F.tail ++ 41 :: r' ∧ t' = tr ++ F.segs p tr.length
  | 0, _, _, _, _, h => by simp [iKids] at h
  | g + 1, [], _, _, _, h => by simp [iKids] at h
  | g + 1, c0 :: x, tr, r', t', h => by
    unfold iKids at h
    simp only [] at h
    by_cases h44 : c0 = 44
    · rw [if_pos h44] at h
      cases hs : iS x tr with
      | none => rw [hs] at h; cases h
      | some y =>
        obtain ⟨r2, t2⟩ := y
        rw [hs] at h
        simp only [] at h
        obtain ⟨c, n, k, e1, e2⟩ := H x tr r2 t2 hs
        obtain ⟨F, e3, e4⟩ := kids_fwd H g r2 t2 r' t' h
        refine ⟨.cons c n k F, ?_, ?_⟩
        · rw [h44, e1, e3]
          show 44 :: _ = (44 :: (Rs.cons c n k F).text) ++ _
          rw [← one_text c n k F]
          simp
        · rw [e4, e2]
          have hl : (tr ++ (Rs.cons c n k .nil).segs p tr.length).length = tr.length + 1 + k.count := by
            rw [List.length_append, segs_len]; simp only [count]; omega
          rw [hl]
          simp [segs]
    · rw [if_neg h44] at h
      by_cases h41 : c0 = 41
      · rw [if_pos h41] at h
        simp only [Option.some.injEq, Prod.mk.injEq] at h
        refine ⟨.nil, ?_, ?_⟩
        · rw [h41, h.1]; rfl
        · rw [h.2]; simp [segs]
      · rw [if_neg h41] at h; cases h
theorem seg_fwd : ∀ (f : Nat) (x : List UInt8) (p : Int) (tr : List Seg) (r' : List UInt8) (t' : List Seg), iSeg f x p tr = some (r', t') → ∃ c n k, x = (Rs.cons c n k .nil).text ++ r' ∧ t' = tr ++ (Rs.cons c n k .nil).segs p tr.length
  | 0, _, _, _, _, _, h => by simp [iSeg] at h
  | f + 1, [], _, _, _, _, h => by simp [iSeg] at h
  | f + 1, c :: r, p, tr, r', t', h => by
    unfold iSeg at h
    split at h
    · cases hz : iSize r 0 with
      | none => rw [hz] at h; cases h
      | some y =>
        obtain ⟨n, r2⟩ := y
        rw [hz] at h
        simp only [] at h
        obtain ⟨e1, _, _⟩ := iSize_fwd hz
        cases r2 with
        | nil =>
          simp only [Option.some.injEq, Prod.mk.injEq] at h
          refine ⟨c, n, .nil, ?_, ?_⟩
          · rw [← h.1, e1, text_cons]; simp [paren, tail]
          · rw [← h.2]; simp [segs]
        | cons d r3 =>
          simp only [] at h
          by_cases h40 : d = 40
          · rw [if_pos h40] at h
            cases hs : iSeg f r3 tr.length (tr ++ [⟨⟨#[c]⟩, n, p⟩]) with
            | none => rw [hs] at h; cases h
            | some y =>
              obtain ⟨r4, t4⟩ := y
              rw [hs] at h
              simp only [] at h
              obtain ⟨c1, n1, k1, e2, e3⟩ := seg_fwd f r3 tr.length _ r4 t4 hs
              obtain ⟨F, e4, e5⟩ := kids_fwd (p := tr.length) (fun x tr2 r5 t5 h5 => seg_fwd f x tr.length tr2 r5 t5 h5) _ r4 t4 r' t' h
              refine ⟨c, n, .cons c1 n1 k1 F, ?_, ?_⟩
              · rw [e1, h40, e2, e4, text_cons c n (.cons c1 n1 k1 F) .nil]
                show _ = c :: (Lib.itoa n ++ (40 :: ((Rs.cons c1 n1 k1 F).text ++ [41])) ++ []) ++ r'
                rw [← one_text c1 n1 k1 F]
                simp
              · rw [e5, e3]
                have hl : (tr ++ [⟨⟨#[c]⟩, (n : Int), p⟩] : List Seg).length = tr.length + 1 := by simp
                have hl2 : (tr ++ [⟨⟨#[c]⟩, (n : Int), p⟩] ++ (Rs.cons c1 n1 k1 .nil).segs tr.length (tr.length + 1) : List Seg).length = tr.length + 1 + 1 + k1.count := by
                  rw [List.length_append, segs_len, hl]; simp only [count]; omega
                rw [hl, hl2]
                simp [segs]
          · rw [if_neg h40] at h
            simp only [Option.some.injEq, Prod.mk.injEq] at h
            refine ⟨c, n, .nil, ?_, ?_⟩
            · rw [← h.1, e1, text_cons]; simp [paren, tail]
            · rw [← h.2]; simp [segs]
    · cases h
/-- What is so written is read. -/
theorem kids_back {iS : List UInt8 → List Seg → Option Read} {p : Int} {b : Nat}
    (H : ∀ (c : UInt8) (n : Nat) (k : Rs) (tr : List Seg) (r : List UInt8), (Rs.cons c n k .nil).count ≤ b → Fine (tr ++ (Rs.cons c n k .nil).segs p tr.length) → Stops r → iS ((Rs.cons c n k .nil).text ++ r) tr = some (r, tr ++ (Rs.cons c n k .nil).segs p tr.length)) :
    ∀ (F : Rs) (g : Nat) (tr : List Seg) (r : List UInt8), F.count ≤ b → F.count < g → Fine (tr ++ F.segs p tr.length) → iKids iS g (F.tail ++ 41 :: r) tr = some (r, tr ++ F.segs p tr.length)
  | _, 0, _, _, _, hg, _ => absurd hg (by omega)
  | .nil, g + 1, tr, r, _, _, _ => by
    unfold iKids
    simp [tail, segs]
  | .cons c n k F, g + 1, tr, r, hb, hg, hf => by
    simp only [count] at hb hg
    have hl : (tr ++ (Rs.cons c n k .nil).segs p tr.length).length = tr.length + 1 + k.count := by
      rw [List.length_append, segs_len]; simp only [count]; omega
    have es : tr ++ (Rs.cons c n k F).segs p tr.length = (tr ++ (Rs.cons c n k .nil).segs p tr.length) ++ F.segs p (tr ++ (Rs.cons c n k .nil).segs p tr.length).length := by
      rw [hl]; simp [segs]
    have hf2 := hf
    rw [es] at hf2
    have h1 := H c n k tr (F.tail ++ 41 :: r) (by simp only [count]; omega) (hf2.pre (List.prefix_append _ _)) (stops_tail F r)
    have h2 := kids_back H F g _ r (by omega) (by omega) hf2
    have et : (Rs.cons c n k F).tail ++ 41 :: r = 44 :: ((Rs.cons c n k .nil).text ++ (F.tail ++ 41 :: r)) := by
      show (44 :: (Rs.cons c n k F).text) ++ _ = _
      rw [← one_text c n k F]; simp
    rw [et]
    unfold iKids
    simp only []
    rw [if_pos True.intro, h1]
    simp only []
    rw [h2, es]
theorem text_len (F : Rs) : F.count ≤ F.text.length ∧ (F.tail.length = if F.count = 0 then 0 else F.text.length + 1) := by
  induction F with
  | nil => exact ⟨Nat.le_refl _, rfl⟩
  | cons c n k r ik ir =>
    have hz : ∀ G : Rs, G.count = 0 → G = .nil := fun G e => by cases G with
      | nil => rfl
      | cons a b c d => simp only [count] at e; omega
    have hp : k.count ≤ k.paren.length := by
      cases k with
      | nil => exact Nat.le_refl _
      | cons c1 n1 k1 r1 => have := ik.1; simp only [paren, List.length_cons, List.length_append] at this ⊢; omega
    have ht : r.count ≤ r.tail.length := by
      rw [ir.2]
      have := ir.1
      split <;> omega
    refine ⟨?_, ?_⟩
    · rw [text_cons]
      simp only [count, List.length_cons, List.length_append]
      omega
    · rw [if_neg (by simp only [count]; omega)]
      rfl
theorem seg_back : ∀ (f : Nat) (c : UInt8) (n : Nat) (k : Rs) (p : Int) (tr : List Seg) (r : List UInt8), (Rs.cons c n k .nil).count ≤ f → Fine (tr ++ (Rs.cons c n k .nil).segs p tr.length) → Stops r → iSeg f ((Rs.cons c n k .nil).text ++ r) p tr = some (r, tr ++ (Rs.cons c n k .nil).segs p tr.length)
  | 0, _, _, _, _, _, _, h, _, _ => by simp only [count] at h; omega
  | f + 1, c, n, k, p, tr, r, hc, hf, hr => by
    simp only [count] at hc
    have hfs : Fine (tr ++ [⟨⟨#[c]⟩, (n : Int), p⟩]) := hf.pre (by
      refine ⟨k.segs tr.length (tr.length + 1), ?_⟩
      simp [segs])
    obtain ⟨hn, ht, hz⟩ := hfs.last
    unfold sizeOk at hz
    rw [Bool.and_eq_true, decide_eq_true_iff, decide_eq_true_iff] at hz
    simp only [] at hn ht hz
    have hl : (tr ++ [⟨⟨#[c]⟩, (n : Int), p⟩] : List Seg).length = tr.length + 1 := by simp
    have et : (Rs.cons c n k .nil).text ++ r = c :: (Lib.itoa n ++ (k.paren ++ r)) := by
      rw [text_cons]; simp [tail]
    rw [et]
    unfold iSeg
    rw [if_pos (by rw [hn, ht]; rfl)]
    cases k with
    | nil =>
      have hzb := iSize_back (n := n) (by omega) (by omega) (r := r) (fun c x e => (hr c x e).1)
      simp only [paren, List.nil_append]
      rw [hzb]
      cases r with
      | nil => simp [segs]
      | cons d x =>
        simp only []
        rw [if_neg (hr d x rfl).2]
        simp [segs]
    | cons c1 n1 k1 F =>
      simp only [count] at hc
      have hzb := iSize_back (n := n) (by omega) (by omega) (r := (Rs.cons c1 n1 k1 F).paren ++ r) (fun c x e => by
        simp only [paren, List.cons_append, List.cons.injEq] at e
        rw [← e.1]; decide)
      rw [hzb]
      have ep : (Rs.cons c1 n1 k1 F).paren ++ r = 40 :: ((Rs.cons c1 n1 k1 .nil).text ++ (F.tail ++ 41 :: r)) := by
        show (40 :: ((Rs.cons c1 n1 k1 F).text ++ [41])) ++ r = _
        rw [← one_text c1 n1 k1 F]; simp
      have hl2 : (tr ++ [⟨⟨#[c]⟩, (n : Int), p⟩] ++ (Rs.cons c1 n1 k1 .nil).segs tr.length (tr.length + 1) : List Seg).length = tr.length + 1 + 1 + k1.count := by
        rw [List.length_append, segs_len, hl]; simp only [count]; omega
      have es : tr ++ (Rs.cons c n (.cons c1 n1 k1 F) .nil).segs p tr.length = (tr ++ [⟨⟨#[c]⟩, (n : Int), p⟩] ++ (Rs.cons c1 n1 k1 .nil).segs tr.length (tr ++ [⟨⟨#[c]⟩, (n : Int), p⟩] : List Seg).length) ++ F.segs tr.length (tr ++ [⟨⟨#[c]⟩, (n : Int), p⟩] ++ (Rs.cons c1 n1 k1 .nil).segs tr.length (tr ++ [⟨⟨#[c]⟩, (n : Int), p⟩] : List Seg).length : List Seg).length := by
        rw [hl, hl2]; simp [segs]
      have hf2 := hf
      rw [es] at hf2
      have h1 := seg_back f c1 n1 k1 tr.length (tr ++ [⟨⟨#[c]⟩, (n : Int), p⟩]) (F.tail ++ 41 :: r) (by simp only [count]; omega) (hf2.pre (List.prefix_append _ _)) (stops_tail F r)
      have hcl : F.count < (F.tail ++ 41 :: r).length + 1 := by
        have h3 := text_len F
        rw [List.length_append, List.length_cons, h3.2]
        have := h3.1
        split <;> omega
      have h2 := kids_back (p := tr.length) (b := f) (iS := fun a b => iSeg f a tr.length b) (fun c n k tr2 r2 q1 q2 q3 => seg_back f c n k tr.length tr2 r2 q1 q2 q3) F ((F.tail ++ 41 :: r).length + 1) _ r (by omega) hcl hf2
      simp only []
      rw [ep]
      simp only []
      rw [if_pos True.intro, h1]
      simp only []
      rw [h2, es]
end Rs

/-- A valid tree's text is read as that tree. -/
theorem parsed_back {l : List Seg} (hv : validB l = true) : parsed (textT l l.length 0) = some l := by
  have ha := (valid_all hv).1
  have h1 := (valid_all hv).2.1
  have h8 := (valid_all hv).2.2
  obtain ⟨c, n, k, e⟩ := Rs.decode ha l.length (by omega) (Nat.le_refl _)
  rw [List.take_length] at e
  have hlen : l.length = (Rs.cons c n k .nil).count := by rw [e, Rs.segs_len]
  have hb := Rs.seg_back 10 c n k (-1) [] [] (by omega) (by
    show Fine ((Rs.cons c n k .nil).segs (-1) 0)
    rw [← e]; exact fine_ok hv) (fun c x e => by cases e)
  rw [List.append_nil] at hb
  rw [Rs.text_whole e hv]
  unfold parsed
  rw [hb]
  simp only []
  show some ((Rs.cons c n k .nil).segs (-1) 0) = some l
  rw [← e]
/-- A text that is read is its tree's. -/
theorem parsed_fwd {t : List UInt8} {tr : List Seg} (h : parsed t = some tr) : treeText tr = txt12 t := by
  have hv := (parsed_some h).2
  unfold parsed at h
  split at h
  · next u he =>
    cases h
    obtain ⟨c, n, k, e1, e2⟩ := Rs.seg_fwd 10 t (-1) [] [] tr he
    rw [List.append_nil] at e1
    have e3 : tr = (Rs.cons c n k .nil).segs (-1) 0 := e2
    unfold treeText
    rw [if_pos hv, Rs.text_whole e3 hv, e1]
  · cases h

end Go.Proofs.YtdbddockmdkmeaaDoor
