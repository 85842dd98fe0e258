/- The plain mathematics of trees: no program. -/
import Derived.Test.YtdbddockmdkmeaaDoorSz
import Derived.WideShapes
namespace Go.Proofs.YtdbddockmdkmeaaDoor

def nameOk (s : ByteArray) : Bool := match s.data.toList with
  | [c] => decide (65 ≤ c.toNat) && decide (c.toNat ≤ 72)
  | _ => false
theorem nameOk_one {s : ByteArray} (h : nameOk s = true) : ∃ c : UInt8, s = ⟨#[c]⟩ ∧ 65 ≤ c.toNat ∧ c.toNat ≤ 72 := by
  obtain ⟨⟨l⟩⟩ := s
  unfold nameOk at h
  match l, h with
  | [c], h => simp at h; exact ⟨c, rfl, h.1, h.2⟩
theorem nameOk_of {c : UInt8} : nameOk ⟨#[c]⟩ = (decide (65 ≤ c.toNat) && decide (c.toNat ≤ 72)) := rfl
theorem nameOk_size {s : ByteArray} (h : s.size ≠ 1) : nameOk s = false := by
  obtain ⟨⟨l⟩⟩ := s
  unfold nameOk
  match l with
  | [] => rfl
  | [c] => exact absurd rfl h
  | _ :: _ :: _ => rfl
theorem one_of_size {s : ByteArray} (h : s.size = 1) : ∃ c : UInt8, s = ⟨#[c]⟩ := by
  obtain ⟨⟨l⟩⟩ := s
  match l, h with
  | [c], _ => exact ⟨c, rfl⟩
def sizeOk (n : Int) : Bool := decide (1 ≤ n) && decide (n ≤ 99)
def inB (n lo hi : Int) : Bool := decide (lo ≤ n) && decide (n ≤ hi)
def findFrom (c : UInt8) : List UInt8 → Nat → Int
  | [], _ => -1
  | x :: l, k => if x = c then k else findFrom c l (k + 1)
def findB (s : ByteArray) (c : UInt8) : Int := findFrom c s.data.toList 0
theorem findFrom_lo (c : UInt8) : ∀ (l : List UInt8) (k : Nat), 0 ≤ findFrom c l k ↔ c ∈ l
  | [], k => by simp [findFrom]
  | x :: l, k => by
    unfold findFrom
    by_cases h : x = c
    · simp [h]
    · rw [if_neg h, findFrom_lo c l (k + 1)]
      simp [show ¬ c = x from fun e => h e.symm]
theorem findB_lo (s : ByteArray) (c : UInt8) : 0 ≤ findB s c ↔ c ∈ s.data.toList := findFrom_lo c _ 0
theorem findFrom_drop (s : ByteArray) (c : UInt8) (k : Nat) (hk : k < s.size) : findFrom c (s.data.toList.drop k) k = if s[k] = c then (k : Int) else findFrom c (s.data.toList.drop (k + 1)) (k + 1) := by
  rw [List.drop_eq_getElem_cons (by simpa using hk)]
  rfl
def sameB (a b : ByteArray) : Bool := a.toList == b.toList
theorem sameB_iff {a b : ByteArray} : sameB a b = true ↔ a = b := by
  unfold sameB
  rw [beq_iff_eq, ByteArray.toList_eq, ByteArray.toList_eq]
  exact ⟨WideShapes.bytes_inj, fun h => by rw [h]⟩
def takenB (l : List Seg) (s : ByteArray) : Bool := l.any (fun x => sameB x.name s)

/-- The parent of a segment. -/
def parAt (l : List Seg) (i : Nat) : Int := match l[i]? with
  | some s => s.par
  | none => -1
/-- From a segment up to the root. -/
def chain (l : List Seg) : Nat → Int → List Int
  | 0, _ => []
  | f + 1, i => if i < 0 then [] else i :: chain l f (parAt l i.toNat)
/-- The parents of the first 'k' stand ahead of them. -/
def Down (l : List Seg) (k : Nat) : Prop := ∀ j : Nat, j < k → -1 ≤ parAt l j ∧ parAt l j < j
theorem Down.mono {l : List Seg} {k k' : Nat} (h : Down l k) (hk : k' ≤ k) : Down l k' := fun j hj => h j (by omega)
theorem chain_mem {l : List Seg} {k : Nat} (h : Down l k) : ∀ (f : Nat) (i : Int), i < k → ∀ x ∈ chain l f i, 0 ≤ x ∧ x ≤ i
  | 0, _, _, x, hx => by simp [chain] at hx
  | f + 1, i, hi, x, hx => by
    unfold chain at hx
    by_cases h0 : i < 0
    · simp [h0] at hx
    · rw [if_neg h0] at hx
      rcases List.mem_cons.1 hx with rfl | hx
      · omega
      · have hd := h i.toNat (by omega)
        have := chain_mem h f _ (by omega) x hx
        omega
/-- More fuel than wanted gives no more. -/
theorem chain_fuel {l : List Seg} {k : Nat} (h : Down l k) : ∀ (f g : Nat) (i : Int), i < k → i < f → i < g → chain l f i = chain l g i
  | 0, 0, _, _, _, _ => rfl
  | 0, g + 1, i, _, hf, _ => by simp [chain, show i < 0 by omega]
  | f + 1, 0, i, _, _, hg => by simp [chain, show i < 0 by omega]
  | f + 1, g + 1, i, hi, hf, hg => by
    unfold chain
    by_cases h0 : i < 0
    · simp [h0]
    · have hd := h i.toNat (by omega)
      rw [if_neg h0, if_neg h0, chain_fuel h f g _ (by omega) (by omega) (by omega)]
def parOk (l : List Seg) (i : Nat) : Bool := if i = 0 then parAt l 0 == -1 else (chain l i ((i : Int) - 1)).contains (parAt l i)
def segOk (l : List Seg) (i : Nat) : Bool := match l[i]? with
  | some s => nameOk s.name && !takenB (l.take i) s.name && sizeOk s.size && parOk l i
  | none => false
def AllOk (l : List Seg) (k : Nat) : Prop := ∀ j : Nat, j < k → segOk l j = true
theorem AllOk.down {l : List Seg} : ∀ {k : Nat}, AllOk l k → Down l k
  | 0, _ => fun j hj => absurd hj (by omega)
  | k + 1, h => by
    have hd : Down l k := AllOk.down (fun j hj => h j (by omega))
    intro j hj
    rcases Nat.lt_or_ge j k with hlt | hge
    · exact hd j hlt
    · obtain rfl : j = k := by omega
      have hs := h j (by omega)
      unfold segOk at hs
      cases hl : l[j]? with
      | none => rw [hl] at hs; cases hs
      | some s =>
        rw [hl] at hs
        simp only [Bool.and_eq_true] at hs
        have hp := hs.2
        unfold parOk at hp
        by_cases h0 : j = 0
        · rw [if_pos h0] at hp
          subst h0
          have := beq_iff_eq.1 hp
          omega
        · rw [if_neg h0] at hp
          have hm := List.contains_iff_mem.1 hp
          have := chain_mem hd j _ (by omega) _ hm
          omega
def allB (l : List Seg) (k : Nat) : Bool := (List.range k).all (segOk l)
theorem allB_iff {l : List Seg} {k : Nat} : allB l k = true ↔ AllOk l k := by
  simp [allB, AllOk]
def validB (l : List Seg) : Bool := decide (1 ≤ l.length) && decide (l.length ≤ 8) && allB l l.length
theorem validB_bad {l : List Seg} {k : Nat} (hk : k < l.length) (h : segOk l k = false) : validB l = false := by
  unfold validB
  rw [Bool.and_eq_false_iff]
  right
  cases ha : allB l l.length with
  | false => rfl
  | true => rw [allB_iff.1 ha k hk] at h; cases h
theorem validB_all {l : List Seg} (h : AllOk l l.length) : validB l = (decide (1 ≤ l.length) && decide (l.length ≤ 8)) := by
  unfold validB
  rw [allB_iff.2 h, Bool.and_true]

end Go.Proofs.YtdbddockmdkmeaaDoor

/- Contracts of the small functions. -/
namespace Go.Proofs.YtdbddockmdkmeaaDoor
open Go.RowKit

set_option maxHeartbeats 400000 in
theorem l1In_any (n lo hi : Int) (w : World) :
    Calls Tryd.prog 62 #[.int .i64 n, .int .i64 lo, .int .i64 hi] w fun e w' => e = .returned (.bool (inB n lo hi)) ∧ w = w' := by
  have HF : Hid (inB n lo hi = (decide (lo ≤ n) && decide (n ≤ hi))) := rfl
  by_cases h1 : lo ≤ n <;> by_cases h2 : n ≤ hi
  all_goals
    go_enter Tryd.func62, Tryd.ntmps62
    go_wp2
    go_ret
    exact ⟨ret_bool (by rw [HF.out]; simp <;> omega), rfl⟩

set_option maxHeartbeats 400000 in
theorem sizeValid_any (n : Int) (w : World) :
    Calls Tryd.prog 58 #[.int .i64 n] w fun e w' => e = .returned (.bool (sizeOk n)) ∧ w = w' := by
  have HF : Hid (sizeOk n = (decide (1 ≤ n) && decide (n ≤ 99))) := rfl
  by_cases h1 : 1 ≤ n <;> by_cases h2 : n ≤ 99
  all_goals
    go_enter Tryd.func58, Tryd.ntmps58
    go_wp2
    go_ret
    exact ⟨ret_bool (by rw [HF.out]; simp <;> omega), rfl⟩

theorem at_one (c : UInt8) (h : 0 < (⟨#[c]⟩ : ByteArray).size) : (⟨#[c]⟩ : ByteArray)[0]'h = c := rfl

set_option maxHeartbeats 400000 in
theorem nameValid_any (s : ByteArray) (w : World) (hs : s.size ≤ maxLen) :
    Calls Tryd.prog 56 #[.string s] w fun e w' => e = .returned (.bool (nameOk s)) ∧ w = w' := by
  unfold maxLen at hs
  by_cases h : s.size = 1
  · obtain ⟨c, rfl⟩ := one_of_size h
    clear h hs
    have HF : Hid (nameOk ⟨#[c]⟩ = (decide (65 ≤ c.toNat) && decide (c.toNat ≤ 72))) := rfl
    have h1 := at_one c
    by_cases ha : 65 ≤ (c.toNat : Int) <;> by_cases hb : (c.toNat : Int) ≤ 72
    all_goals
      go_enter Tryd.func56, Tryd.ntmps56
      go_wp2
      go_ret
      exact ⟨ret_bool (by rw [HF.out]; simp <;> omega), rfl⟩
  · have HF : Hid (nameOk s = false) := nameOk_size h
    go_enter Tryd.func56, Tryd.ntmps56
    go_wp2
    go_ret
    exact ⟨ret_bool HF.out.symm, rfl⟩

set_option maxHeartbeats 400000 in
theorem l1Name_any (s : ByteArray) (w : World) (hs : s.size ≤ maxLen) :
    Calls Tryd.prog 60 #[.string s] w fun e w' => e = .returned (.bool (nameOk s)) ∧ w = w' := by
  unfold maxLen at hs
  by_cases h : s.size = 1
  · obtain ⟨c, rfl⟩ := one_of_size h
    clear h hs
    have HF : Hid (inB c.toNat 65 72 = nameOk ⟨#[c]⟩) := by
      show (decide ((65 : Int) ≤ c.toNat) && decide ((c.toNat : Int) ≤ 72)) = (decide (65 ≤ c.toNat) && decide (c.toNat ≤ 72))
      congr 1 <;> (apply decide_eq_decide.2; omega)
    have h1 := at_one c
    have hc : (c.toNat : Int) < 256 := by have := c.toNat_lt; omega
    go_enter Tryd.func60, Tryd.ntmps60
    go_wp2_with fail
    refine (l1In_any _ _ _ _).mono ?_
    rintro e w1 ⟨rfl, rfl⟩
    go_wp2
    go_ret
    exact ⟨ret_bool HF.out, rfl⟩
  · have HF : Hid (nameOk s = false) := nameOk_size h
    go_enter Tryd.func60, Tryd.ntmps60
    go_wp2
    go_ret
    exact ⟨ret_bool HF.out.symm, rfl⟩

set_option maxHeartbeats 400000 in
theorem l13Find_any (s : ByteArray) (c : UInt8) (w : World) (hs : s.size ≤ maxLen) :
    Calls Tryd.prog 61 #[.string s, .int .u8 c.toNat] w fun e w' => e = .returned (.int .i64 (findB s c)) ∧ w = w' := by
  unfold maxLen at hs
  go_enter Tryd.func61, Tryd.ntmps61
  go_wp2
  go_loop [5] (fun i => ∃ k : Nat, k ≤ s.size ∧ i = .int .i64 k ∧ Hid (findB s c = findFrom c (s.data.toList.drop k) k)) (fun i => s.size - (intOf i).toNat)
  case atStart => exact ⟨0, Nat.zero_le _, rfl, rfl⟩
  case round =>
    obtain ⟨k, hk, rfl, HN⟩ := hrel
    by_cases hlt : k < s.size
    · have HD : Hid _ := findFrom_drop s c k hlt
      by_cases he : s[k] = c
      · have ht : ((s[k].toNat : Int) == (c.toNat : Int)) = true := by rw [he]; simp
        have HE := Lib.hid he
        clear he
        go_wp2
        go_ret
        exact ⟨ret_int (by rw [HN.out, HD.out, if_pos HE.out]), rfl⟩
      · have ht : ((s[k].toNat : Int) == (c.toNat : Int)) = false := by
          rw [beq_eq_false_iff_ne]
          exact fun e => he (UInt8.toNat_inj.1 (by omega))
        have HE := Lib.hid he
        clear he
        go_wp2
        go_round
        case rel => exact ⟨k + 1, by omega, by go_num, by rw [HN.out, HD.out, if_neg HE.out]; rfl⟩
        case measure => simp [intOf]; omega
    · go_wp2
      go_ret
      exact ⟨ret_int (by rw [HN.out, List.drop_of_length_le (by simp; omega)]; rfl), rfl⟩

theorem takenB_take_succ {l : List Seg} {s : ByteArray} {k : Nat} (hk : k < l.length) : takenB (l.take (k + 1)) s = (takenB (l.take k) s || sameB l[k].name s) := by
  unfold takenB
  rw [List.take_succ_eq_append_getElem hk, List.any_append]
  simp only [List.any_cons, List.any_nil, Bool.or_false]

set_option maxHeartbeats 400000 in
theorem nameTaken_any (A : Option Addr) (l : List Seg) (c : Nat) (s : ByteArray) (w : World) (hw : Segs w w.heap.size A l) (hl : l.length ≤ 1048576) :
    Calls Tryd.prog 57 #[.slice A l.length c, .string s] w fun e w' => e = .returned (.bool (takenB l s)) ∧ Below w.heap.size w w' := by
  have HW : Hid (Segs w w.heap.size A l) := hw
  clear hw
  go_enter Tryd.func57, Tryd.ntmps57
  go_wp2
  go_loopw [9] (fun i wr => ∃ (k : Nat), k ≤ l.length ∧ i = .int .i64 k ∧ Hid (takenB (l.take k) s = false) ∧ Below w.heap.size w wr)
    (fun i _ => l.length - (intOf i).toNat)
  case atStart => exact ⟨0, Nat.zero_le _, rfl, rfl, Below.refl _ _⟩
  case round =>
    obtain ⟨k, hk, rfl, HT, hb⟩ := hrel
    by_cases hlt : k < l.length
    · obtain ⟨b, o, rfl, hB, hc⟩ := HW.out (by omega)
      obtain ⟨c0, c1, c2⟩ := hc k l[k] (List.getElem?_eq_getElem hlt)
      clear hc
      rw [← hb.cell hB] at c0 c1 c2
      have HD : Hid _ := takenB_take_succ (s := s) hlt
      have HL : Hid (l[k] ∈ l) := List.getElem_mem hlt
      generalize l[k] = x at *
      cases ht : (x.name.toList == s.toList) with
      | true =>
        have HE : Hid (takenB l s = true) := by
          unfold takenB
          exact List.any_eq_true.2 ⟨x, HL.out, ht⟩
        go_wp2
        go_ret
        exact ⟨ret_bool HE.out.symm, hb.alloc hb.size _⟩
      | false =>
        have HE : Hid (takenB (l.take (k + 1)) s = false) := by
          rw [HD.out, HT.out]; exact ht
        go_wp2
        go_roundw
        case rel => exact ⟨k + 1, by omega, by go_num, HE, hb.alloc hb.size _⟩
        case measure => simp [intOf]; omega
    · go_wp2
      go_ret
      exact ⟨ret_bool (by rw [← HT.out, List.take_of_length_le (by omega)]), hb⟩

theorem parAt_of {l : List Seg} {k : Nat} {s : Seg} (h : l[k]? = some s) : parAt l k = s.par := by unfold parAt; rw [h]
theorem Segs.get {w : World} {b o : Nat} {l : List Seg} (h : ∀ (k : Nat) (s : Seg), l[k]? = some s →
    w.cell? ⟨b, o + k * 3, none⟩ = some (.string s.name) ∧ w.cell? ⟨b, o + k * 3 + 1, none⟩ = some (.int .i64 s.size) ∧ w.cell? ⟨b, o + k * 3 + 2, none⟩ = some (.int .i64 s.par)) {k : Nat} (hk : k < l.length) :
    w.cell? ⟨b, o + k * 3 + 2, none⟩ = some (.int .i64 (parAt l k)) := by
  rw [parAt_of (List.getElem?_eq_getElem hk)]
  exact (h k _ (List.getElem?_eq_getElem hk)).2.2

set_option maxHeartbeats 400000 in
theorem parentFits_any (A : Option Addr) (l : List Seg) (c : Nat) (i : Nat) (w : World) (hw : Segs w w.heap.size A l) (hl : l.length ≤ 1048576) (hi : i < l.length) (hd : Down l i) :
    Calls Tryd.prog 59 #[.slice A l.length c, .int .i64 i] w fun e w' => e = .returned (.bool (parOk l i)) ∧ w = w' := by
  obtain ⟨b, o, rfl, hB, hc⟩ := hw (by omega)
  have HC := Lib.hid hc
  clear hc hw
  by_cases h0 : i = 0
  · subst h0
    have hp := Segs.get HC.out hi
    have HF : Hid (parOk l 0 = (parAt l 0 == -1)) := rfl
    simp only [Nat.zero_mul, Nat.add_zero] at hp
    generalize parAt l 0 = q at *
    go_enter Tryd.func59, Tryd.ntmps59
    go_wp2
    go_ret
    exact ⟨ret_bool HF.out.symm, rfl⟩
  · have HF : Hid (parOk l i = (chain l i ((i : Int) - 1)).contains (parAt l i)) := if_neg h0
    have hz : ((i : Int) == 0) = false := by rw [beq_eq_false_iff_ne]; omega
    have hp := Segs.get HC.out hi
    go_enter Tryd.func59, Tryd.ntmps59
    go_wp2
    have HP := Lib.hid hp
    have HD := Lib.hid hd
    clear hp hd
    go_loop [5] (fun v => ∃ q : Int, v = .int .i64 q ∧ -1 ≤ q ∧ q < i ∧ Hid ((chain l i ((i : Int) - 1)).contains (parAt l i) = (chain l i q).contains (parAt l i)))
      (fun v => (intOf v + 1).toNat)
    case atStart => exact ⟨_, rfl, by omega, by omega, rfl⟩
    case round =>
      obtain ⟨q, rfl, hq, hqi, HN⟩ := hrel
      by_cases hz1 : q = -1
      · subst hz1
        have HE : Hid ((chain l i (-1)).contains (parAt l i) = false) := by
          cases i with
          | zero => rfl
          | succ i => rfl
        go_wp2
        go_ret
        exact ⟨ret_bool (by rw [HF.out, HN.out, HE.out]), rfl⟩
      · obtain ⟨n, rfl⟩ := Int.eq_ofNat_of_zero_le (show 0 ≤ q by omega)
        have hne : ((n : Int) != -1) = true := by rw [bne_iff_ne]; omega
        have hx := Segs.get HC.out (k := n) (by omega)
        have hx' := HP.out
        have HQ := Lib.hid (HD.out n (by omega))
        have HE : Hid ((chain l i n).contains (parAt l i) = ((parAt l i == (n : Int)) || (chain l i (parAt l n)).contains (parAt l i))) := by
          have hch : chain l (i + 1) (n : Int) = (n : Int) :: chain l i (parAt l n) := by
            simp only [chain, Int.toNat_natCast]
            rw [if_neg (by omega)]
          show List.contains _ _ = _
          rw [chain_fuel (k := i) HD.out i (i + 1) n (by omega) (by omega) (by omega), hch, List.contains_cons]
        cases ht : (parAt l i == (n : Int)) with
        | true =>
          rw [ht] at HE
          generalize parAt l i = pi at *
          generalize parAt l n = pn at *
          go_wp2
          go_ret
          exact ⟨ret_bool (by rw [HF.out, HN.out, HE.out]; rfl), rfl⟩
        | false =>
          rw [ht] at HE
          have HG : Hid ((chain l i ((i : Int) - 1)).contains (parAt l i) = (chain l i (parAt l n)).contains (parAt l i)) := HN.out.trans (HE.out.trans (Bool.false_or _))
          clear HN HE
          generalize parAt l i = pi at *
          generalize parAt l n = pn at *
          go_wp2
          go_round
          case rel => exact ⟨pn, rfl, by have := HQ.out; omega, by have := HQ.out; omega, HG⟩
          case measure => have := HQ.out; simp [intOf]; omega

end Go.Proofs.YtdbddockmdkmeaaDoor
