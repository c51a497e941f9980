/- Plain mathematics: masters and their sectors. -/
import Derived.Test.YtfcibccipkokoaaCM3
import Derived.Test.YtfcibccipkokoaaUM
namespace Go.Proofs.Ytfcibccipkokoaa.Mas
open Go.Proofs.Ytfcibccipkokoaa.Rec (nb nb_size nb_list app_list mid_list be_num)
open Go.Proofs.Ytfcibccipkokoaa.Sum (sealL sealL_length isSealed sealed_sealL val)

/-- a master -/
structure Ms where
  count : Nat
  life : Nat
  check : Nat
  first : Nat
  clean : Bool
instance : DecidableEq Ms := fun a b => decidable_of_iff (a.count = b.count ∧ a.life = b.life ∧ a.check = b.check ∧ a.first = b.first ∧ a.clean = b.clean) ⟨by obtain ⟨p, q, r, s, t⟩ := a; obtain ⟨x, y, z, u, v⟩ := b; rintro ⟨h1, h2, h3, h4, h5⟩; simp only at h1 h2 h3 h4 h5; rw [h1, h2, h3, h4, h5], by rintro rfl; exact ⟨rfl, rfl, rfl, rfl, rfl⟩⟩
structure Ms.wf (m : Ms) : Prop where
  count : m.count < 18446744073709551616
  life : m.life < 18446744073709551616
  check : m.check < 18446744073709551616
  first : m.first < 18446744073709551616
def Ms.zero : Ms := ⟨0, 0, 0, 0, false⟩
theorem Ms.zero_wf : Ms.zero.wf := ⟨by decide, by decide, by decide, by decide⟩
def okM (m : Ms) : Bool := decide (0 < m.count) && (decide (0 < m.life) && (decide (0 < m.first) && (decide (m.check = 0) || decide (m.first ≤ m.check))))

/-! ### its sector -/
def flag (b : Bool) : UInt8 := if b then 1 else 0
def zerosL (n : Nat) : List UInt8 := List.replicate n 0
/-- the parts ahead of the zeros -/
def headL (m : Ms) : List UInt8 := [1] ++ be 8 m.count ++ be 8 m.life ++ be 8 m.check ++ be 8 m.first
def bodyL (m : Ms) : List UInt8 := headL m ++ [flag m.clean] ++ zerosL 90
def secL (m : Ms) : List UInt8 := sealL (bodyL m)
def encL (m : Ms) : List UInt8 := if okM m then secL m else []
def encB (m : Ms) : ByteArray := ⟨(encL m).toArray⟩
def encE (m : Ms) : Int := if okM m then 0 else 2
theorem zerosL_len (n : Nat) : (zerosL n).length = n := List.length_replicate
theorem headL_len (m : Ms) : (headL m).length = 33 := by simp only [headL, List.length_append, be_length, List.length_cons, List.length_nil]
theorem bodyL_len (m : Ms) : (bodyL m).length = 124 := by simp only [bodyL, List.length_append, headL_len, zerosL_len, List.length_cons, List.length_nil]
theorem secL_len (m : Ms) : (secL m).length = 128 := by unfold secL; rw [sealL_length, bodyL_len]
theorem enc_yes {m : Ms} (h : okM m = true) : encL m = secL m := by unfold encL; rw [if_pos h]
theorem enc_no {m : Ms} (h : okM m = false) : encL m = [] := by unfold encL; rw [if_neg (by rw [h]; decide)]
theorem enc_len {m : Ms} (h : okM m = true) : (encL m).length = 128 := by rw [enc_yes h, secL_len]
theorem encE_yes {m : Ms} (h : okM m = true) : encE m = 0 := by unfold encE; rw [if_pos h]
theorem encE_no {m : Ms} (h : okM m = false) : encE m = 2 := by unfold encE; rw [if_neg (by rw [h]; decide)]
theorem encB_size {m : Ms} (h : okM m = true) : (encB m).size = 128 := by show (encL m).toArray.size = 128; rw [List.size_toArray, enc_len h]
theorem encB_list (m : Ms) : (encB m).data.toList = encL m := rfl

/-! ### what a text tells -/
def numA (s : ByteArray) (a : Nat) : Nat := if a + 8 ≤ s.size then numAt s a 8 else 0
def clA (s : ByteArray) (a : Nat) : Bool := decide (s.data.toList[a]? = some 1)
def rdM (s : ByteArray) : Ms := ⟨numA s 1, numA s 9, numA s 17, numA s 25, clA s 33⟩
def isM (s : ByteArray) : Bool := okM (rdM s) && decide (encB (rdM s) = s)
def decM (s : ByteArray) : Ms := if isM s then rdM s else Ms.zero
def decE (s : ByteArray) : Int := if isM s then 0 else 7

theorem numA_lt (s : ByteArray) (a : Nat) : numA s a < 18446744073709551616 := by
  unfold numA
  split
  · have := numAt_lt s a 8
    exact Nat.lt_of_lt_of_eq this (by decide)
  · decide
theorem rd_wf (s : ByteArray) : (rdM s).wf := ⟨numA_lt s 1, numA_lt s 9, numA_lt s 17, numA_lt s 25⟩
theorem dec_wf (s : ByteArray) : (decM s).wf := by
  unfold decM
  split
  · exact rd_wf s
  · exact Ms.zero_wf
theorem isM_size {s : ByteArray} (h : isM s = true) : s.size = 128 := by
  unfold isM at h
  simp only [Bool.and_eq_true, decide_eq_true_eq] at h
  rw [← h.2]
  exact encB_size h.1
theorem isM_enc {s : ByteArray} (h : isM s = true) : encB (rdM s) = s ∧ okM (rdM s) = true := by
  unfold isM at h
  simp only [Bool.and_eq_true, decide_eq_true_eq] at h
  exact ⟨h.2, h.1⟩
theorem dec_yes {s : ByteArray} (h : isM s = true) : decM s = rdM s ∧ decE s = 0 := by unfold decM decE; rw [if_pos h, if_pos h]; exact ⟨rfl, rfl⟩
theorem dec_no {s : ByteArray} (h : isM s = false) : decM s = Ms.zero ∧ decE s = 7 := by unfold decM decE; rw [if_neg (by rw [h]; decide), if_neg (by rw [h]; decide)]; exact ⟨rfl, rfl⟩

theorem num_in (A B : List UInt8) (a n : Nat) (ha : A.length = a) (hn : n < 18446744073709551616) : numA ⟨(A ++ be 8 n ++ B).toArray⟩ a = n := by
  have hs : a + 8 ≤ (⟨(A ++ be 8 n ++ B).toArray⟩ : ByteArray).size := by
    show a + 8 ≤ (A ++ be 8 n ++ B).toArray.size
    rw [List.size_toArray, List.length_append, List.length_append, be_length]
    omega
  unfold numA
  rw [if_pos hs]
  show num (((A ++ be 8 n ++ B).drop a).take 8) = n
  rw [mid_list _ _ _ a 8 ha (be_length 8 n), num_be 8 n (Nat.lt_of_lt_of_eq hn (by decide))]
theorem rd_sec {m : Ms} (h : m.wf) : rdM ⟨(secL m).toArray⟩ = m := by
  obtain ⟨c, l, k, f, b⟩ := m
  obtain ⟨h1, h2, h3, h4⟩ := h
  simp only at h1 h2 h3 h4
  have e1 : numA ⟨(secL ⟨c, l, k, f, b⟩).toArray⟩ 1 = c := by
    have := num_in [1] (be 8 l ++ be 8 k ++ be 8 f ++ [flag b] ++ zerosL 90 ++ Sum.le4 (Sum.sumOf (bodyL ⟨c, l, k, f, b⟩))) 1 c rfl h1
    refine Eq.trans (congrArg (fun x : List UInt8 => numA ⟨x.toArray⟩ 1) ?_) this
    simp only [secL, sealL, bodyL, headL, List.append_assoc, List.cons_append, List.nil_append]
  have e2 : numA ⟨(secL ⟨c, l, k, f, b⟩).toArray⟩ 9 = l := by
    have := num_in ([1] ++ be 8 c) (be 8 k ++ be 8 f ++ [flag b] ++ zerosL 90 ++ Sum.le4 (Sum.sumOf (bodyL ⟨c, l, k, f, b⟩))) 9 l (by simp [be_length]) h2
    refine Eq.trans (congrArg (fun x : List UInt8 => numA ⟨x.toArray⟩ 9) ?_) this
    simp only [secL, sealL, bodyL, headL, List.append_assoc, List.cons_append, List.nil_append]
  have e3 : numA ⟨(secL ⟨c, l, k, f, b⟩).toArray⟩ 17 = k := by
    have := num_in ([1] ++ be 8 c ++ be 8 l) (be 8 f ++ [flag b] ++ zerosL 90 ++ Sum.le4 (Sum.sumOf (bodyL ⟨c, l, k, f, b⟩))) 17 k (by simp [be_length]) h3
    refine Eq.trans (congrArg (fun x : List UInt8 => numA ⟨x.toArray⟩ 17) ?_) this
    simp only [secL, sealL, bodyL, headL, List.append_assoc, List.cons_append, List.nil_append]
  have e4 : numA ⟨(secL ⟨c, l, k, f, b⟩).toArray⟩ 25 = f := by
    have := num_in ([1] ++ be 8 c ++ be 8 l ++ be 8 k) ([flag b] ++ zerosL 90 ++ Sum.le4 (Sum.sumOf (bodyL ⟨c, l, k, f, b⟩))) 25 f (by simp [be_length]) h4
    refine Eq.trans (congrArg (fun x : List UInt8 => numA ⟨x.toArray⟩ 25) ?_) this
    simp only [secL, sealL, bodyL, headL, List.append_assoc, List.cons_append, List.nil_append]
  have e5 : clA ⟨(secL ⟨c, l, k, f, b⟩).toArray⟩ 33 = b := by
    unfold clA
    have : (secL ⟨c, l, k, f, b⟩)[33]? = some (flag b) := by
      unfold secL sealL bodyL
      have hl := headL_len ⟨c, l, k, f, b⟩
      rw [List.append_assoc, List.append_assoc, List.getElem?_append_right (by omega), hl]
      rfl
    show decide ((secL ⟨c, l, k, f, b⟩)[33]? = some 1) = b
    rw [this]
    cases b <;> decide
  unfold rdM
  rw [e1, e2, e3, e4, e5]
theorem isM_sec {m : Ms} (h : m.wf) (k : okM m = true) : isM (encB m) = true := by
  have e : encB m = ⟨(secL m).toArray⟩ := by unfold encB; rw [enc_yes k]
  unfold isM
  rw [e, rd_sec h, k, ← e]
  simp
theorem dec_enc {m : Ms} (h : m.wf) (k : okM m = true) : decM (encB m) = m ∧ decE (encB m) = 0 := by
  have e : encB m = ⟨(secL m).toArray⟩ := by unfold encB; rw [enc_yes k]
  obtain ⟨h1, h2⟩ := dec_yes (isM_sec h k)
  exact ⟨by rw [h1, e, rd_sec h], h2⟩
theorem enc_inj {m n : Ms} (h : m.wf) (k : n.wf) (hm : okM m = true) (hn : okM n = true) (e : encB m = encB n) : m = n := by
  rw [← (dec_enc h hm).1, ← (dec_enc k hn).1, e]
/-- a sector is sealed -/
theorem isM_sealed {s : ByteArray} (h : isM s = true) : isSealed s.data.toList = true := by
  obtain ⟨h1, h2⟩ := isM_enc h
  rw [← h1, encB_list, enc_yes h2]
  exact sealed_sealL _

/-! ### one byte is another one -/
theorem val_set (l : List UInt8) (j : Nat) (hj : j < l.length) (x : UInt8) : val (l.set j (l[j] ^^^ x)) = val l ^^^ 2 ^ (8 * j) * x.toNat := by
  have two_xor : ∀ m a b : Nat, 2 ^ m * (a ^^^ b) = 2 ^ m * a ^^^ 2 ^ m * b := fun m a b => by
    have := Nat.shiftLeft_xor_distrib (a := a) (b := b) (i := m)
    rw [Nat.shiftLeft_eq, Nat.shiftLeft_eq, Nat.shiftLeft_eq] at this
    rw [Nat.mul_comm, this, Nat.mul_comm a, Nat.mul_comm b]
  induction l generalizing j with
  | nil => simp at hj
  | cons b r ih =>
    cases j with
    | zero =>
      simp only [List.set_cons_zero, List.getElem_cons_zero]
      rw [Sum.val_cons, Sum.val_cons]
      simp only [UInt8.toNat_xor, Nat.mul_zero, Nat.pow_zero, Nat.one_mul]
      rw [Nat.xor_assoc, Nat.xor_comm x.toNat, ← Nat.xor_assoc]
    | succ j =>
      simp only [List.set_cons_succ, List.getElem_cons_succ]
      rw [Sum.val_cons, Sum.val_cons, ih j (by simpa using hj), two_xor, ← Nat.mul_assoc, ← Nat.pow_add, Nat.xor_assoc]
      congr 4
      omega
theorem turned_none {s : ByteArray} (h : isM s = true) (j : Nat) (hj : j < s.data.toList.length) (x : UInt8) (hx : x ≠ 0) : isM ⟨(s.data.toList.set j (s.data.toList[j] ^^^ x)).toArray⟩ = false := by
  cases hk : isM ⟨(s.data.toList.set j (s.data.toList[j] ^^^ x)).toArray⟩ with
  | false => rfl
  | true =>
    have h2 : isSealed (s.data.toList.set j (s.data.toList[j] ^^^ x)) = true := isM_sealed hk
    have := Sum.turned_not (k := 8 * j) (m := x.toNat) (isM_sealed h) (by simp) (by omega) (by have := x.toNat_lt; omega) (val_set _ j hj x) h2
    exact absurd (UInt8.toNat_inj.1 (by rw [this]; rfl)) hx

/-! ### which of two is loaded -/
def stands (s : ByteArray) (k : Nat) : Bool := isM s && decide ((rdM s).count % 2 = k)
def loadO (a b : ByteArray) : Option Ms :=
  if stands a 0 && (!stands b 1 || decide ((rdM b).count < (rdM a).count)) then some (rdM a) else if stands b 1 then some (rdM b) else none
def loadM (a b : ByteArray) : Ms := (loadO a b).getD Ms.zero
def loadE (a b : ByteArray) : Int := if (loadO a b).isSome then 0 else 120
theorem okM_count {m : Ms} (h : okM m = true) : 0 < m.count := by
  unfold okM at h
  simp only [Bool.and_eq_true, decide_eq_true_eq] at h
  exact h.1
theorem okM_mk {m : Ms} (h1 : 0 < m.count) (h2 : 0 < m.life) (h3 : 0 < m.first) (h4 : m.check = 0 ∨ m.first ≤ m.check) : okM m = true := by
  unfold okM
  simp only [Bool.and_eq_true, decide_eq_true_eq, Bool.or_eq_true]
  exact ⟨h1, h2, h3, h4⟩
end Go.Proofs.Ytfcibccipkokoaa.Mas
