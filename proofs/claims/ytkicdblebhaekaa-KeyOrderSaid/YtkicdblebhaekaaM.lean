/- Plain mathematics of the order of texts. -/
import Derived.Lib.Bytealg
namespace Go.Proofs.Ytkicdblebhaekaa.Key

/-- how many bytes both begin with alike -/
def com : List UInt8 → List UInt8 → Nat
  | a :: as, b :: bs => if a = b then com as bs + 1 else 0
  | _, _ => 0
def cmp (a b : List UInt8) : Int := Lib.compareBytes a b

theorem cmp_nil : cmp [] [] = 0 := rfl
theorem cmp_nil_cons (b : UInt8) (bs : List UInt8) : cmp [] (b :: bs) = -1 := rfl
theorem cmp_cons_nil (b : UInt8) (bs : List UInt8) : cmp (b :: bs) [] = 1 := rfl
theorem cmp_cons (a b : UInt8) (as bs : List UInt8) : cmp (a :: as) (b :: bs) = if a < b then -1 else if b < a then 1 else cmp as bs := rfl
theorem cmp_cons_lt {a b : UInt8} (as bs : List UInt8) (h : a.toNat < b.toNat) : cmp (a :: as) (b :: bs) = -1 := by
  rw [cmp_cons, if_pos (UInt8.lt_iff_toNat_lt.2 h)]
theorem cmp_cons_gt {a b : UInt8} (as bs : List UInt8) (h : b.toNat < a.toNat) : cmp (a :: as) (b :: bs) = 1 := by
  rw [cmp_cons, if_neg (by rw [UInt8.lt_iff_toNat_lt]; omega), if_pos (UInt8.lt_iff_toNat_lt.2 h)]
theorem cmp_cons_same (a : UInt8) (as bs : List UInt8) : cmp (a :: as) (a :: bs) = cmp as bs := by
  rw [cmp_cons, if_neg (UInt8.lt_irrefl a), if_neg (UInt8.lt_irrefl a)]

theorem byte_three (a b : UInt8) : a.toNat < b.toNat ∨ a = b ∨ b.toNat < a.toNat := by
  rcases Nat.lt_trichotomy a.toNat b.toNat with h | h | h
  · exact .inl h
  · exact .inr (.inl (UInt8.toNat_inj.1 h))
  · exact .inr (.inr h)

theorem cmp_range : ∀ a b : List UInt8, -1 ≤ cmp a b ∧ cmp a b ≤ 1
  | [], [] => by rw [cmp_nil]; omega
  | [], _ :: _ => by rw [cmp_nil_cons]; omega
  | _ :: _, [] => by rw [cmp_cons_nil]; omega
  | a :: as, b :: bs => by
    rcases byte_three a b with h | rfl | h
    · rw [cmp_cons_lt _ _ h]; omega
    · rw [cmp_cons_same]; exact cmp_range as bs
    · rw [cmp_cons_gt _ _ h]; omega
theorem cmp_neg : ∀ a b : List UInt8, cmp b a = -cmp a b
  | [], [] => rfl
  | [], _ :: _ => rfl
  | _ :: _, [] => rfl
  | a :: as, b :: bs => by
    rcases byte_three a b with h | rfl | h
    · rw [cmp_cons_lt _ _ h, cmp_cons_gt _ _ h]; rfl
    · rw [cmp_cons_same, cmp_cons_same]; exact cmp_neg as bs
    · rw [cmp_cons_gt _ _ h, cmp_cons_lt _ _ h]
theorem cmp_zero : ∀ a b : List UInt8, cmp a b = 0 ↔ a = b
  | [], [] => by simp [cmp_nil]
  | [], _ :: _ => by simp [cmp_nil_cons]
  | _ :: _, [] => by simp [cmp_cons_nil]
  | a :: as, b :: bs => by
    rcases byte_three a b with h | rfl | h
    · rw [cmp_cons_lt _ _ h]
      constructor
      · intro h2; omega
      · rintro h2; injection h2 with h3; subst h3; omega
    · rw [cmp_cons_same, cmp_zero as bs]; simp
    · rw [cmp_cons_gt _ _ h]
      constructor
      · intro h2; omega
      · rintro h2; injection h2 with h3; subst h3; omega
theorem cmp_trans : ∀ a b c : List UInt8, cmp a b ≤ 0 → cmp b c ≤ 0 → cmp a c ≤ 0
  | [], _, [], _, _ => by rw [cmp_nil]; omega
  | [], _, _ :: _, _, _ => by rw [cmp_nil_cons]; omega
  | a :: as, [], c, h, _ => by rw [cmp_cons_nil] at h; omega
  | a :: as, b :: bs, [], _, h => by rw [cmp_cons_nil] at h; omega
  | a :: as, b :: bs, c :: cs, h1, h2 => by
    rcases byte_three a b with h | rfl | h
    · rcases byte_three b c with h3 | rfl | h3
      · rw [cmp_cons_lt _ _ (by omega)]; omega
      · rw [cmp_cons_lt _ _ (by omega)]; omega
      · rw [cmp_cons_gt _ _ h3] at h2; omega
    · rcases byte_three a c with h3 | rfl | h3
      · rw [cmp_cons_lt _ _ (by omega)]; omega
      · rw [cmp_cons_same] at h1 h2 ⊢; exact cmp_trans as bs cs h1 h2
      · rw [cmp_cons_gt _ _ h3] at h2; omega
    · rw [cmp_cons_gt _ _ h] at h1; omega
theorem cmp_longer : ∀ (a : List UInt8) (x : UInt8) (l : List UInt8), cmp a (a ++ x :: l) = -1
  | [], _, _ => rfl
  | a :: as, x, l => by rw [List.cons_append, cmp_cons_same]; exact cmp_longer as x l

theorem com_le : ∀ a b : List UInt8, com a b ≤ a.length ∧ com a b ≤ b.length
  | [], _ => by simp [com]
  | _ :: _, [] => by simp [com]
  | a :: as, b :: bs => by
    have h := com_le as bs
    unfold com
    split
    · simp; omega
    · simp
theorem com_take : ∀ a b : List UInt8, a.take (com a b) = b.take (com a b)
  | [], _ => by simp [com]
  | _ :: _, [] => by simp [com]
  | a :: as, b :: bs => by
    have h := com_take as bs
    unfold com
    split
    · rename_i e; subst e; rw [List.take_succ_cons, List.take_succ_cons, h]
    · rfl
theorem com_next : ∀ (a b : List UInt8) (h1 : com a b < a.length) (h2 : com a b < b.length), a[com a b] ≠ b[com a b]
  | [], _, h1, _ => by simp at h1
  | _ :: _, [], _, h2 => by simp at h2
  | a :: as, b :: bs, h1, h2 => by
    have ih := com_next as bs
    by_cases e : a = b
    · have e2 : com (a :: as) (b :: bs) = com as bs + 1 := by show (if a = b then _ else _) = _; rw [if_pos e]
      simp only [e2, List.length_cons, List.getElem_cons_succ] at h1 h2 ⊢
      exact ih (by omega) (by omega)
    · have e2 : com (a :: as) (b :: bs) = 0 := by show (if a = b then _ else _) = _; rw [if_neg e]
      simp only [e2, List.getElem_cons_zero]
      exact e
/-- who is ahead of b shares less than all of b -/
theorem com_lt : ∀ a b : List UInt8, cmp a b < 0 → com a b < b.length
  | [], [], h => by rw [cmp_nil] at h; omega
  | [], _ :: _, _ => by simp [com]
  | _ :: _, [], h => by rw [cmp_cons_nil] at h; omega
  | a :: as, b :: bs, h => by
    unfold com
    split
    · rename_i e; subst e; rw [cmp_cons_same] at h
      have := com_lt as bs h
      simp; omega
    · simp

/-- the three of a range: what is within a and c is within just one of the parts at b -/
theorem cmp_parts (k a b c : List UInt8) (h : cmp a b ≤ 0) (hb : b ≠ []) (hc : c = [] ∨ cmp b c ≤ 0) :
    (decide (cmp k a ≥ 0) && (decide (c = []) || decide (cmp k c < 0))) = ((decide (cmp k a ≥ 0) && (decide (b = []) || decide (cmp k b < 0))) != (decide (cmp k b ≥ 0) && (decide (c = []) || decide (cmp k c < 0)))) := by
  rw [decide_eq_false hb, Bool.false_or]
  by_cases h1 : cmp k b < 0
  · have h2 : ¬ cmp k b ≥ 0 := by omega
    rw [decide_eq_true h1, decide_eq_false h2, Bool.and_true, Bool.false_and, Bool.bne_false]
    have h3 : decide (c = []) || decide (cmp k c < 0) := by
      rcases hc with hc | hc
      · simp [hc]
      · have h4 := cmp_trans k b c (by omega) hc
        have h5 : cmp k c ≠ 0 := by
          intro h6
          rw [cmp_zero] at h6
          subst h6
          have := cmp_neg b k
          omega
        simp; right; omega
    rw [h3, Bool.and_true]
  · have h2 : cmp k b ≥ 0 := by omega
    have h3 : cmp k a ≥ 0 := by
      have e1 := cmp_neg k a
      have e2 := cmp_neg k b
      have e3 := cmp_trans a b k h (by omega)
      omega
    rw [decide_eq_false h1, decide_eq_true h2, decide_eq_true h3]
    simp

theorem drop_step (l : List UInt8) (k : Nat) (h : k < l.length) : l.drop k = l[k] :: l.drop (k + 1) := List.drop_eq_getElem_cons h

end Go.Proofs.Ytkicdblebhaekaa.Key
