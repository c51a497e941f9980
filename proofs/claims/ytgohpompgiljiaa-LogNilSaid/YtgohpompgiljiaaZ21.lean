/-
  Plain mathematics: bits that are turned in a text (any stage).
-/
import Derived.Test.YtgohpompgiljiaaZ18
namespace Go.Proofs.Ytgohpompgiljiaa.Bits
open Go.Proofs.Ytgohpompgiljiaa.Sum (val val_cons len_of_val val_lt)

theorem val_append (l m : List UInt8) : val (l ++ m) = val l + 2 ^ (8 * l.length) * val m := by
  induction l with
  | nil => simp [val]
  | cons b l ih =>
    have e : 8 * (b :: l).length = 8 + 8 * l.length := by simp; omega
    show b.toNat + 256 * val (l ++ m) = b.toNat + 256 * val l + _
    rw [ih, e, Nat.pow_add, Nat.mul_add, Nat.mul_assoc, Nat.add_assoc]
theorem two_xor (m a b : Nat) : 2 ^ m * (a ^^^ b) = 2 ^ m * a ^^^ 2 ^ m * b := by
  apply Nat.eq_of_testBit_eq
  intro i
  simp only [Nat.testBit_xor, Nat.testBit_two_pow_mul]
  by_cases h8 : m ≤ i <;> simp [h8]
theorem val_set (l : List UInt8) (j : Nat) (hj : j < l.length) (x : UInt8) : val (l.set j (l[j] ^^^ x)) = val l ^^^ 2 ^ (8 * j) * x.toNat := by
  induction l generalizing j with
  | nil => simp at hj
  | cons b l ih =>
    match j with
    | 0 =>
      show val ((b ^^^ x) :: l) = _
      rw [val_cons, val_cons, UInt8.toNat_xor, Nat.mul_zero, Nat.pow_zero, Nat.one_mul, Nat.xor_assoc, Nat.xor_assoc, Nat.xor_comm x.toNat]
    | j + 1 =>
      have hj2 : j < l.length := by simpa using hj
      show val (b :: l.set j (l[j] ^^^ x)) = _
      have e : 8 * (j + 1) = 8 + 8 * j := by omega
      rw [val_cons, val_cons, ih j hj2, two_xor, e, Nat.pow_add, Nat.mul_assoc, Nat.xor_assoc]

/-- the lowest i + 1 bits, out of the lowest i -/
theorem low_one (T i : Nat) (h : T / 2 ^ i % 2 = 1) : T % 2 ^ (i + 1) = T % 2 ^ i ^^^ 2 ^ i := by
  apply Nat.eq_of_testBit_eq
  intro j
  have hb : T.testBit i = true := by simp [Nat.testBit, Nat.shiftRight_eq_div_pow, Nat.one_and_eq_mod_two, h]
  rw [Nat.testBit_xor, Nat.testBit_mod_two_pow, Nat.testBit_mod_two_pow, Nat.testBit_two_pow]
  by_cases h1 : j < i
  · simp [h1, show j < i + 1 by omega, show ¬ i = j by omega]
  · by_cases h2 : j = i
    · subst h2; simp [hb]
    · simp [h1, show ¬ j < i + 1 by omega, show ¬ i = j by omega]
theorem low_none (T i : Nat) (h : T / 2 ^ i % 2 = 0) : T % 2 ^ (i + 1) = T % 2 ^ i := by
  apply Nat.eq_of_testBit_eq
  intro j
  have hb : T.testBit i = false := by simp [Nat.testBit, Nat.shiftRight_eq_div_pow, Nat.one_and_eq_mod_two, h]
  rw [Nat.testBit_mod_two_pow, Nat.testBit_mod_two_pow]
  by_cases h1 : j < i
  · simp [h1, show j < i + 1 by omega]
  · by_cases h2 : j = i
    · subst h2; simp [hb]
    · simp [h1, show ¬ j < i + 1 by omega]

/-- what the text's bytes are once the bits up to i are turned -/
def TurnedTo (t : List UInt8) (k T i : Nat) (u : List UInt8) : Prop := u.length = t.length ∧ val u = val t ^^^ 2 ^ k * (T % 2 ^ i)
theorem TurnedTo.start (t : List UInt8) (k T : Nat) : TurnedTo t k T 0 t := ⟨rfl, by rw [Nat.pow_zero, Nat.mod_one, Nat.mul_zero, Nat.xor_zero]⟩
theorem TurnedTo.none {t : List UInt8} {k T i : Nat} {u : List UInt8} (h : TurnedTo t k T i u) (hb : T / 2 ^ i % 2 = 0) : TurnedTo t k T (i + 1) u := ⟨h.1, by rw [h.2, low_none T i hb]⟩
theorem TurnedTo.one {t : List UInt8} {k T i : Nat} {u : List UInt8} (h : TurnedTo t k T i u) (hb : T / 2 ^ i % 2 = 1) (J R : Nat) (hp : k + i = 8 * J + R) (hR : R < 8) (hJ : J < u.length) :
    TurnedTo t k T (i + 1) (u.set J (u[J] ^^^ UInt8.ofNat (2 ^ R))) := by
  refine ⟨by rw [List.length_set]; exact h.1, ?_⟩
  have e : (UInt8.ofNat (2 ^ R)).toNat = 2 ^ R := by
    have : 2 ^ R < 256 := Nat.lt_of_lt_of_le (Nat.pow_lt_pow_right (by omega) hR) (by decide)
    simp; omega
  rw [val_set, h.2, e, low_one T i hb, two_xor, ← Nat.pow_add, ← Nat.pow_add, hp, Nat.xor_assoc]

theorem test_bit (T i : Nat) : ((T : Int) / 2 ^ i).tmod 2 = ((T / 2 ^ i % 2 : Nat) : Int) := by
  have e : ((T / 2 ^ i : Nat) : Int) = (T : Int) / 2 ^ i := by simp
  rw [← e, Int.tmod_eq_emod_of_nonneg (Int.natCast_nonneg _)]
  simp



/-- bits that are turned behind the first j bytes leave these as they were -/
theorem turned_parts {t u : List UInt8} {j k M : Nat} (hl : u.length = t.length) (hj : j ≤ t.length) (hv : val u = val t ^^^ 2 ^ (8 * j + k) * M) :
    u.take j = t.take j ∧ (u.drop j).length = (t.drop j).length ∧ val (u.drop j) = val (t.drop j) ^^^ 2 ^ k * M := by
  have e1 := val_append (u.take j) (u.drop j)
  have e2 := val_append (t.take j) (t.drop j)
  have l1 : (u.take j).length = j := by rw [List.length_take]; omega
  have l2 : (t.take j).length = j := by rw [List.length_take]; omega
  rw [List.take_append_drop, l1] at e1
  rw [List.take_append_drop, l2] at e2
  have h1 := val_lt (u.take j)
  have h2 := val_lt (t.take j)
  rw [l1] at h1
  rw [l2] at h2
  have hp : 0 < 2 ^ (8 * j) := Nat.two_pow_pos _
  have m1 : val u % 2 ^ (8 * j) = val (u.take j) := by rw [e1, Nat.add_mul_mod_self_left, Nat.mod_eq_of_lt h1]
  have m2 : val t % 2 ^ (8 * j) = val (t.take j) := by rw [e2, Nat.add_mul_mod_self_left, Nat.mod_eq_of_lt h2]
  have d1 : val u / 2 ^ (8 * j) = val (u.drop j) := by rw [e1, Nat.add_mul_div_left _ _ hp, Nat.div_eq_of_lt h1, Nat.zero_add]
  have d2 : val t / 2 ^ (8 * j) = val (t.drop j) := by rw [e2, Nat.add_mul_div_left _ _ hp, Nat.div_eq_of_lt h2, Nat.zero_add]
  refine ⟨len_of_val (by rw [l1, l2]) ?_, by rw [List.length_drop, List.length_drop, hl], ?_⟩
  · rw [← m1, ← m2, hv]
    apply Nat.eq_of_testBit_eq
    intro i
    rw [Nat.testBit_mod_two_pow, Nat.testBit_mod_two_pow, Nat.testBit_xor, Nat.testBit_two_pow_mul]
    by_cases hi : i < 8 * j
    · simp [hi, show ¬ 8 * j + k ≤ i by omega]
    · simp [hi]
  · rw [← d1, ← d2, hv]
    apply Nat.eq_of_testBit_eq
    intro i
    rw [Nat.testBit_xor, Nat.testBit_div_two_pow, Nat.testBit_div_two_pow, Nat.testBit_xor, Nat.testBit_two_pow_mul, Nat.testBit_two_pow_mul]
    by_cases hi : k ≤ i
    · simp [hi, show 8 * j + k ≤ i + 8 * j by omega, show i + 8 * j - (8 * j + k) = i - k by omega]
    · simp [hi, show ¬ 8 * j + k ≤ i + 8 * j by omega]

end Go.Proofs.Ytgohpompgiljiaa.Bits
