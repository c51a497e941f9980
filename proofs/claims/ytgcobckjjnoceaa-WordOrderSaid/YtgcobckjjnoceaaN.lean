/- Plain mathematics: the order of bytes is the order of numbers. -/
import Derived.Test.YtgcobckjjnoceaaW3
import Derived.Laws.Strings
namespace Go.Proofs.Ytgcobckjjnoceaa

theorem fold_num (l : List UInt8) : ∀ a : Nat, l.foldl (fun a b => 256 * a + b.toNat) a = a * 256 ^ l.length + num l := by
  induction l with
  | nil => intro a; simp [num]
  | cons c l ih =>
    intro a
    simp only [List.foldl_cons, num, List.length_cons]
    rw [ih, ih (256 * 0 + c.toNat)]
    simp only [Nat.pow_succ, Nat.mul_zero, Nat.zero_add, Nat.add_mul]
    have e : 256 * a * 256 ^ l.length = a * (256 ^ l.length * 256) := by
      rw [Nat.mul_comm 256 a, Nat.mul_assoc, Nat.mul_comm 256]
    omega
theorem num_cons (c : UInt8) (l : List UInt8) : num (c :: l) = c.toNat * 256 ^ l.length + num l := by
  have h := fold_num l (256 * 0 + c.toNat)
  simpa [num] using h
theorem less_num : ∀ (x y : List UInt8), x.length = y.length → Op.bytesLess x y = decide (num x < num y)
  | [], [], _ => by simp [Op.bytesLess, num]
  | [], _ :: _, h => by simp at h
  | _ :: _, [], h => by simp at h
  | a :: x, b :: y, h => by
    have hl : x.length = y.length := by simpa using h
    have ih := less_num x y hl
    have hx := num_lt x
    have hy := num_lt y
    rw [Op.bytesLess, ih, num_cons, num_cons, hl]
    rw [hl] at hx
    generalize 256 ^ y.length = q at *
    rw [Bool.eq_iff_iff]
    simp only [Bool.or_eq_true, Bool.and_eq_true, decide_eq_true_eq, beq_iff_eq]
    constructor
    · rintro (h1 | ⟨h1, h2⟩)
      · have h3 : a.toNat < b.toNat := h1
        have h4 : (a.toNat + 1) * q ≤ b.toNat * q := Nat.mul_le_mul_right q h3
        rw [Nat.add_mul] at h4
        omega
      · subst h1; omega
    · intro h1
      by_cases h2 : a.toNat < b.toNat
      · exact Or.inl h2
      · by_cases h3 : a.toNat = b.toNat
        · have h4 : a = b := UInt8.toNat_inj.1 h3
          subst h4
          exact Or.inr ⟨rfl, by omega⟩
        · have h4 : (b.toNat + 1) * q ≤ a.toNat * q := Nat.mul_le_mul_right q (by omega)
          rw [Nat.add_mul] at h4
          omega

theorem room_nat {n : Int} {m : Nat} (hn : 0 ≤ n) (h : n / 2 ^ (8 * m) = 0) : n.toNat < 256 ^ m := by
  rw [← pow256]
  have hp : (0 : Int) < 2 ^ (8 * m) := Int.pow_pos (by omega)
  have h1 : n < 2 ^ (8 * m) := by
    have := Int.ediv_mul_add_emod n (2 ^ (8 * m))
    have := Int.emod_lt_of_pos n hp
    rw [h] at *
    omega
  have h2 : ((2 ^ (8 * m) : Nat) : Int) = 2 ^ (8 * m) := by simp
  omega

theorem order_less {n m k : Int} (hn : U64 n) (hm : U64 m) (h1 : putB n k = true) (h2 : putB m k = true) :
    decide (n < m) = Op.bytesLess (putS n k).toList (putS m k).toList ∧ (n == m) = ((putS n k).toList == (putS m k).toList) := by
  have e1 : putS n k = bytesOf k.toNat n := by unfold putS; rw [h1]; simp
  have e2 : putS m k = bytesOf k.toNat m := by unfold putS; rw [h2]; simp
  have p1 : 1 ≤ k ∧ k ≤ 8 ∧ n / 2 ^ (8 * k.toNat) = 0 := by simpa [putB] using h1
  have p2 : 1 ≤ k ∧ k ≤ 8 ∧ m / 2 ^ (8 * k.toNat) = 0 := by simpa [putB] using h2
  have r1 := room_nat hn.1 p1.2.2
  have r2 := room_nat hm.1 p2.2.2
  have n1 := num_be _ _ r1
  have n2 := num_be _ _ r2
  have q1 := hn.1
  have q2 := hm.1
  rw [e1, e2]
  unfold bytesOf
  rw [ByteArray.toList_mk, ByteArray.toList_mk, less_num _ _ (by rw [be_length, be_length]), n1, n2]
  refine ⟨by rw [decide_eq_decide]; omega, ?_⟩
  rw [Bool.eq_iff_iff, beq_iff_eq, beq_iff_eq]
  constructor
  · intro h; rw [h]
  · intro h
    have h3 := congrArg num h
    rw [n1, n2] at h3
    omega

theorem u64_wf {n : Int} (h : (Lit.int .u64 n).wf = true) : U64 n := by
  simpa [U64, Lit.wf, IntKind.min, IntKind.max, IntKind.signed, IntKind.bits] using h
theorem i64_wf {n : Int} (h : (Lit.int .i64 n).wf = true) : -9223372036854775808 ≤ n ∧ n ≤ 9223372036854775807 := by
  simpa [Lit.wf, IntKind.min, IntKind.max, IntKind.signed, IntKind.bits] using h
theorem u8_wf {n : Int} (h : (Lit.int .u8 n).wf = true) : 0 ≤ n ∧ n ≤ 255 := by
  simpa [Lit.wf, IntKind.min, IntKind.max, IntKind.signed, IntKind.bits] using h
theorem u16_wf {n : Int} (h : (Lit.int .u16 n).wf = true) : 0 ≤ n ∧ n ≤ 65535 := by
  simpa [Lit.wf, IntKind.min, IntKind.max, IntKind.signed, IntKind.bits] using h

end Go.Proofs.Ytgcobckjjnoceaa
