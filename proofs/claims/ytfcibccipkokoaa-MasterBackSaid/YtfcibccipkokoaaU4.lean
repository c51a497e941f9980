/- Walks: the number behind a sealed text, and sealing. -/
import Derived.Test.YtfcibccipkokoaaU3
namespace Go.Proofs.Ytfcibccipkokoaa.Sum
open Go.RowKit

theorem val_append (l m : List UInt8) : val (l ++ m) = val l + 2 ^ (8 * l.length) * val m := by
  induction l with
  | nil => simp [val]
  | cons b l ih =>
    have e : 8 * (b :: l).length = 8 + 8 * l.length := by simp; omega
    have e2 : val ((b :: l) ++ m) = b.toNat + 256 * val (l ++ m) := rfl
    have e3 : val (b :: l) = b.toNat + 256 * val l := rfl
    have e4 : (2 : Nat) ^ 8 = 256 := by decide
    rw [e2, e3, ih, e, Nat.pow_add, e4, Nat.mul_add, Nat.mul_assoc, Nat.add_assoc]
theorem val_snoc (s : ByteArray) (k : Nat) (h : k < s.size) : val (s.data.toList.take (k + 1)) = val (s.data.toList.take k) + 2 ^ (8 * k) * s[k].toNat := by
  have e : (s.data.toList.take k).length = k := by simp; omega
  rw [take_snoc s k h, val_append, e]
  simp [val]

theorem or_step (m b k : Nat) (hk : k < 4) (hm : m < 2 ^ (8 * k)) (hb : b < 256) :
    bits .or .u32 (m : Int) ((b : Int) * 2 ^ (8 * k) % 4294967296) = ((m + 2 ^ (8 * k) * b : Nat) : Int) ∧ m + 2 ^ (8 * k) * b < 2 ^ (8 * (k + 1)) ∧ 2 ^ (8 * (k + 1)) ≤ 4294967296 := by
  have h1 : 2 ^ (8 * (k + 1)) ≤ 2 ^ 32 := Nat.pow_le_pow_right (by omega) (by omega)
  have e1 : 2 ^ (8 * (k + 1)) = 2 ^ (8 * k) * 256 := by rw [Nat.mul_add, Nat.pow_add]
  have e2 : 2 ^ (8 * k) * b + 2 ^ (8 * k) ≤ 2 ^ (8 * k) * 256 := by
    have := Nat.mul_le_mul_left (2 ^ (8 * k)) (show b + 1 ≤ 256 by omega)
    rw [Nat.mul_add, Nat.mul_one] at this
    exact this
  have e3 : ((b : Int) * 2 ^ (8 * k) % 4294967296) = ((2 ^ (8 * k) * b : Nat) : Int) := by
    have h : ((2 ^ (8 * k) * b : Nat) : Int) = (b : Int) * 2 ^ (8 * k) := by rw [Nat.mul_comm]; simp
    rw [← h]
    omega
  refine ⟨?_, by omega, by omega⟩
  rw [e3, u32_or_nat _ _ (by omega) (by omega), Nat.or_comm, ← Nat.two_pow_add_eq_or_of_lt hm, Nat.add_comm]

end Go.Proofs.Ytfcibccipkokoaa.Sum
