/-
  Walks: the document's sealing.
-/
import Derived.Test.YtgohpompgiljiaaZ32
namespace Go.Proofs.Ytgohpompgiljiaa.Sum
open Go.RowKit

theorem byteAt_low (C m k : Nat) (h : m = C / 2 ^ (8 * k)) : (m : Int) % 256 = ((byteAt C k).toNat : Int) := by
  rw [byteAt_nat, h]; simp
theorem quo_step (C m k : Nat) (h : m = C / 2 ^ (8 * k)) : m / 256 = C / 2 ^ (8 * (k + 1)) := by
  rw [h, Nat.div_div_eq_div_mul, Nat.mul_add, Nat.pow_add]

end Go.Proofs.Ytgohpompgiljiaa.Sum
