/- word: may, has. -/
import Derived.Test.YtfcibccipkokoaaProg
import Derived.WalkKit
import Derived.WalkSpells
import Derived.WalkLawsBesides
import Derived.Lib.Hide
namespace Go.Proofs.Ytfcibccipkokoaa
open Go.RowKit

theorem ret_int {k : IntKind} {a b : Int} (h : a = b) : Ending.returned (.int k a) = .returned (.int k b) := by rw [h]
theorem ret_bool {a b : Bool} (h : a = b) : Ending.returned (.bool a) = .returned (.bool b) := by rw [h]
def mayB (n : Int) : Bool := decide (1 ≤ n ∧ n ≤ 8)
def hasB (l : Nat) (a size : Int) : Bool := decide (0 ≤ a ∧ 0 ≤ size ∧ a + size ≤ l)
set_option maxRecDepth 100000 in
theorem may_any (n : Int) (w : World) :
    Calls Try.prog 79 #[.int .i64 n] w fun e w' => e = .returned (.bool (mayB n)) ∧ w = w' := by
  go_enter Try.func79, Try.ntmps79
  go_wp2
  all_goals
    go_ret
    exact ⟨ret_bool (by unfold mayB; simp; omega), rfl⟩

set_option maxRecDepth 100000 in
theorem has_any (s : ByteArray) (a n : Int) (w : World) (hs : s.size ≤ maxLen) (ha : -9223372036854775808 ≤ a ∧ a ≤ 9223372036854775807) :
    Calls Try.prog 81 #[.string s, .int .i64 a, .int .i64 n] w fun e w' => e = .returned (.bool (hasB s.size a n)) ∧ w = w' := by
  unfold maxLen at hs
  go_enter Try.func81, Try.ntmps81
  go_wp2
  all_goals
    go_ret
    exact ⟨ret_bool (by unfold hasB; first | (rw [decide_eq_decide]; omega) | (symm; rw [decide_eq_false_iff_not]; omega)), rfl⟩

theorem has_yes (s : ByteArray) (a n : Nat) (h : a + n ≤ s.size) : hasB s.size a n = true := by unfold hasB; simp; omega
end Go.Proofs.Ytfcibccipkokoaa
