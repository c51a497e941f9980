/- Walks: may, has, Up of word and of the reference. -/
import Derived.Test.YtgcobckjjnoceaaProg
import Derived.WalkKit
import Derived.WalkSpells
import Derived.WalkLawsBesides
import Derived.Lib.Hide
namespace Go.Proofs.Ytgcobckjjnoceaa
open Go.RowKit

theorem ret_int {k : IntKind} {a b : Int} (h : a = b) : Ending.returned (.int k a) = .returned (.int k b) := by rw [h]
theorem ret_bool {a b : Bool} (h : a = b) : Ending.returned (.bool a) = .returned (.bool b) := by rw [h]

def mayB (n : Int) : Bool := decide (1 ≤ n ∧ n ≤ 8)
def hasB (l : Nat) (a size : Int) : Bool := decide (0 ≤ a ∧ 0 ≤ size ∧ a + size ≤ l)
def upI (n to : Int) : Int := if n < 1 ∨ to < 1 ∨ n > 4611686018427387904 - to then 0 else (n + to - 1) / to * to

theorem may_any (n : Int) (w : World) :
    Calls Try.prog 18 #[.int .i64 n] w fun e w' => e = .returned (.bool (mayB n)) ∧ w = w' := by
  go_enter Try.func18, Try.ntmps18
  go_wp2
  all_goals
    go_ret
    exact ⟨ret_bool (by unfold mayB; simp; omega), rfl⟩

theorem has_any (s : ByteArray) (a n : Int) (w : World) (hs : s.size ≤ maxLen) (ha : -9223372036854775808 ≤ a ∧ a ≤ 9223372036854775807) :
    Calls Try.prog 19 #[.string s, .int .i64 a, .int .i64 n] w fun e w' => e = .returned (.bool (hasB s.size a n)) ∧ w = w' := by
  unfold maxLen at hs
  go_enter Try.func19, Try.ntmps19
  go_wp2
  all_goals
    go_ret
    exact ⟨ret_bool (by unfold hasB; first | (rw [decide_eq_decide]; omega) | (symm; rw [decide_eq_false_iff_not]; omega)), rfl⟩

theorem up_mul (n to : Int) (ht : 1 ≤ to) : n ≤ (n + to - 1) / to * to ∧ (n + to - 1) / to * to ≤ n + to - 1 := by
  have h1 := Int.ediv_mul_add_emod (n + to - 1) to
  have h2 := Int.emod_nonneg (n + to - 1) (show to ≠ 0 by omega)
  have h3 := Int.emod_lt_of_pos (n + to - 1) (show 0 < to by omega)
  omega

theorem up_any (n to : Int) (w : World) (hn : -9223372036854775808 ≤ n ∧ n ≤ 9223372036854775807) (ht : -9223372036854775808 ≤ to ∧ to ≤ 9223372036854775807) :
    Calls Try.prog 16 #[.int .i64 n, .int .i64 to] w fun e w' => e = .returned (.int .i64 (upI n to)) ∧ w = w' := by
  have hm : 1 ≤ to → n ≤ (n + to - 1) / to * to ∧ (n + to - 1) / to * to ≤ n + to - 1 := up_mul n to
  by_cases h1 : n < 1
  · go_enter Try.func16, Try.ntmps16
    go_wp2
    all_goals
      go_ret
      exact ⟨ret_int (by unfold upI; rw [if_pos (by omega)]), rfl⟩
  by_cases h2 : to < 1
  · go_enter Try.func16, Try.ntmps16
    go_wp2
    all_goals
      go_ret
      exact ⟨ret_int (by unfold upI; rw [if_pos (by omega)]), rfl⟩
  have hm1 := (hm (by omega)).1
  have hm2 := (hm (by omega)).2
  clear hm
  by_cases h3 : n > 4611686018427387904 - to
  · go_enter Try.func16, Try.ntmps16
    go_wp2
    all_goals
      go_ret
      exact ⟨ret_int (by unfold upI; rw [if_pos (by omega)]), rfl⟩
  · go_enter Try.func16, Try.ntmps16
    go_wp2
    all_goals
      go_ret
      exact ⟨ret_int (by unfold upI; rw [if_neg (by omega)]), rfl⟩

theorem up_ref (n to : Int) (h1 : ¬ n < 1) (h2 : ¬ to < 1) : (n + to - 1) / to * to = if n % to = 0 then n else n - n % to + to := by
  have a1 := Int.ediv_mul_add_emod (n + to - 1) to
  have a2 := Int.emod_nonneg (n + to - 1) (show to ≠ 0 by omega)
  have a3 := Int.emod_lt_of_pos (n + to - 1) (show 0 < to by omega)
  have b1 := Int.ediv_mul_add_emod n to
  have b2 := Int.emod_nonneg n (show to ≠ 0 by omega)
  have b3 := Int.emod_lt_of_pos n (show 0 < to by omega)
  by_cases h : n % to = 0
  · rw [if_pos h]
    have e : n + to - 1 = (to - 1) + to * (n / to) := by rw [Int.mul_comm to]; omega
    rw [e, Int.add_mul_ediv_left _ _ (by omega), Int.ediv_eq_zero_of_lt (by omega) (by omega)]
    rw [Int.zero_add]; omega
  · rw [if_neg h]
    have e : n + to - 1 = (n % to - 1) + to * (n / to + 1) := by rw [Int.mul_comm to, Int.add_mul]; omega
    rw [e, Int.add_mul_ediv_left _ _ (by omega), Int.ediv_eq_zero_of_lt (by omega) (by omega)]
    rw [Int.zero_add, Int.add_mul]; omega

theorem rup_any (n to : Int) (w : World) (hn : -9223372036854775808 ≤ n ∧ n ≤ 9223372036854775807) (ht : -9223372036854775808 ≤ to ∧ to ≤ 9223372036854775807) :
    Calls Try.prog 17 #[.int .i64 n, .int .i64 to] w fun e w' => e = .returned (.int .i64 (upI n to)) ∧ w = w' := by
  by_cases h1 : n < 1
  · go_enter Try.func17, Try.ntmps17
    go_wp2
    all_goals
      go_ret
      exact ⟨ret_int (by unfold upI; rw [if_pos (by omega)]), rfl⟩
  by_cases h2 : to < 1
  · go_enter Try.func17, Try.ntmps17
    go_wp2
    all_goals
      go_ret
      exact ⟨ret_int (by unfold upI; rw [if_pos (by omega)]), rfl⟩
  by_cases h3 : n > 4611686018427387904 - to
  · go_enter Try.func17, Try.ntmps17
    go_wp2
    all_goals
      go_ret
      exact ⟨ret_int (by unfold upI; rw [if_pos (by omega)]), rfl⟩
  have b2 := Int.emod_nonneg n (show to ≠ 0 by omega)
  have b3 := Int.emod_lt_of_pos n (show 0 < to by omega)
  by_cases h4 : n % to = 0
  · have h5 : (n % to == 0) = true := by simpa using h4
    have H := Lib.hid (show upI n to = n by unfold upI; rw [if_neg (by omega), up_ref n to h1 h2, if_pos h4])
    clear h4
    go_enter Try.func17, Try.ntmps17
    go_wp2
    all_goals
      go_ret
      exact ⟨ret_int H.out.symm, rfl⟩
  · have h5 : (n % to == 0) = false := by simpa using h4
    have H := Lib.hid (show upI n to = n - n % to + to by unfold upI; rw [if_neg (by omega), up_ref n to h1 h2, if_neg h4])
    have b4 : n % to ≤ n := by
      have := Int.ediv_mul_add_emod n to
      have := Int.mul_nonneg (Int.ediv_nonneg (show 0 ≤ n by omega) (show 0 ≤ to by omega)) (show 0 ≤ to by omega)
      omega
    clear h4
    go_enter Try.func17, Try.ntmps17
    go_wp2
    all_goals
      go_ret
      exact ⟨ret_int H.out.symm, rfl⟩

end Go.Proofs.Ytgcobckjjnoceaa
