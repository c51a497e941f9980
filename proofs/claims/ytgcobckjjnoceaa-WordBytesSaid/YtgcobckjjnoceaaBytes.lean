/- The walks of WordBytes and WordSets. -/
import Derived.Test.YtgcobckjjnoceaaW7
import Derived.Test.YtgcobckjjnoceaaN
namespace Go.Proofs.Ytgcobckjjnoceaa
open Go.RowKit

set_option maxHeartbeats 1000000 in
theorem bytes_walk (n size : Int) (s : ByteArray) (a : Int) (w : World) (hn : U64 n) (hs : -9223372036854775808 ≤ size ∧ size ≤ 9223372036854775807) (hl : s.size ≤ maxLen) (ha : -9223372036854775808 ≤ a ∧ a ≤ 9223372036854775807) :
    Calls Try.prog 3 #[.int .u64 n, .int .i64 size, .string s, .int .i64 a] w fun e w' => e = .returned (.bool true) ∧ Below w.heap.size w w' := by
  unfold maxLen at hl
  by_cases h : s.size > 4096
  · go_enter Try.func3, Try.ntmps3
    go_wp2_with fail
    refine (alive_any _).mono ?_
    rintro e w4 ⟨rfl, b4⟩
    go_wp2_with fail
    go_ret
    exact ⟨rfl, b4⟩
  · have hs2 : s.size ≤ 281474976710656 := by omega
    go_enter Try.func3, Try.ntmps3
    go_wp2_with fail
    refine (put_any _ _ _ hn).mono ?_
    rintro e w1 ⟨rfl, b1⟩
    go_wp2_with fail
    refine (rput_any _ _ _ hn).mono ?_
    rintro e w2 ⟨rfl, b2⟩
    go_wp2_with fail
    refine (get_any _ _ _ _ hs2 ha).mono ?_
    rintro e w3 ⟨rfl, rfl⟩
    go_wp2_with fail
    refine (rget_any _ _ _ _ hs2 ha hs).mono ?_
    rintro e w3 ⟨rfl, rfl⟩
    go_wp2_with fail
    refine (cut_any _ _ _ _ hs2 ha).mono ?_
    rintro e w3 ⟨rfl, b3⟩
    go_wp2_with fail
    refine (rcut_any _ _ _ _ hs2 ha hs).mono ?_
    rintro e w4 ⟨rfl, rfl⟩
    go_wp2_with fail
    refine (alive_any _).mono ?_
    rintro e w5 ⟨rfl, b4⟩
    go_wp2_with fail
    go_ret
    have c1 := b1.trans (b2.mono b1.size)
    have c2 := c1.trans (b3.mono c1.size)
    exact ⟨rfl, c2.trans (b4.mono c2.size)⟩

set_option maxHeartbeats 1000000 in
theorem sets_walk (s p : ByteArray) (a n to : Int) (w : World) (hl : s.size ≤ maxLen) (hp : p.size ≤ maxLen) (ha : -9223372036854775808 ≤ a ∧ a ≤ 9223372036854775807) (hn : -9223372036854775808 ≤ n ∧ n ≤ 9223372036854775807) (ht : -9223372036854775808 ≤ to ∧ to ≤ 9223372036854775807) :
    Calls Try.prog 4 #[.string s, .string p, .int .i64 a, .int .i64 n, .int .i64 to] w fun e w' => e = .returned (.bool true) ∧ Below w.heap.size w w' := by
  unfold maxLen at hl hp
  by_cases h : s.size > 4096
  · go_enter Try.func4, Try.ntmps4
    go_wp2_with fail
    refine (alive_any _).mono ?_
    rintro e w4 ⟨rfl, b4⟩
    go_wp2_with fail
    go_ret
    exact ⟨rfl, b4⟩
  by_cases h' : p.size > 4096
  · go_enter Try.func4, Try.ntmps4
    go_wp2_with fail
    refine (alive_any _).mono ?_
    rintro e w4 ⟨rfl, b4⟩
    go_wp2_with fail
    go_ret
    exact ⟨rfl, b4⟩
  · have hs2 : s.size ≤ 281474976710656 := by omega
    have hp2 : p.size ≤ 281474976710656 := by omega
    go_enter Try.func4, Try.ntmps4
    go_wp2_with fail
    refine (set_any _ _ _ _ hs2 ha).mono ?_
    rintro e w1 ⟨rfl, b1⟩
    go_wp2_with fail
    refine (rset_any _ _ _ _ hs2 hp2 ha).mono ?_
    rintro e w2 ⟨rfl, b2⟩
    go_wp2_with fail
    refine (up_any _ _ _ hn ht).mono ?_
    rintro e w3 ⟨rfl, rfl⟩
    go_wp2_with fail
    refine (rup_any _ _ _ hn ht).mono ?_
    rintro e w3 ⟨rfl, rfl⟩
    go_wp2_with fail
    refine (alive_any _).mono ?_
    rintro e w5 ⟨rfl, b4⟩
    go_wp2_with fail
    go_ret
    have c1 := b1.trans (b2.mono b1.size)
    exact ⟨rfl, c1.trans (b4.mono c1.size)⟩

end Go.Proofs.Ytgcobckjjnoceaa
