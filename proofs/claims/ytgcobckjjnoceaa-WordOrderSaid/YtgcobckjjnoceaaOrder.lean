/- WordOrder walk -/
import Derived.Test.YtgcobckjjnoceaaW7
import Derived.Test.YtgcobckjjnoceaaN
namespace Go.Proofs.Ytgcobckjjnoceaa
open Go.RowKit

theorem up_facts (a to : Int) (ha : 0 ≤ a ∧ a ≤ 65535) (ht : 0 ≤ to ∧ to ≤ 65535) : upI (1 + a) (1 + to) % (1 + to) = 0 ∧ 1 + a ≤ upI (1 + a) (1 + to) ∧ upI (1 + a) (1 + to) < 1 + a + (1 + to) := by
  unfold upI
  rw [if_neg (by omega)]
  have h := up_mul (1 + a) (1 + to) (by omega)
  exact ⟨Int.mul_emod_left _ _, by omega, by omega⟩

set_option maxHeartbeats 1000000 in
theorem order_walk (n m size a to : Int) (w : World) (hn : U64 n) (hm : U64 m) (hs : 0 ≤ size ∧ size ≤ 255) (ha : 0 ≤ a ∧ a ≤ 65535) (ht : 0 ≤ to ∧ to ≤ 65535) :
    Calls Try.prog 6 #[.int .u64 n, .int .u64 m, .int .u8 size, .int .u16 a, .int .u16 to] w fun e w' => e = .returned (.bool true) ∧ Below w.heap.size w w' := by
  obtain ⟨f1, f2, f3⟩ := up_facts a to ha ht
  have f4 : (upI (1 + a) (1 + to) % (1 + to) == 0) = true := by simpa using f1
  clear f1
  have hu := fun w => up_any (1 + a) (1 + to) w (by omega) (by omega)
  generalize upI (1 + a) (1 + to) = u at *
  have U := Lib.hid hu
  have O := Lib.hid (order_less (k := 1 + size % 8) hn hm)
  clear hu
  go_enter Try.func6, Try.ntmps6
  go_wp2_with fail
  refine (put_any _ _ _ hn).mono ?_
  rintro e w1 ⟨rfl, b1⟩
  go_wp2_with fail
  refine (put_any _ _ _ hm).mono ?_
  rintro e w2 ⟨rfl, b2⟩
  go_wp2_with fail
  · rename_i h1 h2 h3 h4
    have := (O.out h1 h2).2
    rw [this] at h4
    simp at h4
  · refine (U.out _).mono ?_
    rintro e w3 ⟨rfl, rfl⟩
    go_wp2_with fail
    refine (alive_any _).mono ?_
    rintro e w4 ⟨rfl, b4⟩
    go_wp2_with fail
    go_ret
    have c1 := b1.trans (b2.mono b1.size)
    exact ⟨rfl, c1.trans (b4.mono c1.size)⟩
  · rename_i h1 h2 h3
    exact absurd (O.out h1 h2).1 h3
  all_goals
    refine (U.out _).mono ?_
    rintro e w3 ⟨rfl, rfl⟩
    go_wp2_with fail
    refine (alive_any _).mono ?_
    rintro e w4 ⟨rfl, b4⟩
    go_wp2_with fail
    go_ret
    have c1 := b1.trans (b2.mono b1.size)
    exact ⟨rfl, c1.trans (b4.mono c1.size)⟩

end Go.Proofs.Ytgcobckjjnoceaa
