/- The walk of SumTells. -/
import Derived.Test.YtkbgepikmmeppaaW8
namespace Go.Proofs.Ytkbgepikmmeppaa
open Go.RowKit

theorem u32_wf {n : Int} (h : (Lit.int .u32 n).wf = true) : 0 ≤ n ∧ n ≤ 4294967295 := by
  simpa [Lit.wf, IntKind.min, IntKind.max, IntKind.signed, IntKind.bits] using h

set_option maxHeartbeats 1000000 in
theorem tells_walk (s t : ByteArray) (c : Int) (w : World) (hs : s.size ≤ maxLen) (ht : t.size ≤ maxLen) (hc : 0 ≤ c ∧ c ≤ 4294967295) :
    Calls Try.prog 3 #[.string s, .string t, .int .u32 c] w fun e w' => e = .returned (.bool true) ∧ Below w.heap.size w w' := by
  have hs2 := hs
  have ht2 := ht
  unfold maxLen at hs2 ht2
  obtain ⟨c, rfl⟩ : ∃ n : Nat, c = n := ⟨c.toNat, by omega⟩
  have hc2 : c < 4294967296 := by omega
  by_cases h1 : s.size > 4096
  · go_enter Try.func3, Try.ntmps3
    go_wp2_with fail
    refine (alive_any _).mono ?_
    rintro e w1 ⟨rfl, b1⟩
    go_wp2_with fail
    go_ret
    exact ⟨rfl, b1⟩
  by_cases h2 : t.size > 4096
  · go_enter Try.func3, Try.ntmps3
    go_wp2_with fail
    refine (alive_any _).mono ?_
    rintro e w1 ⟨rfl, b1⟩
    go_wp2_with fail
    go_ret
    exact ⟨rfl, b1⟩
  have q1 := fun w => open_any t w (by omega)
  have q2 := fun w => ropen_any t w (by omega)
  have q3 := fun w => of_any s w hs
  have q4 := fun w => rof_any s w hs
  have q5 := fun w => more_any c s w hc2 hs
  have q6 := fun w => rmore_any c s w hc2 hs
  have q7 := fun w => seal_any s w (by omega)
  have q8 := fun w => rseal_any s w (by omega)
  generalize openT t = ot at *
  generalize isSealed t.data.toList = it at *
  generalize sumOf s.data.toList = x at *
  generalize more c s.data.toList = y at *
  generalize (⟨(sealL s.data.toList).toArray⟩ : ByteArray) = z at *
  have p1 := Lib.hid q1
  have p2 := Lib.hid q2
  have p3 := Lib.hid q3
  have p4 := Lib.hid q4
  have p5 := Lib.hid q5
  have p6 := Lib.hid q6
  have p7 := Lib.hid q7
  have p8 := Lib.hid q8
  clear q1 q2 q3 q4 q5 q6 q7 q8
  go_enter Try.func3, Try.ntmps3
  go_wp2_with fail
  refine (p1.out _).mono ?_
  rintro e w1 ⟨rfl, b1⟩
  go_wp2_with fail
  refine (p2.out _).mono ?_
  rintro e w2 ⟨rfl, b2⟩
  go_wp2_with fail
  refine (p3.out _).mono ?_
  rintro e w3 ⟨rfl, b3⟩
  go_wp2_with fail
  refine (p4.out _).mono ?_
  rintro e w4 ⟨rfl, rfl⟩
  go_wp2_with fail
  refine (p5.out _).mono ?_
  rintro e w4 ⟨rfl, b4⟩
  go_wp2_with fail
  refine (p6.out _).mono ?_
  rintro e w5 ⟨rfl, rfl⟩
  go_wp2_with fail
  refine (p7.out _).mono ?_
  rintro e w5 ⟨rfl, b5⟩
  go_wp2_with fail
  refine (p8.out _).mono ?_
  rintro e w6 ⟨rfl, b6⟩
  go_wp2_with fail
  refine (alive_any _).mono ?_
  rintro e w7 ⟨rfl, b7⟩
  go_wp2_with fail
  go_ret
  have c2 := b1.trans (b2.mono b1.size)
  have c3 := c2.trans (b3.mono c2.size)
  have c4 := c3.trans (b4.mono c3.size)
  have c5 := c4.trans (b5.mono c4.size)
  have c6 := c5.trans (b6.mono c5.size)
  exact ⟨rfl, c6.trans (b7.mono c6.size)⟩

end Go.Proofs.Ytkbgepikmmeppaa
