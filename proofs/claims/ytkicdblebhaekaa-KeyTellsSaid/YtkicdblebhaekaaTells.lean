/- The walk of KeyTells. -/
import Derived.Test.YtkicdblebhaekaaW5
namespace Go.Proofs.Ytkicdblebhaekaa.Key
open Go.RowKit

set_option maxHeartbeats 1000000 in
theorem tells_walk (a b c : ByteArray) (w : World) (ha : a.size ≤ maxLen) (hb : b.size ≤ maxLen) (hc : c.size ≤ maxLen) :
    Calls Try.prog 3 #[.string a, .string b, .string c] w fun e w' => e = .returned (.bool true) ∧ Below w.heap.size w w' := by
  have q0 := long3 a b c w ha hb hc
  have B0 : Below w.heap.size w (w.alloc (.cells #[.string a, .string b, .string c] 9)) := (Below.refl _ _).alloc (Nat.le_refl _) _
  by_cases hl : 512 < a.size ∨ 512 < b.size ∨ 512 < c.size
  · rw [decide_eq_true hl] at q0
    have p0 := Lib.hid q0
    have B := Lib.hid B0
    clear q0 hl B0
    go_enter Try.func3, Try.ntmps3
    go_wp2_with fail
    refine p0.out.mono ?_
    rintro e w1 ⟨rfl, rfl⟩
    go_wp2_with fail
    refine (alive_any _).mono ?_
    rintro e w2 ⟨rfl, b2⟩
    go_wp2_with fail
    go_ret
    exact ⟨rfl, B.out.trans (b2.mono B.out.size)⟩
  · rw [decide_eq_false hl] at q0
    have p0 := Lib.hid q0
    have B := Lib.hid B0
    have q1 := fun w => may_any a w ha
    have q2 := fun w => value_any a w ha
    have q3 := fun w => compare_any a b w
    change ∀ w, Calls Try.prog 9 #[.string a, .string b] w fun e w' => e = .returned (.int .i64 (cmpOf a b)) ∧ w = w' at q3
    have q4 := fun w => rcompare_any a b w ha hb
    have q5 := fun w => common_any a b w ha hb
    have q6 := fun w => rcommon_any a b w ha hb
    have q7 := fun w => in_any a b c w
    have q8 := fun w => rin_any a b c w ha hb hc
    have za : a.size ≤ 512 := by omega
    have e1 : may a = (decide (0 < a.size) && decide (a.size ≤ 48)) := rfl
    have e2 : isValue a = decide (a.size ≤ 96) := rfl
    generalize cmpOf a b = x at *
    generalize comOf a b = y at *
    generalize within a b c = z at *
    have p1 := Lib.hid q1
    have p2 := Lib.hid q2
    have p3 := Lib.hid q3
    have p4 := Lib.hid q4
    have p5 := Lib.hid q5
    have p6 := Lib.hid q6
    have p7 := Lib.hid q7
    have p8 := Lib.hid q8
    clear q0 q1 q2 q3 q4 q5 q6 q7 q8 hl B0
    go_enter Try.func3, Try.ntmps3
    go_wp2_with fail
    refine p0.out.mono ?_
    rintro e w1 ⟨rfl, rfl⟩
    go_wp2_with fail
    refine (p1.out _).mono ?_
    rintro e w2 ⟨rfl, rfl⟩
    go_wp2_with fail
    all_goals
      refine (p2.out _).mono ?_
      rintro e w2 ⟨rfl, rfl⟩
      go_wp2_with fail
      refine (p3.out _).mono ?_
      rintro e w2 ⟨rfl, rfl⟩
      go_wp2_with fail
      refine (p4.out _).mono ?_
      rintro e w2 ⟨rfl, b2⟩
      have B2 := Lib.hid (B.out.trans (b2.mono B.out.size))
      clear b2
      go_wp2_with fail
      refine (p5.out _).mono ?_
      rintro e w3 ⟨rfl, b3⟩
      have B3 := Lib.hid (B2.out.trans (b3.mono B2.out.size))
      clear b3
      go_wp2_with fail
      refine (p6.out _).mono ?_
      rintro e w4 ⟨rfl, b4⟩
      have B4 := Lib.hid (B3.out.trans (b4.mono B3.out.size))
      clear b4
      go_wp2_with fail
      refine (p7.out _).mono ?_
      rintro e w5 ⟨rfl, rfl⟩
      go_wp2_with fail
      refine (p8.out _).mono ?_
      rintro e w5 ⟨rfl, b5⟩
      have B5 := Lib.hid (B4.out.trans (b5.mono B4.out.size))
      clear b5
      go_wp2_with fail
      refine (alive_any _).mono ?_
      rintro e w6 ⟨rfl, b6⟩
      go_wp2_with fail
      go_ret
      exact ⟨rfl, B5.out.trans (b6.mono B5.out.size)⟩

end Go.Proofs.Ytkicdblebhaekaa.Key
