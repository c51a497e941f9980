/- Walks: a frame is read at its own place alone. -/
import Derived.Test.YtbcifefldmmaeaaFL0
namespace Go.Proofs.Ytbcifefldmmaeaa.Frame
open Go.RowKit
attribute [local go_sem ↓] Go.wp_at_zero Go.wp_at_succ

theorem enc_err {lsn : Nat} {s : ByteArray} (h : mayF lsn s = false) : encE lsn s = 2 := by unfold encE; rw [if_neg (by rw [h]; decide)]
theorem enc_ok {lsn : Nat} {s : ByteArray} (h : mayF lsn s = true) : encE lsn s = 0 := by unfold encE; rw [if_pos h]
theorem enc_same {a b : Nat} {s t : ByteArray} (ha : a < 18446744073709551616) (hb : b < 18446744073709551616) (h : mayF a s = true) (k : mayF b t = true) : ((encF a s).toList == (encF b t).toList) = decide (a = b ∧ s = t) := by
  by_cases e : a = b ∧ s = t
  · obtain ⟨rfl, rfl⟩ := e
    rw [decide_eq_true ⟨rfl, rfl⟩]
    simp
  · rw [decide_eq_false e]
    exact beq_no fun e1 => e (enc_inj ha hb h k e1)

set_option linter.unusedSimpArgs false in
set_option maxRecDepth 100000 in
set_option maxHeartbeats 4000000 in
theorem else_walk {w : World} {a b : Nat} {s t behind : ByteArray} (ha : a < 18446744073709551616) (hb : b < 18446744073709551616) (hs : s.size ≤ 140737488351232) (ht : t.size ≤ 140737488351232) (hh : behind.size ≤ 140737488351232) :
    Calls Try.prog 5 #[.int .u64 (a : Int), .int .u64 (b : Int), .string s, .string t, .string behind] w fun e w' => e = .returned (.bool true) ∧ Below w.heap.size w w' := by
  by_cases hx : 4096 < s.size ∨ 4096 < t.size ∨ 1024 < behind.size
  · have hx : 4096 < s.size ∨ (¬ 4096 < s.size ∧ 4096 < t.size) ∨ (¬ 4096 < s.size ∧ ¬ 4096 < t.size ∧ 1024 < behind.size) := by omega
    clear ha hb
    go_enter Try.func5, Try.ntmps5
    rcases hx with hx | ⟨p1, hx⟩ | ⟨p1, p2, hx⟩
    all_goals
      go_wp2_with fail
      refine (works_any _).mono ?_
      rintro e w2 ⟨rfl, k2⟩
      have B2 := Lib.hid k2
      clear k2
      go_wp2_with fail
      go_ret
      exact ⟨rfl, B2.out⟩
  obtain ⟨p1, p2, p3⟩ : ¬ 4096 < s.size ∧ ¬ 4096 < t.size ∧ ¬ 1024 < behind.size := by omega
  clear hx
  have KA := Lib.hid (fun W => fencode_any a s W ha hs)
  have KB := Lib.hid (fun W => fencode_any b t W hb ht)
  have hways : Hid ((encE a s = 2 ∨ (encE a s = 0 ∧ encE b t = 2)) ∨ (encE a s = 0 ∧ encE b t = 0 ∧ mayF a s = true ∧ mayF b t = true)) := by
    refine Lib.hid ?_
    cases h : mayF a s with
    | false => exact .inl (.inl (enc_err h))
    | true =>
      cases k : mayF b t with
      | false => exact .inl (.inr ⟨enc_ok h, enc_err k⟩)
      | true => exact .inr ⟨enc_ok h, enc_ok k, rfl, rfl⟩
  rcases hways.out with hq | ⟨q1, q2, h, k⟩
  · clear ha hb hways
    rcases hq with hq | ⟨q1, hq⟩
    · rw [hq] at KA
      clear hq
      generalize encF a s = A at *
      generalize encF b t = B at *
      generalize encE b t = F at *
      go_enter Try.func5, Try.ntmps5
      go_wp2_with fail
      refine (KA.out _).mono ?_
      rintro e w1 ⟨rfl, b1⟩
      have B1 := Lib.hid b1
      clear b1 KA
      go_wp2_with fail
      refine (KB.out _).mono ?_
      rintro e w2 ⟨rfl, b2⟩
      have B2 := Lib.hid (B1.out.trans (b2.mono B1.out.size))
      clear b2 KB B1
      go_wp2_with fail
      refine (works_any _).mono ?_
      rintro e w3 ⟨rfl, b3⟩
      have B3 := Lib.hid (B2.out.trans (b3.mono B2.out.size))
      clear b3 B2
      go_wp2_with fail
      go_ret
      exact ⟨rfl, B3.out⟩
    · rw [hq] at KB
      rw [q1] at KA
      clear hq q1
      generalize encF a s = A at *
      generalize encF b t = B at *
      go_enter Try.func5, Try.ntmps5
      go_wp2_with fail
      refine (KA.out _).mono ?_
      rintro e w1 ⟨rfl, b1⟩
      have B1 := Lib.hid b1
      clear b1 KA
      go_wp2_with fail
      refine (KB.out _).mono ?_
      rintro e w2 ⟨rfl, b2⟩
      have B2 := Lib.hid (B1.out.trans (b2.mono B1.out.size))
      clear b2 KB B1
      go_wp2_with fail
      refine (works_any _).mono ?_
      rintro e w3 ⟨rfl, b3⟩
      have B3 := Lib.hid (B2.out.trans (b3.mono B2.out.size))
      clear b3 B2
      go_wp2_with fail
      go_ret
      exact ⟨rfl, B3.out⟩
  · rw [q1] at KA
    rw [q2] at KB
    have zs := enc_size h
    have hz : (encF a s ++ behind).size ≤ 140737488351232 := by rw [ByteArray.size_append, zs]; omega
    have KD := Lib.hid (fun W => (show Calls Try.prog 10 #[.string (encF a s ++ behind), .int .u64 (a : Int)] W fun e w' => e = .returned (.tuple #[.string s, .int .i64 ((encF a s).size : Int), .int .i64 0]) ∧ Below W.heap.size W w' from by
      have := fdecode_any (encF a s ++ behind) a W ha hz
      obtain ⟨d1, d2, d3⟩ := dec_enc behind ha h
      rw [d1, d2, d3, ← zs] at this
      exact this))
    have HE := enc_same ha hb h k
    have bs : (9223372036854775807 < (encF a s).size + behind.size) = False := small (by omega)
    have f1 : ((a : Int) == (b : Int)) = decide (a = b) := by rw [Bool.eq_iff_iff]; simp; omega
    have f2 : (s.toList == t.toList) = decide (s = t) := by
      by_cases e : s = t
      · rw [decide_eq_true e, e]; simp
      · rw [decide_eq_false e, beq_no e]
    have f3 : ((encF a s).toList == (encF b t).toList) = (decide (a = b) && decide (s = t)) := by rw [HE, Bool.decide_and]
    obtain ⟨X, Y, Z, KE, f4⟩ : ∃ X Y Z, (∀ W, Calls Try.prog 10 #[.string (encF a s ++ behind), .int .u64 (b : Int)] W fun e w' => e = .returned (.tuple #[.string X, .int .i64 (Y : Int), .int .i64 (Z : Int)]) ∧ Below W.heap.size W w') ∧ ((Z : Int) == 0) = decide (a = b) := by
      refine ⟨_, _, _, fun W => fdecode_any (encF a s ++ behind) b W hb hz, ?_⟩
      by_cases e : a = b
      · subst e
        rw [(dec_enc behind ha h).1, decide_eq_true rfl]; rfl
      · rw [dec_else behind ha h (fun e1 => e e1.symm), decide_eq_false e]; rfl
    have KE := Lib.hid KE
    clear HE ha hb hways h k q1 q2 hz zs
    generalize decide (a = b) = P at *
    generalize decide (s = t) = Q at *
    generalize encF a s = A at *
    generalize encF b t = B at *
    cases P <;> cases Q
    all_goals
      simp only [Bool.and_true, Bool.and_false, Bool.true_and, Bool.false_and] at f3
      go_enter Try.func5, Try.ntmps5
      go_wp2_with fail
      refine (KA.out _).mono ?_
      rintro e w1 ⟨rfl, b1⟩
      have B1 := Lib.hid b1
      clear b1
      go_wp2_with fail
      refine (KB.out _).mono ?_
      rintro e w2 ⟨rfl, b2⟩
      have B2 := Lib.hid (B1.out.trans (b2.mono B1.out.size))
      clear b2 B1
      go_wp2_with fail
      refine (KD.out _).mono ?_
      rintro e w3 ⟨rfl, b3⟩
      have B3 := Lib.hid (B2.out.trans (b3.mono B2.out.size))
      clear b3 B2
      go_wp2_with fail
      refine (KE.out _).mono ?_
      rintro e w4 ⟨rfl, b4⟩
      have B4 := Lib.hid (B3.out.trans (b4.mono B3.out.size))
      clear b4 B3 bs
      go_wp2_with fail
      refine (works_any _).mono ?_
      rintro e w5 ⟨rfl, b5⟩
      have B5 := Lib.hid (B4.out.trans (b5.mono B4.out.size))
      clear b5 B4
      go_wp2_with fail
      go_ret
      exact ⟨rfl, B5.out⟩

theorem else_law {w : World} {a b : Int} {s t behind : ByteArray} (ha : 0 ≤ a ∧ a ≤ 18446744073709551615) (hb : 0 ≤ b ∧ b ≤ 18446744073709551615) (hs : s.size ≤ 140737488351232) (ht : t.size ≤ 140737488351232) (hh : behind.size ≤ 140737488351232) :
    Calls Try.prog 5 #[.int .u64 a, .int .u64 b, .string s, .string t, .string behind] w fun e w' => e = .returned (.bool true) ∧ Below w.heap.size w w' := by
  obtain ⟨x, rfl⟩ : ∃ x : Nat, a = (x : Int) := ⟨a.toNat, by omega⟩
  obtain ⟨y, rfl⟩ : ∃ y : Nat, b = (y : Int) := ⟨b.toNat, by omega⟩
  exact else_walk (by omega) (by omega) hs ht hh

end Go.Proofs.Ytbcifefldmmaeaa.Frame
