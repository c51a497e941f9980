/- What numbers at places are in a frame; what a text that is none of a frame's is. -/
import Derived.Test.YtbcifefldmmaeaaFR2
import Derived.Deep.RegionHeld3
import Derived.Deep.DeepCutAuto
import Derived.Outline
namespace Go.Proofs.Ytbcifefldmmaeaa.Frame
open Go.RowKit
open Go.Proofs.Ytbcifefldmmaeaa.Sum (sumOf)
attribute [local go_sem ↓] Go.wp_at_zero Go.wp_at_succ

theorem numAt_F {s : ByteArray} : numAt s 0 2 = nF s ∧ numAt s 2 8 = aF s := by
  unfold numAt nF aF
  rw [List.drop_zero]
  exact ⟨rfl, rfl⟩
theorem get_F {s : ByteArray} (h : 14 ≤ s.size) : getN s 0 2 = (nF s : Int) ∧ getN s 2 8 = (aF s : Int) := by
  have e1 : getB s 0 2 = true := by unfold getB mayB hasB; simp; omega
  have e2 : getB s 2 8 = true := by unfold getB mayB hasB; simp; omega
  unfold getN
  rw [if_pos e1, if_pos e2]
  exact ⟨congrArg Nat.cast numAt_F.1, congrArg Nat.cast numAt_F.2⟩
theorem dec_err {s : ByteArray} {lsn e : Nat} (h : decE s lsn = e) (he : e ≠ 0) : decS s lsn = ⟨#[]⟩ ∧ decU s lsn = 0 := by
  unfold decS decU
  rw [if_neg (by omega), if_neg (by omega)]
  exact ⟨rfl, rfl⟩
theorem dec_ok {s : ByteArray} {lsn : Nat} (h : decE s lsn = 0) : decS s lsn = s.extract 14 (14 + nF s) ∧ decU s lsn = 14 + nF s := by
  unfold decS decU
  rw [if_pos h, if_pos h]
  exact ⟨rfl, rfl⟩
theorem beq_no {s t : ByteArray} (h : s ≠ t) : (s.toList == t.toList) = false := by
  rw [beq_eq_false_iff_ne]
  intro e
  rw [Lib.toList_data, Lib.toList_data] at e
  exact h (L_ext e)
theorem small {x y : Nat} (h : x + y ≤ 9223372036854775807) : (9223372036854775807 < x + y) = False := by simp only [eq_iff_iff, iff_false]; omega
theorem ne_of_list {x y : ByteArray} : (x.toList == y.toList) = decide (L x = L y) := by
  by_cases h : x = y
  · subst h
    simp
  · rw [beq_no h, decide_eq_false (fun e => h (L_ext e))]

end Go.Proofs.Ytbcifefldmmaeaa.Frame
