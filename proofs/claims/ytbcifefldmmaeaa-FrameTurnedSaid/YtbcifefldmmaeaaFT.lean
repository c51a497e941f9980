/- The code's frames, as contracts (to be paid where the code is), and what every law of frames calls. -/
import Derived.Test.YtbcifefldmmaeaaFR40
import Derived.Test.YtbcifefldmmaeaaGT
import Derived.RegionTactic
namespace Go.Proofs.Ytbcifefldmmaeaa.Frame
open Go.RowKit
open Go.Proofs.Ytbcifefldmmaeaa.Strs (nth ext_nth)
open Go.Proofs.Ytbcifefldmmaeaa.Slot (Tx)
attribute [local go_sem ↓] Go.wp_at_zero Go.wp_at_succ

set_option maxRecDepth 100000 in
set_option maxHeartbeats 2000000 in
theorem texts_any {w : World} {v1 v2 : Value} (l1 l2 : List ByteArray) (h1 : Strs.Rows w v1 l1) (h2 : Strs.Rows w v2 l2) (n1 : l1.length ≤ 1000000) (n2 : l2.length ≤ 1000000) :
    Calls Try.prog 14 #[v1, v2] w fun e w' => e = .returned (.bool (decide (l1 = l2))) ∧ Below w.heap.size w w' := by
  obtain ⟨a1, c1, rfl, _⟩ := id h1
  obtain ⟨a2, c2, rfl, _⟩ := id h2
  have R1 := Lib.hid h1
  have R2 := Lib.hid h2
  clear h1 h2
  by_cases hl : l1.length = l2.length
  · obtain ⟨m, hm⟩ : ∃ m, m = l1.length := ⟨_, rfl⟩
    have e2 : l2.length = m := by omega
    rw [← hm] at R1 n1 ⊢
    rw [e2] at R2 ⊢
    have M := Lib.hid hm
    have M2 := Lib.hid e2
    have hm2 : ((m : Int) != (m : Int)) = false := by simp
    clear hl hm e2 n2
    go_enter Try.func14, Try.ntmps14
    go_wp2_with fail
    clear hm2
    go_loopw [5] (fun i wr => ∃ k : Nat, k ≤ m ∧ i = .int .i64 k ∧ Below w.heap.size w wr ∧ ∀ j, j < k → nth l1 j = nth l2 j) (fun i _ => m - (intOf i).toNat)
    case atStart => exact ⟨0, by omega, by go_num, Below.refl _ _, fun j hj => by omega⟩
    case round =>
      obtain ⟨k, hk, rfl, hb, heq⟩ := hrel
      have HB := Lib.hid hb
      have HE := Lib.hid heq
      clear hb heq
      by_cases hlt : k < m
      · have q1 := R1.out.later HB.out
        have q2 := R2.out.later HB.out
        rw [M.out] at q1
        rw [← M2.out] at q2
        obtain ⟨b1, o1, rfl, _, d1⟩ := q1.at (k := k) (by rw [← M.out]; exact hlt)
        obtain ⟨b2, o2, rfl, _, d2⟩ := q2.at (k := k) (by rw [M2.out]; exact hlt)
        clear q1 q2
        obtain ⟨s1, hs1⟩ : ∃ s, s = nth l1 k := ⟨_, rfl⟩
        obtain ⟨s2, hs2⟩ : ∃ s, s = nth l2 k := ⟨_, rfl⟩
        rw [← hs1] at d1
        rw [← hs2] at d2
        have S1 := Lib.hid hs1
        have S2 := Lib.hid hs2
        clear hs1 hs2
        by_cases hs : s1 = s2
        · have e1 : (s1.toList == s2.toList) = true := by rw [hs]; exact Strs.beq_yes s2
          have NB := Lib.hid (HB.out.trans ((Below.refl wr.heap.size wr).drew.mono HB.out.size))
          have NE := Lib.hid (show ∀ j, j < k + 1 → nth l1 j = nth l2 j from fun j hj => by
            by_cases e : j = k
            · subst e; rw [← S1.out, ← S2.out, hs]
            · exact HE.out j (by omega))
          clear hs
          go_wp2_with fail
          go_region
          go_wp2_with fail
          go_roundw
          case rel => exact ⟨k + 1, by omega, by go_num, NB.out, NE.out⟩
          case measure => simp [intOf]; omega
        · have e1 : (s1.toList == s2.toList) = false := Strs.beq_no hs
          have NB := Lib.hid (HB.out.trans ((Below.refl wr.heap.size wr).drew.mono HB.out.size))
          have NE := Lib.hid (show decide (l1 = l2) = false from decide_eq_false (by rintro rfl; exact hs (S1.out.trans S2.out.symm)))
          clear hs
          go_wp2_with fail
          go_region
          go_wp2_with fail
          go_ret
          exact ⟨by rw [NE.out]; rfl, NB.out⟩
      · obtain rfl : k = m := by omega
        have NE := Lib.hid (show decide (l1 = l2) = true from decide_eq_true (ext_nth (by rw [M2.out, ← M.out]) (by rw [← M.out]; exact HE.out)))
        go_wp2_with fail
        go_ret
        exact ⟨by rw [NE.out]; rfl, HB.out⟩
  · have NE := Lib.hid (show decide (l1 = l2) = false from decide_eq_false (by rintro rfl; exact hl rfl))
    have hm2 : ((l1.length : Int) != (l2.length : Int)) = true := by simp; omega
    clear hl
    generalize l1.length = m1 at *
    generalize l2.length = m2 at *
    go_enter Try.func14, Try.ntmps14
    go_wp2_with fail
    go_ret
    exact ⟨by rw [NE.out]; rfl, Below.refl _ _⟩


end Go.Proofs.Ytbcifefldmmaeaa.Frame
