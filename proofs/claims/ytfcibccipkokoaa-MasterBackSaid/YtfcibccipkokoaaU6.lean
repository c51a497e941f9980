/- Walks: the document's sealing. -/
import Derived.Test.YtfcibccipkokoaaU5
namespace Go.Proofs.Ytfcibccipkokoaa.Sum
open Go.RowKit

theorem byteAt_low (C m k : Nat) (h : m = C / 2 ^ (8 * k)) : (m : Int) % 256 = ((byteAt C k).toNat : Int) := by
  rw [byteAt_nat, h]; simp
theorem quo_step (C m k : Nat) (h : m = C / 2 ^ (8 * k)) : m / 256 = C / 2 ^ (8 * (k + 1)) := by
  rw [h, Nat.div_div_eq_div_mul, Nat.mul_add, Nat.pow_add]

set_option maxRecDepth 100000 in
set_option maxHeartbeats 1000000 in
theorem rseal_any (s : ByteArray) (w : World) (hs : s.size ≤ 281474976710) :
    Calls Try.prog 41 #[.string s] w fun e w' => e = .returned (.string ⟨(sealL s.data.toList).toArray⟩) ∧ Below w.heap.size w w' := by
  obtain ⟨y, hy⟩ : ∃ y, y = sealL s.data.toList := ⟨_, rfl⟩
  rw [← hy]
  have Y := Lib.hid hy
  clear hy
  obtain ⟨i0, hi, hz0, hz1, hz2⟩ := info_parts info5
  have hof := rof_any s
  have hc := sumOf_lt s.data.toList
  obtain ⟨C, hC⟩ : ∃ C, C = sumOf s.data.toList := ⟨_, rfl⟩
  rw [← hC] at hof hc
  have OF := Lib.hid hof
  have HC := Lib.hid hC
  obtain ⟨v1, w1, hcv, hb⟩ := Buf.conv (P := Try.prog) Try.underlying9 Try.underlying41 Try.underlying5 w s (by unfold maxLen; omega)
  have h1 := Lib.hid hb
  clear hof hC hb
  go_enter Try.func41, Try.ntmps41
  go_wp2_with fail
  refine (OF.out _ (by unfold maxLen; omega)).mono ?_
  rintro e w2 ⟨rfl, rfl⟩
  go_wp2_with fail
  go_loopw [3, 4, 5] (fun x v i wr => ∃ k m : Nat, k ≤ 4 ∧ m < 4294967296 ∧ i = .int .i64 k ∧ x = .int .u32 m ∧ m = C / 2 ^ (8 * k) ∧ Buf 5 w.heap.size v (s.data.toList ++ (le4 C).take k) w wr) (fun _ _ i _ => 4 - (intOf i).toNat)
  case atStart => exact ⟨0, C, by omega, hc, by go_num, rfl, by simp, by rw [List.take_zero, List.append_nil]; exact h1.out⟩
  case round =>
    obtain ⟨k, m, hk, hm, rfl, rfl, hq, hb⟩ := hrel
    clear h1 hcv
    by_cases hlt : k < 4
    · have hb2 := Lib.hid hb
      have hl : (s.data.toList ++ (le4 C).take k).length + 1 ≤ 140737488355328 := by
        have e1 : s.data.toList.length = s.size := (Lib.size_eq _).symm
        rw [List.length_append, List.length_take, e1]
        omega
      have ht := le4_take C k hlt
      have T := Lib.hid ht
      have hlow := Lib.hid (byteAt_low C m k hq)
      have hq2 := Lib.hid (quo_step C m k hq)
      clear hb ht hq
      go_wp2_with (at_builtin; refine wpList_buf_byte rfl _ _ 41 rfl Try.underlying41 hi hz0 hz1 hz2 rfl (byteAt C k) _ hlow.out hb2.out rfl hl ?_)
      intro v2 w3 hb3
      first | rw [List.append_assoc, ← T.out] at hb3 | rw [← T.out] at hb3
      have hb4 := Lib.hid hb3
      clear hb3
      go_wp2_with fail
      go_roundw
      case rel => exact ⟨k + 1, m / 256, by omega, by omega, by go_num, by go_num, hq2.out, hb4.out⟩
      case measure => simp [intOf]; omega
    · obtain rfl : k = 4 := by omega
      have e5 : (le4 C).take 4 = le4 C := rfl
      rw [e5] at hb
      have e6 : s.data.toList ++ le4 C = y := by rw [Y.out]; unfold sealL; rw [HC.out]
      rw [e6] at hb
      have hout := hb.out Try.underlying41 Try.underlying5 Try.underlying9
      have hbel := Lib.hid hb.below
      clear hb e5 e6 hq
      go_wp2_with fail
      go_ret
      exact ⟨rfl, hbel.out⟩

end Go.Proofs.Ytfcibccipkokoaa.Sum
