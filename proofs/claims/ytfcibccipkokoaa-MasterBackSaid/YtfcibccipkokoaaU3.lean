/- Walks: the document's sum, bit by bit. -/
import Derived.Test.YtfcibccipkokoaaU2
namespace Go.Proofs.Ytfcibccipkokoaa.Sum
open Go.RowKit

theorem flip_bits2 (c : Nat) (h : c < 4294967296) : bits .xor .u32 (c : Int) 4294967295 = ((4294967295 ^^^ c : Nat) : Int) := by
  rw [Nat.xor_comm]
  exact u32_xor_nat c 4294967295 h (by omega)

set_option maxRecDepth 100000 in
set_option maxHeartbeats 1000000 in
theorem rmore_any (c : Nat) (s : ByteArray) (w : World) (hc : c < 4294967296) (hs : s.size ≤ maxLen) :
    Calls Try.prog 101 #[.int .u32 (c : Int), .string s] w fun e w' => e = .returned (.int .u32 (more c s.data.toList : Nat)) ∧ w = w' := by
  unfold maxLen at hs
  obtain ⟨d, hd⟩ : ∃ d, d = 4294967295 ^^^ c := ⟨_, rfl⟩
  have hd0 : d < 4294967296 := by rw [hd]; exact flip_lt hc
  have hf := flip_bits2 c hc
  rw [← hd] at hf
  have D := Lib.hid hd
  clear hd
  go_enter Try.func101, Try.ntmps101
  go_wp2_with fail
  clear hf
  go_loop [0, 5] (fun x i => ∃ k m : Nat, k ≤ s.size ∧ m < 4294967296 ∧ i = .int .i64 k ∧ x = .int .u32 m ∧ m = run d (s.data.toList.take k)) (fun _ i => s.size - (intOf i).toNat)
  case atStart => exact ⟨0, d, by omega, hd0, by go_num, rfl, by rw [List.take_zero]; rfl⟩
  case round =>
    obtain ⟨k, m, hk, hm, rfl, rfl, hr⟩ := hrel
    by_cases hlt : k < s.size
    · have hb := byte_lt s k hlt
      have hx := u32_xor_nat m s[k].toNat hm (by omega)
      obtain ⟨n0, hn0⟩ : ∃ n0, n0 = m ^^^ s[k].toNat := ⟨_, rfl⟩
      have hn : n0 < 4294967296 := by rw [hn0]; exact Nat.xor_lt_two_pow (n := 32) (by omega) (by omega)
      rw [← hn0] at hx
      have hz : H 8 n0 = run d (s.data.toList.take (k + 1)) := by rw [run_snoc _ _ _ hlt, ← hr, hn0]
      have Z := Lib.hid hz
      clear hz hr hn0
      go_wp2_with fail
      clear hx
      go_loop [0, 6] (fun x i => ∃ j n : Nat, j ≤ 8 ∧ n < 4294967296 ∧ i = .int .i64 j ∧ x = .int .u32 n ∧ n = H j n0) (fun _ i => 8 - (intOf i).toNat)
      case atStart => exact ⟨0, n0, by omega, hn, by go_num, rfl, rfl⟩
      case round =>
        obtain ⟨j, n, hj, hnn, rfl, rfl, hr⟩ := hrel
        by_cases hj8 : j < 8
        · have hq : hf n = H (j + 1) n0 := by rw [H_succ, ← hr]
          have hl := hf_lt hnn
          by_cases h : n % 2 = 1
          · have h1 : ((n : Int) % 2 == 1) = true := by simp; omega
            have e := Lib.hid (show hf n = n / 2 ^^^ 2197175160 by unfold hf; rw [if_pos h])
            have hx := half_bits n hnn
            rw [← e.out] at hx
            have Q := Lib.hid hq
            clear h hq hr
            go_wp2_with fail
            go_round
            case rel => exact ⟨j + 1, _, by omega, hl, by go_num, rfl, Q.out⟩
            case measure => simp [intOf]; omega
          · have h1 : ((n : Int) % 2 == 1) = false := by simp; omega
            have e := Lib.hid (show hf n = n / 2 by unfold hf; rw [if_neg h])
            have Q := Lib.hid hq
            clear h hq hr
            go_wp2_with fail
            go_round
            case rel => exact ⟨j + 1, _, by omega, hl, by go_num, by rw [e.out]; go_num, Q.out⟩
            case measure => simp [intOf]; omega
        · obtain rfl : j = 8 := by omega
          have Q := Lib.hid hr
          clear hr
          go_wp2_with fail
          go_round
          case rel => exact ⟨k + 1, _, by omega, hnn, by go_num, rfl, by rw [Q.out, Z.out]⟩
          case measure => simp [intOf]; omega
    · obtain rfl : k = s.size := by omega
      have hf2 := flip_bits2 m hm
      have hz : 4294967295 ^^^ m = more c s.data.toList := by unfold more; rw [hr, take_all, D.out]
      obtain ⟨q, hq⟩ : ∃ q, q = 4294967295 ^^^ m := ⟨_, rfl⟩
      rw [← hq] at hf2 hz
      have Z := Lib.hid hz
      clear hr hz hq
      go_wp2_with fail
      go_ret
      exact ⟨ret_int (by rw [Z.out]), rfl⟩

theorem rof_any (s : ByteArray) (w : World) (hs : s.size ≤ maxLen) :
    Calls Try.prog 72 #[.string s] w fun e w' => e = .returned (.int .u32 (sumOf s.data.toList : Nat)) ∧ w = w' := by
  have h := rmore_any 0 s w (by omega) hs
  go_enter Try.func72, Try.ntmps72
  go_wp2_with fail
  refine h.mono ?_
  rintro e w1 ⟨rfl, rfl⟩
  go_wp2_with fail
  go_ret
  exact ⟨rfl, rfl⟩

end Go.Proofs.Ytfcibccipkokoaa.Sum
