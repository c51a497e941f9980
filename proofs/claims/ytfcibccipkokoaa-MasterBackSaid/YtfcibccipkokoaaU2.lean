/- Walks: the sum. -/
import Derived.Test.YtfcibccipkokoaaU1
import Derived.Deep.WholeRow
namespace Go.Proofs.Ytfcibccipkokoaa.Sum
open Go.RowKit

theorem flip_bits (c : Nat) (h : c < 4294967296) : bits .xor .u32 IntKind.u32.max (c : Int) = ((4294967295 ^^^ c : Nat) : Int) := u32_xor_nat 4294967295 c (by omega) h

theorem take_snoc (s : ByteArray) (k : Nat) (h : k < s.size) : s.data.toList.take (k + 1) = s.data.toList.take k ++ [s[k]] := by
  rw [List.take_succ_eq_append_getElem (by simpa using h)]; rfl
theorem run_snoc (c : Nat) (s : ByteArray) (k : Nat) (h : k < s.size) : run c (s.data.toList.take (k + 1)) = H 8 (run c (s.data.toList.take k) ^^^ s[k].toNat) := by
  rw [take_snoc s k h, run_append]; rfl
theorem take_all (s : ByteArray) : s.data.toList.take s.size = s.data.toList := List.take_of_length_le (by simp)
theorem byte_lt (s : ByteArray) (k : Nat) (h : k < s.size) : s[k].toNat < 256 := s[k].toNat_lt

set_option maxRecDepth 100000 in
set_option maxHeartbeats 1000000 in
theorem more_any (c : Nat) (s : ByteArray) (w : World) (hc : c < 4294967296) (hs : s.size ≤ maxLen) :
    Calls Try.prog 127 #[.int .u32 (c : Int), .string s] w fun e w' => e = .returned (.int .u32 (more c s.data.toList : Nat)) ∧ Below w.heap.size w w' := by
  unfold maxLen at hs
  obtain ⟨d, hd⟩ : ∃ d, d = 4294967295 ^^^ c := ⟨_, rfl⟩
  have hd0 : d < 4294967296 := by rw [hd]; exact flip_lt hc
  have hf := flip_bits c hc
  rw [← hd] at hf
  have D := Lib.hid hd
  have z := zeroTAB
  have al := allocTAB
  clear hd
  go_enter Try.func127, Try.ntmps127
  go_wp2_with fail
  refine (table_any w).mono ?_
  rintro e w1 ⟨rfl, b1⟩
  go_wp2_with (refine wpList_store_row rfl 181 _ _ rfl w1.heap.size tabC rfl rfl 181 zeroC (heap_alloc_new w1 _) sizeTAB zero_tab tab_one ?_)
  have hW : ∀ N, N < 256 → ((w1.alloc (.cells zeroC 181)).setRow w1.heap.size tabC).cell? ⟨w1.heap.size, N, none⟩ = some (.int .u32 (H 8 N : Nat)) := by
    intro N hN
    rw [cell_setRow_same _ _ _ _ _ _ _ (heap_alloc_new w1 _), tabC, rowOf_get _ hN]
  have hB : Below w.heap.size w ((w1.alloc (.cells zeroC 181)).setRow w1.heap.size tabC) := below_setRow (b1.alloc b1.size _) b1.size _
  generalize (w1.alloc (.cells zeroC 181)).setRow w1.heap.size tabC = W at *
  generalize w1.heap.size = g at *
  have K1 := Lib.hid hW
  have K2 := Lib.hid hB
  clear hW hB b1 hf
  go_loop [0, 12] (fun x i => ∃ k m : Nat, k ≤ s.size ∧ m < 4294967296 ∧ i = .int .i64 k ∧ x = .int .u32 m ∧ m = run d (s.data.toList.take k)) (fun _ i => s.size - (intOf i).toNat)
  case atStart => exact ⟨0, d, by omega, hd0, by go_num, rfl, by rw [List.take_zero]; rfl⟩
  case round =>
    obtain ⟨k, m, hk, hm, rfl, rfl, hr⟩ := hrel
    by_cases hlt : k < s.size
    · have hb := byte_lt s k hlt
      have hx : bits .xor .u8 ((m : Int) % 256) (s[k].toNat : Int) = ((m % 256 ^^^ s[k].toNat : Nat) : Int) := by
        have := u8_xor_nat (m % 256) s[k].toNat (by omega) hb
        rw [← this]; congr 1
      obtain ⟨N, hN⟩ : ∃ N, N = m % 256 ^^^ s[k].toNat := ⟨_, rfl⟩
      have hN0 : N < 256 := by rw [hN]; exact Nat.xor_lt_two_pow (n := 8) (by omega) (by omega)
      have hT0 : H 8 N < 4294967296 := H_lt (by omega)
      have hcell := K1.out N hN0
      obtain ⟨T, hT⟩ : ∃ T, T = H 8 N := ⟨_, rfl⟩
      rw [← hT] at hcell hT0
      rw [← hN] at hx
      have hy : bits .xor .u32 ((m : Int) / 256) (T : Int) = ((m / 256 ^^^ T : Nat) : Int) := by
        have := u32_xor_nat (m / 256) T (by omega) hT0
        rw [← this]; congr 1
      have hz : m / 256 ^^^ T = run d (s.data.toList.take (k + 1)) := by rw [run_snoc _ _ _ hlt, ← hr, step_table m _ hb, hT, hN]
      have hz0 : m / 256 ^^^ T < 4294967296 := by rw [hz]; exact run_lt hd0 _
      have Z := Lib.hid hz
      clear hz hr hT hN
      go_wp2_with fail
      go_round
      case rel => exact ⟨k + 1, _, by omega, hz0, by go_num, rfl, Z.out⟩
      case measure => simp [intOf]; omega
    · obtain rfl : k = s.size := by omega
      have hf2 := flip_bits m hm
      have hz : 4294967295 ^^^ m = more c s.data.toList := by unfold more; rw [hr, take_all, D.out]
      obtain ⟨q, hq⟩ : ∃ q, q = 4294967295 ^^^ m := ⟨_, rfl⟩
      rw [← hq] at hf2 hz
      have Z := Lib.hid hz
      clear hr hz hq
      go_wp2_with fail
      go_ret
      exact ⟨ret_int (by rw [Z.out]), K2.out⟩

theorem of_any (s : ByteArray) (w : World) (hs : s.size ≤ maxLen) :
    Calls Try.prog 94 #[.string s] w fun e w' => e = .returned (.int .u32 (sumOf s.data.toList : Nat)) ∧ Below w.heap.size w w' := by
  have h := more_any 0 s w (by omega) hs
  go_enter Try.func94, Try.ntmps94
  go_wp2_with fail
  refine h.mono ?_
  rintro e w1 ⟨rfl, b1⟩
  go_wp2_with fail
  go_ret
  exact ⟨rfl, b1⟩

end Go.Proofs.Ytfcibccipkokoaa.Sum
