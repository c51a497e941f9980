/- Walks: the document's frames: numbers' bytes, sums' bytes. -/
import Derived.Test.YtbcifefldmmaeaaFM
import Derived.Test.YtbcifefldmmaeaaWD
import Derived.Test.YtbcifefldmmaeaaU5
import Derived.Test.YtbcifefldmmaeaaU6
import Derived.Test.YtbcifefldmmaeaaGB
import Derived.BigQuiet
import Derived.Deep.QuietTactic
import Derived.Deep.DrawnRows
namespace Go.Proofs.Ytbcifefldmmaeaa.Frame
open Go.RowKit
open Go.Proofs.Ytbcifefldmmaeaa.Sum (le4 sumOf sumOf_lt byteAt byteAt_low quo_step le4_take rof_any)
attribute [local go_sem ↓] Go.wp_at_zero Go.wp_at_succ

theorem putS_nb {n m : Nat} (h1 : 1 ≤ m) (h8 : m ≤ 8) (hn : n < 256 ^ m) : putS (n : Int) (m : Int) = nb m n := by
  have h : (n : Int) / 2 ^ (8 * m) = 0 := by
    have : n / 2 ^ (8 * m) = 0 := Nat.div_eq_of_lt (by rw [pow256]; exact hn)
    have e : ((n / 2 ^ (8 * m) : Nat) : Int) = 0 := by rw [this]; rfl
    rw [← e]; simp
  have hb : putB (n : Int) (m : Int) = true := by
    unfold putB
    rw [Int.toNat_natCast, h]
    exact decide_eq_true ⟨by omega, by omega, rfl⟩
  unfold putS
  rw [if_pos hb]
  unfold bytesOf nb
  rw [Int.toNat_natCast, Int.toNat_natCast]
theorem u64_of {n m : Nat} (h8 : m ≤ 8) (hn : n < 256 ^ m) : U64 (n : Int) := by
  have : 256 ^ m ≤ 256 ^ 8 := Nat.pow_le_pow_right (by omega) h8
  have e : (256 : Nat) ^ 8 = 18446744073709551616 := by decide
  unfold U64
  omega
set_option maxRecDepth 100000 in
theorem rput2_any (n m : Nat) (w : World) (h1 : 1 ≤ m) (h8 : m ≤ 8) (hn : n < 256 ^ m) :
    Calls Try.prog 18 #[.int .u64 (n : Int), .int .i64 (m : Int)] w fun e w' => e = .returned (.string (nb m n)) ∧ Below w.heap.size w w' := by
  have K := Lib.hid (rput_any (n : Int) (m : Int) w (u64_of h8 hn))
  rw [putS_nb h1 h8 hn] at K
  clear h1 h8 hn
  generalize nb m n = x at *
  generalize putB _ _ = b at *
  go_enter Try.func18, Try.ntmps18
  go_wp2_with fail
  refine K.out.mono ?_
  rintro e w1 ⟨rfl, hb⟩
  go_wp2_with fail
  go_ret
  exact ⟨rfl, hb⟩

theorem take_set {u v : List UInt8} {k : Nat} {b : UInt8} (hu : k < u.length) (h : u.take k = v.take k) (hv : v.take (k + 1) = v.take k ++ [b]) : (u.set k b).take (k + 1) = v.take (k + 1) := by
  rw [hv, ← h, List.take_succ_eq_append_getElem (by rw [List.length_set]; exact hu), List.take_set_of_le (Nat.le_refl _), List.getElem_set_self]
theorem four_in (w : World) : HoldU w.heap.size [0, 0, 0, 0] w (w.alloc (.cells #[.int .u8 0, .int .u8 0, .int .u8 0, .int .u8 0] 5)) := by
  refine ⟨?_, ?_, (Below.refl _ w).alloc (Nat.le_refl _) _⟩
  · intro j hj
    rw [cell_of_row _ _ _ _ _ _ (heap_alloc_new w _)]
    match j, hj with
    | 0, _ => rfl
    | 1, _ => rfl
    | 2, _ => rfl
    | 3, _ => rfl
  · intro j _
    exact frozen_of_row _ _ _ _ _ (heap_alloc_new w _)

set_option maxRecDepth 100000 in
set_option maxHeartbeats 1000000 in
theorem rsum_any (s : ByteArray) (w : World) (hs : s.size ≤ 281474976710) :
    Calls Try.prog 19 #[.string s] w fun e w' => e = .returned (.string (sb (sumOf (L s)))) ∧ Below w.heap.size w w' := by
  have hof := Lib.hid (rof_any s w (by unfold maxLen; omega))
  have hc := sumOf_lt s.data.toList
  have F := Lib.hid (four_in w)
  have MK : ∀ w, (Instr.makeSlice 24 (.int .i64 4) (.int .i64 4)).run Try.prog w = .ok (.slice (some ⟨w.heap.size, 0, none⟩) 4 4) (w.alloc (.cells #[.int .u8 0, .int .u8 0, .int .u8 0, .int .u8 0] 5)) := fun _ => by kernel_rfl
  clear hs
  show Calls _ _ _ _ fun e w' => e = .returned (.string (sb (sumOf s.data.toList))) ∧ _
  generalize sumOf s.data.toList = C at *
  go_enter Try.func19, Try.ntmps19
  go_wp2_with fail
  refine hof.out.mono ?_
  rintro e w2 ⟨rfl, rfl⟩
  go_wp2_with fail
  clear MK
  go_loopw [3, 5] (fun x i wr => ∃ (k m : Nat) (u : List UInt8), k ≤ 4 ∧ m < 4294967296 ∧ i = .int .i64 k ∧ x = .int .u32 m ∧ m = C / 2 ^ (8 * k) ∧ u.length = 4 ∧ u.take k = (le4 C).take k ∧ HoldU w.heap.size u w wr) (fun _ i _ => 4 - (intOf i).toNat)
  case atStart => exact ⟨0, C, _, by omega, hc, by go_num, rfl, by simp, rfl, by simp, F.out⟩
  case round =>
    obtain ⟨k, m, u, hk, hm, rfl, rfl, hq, hu, ht, hh⟩ := hrel
    clear F
    by_cases hlt : k < 4
    · have HH := Lib.hid hh
      have HU := Lib.hid hu
      have HT := Lib.hid (take_set (by omega) ht (le4_take C k hlt))
      have hlow := Lib.hid (byteAt_low C m k hq)
      have hq2 := Lib.hid (quo_step C m k hq)
      have e3 := HH.out.1 k (by rw [HU.out]; exact hlt)
      have e4 := HH.out.2.1 k (by rw [HU.out]; exact hlt)
      clear hh hu ht hq
      go_wp2_with fail
      have g3 := HH.out.set k (by rw [HU.out]; exact hlt) (byteAt C k)
      rw [← hlow.out] at g3
      go_roundw
      case rel => exact ⟨k + 1, m / 256, _, by omega, by omega, by go_num, by go_num, hq2.out, by rw [List.length_set]; exact HU.out, HT.out, g3⟩
      case measure => simp [intOf]; omega
    · obtain rfl : k = 4 := by omega
      have e5 : u = le4 C := by
        have h1 : u.take 4 = u := List.take_of_length_le (by omega)
        rw [← h1, ht]; rfl
      subst e5
      have CV := hh.out (cap := 4)
      have hl : (le4 C).length = 4 := rfl
      rw [hl] at CV
      have B := Lib.hid hh.2.2
      clear hh hu ht hq hl
      go_wp2_with fail
      go_ret
      exact ⟨rfl, B.out⟩

end Go.Proofs.Ytbcifefldmmaeaa.Frame
