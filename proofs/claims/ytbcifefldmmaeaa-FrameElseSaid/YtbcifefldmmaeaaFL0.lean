/- Walks: some answers that the document fixes, as every law of frames asks. -/
import Derived.Test.YtbcifefldmmaeaaFI
import Derived.Test.YtbcifefldmmaeaaFT
namespace Go.Proofs.Ytbcifefldmmaeaa.Frame
open Go.RowKit
attribute [local go_sem ↓] Go.wp_at_zero Go.wp_at_succ

def abc : ByteArray := ⟨#[97, 98, 99]⟩
theorem abc_may : mayF 7 abc = true := by decide
theorem abc_size : (encF 7 abc).size = 17 := enc_size abc_may
theorem abc_head : (encF 7 abc).extract 0 10 = ⟨#[0, 3, 0, 0, 0, 0, 0, 0, 0, 7]⟩ := by
  have e : encF 7 abc = bodF 7 abc := by unfold encF; rw [if_pos abc_may]
  have h := (parts 7 abc ⟨#[]⟩ (by decide) (by decide)).2.2.1
  rw [no_right] at h
  rw [e, h]
  decide +kernel

set_option maxRecDepth 100000 in
set_option maxHeartbeats 1000000 in
theorem works_any (w : World) : Calls Try.prog 7 #[] w fun e w' => e = .returned (.bool true) ∧ Below w.heap.size w w' := by
  have hz : ∀ t : ByteArray, t.size ≤ 1 → (encF 7 abc ++ t).size ≤ 140737488351232 := fun t ht => by rw [ByteArray.size_append, abc_size]; omega
  have K1 := Lib.hid (fun W => (show Calls Try.prog 8 #[.int .u64 7, .string ⟨#[97, 98, 99]⟩] W fun e w' => e = .returned (.tuple #[.string (encF 7 abc), .int .i64 0]) ∧ Below W.heap.size W w' from fencode_any 7 abc W (by decide) (by decide)))
  have K2 := Lib.hid (fun W => (show Calls Try.prog 10 #[.string (encF 7 abc ++ ⟨#[120]⟩), .int .u64 7] W fun e w' => e = .returned (.tuple #[.string ⟨#[97, 98, 99]⟩, .int .i64 17, .int .i64 0]) ∧ Below W.heap.size W w' from by
    have := fdecode_any (encF 7 abc ++ ⟨#[120]⟩) 7 W (by decide) (hz _ (by decide))
    obtain ⟨d1, d2, d3⟩ := dec_enc (⟨#[120]⟩ : ByteArray) (lsn := 7) (by decide) abc_may
    rw [d1, d2, d3] at this
    exact this))
  have K3 := Lib.hid (fun W => (show Calls Try.prog 10 #[.string (encF 7 abc), .int .u64 8] W fun e w' => e = .returned (.tuple #[.string ⟨#[]⟩, .int .i64 0, .int .i64 7]) ∧ Below W.heap.size W w' from by
    have := fdecode_any (encF 7 abc) 8 W (by decide) (by rw [abc_size]; decide)
    have d := dec_else (⟨#[]⟩ : ByteArray) (lsn := 7) (b := 8) (by decide) abc_may (by decide)
    rw [no_right] at d
    rw [(dec_err d (by decide)).1, (dec_err d (by decide)).2, d] at this
    exact this))
  have K4 := Lib.hid (fun W => (show Calls Try.prog 10 #[.string ((encF 7 abc).extract 0 16), .int .u64 7] W fun e w' => e = .returned (.tuple #[.string ⟨#[]⟩, .int .i64 0, .int .i64 6]) ∧ Below W.heap.size W w' from by
    have := fdecode_any ((encF 7 abc).extract 0 16) 7 W (by decide) (by rw [ByteArray.size_extract, abc_size]; decide)
    have d := dec_cut (j := 16) (lsn := 7) (s := abc) (by decide) abc_may (by decide)
    rw [(dec_err d (by decide)).1, (dec_err d (by decide)).2, d] at this
    exact this))
  have K5 := Lib.hid (fun W => (show Calls Try.prog 15 #[.int .i64 17] W fun e w' => e = .returned (.int .i64 31) ∧ W = w' from fsize_any 17 W (by decide)))
  have K6 := Lib.hid (fun W => (show Calls Try.prog 15 #[.int .i64 0] W fun e w' => e = .returned (.int .i64 0) ∧ W = w' from fsize_any 0 W (by decide)))
  have Z := abc_size
  have HD := Lib.hid abc_head
  clear hz
  generalize encF 7 abc = A at *
  have cA : ∀ W, (Instr.sliceAt 9 (.string A) none (some (.int .i64 16)) none).run Try.prog W = .ok (.string (A.extract 0 16)) W := fun W => by
    rw [run_sliceAt_string (P := Try.prog) W 9 _ _ _ _ Try.underlying9, run_slice_string_h (P := Try.prog) W 9 A Try.underlying9 .i64 16 (by omega) (by omega)]; rfl
  have cB : ∀ W, (Instr.sliceAt 9 (.string A) none (some (.int .i64 10)) none).run Try.prog W = .ok (.string ⟨#[0, 3, 0, 0, 0, 0, 0, 0, 0, 7]⟩) W := fun W => by
    rw [run_sliceAt_string (P := Try.prog) W 9 _ _ _ _ Try.underlying9, run_slice_string_h (P := Try.prog) W 9 A Try.underlying9 .i64 10 (by omega) (by omega)]
    rw [show (10 : Int).toNat = 10 from rfl, HD.out]
  have z1 : ((A.size : Int) != 17) = false := by rw [Z]; rfl
  have z2 : ((A.size : Int) == 17) = true := by rw [Z]; rfl
  have z3 : A.size ≤ 17 := by omega
  clear Z HD
  go_enter Try.func7, Try.ntmps7
  go_wp2_with fail
  refine (K1.out _).mono ?_
  rintro e w1 ⟨rfl, b1⟩
  have B1 := Lib.hid b1
  clear b1 K1
  go_wp2_with fail
  refine (K2.out _).mono ?_
  rintro e w2 ⟨rfl, b2⟩
  have B2 := Lib.hid (B1.out.trans (b2.mono B1.out.size))
  clear b2 K2 B1
  go_wp2_with fail
  refine (K3.out _).mono ?_
  rintro e w3 ⟨rfl, b3⟩
  have B3 := Lib.hid (B2.out.trans (b3.mono B2.out.size))
  clear b3 K3 B2
  go_wp2_with fail
  refine (K4.out _).mono ?_
  rintro e w4 ⟨rfl, b4⟩
  have B4 := Lib.hid (B3.out.trans (b4.mono B3.out.size))
  clear b4 K4 B3
  go_wp2_with fail
  refine (K5.out _).mono ?_
  rintro e w5 ⟨rfl, rfl⟩
  go_wp2_with fail
  refine (K6.out _).mono ?_
  rintro e w5 ⟨rfl, rfl⟩
  go_wp2_with fail
  go_ret
  exact ⟨rfl, B4.out⟩

end Go.Proofs.Ytbcifefldmmaeaa.Frame
