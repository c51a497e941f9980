/-
  Walks: opening.
-/
import Derived.Test.YtgohpompgiljiaaShelf
import Derived.Deep.RegionHeld3
import Derived.Deep.DrawnRows
import Derived.BigQuiet
import Derived.Deep.QuietTactic
import Derived.Test.YtgohpompgiljiaaZ33
namespace Go.Proofs.Ytgohpompgiljiaa.Sum
open Go.RowKit
attribute [local go_sem ↓] Go.wp_at_zero Go.wp_at_succ

theorem clone_any (s : ByteArray) (w : World) (hs : s.size ≤ 281474976710656) :
    Calls Try.prog 30 #[.string s] w fun e w' => e = .returned (.string s) ∧ Below w.heap.size w w' := by
  go_enter Try.func30, Try.ntmps30
  go_wp2_with (go_at_call 53; refine (Try.stringslite_Clone _ _ hs).mono ?_; rintro e w' ⟨rfl, hb⟩)
  go_ret
  exact ⟨rfl, hb⟩

theorem cut_low (s : ByteArray) (i : Nat) (h : i ≤ s.size) (W : World) : (Instr.sliceAt 9 (.string s) none (some (.int .i64 (i : Int))) none).run Try.prog W = .ok (.string (s.extract 0 i)) W := by
  rw [run_sliceAt_string (P := Try.prog) W 9 _ _ _ _ Try.underlying9, run_slice_string_h (P := Try.prog) W 9 s Try.underlying9 .i64 (i : Int) (by omega) (by omega), Int.toNat_natCast]
theorem cut_high (s : ByteArray) (i : Nat) (h : i ≤ s.size) (W : World) : (Instr.sliceAt 9 (.string s) (some (.int .i64 (i : Int))) none none).run Try.prog W = .ok (.string (s.extract i s.size)) W := by
  rw [run_sliceAt_string (P := Try.prog) W 9 _ _ _ _ Try.underlying9, run_slice_string_l (P := Try.prog) W 9 s Try.underlying9 .i64 _ (by omega) (by omega), Int.toNat_natCast]
theorem part_list (s : ByteArray) (a b : Nat) : (s.extract a b).data.toList = (s.data.toList.drop a).take (b - a) := by
  rw [ByteArray.data_extract, Array.toList_extract, List.extract_eq_take_drop]

/-- the text that is sealed, or none -/
def openT (s : ByteArray) : ByteArray := if isSealed s.data.toList then s.extract 0 (s.size - 4) else ⟨#[]⟩

theorem below_drewN (w : World) (n : Nat) : Below w.heap.size w (w.drewN n) := ⟨rfl, rfl, rfl, Nat.le_refl _, fun _ _ => rfl⟩

theorem openT_short (s : ByteArray) (h : s.size < 4) : isSealed s.data.toList = false ∧ openT s = ⟨#[]⟩ := by
  have hl : s.data.toList.length = s.size := (Lib.size_eq _).symm
  have e : isSealed s.data.toList = false := by
    unfold isSealed
    have : decide (4 ≤ s.data.toList.length) = false := by simp; omega
    rw [this, Bool.false_and]
  exact ⟨e, by unfold openT; rw [e, if_neg (by decide)]⟩

end Go.Proofs.Ytgohpompgiljiaa.Sum
