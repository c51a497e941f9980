/- Walks: opening. -/
import Derived.Test.YtkbgepikmmeppaaW6
import Derived.Test.YtkbgepikmmeppaaShelf
import Derived.Deep.RegionHeld3
import Derived.Deep.DrawnRows
import Derived.BigQuiet
import Derived.Deep.QuietTactic
namespace Go.Proofs.Ytkbgepikmmeppaa
open Go.RowKit
attribute [local go_sem ↓] Go.wp_at_zero Go.wp_at_succ

theorem clone_any (s : ByteArray) (w : World) (hs : s.size ≤ 281474976710656) :
    Calls Try.prog 17 #[.string s] w fun e w' => e = .returned (.string s) ∧ Below w.heap.size w w' := by
  go_enter Try.func17, Try.ntmps17
  go_wp2_with (go_at_call 19; refine (Try.stringslite_Clone _ _ hs).mono ?_; rintro e w' ⟨rfl, hb⟩)
  go_ret
  exact ⟨rfl, hb⟩

theorem cut_low (s : ByteArray) (i : Nat) (h : i ≤ s.size) (W : World) : (Instr.sliceAt 9 (.string s) none (some (.int .i64 (i : Int))) none).run Try.prog W = .ok (.string (s.extract 0 i)) W := by
  rw [run_sliceAt_string (P := Try.prog) W 9 _ _ _ _ Try.underlying9, run_slice_string_h (P := Try.prog) W 9 s Try.underlying9 .i64 (i : Int) (by omega) (by omega), Int.toNat_natCast]
theorem cut_high (s : ByteArray) (i : Nat) (h : i ≤ s.size) (W : World) : (Instr.sliceAt 9 (.string s) (some (.int .i64 (i : Int))) none none).run Try.prog W = .ok (.string (s.extract i s.size)) W := by
  rw [run_sliceAt_string (P := Try.prog) W 9 _ _ _ _ Try.underlying9, run_slice_string_l (P := Try.prog) W 9 s Try.underlying9 .i64 _ (by omega) (by omega), Int.toNat_natCast]
theorem part_list (s : ByteArray) (a b : Nat) : (s.extract a b).data.toList = (s.data.toList.drop a).take (b - a) := by
  rw [ByteArray.data_extract, Array.toList_extract, List.extract_eq_take_drop]

/-- the text that is sealed, or none -/
def openT (s : ByteArray) : ByteArray := if isSealed s.data.toList then s.extract 0 (s.size - 4) else ⟨#[]⟩

theorem below_drewN (w : World) (n : Nat) : Below w.heap.size w (w.drewN n) := ⟨rfl, rfl, rfl, Nat.le_refl _, fun _ _ => rfl⟩

theorem open_short (s : ByteArray) (w : World) (hs : s.size < 4) :
    Calls Try.prog 8 #[.string s] w fun e w' => e = .returned (.tuple #[.string ⟨#[]⟩, .bool false]) ∧ Below w.heap.size w w' := by
  have hg : decide ((s.size : Int) - 4 < 0) = true := by simp; omega
  go_enter Try.func8, Try.ntmps8
  go_wp2_with fail
  go_quiet (fail)
  go_wp2_with fail
  go_ret2
  exact ⟨rfl, below_drewN _ _⟩

set_option maxHeartbeats 1000000 in
theorem open_long (s : ByteArray) (w : World) (n : Nat) (hs : s.size ≤ 281474976710656) (hn : n + 4 = s.size) :
    Calls Try.prog 8 #[.string s] w fun e w' => e = .returned (.tuple #[.string (openT s), .bool (isSealed s.data.toList)]) ∧ Below w.heap.size w w' := by
  have h1 : ((s.size : Int) - 4) = (n : Int) := by omega
  have hg : decide ((n : Int) < 0) = false := by simp
  have c1 := cut_low s n (by omega)
  have c2 := cut_high s n (by omega)
  have z1 : (s.extract 0 n).size ≤ 281474976710656 := by rw [ByteArray.size_extract]; omega
  have z2 : (s.extract n s.size).size = 4 := by rw [ByteArray.size_extract]; omega
  have F1 := of_any (s.extract 0 n)
  have F2 := tail_any (s.extract n s.size)
  have hl : s.data.toList.length = s.size := (Lib.size_eq _).symm
  have e1 : (s.extract 0 n).data.toList = s.data.toList.take (s.data.toList.length - 4) := by
    rw [part_list, List.drop_zero, hl]; congr 1; omega
  have e2 : (s.extract n s.size).data.toList = s.data.toList.drop (s.data.toList.length - 4) := by
    rw [part_list, hl]
    have : s.size - 4 = n := by omega
    rw [this, List.take_of_length_le (by simp)]
  rw [e1] at F1
  rw [e2] at F2
  have l1 := sumOf_lt (s.data.toList.take (s.data.toList.length - 4))
  have hse : isSealed s.data.toList = decide (sumOf (s.data.toList.take (s.data.toList.length - 4)) = val (s.data.toList.drop (s.data.toList.length - 4))) := by
    unfold isSealed
    have : decide (4 ≤ s.data.toList.length) = true := by simp; omega
    rw [this, Bool.true_and]
  have hop : openT s = if isSealed s.data.toList then s.extract 0 n else ⟨#[]⟩ := by
    have : s.size - 4 = n := by omega
    unfold openT; rw [this]
  rw [hop]
  obtain ⟨x, hx⟩ : ∃ x, x = sumOf (s.data.toList.take (s.data.toList.length - 4)) := ⟨_, rfl⟩
  obtain ⟨y, hy⟩ : ∃ y, y = val (s.data.toList.drop (s.data.toList.length - 4)) := ⟨_, rfl⟩
  rw [← hx] at F1
  rw [← hy] at F2
  rw [← hx, ← hy] at hse
  have f1 := Lib.hid F1
  have f2 := Lib.hid F2
  have z3 := Lib.hid z2
  obtain ⟨p, hp⟩ : ∃ p, p = s.extract 0 n := ⟨_, rfl⟩
  obtain ⟨q, hq⟩ : ∃ q, q = s.extract n s.size := ⟨_, rfl⟩
  rw [← hp] at c1 z1 f1
  rw [← hq] at c2 z3 f2
  rw [← hp]
  clear F1 F2 hx hy hop e1 e2 hl l1 z2 hp hq hn
  by_cases hxy : x = y
  · have hne : ((x : Int) != (y : Int)) = false := by simp; omega
    have ht : isSealed s.data.toList = true := by rw [hse]; simpa using hxy
    rw [ht, if_pos rfl]
    clear ht hxy hse
    go_enter Try.func8, Try.ntmps8
    go_wp2_with fail
    go_region_held3 (fun _ => True) (trivial) (first | (go_at_call 10; refine (f1.out _ ?_).mono ?_; (unfold maxLen; omega); rintro e w1 ⟨rfl, b1⟩) | (go_at_call 16; refine (f2.out _ z3.out).mono ?_; rintro e w1 ⟨rfl, rfl⟩))
    have hb := b1.mono (show w.heap.size ≤ w.drew.heap.size from Nat.le_refl _)
    have hb2 := (Below.refl w.heap.size w).drew.trans hb
    have B := Lib.hid hb2
    clear hb hb2 b1
    go_wp2_with fail
    refine (clone_any _ _ z1).mono ?_
    rintro e w2 ⟨rfl, b2⟩
    have B2 := Lib.hid (B.out.trans (b2.mono B.out.size))
    clear b2 B
    go_wp2_with fail
    go_ret2
    exact ⟨rfl, B2.out⟩
  · have hne : ((x : Int) != (y : Int)) = true := by simp; omega
    have ht : isSealed s.data.toList = false := by rw [hse]; simpa using hxy
    rw [ht, if_neg (by decide)]
    clear ht hxy hse
    go_enter Try.func8, Try.ntmps8
    go_wp2_with fail
    go_region_held3 (fun _ => True) (trivial) (first | (go_at_call 10; refine (f1.out _ ?_).mono ?_; (unfold maxLen; omega); rintro e w1 ⟨rfl, b1⟩) | (go_at_call 16; refine (f2.out _ z3.out).mono ?_; rintro e w1 ⟨rfl, rfl⟩))
    have hb := b1.mono (show w.heap.size ≤ w.drew.heap.size from Nat.le_refl _)
    have hb2 := (Below.refl w.heap.size w).drew.trans hb
    have B := Lib.hid hb2
    clear hb hb2 b1
    go_wp2_with fail
    go_ret2
    exact ⟨rfl, B.out⟩

theorem openT_short (s : ByteArray) (h : s.size < 4) : isSealed s.data.toList = false ∧ openT s = ⟨#[]⟩ := by
  have hl : s.data.toList.length = s.size := (Lib.size_eq _).symm
  have e : isSealed s.data.toList = false := by
    unfold isSealed
    have : decide (4 ≤ s.data.toList.length) = false := by simp; omega
    rw [this, Bool.false_and]
  exact ⟨e, by unfold openT; rw [e, if_neg (by decide)]⟩

theorem open_any (s : ByteArray) (w : World) (hs : s.size ≤ 281474976710656) :
    Calls Try.prog 8 #[.string s] w fun e w' => e = .returned (.tuple #[.string (openT s), .bool (isSealed s.data.toList)]) ∧ Below w.heap.size w w' := by
  by_cases h : s.size < 4
  · rw [(openT_short s h).1, (openT_short s h).2]
    exact open_short s w h
  · exact open_long s w (s.size - 4) hs (by omega)

end Go.Proofs.Ytkbgepikmmeppaa
