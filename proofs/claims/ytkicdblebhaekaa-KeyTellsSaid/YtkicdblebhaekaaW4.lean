/- Walks: what is within; copies; what is between; the next one; the answers that the document fixes. -/
import Derived.Test.YtkicdblebhaekaaW3
import Derived.Deep.RegionHeld3
import Derived.Deep.DrawnRows
namespace Go.Proofs.Ytkicdblebhaekaa.Key
open Go.RowKit

/-- whether k is within: from f on, ahead of t, an empty one is no end -/
def within (k f t : ByteArray) : Bool := decide (0 ≤ cmpOf k f) && (decide (t.toList = []) || decide (cmpOf k t < 0))

theorem cmpOf_range (a b : ByteArray) : -1 ≤ cmpOf a b ∧ cmpOf a b ≤ 1 := cmp_range _ _

set_option maxHeartbeats 1000000 in
theorem in_any (k f t : ByteArray) (w : World) :
    Calls Try.prog 13 #[.string k, .string f, .string t] w fun e w' => e = .returned (.bool (within k f t)) ∧ w = w' := by
  have q1 := fun w => compare_any k f w
  have q2 := fun w => compare_any k t w
  change ∀ w, Calls Try.prog 9 #[.string k, .string f] w fun e w' => e = .returned (.int .i64 (cmpOf k f)) ∧ w = w' at q1
  change ∀ w, Calls Try.prog 9 #[.string k, .string t] w fun e w' => e = .returned (.int .i64 (cmpOf k t)) ∧ w = w' at q2
  unfold within
  have r1 := cmpOf_range k f
  have r2 := cmpOf_range k t
  generalize cmpOf k f = x at *
  generalize cmpOf k t = y at *
  have p1 := Lib.hid q1
  have p2 := Lib.hid q2
  clear q1 q2
  go_enter Try.func13, Try.ntmps13
  go_wp2_with fail
  refine (p1.out _).mono ?_
  rintro e w1 ⟨rfl, rfl⟩
  go_wp2_with fail
  · rename_i h1 h2
    go_ret
    refine ⟨?_, rfl⟩
    rw [decide_eq_true h1, decide_eq_true h2]
    rfl
  · rename_i h1 h2 _ _
    refine (p2.out _).mono ?_
    rintro e w2 ⟨rfl, rfl⟩
    go_wp2_with fail
    go_ret
    refine ⟨?_, rfl⟩
    rw [decide_eq_true h1, decide_eq_false h2, Bool.true_and, Bool.false_or]
    show Ending.returned (Value.bool (t.toList.isEmpty || decide (y < 0))) = _
    rw [show t.toList.isEmpty = false by simpa using h2, Bool.false_or]
  · rename_i h1
    go_ret
    refine ⟨?_, rfl⟩
    rw [decide_eq_false (show ¬ 0 ≤ x by omega), Bool.false_and]
    rfl

set_option maxHeartbeats 1000000 in
theorem rin_any (k f t : ByteArray) (w : World) (hk : k.size ≤ maxLen) (hf : f.size ≤ maxLen) (ht : t.size ≤ maxLen) :
    Calls Try.prog 14 #[.string k, .string f, .string t] w fun e w' => e = .returned (.bool (within k f t)) ∧ Below w.heap.size w w' := by
  have q1 := fun w => rcompare_any k f w hk hf
  have q2 := fun w => rcompare_any k t w hk ht
  unfold within
  have r1 := cmpOf_range k f
  have r2 := cmpOf_range k t
  generalize cmpOf k f = x at *
  generalize cmpOf k t = y at *
  have p1 := Lib.hid q1
  have p2 := Lib.hid q2
  clear q1 q2
  go_enter Try.func14, Try.ntmps14
  go_wp2_with fail
  refine (p1.out _).mono ?_
  rintro e w1 ⟨rfl, b1⟩
  go_wp2_with fail
  · rename_i h1 h2
    go_ret
    refine ⟨?_, b1⟩
    rw [decide_eq_true h1, decide_eq_true h2]
    rfl
  · rename_i h1 h2 _ _
    refine (p2.out _).mono ?_
    rintro e w2 ⟨rfl, b2⟩
    go_wp2_with fail
    go_ret
    refine ⟨?_, b1.trans (b2.mono b1.size)⟩
    rw [decide_eq_true h1, decide_eq_false h2, Bool.true_and, Bool.false_or]
    show Ending.returned (Value.bool (t.toList.isEmpty || decide (y < 0))) = _
    rw [show t.toList.isEmpty = false by simpa using h2, Bool.false_or]
  · rename_i h1
    go_ret
    refine ⟨?_, b1⟩
    rw [decide_eq_false (show ¬ 0 ≤ x by omega), Bool.false_and]
    rfl

theorem clone_any (s : ByteArray) (w : World) (hs : s.size ≤ 281474976710656) :
    Calls Try.prog 18 #[.string s] w fun e w' => e = .returned (.string s) ∧ Below w.heap.size w w' := by
  go_enter Try.func18, Try.ntmps18
  go_wp2_with (go_at_call 21; refine (Try.stringslite_Clone _ _ hs).mono ?_; rintro e w' ⟨rfl, hb⟩)
  go_ret
  exact ⟨rfl, hb⟩

theorem cut_low (s : ByteArray) (i : Nat) (h : i ≤ s.size) (W : World) : (Instr.sliceAt 9 (.string s) none (some (.int .i64 (i : Int))) none).run Try.prog W = .ok (.string (s.extract 0 i)) W := by
  rw [run_sliceAt_string (P := Try.prog) W 9 _ _ _ _ Try.underlying9, run_slice_string_h (P := Try.prog) W 9 s Try.underlying9 .i64 (i : Int) (by omega) (by omega), Int.toNat_natCast]

/-- what is between a and b, and whether there is -/
def between (a b : ByteArray) : ByteArray := if cmpOf a b < 0 then b.extract 0 (comOf a b + 1) else ⟨#[]⟩
theorem comOf_le (a b : ByteArray) : comOf a b ≤ a.size ∧ comOf a b ≤ b.size := by
  have h := com_le a.data.toList b.data.toList
  rw [len_data, len_data] at h
  exact h
theorem comOf_lt (a b : ByteArray) (h : cmpOf a b < 0) : comOf a b < b.size := by
  have h := com_lt a.data.toList b.data.toList h
  rw [len_data] at h
  exact h

set_option maxHeartbeats 1000000 in
theorem between_any (a b : ByteArray) (w : World) (ha : a.size ≤ maxLen) (hb : b.size ≤ 281474976710656) :
    Calls Try.prog 15 #[.string a, .string b] w fun e w' => e = .returned (.tuple #[.string (between a b), .bool (decide (cmpOf a b < 0))]) ∧ Below w.heap.size w w' := by
  have hb2 : b.size ≤ maxLen := by unfold maxLen; omega
  have q1 := fun w => compare_any a b w
  change ∀ w, Calls Try.prog 9 #[.string a, .string b] w fun e w' => e = .returned (.int .i64 (cmpOf a b)) ∧ w = w' at q1
  have q2 := fun w => common_any a b w ha hb2
  have l := comOf_lt a b
  have r := cmpOf_range a b
  unfold between
  by_cases h : cmpOf a b < 0
  · have hl := l h
    rw [if_pos h, decide_eq_true h]
    generalize cmpOf a b = x at *
    generalize comOf a b = n at *
    have c := cut_low b (n + 1) (by omega)
    have z : (b.extract 0 (n + 1)).size ≤ 281474976710656 := by rw [ByteArray.size_extract]; omega
    have e1 : ((n + 1 : Nat) : Int) = (n : Int) + 1 := by omega
    rw [e1] at c
    generalize b.extract 0 (n + 1) = y at *
    have p1 := Lib.hid q1
    have p2 := Lib.hid q2
    clear q1 q2 l e1
    go_enter Try.func15, Try.ntmps15
    go_wp2_with fail
    refine (p1.out _).mono ?_
    rintro e w1 ⟨rfl, rfl⟩
    go_wp2_with fail
    refine (p2.out _).mono ?_
    rintro e w2 ⟨rfl, b2⟩
    go_wp2_with fail
    refine (clone_any _ _ z).mono ?_
    rintro e w3 ⟨rfl, b3⟩
    go_wp2_with fail
    go_ret2
    exact ⟨rfl, b2.trans (b3.mono b2.size)⟩
  · rw [if_neg h, decide_eq_false h]
    generalize cmpOf a b = x at *
    have p1 := Lib.hid q1
    clear q1 q2 l
    go_enter Try.func15, Try.ntmps15
    go_wp2_with fail
    refine (p1.out _).mono ?_
    rintro e w1 ⟨rfl, rfl⟩
    go_wp2_with fail
    go_ret2
    exact ⟨rfl, Below.refl _ _⟩

end Go.Proofs.Ytkicdblebhaekaa.Key
