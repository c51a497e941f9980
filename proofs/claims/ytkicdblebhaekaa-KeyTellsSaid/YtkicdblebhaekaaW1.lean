/- Walks: keys, values, their order. -/
import Derived.Test.YtkicdblebhaekaaM
import Derived.Test.YtkicdblebhaekaaShelf
import Derived.WalkKit
import Derived.WalkSpells
import Derived.WalkLawsBesides
import Derived.Lib.Hide
import Derived.Laws.BitsAllLaws
import Derived.Laws.Rows
import Derived.BigQuiet
import Derived.Deep.QuietTactic
import Derived.ArgAppend
namespace Go.Proofs.Ytkicdblebhaekaa.Key
open Go.RowKit

theorem len_data (s : ByteArray) : s.data.toList.length = s.size := (Lib.size_eq _).symm

/-- it may be a key, a value -/
def may (s : ByteArray) : Bool := decide (1 ≤ s.size) && decide (s.size ≤ 48)
def isValue (s : ByteArray) : Bool := decide (s.size ≤ 96)

theorem may_any (s : ByteArray) (w : World) (hs : s.size ≤ maxLen) :
    Calls Try.prog 7 #[.string s] w fun e w' => e = .returned (.bool (may s)) ∧ w = w' := by
  unfold maxLen at hs
  obtain ⟨b, hb⟩ : ∃ b, b = may s := ⟨_, rfl⟩
  rw [← hb]
  unfold may at hb
  have B := Lib.hid hb
  clear hb
  go_enter Try.func7, Try.ntmps7
  go_wp2_with fail
  · go_ret
    rename_i h
    refine ⟨?_, rfl⟩
    have h2 : (decide ((s.size : Int) ≤ 48)) = b := by
      rw [B.out, decide_eq_true (show 1 ≤ s.size by omega), Bool.true_and]
      exact decide_eq_decide.2 (by omega)
    rw [← h2]
    rfl
  · go_ret
    rename_i h
    refine ⟨?_, rfl⟩
    have h2 : false = b := by
      rw [B.out, decide_eq_false (show ¬ 1 ≤ s.size by omega), Bool.false_and]
    rw [← h2]
    rfl

theorem value_any (s : ByteArray) (w : World) (hs : s.size ≤ maxLen) :
    Calls Try.prog 8 #[.string s] w fun e w' => e = .returned (.bool (isValue s)) ∧ w = w' := by
  unfold maxLen at hs
  have h2 : isValue s = decide ((s.size : Int) ≤ 96) := decide_eq_decide.2 (by omega)
  rw [h2]
  clear h2
  go_enter Try.func8, Try.ntmps8
  go_wp2_with fail
  go_ret
  exact ⟨rfl, rfl⟩

theorem compare_any (a b : ByteArray) (w : World) :
    Calls Try.prog 9 #[.string a, .string b] w fun e w' => e = .returned (.int .i64 (cmp a.data.toList b.data.toList)) ∧ w = w' := by
  go_enter Try.func9, Try.ntmps9
  go_wp2_with (go_at_call 17; refine (Try.strings_Compare _ _ _).mono ?_; rintro e w' ⟨rfl, rfl⟩)
  go_ret
  exact ⟨rfl, rfl⟩

end Go.Proofs.Ytkicdblebhaekaa.Key
