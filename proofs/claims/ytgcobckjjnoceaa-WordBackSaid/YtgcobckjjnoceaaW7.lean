/- The walk of alive: the answers that the document fixes. -/
import Derived.Test.YtgcobckjjnoceaaW6
namespace Go.Proofs.Ytgcobckjjnoceaa
open Go.RowKit

theorem put258 (w : World) : Calls Try.prog 8 #[.int .u64 258, .int .i64 2] w fun e w' => e = .returned (.tuple #[.string ⟨#[1, 2]⟩, .bool true]) ∧ Below w.heap.size w w' := by
  have h := put_any 258 2 w ⟨by omega, by omega⟩
  have e1 : putB 258 2 = true := by decide
  have e2 : putS 258 2 = ⟨#[1, 2]⟩ := by unfold putS; rw [e1]; decide
  rw [e1, e2] at h
  exact h
theorem put256 (w : World) : Calls Try.prog 8 #[.int .u64 256, .int .i64 1] w fun e w' => e = .returned (.tuple #[.string ⟨#[]⟩, .bool false]) ∧ Below w.heap.size w w' := by
  have h := put_any 256 1 w ⟨by omega, by omega⟩
  have e1 : putB 256 1 = false := by decide
  have e2 : putS 256 1 = ⟨#[]⟩ := by unfold putS; rw [e1]; simp
  rw [e1, e2] at h
  exact h
theorem get258 (w : World) : Calls Try.prog 10 #[.string ⟨#[120, 1, 2]⟩, .int .i64 1, .int .i64 2] w fun e w' => e = .returned (.tuple #[.int .u64 258, .bool true]) ∧ w = w' := by
  have h := get_any ⟨#[120, 1, 2]⟩ 1 2 w (by decide) (by omega)
  have e1 : getB ⟨#[120, 1, 2]⟩ 1 2 = true := by decide
  have e2 : getN ⟨#[120, 1, 2]⟩ 1 2 = 258 := by unfold getN; rw [e1]; decide
  rw [e1, e2] at h
  exact h
theorem getno (w : World) : Calls Try.prog 10 #[.string ⟨#[97, 98]⟩, .int .i64 1, .int .i64 2] w fun e w' => e = .returned (.tuple #[.int .u64 0, .bool false]) ∧ w = w' := by
  have h := get_any ⟨#[97, 98]⟩ 1 2 w (by decide) (by omega)
  have e1 : getB ⟨#[97, 98]⟩ 1 2 = false := by decide
  have e2 : getN ⟨#[97, 98]⟩ 1 2 = 0 := by unfold getN; rw [e1]; simp
  rw [e1, e2] at h
  exact h
theorem setxy (w : World) : Calls Try.prog 14 #[.string ⟨#[97, 98, 99, 100]⟩, .int .i64 1, .string ⟨#[120, 121]⟩] w fun e w' => e = .returned (.tuple #[.string ⟨#[97, 120, 121, 100]⟩, .bool true]) ∧ Below w.heap.size w w' := by
  have h := set_any ⟨#[97, 98, 99, 100]⟩ 1 ⟨#[120, 121]⟩ w (by decide) (by omega)
  have e1 : hasB (ByteArray.size ⟨#[97, 98, 99, 100]⟩) 1 (ByteArray.size ⟨#[120, 121]⟩) = true := by decide
  have e2 : setS ⟨#[97, 98, 99, 100]⟩ 1 ⟨#[120, 121]⟩ = ⟨#[97, 120, 121, 100]⟩ := by unfold setS; rw [e1]; decide
  rw [e1, e2] at h
  exact h

set_option maxHeartbeats 400000 in
theorem alive_any (w : World) : Calls Try.prog 7 #[] w fun e w' => e = .returned (.bool true) ∧ Below w.heap.size w w' := by
  have u1 : (upI 9 8 == 16) = true := by decide
  have u2 : (upI 8 8 == 8) = true := by decide
  have u3 : (upI 0 8 == 0) = true := by decide
  go_enter Try.func7, Try.ntmps7
  go_wp2_with fail
  refine (put258 _).mono ?_
  rintro e w1 ⟨rfl, b1⟩
  go_wp2_with fail
  refine (get258 _).mono ?_
  rintro e w2 ⟨rfl, rfl⟩
  go_wp2_with fail
  refine (put256 _).mono ?_
  rintro e w2 ⟨rfl, b2⟩
  go_wp2_with fail
  refine (getno _).mono ?_
  rintro e w3 ⟨rfl, rfl⟩
  go_wp2_with fail
  refine (setxy _).mono ?_
  rintro e w3 ⟨rfl, b3⟩
  go_wp2_with fail
  refine (up_any _ _ _ (by omega) (by omega)).mono ?_
  rintro e w4 ⟨rfl, rfl⟩
  go_wp2_with fail
  refine (up_any _ _ _ (by omega) (by omega)).mono ?_
  rintro e w4 ⟨rfl, rfl⟩
  go_wp2_with fail
  refine (up_any _ _ _ (by omega) (by omega)).mono ?_
  rintro e w4 ⟨rfl, rfl⟩
  go_wp2_with fail
  go_ret
  have c1 := b1.trans (b2.mono b1.size)
  exact ⟨rfl, c1.trans (b3.mono c1.size)⟩

end Go.Proofs.Ytgcobckjjnoceaa
