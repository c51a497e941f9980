/- Walks: the document's opening; the answers that it fixes. -/
import Derived.Test.YtkbgepikmmeppaaW7
namespace Go.Proofs.Ytkbgepikmmeppaa
open Go.RowKit

theorem toList_data (s : ByteArray) : s.toList = s.data.toList := by
  cases s; rw [ByteArray.toList_mk]

set_option maxHeartbeats 1000000 in
theorem ropen_any (s : ByteArray) (w : World) (hs : s.size ≤ 281474976710) :
    Calls Try.prog 9 #[.string s] w fun e w' => e = .returned (.tuple #[.string (openT s), .bool (isSealed s.data.toList)]) ∧ Below w.heap.size w w' := by
  by_cases h : s.size < 4
  · rw [(openT_short s h).1, (openT_short s h).2]
    have hg : decide ((s.size : Int) < 4) = true := by simp; omega
    go_enter Try.func9, Try.ntmps9
    go_wp2_with fail
    go_ret2
    exact ⟨rfl, Below.refl _ _⟩
  · obtain ⟨n, hn⟩ : ∃ n, n + 4 = s.size := ⟨s.size - 4, by omega⟩
    have h1 : ((s.size : Int) - 4) = (n : Int) := by omega
    have hg : decide ((s.size : Int) < 4) = false := by simp; omega
    have c1 := cut_low s n (by omega)
    have z1 : (s.extract 0 n).size ≤ 281474976710 := by rw [ByteArray.size_extract]; omega
    have F1 := rseal_any (s.extract 0 n)
    have hl : s.data.toList.length = s.size := (Lib.size_eq _).symm
    have e1 : (s.extract 0 n).data.toList = s.data.toList.take (s.data.toList.length - 4) := by
      rw [part_list, List.drop_zero, hl]; congr 1; omega
    rw [e1] at F1
    have hse := sealed_iff s.data.toList (by omega)
    have hop : openT s = if isSealed s.data.toList then s.extract 0 n else ⟨#[]⟩ := by
      have : s.size - 4 = n := by omega
      unfold openT; rw [this]
    rw [hop]
    obtain ⟨y, hy⟩ : ∃ y : ByteArray, y = ⟨(sealL (s.data.toList.take (s.data.toList.length - 4))).toArray⟩ := ⟨_, rfl⟩
    have hyl : y.toList = sealL (s.data.toList.take (s.data.toList.length - 4)) := by rw [hy, ByteArray.toList_mk]
    rw [← hyl, ← toList_data s] at hse
    rw [← hy] at F1
    obtain ⟨p, hp⟩ : ∃ p, p = s.extract 0 n := ⟨_, rfl⟩
    have f1 := Lib.hid F1
    rw [← hp] at c1 z1 f1
    rw [← hp, ← toList_data s]
    clear F1 hy hop e1 hl hp hyl hn h
    by_cases hxy : y.toList = s.toList
    · have hne : (y.toList == s.toList) = true := by simpa using hxy
      have ht : isSealed s.toList = true := by rw [hse]; simpa using hxy
      rw [ht, if_pos rfl]
      clear ht hxy hse
      go_enter Try.func9, Try.ntmps9
      go_wp2_with fail
      refine (f1.out _ z1).mono ?_
      rintro e w1 ⟨rfl, b1⟩
      go_wp2_with fail
      go_ret2
      exact ⟨rfl, b1⟩
    · have hne : (y.toList == s.toList) = false := by simpa using hxy
      have ht : isSealed s.toList = false := by rw [hse]; simpa using hxy
      rw [ht, if_neg (by decide)]
      clear ht hxy hse
      go_enter Try.func9, Try.ntmps9
      go_wp2_with fail
      refine (f1.out _ z1).mono ?_
      rintro e w1 ⟨rfl, b1⟩
      go_wp2_with fail
      go_ret2
      exact ⟨rfl, b1⟩

/-- "abc", sealed -/
def abcS : ByteArray := ⟨(sealL [97, 98, 99]).toArray⟩

theorem seal_abc (w : World) : Calls Try.prog 14 #[.string ⟨#[97, 98, 99]⟩] w fun e w' => e = .returned (.string abcS) ∧ Below w.heap.size w w' :=
  seal_any ⟨#[97, 98, 99]⟩ w (by decide)
theorem open_abc (w : World) : Calls Try.prog 8 #[.string abcS] w fun e w' => e = .returned (.tuple #[.string ⟨#[97, 98, 99]⟩, .bool true]) ∧ Below w.heap.size w w' := by
  have h := open_any abcS w (by decide +kernel)
  have e1 : isSealed abcS.data.toList = true := by decide +kernel
  have e2 : openT abcS = ⟨#[97, 98, 99]⟩ := by unfold openT; rw [e1]; decide +kernel
  rw [e1, e2] at h
  exact h
theorem open_no (w : World) : Calls Try.prog 8 #[.string ⟨#[97, 98, 99]⟩] w fun e w' => e = .returned (.tuple #[.string ⟨#[]⟩, .bool false]) ∧ Below w.heap.size w w' :=
  open_short ⟨#[97, 98, 99]⟩ w (by decide)
theorem of_nine (w : World) : Calls Try.prog 10 #[.string ⟨#[49, 50, 51, 52, 53, 54, 55, 56, 57]⟩] w fun e w' => e = .returned (.int .u32 3808858755) ∧ Below w.heap.size w w' := by
  have h := of_any ⟨#[49, 50, 51, 52, 53, 54, 55, 56, 57]⟩ w (by decide)
  have e1 : sumOf [49, 50, 51, 52, 53, 54, 55, 56, 57] = 3808858755 := by decide +kernel
  rw [e1] at h
  exact h
theorem of_none (w : World) : Calls Try.prog 10 #[.string ⟨#[]⟩] w fun e w' => e = .returned (.int .u32 0) ∧ Below w.heap.size w w' := by
  have h := of_any ⟨#[]⟩ w (by decide)
  have e1 : sumOf [] = 0 := by decide +kernel
  rw [e1] at h
  exact h
theorem seal_none (w : World) : Calls Try.prog 14 #[.string ⟨#[]⟩] w fun e w' => e = .returned (.string ⟨#[0, 0, 0, 0]⟩) ∧ Below w.heap.size w w' := by
  have h := seal_any ⟨#[]⟩ w (by decide)
  have e1 : sealL [] = [0, 0, 0, 0] := by decide +kernel
  rw [e1] at h
  exact h

set_option maxHeartbeats 1000000 in
theorem alive_any (w : World) : Calls Try.prog 7 #[] w fun e w' => e = .returned (.bool true) ∧ Below w.heap.size w w' := by
  go_enter Try.func7, Try.ntmps7
  go_wp2_with fail
  refine (seal_abc _).mono ?_
  rintro e w1 ⟨rfl, b1⟩
  go_wp2_with fail
  refine (open_abc _).mono ?_
  rintro e w2 ⟨rfl, b2⟩
  go_wp2_with fail
  refine (open_no _).mono ?_
  rintro e w3 ⟨rfl, b3⟩
  go_wp2_with fail
  refine (of_nine _).mono ?_
  rintro e w4 ⟨rfl, b4⟩
  go_wp2_with fail
  refine (of_none _).mono ?_
  rintro e w5 ⟨rfl, b5⟩
  go_wp2_with fail
  refine (seal_none _).mono ?_
  rintro e w6 ⟨rfl, b6⟩
  go_wp2_with fail
  go_ret
  have c2 := b1.trans (b2.mono b1.size)
  have c3 := c2.trans (b3.mono c2.size)
  have c4 := c3.trans (b4.mono c3.size)
  have c5 := c4.trans (b5.mono c4.size)
  exact ⟨rfl, c5.trans (b6.mono c5.size)⟩

end Go.Proofs.Ytkbgepikmmeppaa
