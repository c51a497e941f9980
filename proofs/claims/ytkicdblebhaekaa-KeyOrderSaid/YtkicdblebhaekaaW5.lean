/- Walks: the next one; the answers that the document fixes; what is long. -/
import Derived.Test.YtkicdblebhaekaaW4
namespace Go.Proofs.Ytkicdblebhaekaa.Key
open Go.RowKit

theorem next_short (s : ByteArray) (w : World) (hs : s.size < 48) :
    Calls Try.prog 16 #[.string s] w fun e w' => e = .returned (.tuple #[.string (s ++ ⟨#[0]⟩), .bool true]) ∧ w = w' := by
  go_enter Try.func16, Try.ntmps16
  go_wp2_with fail
  go_ret2
  exact ⟨rfl, rfl⟩

set_option maxHeartbeats 1000000 in
theorem long_any (g n : Nat) (S : Nat → ByteArray) (b : Bool) (w : World) (hn : n ≤ 64) (hc : ∀ i, i < n → w.cell? ⟨g, i, none⟩ = some (.string (S i))) (hs : ∀ i, i < n → (S i).size ≤ maxLen) (hb : b = true ↔ ∃ i, i < n ∧ 512 < (S i).size) :
    Calls Try.prog 5 #[.slice (some ⟨g, 0, none⟩) n n] w fun e w' => e = .returned (.bool b) ∧ w = w' := by
  have C := Lib.hid hc
  have B := Lib.hid hb
  have H := Lib.hid hs
  clear hc hb hs
  go_enter Try.func5, Try.ntmps5
  go_wp2_with fail
  go_loop [3] (fun i => ∃ k : Nat, k ≤ n ∧ i = .int .i64 k ∧ Hid (∀ j, j < k → (S j).size ≤ 512)) (fun i => n - (intOf i).toNat)
  case atStart => exact ⟨0, by omega, by go_num, Lib.hid (fun j hj => absurd hj (Nat.not_lt_zero j))⟩
  case round =>
    obtain ⟨k, hk, rfl, A⟩ := hrel
    by_cases h : k < n
    · have c0 := C.out k h
      have h0 := H.out k h
      unfold maxLen at h0
      obtain ⟨s, hs⟩ : ∃ s, s = S k := ⟨_, rfl⟩
      rw [← hs] at c0 h0
      have S0 := Lib.hid hs
      clear hs
      by_cases hl : 512 < s.size
      · have hbt : b = true := B.out.2 ⟨k, h, by rw [← S0.out]; exact hl⟩
        go_wp2_with fail
        go_ret
        exact ⟨rfl, rfl⟩
      · go_wp2_with fail
        go_round
        case rel =>
          refine ⟨k + 1, by omega, by go_num, Lib.hid (fun j hj => ?_)⟩
          by_cases hjk : j = k
          · rw [hjk, ← S0.out]; omega
          · exact A.out j (by omega)
        case measure => simp [intOf]; omega
    · have hkn : k = n := by omega
      have hbf : b = false := by
        cases hb : b
        · rfl
        · obtain ⟨i, hi, hi2⟩ := B.out.1 hb
          have := A.out i (by omega)
          omega
      go_wp2_with fail
      go_ret
      exact ⟨rfl, rfl⟩

theorem cells3 (a b c : ByteArray) (w : World) : ∀ i, i < 3 → (w.alloc (.cells #[.string a, .string b, .string c] 9)).cell? ⟨w.heap.size, i, none⟩ = some (.string (#[a, b, c].getD i ⟨#[]⟩)) := by
  intro i hi
  match i, hi with
  | 0, _ => unfold World.cell?; rw [heap_alloc_new]; rfl
  | 1, _ => unfold World.cell?; rw [heap_alloc_new]; rfl
  | 2, _ => unfold World.cell?; rw [heap_alloc_new]; rfl

theorem cells4 (a b c d : ByteArray) (w : World) : ∀ i, i < 4 → (w.alloc (.cells #[.string a, .string b, .string c, .string d] 9)).cell? ⟨w.heap.size, i, none⟩ = some (.string (#[a, b, c, d].getD i ⟨#[]⟩)) := by
  intro i hi
  match i, hi with
  | 0, _ => unfold World.cell?; rw [heap_alloc_new]; rfl
  | 1, _ => unfold World.cell?; rw [heap_alloc_new]; rfl
  | 2, _ => unfold World.cell?; rw [heap_alloc_new]; rfl
  | 3, _ => unfold World.cell?; rw [heap_alloc_new]; rfl

theorem long3 (a b c : ByteArray) (w : World) (ha : a.size ≤ maxLen) (hb : b.size ≤ maxLen) (hc : c.size ≤ maxLen) :
    Calls Try.prog 5 #[.slice (some ⟨w.heap.size, 0, none⟩) 3 3] (w.alloc (.cells #[.string a, .string b, .string c] 9)) fun e w' => e = .returned (.bool (decide (512 < a.size ∨ 512 < b.size ∨ 512 < c.size))) ∧ w.alloc (.cells #[.string a, .string b, .string c] 9) = w' := by
  refine long_any _ 3 (fun i => #[a, b, c].getD i ⟨#[]⟩) _ _ (by omega) (cells3 a b c w) ?_ ?_
  · intro i hi
    match i, hi with
    | 0, _ => exact ha
    | 1, _ => exact hb
    | 2, _ => exact hc
  · rw [decide_eq_true_iff]
    constructor
    · rintro (h | h | h)
      · exact ⟨0, by omega, h⟩
      · exact ⟨1, by omega, h⟩
      · exact ⟨2, by omega, h⟩
    · rintro ⟨i, hi, h⟩
      match i, hi, h with
      | 0, _, h => exact .inl h
      | 1, _, h => exact .inr (.inl h)
      | 2, _, h => exact .inr (.inr h)
theorem long4 (a b c d : ByteArray) (w : World) (ha : a.size ≤ maxLen) (hb : b.size ≤ maxLen) (hc : c.size ≤ maxLen) (hd : d.size ≤ maxLen) :
    Calls Try.prog 5 #[.slice (some ⟨w.heap.size, 0, none⟩) 4 4] (w.alloc (.cells #[.string a, .string b, .string c, .string d] 9)) fun e w' => e = .returned (.bool (decide (512 < a.size ∨ 512 < b.size ∨ 512 < c.size ∨ 512 < d.size))) ∧ w.alloc (.cells #[.string a, .string b, .string c, .string d] 9) = w' := by
  refine long_any _ 4 (fun i => #[a, b, c, d].getD i ⟨#[]⟩) _ _ (by omega) (cells4 a b c d w) ?_ ?_
  · intro i hi
    match i, hi with
    | 0, _ => exact ha
    | 1, _ => exact hb
    | 2, _ => exact hc
    | 3, _ => exact hd
  · rw [decide_eq_true_iff]
    constructor
    · rintro (h | h | h | h)
      · exact ⟨0, by omega, h⟩
      · exact ⟨1, by omega, h⟩
      · exact ⟨2, by omega, h⟩
      · exact ⟨3, by omega, h⟩
    · rintro ⟨i, hi, h⟩
      match i, hi, h with
      | 0, _, h => exact .inl h
      | 1, _, h => exact .inr (.inl h)
      | 2, _, h => exact .inr (.inr (.inl h))
      | 3, _, h => exact .inr (.inr (.inr h))

theorem between_1 (w : World) : Calls Try.prog 15 #[.string ⟨#[97, 98, 99]⟩, .string ⟨#[97, 98, 120, 121]⟩] w fun e w' => e = .returned (.tuple #[.string ⟨#[97, 98, 120]⟩, .bool true]) ∧ Below w.heap.size w w' := by
  have h := between_any ⟨#[97, 98, 99]⟩ ⟨#[97, 98, 120, 121]⟩ w (by decide) (by decide)
  have e1 : between ⟨#[97, 98, 99]⟩ ⟨#[97, 98, 120, 121]⟩ = ⟨#[97, 98, 120]⟩ := by decide +kernel
  have e2 : decide (cmpOf ⟨#[97, 98, 99]⟩ ⟨#[97, 98, 120, 121]⟩ < 0) = true := by decide +kernel
  rw [e1, e2] at h
  exact h
theorem between_2 (w : World) : Calls Try.prog 15 #[.string ⟨#[97, 98]⟩, .string ⟨#[97, 98, 99]⟩] w fun e w' => e = .returned (.tuple #[.string ⟨#[97, 98, 99]⟩, .bool true]) ∧ Below w.heap.size w w' := by
  have h := between_any ⟨#[97, 98]⟩ ⟨#[97, 98, 99]⟩ w (by decide) (by decide)
  have e1 : between ⟨#[97, 98]⟩ ⟨#[97, 98, 99]⟩ = ⟨#[97, 98, 99]⟩ := by decide +kernel
  have e2 : decide (cmpOf ⟨#[97, 98]⟩ ⟨#[97, 98, 99]⟩ < 0) = true := by decide +kernel
  rw [e1, e2] at h
  exact h
theorem between_3 (w : World) : Calls Try.prog 15 #[.string ⟨#[98]⟩, .string ⟨#[97]⟩] w fun e w' => e = .returned (.tuple #[.string ⟨#[]⟩, .bool false]) ∧ Below w.heap.size w w' := by
  have h := between_any ⟨#[98]⟩ ⟨#[97]⟩ w (by decide) (by decide)
  have e1 : between ⟨#[98]⟩ ⟨#[97]⟩ = ⟨#[]⟩ := by decide +kernel
  have e2 : decide (cmpOf ⟨#[98]⟩ ⟨#[97]⟩ < 0) = false := by decide +kernel
  rw [e1, e2] at h
  exact h
theorem next_a (w : World) : Calls Try.prog 16 #[.string ⟨#[97]⟩] w fun e w' => e = .returned (.tuple #[.string ⟨#[97, 0]⟩, .bool true]) ∧ w = w' := next_short ⟨#[97]⟩ w (by decide)
theorem compare_a (w : World) : Calls Try.prog 9 #[.string ⟨#[97]⟩, .string ⟨#[97, 98]⟩] w fun e w' => e = .returned (.int .i64 (-1)) ∧ w = w' := compare_any ⟨#[97]⟩ ⟨#[97, 98]⟩ w
theorem in_1 (w : World) : Calls Try.prog 13 #[.string ⟨#[98]⟩, .string ⟨#[97]⟩, .string ⟨#[]⟩] w fun e w' => e = .returned (.bool true) ∧ w = w' := by
  have h := in_any ⟨#[98]⟩ ⟨#[97]⟩ ⟨#[]⟩ w
  have e1 : within ⟨#[98]⟩ ⟨#[97]⟩ ⟨#[]⟩ = true := by decide +kernel
  rw [e1] at h
  exact h
theorem in_2 (w : World) : Calls Try.prog 13 #[.string ⟨#[98]⟩, .string ⟨#[97]⟩, .string ⟨#[98]⟩] w fun e w' => e = .returned (.bool false) ∧ w = w' := by
  have h := in_any ⟨#[98]⟩ ⟨#[97]⟩ ⟨#[98]⟩ w
  have e1 : within ⟨#[98]⟩ ⟨#[97]⟩ ⟨#[98]⟩ = false := by decide +kernel
  rw [e1] at h
  exact h
theorem may_a (w : World) : Calls Try.prog 7 #[.string ⟨#[97]⟩] w fun e w' => e = .returned (.bool true) ∧ w = w' := may_any ⟨#[97]⟩ w (by decide)
theorem may_none (w : World) : Calls Try.prog 7 #[.string ⟨#[]⟩] w fun e w' => e = .returned (.bool false) ∧ w = w' := may_any ⟨#[]⟩ w (by decide)
theorem value_none (w : World) : Calls Try.prog 8 #[.string ⟨#[]⟩] w fun e w' => e = .returned (.bool true) ∧ w = w' := value_any ⟨#[]⟩ w (by decide)

set_option maxHeartbeats 1000000 in
theorem alive_any (w : World) : Calls Try.prog 6 #[] w fun e w' => e = .returned (.bool true) ∧ Below w.heap.size w w' := by
  go_enter Try.func6, Try.ntmps6
  go_wp2_with fail
  refine (between_1 _).mono ?_
  rintro e w1 ⟨rfl, b1⟩
  go_wp2_with fail
  refine (between_2 _).mono ?_
  rintro e w2 ⟨rfl, b2⟩
  go_wp2_with fail
  refine (between_3 _).mono ?_
  rintro e w3 ⟨rfl, b3⟩
  go_wp2_with fail
  refine (next_a _).mono ?_
  rintro e w4 ⟨rfl, rfl⟩
  go_wp2_with fail
  refine (compare_a _).mono ?_
  rintro e w4 ⟨rfl, rfl⟩
  go_wp2_with fail
  refine (in_1 _).mono ?_
  rintro e w4 ⟨rfl, rfl⟩
  go_wp2_with fail
  refine (in_2 _).mono ?_
  rintro e w4 ⟨rfl, rfl⟩
  go_wp2_with fail
  refine (may_a _).mono ?_
  rintro e w4 ⟨rfl, rfl⟩
  go_wp2_with fail
  refine (may_none _).mono ?_
  rintro e w4 ⟨rfl, rfl⟩
  go_wp2_with fail
  refine (value_none _).mono ?_
  rintro e w4 ⟨rfl, rfl⟩
  go_wp2_with fail
  go_ret
  have c2 := b1.trans (b2.mono b1.size)
  exact ⟨rfl, c2.trans (b3.mono c2.size)⟩

end Go.Proofs.Ytkicdblebhaekaa.Key
