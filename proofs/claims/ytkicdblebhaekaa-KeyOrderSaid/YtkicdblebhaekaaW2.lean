/- Walks: what two texts begin with alike; the document's order. -/
import Derived.Test.YtkicdblebhaekaaW1
import Derived.WalkMore
namespace Go.Proofs.Ytkicdblebhaekaa.Key
open Go.RowKit

theorem get_data (s : ByteArray) (k : Nat) (h : k < s.size) : s.data.toList[k]'(by rw [len_data]; exact h) = s[k] := rfl
theorem drop_data (s : ByteArray) (k : Nat) (h : k < s.size) : s.data.toList.drop k = s[k] :: s.data.toList.drop (k + 1) := by
  rw [drop_step _ _ (by rw [len_data]; exact h), get_data]
theorem drop_all (s : ByteArray) (k : Nat) (h : k = s.size) : s.data.toList.drop k = [] := List.drop_of_length_le (by rw [len_data]; omega)

/-- both, from place k on -/
def comFrom (a b : ByteArray) (k : Nat) : Nat := com (a.data.toList.drop k) (b.data.toList.drop k)
def comOf (a b : ByteArray) : Nat := com a.data.toList b.data.toList
theorem comFrom_zero (a b : ByteArray) : comFrom a b 0 = comOf a b := rfl
theorem comFrom_same (a b : ByteArray) (k : Nat) (ha : k < a.size) (hb : k < b.size) (h : a[k].toNat = b[k].toNat) : comFrom a b k = comFrom a b (k + 1) + 1 := by
  unfold comFrom
  rw [drop_data a k ha, drop_data b k hb]
  exact if_pos (UInt8.toNat_inj.1 h)
theorem comFrom_not (a b : ByteArray) (k : Nat) (ha : k < a.size) (hb : k < b.size) (h : a[k].toNat ≠ b[k].toNat) : comFrom a b k = 0 := by
  unfold comFrom
  rw [drop_data a k ha, drop_data b k hb]
  exact if_neg (fun e => h (by rw [e]))
theorem comFrom_end (a b : ByteArray) (k : Nat) (h : k = a.size ∨ k = b.size) : comFrom a b k = 0 := by
  unfold comFrom
  rcases h with h | h
  · rw [drop_all a k h]; rfl
  · rw [drop_all b k h]
    cases a.data.toList.drop k <;> rfl

theorem below_drewN' {w w' : World} (h : Below w.heap.size w w') (n : Nat) : Below w.heap.size w (w'.drewN n) :=
  h.trans (Below.mono (B := w'.heap.size) (show Below w'.heap.size w' (w'.drewN n) from ⟨rfl, rfl, rfl, Nat.le_refl _, fun _ _ => rfl⟩) h.size)

set_option maxHeartbeats 1000000 in
theorem common_any (a b : ByteArray) (w : World) (ha : a.size ≤ maxLen) (hb : b.size ≤ maxLen) :
    Calls Try.prog 11 #[.string a, .string b] w fun e w' => e = .returned (.int .i64 (comOf a b : Nat)) ∧ Below w.heap.size w w' := by
  unfold maxLen at ha hb
  go_enter Try.func11, Try.ntmps11
  go_wp2_with fail
  go_step3
  go_wp2_with fail
  go_step3
  go_wp2_with fail
  go_loopw [5] (fun i W => ∃ k : Nat, k ≤ a.size ∧ k ≤ b.size ∧ i = .int .i64 k ∧ comOf a b = comFrom a b k + k ∧ Below w.heap.size w W) (fun i W => a.size - (intOf i).toNat)
  case atStart => exact ⟨0, by omega, by omega, by go_num, rfl, Below.refl _ _⟩
  case round =>
    obtain ⟨k, hka, hkb, rfl, hc, B⟩ := hrel
    go_wp2_with fail
    · rename_i h _
      rw [Exit.noGoto_ret]
      go_ret
      have hk : k = a.size := by
        have : (k : Int) = a.size := by simpa using h
        omega
      rw [comFrom_end a b k (.inl hk), Nat.zero_add] at hc
      rw [hc]
      exact ⟨rfl, B⟩
    · rename_i _ h _
      rw [Exit.noGoto_ret]
      go_ret
      have hk : k = b.size := by
        have : (k : Int) = b.size := by simpa using h
        omega
      rw [comFrom_end a b k (.inr hk), Nat.zero_add] at hc
      rw [hc]
      exact ⟨rfl, B⟩
    · rename_i h1 h2
      have l1 : k < a.size := by
        have : (k : Int) ≠ a.size := by simpa using h1
        omega
      have l2 : k < b.size := by
        have : (k : Int) ≠ b.size := by simpa using h2
        omega
      by_cases he : a[k].toNat = b[k].toNat
      · have hne : ((a[k].toNat : Int) != (b[k].toNat : Int)) = false := by simp [he]
        rw [comFrom_same a b k l1 l2 he] at hc
        clear he
        go_quiet (fail)
        go_wp2_with fail
        go_roundw
        case rel => exact ⟨k + 1, by omega, by omega, by go_num, by omega, below_drewN' B _⟩
        case measure => simp [intOf]; omega
      · have hne : ((a[k].toNat : Int) != (b[k].toNat : Int)) = true := by simp; omega
        rw [comFrom_not a b k l1 l2 he] at hc
        clear he
        go_quiet (fail)
        go_wp2_with fail
        rw [Exit.noGoto_ret]
        go_ret
        rw [Nat.zero_add] at hc
        rw [hc]
        exact ⟨rfl, below_drewN' B _⟩

set_option maxHeartbeats 1000000 in
theorem rcommon_any (a b : ByteArray) (w : World) (ha : a.size ≤ maxLen) (hb : b.size ≤ maxLen) :
    Calls Try.prog 12 #[.string a, .string b] w fun e w' => e = .returned (.int .i64 (comOf a b : Nat)) ∧ Below w.heap.size w w' := by
  unfold maxLen at ha hb
  go_enter Try.func12, Try.ntmps12
  go_wp2_with fail
  go_loopw [5] (fun i W => ∃ k : Nat, k ≤ a.size ∧ k ≤ b.size ∧ i = .int .i64 k ∧ comOf a b = comFrom a b k + k ∧ Below w.heap.size w W) (fun i W => a.size - (intOf i).toNat)
  case atStart => exact ⟨0, by omega, by omega, by go_num, rfl, Below.refl _ _⟩
  case round =>
    obtain ⟨k, hka, hkb, rfl, hc, B⟩ := hrel
    by_cases h1 : k < a.size
    · have g1 : decide ((k : Int) < (a.size : Int)) = true := by simp; omega
      by_cases h2 : k < b.size
      · have g2 : decide ((k : Int) < (b.size : Int)) = true := by simp; omega
        by_cases he : a[k].toNat = b[k].toNat
        · have hne : ((a[k].toNat : Int) == (b[k].toNat : Int)) = true := by simp [he]
          rw [comFrom_same a b k h1 h2 he] at hc
          clear he
          go_wp2_with fail
          go_quiet (fail)
          go_wp2_with fail
          go_roundw
          case rel => exact ⟨k + 1, by omega, by omega, by go_num, by omega, below_drewN' B _⟩
          case measure => simp [intOf]; omega
        · have hne : ((a[k].toNat : Int) == (b[k].toNat : Int)) = false := by simp; omega
          rw [comFrom_not a b k h1 h2 he, Nat.zero_add] at hc
          clear he
          go_wp2_with fail
          go_quiet (fail)
          go_wp2_with fail
          go_ret
          rw [hc]
          exact ⟨rfl, below_drewN' B _⟩
      · have g2 : decide (k < b.size) = false := by simp; omega
        rw [comFrom_end a b k (.inr (by omega)), Nat.zero_add] at hc
        clear h2
        go_wp2_with fail
        go_quiet (fail)
        go_wp2_with fail
        go_ret
        rw [hc]
        exact ⟨rfl, below_drewN' B _⟩
    · have g1 : decide (k < a.size) = false := by simp; omega
      rw [comFrom_end a b k (.inl (by omega)), Nat.zero_add] at hc
      clear h1
      go_wp2_with fail
      go_quiet (fail)
      go_wp2_with fail
      go_ret
      rw [hc]
      exact ⟨rfl, below_drewN' B _⟩

end Go.Proofs.Ytkicdblebhaekaa.Key
