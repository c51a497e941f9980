/- Walks: the document's order, what is within. -/
import Derived.Test.YtkicdblebhaekaaW2
namespace Go.Proofs.Ytkicdblebhaekaa.Key
open Go.RowKit

/-- a ahead of b, the same, behind it -/
def cmpOf (a b : ByteArray) : Int := cmp a.data.toList b.data.toList
/-- both, from place k on -/
def cmpFrom (a b : ByteArray) (k : Nat) : Int := cmp (a.data.toList.drop k) (b.data.toList.drop k)
theorem cmpFrom_zero (a b : ByteArray) : cmpFrom a b 0 = cmpOf a b := rfl
theorem cmpFrom_lt (a b : ByteArray) (k : Nat) (ha : k < a.size) (hb : k < b.size) (h : a[k].toNat < b[k].toNat) : cmpFrom a b k = -1 := by
  unfold cmpFrom
  rw [drop_data a k ha, drop_data b k hb, cmp_cons_lt _ _ h]
theorem cmpFrom_gt (a b : ByteArray) (k : Nat) (ha : k < a.size) (hb : k < b.size) (h : b[k].toNat < a[k].toNat) : cmpFrom a b k = 1 := by
  unfold cmpFrom
  rw [drop_data a k ha, drop_data b k hb, cmp_cons_gt _ _ h]
theorem cmpFrom_same (a b : ByteArray) (k : Nat) (ha : k < a.size) (hb : k < b.size) (h : a[k].toNat = b[k].toNat) : cmpFrom a b k = cmpFrom a b (k + 1) := by
  unfold cmpFrom
  rw [drop_data a k ha, drop_data b k hb, UInt8.toNat_inj.1 h, cmp_cons_same]
theorem cmpFrom_end (a b : ByteArray) (k : Nat) (ha : k ≤ a.size) (hb : k ≤ b.size) (h : k = a.size ∨ k = b.size) : cmpFrom a b k = if a.size < b.size then -1 else if b.size < a.size then 1 else 0 := by
  unfold cmpFrom
  by_cases h1 : k = a.size <;> by_cases h2 : k = b.size
  · rw [drop_all a k h1, drop_all b k h2, if_neg (by omega), if_neg (by omega)]; rfl
  · rw [drop_all a k h1, drop_data b k (by omega), if_pos (by omega)]; rfl
  · rw [drop_data a k (by omega), drop_all b k h2, if_neg (by omega), if_pos (by omega)]; rfl
  · omega

set_option maxHeartbeats 1000000 in
theorem rcompare_any (a b : ByteArray) (w : World) (ha : a.size ≤ maxLen) (hb : b.size ≤ maxLen) :
    Calls Try.prog 10 #[.string a, .string b] w fun e w' => e = .returned (.int .i64 (cmpOf a b)) ∧ Below w.heap.size w w' := by
  unfold maxLen at ha hb
  go_enter Try.func10, Try.ntmps10
  go_wp2_with fail
  go_loopw [5] (fun i W => ∃ k : Nat, k ≤ a.size ∧ k ≤ b.size ∧ i = .int .i64 k ∧ cmpOf a b = cmpFrom a b k ∧ Below w.heap.size w W) (fun i W => a.size - (intOf i).toNat)
  case atStart => exact ⟨0, by omega, by omega, by go_num, rfl, Below.refl _ _⟩
  case round =>
    obtain ⟨k, hka, hkb, rfl, hc, B⟩ := hrel
    by_cases h1 : k < a.size
    · by_cases h2 : k < b.size
      · obtain ⟨x, hx⟩ : ∃ x, x = a[k].toNat := ⟨_, rfl⟩
        obtain ⟨y, hy⟩ : ∃ y, y = b[k].toNat := ⟨_, rfl⟩
        have X := Lib.hid hx
        have Y := Lib.hid hy
        rcases Nat.lt_trichotomy a[k].toNat b[k].toNat with he | he | he
        · rw [cmpFrom_lt a b k h1 h2 he] at hc
          have g3 : decide ((a[k].toNat : Int) < (b[k].toNat : Int)) = true := by simp; omega
          go_wp2_with fail
          go_quiet (fail)
          go_wp2_with fail
          go_ret
          rw [hc]
          exact ⟨rfl, below_drewN' B _⟩
        · rw [cmpFrom_same a b k h1 h2 he] at hc
          have g3 : decide ((a[k].toNat : Int) < (b[k].toNat : Int)) = false := by simp; omega
          have g4 : decide ((a[k].toNat : Int) > (b[k].toNat : Int)) = false := by simp; omega
          go_wp2_with fail
          go_quiet (fail)
          go_wp2_with fail
          go_quiet (fail)
          go_wp2_with fail
          go_roundw
          case rel => exact ⟨k + 1, by omega, by omega, by go_num, hc, below_drewN' B _⟩
          case measure => simp [intOf]; omega
        · rw [cmpFrom_gt a b k h1 h2 he] at hc
          have g3 : decide ((a[k].toNat : Int) < (b[k].toNat : Int)) = false := by simp; omega
          have g4 : decide ((a[k].toNat : Int) > (b[k].toNat : Int)) = true := by simp; omega
          go_wp2_with fail
          go_quiet (fail)
          go_wp2_with fail
          go_quiet (fail)
          go_wp2_with fail
          go_ret
          rw [hc]
          exact ⟨rfl, below_drewN' (below_drewN' B _) _⟩
      · have g2 : decide (k < b.size) = false := by simp; omega
        rw [cmpFrom_end a b k hka hkb (.inr (by omega)), if_neg (by omega), if_pos (by omega)] at hc
        go_wp2_with fail
        all_goals first | (exfalso; omega) | skip
        go_ret
        rw [hc]
        exact ⟨rfl, B⟩
    · have g1 : decide (k < a.size) = false := by simp; omega
      have hka2 : k = a.size := by omega
      rw [cmpFrom_end a b k hka hkb (.inl (by omega))] at hc
      have C := Lib.hid hc
      clear hc
      go_wp2_with fail
      · go_ret
        rw [C.out, if_pos (by omega)]
        exact ⟨rfl, B⟩
      · go_ret
        rw [C.out, if_neg (by omega), if_neg (by omega)]
        exact ⟨rfl, B⟩

end Go.Proofs.Ytkicdblebhaekaa.Key
