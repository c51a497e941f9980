/- word and the document: Get. -/
import Derived.Test.YtfcibccipkokoaaWC
namespace Go.Proofs.Ytfcibccipkokoaa
open Go.RowKit

set_option maxRecDepth 100000 in
theorem rcut_yes (s : ByteArray) (a n : Nat) (w : World) (hs : s.size ≤ 281474976710656) (h : a + n ≤ s.size) :
    Calls Try.prog 102 #[.string s, .int .i64 a, .int .i64 n] w fun e w' => e = .returned (.tuple #[.string (s.extract a (a + n)), .bool true]) ∧ w = w' := by
  go_enter Try.func102, Try.ntmps102
  go_wp2
  go_ret2
  exact ⟨rfl, rfl⟩

set_option maxRecDepth 100000 in
theorem rcut_no (s : ByteArray) (a n : Int) (w : World) (_hs : s.size ≤ 281474976710656) (ha : -9223372036854775808 ≤ a ∧ a ≤ 9223372036854775807) (hn : -9223372036854775808 ≤ n ∧ n ≤ 9223372036854775807) (hh : hasB s.size a n = false) :
    Calls Try.prog 102 #[.string s, .int .i64 a, .int .i64 n] w fun e w' => e = .returned (.tuple #[.string ⟨#[]⟩, .bool false]) ∧ w = w' := by
  have hh' : ¬ (0 ≤ a ∧ 0 ≤ n ∧ a + n ≤ s.size) := by simpa [hasB] using hh
  clear hh
  by_cases h1 : a < 0
  · clear hh'
    go_enter Try.func102, Try.ntmps102
    go_wp2
    go_ret2
    exact ⟨rfl, rfl⟩
  by_cases h2 : n < 0
  · clear hh'
    go_enter Try.func102, Try.ntmps102
    go_wp2
    go_ret2
    exact ⟨rfl, rfl⟩
  by_cases h3 : a > s.size
  · clear hh'
    go_enter Try.func102, Try.ntmps102
    go_wp2
    go_ret2
    exact ⟨rfl, rfl⟩
  have h4 : n > s.size - a := by omega
  clear hh'
  go_enter Try.func102, Try.ntmps102
  go_wp2
  go_ret2
  exact ⟨rfl, rfl⟩

/-- the number of the first k bytes from a on -/
def numAt (s : ByteArray) (a k : Nat) : Nat := num ((s.data.toList.drop a).take k)
theorem numAt_zero (s : ByteArray) (a : Nat) : numAt s a 0 = 0 := by simp [numAt, num]
theorem numAt_succ (s : ByteArray) (a k : Nat) (h : a + k < s.size) : numAt s a (k + 1) = 256 * numAt s a k + (s[a + k]).toNat := by
  unfold numAt
  have hl : k < (s.data.toList.drop a).length := by simp; have : s.size = s.data.size := rfl; omega
  rw [num_take_succ _ _ hl]
  simp
  rfl

theorem numAt_lt (s : ByteArray) (a k : Nat) : numAt s a k < 256 ^ k := num_lt_of (by simp; omega)
theorem or_byte (x y : Nat) (hx : x < 256 ^ 7) (hy : y < 256) : bits .or .u64 (IntKind.u64.wrap ((x : Int) * 256)) (IntKind.u64.wrap (y : Int)) = ((256 * x + y : Nat) : Int) := by
  have e1 : IntKind.u64.wrap ((x : Int) * 256) = ((256 * x : Nat) : Int) := by rw [IntKind.wrap_u64]; omega
  have e2 : IntKind.u64.wrap (y : Int) = (y : Int) := by rw [IntKind.wrap_u64]; omega
  rw [e1, e2, u64_or_nat _ _ (by omega) (by omega)]
  congr 1
  have h := Nat.two_pow_add_eq_or_of_lt (i := 8) (b := y) (by omega) x
  have e3 : (2 : Nat) ^ 8 = 256 := rfl
  rw [e3] at h
  exact h.symm

set_option maxRecDepth 100000 in
set_option maxHeartbeats 400000 in
theorem get_yes (s : ByteArray) (a m : Nat) (w : World) (hs : s.size ≤ 281474976710656) (h0 : 1 ≤ m) (h8 : m ≤ 8) (h : a + m ≤ s.size) :
    Calls Try.prog 63 #[.string s, .int .i64 a, .int .i64 m] w fun e w' => e = .returned (.tuple #[.int .u64 (numAt s a m), .bool true]) ∧ w = w' := by
  have hh := has_yes s a m h
  have hmay : mayB m = true := by unfold mayB; simp; omega
  go_enter Try.func63, Try.ntmps63
  go_wp2_with (first | (go_at_call 81; refine (has_any _ _ _ _ (by unfold maxLen; omega) (by omega)).mono ?_; rintro e w' ⟨rfl, rfl⟩) | (go_at_call 79; refine (may_any _ _).mono ?_; rintro e w' ⟨rfl, rfl⟩))
  go_loop [8, 21] (fun v i => ∃ k : Nat, k ≤ m ∧ i = .int .i64 k ∧ v = .int .u64 (numAt s a k)) (fun _ i => m - (intOf i).toNat)
  case atStart => exact ⟨0, by omega, rfl, by rw [numAt_zero]; rfl⟩
  case round =>
    obtain ⟨k, hk, rfl, rfl⟩ := hrel
    by_cases hlt : k < m
    · go_wp2
      go_round
      case rel => 
        refine ⟨k + 1, by omega, by go_num, ?_⟩
        have hl := numAt_lt s a k
        have hk7 : (256 : Nat) ^ k ≤ 256 ^ 7 := Nat.pow_le_pow_right (by omega) (by omega)
        have hb := s[a + k].toNat_lt
        rw [or_byte _ _ (by omega) (by omega), numAt_succ s a k (by omega)]
      case measure => simp [intOf]; omega
    · obtain rfl : k = m := by omega
      go_wp2
      go_ret2
      exact ⟨rfl, rfl⟩

set_option maxRecDepth 100000 in
theorem get_no (s : ByteArray) (a n : Int) (w : World) (hs : s.size ≤ 281474976710656) (ha : -9223372036854775808 ≤ a ∧ a ≤ 9223372036854775807) (hh : (mayB n && hasB s.size a n) = false) :
    Calls Try.prog 63 #[.string s, .int .i64 a, .int .i64 n] w fun e w' => e = .returned (.tuple #[.int .u64 0, .bool false]) ∧ w = w' := by
  by_cases hm : mayB n = true
  · have hh2 : hasB s.size a n = false := by simpa [hm] using hh
    clear hh
    go_enter Try.func63, Try.ntmps63
    go_wp2_with (first | (go_at_call 81; refine (has_any _ _ _ _ (by unfold maxLen; omega) (by omega)).mono ?_; rintro e w' ⟨rfl, rfl⟩) | (go_at_call 79; refine (may_any _ _).mono ?_; rintro e w' ⟨rfl, rfl⟩))
    go_ret2
    exact ⟨rfl, rfl⟩
  · have hm2 : mayB n = false := by simpa using hm
    clear hh hm
    go_enter Try.func63, Try.ntmps63
    go_wp2_with (first | (go_at_call 81; refine (has_any _ _ _ _ (by unfold maxLen; omega) (by omega)).mono ?_; rintro e w' ⟨rfl, rfl⟩) | (go_at_call 79; refine (may_any _ _).mono ?_; rintro e w' ⟨rfl, rfl⟩))
    go_ret2
    exact ⟨rfl, rfl⟩

theorem numAt_part (s : ByteArray) (a m k : Nat) (_h : a + m ≤ s.size) (hk : k ≤ m) : numAt (s.extract a (a + m)) 0 k = numAt s a k := by
  unfold numAt
  have e : (s.extract a (a + m)).data.toList = (s.data.toList.drop a).take m := by
    rw [ByteArray.data_extract, Array.toList_extract, List.extract_eq_take_drop]
    congr 1
    omega
  rw [e, List.drop_zero, List.take_take, Nat.min_eq_left hk]

theorem add_byte (x y : Nat) (hx : x < 256 ^ 7) (hy : y < 256) : IntKind.u64.wrap (IntKind.u64.wrap (256 * (x : Int)) + IntKind.u64.wrap (y : Int)) = ((256 * x + y : Nat) : Int) := by
  simp only [IntKind.wrap_u64]; omega
set_option maxRecDepth 100000 in
set_option maxHeartbeats 400000 in
theorem rget_yes (s : ByteArray) (a m : Nat) (w : World) (hs : s.size ≤ 281474976710656) (h0 : 1 ≤ m) (h8 : m ≤ 8) (h : a + m ≤ s.size) :
    Calls Try.prog 73 #[.string s, .int .i64 a, .int .i64 m] w fun e w' => e = .returned (.tuple #[.int .u64 (numAt s a m), .bool true]) ∧ w = w' := by
  have hnp := numAt_part s a m
  have hcut := fun w => rcut_yes s a m w hs h
  have hsz : m ≤ (s.extract a (a + m)).size := by rw [ByteArray.size_extract]; omega
  have hsz2 : (s.extract a (a + m)).size ≤ 281474976710656 := by rw [ByteArray.size_extract]; omega
  generalize s.extract a (a + m) = t at *
  have C := Lib.hid hcut
  have N := Lib.hid hnp
  clear hcut hnp
  go_enter Try.func73, Try.ntmps73
  go_wp2_with (first | (go_at_call 102; refine (C.out _).mono ?_; rintro e w' ⟨rfl, rfl⟩))
  go_loop [10, 11] (fun v i => ∃ k : Nat, k ≤ m ∧ i = .int .i64 k ∧ v = .int .u64 (numAt t 0 k)) (fun _ i => m - (intOf i).toNat)
  case atStart => exact ⟨0, by omega, rfl, by rw [numAt_zero]; rfl⟩
  case round =>
    obtain ⟨k, hk, rfl, rfl⟩ := hrel
    by_cases hlt : k < m
    · have hkt : k < t.size := by omega
      go_wp2
      go_round
      case rel =>
        refine ⟨k + 1, by omega, by go_num, ?_⟩
        have hl := numAt_lt t 0 k
        have hk7 : (256 : Nat) ^ k ≤ 256 ^ 7 := Nat.pow_le_pow_right (by omega) (by omega)
        have hb := t[k].toNat_lt
        rw [numAt_succ t 0 k (by omega)]
        simp only [Nat.zero_add]
        rw [add_byte _ _ (by omega) (by omega)]
      case measure => simp [intOf]; omega
    · obtain rfl : k = m := by omega
      have e := N.out k h (by omega)
      have H := Lib.hid e
      clear e
      go_wp2
      go_ret2
      exact ⟨by rw [H.out]; rfl, rfl⟩

set_option maxRecDepth 100000 in
theorem rget_no (s : ByteArray) (a n : Int) (w : World) (hs : s.size ≤ 281474976710656) (ha : -9223372036854775808 ≤ a ∧ a ≤ 9223372036854775807) (hn : -9223372036854775808 ≤ n ∧ n ≤ 9223372036854775807) (hh : (mayB n && hasB s.size a n) = false) :
    Calls Try.prog 73 #[.string s, .int .i64 a, .int .i64 n] w fun e w' => e = .returned (.tuple #[.int .u64 0, .bool false]) ∧ w = w' := by
  by_cases hb : hasB s.size a n = true
  · have hm2 : mayB n = false := by simpa [hb] using hh
    have hm3 : n < 1 ∨ 8 < n := by simp [mayB] at hm2; omega
    have hb2 : 0 ≤ a ∧ 0 ≤ n ∧ a + n ≤ s.size := by simpa [hasB] using hb
    clear hh hb hm2
    obtain ⟨a, rfl⟩ : ∃ a' : Nat, a = a' := ⟨a.toNat, by omega⟩
    obtain ⟨m, rfl⟩ : ∃ a' : Nat, n = a' := ⟨n.toNat, by omega⟩
    have hcut := fun w => rcut_yes s a m w hs (by omega)
    have C := Lib.hid hcut
    clear hcut
    rcases hm3 with h1 | h1
    · go_enter Try.func73, Try.ntmps73
      go_wp2_with (first | (go_at_call 102; refine (C.out _).mono ?_; rintro e w' ⟨rfl, rfl⟩))
      go_ret2
      exact ⟨rfl, rfl⟩
    · go_enter Try.func73, Try.ntmps73
      go_wp2_with (first | (go_at_call 102; refine (C.out _).mono ?_; rintro e w' ⟨rfl, rfl⟩))
      go_ret2
      exact ⟨rfl, rfl⟩
  · have hb2 : hasB s.size a n = false := by simpa using hb
    clear hh hb
    go_enter Try.func73, Try.ntmps73
    go_wp2_with (first | (go_at_call 102; refine (rcut_no _ _ _ _ hs ha hn hb2).mono ?_; rintro e w' ⟨rfl, rfl⟩))
    go_ret2
    exact ⟨rfl, rfl⟩

def getB (s : ByteArray) (a n : Int) : Bool := mayB n && hasB s.size a n
def getN (s : ByteArray) (a n : Int) : Int := if getB s a n then numAt s a.toNat n.toNat else 0
theorem get_any (s : ByteArray) (a n : Int) (w : World) (hs : s.size ≤ 281474976710656) (ha : -9223372036854775808 ≤ a ∧ a ≤ 9223372036854775807) :
    Calls Try.prog 63 #[.string s, .int .i64 a, .int .i64 n] w fun e w' => e = .returned (.tuple #[.int .u64 (getN s a n), .bool (getB s a n)]) ∧ w = w' := by
  by_cases h : getB s a n = true
  · have h' : mayB n = true ∧ hasB s.size a n = true := by simpa [getB] using h
    have h1 : 1 ≤ n ∧ n ≤ 8 := by simpa [mayB] using h'.1
    have h2 : 0 ≤ a ∧ 0 ≤ n ∧ a + n ≤ s.size := by simpa [hasB] using h'.2
    obtain ⟨a, rfl⟩ : ∃ a' : Nat, a = a' := ⟨a.toNat, by omega⟩
    obtain ⟨m, rfl⟩ : ∃ a' : Nat, n = a' := ⟨n.toNat, by omega⟩
    have e : getN s a m = numAt s a m := by unfold getN; rw [h]; simp
    rw [h, e]
    exact get_yes s a m w hs (by omega) (by omega) (by omega)
  · have h' : getB s a n = false := by simpa using h
    have e : getN s a n = 0 := by unfold getN; rw [h']; simp
    rw [h', e]
    exact get_no s a n w hs ha h'

theorem rget_any (s : ByteArray) (a n : Int) (w : World) (hs : s.size ≤ 281474976710656) (ha : -9223372036854775808 ≤ a ∧ a ≤ 9223372036854775807) (hn : -9223372036854775808 ≤ n ∧ n ≤ 9223372036854775807) :
    Calls Try.prog 73 #[.string s, .int .i64 a, .int .i64 n] w fun e w' => e = .returned (.tuple #[.int .u64 (getN s a n), .bool (getB s a n)]) ∧ w = w' := by
  by_cases h : getB s a n = true
  · have h' : mayB n = true ∧ hasB s.size a n = true := by simpa [getB] using h
    have h1 : 1 ≤ n ∧ n ≤ 8 := by simpa [mayB] using h'.1
    have h2 : 0 ≤ a ∧ 0 ≤ n ∧ a + n ≤ s.size := by simpa [hasB] using h'.2
    obtain ⟨a, rfl⟩ : ∃ a' : Nat, a = a' := ⟨a.toNat, by omega⟩
    obtain ⟨m, rfl⟩ : ∃ a' : Nat, n = a' := ⟨n.toNat, by omega⟩
    have e : getN s a m = numAt s a m := by unfold getN; rw [h]; simp
    rw [h, e]
    exact rget_yes s a m w hs (by omega) (by omega) (by omega)
  · have h' : getB s a n = false := by simpa using h
    have e : getN s a n = 0 := by unfold getN; rw [h']; simp
    rw [h', e]
    exact rget_no s a n w hs ha hn h'

end Go.Proofs.Ytfcibccipkokoaa
