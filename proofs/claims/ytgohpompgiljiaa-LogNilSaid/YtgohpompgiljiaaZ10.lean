/-
  word: may, has.
  Walks: Put.
  Walks: the reference's Put.
  word and the document: Get.
-/
import Derived.Test.YtgohpompgiljiaaProg
import Derived.WalkKit
import Derived.WalkSpells
import Derived.WalkLawsBesides
import Derived.Lib.Hide
import Derived.Laws.IdiomStrings
import Derived.Laws.MakeOwn
import Derived.Test.YtgohpompgiljiaaZ19
namespace Go.Proofs.Ytgohpompgiljiaa
open Go.RowKit

theorem ret_int {k : IntKind} {a b : Int} (h : a = b) : Ending.returned (.int k a) = .returned (.int k b) := by rw [h]
theorem ret_bool {a b : Bool} (h : a = b) : Ending.returned (.bool a) = .returned (.bool b) := by rw [h]
def mayB (n : Int) : Bool := decide (1 ≤ n ∧ n ≤ 8)
def hasB (l : Nat) (a size : Int) : Bool := decide (0 ≤ a ∧ 0 ≤ size ∧ a + size ≤ l)
set_option maxRecDepth 100000 in
theorem may_any (n : Int) (w : World) :
    Calls Try.prog 66 #[.int .i64 n] w fun e w' => e = .returned (.bool (mayB n)) ∧ w = w' := by
  go_enter Try.func66, Try.ntmps66
  go_wp2
  all_goals
    go_ret
    exact ⟨ret_bool (by unfold mayB; simp; omega), rfl⟩

set_option maxRecDepth 100000 in
theorem has_any (s : ByteArray) (a n : Int) (w : World) (hs : s.size ≤ maxLen) (ha : -9223372036854775808 ≤ a ∧ a ≤ 9223372036854775807) :
    Calls Try.prog 74 #[.string s, .int .i64 a, .int .i64 n] w fun e w' => e = .returned (.bool (hasB s.size a n)) ∧ w = w' := by
  unfold maxLen at hs
  go_enter Try.func74, Try.ntmps74
  go_wp2
  all_goals
    go_ret
    exact ⟨ret_bool (by unfold hasB; first | (rw [decide_eq_decide]; omega) | (symm; rw [decide_eq_false_iff_not]; omega)), rfl⟩

theorem has_yes (s : ByteArray) (a n : Nat) (h : a + n ≤ s.size) : hasB s.size a n = true := by unfold hasB; simp; omega
end Go.Proofs.Ytgohpompgiljiaa

namespace Go.Proofs.Ytgohpompgiljiaa
open Go.RowKit

def cellsAt (n : Int) (k : Nat) (cs : Array Value) : Prop := cs.size = 8 ∧ ∀ j, j < 8 → cs[j]? = some (.int .u8 (if 8 - k ≤ j then n / 2 ^ (8 * (7 - j)) % 256 else 0))

def bytesOf (m : Nat) (n : Int) : ByteArray := ⟨(be m n.toNat).toArray⟩

theorem be_int (m : Nat) (n : Int) (hn : 0 ≤ n) (j : Nat) (h : j < (be m n.toNat).length) : ((be m n.toNat)[j].toNat : Int) = n / 2 ^ (8 * (m - 1 - j)) % 256 := by
  rw [be_get]
  have e : n = (n.toNat : Int) := by omega
  conv => rhs; rw [e]
  simp

theorem put_back (n : Int) (hn : 0 ≤ n) (m : Nat) (h8 : m ≤ 8) (w : World) (cs : Array Value) (hcs : cellsAt n 8 cs) :
    (convert 55 9 (.slice (some ⟨w.heap.size, 8 - m, none⟩) m m)).run Try.prog (w.alloc (.cells cs 121)) = .ok (.string (bytesOf m n)) (w.alloc (.cells cs 121)) := by
  have hl := be_length m n.toNat
  have h := run_convert_bytes_back (P := Try.prog) (w.alloc (.cells cs 121)) 55 9 5 ⟨w.heap.size, 8 - m, none⟩ m (be m n.toNat) Try.underlying55 Try.underlying5 Try.underlying9 (by
    intro j hj
    have hj' : j < m := by omega
    have e : (⟨w.heap.size, 8 - m, none⟩ : Addr).add j = ⟨w.heap.size, 8 - m + j, none⟩ := by simp [Addr.add]
    rw [e, World.cell?_alloc_mark, hcs.2 _ (by omega), if_pos (by omega), be_int m n hn j hj]
    have e2 : 7 - (8 - m + j) = m - 1 - j := by omega
    rw [e2])
  rw [hl] at h
  exact h

theorem put_cut (m : Nat) (h0 : 1 ≤ m) (h8 : m ≤ 8) (g : Nat) (w : World) :
    (Instr.sliceAt 121 (.pointer (some ⟨g, 0, none⟩)) (some (.int .i64 (8 - (m : Int)))) none none).run Try.prog w = .ok (.slice (some ⟨g, 8 - m, none⟩) m m) w := by
  have ha : Try.prog.arrayLen 121 = 8 := by kernel_rfl
  have hz : ∀ w, (sizeOf (Try.prog.elem 121)).run Try.prog w = .ok 1 w := fun w => by kernel_rfl
  rw [run_sliceAt_array_l w 121 ⟨g, 0, none⟩ (by kernel_rfl) .i64 (8 - (m : Int)) (by omega) (by rw [ha]; omega), hz, ha]
  have e1 : (8 - (m : Int)).toNat = 8 - m := by omega
  have e2 : ¬ (8 = 8 - m) := by omega
  have e3 : 8 - (8 - m) = m := by omega
  simp [slicedAt, Result.andThen, e1, e2, e3, Addr.add]
  omega

set_option maxRecDepth 100000 in
set_option maxHeartbeats 400000 in
theorem put_yes (n : Int) (m : Nat) (w : World) (h0 : 1 ≤ m) (h8 : m ≤ 8) (hn0 : 0 ≤ n) (hn : (n / 2 ^ (8 * m) != 0) = false) :
    Calls Try.prog 51 #[.int .u64 n, .int .i64 m] w fun e w' => e = .returned (.tuple #[.string (bytesOf m n), .bool true]) ∧ Below w.heap.size w w' := by
  have hmay : mayB m = true := by unfold mayB; simp; omega
  go_enter Try.func51, Try.ntmps51
  go_wp2_with (go_at_call 66; refine (may_any _ _).mono ?_; rintro e w' ⟨rfl, rfl⟩)
  go_loopw [18] (fun i wr => ∃ (k : Nat) (cs : Array Value), k ≤ 8 ∧ i = .int .i64 k ∧ wr = w.alloc (.cells cs 121) ∧ cellsAt n k cs) (fun i _ => 8 - (intOf i).toNat)
  case atStart => 
    refine ⟨0, _, by omega, rfl, rfl, rfl, ?_⟩
    intro j hj
    rw [if_neg (by omega)]
    (match j, hj with | 0, _ | 1, _ | 2, _ | 3, _ | 4, _ | 5, _ | 6, _ | 7, _ => rfl)
  case round =>
    obtain ⟨k, cs, hk, rfl, rfl, hcs⟩ := hrel
    by_cases hlt : k < 8
    · have hc := hcs.2 (7 - k) (by omega)
      rw [if_neg (by omega)] at hc
      go_wp2
      go_roundw
      case rel =>
        refine ⟨k + 1, _, by omega, by go_num, rfl, by simp [hcs.1], ?_⟩
        intro j hj
        rw [Array.getElem?_setIfInBounds]
        by_cases hj2 : 7 - k = j
        · subst hj2
          have e : 7 - (7 - k) = k := by omega
          rw [if_pos rfl, if_pos (by rw [hcs.1]; omega), if_pos (by omega), e]
        · rw [if_neg hj2, hcs.2 j hj]
          by_cases hj3 : 8 - k ≤ j
          · rw [if_pos hj3, if_pos (by omega)]
          · rw [if_neg hj3, if_neg (by omega)]
      case measure => simp [intOf]; omega
    · obtain rfl : k = 8 := by omega
      have hb := put_back n hn0 m h8 w cs hcs
      have hsl := put_cut m h0 h8 w.heap.size
      go_wp2
      go_ret2
      exact ⟨rfl, (Below.refl _ _).alloc (Nat.le_refl _) _⟩

set_option maxRecDepth 100000 in
theorem put_no_size (n size : Int) (w : World) (h0 : size < 1 ∨ 8 < size) :
    Calls Try.prog 51 #[.int .u64 n, .int .i64 size] w fun e w' => e = .returned (.tuple #[.string ⟨#[]⟩, .bool false]) ∧ w = w' := by
  have hmay : mayB size = false := by unfold mayB; simp; omega
  go_enter Try.func51, Try.ntmps51
  go_wp2_with (go_at_call 66; refine (may_any _ _).mono ?_; rintro e w' ⟨rfl, rfl⟩)
  go_ret2
  exact ⟨rfl, rfl⟩

set_option maxRecDepth 100000 in
theorem put_no_room (n : Int) (m : Nat) (w : World) (h0 : 1 ≤ m) (h8 : m ≤ 8) (hn : (n / 2 ^ (8 * m) != 0) = true) :
    Calls Try.prog 51 #[.int .u64 n, .int .i64 m] w fun e w' => e = .returned (.tuple #[.string ⟨#[]⟩, .bool false]) ∧ w = w' := by
  have hmay : mayB m = true := by unfold mayB; simp; omega
  go_enter Try.func51, Try.ntmps51
  go_wp2_with (go_at_call 66; refine (may_any _ _).mono ?_; rintro e w' ⟨rfl, rfl⟩)
  go_ret2
  exact ⟨rfl, rfl⟩

end Go.Proofs.Ytgohpompgiljiaa

namespace Go.Proofs.Ytgohpompgiljiaa
open Go.RowKit

def cellsTo (n : Int) (m k : Nat) (cs : Array Value) : Prop := cs.size = m ∧ ∀ j, j < m → cs[j]? = some (.int .u8 (if m - k ≤ j then n / 2 ^ (8 * (m - 1 - j)) % 256 else 0))

theorem rput_back (n : Int) (hn : 0 ≤ n) (m : Nat) (w : World) (cs : Array Value) (hcs : cellsTo n m m cs) :
    (convert 55 9 (.slice (some ⟨w.heap.size, 0, none⟩) m m)).run Try.prog (w.alloc (.cells cs 5)) = .ok (.string (bytesOf m n)) (w.alloc (.cells cs 5)) := by
  have hl := be_length m n.toNat
  have h := run_convert_bytes_back (P := Try.prog) (w.alloc (.cells cs 5)) 55 9 5 ⟨w.heap.size, 0, none⟩ m (be m n.toNat) Try.underlying55 Try.underlying5 Try.underlying9 (by
    intro j hj
    have hj' : j < m := by omega
    have e : (⟨w.heap.size, 0, none⟩ : Addr).add j = ⟨w.heap.size, j, none⟩ := by simp [Addr.add]; omega
    rw [e, World.cell?_alloc_mark, hcs.2 _ (by omega), if_pos (by omega), be_int m n hn j hj])
  rw [hl] at h
  exact h

theorem div_step (n : Int) (k : Nat) : n / 2 ^ (8 * k) / 256 = n / 2 ^ (8 * (k + 1)) := by
  have e : (2 : Int) ^ (8 * (k + 1)) = 2 ^ (8 * k) * 256 := by rw [Nat.mul_add, Int.pow_add]; rfl
  have hp : (0 : Int) ≤ 2 ^ (8 * k) := by exact Int.le_of_lt (Int.pow_pos (by omega))
  rw [e, Int.ediv_ediv_of_nonneg hp]

theorem div_pos (n : Int) (hn : 0 ≤ n) (k : Nat) : 0 ≤ n / 2 ^ (8 * k) := Int.ediv_nonneg hn (Int.le_of_lt (Int.pow_pos (by omega)))

theorem zero_cells (n : Int) (m : Nat) : cellsTo n m 0 (madeCells (Value.int .u8 0).cells m) := by
  refine ⟨size_madeCells _ _, ?_⟩
  intro j hj
  rw [if_neg (by omega)]
  unfold madeCells
  simp [Value.cells, hj, Nat.mod_one]

theorem cellsTo_step {n : Int} {m k : Nat} {cs : Array Value} (h : cellsTo n m k cs) (hk : k < m) : cellsTo n m (k + 1) (cs.setIfInBounds (m - 1 - k) (.int .u8 (n / 2 ^ (8 * k) % 256))) := by
  refine ⟨by simp [h.1], ?_⟩
  intro j hj
  rw [Array.getElem?_setIfInBounds]
  by_cases hj2 : m - 1 - k = j
  · subst hj2
    have e : m - 1 - (m - 1 - k) = k := by omega
    rw [if_pos rfl, if_pos (by rw [h.1]; omega), if_pos (by omega), e]
  · rw [if_neg hj2, h.2 j hj]
    by_cases hj3 : m - k ≤ j
    · rw [if_pos hj3, if_pos (by omega)]
    · rw [if_neg hj3, if_neg (by omega)]

def U64 (n : Int) : Prop := 0 ≤ n ∧ n ≤ 18446744073709551615
theorem u64_quo {n : Int} (hn : U64 n) (k : Nat) : IntKind.u64.wrap ((n / 2 ^ (8 * k)).tdiv 256) = n / 2 ^ (8 * (k + 1)) := by
  have h1 := div_pos n hn.1 k
  have h2 : n / 2 ^ (8 * k) ≤ n := Int.ediv_le_self _ hn.1
  have h3 := hn.2
  rw [Int.tdiv_eq_ediv_of_nonneg h1, ← div_step, IntKind.wrap_u64]
  omega

theorem Word.infoB : (Try.prog.info? 5).map (fun i => (i.zero, i.size, i.bytes)) = some (some (.int .u8 0), 1, 1) := by kernel_rfl

def putB (n size : Int) : Bool := decide (1 ≤ size ∧ size ≤ 8 ∧ n / 2 ^ (8 * size.toNat) = 0)
def putS (n size : Int) : ByteArray := if putB n size then bytesOf size.toNat n else ⟨#[]⟩

theorem put_any (n size : Int) (w : World) (hu : U64 n) :
    Calls Try.prog 51 #[.int .u64 n, .int .i64 size] w fun e w' => e = .returned (.tuple #[.string (putS n size), .bool (putB n size)]) ∧ Below w.heap.size w w' := by
  by_cases hs : 1 ≤ size ∧ size ≤ 8
  · obtain ⟨m, rfl⟩ : ∃ m : Nat, size = m := ⟨size.toNat, by omega⟩
    by_cases hr : n / 2 ^ (8 * m) = 0
    · have hb : putB n m = true := by unfold putB; simpa [hr] using hs
      have hp : putS n m = bytesOf m n := by unfold putS; rw [hb]; simp
      rw [hb, hp]
      exact put_yes n m w (by omega) (by omega) hu.1 (by simpa using hr)
    · have hb : putB n m = false := by unfold putB; simp [hr]
      have hp : putS n m = ⟨#[]⟩ := by unfold putS; rw [hb]; simp
      rw [hb, hp]
      exact (put_no_room n m w (by omega) (by omega) (by simpa using hr)).mono fun _ _ ⟨a, b⟩ => ⟨a, b ▸ Below.refl _ _⟩
  · have hb : putB n size = false := by unfold putB; simp; omega
    have hp : putS n size = ⟨#[]⟩ := by unfold putS; rw [hb]; simp
    rw [hb, hp]
    exact (put_no_size n size w (by omega)).mono fun _ _ ⟨a, b⟩ => ⟨a, b ▸ Below.refl _ _⟩

end Go.Proofs.Ytgohpompgiljiaa

namespace Go.Proofs.Ytgohpompgiljiaa
open Go.RowKit

/-- the number of the first k bytes from a on -/
def numAt (s : ByteArray) (a k : Nat) : Nat := num ((s.data.toList.drop a).take k)
theorem numAt_zero (s : ByteArray) (a : Nat) : numAt s a 0 = 0 := by simp [numAt, num]
theorem numAt_succ (s : ByteArray) (a k : Nat) (h : a + k < s.size) : numAt s a (k + 1) = 256 * numAt s a k + (s[a + k]).toNat := by
  unfold numAt
  have hl : k < (s.data.toList.drop a).length := by simp; have : s.size = s.data.size := rfl; omega
  rw [num_take_succ _ _ hl]
  simp
  rfl

theorem numAt_lt (s : ByteArray) (a k : Nat) : numAt s a k < 256 ^ k := num_lt_of (by simp; omega)
theorem or_byte (x y : Nat) (hx : x < 256 ^ 7) (hy : y < 256) : bits .or .u64 (IntKind.u64.wrap ((x : Int) * 256)) (IntKind.u64.wrap (y : Int)) = ((256 * x + y : Nat) : Int) := by
  have e1 : IntKind.u64.wrap ((x : Int) * 256) = ((256 * x : Nat) : Int) := by rw [IntKind.wrap_u64]; omega
  have e2 : IntKind.u64.wrap (y : Int) = (y : Int) := by rw [IntKind.wrap_u64]; omega
  rw [e1, e2, u64_or_nat _ _ (by omega) (by omega)]
  congr 1
  have h := Nat.two_pow_add_eq_or_of_lt (i := 8) (b := y) (by omega) x
  have e3 : (2 : Nat) ^ 8 = 256 := rfl
  rw [e3] at h
  exact h.symm

set_option maxRecDepth 100000 in
set_option maxHeartbeats 400000 in
theorem get_yes (s : ByteArray) (a m : Nat) (w : World) (hs : s.size ≤ 281474976710656) (h0 : 1 ≤ m) (h8 : m ≤ 8) (h : a + m ≤ s.size) :
    Calls Try.prog 69 #[.string s, .int .i64 a, .int .i64 m] w fun e w' => e = .returned (.tuple #[.int .u64 (numAt s a m), .bool true]) ∧ w = w' := by
  have hh := has_yes s a m h
  have hmay : mayB m = true := by unfold mayB; simp; omega
  go_enter Try.func69, Try.ntmps69
  go_wp2_with (first | (go_at_call 74; refine (has_any _ _ _ _ (by unfold maxLen; omega) (by omega)).mono ?_; rintro e w' ⟨rfl, rfl⟩) | (go_at_call 66; refine (may_any _ _).mono ?_; rintro e w' ⟨rfl, rfl⟩))
  go_loop [8, 21] (fun v i => ∃ k : Nat, k ≤ m ∧ i = .int .i64 k ∧ v = .int .u64 (numAt s a k)) (fun _ i => m - (intOf i).toNat)
  case atStart => exact ⟨0, by omega, rfl, by rw [numAt_zero]; rfl⟩
  case round =>
    obtain ⟨k, hk, rfl, rfl⟩ := hrel
    by_cases hlt : k < m
    · go_wp2
      go_round
      case rel => 
        refine ⟨k + 1, by omega, by go_num, ?_⟩
        have hl := numAt_lt s a k
        have hk7 : (256 : Nat) ^ k ≤ 256 ^ 7 := Nat.pow_le_pow_right (by omega) (by omega)
        have hb := s[a + k].toNat_lt
        rw [or_byte _ _ (by omega) (by omega), numAt_succ s a k (by omega)]
      case measure => simp [intOf]; omega
    · obtain rfl : k = m := by omega
      go_wp2
      go_ret2
      exact ⟨rfl, rfl⟩

set_option maxRecDepth 100000 in
theorem get_no (s : ByteArray) (a n : Int) (w : World) (hs : s.size ≤ 281474976710656) (ha : -9223372036854775808 ≤ a ∧ a ≤ 9223372036854775807) (hh : (mayB n && hasB s.size a n) = false) :
    Calls Try.prog 69 #[.string s, .int .i64 a, .int .i64 n] w fun e w' => e = .returned (.tuple #[.int .u64 0, .bool false]) ∧ w = w' := by
  by_cases hm : mayB n = true
  · have hh2 : hasB s.size a n = false := by simpa [hm] using hh
    clear hh
    go_enter Try.func69, Try.ntmps69
    go_wp2_with (first | (go_at_call 74; refine (has_any _ _ _ _ (by unfold maxLen; omega) (by omega)).mono ?_; rintro e w' ⟨rfl, rfl⟩) | (go_at_call 66; refine (may_any _ _).mono ?_; rintro e w' ⟨rfl, rfl⟩))
    go_ret2
    exact ⟨rfl, rfl⟩
  · have hm2 : mayB n = false := by simpa using hm
    clear hh hm
    go_enter Try.func69, Try.ntmps69
    go_wp2_with (first | (go_at_call 74; refine (has_any _ _ _ _ (by unfold maxLen; omega) (by omega)).mono ?_; rintro e w' ⟨rfl, rfl⟩) | (go_at_call 66; refine (may_any _ _).mono ?_; rintro e w' ⟨rfl, rfl⟩))
    go_ret2
    exact ⟨rfl, rfl⟩

theorem numAt_part (s : ByteArray) (a m k : Nat) (_h : a + m ≤ s.size) (hk : k ≤ m) : numAt (s.extract a (a + m)) 0 k = numAt s a k := by
  unfold numAt
  have e : (s.extract a (a + m)).data.toList = (s.data.toList.drop a).take m := by
    rw [ByteArray.data_extract, Array.toList_extract, List.extract_eq_take_drop]
    congr 1
    omega
  rw [e, List.drop_zero, List.take_take, Nat.min_eq_left hk]

theorem add_byte (x y : Nat) (hx : x < 256 ^ 7) (hy : y < 256) : IntKind.u64.wrap (IntKind.u64.wrap (256 * (x : Int)) + IntKind.u64.wrap (y : Int)) = ((256 * x + y : Nat) : Int) := by
  simp only [IntKind.wrap_u64]; omega
def getB (s : ByteArray) (a n : Int) : Bool := mayB n && hasB s.size a n
def getN (s : ByteArray) (a n : Int) : Int := if getB s a n then numAt s a.toNat n.toNat else 0
theorem get_any (s : ByteArray) (a n : Int) (w : World) (hs : s.size ≤ 281474976710656) (ha : -9223372036854775808 ≤ a ∧ a ≤ 9223372036854775807) :
    Calls Try.prog 69 #[.string s, .int .i64 a, .int .i64 n] w fun e w' => e = .returned (.tuple #[.int .u64 (getN s a n), .bool (getB s a n)]) ∧ w = w' := by
  by_cases h : getB s a n = true
  · have h' : mayB n = true ∧ hasB s.size a n = true := by simpa [getB] using h
    have h1 : 1 ≤ n ∧ n ≤ 8 := by simpa [mayB] using h'.1
    have h2 : 0 ≤ a ∧ 0 ≤ n ∧ a + n ≤ s.size := by simpa [hasB] using h'.2
    obtain ⟨a, rfl⟩ : ∃ a' : Nat, a = a' := ⟨a.toNat, by omega⟩
    obtain ⟨m, rfl⟩ : ∃ a' : Nat, n = a' := ⟨n.toNat, by omega⟩
    have e : getN s a m = numAt s a m := by unfold getN; rw [h]; simp
    rw [h, e]
    exact get_yes s a m w hs (by omega) (by omega) (by omega)
  · have h' : getB s a n = false := by simpa using h
    have e : getN s a n = 0 := by unfold getN; rw [h']; simp
    rw [h', e]
    exact get_no s a n w hs ha h'

end Go.Proofs.Ytgohpompgiljiaa
