/-
  Plain mathematics: numbers as bytes, highest first.
  word: may, has.
  Walks: Put.
  Walks: the reference's Put.
  word and the document: Get.
-/
import Derived.Test.YtfcibccipkokoaaProg
import Derived.WalkKit
import Derived.WalkSpells
import Derived.WalkLawsBesides
import Derived.Lib.Hide
import Derived.Laws.IdiomStrings
import Derived.Laws.MakeOwn
/- Plain mathematics: numbers as bytes, highest first. -/
namespace Go.Proofs.Ytfcibccipkokoaa

/-- the m lowest bytes of n, the highest first -/
def be (m n : Nat) : List UInt8 := (List.range m).map fun j => UInt8.ofNat (n / 2 ^ (8 * (m - 1 - j)) % 256)
def num (l : List UInt8) : Nat := l.foldl (fun a b => 256 * a + b.toNat) 0

theorem be_length (m n : Nat) : (be m n).length = m := by simp [be]
theorem be_get (m n j : Nat) (h : j < (be m n).length) : (be m n)[j].toNat = n / 2 ^ (8 * (m - 1 - j)) % 256 := by
  simp [be]
theorem be_snoc (m n : Nat) : be (m + 1) n = be m (n / 256) ++ [UInt8.ofNat (n % 256)] := by
  unfold be
  rw [List.range_succ, List.map_append]
  congr 1
  · apply List.map_congr_left
    intro j hj
    have hj' : j < m := by simpa using hj
    have e : 8 * (m + 1 - 1 - j) = 8 * (m - 1 - j) + 8 := by omega
    rw [e, Nat.pow_add, Nat.mul_comm, ← Nat.div_div_eq_div_mul]
  · simp
theorem num_snoc (l : List UInt8) (b : UInt8) : num (l ++ [b]) = 256 * num l + b.toNat := by
  simp [num]
theorem num_be (m : Nat) : ∀ n, n < 256 ^ m → num (be m n) = n := by
  induction m with
  | zero => intro n h; simp at h; subst h; rfl
  | succ m ih =>
    intro n h
    rw [be_snoc, num_snoc, ih (n / 256) (by rw [Nat.pow_succ] at h; omega)]
    simp; omega
theorem num_lt (l : List UInt8) : num l < 256 ^ l.length := by
  suffices h : ∀ m (l : List UInt8), l.length = m → num l < 256 ^ m from h _ l rfl
  intro m
  induction m with
  | zero => intro l h; cases l <;> simp_all [num]
  | succ m ih =>
    intro l h
    have hne : l ≠ [] := by intro e; subst e; simp at h
    rw [← List.dropLast_concat_getLast hne, num_snoc, Nat.pow_succ]
    have h1 := ih l.dropLast (by simp; omega)
    have h2 := (l.getLast hne).toNat_lt
    omega
theorem num_lt_of {l : List UInt8} {m : Nat} (h : l.length ≤ m) : num l < 256 ^ m := Nat.lt_of_lt_of_le (num_lt l) (Nat.pow_le_pow_right (by omega) h)
theorem num_take_succ (l : List UInt8) (k : Nat) (h : k < l.length) : num (l.take (k + 1)) = 256 * num (l.take k) + l[k].toNat := by
  rw [List.take_succ_eq_append_getElem h, num_snoc]
theorem pow256 (m : Nat) : 2 ^ (8 * m) = 256 ^ m := by rw [Nat.pow_mul]

end Go.Proofs.Ytfcibccipkokoaa

namespace Go.Proofs.Ytfcibccipkokoaa
open Go.RowKit

theorem ret_int {k : IntKind} {a b : Int} (h : a = b) : Ending.returned (.int k a) = .returned (.int k b) := by rw [h]
theorem ret_bool {a b : Bool} (h : a = b) : Ending.returned (.bool a) = .returned (.bool b) := by rw [h]
def mayB (n : Int) : Bool := decide (1 ≤ n ∧ n ≤ 8)
def hasB (l : Nat) (a size : Int) : Bool := decide (0 ≤ a ∧ 0 ≤ size ∧ a + size ≤ l)
set_option maxRecDepth 100000 in
theorem may_any (n : Int) (w : World) :
    Calls Try.prog 79 #[.int .i64 n] w fun e w' => e = .returned (.bool (mayB n)) ∧ w = w' := by
  go_enter Try.func79, Try.ntmps79
  go_wp2
  all_goals
    go_ret
    exact ⟨ret_bool (by unfold mayB; simp; omega), rfl⟩

set_option maxRecDepth 100000 in
theorem has_any (s : ByteArray) (a n : Int) (w : World) (hs : s.size ≤ maxLen) (ha : -9223372036854775808 ≤ a ∧ a ≤ 9223372036854775807) :
    Calls Try.prog 81 #[.string s, .int .i64 a, .int .i64 n] w fun e w' => e = .returned (.bool (hasB s.size a n)) ∧ w = w' := by
  unfold maxLen at hs
  go_enter Try.func81, Try.ntmps81
  go_wp2
  all_goals
    go_ret
    exact ⟨ret_bool (by unfold hasB; first | (rw [decide_eq_decide]; omega) | (symm; rw [decide_eq_false_iff_not]; omega)), rfl⟩

theorem has_yes (s : ByteArray) (a n : Nat) (h : a + n ≤ s.size) : hasB s.size a n = true := by unfold hasB; simp; omega
end Go.Proofs.Ytfcibccipkokoaa

namespace Go.Proofs.Ytfcibccipkokoaa
open Go.RowKit

def cellsAt (n : Int) (k : Nat) (cs : Array Value) : Prop := cs.size = 8 ∧ ∀ j, j < 8 → cs[j]? = some (.int .u8 (if 8 - k ≤ j then n / 2 ^ (8 * (7 - j)) % 256 else 0))

def bytesOf (m : Nat) (n : Int) : ByteArray := ⟨(be m n.toNat).toArray⟩

theorem be_int (m : Nat) (n : Int) (hn : 0 ≤ n) (j : Nat) (h : j < (be m n.toNat).length) : ((be m n.toNat)[j].toNat : Int) = n / 2 ^ (8 * (m - 1 - j)) % 256 := by
  rw [be_get]
  have e : n = (n.toNat : Int) := by omega
  conv => rhs; rw [e]
  simp

theorem put_back (n : Int) (hn : 0 ≤ n) (m : Nat) (h8 : m ≤ 8) (w : World) (cs : Array Value) (hcs : cellsAt n 8 cs) :
    (convert 41 9 (.slice (some ⟨w.heap.size, 8 - m, none⟩) m m)).run Try.prog (w.alloc (.cells cs 135)) = .ok (.string (bytesOf m n)) (w.alloc (.cells cs 135)) := by
  have hl := be_length m n.toNat
  have h := run_convert_bytes_back (P := Try.prog) (w.alloc (.cells cs 135)) 41 9 5 ⟨w.heap.size, 8 - m, none⟩ m (be m n.toNat) Try.underlying41 Try.underlying5 Try.underlying9 (by
    intro j hj
    have hj' : j < m := by omega
    have e : (⟨w.heap.size, 8 - m, none⟩ : Addr).add j = ⟨w.heap.size, 8 - m + j, none⟩ := by simp [Addr.add]
    rw [e, World.cell?_alloc_mark, hcs.2 _ (by omega), if_pos (by omega), be_int m n hn j hj]
    have e2 : 7 - (8 - m + j) = m - 1 - j := by omega
    rw [e2])
  rw [hl] at h
  exact h

theorem put_cut (m : Nat) (h0 : 1 ≤ m) (h8 : m ≤ 8) (g : Nat) (w : World) :
    (Instr.sliceAt 135 (.pointer (some ⟨g, 0, none⟩)) (some (.int .i64 (8 - (m : Int)))) none none).run Try.prog w = .ok (.slice (some ⟨g, 8 - m, none⟩) m m) w := by
  have ha : Try.prog.arrayLen 135 = 8 := by kernel_rfl
  have hz : ∀ w, (sizeOf (Try.prog.elem 135)).run Try.prog w = .ok 1 w := fun w => by kernel_rfl
  rw [run_sliceAt_array_l w 135 ⟨g, 0, none⟩ (by kernel_rfl) .i64 (8 - (m : Int)) (by omega) (by rw [ha]; omega), hz, ha]
  have e1 : (8 - (m : Int)).toNat = 8 - m := by omega
  have e2 : ¬ (8 = 8 - m) := by omega
  have e3 : 8 - (8 - m) = m := by omega
  simp [slicedAt, Result.andThen, e1, e2, e3, Addr.add]
  omega

set_option maxRecDepth 100000 in
set_option maxHeartbeats 400000 in
theorem put_yes (n : Int) (m : Nat) (w : World) (h0 : 1 ≤ m) (h8 : m ≤ 8) (hn0 : 0 ≤ n) (hn : (n / 2 ^ (8 * m) != 0) = false) :
    Calls Try.prog 59 #[.int .u64 n, .int .i64 m] w fun e w' => e = .returned (.tuple #[.string (bytesOf m n), .bool true]) ∧ Below w.heap.size w w' := by
  have hmay : mayB m = true := by unfold mayB; simp; omega
  go_enter Try.func59, Try.ntmps59
  go_wp2_with (go_at_call 79; refine (may_any _ _).mono ?_; rintro e w' ⟨rfl, rfl⟩)
  go_loopw [18] (fun i wr => ∃ (k : Nat) (cs : Array Value), k ≤ 8 ∧ i = .int .i64 k ∧ wr = w.alloc (.cells cs 135) ∧ cellsAt n k cs) (fun i _ => 8 - (intOf i).toNat)
  case atStart => 
    refine ⟨0, _, by omega, rfl, rfl, rfl, ?_⟩
    intro j hj
    rw [if_neg (by omega)]
    (match j, hj with | 0, _ | 1, _ | 2, _ | 3, _ | 4, _ | 5, _ | 6, _ | 7, _ => rfl)
  case round =>
    obtain ⟨k, cs, hk, rfl, rfl, hcs⟩ := hrel
    by_cases hlt : k < 8
    · have hc := hcs.2 (7 - k) (by omega)
      rw [if_neg (by omega)] at hc
      go_wp2
      go_roundw
      case rel =>
        refine ⟨k + 1, _, by omega, by go_num, rfl, by simp [hcs.1], ?_⟩
        intro j hj
        rw [Array.getElem?_setIfInBounds]
        by_cases hj2 : 7 - k = j
        · subst hj2
          have e : 7 - (7 - k) = k := by omega
          rw [if_pos rfl, if_pos (by rw [hcs.1]; omega), if_pos (by omega), e]
        · rw [if_neg hj2, hcs.2 j hj]
          by_cases hj3 : 8 - k ≤ j
          · rw [if_pos hj3, if_pos (by omega)]
          · rw [if_neg hj3, if_neg (by omega)]
      case measure => simp [intOf]; omega
    · obtain rfl : k = 8 := by omega
      have hb := put_back n hn0 m h8 w cs hcs
      have hsl := put_cut m h0 h8 w.heap.size
      go_wp2
      go_ret2
      exact ⟨rfl, (Below.refl _ _).alloc (Nat.le_refl _) _⟩

set_option maxRecDepth 100000 in
theorem put_no_size (n size : Int) (w : World) (h0 : size < 1 ∨ 8 < size) :
    Calls Try.prog 59 #[.int .u64 n, .int .i64 size] w fun e w' => e = .returned (.tuple #[.string ⟨#[]⟩, .bool false]) ∧ w = w' := by
  have hmay : mayB size = false := by unfold mayB; simp; omega
  go_enter Try.func59, Try.ntmps59
  go_wp2_with (go_at_call 79; refine (may_any _ _).mono ?_; rintro e w' ⟨rfl, rfl⟩)
  go_ret2
  exact ⟨rfl, rfl⟩

set_option maxRecDepth 100000 in
theorem put_no_room (n : Int) (m : Nat) (w : World) (h0 : 1 ≤ m) (h8 : m ≤ 8) (hn : (n / 2 ^ (8 * m) != 0) = true) :
    Calls Try.prog 59 #[.int .u64 n, .int .i64 m] w fun e w' => e = .returned (.tuple #[.string ⟨#[]⟩, .bool false]) ∧ w = w' := by
  have hmay : mayB m = true := by unfold mayB; simp; omega
  go_enter Try.func59, Try.ntmps59
  go_wp2_with (go_at_call 79; refine (may_any _ _).mono ?_; rintro e w' ⟨rfl, rfl⟩)
  go_ret2
  exact ⟨rfl, rfl⟩

end Go.Proofs.Ytfcibccipkokoaa

namespace Go.Proofs.Ytfcibccipkokoaa
open Go.RowKit

def cellsTo (n : Int) (m k : Nat) (cs : Array Value) : Prop := cs.size = m ∧ ∀ j, j < m → cs[j]? = some (.int .u8 (if m - k ≤ j then n / 2 ^ (8 * (m - 1 - j)) % 256 else 0))

theorem rput_back (n : Int) (hn : 0 ≤ n) (m : Nat) (w : World) (cs : Array Value) (hcs : cellsTo n m m cs) :
    (convert 41 9 (.slice (some ⟨w.heap.size, 0, none⟩) m m)).run Try.prog (w.alloc (.cells cs 5)) = .ok (.string (bytesOf m n)) (w.alloc (.cells cs 5)) := by
  have hl := be_length m n.toNat
  have h := run_convert_bytes_back (P := Try.prog) (w.alloc (.cells cs 5)) 41 9 5 ⟨w.heap.size, 0, none⟩ m (be m n.toNat) Try.underlying41 Try.underlying5 Try.underlying9 (by
    intro j hj
    have hj' : j < m := by omega
    have e : (⟨w.heap.size, 0, none⟩ : Addr).add j = ⟨w.heap.size, j, none⟩ := by simp [Addr.add]; omega
    rw [e, World.cell?_alloc_mark, hcs.2 _ (by omega), if_pos (by omega), be_int m n hn j hj])
  rw [hl] at h
  exact h

theorem div_step (n : Int) (k : Nat) : n / 2 ^ (8 * k) / 256 = n / 2 ^ (8 * (k + 1)) := by
  have e : (2 : Int) ^ (8 * (k + 1)) = 2 ^ (8 * k) * 256 := by rw [Nat.mul_add, Int.pow_add]; rfl
  have hp : (0 : Int) ≤ 2 ^ (8 * k) := by exact Int.le_of_lt (Int.pow_pos (by omega))
  rw [e, Int.ediv_ediv_of_nonneg hp]

theorem div_pos (n : Int) (hn : 0 ≤ n) (k : Nat) : 0 ≤ n / 2 ^ (8 * k) := Int.ediv_nonneg hn (Int.le_of_lt (Int.pow_pos (by omega)))

theorem zero_cells (n : Int) (m : Nat) : cellsTo n m 0 (madeCells (Value.int .u8 0).cells m) := by
  refine ⟨size_madeCells _ _, ?_⟩
  intro j hj
  rw [if_neg (by omega)]
  unfold madeCells
  simp [Value.cells, hj, Nat.mod_one]

theorem cellsTo_step {n : Int} {m k : Nat} {cs : Array Value} (h : cellsTo n m k cs) (hk : k < m) : cellsTo n m (k + 1) (cs.setIfInBounds (m - 1 - k) (.int .u8 (n / 2 ^ (8 * k) % 256))) := by
  refine ⟨by simp [h.1], ?_⟩
  intro j hj
  rw [Array.getElem?_setIfInBounds]
  by_cases hj2 : m - 1 - k = j
  · subst hj2
    have e : m - 1 - (m - 1 - k) = k := by omega
    rw [if_pos rfl, if_pos (by rw [h.1]; omega), if_pos (by omega), e]
  · rw [if_neg hj2, h.2 j hj]
    by_cases hj3 : m - k ≤ j
    · rw [if_pos hj3, if_pos (by omega)]
    · rw [if_neg hj3, if_neg (by omega)]

def U64 (n : Int) : Prop := 0 ≤ n ∧ n ≤ 18446744073709551615
theorem u64_quo {n : Int} (hn : U64 n) (k : Nat) : IntKind.u64.wrap ((n / 2 ^ (8 * k)).tdiv 256) = n / 2 ^ (8 * (k + 1)) := by
  have h1 := div_pos n hn.1 k
  have h2 : n / 2 ^ (8 * k) ≤ n := Int.ediv_le_self _ hn.1
  have h3 := hn.2
  rw [Int.tdiv_eq_ediv_of_nonneg h1, ← div_step, IntKind.wrap_u64]
  omega

theorem Word.infoB : (Try.prog.info? 5).map (fun i => (i.zero, i.size, i.bytes)) = some (some (.int .u8 0), 1, 1) := by kernel_rfl

set_option maxRecDepth 100000 in
set_option maxHeartbeats 400000 in
theorem rput_yes (n : Int) (m : Nat) (w : World) (h0 : 1 ≤ m) (h8 : m ≤ 8) (hu : U64 n) (hn : (n / 2 ^ (8 * m) != 0) = false) :
    Calls Try.prog 71 #[.int .u64 n, .int .i64 m] w fun e w' => e = .returned (.tuple #[.string (bytesOf m n), .bool true]) ∧ Below w.heap.size w w' := by
  have hn0 : 0 ≤ n := hu.1
  obtain ⟨i0, hi, hz0, hz1, hz2⟩ := info_parts Word.infoB
  obtain ⟨M, hM⟩ : ∃ M, M = madeCells (Value.int .u8 0).cells m := ⟨_, rfl⟩
  have hmk : ∀ W : World, (Instr.makeSlice 41 (.int .i64 (m : Int)) (.int .i64 (m : Int))).run Try.prog W = .ok (.slice (some ⟨W.heap.size, 0, none⟩) m m) (W.alloc (.cells M 5)) := fun W => by
    have h := run_make (P := Try.prog) W 41 5 i0 (.int .u8 0) Try.underlying41 hi hz0 .i64 .i64 (m : Int) (m : Int) (by omega) (by omega) (by rw [hz2]; omega) (by omega)
    simpa [hz1, ← hM] using h
  have hM0 : cellsTo n m 0 M := by rw [hM]; exact zero_cells n m
  clear hM hz0 hz1 hz2 hi
  go_enter Try.func71, Try.ntmps71
  go_wp2
  go_loopw [0, 7] (fun v i wr => ∃ (k : Nat) (cs : Array Value), k ≤ m ∧ v = .int .u64 (n / 2 ^ (8 * k)) ∧ i = .int .i64 ((m : Int) - 1 - k) ∧ wr = w.alloc (.cells cs 5) ∧ cellsTo n m k cs) (fun _ i _ => (intOf i + 1).toNat)
  case atStart => exact ⟨0, M, by omega, by simp, by simp, rfl, hM0⟩
  case round =>
    obtain ⟨k, cs, hk, rfl, rfl, rfl, hcs⟩ := hrel
    have hp := div_pos n hn0 k
    by_cases hlt : k < m
    · have hc := hcs.2 (m - 1 - k) (by omega)
      rw [if_neg (by omega)] at hc
      go_wp2
      go_roundw
      case rel => 
        refine ⟨k + 1, _, by omega, ?_, ?_, rfl, ?_⟩
        · rw [u64_quo hu]
        · congr 1; omega
        · exact cellsTo_step hcs hlt
      case measure => simp [intOf]; omega
    · obtain rfl : k = m := by omega
      have hb := rput_back n hn0 k w cs hcs
      go_wp2
      go_ret2
      exact ⟨rfl, (Below.refl _ _).alloc (Nat.le_refl _) _⟩

set_option maxRecDepth 100000 in
set_option maxHeartbeats 400000 in
theorem rput_no_room (n : Int) (m : Nat) (w : World) (h0 : 1 ≤ m) (h8 : m ≤ 8) (hu : U64 n) (hn : (n / 2 ^ (8 * m) != 0) = true) :
    Calls Try.prog 71 #[.int .u64 n, .int .i64 m] w fun e w' => e = .returned (.tuple #[.string ⟨#[]⟩, .bool false]) ∧ Below w.heap.size w w' := by
  have hn0 : 0 ≤ n := hu.1
  obtain ⟨i0, hi, hz0, hz1, hz2⟩ := info_parts Word.infoB
  obtain ⟨M, hM⟩ : ∃ M, M = madeCells (Value.int .u8 0).cells m := ⟨_, rfl⟩
  have hmk : ∀ W : World, (Instr.makeSlice 41 (.int .i64 (m : Int)) (.int .i64 (m : Int))).run Try.prog W = .ok (.slice (some ⟨W.heap.size, 0, none⟩) m m) (W.alloc (.cells M 5)) := fun W => by
    have h := run_make (P := Try.prog) W 41 5 i0 (.int .u8 0) Try.underlying41 hi hz0 .i64 .i64 (m : Int) (m : Int) (by omega) (by omega) (by rw [hz2]; omega) (by omega)
    simpa [hz1, ← hM] using h
  have hM0 : cellsTo n m 0 M := by rw [hM]; exact zero_cells n m
  clear hM hz0 hz1 hz2 hi
  go_enter Try.func71, Try.ntmps71
  go_wp2
  go_loopw [0, 7] (fun v i wr => ∃ (k : Nat) (cs : Array Value), k ≤ m ∧ v = .int .u64 (n / 2 ^ (8 * k)) ∧ i = .int .i64 ((m : Int) - 1 - k) ∧ wr = w.alloc (.cells cs 5) ∧ cellsTo n m k cs) (fun _ i _ => (intOf i + 1).toNat)
  case atStart => exact ⟨0, M, by omega, by simp, by simp, rfl, hM0⟩
  case round =>
    obtain ⟨k, cs, hk, rfl, rfl, rfl, hcs⟩ := hrel
    have hp := div_pos n hn0 k
    by_cases hlt : k < m
    · have hc := hcs.2 (m - 1 - k) (by omega)
      rw [if_neg (by omega)] at hc
      go_wp2
      go_roundw
      case rel => 
        refine ⟨k + 1, _, by omega, ?_, ?_, rfl, ?_⟩
        · rw [u64_quo hu]
        · congr 1; omega
        · exact cellsTo_step hcs hlt
      case measure => simp [intOf]; omega
    · obtain rfl : k = m := by omega
      go_wp2
      go_ret2
      exact ⟨rfl, (Below.refl _ _).alloc (Nat.le_refl _) _⟩

set_option maxRecDepth 100000 in
theorem rput_no_size (n size : Int) (w : World) (h0 : size < 1 ∨ 8 < size) :
    Calls Try.prog 71 #[.int .u64 n, .int .i64 size] w fun e w' => e = .returned (.tuple #[.string ⟨#[]⟩, .bool false]) ∧ w = w' := by
  rcases h0 with h0 | h0
  · go_enter Try.func71, Try.ntmps71
    go_wp2
    go_ret2
    exact ⟨rfl, rfl⟩
  · go_enter Try.func71, Try.ntmps71
    go_wp2
    go_ret2
    exact ⟨rfl, rfl⟩

def putB (n size : Int) : Bool := decide (1 ≤ size ∧ size ≤ 8 ∧ n / 2 ^ (8 * size.toNat) = 0)
def putS (n size : Int) : ByteArray := if putB n size then bytesOf size.toNat n else ⟨#[]⟩

theorem put_any (n size : Int) (w : World) (hu : U64 n) :
    Calls Try.prog 59 #[.int .u64 n, .int .i64 size] w fun e w' => e = .returned (.tuple #[.string (putS n size), .bool (putB n size)]) ∧ Below w.heap.size w w' := by
  by_cases hs : 1 ≤ size ∧ size ≤ 8
  · obtain ⟨m, rfl⟩ : ∃ m : Nat, size = m := ⟨size.toNat, by omega⟩
    by_cases hr : n / 2 ^ (8 * m) = 0
    · have hb : putB n m = true := by unfold putB; simpa [hr] using hs
      have hp : putS n m = bytesOf m n := by unfold putS; rw [hb]; simp
      rw [hb, hp]
      exact put_yes n m w (by omega) (by omega) hu.1 (by simpa using hr)
    · have hb : putB n m = false := by unfold putB; simp [hr]
      have hp : putS n m = ⟨#[]⟩ := by unfold putS; rw [hb]; simp
      rw [hb, hp]
      exact (put_no_room n m w (by omega) (by omega) (by simpa using hr)).mono fun _ _ ⟨a, b⟩ => ⟨a, b ▸ Below.refl _ _⟩
  · have hb : putB n size = false := by unfold putB; simp; omega
    have hp : putS n size = ⟨#[]⟩ := by unfold putS; rw [hb]; simp
    rw [hb, hp]
    exact (put_no_size n size w (by omega)).mono fun _ _ ⟨a, b⟩ => ⟨a, b ▸ Below.refl _ _⟩

theorem rput_any (n size : Int) (w : World) (hu : U64 n) :
    Calls Try.prog 71 #[.int .u64 n, .int .i64 size] w fun e w' => e = .returned (.tuple #[.string (putS n size), .bool (putB n size)]) ∧ Below w.heap.size w w' := by
  by_cases hs : 1 ≤ size ∧ size ≤ 8
  · obtain ⟨m, rfl⟩ : ∃ m : Nat, size = m := ⟨size.toNat, by omega⟩
    by_cases hr : n / 2 ^ (8 * m) = 0
    · have hb : putB n m = true := by unfold putB; simpa [hr] using hs
      have hp : putS n m = bytesOf m n := by unfold putS; rw [hb]; simp
      rw [hb, hp]
      exact rput_yes n m w (by omega) (by omega) hu (by simpa using hr)
    · have hb : putB n m = false := by unfold putB; simp [hr]
      have hp : putS n m = ⟨#[]⟩ := by unfold putS; rw [hb]; simp
      rw [hb, hp]
      exact rput_no_room n m w (by omega) (by omega) hu (by simpa using hr)
  · have hb : putB n size = false := by unfold putB; simp; omega
    have hp : putS n size = ⟨#[]⟩ := by unfold putS; rw [hb]; simp
    rw [hb, hp]
    exact (rput_no_size n size w (by omega)).mono fun _ _ ⟨a, b⟩ => ⟨a, b ▸ Below.refl _ _⟩

end Go.Proofs.Ytfcibccipkokoaa

namespace Go.Proofs.Ytfcibccipkokoaa
open Go.RowKit

set_option maxRecDepth 100000 in
theorem rcut_yes (s : ByteArray) (a n : Nat) (w : World) (hs : s.size ≤ 281474976710656) (h : a + n ≤ s.size) :
    Calls Try.prog 102 #[.string s, .int .i64 a, .int .i64 n] w fun e w' => e = .returned (.tuple #[.string (s.extract a (a + n)), .bool true]) ∧ w = w' := by
  go_enter Try.func102, Try.ntmps102
  go_wp2
  go_ret2
  exact ⟨rfl, rfl⟩

set_option maxRecDepth 100000 in
theorem rcut_no (s : ByteArray) (a n : Int) (w : World) (_hs : s.size ≤ 281474976710656) (ha : -9223372036854775808 ≤ a ∧ a ≤ 9223372036854775807) (hn : -9223372036854775808 ≤ n ∧ n ≤ 9223372036854775807) (hh : hasB s.size a n = false) :
    Calls Try.prog 102 #[.string s, .int .i64 a, .int .i64 n] w fun e w' => e = .returned (.tuple #[.string ⟨#[]⟩, .bool false]) ∧ w = w' := by
  have hh' : ¬ (0 ≤ a ∧ 0 ≤ n ∧ a + n ≤ s.size) := by simpa [hasB] using hh
  clear hh
  by_cases h1 : a < 0
  · clear hh'
    go_enter Try.func102, Try.ntmps102
    go_wp2
    go_ret2
    exact ⟨rfl, rfl⟩
  by_cases h2 : n < 0
  · clear hh'
    go_enter Try.func102, Try.ntmps102
    go_wp2
    go_ret2
    exact ⟨rfl, rfl⟩
  by_cases h3 : a > s.size
  · clear hh'
    go_enter Try.func102, Try.ntmps102
    go_wp2
    go_ret2
    exact ⟨rfl, rfl⟩
  have h4 : n > s.size - a := by omega
  clear hh'
  go_enter Try.func102, Try.ntmps102
  go_wp2
  go_ret2
  exact ⟨rfl, rfl⟩

/-- the number of the first k bytes from a on -/
def numAt (s : ByteArray) (a k : Nat) : Nat := num ((s.data.toList.drop a).take k)
theorem numAt_zero (s : ByteArray) (a : Nat) : numAt s a 0 = 0 := by simp [numAt, num]
theorem numAt_succ (s : ByteArray) (a k : Nat) (h : a + k < s.size) : numAt s a (k + 1) = 256 * numAt s a k + (s[a + k]).toNat := by
  unfold numAt
  have hl : k < (s.data.toList.drop a).length := by simp; have : s.size = s.data.size := rfl; omega
  rw [num_take_succ _ _ hl]
  simp
  rfl

theorem numAt_lt (s : ByteArray) (a k : Nat) : numAt s a k < 256 ^ k := num_lt_of (by simp; omega)
theorem or_byte (x y : Nat) (hx : x < 256 ^ 7) (hy : y < 256) : bits .or .u64 (IntKind.u64.wrap ((x : Int) * 256)) (IntKind.u64.wrap (y : Int)) = ((256 * x + y : Nat) : Int) := by
  have e1 : IntKind.u64.wrap ((x : Int) * 256) = ((256 * x : Nat) : Int) := by rw [IntKind.wrap_u64]; omega
  have e2 : IntKind.u64.wrap (y : Int) = (y : Int) := by rw [IntKind.wrap_u64]; omega
  rw [e1, e2, u64_or_nat _ _ (by omega) (by omega)]
  congr 1
  have h := Nat.two_pow_add_eq_or_of_lt (i := 8) (b := y) (by omega) x
  have e3 : (2 : Nat) ^ 8 = 256 := rfl
  rw [e3] at h
  exact h.symm

set_option maxRecDepth 100000 in
set_option maxHeartbeats 400000 in
theorem get_yes (s : ByteArray) (a m : Nat) (w : World) (hs : s.size ≤ 281474976710656) (h0 : 1 ≤ m) (h8 : m ≤ 8) (h : a + m ≤ s.size) :
    Calls Try.prog 63 #[.string s, .int .i64 a, .int .i64 m] w fun e w' => e = .returned (.tuple #[.int .u64 (numAt s a m), .bool true]) ∧ w = w' := by
  have hh := has_yes s a m h
  have hmay : mayB m = true := by unfold mayB; simp; omega
  go_enter Try.func63, Try.ntmps63
  go_wp2_with (first | (go_at_call 81; refine (has_any _ _ _ _ (by unfold maxLen; omega) (by omega)).mono ?_; rintro e w' ⟨rfl, rfl⟩) | (go_at_call 79; refine (may_any _ _).mono ?_; rintro e w' ⟨rfl, rfl⟩))
  go_loop [8, 21] (fun v i => ∃ k : Nat, k ≤ m ∧ i = .int .i64 k ∧ v = .int .u64 (numAt s a k)) (fun _ i => m - (intOf i).toNat)
  case atStart => exact ⟨0, by omega, rfl, by rw [numAt_zero]; rfl⟩
  case round =>
    obtain ⟨k, hk, rfl, rfl⟩ := hrel
    by_cases hlt : k < m
    · go_wp2
      go_round
      case rel => 
        refine ⟨k + 1, by omega, by go_num, ?_⟩
        have hl := numAt_lt s a k
        have hk7 : (256 : Nat) ^ k ≤ 256 ^ 7 := Nat.pow_le_pow_right (by omega) (by omega)
        have hb := s[a + k].toNat_lt
        rw [or_byte _ _ (by omega) (by omega), numAt_succ s a k (by omega)]
      case measure => simp [intOf]; omega
    · obtain rfl : k = m := by omega
      go_wp2
      go_ret2
      exact ⟨rfl, rfl⟩

set_option maxRecDepth 100000 in
theorem get_no (s : ByteArray) (a n : Int) (w : World) (hs : s.size ≤ 281474976710656) (ha : -9223372036854775808 ≤ a ∧ a ≤ 9223372036854775807) (hh : (mayB n && hasB s.size a n) = false) :
    Calls Try.prog 63 #[.string s, .int .i64 a, .int .i64 n] w fun e w' => e = .returned (.tuple #[.int .u64 0, .bool false]) ∧ w = w' := by
  by_cases hm : mayB n = true
  · have hh2 : hasB s.size a n = false := by simpa [hm] using hh
    clear hh
    go_enter Try.func63, Try.ntmps63
    go_wp2_with (first | (go_at_call 81; refine (has_any _ _ _ _ (by unfold maxLen; omega) (by omega)).mono ?_; rintro e w' ⟨rfl, rfl⟩) | (go_at_call 79; refine (may_any _ _).mono ?_; rintro e w' ⟨rfl, rfl⟩))
    go_ret2
    exact ⟨rfl, rfl⟩
  · have hm2 : mayB n = false := by simpa using hm
    clear hh hm
    go_enter Try.func63, Try.ntmps63
    go_wp2_with (first | (go_at_call 81; refine (has_any _ _ _ _ (by unfold maxLen; omega) (by omega)).mono ?_; rintro e w' ⟨rfl, rfl⟩) | (go_at_call 79; refine (may_any _ _).mono ?_; rintro e w' ⟨rfl, rfl⟩))
    go_ret2
    exact ⟨rfl, rfl⟩

theorem numAt_part (s : ByteArray) (a m k : Nat) (_h : a + m ≤ s.size) (hk : k ≤ m) : numAt (s.extract a (a + m)) 0 k = numAt s a k := by
  unfold numAt
  have e : (s.extract a (a + m)).data.toList = (s.data.toList.drop a).take m := by
    rw [ByteArray.data_extract, Array.toList_extract, List.extract_eq_take_drop]
    congr 1
    omega
  rw [e, List.drop_zero, List.take_take, Nat.min_eq_left hk]

theorem add_byte (x y : Nat) (hx : x < 256 ^ 7) (hy : y < 256) : IntKind.u64.wrap (IntKind.u64.wrap (256 * (x : Int)) + IntKind.u64.wrap (y : Int)) = ((256 * x + y : Nat) : Int) := by
  simp only [IntKind.wrap_u64]; omega
set_option maxRecDepth 100000 in
set_option maxHeartbeats 400000 in
theorem rget_yes (s : ByteArray) (a m : Nat) (w : World) (hs : s.size ≤ 281474976710656) (h0 : 1 ≤ m) (h8 : m ≤ 8) (h : a + m ≤ s.size) :
    Calls Try.prog 73 #[.string s, .int .i64 a, .int .i64 m] w fun e w' => e = .returned (.tuple #[.int .u64 (numAt s a m), .bool true]) ∧ w = w' := by
  have hnp := numAt_part s a m
  have hcut := fun w => rcut_yes s a m w hs h
  have hsz : m ≤ (s.extract a (a + m)).size := by rw [ByteArray.size_extract]; omega
  have hsz2 : (s.extract a (a + m)).size ≤ 281474976710656 := by rw [ByteArray.size_extract]; omega
  generalize s.extract a (a + m) = t at *
  have C := Lib.hid hcut
  have N := Lib.hid hnp
  clear hcut hnp
  go_enter Try.func73, Try.ntmps73
  go_wp2_with (first | (go_at_call 102; refine (C.out _).mono ?_; rintro e w' ⟨rfl, rfl⟩))
  go_loop [10, 11] (fun v i => ∃ k : Nat, k ≤ m ∧ i = .int .i64 k ∧ v = .int .u64 (numAt t 0 k)) (fun _ i => m - (intOf i).toNat)
  case atStart => exact ⟨0, by omega, rfl, by rw [numAt_zero]; rfl⟩
  case round =>
    obtain ⟨k, hk, rfl, rfl⟩ := hrel
    by_cases hlt : k < m
    · have hkt : k < t.size := by omega
      go_wp2
      go_round
      case rel =>
        refine ⟨k + 1, by omega, by go_num, ?_⟩
        have hl := numAt_lt t 0 k
        have hk7 : (256 : Nat) ^ k ≤ 256 ^ 7 := Nat.pow_le_pow_right (by omega) (by omega)
        have hb := t[k].toNat_lt
        rw [numAt_succ t 0 k (by omega)]
        simp only [Nat.zero_add]
        rw [add_byte _ _ (by omega) (by omega)]
      case measure => simp [intOf]; omega
    · obtain rfl : k = m := by omega
      have e := N.out k h (by omega)
      have H := Lib.hid e
      clear e
      go_wp2
      go_ret2
      exact ⟨by rw [H.out]; rfl, rfl⟩

set_option maxRecDepth 100000 in
theorem rget_no (s : ByteArray) (a n : Int) (w : World) (hs : s.size ≤ 281474976710656) (ha : -9223372036854775808 ≤ a ∧ a ≤ 9223372036854775807) (hn : -9223372036854775808 ≤ n ∧ n ≤ 9223372036854775807) (hh : (mayB n && hasB s.size a n) = false) :
    Calls Try.prog 73 #[.string s, .int .i64 a, .int .i64 n] w fun e w' => e = .returned (.tuple #[.int .u64 0, .bool false]) ∧ w = w' := by
  by_cases hb : hasB s.size a n = true
  · have hm2 : mayB n = false := by simpa [hb] using hh
    have hm3 : n < 1 ∨ 8 < n := by simp [mayB] at hm2; omega
    have hb2 : 0 ≤ a ∧ 0 ≤ n ∧ a + n ≤ s.size := by simpa [hasB] using hb
    clear hh hb hm2
    obtain ⟨a, rfl⟩ : ∃ a' : Nat, a = a' := ⟨a.toNat, by omega⟩
    obtain ⟨m, rfl⟩ : ∃ a' : Nat, n = a' := ⟨n.toNat, by omega⟩
    have hcut := fun w => rcut_yes s a m w hs (by omega)
    have C := Lib.hid hcut
    clear hcut
    rcases hm3 with h1 | h1
    · go_enter Try.func73, Try.ntmps73
      go_wp2_with (first | (go_at_call 102; refine (C.out _).mono ?_; rintro e w' ⟨rfl, rfl⟩))
      go_ret2
      exact ⟨rfl, rfl⟩
    · go_enter Try.func73, Try.ntmps73
      go_wp2_with (first | (go_at_call 102; refine (C.out _).mono ?_; rintro e w' ⟨rfl, rfl⟩))
      go_ret2
      exact ⟨rfl, rfl⟩
  · have hb2 : hasB s.size a n = false := by simpa using hb
    clear hh hb
    go_enter Try.func73, Try.ntmps73
    go_wp2_with (first | (go_at_call 102; refine (rcut_no _ _ _ _ hs ha hn hb2).mono ?_; rintro e w' ⟨rfl, rfl⟩))
    go_ret2
    exact ⟨rfl, rfl⟩

def getB (s : ByteArray) (a n : Int) : Bool := mayB n && hasB s.size a n
def getN (s : ByteArray) (a n : Int) : Int := if getB s a n then numAt s a.toNat n.toNat else 0
theorem get_any (s : ByteArray) (a n : Int) (w : World) (hs : s.size ≤ 281474976710656) (ha : -9223372036854775808 ≤ a ∧ a ≤ 9223372036854775807) :
    Calls Try.prog 63 #[.string s, .int .i64 a, .int .i64 n] w fun e w' => e = .returned (.tuple #[.int .u64 (getN s a n), .bool (getB s a n)]) ∧ w = w' := by
  by_cases h : getB s a n = true
  · have h' : mayB n = true ∧ hasB s.size a n = true := by simpa [getB] using h
    have h1 : 1 ≤ n ∧ n ≤ 8 := by simpa [mayB] using h'.1
    have h2 : 0 ≤ a ∧ 0 ≤ n ∧ a + n ≤ s.size := by simpa [hasB] using h'.2
    obtain ⟨a, rfl⟩ : ∃ a' : Nat, a = a' := ⟨a.toNat, by omega⟩
    obtain ⟨m, rfl⟩ : ∃ a' : Nat, n = a' := ⟨n.toNat, by omega⟩
    have e : getN s a m = numAt s a m := by unfold getN; rw [h]; simp
    rw [h, e]
    exact get_yes s a m w hs (by omega) (by omega) (by omega)
  · have h' : getB s a n = false := by simpa using h
    have e : getN s a n = 0 := by unfold getN; rw [h']; simp
    rw [h', e]
    exact get_no s a n w hs ha h'

theorem rget_any (s : ByteArray) (a n : Int) (w : World) (hs : s.size ≤ 281474976710656) (ha : -9223372036854775808 ≤ a ∧ a ≤ 9223372036854775807) (hn : -9223372036854775808 ≤ n ∧ n ≤ 9223372036854775807) :
    Calls Try.prog 73 #[.string s, .int .i64 a, .int .i64 n] w fun e w' => e = .returned (.tuple #[.int .u64 (getN s a n), .bool (getB s a n)]) ∧ w = w' := by
  by_cases h : getB s a n = true
  · have h' : mayB n = true ∧ hasB s.size a n = true := by simpa [getB] using h
    have h1 : 1 ≤ n ∧ n ≤ 8 := by simpa [mayB] using h'.1
    have h2 : 0 ≤ a ∧ 0 ≤ n ∧ a + n ≤ s.size := by simpa [hasB] using h'.2
    obtain ⟨a, rfl⟩ : ∃ a' : Nat, a = a' := ⟨a.toNat, by omega⟩
    obtain ⟨m, rfl⟩ : ∃ a' : Nat, n = a' := ⟨n.toNat, by omega⟩
    have e : getN s a m = numAt s a m := by unfold getN; rw [h]; simp
    rw [h, e]
    exact rget_yes s a m w hs (by omega) (by omega) (by omega)
  · have h' : getB s a n = false := by simpa using h
    have e : getN s a n = 0 := by unfold getN; rw [h']; simp
    rw [h', e]
    exact rget_no s a n w hs ha hn h'

end Go.Proofs.Ytfcibccipkokoaa
