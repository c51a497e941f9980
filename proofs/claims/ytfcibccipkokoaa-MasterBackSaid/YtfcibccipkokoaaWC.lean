/- Walks: the reference's Put. -/
import Derived.Test.YtfcibccipkokoaaWB
import Derived.Laws.MakeOwn
namespace Go.Proofs.Ytfcibccipkokoaa
open Go.RowKit

def cellsTo (n : Int) (m k : Nat) (cs : Array Value) : Prop := cs.size = m ∧ ∀ j, j < m → cs[j]? = some (.int .u8 (if m - k ≤ j then n / 2 ^ (8 * (m - 1 - j)) % 256 else 0))

theorem rput_back (n : Int) (hn : 0 ≤ n) (m : Nat) (w : World) (cs : Array Value) (hcs : cellsTo n m m cs) :
    (convert 41 9 (.slice (some ⟨w.heap.size, 0, none⟩) m m)).run Try.prog (w.alloc (.cells cs 5)) = .ok (.string (bytesOf m n)) (w.alloc (.cells cs 5)) := by
  have hl := be_length m n.toNat
  have h := run_convert_bytes_back (P := Try.prog) (w.alloc (.cells cs 5)) 41 9 5 ⟨w.heap.size, 0, none⟩ m (be m n.toNat) Try.underlying41 Try.underlying5 Try.underlying9 (by
    intro j hj
    have hj' : j < m := by omega
    have e : (⟨w.heap.size, 0, none⟩ : Addr).add j = ⟨w.heap.size, j, none⟩ := by simp [Addr.add]; omega
    rw [e, World.cell?_alloc_mark, hcs.2 _ (by omega), if_pos (by omega), be_int m n hn j hj])
  rw [hl] at h
  exact h

theorem div_step (n : Int) (k : Nat) : n / 2 ^ (8 * k) / 256 = n / 2 ^ (8 * (k + 1)) := by
  have e : (2 : Int) ^ (8 * (k + 1)) = 2 ^ (8 * k) * 256 := by rw [Nat.mul_add, Int.pow_add]; rfl
  have hp : (0 : Int) ≤ 2 ^ (8 * k) := by exact Int.le_of_lt (Int.pow_pos (by omega))
  rw [e, Int.ediv_ediv_of_nonneg hp]

theorem div_pos (n : Int) (hn : 0 ≤ n) (k : Nat) : 0 ≤ n / 2 ^ (8 * k) := Int.ediv_nonneg hn (Int.le_of_lt (Int.pow_pos (by omega)))

theorem zero_cells (n : Int) (m : Nat) : cellsTo n m 0 (madeCells (Value.int .u8 0).cells m) := by
  refine ⟨size_madeCells _ _, ?_⟩
  intro j hj
  rw [if_neg (by omega)]
  unfold madeCells
  simp [Value.cells, hj, Nat.mod_one]

theorem cellsTo_step {n : Int} {m k : Nat} {cs : Array Value} (h : cellsTo n m k cs) (hk : k < m) : cellsTo n m (k + 1) (cs.setIfInBounds (m - 1 - k) (.int .u8 (n / 2 ^ (8 * k) % 256))) := by
  refine ⟨by simp [h.1], ?_⟩
  intro j hj
  rw [Array.getElem?_setIfInBounds]
  by_cases hj2 : m - 1 - k = j
  · subst hj2
    have e : m - 1 - (m - 1 - k) = k := by omega
    rw [if_pos rfl, if_pos (by rw [h.1]; omega), if_pos (by omega), e]
  · rw [if_neg hj2, h.2 j hj]
    by_cases hj3 : m - k ≤ j
    · rw [if_pos hj3, if_pos (by omega)]
    · rw [if_neg hj3, if_neg (by omega)]

def U64 (n : Int) : Prop := 0 ≤ n ∧ n ≤ 18446744073709551615
theorem u64_quo {n : Int} (hn : U64 n) (k : Nat) : IntKind.u64.wrap ((n / 2 ^ (8 * k)).tdiv 256) = n / 2 ^ (8 * (k + 1)) := by
  have h1 := div_pos n hn.1 k
  have h2 : n / 2 ^ (8 * k) ≤ n := Int.ediv_le_self _ hn.1
  have h3 := hn.2
  rw [Int.tdiv_eq_ediv_of_nonneg h1, ← div_step, IntKind.wrap_u64]
  omega

theorem Word.infoB : (Try.prog.info? 5).map (fun i => (i.zero, i.size, i.bytes)) = some (some (.int .u8 0), 1, 1) := by kernel_rfl

set_option maxRecDepth 100000 in
set_option maxHeartbeats 400000 in
theorem rput_yes (n : Int) (m : Nat) (w : World) (h0 : 1 ≤ m) (h8 : m ≤ 8) (hu : U64 n) (hn : (n / 2 ^ (8 * m) != 0) = false) :
    Calls Try.prog 71 #[.int .u64 n, .int .i64 m] w fun e w' => e = .returned (.tuple #[.string (bytesOf m n), .bool true]) ∧ Below w.heap.size w w' := by
  have hn0 : 0 ≤ n := hu.1
  obtain ⟨i0, hi, hz0, hz1, hz2⟩ := info_parts Word.infoB
  obtain ⟨M, hM⟩ : ∃ M, M = madeCells (Value.int .u8 0).cells m := ⟨_, rfl⟩
  have hmk : ∀ W : World, (Instr.makeSlice 41 (.int .i64 (m : Int)) (.int .i64 (m : Int))).run Try.prog W = .ok (.slice (some ⟨W.heap.size, 0, none⟩) m m) (W.alloc (.cells M 5)) := fun W => by
    have h := run_make (P := Try.prog) W 41 5 i0 (.int .u8 0) Try.underlying41 hi hz0 .i64 .i64 (m : Int) (m : Int) (by omega) (by omega) (by rw [hz2]; omega) (by omega)
    simpa [hz1, ← hM] using h
  have hM0 : cellsTo n m 0 M := by rw [hM]; exact zero_cells n m
  clear hM hz0 hz1 hz2 hi
  go_enter Try.func71, Try.ntmps71
  go_wp2
  go_loopw [0, 7] (fun v i wr => ∃ (k : Nat) (cs : Array Value), k ≤ m ∧ v = .int .u64 (n / 2 ^ (8 * k)) ∧ i = .int .i64 ((m : Int) - 1 - k) ∧ wr = w.alloc (.cells cs 5) ∧ cellsTo n m k cs) (fun _ i _ => (intOf i + 1).toNat)
  case atStart => exact ⟨0, M, by omega, by simp, by simp, rfl, hM0⟩
  case round =>
    obtain ⟨k, cs, hk, rfl, rfl, rfl, hcs⟩ := hrel
    have hp := div_pos n hn0 k
    by_cases hlt : k < m
    · have hc := hcs.2 (m - 1 - k) (by omega)
      rw [if_neg (by omega)] at hc
      go_wp2
      go_roundw
      case rel => 
        refine ⟨k + 1, _, by omega, ?_, ?_, rfl, ?_⟩
        · rw [u64_quo hu]
        · congr 1; omega
        · exact cellsTo_step hcs hlt
      case measure => simp [intOf]; omega
    · obtain rfl : k = m := by omega
      have hb := rput_back n hn0 k w cs hcs
      go_wp2
      go_ret2
      exact ⟨rfl, (Below.refl _ _).alloc (Nat.le_refl _) _⟩

set_option maxRecDepth 100000 in
set_option maxHeartbeats 400000 in
theorem rput_no_room (n : Int) (m : Nat) (w : World) (h0 : 1 ≤ m) (h8 : m ≤ 8) (hu : U64 n) (hn : (n / 2 ^ (8 * m) != 0) = true) :
    Calls Try.prog 71 #[.int .u64 n, .int .i64 m] w fun e w' => e = .returned (.tuple #[.string ⟨#[]⟩, .bool false]) ∧ Below w.heap.size w w' := by
  have hn0 : 0 ≤ n := hu.1
  obtain ⟨i0, hi, hz0, hz1, hz2⟩ := info_parts Word.infoB
  obtain ⟨M, hM⟩ : ∃ M, M = madeCells (Value.int .u8 0).cells m := ⟨_, rfl⟩
  have hmk : ∀ W : World, (Instr.makeSlice 41 (.int .i64 (m : Int)) (.int .i64 (m : Int))).run Try.prog W = .ok (.slice (some ⟨W.heap.size, 0, none⟩) m m) (W.alloc (.cells M 5)) := fun W => by
    have h := run_make (P := Try.prog) W 41 5 i0 (.int .u8 0) Try.underlying41 hi hz0 .i64 .i64 (m : Int) (m : Int) (by omega) (by omega) (by rw [hz2]; omega) (by omega)
    simpa [hz1, ← hM] using h
  have hM0 : cellsTo n m 0 M := by rw [hM]; exact zero_cells n m
  clear hM hz0 hz1 hz2 hi
  go_enter Try.func71, Try.ntmps71
  go_wp2
  go_loopw [0, 7] (fun v i wr => ∃ (k : Nat) (cs : Array Value), k ≤ m ∧ v = .int .u64 (n / 2 ^ (8 * k)) ∧ i = .int .i64 ((m : Int) - 1 - k) ∧ wr = w.alloc (.cells cs 5) ∧ cellsTo n m k cs) (fun _ i _ => (intOf i + 1).toNat)
  case atStart => exact ⟨0, M, by omega, by simp, by simp, rfl, hM0⟩
  case round =>
    obtain ⟨k, cs, hk, rfl, rfl, rfl, hcs⟩ := hrel
    have hp := div_pos n hn0 k
    by_cases hlt : k < m
    · have hc := hcs.2 (m - 1 - k) (by omega)
      rw [if_neg (by omega)] at hc
      go_wp2
      go_roundw
      case rel => 
        refine ⟨k + 1, _, by omega, ?_, ?_, rfl, ?_⟩
        · rw [u64_quo hu]
        · congr 1; omega
        · exact cellsTo_step hcs hlt
      case measure => simp [intOf]; omega
    · obtain rfl : k = m := by omega
      go_wp2
      go_ret2
      exact ⟨rfl, (Below.refl _ _).alloc (Nat.le_refl _) _⟩

set_option maxRecDepth 100000 in
theorem rput_no_size (n size : Int) (w : World) (h0 : size < 1 ∨ 8 < size) :
    Calls Try.prog 71 #[.int .u64 n, .int .i64 size] w fun e w' => e = .returned (.tuple #[.string ⟨#[]⟩, .bool false]) ∧ w = w' := by
  rcases h0 with h0 | h0
  · go_enter Try.func71, Try.ntmps71
    go_wp2
    go_ret2
    exact ⟨rfl, rfl⟩
  · go_enter Try.func71, Try.ntmps71
    go_wp2
    go_ret2
    exact ⟨rfl, rfl⟩

def putB (n size : Int) : Bool := decide (1 ≤ size ∧ size ≤ 8 ∧ n / 2 ^ (8 * size.toNat) = 0)
def putS (n size : Int) : ByteArray := if putB n size then bytesOf size.toNat n else ⟨#[]⟩

theorem put_any (n size : Int) (w : World) (hu : U64 n) :
    Calls Try.prog 59 #[.int .u64 n, .int .i64 size] w fun e w' => e = .returned (.tuple #[.string (putS n size), .bool (putB n size)]) ∧ Below w.heap.size w w' := by
  by_cases hs : 1 ≤ size ∧ size ≤ 8
  · obtain ⟨m, rfl⟩ : ∃ m : Nat, size = m := ⟨size.toNat, by omega⟩
    by_cases hr : n / 2 ^ (8 * m) = 0
    · have hb : putB n m = true := by unfold putB; simpa [hr] using hs
      have hp : putS n m = bytesOf m n := by unfold putS; rw [hb]; simp
      rw [hb, hp]
      exact put_yes n m w (by omega) (by omega) hu.1 (by simpa using hr)
    · have hb : putB n m = false := by unfold putB; simp [hr]
      have hp : putS n m = ⟨#[]⟩ := by unfold putS; rw [hb]; simp
      rw [hb, hp]
      exact (put_no_room n m w (by omega) (by omega) (by simpa using hr)).mono fun _ _ ⟨a, b⟩ => ⟨a, b ▸ Below.refl _ _⟩
  · have hb : putB n size = false := by unfold putB; simp; omega
    have hp : putS n size = ⟨#[]⟩ := by unfold putS; rw [hb]; simp
    rw [hb, hp]
    exact (put_no_size n size w (by omega)).mono fun _ _ ⟨a, b⟩ => ⟨a, b ▸ Below.refl _ _⟩

theorem rput_any (n size : Int) (w : World) (hu : U64 n) :
    Calls Try.prog 71 #[.int .u64 n, .int .i64 size] w fun e w' => e = .returned (.tuple #[.string (putS n size), .bool (putB n size)]) ∧ Below w.heap.size w w' := by
  by_cases hs : 1 ≤ size ∧ size ≤ 8
  · obtain ⟨m, rfl⟩ : ∃ m : Nat, size = m := ⟨size.toNat, by omega⟩
    by_cases hr : n / 2 ^ (8 * m) = 0
    · have hb : putB n m = true := by unfold putB; simpa [hr] using hs
      have hp : putS n m = bytesOf m n := by unfold putS; rw [hb]; simp
      rw [hb, hp]
      exact rput_yes n m w (by omega) (by omega) hu (by simpa using hr)
    · have hb : putB n m = false := by unfold putB; simp [hr]
      have hp : putS n m = ⟨#[]⟩ := by unfold putS; rw [hb]; simp
      rw [hb, hp]
      exact rput_no_room n m w (by omega) (by omega) hu (by simpa using hr)
  · have hb : putB n size = false := by unfold putB; simp; omega
    have hp : putS n size = ⟨#[]⟩ := by unfold putS; rw [hb]; simp
    rw [hb, hp]
    exact (rput_no_size n size w (by omega)).mono fun _ _ ⟨a, b⟩ => ⟨a, b ▸ Below.refl _ _⟩

end Go.Proofs.Ytfcibccipkokoaa
