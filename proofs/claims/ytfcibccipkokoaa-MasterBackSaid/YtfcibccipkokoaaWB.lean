/- Walks: Put. -/
import Derived.Test.YtfcibccipkokoaaWM
import Derived.Test.YtfcibccipkokoaaWA
import Derived.Laws.IdiomStrings
namespace Go.Proofs.Ytfcibccipkokoaa
open Go.RowKit

def cellsAt (n : Int) (k : Nat) (cs : Array Value) : Prop := cs.size = 8 ∧ ∀ j, j < 8 → cs[j]? = some (.int .u8 (if 8 - k ≤ j then n / 2 ^ (8 * (7 - j)) % 256 else 0))

def bytesOf (m : Nat) (n : Int) : ByteArray := ⟨(be m n.toNat).toArray⟩

theorem be_int (m : Nat) (n : Int) (hn : 0 ≤ n) (j : Nat) (h : j < (be m n.toNat).length) : ((be m n.toNat)[j].toNat : Int) = n / 2 ^ (8 * (m - 1 - j)) % 256 := by
  rw [be_get]
  have e : n = (n.toNat : Int) := by omega
  conv => rhs; rw [e]
  simp

theorem put_back (n : Int) (hn : 0 ≤ n) (m : Nat) (h8 : m ≤ 8) (w : World) (cs : Array Value) (hcs : cellsAt n 8 cs) :
    (convert 41 9 (.slice (some ⟨w.heap.size, 8 - m, none⟩) m m)).run Try.prog (w.alloc (.cells cs 135)) = .ok (.string (bytesOf m n)) (w.alloc (.cells cs 135)) := by
  have hl := be_length m n.toNat
  have h := run_convert_bytes_back (P := Try.prog) (w.alloc (.cells cs 135)) 41 9 5 ⟨w.heap.size, 8 - m, none⟩ m (be m n.toNat) Try.underlying41 Try.underlying5 Try.underlying9 (by
    intro j hj
    have hj' : j < m := by omega
    have e : (⟨w.heap.size, 8 - m, none⟩ : Addr).add j = ⟨w.heap.size, 8 - m + j, none⟩ := by simp [Addr.add]
    rw [e, World.cell?_alloc_mark, hcs.2 _ (by omega), if_pos (by omega), be_int m n hn j hj]
    have e2 : 7 - (8 - m + j) = m - 1 - j := by omega
    rw [e2])
  rw [hl] at h
  exact h

theorem put_cut (m : Nat) (h0 : 1 ≤ m) (h8 : m ≤ 8) (g : Nat) (w : World) :
    (Instr.sliceAt 135 (.pointer (some ⟨g, 0, none⟩)) (some (.int .i64 (8 - (m : Int)))) none none).run Try.prog w = .ok (.slice (some ⟨g, 8 - m, none⟩) m m) w := by
  have ha : Try.prog.arrayLen 135 = 8 := by kernel_rfl
  have hz : ∀ w, (sizeOf (Try.prog.elem 135)).run Try.prog w = .ok 1 w := fun w => by kernel_rfl
  rw [run_sliceAt_array_l w 135 ⟨g, 0, none⟩ (by kernel_rfl) .i64 (8 - (m : Int)) (by omega) (by rw [ha]; omega), hz, ha]
  have e1 : (8 - (m : Int)).toNat = 8 - m := by omega
  have e2 : ¬ (8 = 8 - m) := by omega
  have e3 : 8 - (8 - m) = m := by omega
  simp [slicedAt, Result.andThen, e1, e2, e3, Addr.add]
  omega

set_option maxRecDepth 100000 in
set_option maxHeartbeats 400000 in
theorem put_yes (n : Int) (m : Nat) (w : World) (h0 : 1 ≤ m) (h8 : m ≤ 8) (hn0 : 0 ≤ n) (hn : (n / 2 ^ (8 * m) != 0) = false) :
    Calls Try.prog 59 #[.int .u64 n, .int .i64 m] w fun e w' => e = .returned (.tuple #[.string (bytesOf m n), .bool true]) ∧ Below w.heap.size w w' := by
  have hmay : mayB m = true := by unfold mayB; simp; omega
  go_enter Try.func59, Try.ntmps59
  go_wp2_with (go_at_call 79; refine (may_any _ _).mono ?_; rintro e w' ⟨rfl, rfl⟩)
  go_loopw [18] (fun i wr => ∃ (k : Nat) (cs : Array Value), k ≤ 8 ∧ i = .int .i64 k ∧ wr = w.alloc (.cells cs 135) ∧ cellsAt n k cs) (fun i _ => 8 - (intOf i).toNat)
  case atStart => 
    refine ⟨0, _, by omega, rfl, rfl, rfl, ?_⟩
    intro j hj
    rw [if_neg (by omega)]
    (match j, hj with | 0, _ | 1, _ | 2, _ | 3, _ | 4, _ | 5, _ | 6, _ | 7, _ => rfl)
  case round =>
    obtain ⟨k, cs, hk, rfl, rfl, hcs⟩ := hrel
    by_cases hlt : k < 8
    · have hc := hcs.2 (7 - k) (by omega)
      rw [if_neg (by omega)] at hc
      go_wp2
      go_roundw
      case rel =>
        refine ⟨k + 1, _, by omega, by go_num, rfl, by simp [hcs.1], ?_⟩
        intro j hj
        rw [Array.getElem?_setIfInBounds]
        by_cases hj2 : 7 - k = j
        · subst hj2
          have e : 7 - (7 - k) = k := by omega
          rw [if_pos rfl, if_pos (by rw [hcs.1]; omega), if_pos (by omega), e]
        · rw [if_neg hj2, hcs.2 j hj]
          by_cases hj3 : 8 - k ≤ j
          · rw [if_pos hj3, if_pos (by omega)]
          · rw [if_neg hj3, if_neg (by omega)]
      case measure => simp [intOf]; omega
    · obtain rfl : k = 8 := by omega
      have hb := put_back n hn0 m h8 w cs hcs
      have hsl := put_cut m h0 h8 w.heap.size
      go_wp2
      go_ret2
      exact ⟨rfl, (Below.refl _ _).alloc (Nat.le_refl _) _⟩

set_option maxRecDepth 100000 in
theorem put_no_size (n size : Int) (w : World) (h0 : size < 1 ∨ 8 < size) :
    Calls Try.prog 59 #[.int .u64 n, .int .i64 size] w fun e w' => e = .returned (.tuple #[.string ⟨#[]⟩, .bool false]) ∧ w = w' := by
  have hmay : mayB size = false := by unfold mayB; simp; omega
  go_enter Try.func59, Try.ntmps59
  go_wp2_with (go_at_call 79; refine (may_any _ _).mono ?_; rintro e w' ⟨rfl, rfl⟩)
  go_ret2
  exact ⟨rfl, rfl⟩

set_option maxRecDepth 100000 in
theorem put_no_room (n : Int) (m : Nat) (w : World) (h0 : 1 ≤ m) (h8 : m ≤ 8) (hn : (n / 2 ^ (8 * m) != 0) = true) :
    Calls Try.prog 59 #[.int .u64 n, .int .i64 m] w fun e w' => e = .returned (.tuple #[.string ⟨#[]⟩, .bool false]) ∧ w = w' := by
  have hmay : mayB m = true := by unfold mayB; simp; omega
  go_enter Try.func59, Try.ntmps59
  go_wp2_with (go_at_call 79; refine (may_any _ _).mono ?_; rintro e w' ⟨rfl, rfl⟩)
  go_ret2
  exact ⟨rfl, rfl⟩

end Go.Proofs.Ytfcibccipkokoaa
