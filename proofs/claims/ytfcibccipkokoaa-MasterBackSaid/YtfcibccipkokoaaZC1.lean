/- Walks: masters in boxes; which may be, in which turn. -/
import Derived.Test.YtfcibccipkokoaaZM
import Derived.WalkKit
import Derived.WalkSpells
import Derived.WalkLawsBesides
import Derived.Lib.Hide
import Derived.Laws.Rows
import Derived.BigQuiet
import Derived.Deep.QuietTactic
import Derived.Deep.DrawnRows
namespace Go.Proofs.Ytfcibccipkokoaa.Mas
open Go.RowKit
attribute [local go_sem ↓] Go.wp_at_zero Go.wp_at_succ

theorem below_new (w : World) (o : Obj) : Below w.heap.size w (w.alloc o) := (Below.refl _ _).alloc (Nat.le_refl _) o
def msC (m : Ms) : Array Value := #[.int .u64 (m.count : Int), .int .u64 (m.life : Int), .int .u64 (m.check : Int), .int .u64 (m.first : Int), .bool m.clean]
def msV (m : Ms) : Value := .agg (msC m)
/-- a box g, made since w0, that has the master m -/
structure Mb (w0 w : World) (g : Nat) (m : Ms) : Prop where
  box : w.heap[g]? = some (.cells (msC m) 40 (0, 0))
  own : w0.heap.size ≤ g
  below : Below w0.heap.size w0 w
section
variable {w0 w w' : World} {g : Nat} {m : Ms}
theorem Mb.lt (h : Mb w0 w g m) : g < w.heap.size := (Array.getElem?_eq_some_iff.1 h.box).1
theorem Mb.later (h : Mb w0 w g m) (b : Below w.heap.size w w') : Mb w0 w' g m :=
  ⟨(b.block _ h.lt).trans h.box, h.own, h.below.trans (b.mono h.below.size)⟩
theorem Mb.drew (h : Mb w0 w g m) : Mb w0 w.drew g m := h.later ((Below.refl _ _).drew)
theorem Mb.five (h : Mb w0 w g m) : w.cell? ⟨g, 0, none⟩ = some (.int .u64 (m.count : Int)) ∧ w.cell? ⟨g, 1, none⟩ = some (.int .u64 (m.life : Int)) ∧ w.cell? ⟨g, 2, none⟩ = some (.int .u64 (m.check : Int)) ∧ w.cell? ⟨g, 3, none⟩ = some (.int .u64 (m.first : Int)) ∧ w.cell? ⟨g, 4, none⟩ = some (.bool m.clean) := by
  refine ⟨?_, ?_, ?_, ?_, ?_⟩ <;> (rw [cell_of_row _ _ _ _ _ _ h.box]; rfl)
theorem Mb.free (h : Mb w0 w g m) (j : Nat) : w.frozen? ⟨g, j, none⟩ = false := frozen_of_row _ _ _ _ _ h.box
theorem Mb.new {w0 w : World} (m : Ms) (b : Below w0.heap.size w0 w) : Mb w0 (w.alloc (.cells (msC m) 40)) w.heap.size m :=
  ⟨heap_alloc_new _ _, b.size, b.alloc b.size _⟩
end
theorem ret_bool {a b : Bool} (h : a = b) : Ending.returned (.bool a) = .returned (.bool b) := by rw [h]
theorem ret_int {k : IntKind} {a b : Int} (h : a = b) : Ending.returned (.int k a) = .returned (.int k b) := by rw [h]

set_option maxRecDepth 100000 in
set_option maxHeartbeats 1000000 in
theorem may_any (m : Ms) (w : World) :
    Calls Try.prog 37 #[msV m] w fun e w' => e = .returned (.bool (okM m)) ∧ Below w.heap.size w w' := by
  have e : okM m = (decide (0 < m.count) && (decide (0 < m.life) && (decide (0 < m.first) && (decide (m.check = 0) || decide (m.first ≤ m.check))))) := rfl
  have B := Lib.hid (below_new w (.cells (msC m) 40))
  obtain ⟨c, l, k, f, b⟩ := m
  unfold msV msC at *
  simp only at *
  generalize okM _ = r at *
  have E := Lib.hid e
  clear e
  go_enter Try.func37, Try.ntmps37
  go_wp2_with fail
  all_goals
    go_ret
    exact ⟨ret_bool (by rw [E.out, Bool.eq_iff_iff]; simp only [Bool.and_eq_true, Bool.or_eq_true, decide_eq_true_eq, Bool.false_eq_true, false_iff, true_iff, beq_iff_eq]; omega), below_new _ _⟩

set_option maxRecDepth 100000 in
set_option maxHeartbeats 1000000 in
theorem rmay_any (m : Ms) (w : World) :
    Calls Try.prog 39 #[msV m] w fun e w' => e = .returned (.bool (okM m)) ∧ Below w.heap.size w w' := by
  have e : okM m = (decide (0 < m.count) && (decide (0 < m.life) && (decide (0 < m.first) && (decide (m.check = 0) || decide (m.first ≤ m.check))))) := rfl
  have B := Lib.hid (below_new w (.cells (msC m) 40))
  obtain ⟨c, l, k, f, b⟩ := m
  unfold msV msC at *
  simp only at *
  generalize okM _ = r at *
  have E := Lib.hid e
  clear e
  go_enter Try.func39, Try.ntmps39
  go_wp2_with fail
  all_goals
    go_ret
    exact ⟨ret_bool (by rw [E.out, Bool.eq_iff_iff]; simp only [Bool.and_eq_true, Bool.or_eq_true, decide_eq_true_eq, Bool.false_eq_true, false_iff, true_iff, beq_iff_eq]; omega), below_new _ _⟩

set_option maxRecDepth 100000 in
theorem flag_any (b : Bool) (w : World) :
    Calls Try.prog 68 #[.bool b] w fun e w' => e = .returned (.int .u8 ((flag b).toNat : Int)) ∧ w = w' := by
  cases b <;> (go_enter Try.func68, Try.ntmps68; go_wp2_with fail; go_ret; exact ⟨rfl, rfl⟩)

set_option maxRecDepth 100000 in
theorem turn_any (m : Ms) (w : World) (_h : m.wf) :
    Calls Try.prog 48 #[msV m] w fun e w' => e = .returned (.int .i64 ((m.count % 2 : Nat) : Int)) ∧ Below w.heap.size w w' := by
  have B := Lib.hid (below_new w (.cells (msC m) 40))
  obtain ⟨c, l, k, f, b⟩ := m
  unfold msV msC at *
  simp only at *
  have e : IntKind.i64.wrap ((c : Int).tmod 2) = ((c % 2 : Nat) : Int) := by
    rw [Int.tmod_eq_emod_of_nonneg (by omega), show (c : Int) % 2 = ((c % 2 : Nat) : Int) from by omega]
    exact IntWalk.i64_in _ (by omega)
  go_enter Try.func48, Try.ntmps48
  go_wp2_with fail
  go_ret
  exact ⟨ret_int (by omega), B.out⟩

set_option maxRecDepth 100000 in
theorem rget_at (s : ByteArray) (a : Nat) (w : World) (hs : s.size ≤ 281474976710656) (ha : a ≤ 1000) :
    Calls Try.prog 43 #[.string s, .int .i64 (a : Int)] w fun e w' => e = .returned (.int .u64 (numA s a : Int)) ∧ w = w' := by
  have C := Lib.hid (rget_any s a 8 w hs (by omega) (by omega))
  have e : getN s a 8 = (numA s a : Int) := by
    unfold getN getB numA mayB hasB
    by_cases h : a + 8 ≤ s.size
    · rw [if_pos h, if_pos (by simp; omega)]; rfl
    · rw [if_neg h, if_neg (by simp; omega)]; rfl
  have E := Lib.hid e
  clear e
  go_enter Try.func43, Try.ntmps43
  go_wp2_with fail
  refine C.out.mono ?_
  rintro e w' ⟨rfl, rfl⟩
  go_wp2_with fail
  go_ret
  exact ⟨ret_int E.out, rfl⟩

set_option maxRecDepth 100000 in
theorem get_at (s : ByteArray) (a : Nat) (w : World) (hs : s.size ≤ 281474976710656) (ha : a ≤ 1000) :
    Calls Try.prog 63 #[.string s, .int .i64 (a : Int), .int .i64 8] w fun e w' => e = .returned (.tuple #[.int .u64 (numA s a : Int), .bool (getB s a 8)]) ∧ w = w' := by
  have e : getN s a 8 = (numA s a : Int) := by
    unfold getN getB numA mayB hasB
    by_cases h : a + 8 ≤ s.size
    · rw [if_pos h, if_pos (by simp; omega)]; rfl
    · rw [if_neg h, if_neg (by simp; omega)]; rfl
  rw [← e]
  exact get_any s a 8 w hs (by omega)

theorem num_ok8 {n : Nat} (hn : n < 18446744073709551616) : U64 (n : Int) ∧ (((n : Int) / 2 ^ (8 * 8)) != 0) = false := by
  refine ⟨⟨by omega, by omega⟩, ?_⟩
  rw [show (2 : Int) ^ (8 * 8) = 18446744073709551616 from rfl, Int.ediv_eq_zero_of_lt (by omega) (by omega)]
  rfl
theorem nb_eq (m n : Nat) : bytesOf m (n : Int) = Rec.nb m n := by unfold bytesOf Rec.nb; rw [Int.toNat_natCast]
theorem put_at (n : Nat) (w : World) (hn : n < 18446744073709551616) :
    Calls Try.prog 59 #[.int .u64 (n : Int), .int .i64 8] w fun e w' => e = .returned (.tuple #[.string (Rec.nb 8 n), .bool true]) ∧ Below w.heap.size w w' := by
  obtain ⟨hu, hd⟩ := num_ok8 hn
  have C := put_yes n 8 w (by omega) (by omega) hu.1 hd
  rw [nb_eq] at C
  exact C
set_option maxRecDepth 100000 in
theorem rput_at (n : Nat) (w : World) (hn : n < 18446744073709551616) :
    Calls Try.prog 40 #[.int .u64 (n : Int)] w fun e w' => e = .returned (.string (Rec.nb 8 n)) ∧ Below w.heap.size w w' := by
  obtain ⟨hu, hd⟩ := num_ok8 hn
  have C := rput_yes n 8 w (by omega) (by omega) hu hd
  rw [nb_eq] at C
  have CC : Hid (Calls Try.prog 71 #[.int .u64 (n : Int), .int .i64 8] w fun e w' => e = .returned (.tuple #[.string (Rec.nb 8 n), .bool true]) ∧ Below w.heap.size w w') := Lib.hid C
  clear C hu hd hn
  go_enter Try.func40, Try.ntmps40
  go_wp2_with fail
  refine CC.out.mono ?_
  rintro e w' ⟨rfl, b⟩
  go_wp2_with fail
  go_ret
  exact ⟨rfl, b⟩

end Go.Proofs.Ytfcibccipkokoaa.Mas
