/- Walks: which keys and rows may be. -/
import Derived.Test.YtobnenjhmkbdoaaDoorOM
import Derived.WalkKit
import Derived.WalkSpells
import Derived.WalkLawsBesides
import Derived.Lib.Hide
import Derived.Laws.Rows
import Derived.BigQuiet
import Derived.Deep.QuietTactic
import Derived.Deep.DrawnRows
namespace Go.Proofs.YtobnenjhmkbdoaaDoor.Row
open Go.RowKit
attribute [local go_sem ↓] Go.wp_at_zero Go.wp_at_succ

theorem below_new (w : World) (o : Obj) : Below w.heap.size w (w.alloc o) := (Below.refl _ _).alloc (Nat.le_refl _) o

set_option maxRecDepth 100000 in
theorem key_any (s : ByteArray) (w : World) (hs : s.size ≤ 140737488351232) :
    Calls Tryd.prog 26 #[.string s] w fun e w' => e = .returned (.bool (mayK s)) ∧ w = w' := by
  have e : mayK s = (decide (1 ≤ s.size) && decide (s.size ≤ 48)) := rfl
  generalize mayK s = b at *
  have E := Lib.hid e
  clear e
  go_enter Tryd.func26, Tryd.ntmps26
  go_wp2_with fail
  all_goals
    go_ret
    exact ⟨ret_bool (by rw [E.out, Bool.eq_iff_iff]; simp only [Bool.and_eq_true, decide_eq_true_eq, Bool.false_eq_true, false_iff]; omega), rfl⟩

set_option maxRecDepth 100000 in
set_option maxHeartbeats 1000000 in
theorem pad_any (r : Rw) (w : World) (hr : r.wf) :
    Calls Tryd.prog 27 #[rwV r] w fun e w' => e = .returned (.bool (mayP r)) ∧ Below w.heap.size w w' := by
  have e : mayP r = (decide (0 ≤ r.pad) && decide (r.pad + r.value.size ≤ 96)) := rfl
  have B := Lib.hid (below_new w (.cells (rwC r) 28))
  obtain ⟨h1, h2, h3, h4, h5, h6⟩ := hr
  unfold rwV rwC at *
  generalize mayP r = b at *
  have E := Lib.hid e
  clear e
  go_enter Tryd.func27, Tryd.ntmps27
  go_wp2_with fail
  all_goals
    go_ret
    exact ⟨ret_bool (by rw [E.out, Bool.eq_iff_iff]; simp only [Bool.and_eq_true, decide_eq_true_eq, Bool.false_eq_true, false_iff]; omega), B.out⟩

set_option maxRecDepth 100000 in
set_option maxHeartbeats 1000000 in
theorem roll_zero (s : Nat) (w : World) :
    Calls Tryd.prog 28 #[.agg #[.int .u32 0, .int .u16 (s : Int)]] w fun e w' => e = .returned (.bool (decide (s = 0))) ∧ Below w.heap.size w w' := by
  have B := Lib.hid (below_new w (.cells #[.int .u32 0, .int .u16 (s : Int)] 26))
  have e : decide (s = 0) = ((s : Int) == 0) := by rw [Bool.eq_iff_iff]; simp only [decide_eq_true_eq, beq_iff_eq]; omega
  rw [e]
  clear e
  go_enter Tryd.func28, Tryd.ntmps28
  go_wp2_with fail
  all_goals
    go_ret
    exact ⟨rfl, B.out⟩

set_option maxRecDepth 100000 in
set_option maxHeartbeats 1000000 in
theorem roll_pos (p s : Nat) (w : World) (hp : 0 < p) :
    Calls Tryd.prog 28 #[.agg #[.int .u32 (p : Int), .int .u16 (s : Int)]] w fun e w' => e = .returned (.bool (decide (p ≤ 1024))) ∧ Below w.heap.size w w' := by
  have B := Lib.hid (below_new w (.cells #[.int .u32 (p : Int), .int .u16 (s : Int)] 26))
  go_enter Tryd.func28, Tryd.ntmps28
  go_wp2_with fail
  all_goals
    go_ret
    exact ⟨ret_bool (by rw [Bool.eq_iff_iff]; simp only [decide_eq_true_eq, Bool.false_eq_true, false_iff, true_iff, eq_self]; omega), B.out⟩

theorem roll_any (p s : Nat) (w : World) :
    Calls Tryd.prog 28 #[.agg #[.int .u32 (p : Int), .int .u16 (s : Int)]] w fun e w' => e = .returned (.bool (mayL p s)) ∧ Below w.heap.size w w' := by
  rcases Nat.eq_zero_or_pos p with rfl | hp
  · have e : mayL 0 s = decide (s = 0) := by simp [mayL]
    rw [e]
    exact roll_zero s w
  · have e : mayL p s = decide (p ≤ 1024) := by simp [mayL, hp]
    rw [e]
    exact roll_pos p s w hp

/-- a row's box, and what was made since -/
structure Bx (W0 w : World) (g : Nat) (r : Rw) : Prop where
  box : w.heap[g]? = some (.cells (rwC r) 28 (0, 0))
  below : Below W0.heap.size W0 w
theorem Bx.later {W0 w w' : World} {g : Nat} {r : Rw} (h : Bx W0 w g r) (t : Below w.heap.size w w') : Bx W0 w' g r :=
  ⟨(t.block g (Array.getElem?_eq_some_iff.1 h.box).1).trans h.box, h.below.trans (t.mono h.below.size)⟩
theorem Bx.make {W0 w : World} (r : Rw) (b : Below W0.heap.size W0 w) : Bx W0 (w.alloc (.cells (rwC r) 28)) w.heap.size r := ⟨heap_alloc_new w _, b.alloc b.size _⟩
theorem Bx.start (w : World) (r : Rw) : Bx w (w.alloc (.cells (rwC r) 28)) w.heap.size r := Bx.make r (Below.refl _ _)
/-- its cells -/
def BxA (W : World) (g : Nat) (r : Rw) : Prop := W.cell? ⟨g, 0, none⟩ = some (.string r.key) ∧ W.cell? ⟨g, 1, none⟩ = some (.bool r.mark) ∧ W.cell? ⟨g, 2, none⟩ = some (.int .u64 (r.tx : Int)) ∧ W.cell? ⟨g, 3, none⟩ = some (.int .u32 (r.page : Int)) ∧ W.cell? ⟨g, 4, none⟩ = some (.int .u16 (r.slot : Int)) ∧ W.cell? ⟨g, 5, none⟩ = some (.string r.value) ∧ W.cell? ⟨g, 6, none⟩ = some (.int .i64 r.pad)
theorem Bx.all {W0 w : World} {g : Nat} {r : Rw} (h : Bx W0 w g r) : BxA w g r := by
  refine ⟨?_, ?_, ?_, ?_, ?_, ?_, ?_⟩ <;> (rw [cell_of_row _ _ _ _ _ _ h.box]; rfl)

set_option maxRecDepth 100000 in
set_option maxHeartbeats 1000000 in
theorem may_any (r : Rw) (w : World) (hr : r.wf) :
    Calls Tryd.prog 12 #[rwV r] w fun e w' => e = .returned (.bool (mayR r)) ∧ Below w.heap.size w w' := by
  have e : mayR r = (mayK r.key && (mayP r && mayL r.page r.slot)) := rfl
  have K1 := Lib.hid (fun W => key_any r.key W hr.key)
  have K2 := Lib.hid (fun W => pad_any r W hr)
  have K3 := Lib.hid (fun W => roll_any r.page r.slot W)
  have T0 := Lib.hid (Bx.start w r)
  clear hr
  unfold rwV rwC at *
  generalize mayR r = b at *
  generalize mayK r.key = b1 at *
  generalize mayP r = b2 at *
  generalize mayL r.page r.slot = b3 at *
  have E := Lib.hid e
  clear e
  obtain ⟨a0, a1, a2, a3, a4, a5, a6⟩ := T0.out.all
  go_enter Tryd.func12, Tryd.ntmps12
  go_wp2_with fail
  refine (K1.out _).mono ?_
  rintro e w1 ⟨rfl, rfl⟩
  cases b1 with
  | false =>
    go_wp2_with fail
    go_ret
    exact ⟨ret_bool (by rw [E.out]; rfl), T0.out.below⟩
  | true =>
    go_wp2_with fail
    refine (K2.out _).mono ?_
    rintro e w2 ⟨rfl, c2⟩
    have T2 := Lib.hid (T0.out.later c2)
    clear a0 a1 a2 a3 a4 a5 a6 c2 T0
    obtain ⟨a0, a1, a2, a3, a4, a5, a6⟩ := T2.out.all
    cases b2 with
    | false =>
      go_wp2_with fail
      go_ret
      exact ⟨ret_bool (by rw [E.out]; rfl), T2.out.below⟩
    | true =>
      go_wp2_with fail
      refine (K3.out _).mono ?_
      rintro e w3 ⟨rfl, c3⟩
      have T3 := Lib.hid (T2.out.later c3).below
      clear a0 a1 a2 a3 a4 a5 a6 c3 T2
      go_wp2_with fail
      go_ret
      exact ⟨ret_bool (by rw [E.out]; simp), T3.out⟩

end Go.Proofs.YtobnenjhmkbdoaaDoor.Row
