/-
  Memory: a log.
  Walks: a log's numbers.
  Walks: where a log may be; New.
-/
import Derived.BigQuiet
import Derived.Deep.QuietTactic
import Derived.Deep.RegionHeld3
import Derived.Deep.DrawnRows
import Derived.Deep.DeepCutAuto
import Derived.Outline
import Derived.Test.YtgohpompgiljiaaZ1
import Derived.Test.YtgohpompgiljiaaZ2
import Derived.Test.YtgohpompgiljiaaZ30
import Derived.Test.YtgohpompgiljiaaZ37
namespace Go.Proofs.Ytgohpompgiljiaa.Log
open Go.RowKit
open Go.Proofs.Ytgohpompgiljiaa.Sl (Sl Step)
open Go.Proofs.Ytgohpompgiljiaa.Seq (byteS recS u64S all all_byte)

/-- what a log's fields hold -/
structure R where
  pd : Nat
  at' : Nat
  n : Nat
  life : Nat
  first : Nat
  next : Nat
  forced : Nat
  res : Nat
  recs : List (Nat × ByteArray)
  tail : List UInt8
def logC (r : R) (rv tv : Value) : Array Value := #[.pointer (some ⟨r.pd, 0, none⟩), .int .i64 (r.at' : Int), .int .i64 (r.n : Int), .int .u64 (r.life : Int), .int .u64 (r.first : Int), .int .u64 (r.next : Int), .int .u64 (r.forced : Int), rv, tv, .int .i64 (r.res : Int)]
/-- numbers that do not wrap round -/
structure R.wf (r : R) : Prop where
  at' : r.at' ≤ 1000000
  n : 4 ≤ r.n ∧ r.n ≤ 4096
  life : 1 ≤ r.life ∧ r.life ≤ 1000000000
  first : r.first ≤ 1000000000000
  next : r.next ≤ 1000000000000
  forced : r.forced ≤ 1000000000000
  res : r.res ≤ 1000000
/-- a log's blocks: the head is i's, the records' i + 1's, the tail's i + 2's -/
structure Lr (i : Nat) (T : Nat → Nat) (w : World) (q : Nat) (r : R) (rv tv : Value) : Prop where
  head : w.heap[q]? = some (.cells (logC r rv tv) 64 (0, 0))
  recs : Sl recS (fun b => T b = i + 1) w rv r.recs
  tail : Sl byteS (fun b => T b = i + 2) w tv r.tail
  tq : T q = i
  lt : ∀ b, T b ≠ 0 → b < w.heap.size
  ipos : 1 ≤ i
section
variable {i q : Nat} {T T' : Nat → Nat} {w w' : World} {r r' : R} {rv tv : Value}
theorem Lr.qlt (h : Lr i T w q r rv tv) : q < w.heap.size := (Array.getElem?_eq_some_iff.1 h.head).1
theorem Lr.cells (h : Lr i T w q r rv tv) : w.cell? ⟨q, 0, none⟩ = some (.pointer (some ⟨r.pd, 0, none⟩)) ∧ w.cell? ⟨q, 1, none⟩ = some (.int .i64 (r.at' : Int)) ∧ w.cell? ⟨q, 2, none⟩ = some (.int .i64 (r.n : Int)) ∧ w.cell? ⟨q, 3, none⟩ = some (.int .u64 (r.life : Int)) ∧ w.cell? ⟨q, 4, none⟩ = some (.int .u64 (r.first : Int)) ∧ w.cell? ⟨q, 5, none⟩ = some (.int .u64 (r.next : Int)) ∧ w.cell? ⟨q, 6, none⟩ = some (.int .u64 (r.forced : Int)) ∧ w.cell? ⟨q, 7, none⟩ = some rv ∧ w.cell? ⟨q, 8, none⟩ = some tv ∧ w.cell? ⟨q, 9, none⟩ = some (.int .i64 (r.res : Int)) := by
  refine ⟨?_, ?_, ?_, ?_, ?_, ?_, ?_, ?_, ?_, ?_⟩ <;> (rw [cell_of_row _ _ _ _ _ _ h.head]; rfl)
theorem Lr.free (h : Lr i T w q r rv tv) (j : Nat) : w.frozen? ⟨q, j, none⟩ = false := frozen_of_row _ _ _ _ _ h.head
theorem Lr.later (h : Lr i T w q r rv tv) (t : Below w.heap.size w w') : Lr i T w' q r rv tv :=
  ⟨(t.block _ h.qlt).trans h.head, h.recs.later t, h.tail.later t, h.tq, fun b hb => Nat.lt_of_lt_of_le (h.lt b hb) t.size, h.ipos⟩
/-- where none of its blocks is touched -/
theorem Lr.step {I : Nat → Prop} (h : Lr i T w q r rv tv) (s : Step I T T' w w') (h0 : ¬ I 0) (h1 : ¬ I i) (h2 : ¬ I (i + 1)) (h3 : ¬ I (i + 2)) : Lr i T' w' q r rv tv := by
  have hp := h.ipos
  have e : T' q = i := (s.old q h.qlt).trans h.tq
  refine ⟨(s.keeps h1 (by omega) q e).2.2.trans h.head, ?_, ?_, e, s.lt h.lt h0, hp⟩
  · exact (h.recs.far s.touch.size (fun b hb hlt => s.touch.block b hlt (by show ¬ I (T b); rw [hb]; exact h2))).mono (fun b hb hlt => by
      by_cases hl : b < w.heap.size
      · exact (s.old b hl).trans hb
      · have := h.lt b (by omega); omega)
  · exact (h.tail.far s.touch.size (fun b hb hlt => s.touch.block b hlt (by show ¬ I (T b); rw [hb]; exact h3))).mono (fun b hb hlt => by
      by_cases hl : b < w.heap.size
      · exact (s.old b hl).trans hb
      · have := h.lt b (by omega); omega)
/-- one of its numbers is another one -/
theorem Lr.set (h : Lr i T w q r rv tv) (j : Nat) (v : Value) (e : (logC r rv tv).setIfInBounds j v = logC r' rv tv) (e1 : r'.recs = r.recs) (e2 : r'.tail = r.tail) : Lr i T (w.setCell ⟨q, j, none⟩ v) q r' rv tv ∧ Step (· = i) T T w (w.setCell ⟨q, j, none⟩ v) := by
  have ht : Disk.Touch (fun b => T b = i) w (w.setCell ⟨q, j, none⟩ v) := (Disk.Touch.refl _ w).setCell (x := ⟨q, j, none⟩) h.tq v
  have hp := h.ipos
  refine ⟨⟨by rw [heap_setCell_same w q j _ _ v h.head, e], ?_, ?_, h.tq, fun b hb => by simpa using h.lt b hb, hp⟩, ⟨ht, fun _ _ => rfl, fun b hb => .inl ?_⟩⟩
  · rw [e1]; exact h.recs.touch ht (fun b hb hi => by omega)
  · rw [e2]; exact h.tail.touch ht (fun b hb hi => by omega)
  · by_cases e0 : T b = 0
    · exact e0
    · have := h.lt b e0; omega
end
/-- a log, as a whole -/
def rawG (pd at' : Nat) (g : G) : R := ⟨pd, at', g.n, g.life, g.first, g.next, g.forced, g.res, pos g.first g.recs, g.tail⟩
structure Lg (i : Nat) (T : Nat → Nat) (w : World) (q pd at' : Nat) (g : G) : Prop where
  ok : g.ok
  ex : ∃ rv tv, Lr i T w q (rawG pd at' g) rv tv
  hat : at' ≤ 1000000
theorem Lg.wf {i : Nat} {T : Nat → Nat} {w : World} {q pd at' : Nat} {g : G} (h : Lg i T w q pd at' g) (ht : g.next ≤ 1000000000000) : (rawG pd at' g).wf := by
  have h1 := h.ok.fl
  exact ⟨h.hat, ⟨h.ok.n4, h.ok.n12⟩, ⟨h.ok.life1, h.ok.life9⟩, by show g.first ≤ _; omega, ht, by show g.forced ≤ _; omega, by have := h.ok.res_le; show g.res ≤ _; omega⟩
theorem Lg.later {i : Nat} {T : Nat → Nat} {w w' : World} {q pd at' : Nat} {g : G} (h : Lg i T w q pd at' g) (t : Below w.heap.size w w') : Lg i T w' q pd at' g := by
  obtain ⟨rv, tv, hL⟩ := h.ex
  exact ⟨h.ok, ⟨rv, tv, hL.later t⟩, h.hat⟩

end Go.Proofs.Ytgohpompgiljiaa.Log

namespace Go.Proofs.Ytgohpompgiljiaa.Log
open Go.RowKit
open Go.Proofs.Ytgohpompgiljiaa.Sl (Sl Step)
attribute [local go_sem ↓] Go.wp_at_zero Go.wp_at_succ

set_option maxRecDepth 100000 in
theorem made_any {i q : Nat} {T : Nat → Nat} {w : World} {r : R} {rv tv : Value} (h : Lr i T w q r rv tv) (hl : 1 ≤ r.life) :
    Calls Try.prog 27 #[.pointer (some ⟨q, 0, none⟩)] w fun e w' => e = .returned (.bool true) ∧ w = w' := by
  obtain ⟨_, _, _, c3, _⟩ := h.cells
  have e1 : decide (0 < (r.life : Int)) = true := decide_eq_true (by omega)
  have e2 : decide (0 < r.life) = true := decide_eq_true (by omega)
  have e3 : 0 < r.life := hl
  clear h hl
  go_enter Try.func27, Try.ntmps27
  go_wp2_with fail
  go_ret
  exact ⟨rfl, rfl⟩
set_option maxRecDepth 100000 in
theorem made_nil (w : World) : Calls Try.prog 27 #[.pointer none] w fun e w' => e = .returned (.bool false) ∧ w = w' := by
  go_enter Try.func27, Try.ntmps27
  go_wp2_with fail
  go_ret
  exact ⟨rfl, rfl⟩
theorem quiet_one {P : Program} {f : FuncId} {args : Array Value} {w : World} {v : Value} (h : Calls P f args w fun e w' => e = .returned v ∧ w = w') : Calls P f args w fun e w'' => e = .returned v ∧ w'' = w :=
  h.mono fun _ _ ⟨a, b⟩ => ⟨a, b.symm⟩
theorem wrap_u64 {a : Int} (h0 : 0 ≤ a) (h1 : a ≤ 18446744073709551615) : IntKind.u64.wrap a = a := by rw [IntKind.wrap_u64]; omega
theorem wrap_i64 {a : Int} (h0 : -9223372036854775808 ≤ a) (h1 : a ≤ 9223372036854775807) : IntKind.i64.wrap a = a := by rw [IntKind.wrap_i64]; omega
theorem below_drewN (w : World) (n : Nat) : Below w.heap.size w (w.drewN n) := by
  induction n with
  | zero => exact Below.refl _ _
  | succ n ih => exact ih.drew
set_option maxRecDepth 100000 in
theorem stretch_any (a : Nat) (w : World) (ha : a ≤ 1000000000000) : Calls Try.prog 31 #[.int .u64 (a : Int)] w fun e w' => e = .returned (.int .u64 ((a / 110 : Nat) : Int)) ∧ w = w' := by
  have e : IntKind.u64.wrap ((a : Int) / 110) = ((a / 110 : Nat) : Int) := by rw [IntKind.wrap_u64]; omega
  go_enter Try.func31, Try.ntmps31
  go_wp2_with fail
  go_ret
  exact ⟨rfl, rfl⟩
set_option maxRecDepth 100000 in
theorem beginning_any (k : Nat) (w : World) (hk : k ≤ 10000000000) : Calls Try.prog 35 #[.int .u64 (k : Int)] w fun e w' => e = .returned (.int .u64 ((k * 110 : Nat) : Int)) ∧ w = w' := by
  have e : ((k * 110 : Nat) : Int) = (k : Int) * 110 := by omega
  rw [e]
  go_enter Try.func35, Try.ntmps35
  go_wp2_with fail
  go_ret
  exact ⟨rfl, rfl⟩
/-- how many bytes the frame of a text has -/
def lg (n : Nat) : Nat := if 1 ≤ n ∧ n ≤ 4096 then n + 14 else 0
theorem lg_of {n : Nat} (h1 : 1 ≤ n) (h2 : n ≤ 4096) : lg n = 14 + n := by unfold lg; rw [if_pos ⟨h1, h2⟩]; omega
theorem lg_le (n : Nat) : lg n ≤ 4110 := by unfold lg; split <;> omega
set_option maxRecDepth 100000 in
theorem long_any (s : ByteArray) (w : World) (hs : s.size ≤ 140737488351232) : Calls Try.prog 47 #[.string s] w fun e w' => e = .returned (.int .u64 (lg s.size : Int)) ∧ w = w' := by
  have K := Lib.hid (fun W => Frame.fsize_any (s.size : Int) W (by omega))
  have e : Frame.sizeI (s.size : Int) = (lg s.size : Int) := by
    unfold Frame.sizeI lg
    by_cases h : 1 ≤ s.size ∧ s.size ≤ 4096
    · rw [if_pos h, if_pos (by omega)]; omega
    · rw [if_neg h, if_neg (by omega)]; rfl
  rw [e] at K
  clear e
  have hz := lg_le s.size
  generalize lg s.size = z at *
  have hw := wrap_u64 (a := (z : Int)) (by omega) (by omega)
  go_enter Try.func47, Try.ntmps47
  go_wp2_with fail
  refine (K.out _).mono ?_
  rintro e w1 ⟨rfl, rfl⟩
  go_wp2_with fail
  go_ret
  exact ⟨rfl, rfl⟩

/-! ### what one reads -/
section
variable {i q : Nat} {T : Nat → Nat} {w : World} {r : R} {rv tv : Value}
set_option maxRecDepth 100000 in
theorem first_any (h : Lr i T w q r rv tv) (hl : 1 ≤ r.life) : Calls Try.prog 9 #[.pointer (some ⟨q, 0, none⟩)] w fun e w' => e = .returned (.int .u64 (r.first : Int)) ∧ w = w' := by
  have K := Lib.hid (made_any h hl)
  obtain ⟨_, _, _, _, c4, _⟩ := h.cells
  clear h hl
  go_enter Try.func9, Try.ntmps9
  go_wp2_with fail
  refine K.out.mono ?_
  rintro e w1 ⟨rfl, rfl⟩
  go_wp2_with fail
  go_ret
  exact ⟨rfl, rfl⟩
set_option maxRecDepth 100000 in
theorem next_any (h : Lr i T w q r rv tv) (hl : 1 ≤ r.life) : Calls Try.prog 12 #[.pointer (some ⟨q, 0, none⟩)] w fun e w' => e = .returned (.int .u64 (r.next : Int)) ∧ w = w' := by
  have K := Lib.hid (made_any h hl)
  obtain ⟨_, _, _, _, _, c5, _⟩ := h.cells
  clear h hl
  go_enter Try.func12, Try.ntmps12
  go_wp2_with fail
  refine K.out.mono ?_
  rintro e w1 ⟨rfl, rfl⟩
  go_wp2_with fail
  go_ret
  exact ⟨rfl, rfl⟩
set_option maxRecDepth 100000 in
theorem forced_any (h : Lr i T w q r rv tv) (hl : 1 ≤ r.life) : Calls Try.prog 13 #[.pointer (some ⟨q, 0, none⟩)] w fun e w' => e = .returned (.int .u64 (r.forced : Int)) ∧ w = w' := by
  have K := Lib.hid (made_any h hl)
  obtain ⟨_, _, _, _, _, _, c6, _⟩ := h.cells
  clear h hl
  go_enter Try.func13, Try.ntmps13
  go_wp2_with fail
  refine K.out.mono ?_
  rintro e w1 ⟨rfl, rfl⟩
  go_wp2_with fail
  go_ret
  exact ⟨rfl, rfl⟩
set_option maxRecDepth 100000 in
theorem reserved_any (h : Lr i T w q r rv tv) (hl : 1 ≤ r.life) : Calls Try.prog 21 #[.pointer (some ⟨q, 0, none⟩)] w fun e w' => e = .returned (.int .i64 (r.res : Int)) ∧ w = w' := by
  have K := Lib.hid (made_any h hl)
  obtain ⟨_, _, _, _, _, _, _, _, _, c9⟩ := h.cells
  clear h hl
  go_enter Try.func21, Try.ntmps21
  go_wp2_with fail
  refine K.out.mono ?_
  rintro e w1 ⟨rfl, rfl⟩
  go_wp2_with fail
  go_ret
  exact ⟨rfl, rfl⟩
/-- the room, as it is reckoned -/
def R.room (r : R) : Int := max 0 ((r.n : Int) * 110 - ((r.next : Int) - (beg r.first : Int)) - (r.res : Int))
set_option maxRecDepth 100000 in
set_option maxHeartbeats 1000000 in
theorem room_any (h : Lr i T w q r rv tv) (hw : r.wf) (hfn : r.first ≤ r.next) : Calls Try.prog 22 #[.pointer (some ⟨q, 0, none⟩)] w fun e w' => e = .returned (.int .i64 r.room) ∧ Below w.heap.size w w' := by
  have K := Lib.hid (made_any h hw.life.1)
  have K1 := Lib.hid (fun W => stretch_any r.first W hw.first)
  have K2 := Lib.hid (fun W => beginning_any (r.first / 110) W (by have := hw.first; omega))
  change Hid (∀ W, Calls Try.prog 35 #[.int .u64 ((r.first / 110 : Nat) : Int)] W fun e w' => e = .returned (.int .u64 (beg r.first : Int)) ∧ W = w') at K2
  obtain ⟨_, _, c2, _, c4, c5, _, _, _, c9⟩ := h.cells
  have hb := beg_le r.first
  have h1 := hw.next
  have h2 := hw.n
  have h3 := hw.res
  unfold R.room
  clear h hw
  generalize r.first / 110 = k at *
  generalize beg r.first = b at *
  generalize r.first = f at *
  generalize r.next = n at *
  generalize r.n = m at *
  generalize r.res = s at *
  have e1 : IntKind.u64.wrap ((n : Int) - (b : Int)) = (n : Int) - (b : Int) := wrap_u64 (by omega) (by omega)
  have e2 : IntKind.i64.wrap ((n : Int) - (b : Int)) = (n : Int) - (b : Int) := wrap_i64 (by omega) (by omega)
  go_enter Try.func22, Try.ntmps22
  go_wp2_with fail
  refine K.out.mono ?_
  rintro e w1 ⟨rfl, rfl⟩
  go_upto_region 3 with fail
  go_quiet ((first | (go_at_call 31; exact Calls.quiet_of_same (quiet_one (K1.out _))) | (go_at_call 35; exact Calls.quiet_of_same (quiet_one (K2.out _)))))
  go_upto_region 4 with fail
  go_region
  go_wp2_with fail
  go_ret
  exact ⟨rfl, (below_drewN _ _).drew⟩
/-! ### of none -/
theorem first_nil (w : World) : Calls Try.prog 9 #[.pointer none] w fun e w' => e = .returned (.int .u64 0) ∧ w = w' := by
  have K := Lib.hid (made_nil w)
  go_enter Try.func9, Try.ntmps9
  go_wp2_with fail
  refine K.out.mono ?_
  rintro e w1 ⟨rfl, rfl⟩
  go_wp2_with fail
  go_ret
  exact ⟨rfl, rfl⟩
theorem next_nil (w : World) : Calls Try.prog 12 #[.pointer none] w fun e w' => e = .returned (.int .u64 0) ∧ w = w' := by
  have K := Lib.hid (made_nil w)
  go_enter Try.func12, Try.ntmps12
  go_wp2_with fail
  refine K.out.mono ?_
  rintro e w1 ⟨rfl, rfl⟩
  go_wp2_with fail
  go_ret
  exact ⟨rfl, rfl⟩
theorem forced_nil (w : World) : Calls Try.prog 13 #[.pointer none] w fun e w' => e = .returned (.int .u64 0) ∧ w = w' := by
  have K := Lib.hid (made_nil w)
  go_enter Try.func13, Try.ntmps13
  go_wp2_with fail
  refine K.out.mono ?_
  rintro e w1 ⟨rfl, rfl⟩
  go_wp2_with fail
  go_ret
  exact ⟨rfl, rfl⟩
theorem reserved_nil (w : World) : Calls Try.prog 21 #[.pointer none] w fun e w' => e = .returned (.int .i64 0) ∧ w = w' := by
  have K := Lib.hid (made_nil w)
  go_enter Try.func21, Try.ntmps21
  go_wp2_with fail
  refine K.out.mono ?_
  rintro e w1 ⟨rfl, rfl⟩
  go_wp2_with fail
  go_ret
  exact ⟨rfl, rfl⟩
theorem room_nil (w : World) : Calls Try.prog 22 #[.pointer none] w fun e w' => e = .returned (.int .i64 0) ∧ w = w' := by
  have K := Lib.hid (made_nil w)
  go_enter Try.func22, Try.ntmps22
  go_wp2_with fail
  refine K.out.mono ?_
  rintro e w1 ⟨rfl, rfl⟩
  go_wp2_with fail
  go_ret
  exact ⟨rfl, rfl⟩
theorem append_nil (s : ByteArray) (w : World) : Calls Try.prog 10 #[.pointer none, .string s] w fun e w' => e = .returned (.tuple #[.int .u64 0, .int .i64 1]) ∧ w = w' := by
  have K := Lib.hid (made_nil w)
  go_enter Try.func10, Try.ntmps10
  go_wp2_with fail
  refine K.out.mono ?_
  rintro e w1 ⟨rfl, rfl⟩
  go_wp2_with fail
  go_ret2
  exact ⟨rfl, rfl⟩
theorem read_nil (b : Int) (w : World) : Calls Try.prog 18 #[.pointer none, .int .u64 b] w fun e w' => e = .returned (.tuple #[.string ⟨#[]⟩, .int .u64 0, .int .i64 1]) ∧ w = w' := by
  have K := Lib.hid (made_nil w)
  go_enter Try.func18, Try.ntmps18
  go_wp2_with fail
  refine K.out.mono ?_
  rintro e w1 ⟨rfl, rfl⟩
  go_wp2_with fail
  go_ret3
  exact ⟨rfl, rfl⟩
theorem keep_nil (b : Int) (w : World) : Calls Try.prog 14 #[.pointer none, .int .u64 b] w fun e w' => e = .returned (.int .i64 1) ∧ w = w' := by
  have K := Lib.hid (made_nil w)
  go_enter Try.func14, Try.ntmps14
  go_wp2_with fail
  refine K.out.mono ?_
  rintro e w1 ⟨rfl, rfl⟩
  go_wp2_with fail
  go_ret
  exact ⟨rfl, rfl⟩
theorem reserve_nil (b : Int) (w : World) : Calls Try.prog 20 #[.pointer none, .int .i64 b] w fun e w' => e = .returned (.int .i64 1) ∧ w = w' := by
  have K := Lib.hid (made_nil w)
  go_enter Try.func20, Try.ntmps20
  go_wp2_with fail
  refine K.out.mono ?_
  rintro e w1 ⟨rfl, rfl⟩
  go_wp2_with fail
  go_ret
  exact ⟨rfl, rfl⟩
end

end Go.Proofs.Ytgohpompgiljiaa.Log

namespace Go.Proofs.Ytgohpompgiljiaa.Log
open Go.RowKit
open Go.Proofs.Ytgohpompgiljiaa.Sl (Sl Step)
open Go.Proofs.Ytgohpompgiljiaa.Disk (D Rep)
attribute [local go_sem ↓] Go.wp_at_zero Go.wp_at_succ

theorem below_new (w : World) (o : Obj) : Below w.heap.size w (w.alloc o) := (Below.refl _ _).alloc (Nat.le_refl _) o
def ringC (pv : Value) (at' n : Int) : Array Value := #[pv, .int .i64 at', .int .i64 n]
def ringV (pv : Value) (at' n : Int) : Value := .agg (ringC pv at' n)
theorem ring_cells (w : World) (pv : Value) (at' n : Int) : (w.alloc (.cells (ringC pv at' n) 61)).cell? ⟨w.heap.size, 0, none⟩ = some pv ∧ (w.alloc (.cells (ringC pv at' n) 61)).cell? ⟨w.heap.size, 1, none⟩ = some (.int .i64 at') ∧ (w.alloc (.cells (ringC pv at' n) 61)).cell? ⟨w.heap.size, 2, none⟩ = some (.int .i64 n) := by
  refine ⟨?_, ?_, ?_⟩ <;> (rw [cell_of_row _ _ _ _ _ _ (heap_alloc_new w _)]; rfl)

set_option maxRecDepth 100000 in
set_option maxHeartbeats 1000000 in
theorem may_any {w : World} {p : Nat} {d : D} {F : Nat → Prop} (h : Rep w p d F) (a n : Nat) (h4 : 4 ≤ n) (h12 : n ≤ 4096) (ha : a ≤ 1000000) (b : Bool) (hb : b = decide (a + n ≤ d.sure.length)) :
    Calls Try.prog 61 #[ringV (.pointer (some ⟨p, 0, none⟩)) a n] w fun e w' => e = .returned (.bool b) ∧ Below w.heap.size w w' := by
  have K := Lib.hid (fun m => Disk.len_any ((h.later (below_new w (.cells (ringC (.pointer (some ⟨p, 0, none⟩)) a n) 61))).later (below_drewN _ m)))
  have hm := h.ok.most
  have BN := Lib.hid (below_new w (.cells (ringC (.pointer (some ⟨p, 0, none⟩)) a n) 61))
  obtain ⟨c0, c1, c2⟩ := ring_cells w (.pointer (some ⟨p, 0, none⟩)) a n
  have e : b = decide ((a : Int) ≤ (d.sure.length : Int) - (n : Int)) := by
    rw [hb]
    by_cases h1 : a + n ≤ d.sure.length
    · rw [decide_eq_true h1, decide_eq_true (by omega)]
    · rw [decide_eq_false h1, decide_eq_false (by omega)]
  subst e
  generalize d.sure.length = m at *
  have g1 : decide ((0 : Int) ≤ (a : Int)) = true := decide_eq_true (by omega)
  have g2 : decide ((4 : Int) ≤ (n : Int)) = true := decide_eq_true (by omega)
  have g3 : decide ((n : Int) ≤ 4096) = true := decide_eq_true (by omega)
  have e1 : IntKind.i64.wrap ((m : Int) - (n : Int)) = (m : Int) - (n : Int) := wrap_i64 (by omega) (by omega)
  clear h hb
  unfold ringV
  unfold ringC at *
  go_enter Try.func61, Try.ntmps61
  go_upto_region 1 with fail
  generalize w.alloc _ = W at *
  go_quiet ((go_at_call 24; exact Calls.quiet_of_same (quiet_one (K.out _))))
  go_wp2_with fail
  go_ret
  exact ⟨rfl, BN.out.trans ((below_drewN _ _).mono BN.out.size)⟩

/-! ### usable -/
set_option maxRecDepth 100000 in
set_option maxHeartbeats 1000000 in
theorem usable_nil (a n l : Int) (w : World) : Calls Try.prog 42 #[ringV (.pointer none) a n, .int .u64 l] w fun e w' => e = .returned (.int .i64 1) ∧ Below w.heap.size w w' := by
  have BN := Lib.hid (below_new w (.cells (ringC (.pointer none) a n) 61))
  have K := Lib.hid (fun W => Disk.len_nil W)
  obtain ⟨c0, c1, c2⟩ := ring_cells w (.pointer none) a n
  unfold ringV
  unfold ringC at *
  go_enter Try.func42, Try.ntmps42
  go_upto_region 1 with fail
  generalize w.alloc _ = W at *
  go_wp2_with fail
  refine (K.out _).mono ?_
  rintro e w1 ⟨rfl, rfl⟩
  go_wp2_with fail
  go_ret
  exact ⟨rfl, BN.out⟩
set_option maxRecDepth 100000 in
set_option maxHeartbeats 1000000 in
theorem usable_any {w : World} {p : Nat} {d : D} {F : Nat → Prop} (h : Rep w p d F) (a n l : Nat) (h4 : 4 ≤ n) (h12 : n ≤ 4096) (ha : a ≤ 1000000) (hl : 1 ≤ l) (x : Int) (hx : x = if a + n ≤ d.sure.length then 0 else 2) :
    Calls Try.prog 42 #[ringV (.pointer (some ⟨p, 0, none⟩)) a n, .int .u64 (l : Int)] w fun e w' => e = .returned (.int .i64 x) ∧ Below w.heap.size w w' := by
  have BN := Lib.hid (below_new w (.cells (ringC (.pointer (some ⟨p, 0, none⟩)) a n) 61))
  have K := Lib.hid (Disk.len_any (h.later BN.out))
  have KM := Lib.hid (may_any (h.later BN.out) a n h4 h12 ha _ rfl)
  have z1 : ((d.sure.length : Int) == 0) = false := by have := h.ok.one; rw [beq_eq_false_iff_ne]; omega
  have z2 : ((l : Int) == 0) = false := by rw [beq_eq_false_iff_ne]; omega
  obtain ⟨c0, c1, c2⟩ := ring_cells w (.pointer (some ⟨p, 0, none⟩)) a n
  have X := Lib.hid hx
  clear h hx hl h4 h12 ha
  unfold ringV at *
  unfold ringC at *
  by_cases hb : a + n ≤ d.sure.length
  · rw [decide_eq_true hb] at KM
    rw [if_pos hb] at X
    clear hb
    go_enter Try.func42, Try.ntmps42
    go_upto_region 1 with fail
    generalize w.alloc _ = W at *
    go_wp2_with fail
    refine K.out.mono ?_
    rintro e w1 ⟨rfl, rfl⟩
    go_wp2_with fail
    refine KM.out.mono ?_
    rintro e w2 ⟨rfl, b2⟩
    have B2 := Lib.hid (BN.out.trans (b2.mono BN.out.size))
    clear b2
    go_wp2_with fail
    go_ret
    exact ⟨by rw [X.out]; rfl, B2.out⟩
  · rw [decide_eq_false hb] at KM
    rw [if_neg hb] at X
    clear hb
    go_enter Try.func42, Try.ntmps42
    go_upto_region 1 with fail
    generalize w.alloc _ = W at *
    go_wp2_with fail
    refine K.out.mono ?_
    rintro e w1 ⟨rfl, rfl⟩
    go_wp2_with fail
    refine KM.out.mono ?_
    rintro e w2 ⟨rfl, b2⟩
    have B2 := Lib.hid (BN.out.trans (b2.mono BN.out.size))
    clear b2
    go_wp2_with fail
    go_ret
    exact ⟨by rw [X.out]; rfl, B2.out⟩

/-! ### a new log -/
/-- a log that was just made -/
def Born (w w' : World) (q : Nat) (r : R) : Prop := w'.heap[q]? = some (.cells (logC r (.slice none 0 0) (.slice none 0 0)) 64 (0, 0)) ∧ w.heap.size ≤ q ∧ Below w.heap.size w w'
theorem build_log (w : World) (p : Option Addr) (a n l f : Int) : (Instr.build 64 #[(0, ringV (.pointer p) a n), (1, .int .u64 l), (2, .int .u64 f), (3, .int .u64 f), (4, .int .u64 f)]).run Try.prog w = .ok (.agg #[.pointer p, .int .i64 a, .int .i64 n, .int .u64 l, .int .u64 f, .int .u64 f, .int .u64 f, .slice none 0 0, .slice none 0 0, .int .i64 0]) w :=
  run_build w _ _ _ (by kernel_rfl)
set_option maxRecDepth 100000 in
set_option maxHeartbeats 1000000 in
theorem begun_any (p a n l f : Nat) (w : World) :
    Calls Try.prog 44 #[ringV (.pointer (some ⟨p, 0, none⟩)) a n, .int .u64 (l : Int), .int .u64 (f : Int)] w fun e w' => e = .returned (.pointer (some ⟨w.heap.size + 1, 0, none⟩)) ∧ Born w w' (w.heap.size + 1) ⟨p, a, n, l, f, f, f, 0, [], []⟩ := by
  have BN := Lib.hid (below_new w (.cells (ringC (.pointer (some ⟨p, 0, none⟩)) a n) 61))
  have HB := Lib.hid (heap_alloc_new w (.cells (ringC (.pointer (some ⟨p, 0, none⟩)) a n) 61))
  have HS := Lib.hid (show (w.alloc (.cells (ringC (.pointer (some ⟨p, 0, none⟩)) a n) 61)).heap.size = w.heap.size + 1 by simp)
  have BL := Lib.hid (fun W => build_log W (some ⟨p, 0, none⟩) a n l f)
  obtain ⟨c0, c1, c2⟩ := ring_cells w (.pointer (some ⟨p, 0, none⟩)) a n
  unfold ringV at *
  unfold ringC at *
  go_enter Try.func44, Try.ntmps44
  go_upto_region 1 with fail
  generalize w.alloc _ = W at *
  have bl := BL.out W
  go_wp2_with fail
  have HN : Hid (Born w (W.alloc (.cells (logC ⟨p, a, n, l, f, f, f, 0, [], []⟩ (.slice none 0 0) (.slice none 0 0)) 64)) (w.heap.size + 1) ⟨p, a, n, l, f, f, f, 0, [], []⟩) :=
    Lib.hid ⟨by rw [← HS.out]; exact heap_alloc_new W _, by omega, BN.out.trans ((below_new W _).mono BN.out.size)⟩
  have hs := HS.out
  clear HB HS BN BL bl c0 c1 c2
  go_ret
  exact ⟨by rw [← hs]; rfl, HN.out⟩

/-! ### New -/
/-- what New answers of a log that may be -/
def NewP (p a n l : Nat) (w : World) (e : Ending) (w' : World) : Prop := ∃ q, e = .returned (.tuple #[.pointer (some ⟨q, 0, none⟩), .int .i64 0]) ∧ Born w w' q ⟨p, a, n, l, 110, 110, 110, 0, [], []⟩
theorem Born.earlier {w w1 w' : World} {q : Nat} {r : R} (h : Born w1 w' q r) (b : Below w.heap.size w w1) : Born w w' q r := ⟨h.1, Nat.le_trans b.size h.2.1, b.trans (h.2.2.mono b.size)⟩
set_option maxRecDepth 100000 in
set_option maxHeartbeats 1000000 in
theorem new_nil (a n l : Int) (w : World) : Calls Try.prog 19 #[.pointer none, .int .i64 a, .int .i64 n, .int .u64 l] w fun e w' => e = .returned (.tuple #[.pointer none, .int .i64 1]) ∧ Below w.heap.size w w' := by
  have BN := Lib.hid (below_new w (.cells (ringC (.pointer none) a n) 61))
  have K := Lib.hid (fun W => usable_nil a n l W)
  obtain ⟨c0, c1, c2⟩ := ring_cells w (.pointer none) a n
  unfold ringV at *
  unfold ringC at *
  go_enter Try.func19, Try.ntmps19
  go_upto_region 2 with fail
  generalize w.alloc _ = W at *
  go_wp2_with fail
  refine (K.out _).mono ?_
  rintro e w1 ⟨rfl, b1⟩
  have B1 := Lib.hid (BN.out.trans (b1.mono BN.out.size))
  clear b1
  go_wp2_with fail
  go_ret2
  exact ⟨rfl, B1.out⟩
set_option maxRecDepth 100000 in
set_option maxHeartbeats 1000000 in
theorem new_arg {w : World} {p : Nat} {d : D} {F : Nat → Prop} (h : Rep w p d F) (a n l : Nat) (h4 : 4 ≤ n) (h12 : n ≤ 4096) (ha : a ≤ 1000000) (hl : 1 ≤ l) (hx : d.sure.length < a + n) :
    Calls Try.prog 19 #[.pointer (some ⟨p, 0, none⟩), .int .i64 (a : Int), .int .i64 (n : Int), .int .u64 (l : Int)] w fun e w' => e = .returned (.tuple #[.pointer none, .int .i64 2]) ∧ Below w.heap.size w w' := by
  have BN := Lib.hid (below_new w (.cells (ringC (.pointer (some ⟨p, 0, none⟩)) a n) 61))
  have K := Lib.hid (usable_any (h.later BN.out) a n l h4 h12 ha hl 2 (by rw [if_neg (by omega)]))
  obtain ⟨c0, c1, c2⟩ := ring_cells w (.pointer (some ⟨p, 0, none⟩)) a n
  clear h hx hl h4 h12 ha
  unfold ringV at *
  unfold ringC at *
  go_enter Try.func19, Try.ntmps19
  go_upto_region 2 with fail
  generalize w.alloc _ = W at *
  go_wp2_with fail
  refine K.out.mono ?_
  rintro e w1 ⟨rfl, b1⟩
  have B1 := Lib.hid (BN.out.trans (b1.mono BN.out.size))
  clear b1
  go_wp2_with fail
  go_ret2
  exact ⟨rfl, B1.out⟩
set_option maxRecDepth 100000 in
set_option maxHeartbeats 1000000 in
theorem new_any {w : World} {p : Nat} {d : D} {F : Nat → Prop} (h : Rep w p d F) (a n l : Nat) (h4 : 4 ≤ n) (h12 : n ≤ 4096) (ha : a ≤ 1000000) (hl : 1 ≤ l) (hx : a + n ≤ d.sure.length) :
    Calls Try.prog 19 #[.pointer (some ⟨p, 0, none⟩), .int .i64 (a : Int), .int .i64 (n : Int), .int .u64 (l : Int)] w (NewP p a n l w) := by
  have BN := Lib.hid (below_new w (.cells (ringC (.pointer (some ⟨p, 0, none⟩)) a n) 61))
  have K := Lib.hid (usable_any (h.later BN.out) a n l h4 h12 ha hl 0 (by rw [if_pos (by omega)]))
  have KB := Lib.hid (fun W => begun_any p a n l 110 W)
  have PO := Lib.hid (show ∀ q W, Born w W q ⟨p, a, n, l, 110, 110, 110, 0, [], []⟩ → NewP p a n l w (.returned (.tuple #[.pointer (some ⟨q, 0, none⟩), .int .i64 0])) W from fun q W hW => ⟨q, rfl, hW⟩)
  change Hid (∀ W, Calls Try.prog 44 #[ringV (.pointer (some ⟨p, 0, none⟩)) a n, .int .u64 (l : Int), .int .u64 110] W _) at KB
  obtain ⟨c0, c1, c2⟩ := ring_cells w (.pointer (some ⟨p, 0, none⟩)) a n
  have HL := Lib.hid (show (w.alloc (.cells (ringC (.pointer (some ⟨p, 0, none⟩)) a n) 61)).heap[w.heap.size]? = some (.cells (ringC (.pointer (some ⟨p, 0, none⟩)) a n) 61 (0, 0)) from heap_alloc_new _ _)
  clear h hx hl h4 h12 ha
  unfold ringV at *
  unfold ringC at *
  go_enter Try.func19, Try.ntmps19
  go_upto_region 2 with fail
  generalize w.alloc _ = W at *
  go_wp2_with fail
  refine K.out.mono ?_
  rintro e w1 ⟨rfl, b1⟩
  have B1 := Lib.hid (BN.out.trans (b1.mono BN.out.size))
  have H1 := (b1.block _ (Array.getElem?_eq_some_iff.1 HL.out).1).trans HL.out
  have d0 : w1.cell? ⟨w.heap.size, 0, none⟩ = some (.pointer (some ⟨p, 0, none⟩)) := by rw [cell_of_row _ _ _ _ _ _ H1]; rfl
  have d1 : w1.cell? ⟨w.heap.size, 1, none⟩ = some (.int .i64 (a : Int)) := by rw [cell_of_row _ _ _ _ _ _ H1]; rfl
  have d2 : w1.cell? ⟨w.heap.size, 2, none⟩ = some (.int .i64 (n : Int)) := by rw [cell_of_row _ _ _ _ _ _ H1]; rfl
  clear b1 H1 c0 c1 c2 K HL BN
  go_wp2_with fail
  refine (KB.out _).mono ?_
  rintro e w2 ⟨rfl, h2⟩
  have H2 := Lib.hid (h2.earlier B1.out)
  clear h2 KB
  go_wp2_with fail
  go_ret2
  exact PO.out _ _ H2.out
/-- the new log's blocks become i's -/
def one (T : Nat → Nat) (q i : Nat) (b : Nat) : Nat := if b = q then i else T b
theorem Born.lr {w w' : World} {q : Nat} {r : R} (h : Born w w' q r) {T : Nat → Nat} (hT : ∀ b, T b ≠ 0 → b < w.heap.size) {i : Nat} (hi : 1 ≤ i) (e1 : r.recs = []) (e2 : r.tail = []) :
    Lr i (one T q i) w' q r (.slice none 0 0) (.slice none 0 0) ∧ Step (· = i) T (one T q i) w w' := by
  obtain ⟨h1, h2, h3⟩ := h
  have hq := (Array.getElem?_eq_some_iff.1 h1).1
  have hs := h3.size
  refine ⟨⟨h1, by rw [e1]; exact Sl.nil _ _ _, by rw [e2]; exact Sl.nil _ _ _, if_pos rfl, fun b hb => ?_, hi⟩, ⟨Disk.Touch.ofNew h3, fun b hb => if_neg (by omega), fun b hb => ?_⟩⟩
  · by_cases e : b = q
    · omega
    · unfold one at hb
      rw [if_neg e] at hb
      have := hT b hb
      omega
  · unfold one
    by_cases e : b = q
    · rw [if_pos e]; exact .inr ⟨by omega, rfl⟩
    · rw [if_neg e]
      refine .inl ?_
      by_cases e0 : T b = 0
      · exact e0
      · have := hT b e0; omega
theorem Born.lg {w w' : World} {p a n l q : Nat} (h : Born w w' q ⟨p, a, n, l, 110, 110, 110, 0, [], []⟩) {T : Nat → Nat} (hT : ∀ b, T b ≠ 0 → b < w.heap.size) {i : Nat} (hi : 1 ≤ i) (h4 : 4 ≤ n) (h12 : n ≤ 4096) (ha : a ≤ 1000000) (hl : 1 ≤ l) (hl9 : l ≤ 1000000000) :
    Lg i (one T q i) w' q p a (newG n l) ∧ Step (· = i) T (one T q i) w w' := by
  obtain ⟨h1, h2⟩ := h.lr hT hi rfl rfl
  refine ⟨⟨newG_ok h4 h12 hl hl9, ⟨.slice none 0 0, .slice none 0 0, ?_⟩, ha⟩, h2⟩
  have e : rawG p a (newG n l) = ⟨p, a, n, l, 110, 110, 110, 0, [], []⟩ := by unfold rawG; rw [newG_tail]; rfl
  rw [e]
  exact h1

end Go.Proofs.Ytgohpompgiljiaa.Log
