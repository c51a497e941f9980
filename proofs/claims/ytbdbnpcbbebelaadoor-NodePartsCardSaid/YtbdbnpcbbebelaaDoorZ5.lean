/-
  Plain mathematics: rows and entries, and their bytes.
  Walks: which keys and rows may be.
  Walks: numbers, texts, pieces; how long a row is; which rows may be in the document.
  Walks: a row is written.
  Walks: the document's bytes of a row.
-/
import Derived.Lib.Repeat
import Derived.WalkKit
import Derived.WalkSpells
import Derived.WalkLawsBesides
import Derived.Lib.Hide
import Derived.Laws.Rows
import Derived.BigQuiet
import Derived.Deep.QuietTactic
import Derived.Deep.DrawnRows
import Derived.Test.YtbdbnpcbbebelaaDoorShelf
import Derived.Deep.RegionHeld3
import Derived.Laws.MakeOwn
import Derived.Deep.DeepCutAuto
import Derived.Deep.CutBlock
import Derived.Test.YtbdbnpcbbebelaaDoorZ1
namespace Go.Proofs.YtbdbnpcbbebelaaDoor.Row

structure Rw where
  key : ByteArray
  mark : Bool
  tx : Nat
  page : Nat
  slot : Nat
  value : ByteArray
  pad : Int

def Rw.zero : Rw := ⟨⟨#[]⟩, false, 0, 0, 0, ⟨#[]⟩, 0⟩
structure Rw.wf (r : Rw) : Prop where
  tx : r.tx < 18446744073709551616
  page : r.page < 4294967296
  slot : r.slot < 65536
  pad : -9223372036854775808 ≤ r.pad ∧ r.pad ≤ 9223372036854775807
  key : r.key.size ≤ 140737488351232
  value : r.value.size ≤ 140737488351232

def rwC (r : Rw) : Array Value := #[.string r.key, .bool r.mark, .int .u64 (r.tx : Int), .int .u32 (r.page : Int), .int .u16 (r.slot : Int), .string r.value, .int .i64 r.pad]
def rwV (r : Rw) : Value := .agg (rwC r)

def mayK (k : ByteArray) : Bool := decide (1 ≤ k.size) && decide (k.size ≤ 48)
def mayP (r : Rw) : Bool := decide (0 ≤ r.pad) && decide (r.pad + r.value.size ≤ 96)
def mayL (p s : Nat) : Bool := decide (p ≤ 1024) && (decide (0 < p) || decide (s = 0))
def mayR (r : Rw) : Bool := mayK r.key && (mayP r && mayL r.page r.slot)

theorem may_parts {r : Rw} (h : mayR r = true) : 1 ≤ r.key.size ∧ r.key.size ≤ 48 ∧ 0 ≤ r.pad ∧ r.pad + r.value.size ≤ 96 ∧ r.page ≤ 1024 ∧ (0 < r.page ∨ r.slot = 0) := by
  simpa [mayR, mayK, mayP, mayL, and_assoc] using h

/-- n bytes 0 -/
def zerS (n : Nat) : ByteArray := ⟨(List.replicate n (0 : UInt8)).toArray⟩
def markN (r : Rw) : Nat := if r.mark then 1 else 0
/-- a number's bytes -/
def nb (m n : Nat) : ByteArray := ⟨(be m n).toArray⟩
theorem nb_size (m n : Nat) : (nb m n).size = m := by
  show (be m n).length = m
  exact be_length m n
theorem zerS_size (n : Nat) : (zerS n).size = n := by
  show (List.replicate n (0 : UInt8)).length = n
  exact List.length_replicate
/-- how long a text is, and it -/
def tx1 (s : ByteArray) : ByteArray := nb 1 s.size ++ s
def headS (r : Rw) : ByteArray := nb 1 (markN r) ++ nb 8 r.tx ++ nb 4 r.page ++ nb 2 r.slot
def bodyS (r : Rw) : ByteArray := headS r ++ tx1 r.key ++ tx1 r.value ++ zerS r.pad.toNat
def encS (r : Rw) : ByteArray := if mayR r then bodyS r else ⟨#[]⟩
def encE (r : Rw) : Int := if mayR r then 0 else 2
def sizeR (r : Rw) : Int := if mayR r then 17 + r.key.size + r.value.size + r.pad else 0
theorem head_size (r : Rw) : (headS r).size = 15 := by
  simp only [headS, ByteArray.size_append, nb_size]
theorem tx1_size (s : ByteArray) : (tx1 s).size = 1 + s.size := by
  simp only [tx1, ByteArray.size_append, nb_size]
theorem body_size (r : Rw) : (bodyS r).size = 17 + r.key.size + r.value.size + r.pad.toNat := by
  simp only [bodyS, ByteArray.size_append, head_size, tx1_size, zerS_size]; omega
theorem enc_size (r : Rw) : ((encS r).size : Int) = sizeR r := by
  unfold encS sizeR
  cases h : mayR r with
  | false => rfl
  | true =>
    have := may_parts h
    simp only [if_true, body_size]; omega

/-! ### what is read -/
/-- whether n bytes stand at t; they; the place behind; the number -/
def tkB (s : ByteArray) (t n : Nat) : Bool := decide (t + n ≤ s.size)
def tkS (s : ByteArray) (t n : Nat) : ByteArray := if t + n ≤ s.size then s.extract t (t + n) else ⟨#[]⟩
def tkT (s : ByteArray) (t n : Nat) : Nat := if t + n ≤ s.size then t + n else t
def tkN (s : ByteArray) (t n : Nat) : Nat := if t + n ≤ s.size then numAt s t n else 0
theorem tkS_size (s : ByteArray) (t n : Nat) : t + (tkS s t n).size = tkT s t n := by
  unfold tkS tkT
  split
  · rw [ByteArray.size_extract]; omega
  · rfl
theorem tkT_le {s : ByteArray} {t : Nat} (n : Nat) (h : t ≤ s.size) : tkT s t n ≤ s.size := by
  unfold tkT; split <;> omega
theorem tkN_lt (s : ByteArray) (t n : Nat) : tkN s t n < 256 ^ n := by
  unfold tkN
  split
  · exact numAt_lt s t n
  · exact Nat.pow_pos (by decide)

/-- the places behind the parts: mark, tx, page, slot, the key's size, the key, the value's size, the value -/
def q1 (s : ByteArray) : Nat := tkT s 0 1
def q2 (s : ByteArray) : Nat := tkT s (q1 s) 8
def q3 (s : ByteArray) : Nat := tkT s (q2 s) 4
def q4 (s : ByteArray) : Nat := tkT s (q3 s) 2
def q5 (s : ByteArray) : Nat := tkT s (q4 s) 1
def nK (s : ByteArray) : Nat := tkN s (q4 s) 1
def q6 (s : ByteArray) : Nat := tkT s (q5 s) (nK s)
def q7 (s : ByteArray) : Nat := tkT s (q6 s) 1
def nV (s : ByteArray) : Nat := tkN s (q6 s) 1
def q8 (s : ByteArray) : Nat := tkT s (q7 s) (nV s)
/-- whether all parts are there -/
def whB (s : ByteArray) : Bool := tkB s 0 1 && tkB s (q1 s) 8 && tkB s (q2 s) 4 && tkB s (q3 s) 2 && tkB s (q4 s) 1 && tkB s (q5 s) (nK s) && tkB s (q6 s) 1 && tkB s (q7 s) (nV s)
/-- the row that is read, whatever is wanting -/
def rdR (s : ByteArray) : Rw := ⟨tkS s (q5 s) (nK s), decide (tkN s 0 1 = 1), tkN s (q1 s) 8, tkN s (q2 s) 4, tkN s (q3 s) 2, tkS s (q7 s) (nV s), (s.size : Int) - q8 s⟩
theorem q_le (s : ByteArray) : q1 s ≤ s.size ∧ q2 s ≤ s.size ∧ q3 s ≤ s.size ∧ q4 s ≤ s.size ∧ q5 s ≤ s.size ∧ q6 s ≤ s.size ∧ q7 s ≤ s.size ∧ q8 s ≤ s.size := by
  have h1 : q1 s ≤ s.size := tkT_le _ (Nat.zero_le _)
  have h2 : q2 s ≤ s.size := tkT_le _ h1
  have h3 : q3 s ≤ s.size := tkT_le _ h2
  have h4 : q4 s ≤ s.size := tkT_le _ h3
  have h5 : q5 s ≤ s.size := tkT_le _ h4
  have h6 : q6 s ≤ s.size := tkT_le _ h5
  have h7 : q7 s ≤ s.size := tkT_le _ h6
  exact ⟨h1, h2, h3, h4, h5, h6, h7, tkT_le _ h7⟩
/-- whether all bytes from a on are 0 -/
def blankB (s : ByteArray) (a : Nat) : Bool := (s.data.toList.drop a).all (· == 0)
def okR (s : ByteArray) : Bool := whB s && (decide (tkN s 0 1 ≤ 1) && (mayR (rdR s) && blankB s (q8 s)))
def decR (s : ByteArray) : Rw := if okR s then rdR s else Rw.zero
def decE (s : ByteArray) : Int := if okR s then 0 else 7

/-- the parts' places, where all are there -/
theorem whole_q {s : ByteArray} (h : whB s = true) : q1 s = 1 ∧ q2 s = 9 ∧ q3 s = 13 ∧ q4 s = 15 ∧ q5 s = 16 ∧ q6 s = 16 + nK s ∧ q7 s = 17 + nK s ∧ q8 s = 17 + nK s + nV s ∧ nK s = numAt s 15 1 ∧ nV s = numAt s (16 + nK s) 1 ∧ 17 + nK s + nV s ≤ s.size := by
  simp only [whB, Bool.and_eq_true, tkB, decide_eq_true_eq] at h
  obtain ⟨⟨⟨⟨⟨⟨⟨h1, h2⟩, h3⟩, h4⟩, h5⟩, h6⟩, h7⟩, h8⟩ := h
  have e1 : q1 s = 1 := by unfold q1 tkT; rw [if_pos h1]
  have e2 : q2 s = 9 := by unfold q2 tkT; rw [if_pos h2, e1]
  have e3 : q3 s = 13 := by unfold q3 tkT; rw [if_pos h3, e2]
  have e4 : q4 s = 15 := by unfold q4 tkT; rw [if_pos h4, e3]
  have e5 : q5 s = 16 := by unfold q5 tkT; rw [if_pos h5, e4]
  have e6 : q6 s = 16 + nK s := by unfold q6 tkT; rw [if_pos h6, e5]
  have e7 : q7 s = 17 + nK s := by unfold q7 tkT; rw [if_pos h7, e6]; omega
  have e8 : q8 s = 17 + nK s + nV s := by unfold q8 tkT; rw [if_pos h8, e7]
  have k1 : nK s = numAt s 15 1 := by rw [nK, tkN, if_pos h5, e4]
  have k2 : nV s = numAt s (16 + nK s) 1 := by rw [nV, tkN, if_pos h7, e6]
  exact ⟨e1, e2, e3, e4, e5, e6, e7, e8, k1, k2, by omega⟩
theorem whole_of {s : ByteArray} (h1 : 16 ≤ s.size) (h2 : 17 + numAt s 15 1 ≤ s.size) (h3 : 17 + numAt s 15 1 + numAt s (16 + numAt s 15 1) 1 ≤ s.size) : whB s = true := by
  have e1 : q1 s = 1 := by unfold q1 tkT; rw [if_pos (by omega)]
  have e2 : q2 s = 9 := by unfold q2 tkT; rw [if_pos (by omega), e1]
  have e3 : q3 s = 13 := by unfold q3 tkT; rw [if_pos (by omega), e2]
  have e4 : q4 s = 15 := by unfold q4 tkT; rw [if_pos (by omega), e3]
  have e5 : q5 s = 16 := by unfold q5 tkT; rw [if_pos (by omega), e4]
  have k1 : nK s = numAt s 15 1 := by rw [nK, tkN, if_pos (by omega), e4]
  have e6 : q6 s = 16 + numAt s 15 1 := by unfold q6 tkT; rw [if_pos (by omega), e5, k1]
  have e7 : q7 s = 17 + numAt s 15 1 := by unfold q7 tkT; rw [if_pos (by omega), e6]; omega
  have k2 : nV s = numAt s (16 + numAt s 15 1) 1 := by rw [nV, tkN, if_pos (by omega), e6]
  simp only [whB, Bool.and_eq_true, tkB, decide_eq_true_eq]
  refine ⟨⟨⟨⟨⟨⟨⟨?_, ?_⟩, ?_⟩, ?_⟩, ?_⟩, ?_⟩, ?_⟩, ?_⟩ <;> omega

end Go.Proofs.YtbdbnpcbbebelaaDoor.Row

namespace Go.Proofs.YtbdbnpcbbebelaaDoor.Row
open Go.RowKit
attribute [local go_sem ↓] Go.wp_at_zero Go.wp_at_succ

theorem below_new (w : World) (o : Obj) : Below w.heap.size w (w.alloc o) := (Below.refl _ _).alloc (Nat.le_refl _) o

set_option maxRecDepth 100000 in
theorem key_any (s : ByteArray) (w : World) (hs : s.size ≤ 140737488351232) :
    Calls Tryd.prog 93 #[.string s] w fun e w' => e = .returned (.bool (mayK s)) ∧ w = w' := by
  have e : mayK s = (decide (1 ≤ s.size) && decide (s.size ≤ 48)) := rfl
  generalize mayK s = b at *
  have E := Lib.hid e
  clear e
  go_enter Tryd.func93, Tryd.ntmps93
  go_wp2_with fail
  all_goals
    go_ret
    exact ⟨ret_bool (by rw [E.out, Bool.eq_iff_iff]; simp only [Bool.and_eq_true, decide_eq_true_eq, Bool.false_eq_true, false_iff]; omega), rfl⟩

set_option maxRecDepth 100000 in
set_option maxHeartbeats 1000000 in
theorem pad_any (r : Rw) (w : World) (hr : r.wf) :
    Calls Tryd.prog 94 #[rwV r] w fun e w' => e = .returned (.bool (mayP r)) ∧ Below w.heap.size w w' := by
  have e : mayP r = (decide (0 ≤ r.pad) && decide (r.pad + r.value.size ≤ 96)) := rfl
  have B := Lib.hid (below_new w (.cells (rwC r) 68))
  obtain ⟨h1, h2, h3, h4, h5, h6⟩ := hr
  unfold rwV rwC at *
  generalize mayP r = b at *
  have E := Lib.hid e
  clear e
  go_enter Tryd.func94, Tryd.ntmps94
  go_wp2_with fail
  all_goals
    go_ret
    exact ⟨ret_bool (by rw [E.out, Bool.eq_iff_iff]; simp only [Bool.and_eq_true, decide_eq_true_eq, Bool.false_eq_true, false_iff]; omega), B.out⟩

set_option maxRecDepth 100000 in
set_option maxHeartbeats 1000000 in
theorem roll_zero (s : Nat) (w : World) :
    Calls Tryd.prog 95 #[.agg #[.int .u32 0, .int .u16 (s : Int)]] w fun e w' => e = .returned (.bool (decide (s = 0))) ∧ Below w.heap.size w w' := by
  have B := Lib.hid (below_new w (.cells #[.int .u32 0, .int .u16 (s : Int)] 66))
  have e : decide (s = 0) = ((s : Int) == 0) := by rw [Bool.eq_iff_iff]; simp only [decide_eq_true_eq, beq_iff_eq]; omega
  rw [e]
  clear e
  go_enter Tryd.func95, Tryd.ntmps95
  go_wp2_with fail
  all_goals
    go_ret
    exact ⟨rfl, B.out⟩

set_option maxRecDepth 100000 in
set_option maxHeartbeats 1000000 in
theorem roll_pos (p s : Nat) (w : World) (hp : 0 < p) :
    Calls Tryd.prog 95 #[.agg #[.int .u32 (p : Int), .int .u16 (s : Int)]] w fun e w' => e = .returned (.bool (decide (p ≤ 1024))) ∧ Below w.heap.size w w' := by
  have B := Lib.hid (below_new w (.cells #[.int .u32 (p : Int), .int .u16 (s : Int)] 66))
  go_enter Tryd.func95, Tryd.ntmps95
  go_wp2_with fail
  all_goals
    go_ret
    exact ⟨ret_bool (by rw [Bool.eq_iff_iff]; simp only [decide_eq_true_eq, Bool.false_eq_true, false_iff, true_iff, eq_self]; omega), B.out⟩

theorem roll_any (p s : Nat) (w : World) :
    Calls Tryd.prog 95 #[.agg #[.int .u32 (p : Int), .int .u16 (s : Int)]] w fun e w' => e = .returned (.bool (mayL p s)) ∧ Below w.heap.size w w' := by
  rcases Nat.eq_zero_or_pos p with rfl | hp
  · have e : mayL 0 s = decide (s = 0) := by simp [mayL]
    rw [e]
    exact roll_zero s w
  · have e : mayL p s = decide (p ≤ 1024) := by simp [mayL, hp]
    rw [e]
    exact roll_pos p s w hp

/-- a row's box, and what was made since -/
structure Bx (W0 w : World) (g : Nat) (r : Rw) : Prop where
  box : w.heap[g]? = some (.cells (rwC r) 68 (0, 0))
  below : Below W0.heap.size W0 w
theorem Bx.later {W0 w w' : World} {g : Nat} {r : Rw} (h : Bx W0 w g r) (t : Below w.heap.size w w') : Bx W0 w' g r :=
  ⟨(t.block g (Array.getElem?_eq_some_iff.1 h.box).1).trans h.box, h.below.trans (t.mono h.below.size)⟩
theorem Bx.make {W0 w : World} (r : Rw) (b : Below W0.heap.size W0 w) : Bx W0 (w.alloc (.cells (rwC r) 68)) w.heap.size r := ⟨heap_alloc_new w _, b.alloc b.size _⟩
theorem Bx.start (w : World) (r : Rw) : Bx w (w.alloc (.cells (rwC r) 68)) w.heap.size r := Bx.make r (Below.refl _ _)
/-- its cells -/
def BxA (W : World) (g : Nat) (r : Rw) : Prop := W.cell? ⟨g, 0, none⟩ = some (.string r.key) ∧ W.cell? ⟨g, 1, none⟩ = some (.bool r.mark) ∧ W.cell? ⟨g, 2, none⟩ = some (.int .u64 (r.tx : Int)) ∧ W.cell? ⟨g, 3, none⟩ = some (.int .u32 (r.page : Int)) ∧ W.cell? ⟨g, 4, none⟩ = some (.int .u16 (r.slot : Int)) ∧ W.cell? ⟨g, 5, none⟩ = some (.string r.value) ∧ W.cell? ⟨g, 6, none⟩ = some (.int .i64 r.pad)
theorem Bx.all {W0 w : World} {g : Nat} {r : Rw} (h : Bx W0 w g r) : BxA w g r := by
  refine ⟨?_, ?_, ?_, ?_, ?_, ?_, ?_⟩ <;> (rw [cell_of_row _ _ _ _ _ _ h.box]; rfl)

set_option maxRecDepth 100000 in
set_option maxHeartbeats 1000000 in
theorem may_any (r : Rw) (w : World) (hr : r.wf) :
    Calls Tryd.prog 85 #[rwV r] w fun e w' => e = .returned (.bool (mayR r)) ∧ Below w.heap.size w w' := by
  have e : mayR r = (mayK r.key && (mayP r && mayL r.page r.slot)) := rfl
  have K1 := Lib.hid (fun W => key_any r.key W hr.key)
  have K2 := Lib.hid (fun W => pad_any r W hr)
  have K3 := Lib.hid (fun W => roll_any r.page r.slot W)
  have T0 := Lib.hid (Bx.start w r)
  clear hr
  unfold rwV rwC at *
  generalize mayR r = b at *
  generalize mayK r.key = b1 at *
  generalize mayP r = b2 at *
  generalize mayL r.page r.slot = b3 at *
  have E := Lib.hid e
  clear e
  obtain ⟨a0, a1, a2, a3, a4, a5, a6⟩ := T0.out.all
  go_enter Tryd.func85, Tryd.ntmps85
  go_wp2_with fail
  refine (K1.out _).mono ?_
  rintro e w1 ⟨rfl, rfl⟩
  cases b1 with
  | false =>
    go_wp2_with fail
    go_ret
    exact ⟨ret_bool (by rw [E.out]; rfl), T0.out.below⟩
  | true =>
    go_wp2_with fail
    refine (K2.out _).mono ?_
    rintro e w2 ⟨rfl, c2⟩
    have T2 := Lib.hid (T0.out.later c2)
    clear a0 a1 a2 a3 a4 a5 a6 c2 T0
    obtain ⟨a0, a1, a2, a3, a4, a5, a6⟩ := T2.out.all
    cases b2 with
    | false =>
      go_wp2_with fail
      go_ret
      exact ⟨ret_bool (by rw [E.out]; rfl), T2.out.below⟩
    | true =>
      go_wp2_with fail
      refine (K3.out _).mono ?_
      rintro e w3 ⟨rfl, c3⟩
      have T3 := Lib.hid (T2.out.later c3).below
      clear a0 a1 a2 a3 a4 a5 a6 c3 T2
      go_wp2_with fail
      go_ret
      exact ⟨ret_bool (by rw [E.out]; simp), T3.out⟩

end Go.Proofs.YtbdbnpcbbebelaaDoor.Row

namespace Go.Proofs.YtbdbnpcbbebelaaDoor.Row
open Go.RowKit
attribute [local go_sem ↓] Go.wp_at_zero Go.wp_at_succ

theorem pow_le {m : Nat} (h8 : m ≤ 8) : 256 ^ m ≤ 18446744073709551616 := (Nat.pow_le_pow_right (by decide) h8 : 256 ^ m ≤ 256 ^ 8)
theorem num_ok {m n : Nat} (h8 : m ≤ 8) (hn : n < 256 ^ m) : U64 (n : Int) ∧ (((n : Int) / 2 ^ (8 * m)) != 0) = false := by
  have h := pow_le h8
  refine ⟨⟨by omega, by omega⟩, ?_⟩
  have e : (2 : Int) ^ (8 * m) = ((256 ^ m : Nat) : Int) := by rw [← pow256]; simp
  rw [e, Int.ediv_eq_zero_of_lt (by omega) (by omega)]
  rfl
theorem nb_eq (m n : Nat) : bytesOf m (n : Int) = nb m n := by unfold bytesOf nb; rw [Int.toNat_natCast]

set_option maxRecDepth 100000 in
theorem rnumber_any (n m : Nat) (w : World) (h1 : 1 ≤ m) (h8 : m ≤ 8) (hn : n < 256 ^ m) :
    Calls Tryd.prog 57 #[.int .u64 (n : Int), .int .i64 (m : Int)] w fun e w' => e = .returned (.string (nb m n)) ∧ Below w.heap.size w w' := by
  obtain ⟨hu, hd⟩ := num_ok h8 hn
  have C := rput_yes n m w h1 h8 hu hd
  rw [nb_eq] at C
  have CC := Lib.hid C
  clear C hu hd hn
  go_enter Tryd.func57, Tryd.ntmps57
  go_wp2_with fail
  refine CC.out.mono ?_
  rintro e w' ⟨rfl, b⟩
  go_wp2_with fail
  go_ret
  exact ⟨rfl, b⟩

/-- more of a row than the laws look at -/
def longB (r : Rw) : Bool := decide (1024 < r.key.size + r.value.size)
set_option maxRecDepth 100000 in
set_option maxHeartbeats 2000000 in
theorem rmay_pos (r : Rw) (w : World) (hr : r.wf) (hp : 0 < r.page) :
    Calls Tryd.prog 56 #[rwV r] w fun e w' => e = .returned (.bool (mayR r)) ∧ Below w.heap.size w w' := by
  have B := Lib.hid (below_new w (.cells (rwC r) 68))
  have e : mayR r = true ↔ 1 ≤ r.key.size ∧ r.key.size ≤ 48 ∧ 0 ≤ r.pad ∧ r.pad + r.value.size ≤ 96 ∧ r.page ≤ 1024 ∧ (0 < r.page ∨ r.slot = 0) := by
    simp [mayR, mayK, mayP, mayL, and_assoc]
  obtain ⟨h1, h2, h3, h4, h5, h6⟩ := hr
  generalize mayR r = x at *
  have E := Lib.hid e
  clear e
  unfold rwV rwC at *
  go_enter Tryd.func56, Tryd.ntmps56
  go_wp2_with fail
  all_goals
    go_ret
    exact ⟨ret_bool (by rw [Bool.eq_iff_iff, E.out]; simp only [Bool.false_eq_true, false_iff, true_iff]; omega), B.out⟩

set_option maxRecDepth 100000 in
set_option maxHeartbeats 2000000 in
theorem rmay_zero (key : ByteArray) (mark : Bool) (tx slot : Nat) (value : ByteArray) (pad : Int) (w : World) (hr : Rw.wf ⟨key, mark, tx, 0, slot, value, pad⟩) :
    Calls Tryd.prog 56 #[.agg #[.string key, .bool mark, .int .u64 (tx : Int), .int .u32 0, .int .u16 (slot : Int), .string value, .int .i64 pad]] w fun e w' => e = .returned (.bool (mayR ⟨key, mark, tx, 0, slot, value, pad⟩)) ∧ Below w.heap.size w w' := by
  have B := Lib.hid (fun o => below_new w o)
  have e : mayR ⟨key, mark, tx, 0, slot, value, pad⟩ = true ↔ 1 ≤ key.size ∧ key.size ≤ 48 ∧ 0 ≤ pad ∧ pad + value.size ≤ 96 ∧ slot = 0 := by
    simp [mayR, mayK, mayP, mayL, and_assoc]
  obtain ⟨h1, h2, h3, h4, h5, h6⟩ := hr
  simp only at h3 h4 h5 h6
  generalize mayR _ = x at *
  have E := Lib.hid e
  clear e
  go_enter Tryd.func56, Tryd.ntmps56
  go_wp2_with fail
  all_goals
    go_ret
    exact ⟨ret_bool (by rw [Bool.eq_iff_iff, E.out]; simp only [beq_iff_eq, Bool.false_eq_true, false_iff]; omega), B.out _⟩

theorem rmay_any (r : Rw) (w : World) (hr : r.wf) :
    Calls Tryd.prog 56 #[rwV r] w fun e w' => e = .returned (.bool (mayR r)) ∧ Below w.heap.size w w' := by
  rcases Nat.eq_zero_or_pos r.page with h | h
  · obtain ⟨key, mark, tx, page, slot, value, pad⟩ := r
    simp only at h
    subst h
    exact rmay_zero key mark tx slot value pad w hr
  · exact rmay_pos r w hr h

end Go.Proofs.YtbdbnpcbbebelaaDoor.Row

namespace Go.Proofs.YtbdbnpcbbebelaaDoor.Row
open Go.RowKit
attribute [local go_sem ↓] Go.wp_at_zero Go.wp_at_succ

theorem zero_char : (⟨#[(0 : UInt8)]⟩ : ByteArray).data.toList = [0] := rfl
theorem repeat_zero : ∀ n, Lib.repeatL [(0 : UInt8)] n = List.replicate n 0
  | 0 => rfl
  | n + 1 => by rw [Lib.repeatL, repeat_zero n]; rfl
end Go.Proofs.YtbdbnpcbbebelaaDoor.Row

namespace Go.Proofs.YtbdbnpcbbebelaaDoor.Row
open Go.RowKit
attribute [local go_sem ↓] Go.wp_at_zero Go.wp_at_succ

set_option maxRecDepth 100000 in
theorem zeros_conv (W : World) (m : Nat) : (convert 63 9 (.slice (some ⟨W.heap.size, 0, none⟩) m m)).run Tryd.prog (W.alloc (.cells (madeCells (Value.int .u8 0).cells m) 5)) = .ok (.string (zerS m)) (W.alloc (.cells (madeCells (Value.int .u8 0).cells m) 5)) := by
  have h := run_convert_bytes_back (P := Tryd.prog) (W.alloc (.cells (madeCells (Value.int .u8 0).cells m) 5)) 63 9 5 ⟨W.heap.size, 0, none⟩ m (List.replicate m 0) Tryd.underlying63 Tryd.underlying5 Tryd.underlying9 (by
    intro j hj
    rw [List.length_replicate] at hj
    have e : (⟨W.heap.size, 0, none⟩ : Addr).add j = ⟨W.heap.size, j, none⟩ := by simp [Addr.add]; omega
    rw [e, World.cell?_alloc_mark]
    unfold madeCells
    simp [Value.cells, hj, Nat.mod_one])
  rw [List.length_replicate] at h
  exact h
set_option maxRecDepth 100000 in
theorem zeros_make (W : World) (m : Nat) (hm : m ≤ 1000000) : (Instr.makeSlice 63 (.int .i64 (m : Int)) (.int .i64 (m : Int))).run Tryd.prog W = .ok (.slice (some ⟨W.heap.size, 0, none⟩) m m) (W.alloc (.cells (madeCells (Value.int .u8 0).cells m) 5)) := by
  obtain ⟨i0, hi, hz0, hz1, hz2⟩ := info_parts Word.infoB
  have h := run_make (P := Tryd.prog) W 63 5 i0 (.int .u8 0) Tryd.underlying63 hi hz0 .i64 .i64 (m : Int) (m : Int) (by omega) (by omega) (by rw [hz2]; omega) (by omega)
  simpa [hz1] using h

set_option maxRecDepth 100000 in
set_option maxHeartbeats 1000000 in
theorem rencode_no (r : Rw) (w : World) (hr : r.wf) (hm : mayR r = false) :
    Calls Tryd.prog 32 #[rwV r] w fun e w' => e = .returned (.tuple #[.string ⟨#[]⟩, .int .i64 2]) ∧ Below w.heap.size w w' := by
  have K := rmay_any r (w.alloc (.cells (rwC r) 68)) hr
  rw [hm] at K
  have KK := Lib.hid K
  have B := Lib.hid (below_new w (.cells (rwC r) 68))
  clear K hm hr
  unfold rwV rwC at *
  go_enter Tryd.func32, Tryd.ntmps32
  go_wp2_with fail
  refine KK.out.mono ?_
  rintro e w1 ⟨rfl, b1⟩
  have B1 := Lib.hid (B.out.trans (b1.mono B.out.size))
  clear b1 B
  go_wp2_with fail
  go_ret2
  exact ⟨rfl, B1.out⟩

set_option maxRecDepth 100000 in
set_option maxHeartbeats 4000000 in
theorem rencode_yes (r : Rw) (w : World) (hr : r.wf) (hm : mayR r = true) :
    Calls Tryd.prog 32 #[rwV r] w fun e w' => e = .returned (.tuple #[.string (encS r), .int .i64 0]) ∧ Below w.heap.size w w' := by
  have hp := may_parts hm
  have T0 := Lib.hid (Bx.start w r)
  have KM := Lib.hid (fun W => rmay_any r W hr)
  have emk : markN r = if r.mark = true then 1 else 0 := rfl
  have lmk : markN r < 256 := by rw [emk]; split <;> omega
  have K0 := Lib.hid (fun W => (show Calls Tryd.prog 57 #[.int .u64 (markN r : Int), .int .i64 1] W fun e w' => e = .returned (.string (nb 1 (markN r))) ∧ Below W.heap.size W w' from rnumber_any (markN r) 1 W (by decide) (by decide) (by omega)))
  have K1 := Lib.hid (fun W => (show Calls Tryd.prog 57 #[.int .u64 (r.tx : Int), .int .i64 8] W fun e w' => e = .returned (.string (nb 8 r.tx)) ∧ Below W.heap.size W w' from rnumber_any r.tx 8 W (by decide) (by decide) (by have := hr.tx; omega)))
  have K2 := Lib.hid (fun W => (show Calls Tryd.prog 57 #[.int .u64 (r.page : Int), .int .i64 4] W fun e w' => e = .returned (.string (nb 4 r.page)) ∧ Below W.heap.size W w' from rnumber_any r.page 4 W (by decide) (by decide) (by have := hr.page; omega)))
  have K3 := Lib.hid (fun W => (show Calls Tryd.prog 57 #[.int .u64 (r.slot : Int), .int .i64 2] W fun e w' => e = .returned (.string (nb 2 r.slot)) ∧ Below W.heap.size W w' from rnumber_any r.slot 2 W (by decide) (by decide) (by have := hr.slot; omega)))
  have K4 := Lib.hid (fun W => (show Calls Tryd.prog 57 #[.int .u64 (r.key.size : Int), .int .i64 1] W fun e w' => e = .returned (.string (nb 1 r.key.size)) ∧ Below W.heap.size W w' from rnumber_any r.key.size 1 W (by decide) (by decide) (by omega)))
  have K5 := Lib.hid (fun W => (show Calls Tryd.prog 57 #[.int .u64 (r.value.size : Int), .int .i64 1] W fun e w' => e = .returned (.string (nb 1 r.value.size)) ∧ Below W.heap.size W w' from rnumber_any r.value.size 1 W (by decide) (by decide) (by omega)))
  have e6 : r.pad = (r.pad.toNat : Int) := by omega
  rw [hm] at KM
  have e : encS r = nb 1 (markN r) ++ nb 8 r.tx ++ nb 4 r.page ++ nb 2 r.slot ++ nb 1 r.key.size ++ r.key ++ nb 1 r.value.size ++ r.value ++ zerS r.pad.toNat := by
    unfold encS
    rw [if_pos hm]
    simp only [bodyS, headS, tx1, ByteArray.append_assoc]
  have z0 := nb_size 1 (markN r)
  have z1 := nb_size 8 r.tx
  have z2 := nb_size 4 r.page
  have z3 := nb_size 2 r.slot
  have z4 := nb_size 1 r.key.size
  have z5 := nb_size 1 r.value.size
  have z6 : (zerS r.pad.toNat).size ≤ 96 := by rw [zerS_size]; omega
  have z7 : r.key.size ≤ 48 := hp.2.1
  have z8 : r.value.size ≤ 96 := by omega
  have q2 : IntKind.u64.wrap (r.page : Int) = r.page := by have := hr.page; rw [IntKind.wrap_u64]; omega
  have q3 : IntKind.u64.wrap (r.slot : Int) = r.slot := by have := hr.slot; rw [IntKind.wrap_u64]; omega
  have q4 : IntKind.u64.wrap (r.key.size : Int) = r.key.size := by rw [IntKind.wrap_u64]; omega
  have q5 : IntKind.u64.wrap (r.value.size : Int) = r.value.size := by rw [IntKind.wrap_u64]; omega
  obtain ⟨n, hn⟩ : ∃ n, n = r.pad.toNat := ⟨_, rfl⟩
  rw [← hn] at e e6 z6
  have n96 : n ≤ 96 := by omega
  have hmk : ∀ W : World, (Instr.makeSlice 63 (.int .i64 r.pad) (.int .i64 r.pad)).run Tryd.prog W = .ok (.slice (some ⟨W.heap.size, 0, none⟩) n n) (W.alloc (.cells (madeCells (Value.int .u8 0).cells n) 5)) := fun W => by rw [e6]; exact zeros_make W n (by omega)
  have hcv := fun W => zeros_conv W n
  clear hp hr hm hn lmk e6
  obtain ⟨M, hM⟩ : ∃ M, M = madeCells (Value.int .u8 0).cells n := ⟨_, rfl⟩
  rw [← hM] at hmk hcv
  clear hM
  obtain ⟨a0, a1, a2, a3, a4, a5, a6⟩ := T0.out.all
  unfold rwV rwC at *
  generalize encS r = S at *
  generalize hmk2 : markN r = mk at *
  clear hmk2
  generalize nb 1 mk = A0 at *
  generalize nb 8 r.tx = A1 at *
  generalize nb 4 r.page = A2 at *
  generalize nb 2 r.slot = A3 at *
  generalize nb 1 r.key.size = A4 at *
  generalize nb 1 r.value.size = A5 at *
  have E := Lib.hid e
  have s1 : (9223372036854775807 < A0.size + A1.size) = False := by simp only [eq_iff_iff, iff_false]; omega
  have s2 : (9223372036854775807 < A0.size + A1.size + A2.size) = False := by simp only [eq_iff_iff, iff_false]; omega
  have s3 : (9223372036854775807 < A0.size + A1.size + A2.size + A3.size) = False := by simp only [eq_iff_iff, iff_false]; omega
  have s4 : (9223372036854775807 < A0.size + A1.size + A2.size + A3.size + A4.size) = False := by simp only [eq_iff_iff, iff_false]; omega
  have s5 : (9223372036854775807 < A0.size + A1.size + A2.size + A3.size + A4.size + r.key.size) = False := by simp only [eq_iff_iff, iff_false]; omega
  have s6 : (9223372036854775807 < A0.size + A1.size + A2.size + A3.size + A4.size + r.key.size + A5.size) = False := by simp only [eq_iff_iff, iff_false]; omega
  have s7 : (9223372036854775807 < A0.size + A1.size + A2.size + A3.size + A4.size + r.key.size + A5.size + r.value.size) = False := by simp only [eq_iff_iff, iff_false]; omega
  have s8 : (9223372036854775807 < A0.size + A1.size + A2.size + A3.size + A4.size + r.key.size + A5.size + r.value.size + (zerS n).size) = False := by simp only [eq_iff_iff, iff_false]; omega
  clear e z0 z1 z2 z3 z4 z5 z6 z7 z8
  generalize zerS n = A6 at *
  go_enter Tryd.func32, Tryd.ntmps32
  go_wp2_with fail
  refine (KM.out _).mono ?_
  rintro e w1 ⟨rfl, b1⟩
  have T1 := Lib.hid (T0.out.later b1)
  clear b1 T0 KM a0 a1 a2 a3 a4 a5 a6
  generalize w.heap.size = g at *
  obtain ⟨a0, a1, a2, a3, a4, a5, a6⟩ := T1.out.all
  go_upto_if 10 with fail
  go_cut [0, 4, 6, 10] (fun s0 s s6 s10 wx => s = .int .u64 (mk : Int) ∧ wx = w1 ∧ s0 = .agg #[.string r.key, .bool r.mark, .int .u64 (r.tx : Int), .int .u32 (r.page : Int), .int .u16 (r.slot : Int), .string r.value, .int .i64 r.pad] ∧ s6 = .agg #[.string r.key, .bool r.mark, .int .u64 (r.tx : Int), .int .u32 (r.page : Int), .int .u16 (r.slot : Int), .string r.value, .int .i64 r.pad] ∧ s10 = .bool r.mark)
  case first =>
    cases hb : r.mark with
    | false =>
      rw [hb] at emk a1
      have HB := Lib.hid hb
      clear hb
      obtain rfl : mk = 0 := by rw [emk]; rfl
      go_wp2_with fail
      go_meet
      exact ⟨rfl, rfl, by rw [HB.out], by rw [HB.out], by rw [HB.out]⟩
    | true =>
      rw [hb] at emk a1
      have HB := Lib.hid hb
      clear hb
      obtain rfl : mk = 1 := by rw [emk]; rfl
      go_wp2_with fail
      go_meet
      exact ⟨rfl, rfl, by rw [HB.out], by rw [HB.out], by rw [HB.out]⟩
  case rest =>
    obtain ⟨rfl, rfl, rfl, rfl, rfl⟩ := hcut
    go_wp2_with fail
    clear a0 a1 a2 a3 a4 a5 a6 emk
    have T2 := Lib.hid (T1.out.later ((Below.refl _ _).drew))
    clear T1
    go_region_held3 (fun w' => (w'.cell? ⟨g, 0, none⟩ = some (.string r.key) ∧ w'.cell? ⟨g, 1, none⟩ = some (.bool r.mark) ∧ w'.cell? ⟨g, 2, none⟩ = some (.int .u64 (r.tx : Int)) ∧ w'.cell? ⟨g, 3, none⟩ = some (.int .u32 (r.page : Int)) ∧ w'.cell? ⟨g, 4, none⟩ = some (.int .u16 (r.slot : Int)) ∧ w'.cell? ⟨g, 5, none⟩ = some (.string r.value) ∧ w'.cell? ⟨g, 6, none⟩ = some (.int .i64 r.pad))) (first | exact T2.out.all | exact T3.all | exact T4.all | exact T5.all | exact T6.all)
      (first
        | (go_at_call 57; (with_reducible refine (K0.out _).mono ?_); rintro e w3 ⟨rfl, b2⟩; have T3 := T2.out.later b2; clear b2)
        | (go_at_call 57; (with_reducible refine (K1.out _).mono ?_); rintro e w3 ⟨rfl, b2⟩; have T4 := T3.later b2; clear b2)
        | (go_at_call 57; (with_reducible refine (K2.out _).mono ?_); rintro e w4 ⟨rfl, b2⟩; have T5 := T4.later b2; clear b2)
        | (go_at_call 57; (with_reducible refine (K3.out _).mono ?_); rintro e w5 ⟨rfl, b2⟩; have T6 := T5.later b2; clear b2))
    have T7 := Lib.hid (T6.later ((Below.refl _ _).drew))
    clear T2 T3 T4 T5 T6 K0 K1 K2 K3
    go_wp2_with fail
    go_region_held3 (fun w' => (w'.cell? ⟨g, 0, none⟩ = some (.string r.key) ∧ w'.cell? ⟨g, 1, none⟩ = some (.bool r.mark) ∧ w'.cell? ⟨g, 2, none⟩ = some (.int .u64 (r.tx : Int)) ∧ w'.cell? ⟨g, 3, none⟩ = some (.int .u32 (r.page : Int)) ∧ w'.cell? ⟨g, 4, none⟩ = some (.int .u16 (r.slot : Int)) ∧ w'.cell? ⟨g, 5, none⟩ = some (.string r.value) ∧ w'.cell? ⟨g, 6, none⟩ = some (.int .i64 r.pad))) (first | exact T7.out.all | exact T8.all | exact T9.all)
      (first
        | (go_at_call 57; (with_reducible refine (K4.out _).mono ?_); rintro e w3 ⟨rfl, b2⟩; have T8 := T7.out.later b2; clear b2)
        | (go_at_call 57; (with_reducible refine (K5.out _).mono ?_); rintro e w3 ⟨rfl, b2⟩; have T9 := T8.later b2; clear b2))
    have TT := Lib.hid T9
    clear T7 T8 T9 K4 K5
    obtain ⟨a0, a1, a2, a3, a4, a5, a6⟩ := TT.out.all
    go_wp2_with fail
    go_ret2
    exact ⟨by rw [E.out]; rfl, (TT.out.below).alloc TT.out.below.size _⟩

theorem rencode_any (r : Rw) (w : World) (hr : r.wf) :
    Calls Tryd.prog 32 #[rwV r] w fun e w' => e = .returned (.tuple #[.string (encS r), .int .i64 (encE r)]) ∧ Below w.heap.size w w' := by
  cases hm : mayR r with
  | true =>
    have e : encE r = 0 := by unfold encE; rw [if_pos hm]
    rw [e]
    exact rencode_yes r w hr hm
  | false =>
    have e : encE r = 2 := by unfold encE; rw [if_neg (by rw [hm]; decide)]
    have e2 : encS r = ⟨#[]⟩ := by unfold encS; rw [if_neg (by rw [hm]; decide)]
    rw [e, e2]
    exact rencode_no r w hr hm

end Go.Proofs.YtbdbnpcbbebelaaDoor.Row
