/- Plain mathematics: rows and entries, and their bytes. -/
import Derived.Test.YtobnenjhmkbdoaaDoorWD
import Derived.Lib.Repeat
namespace Go.Proofs.YtobnenjhmkbdoaaDoor.Row

structure Rw where
  key : ByteArray
  mark : Bool
  tx : Nat
  page : Nat
  slot : Nat
  value : ByteArray
  pad : Int

def Rw.zero : Rw := ⟨⟨#[]⟩, false, 0, 0, 0, ⟨#[]⟩, 0⟩
structure Rw.wf (r : Rw) : Prop where
  tx : r.tx < 18446744073709551616
  page : r.page < 4294967296
  slot : r.slot < 65536
  pad : -9223372036854775808 ≤ r.pad ∧ r.pad ≤ 9223372036854775807
  key : r.key.size ≤ 140737488351232
  value : r.value.size ≤ 140737488351232

def rwC (r : Rw) : Array Value := #[.string r.key, .bool r.mark, .int .u64 (r.tx : Int), .int .u32 (r.page : Int), .int .u16 (r.slot : Int), .string r.value, .int .i64 r.pad]
def rwV (r : Rw) : Value := .agg (rwC r)

def mayK (k : ByteArray) : Bool := decide (1 ≤ k.size) && decide (k.size ≤ 48)
def mayP (r : Rw) : Bool := decide (0 ≤ r.pad) && decide (r.pad + r.value.size ≤ 96)
def mayL (p s : Nat) : Bool := decide (p ≤ 1024) && (decide (0 < p) || decide (s = 0))
def mayR (r : Rw) : Bool := mayK r.key && (mayP r && mayL r.page r.slot)

theorem may_parts {r : Rw} (h : mayR r = true) : 1 ≤ r.key.size ∧ r.key.size ≤ 48 ∧ 0 ≤ r.pad ∧ r.pad + r.value.size ≤ 96 ∧ r.page ≤ 1024 ∧ (0 < r.page ∨ r.slot = 0) := by
  simpa [mayR, mayK, mayP, mayL, and_assoc] using h

/-- n bytes 0 -/
def zerS (n : Nat) : ByteArray := ⟨(List.replicate n (0 : UInt8)).toArray⟩
def markN (r : Rw) : Nat := if r.mark then 1 else 0
/-- a number's bytes -/
def nb (m n : Nat) : ByteArray := ⟨(be m n).toArray⟩
theorem nb_size (m n : Nat) : (nb m n).size = m := by
  show (be m n).length = m
  exact be_length m n
theorem zerS_size (n : Nat) : (zerS n).size = n := by
  show (List.replicate n (0 : UInt8)).length = n
  exact List.length_replicate
/-- how long a text is, and it -/
def tx1 (s : ByteArray) : ByteArray := nb 1 s.size ++ s
def headS (r : Rw) : ByteArray := nb 1 (markN r) ++ nb 8 r.tx ++ nb 4 r.page ++ nb 2 r.slot
def bodyS (r : Rw) : ByteArray := headS r ++ tx1 r.key ++ tx1 r.value ++ zerS r.pad.toNat
def encS (r : Rw) : ByteArray := if mayR r then bodyS r else ⟨#[]⟩
def encE (r : Rw) : Int := if mayR r then 0 else 2
def sizeR (r : Rw) : Int := if mayR r then 17 + r.key.size + r.value.size + r.pad else 0
theorem head_size (r : Rw) : (headS r).size = 15 := by
  simp only [headS, ByteArray.size_append, nb_size]
theorem tx1_size (s : ByteArray) : (tx1 s).size = 1 + s.size := by
  simp only [tx1, ByteArray.size_append, nb_size]
theorem body_size (r : Rw) : (bodyS r).size = 17 + r.key.size + r.value.size + r.pad.toNat := by
  simp only [bodyS, ByteArray.size_append, head_size, tx1_size, zerS_size]; omega
theorem enc_size (r : Rw) : ((encS r).size : Int) = sizeR r := by
  unfold encS sizeR
  cases h : mayR r with
  | false => rfl
  | true =>
    have := may_parts h
    simp only [if_true, body_size]; omega

/-! ### what is read -/
/-- whether n bytes stand at t; they; the place behind; the number -/
def tkB (s : ByteArray) (t n : Nat) : Bool := decide (t + n ≤ s.size)
def tkS (s : ByteArray) (t n : Nat) : ByteArray := if t + n ≤ s.size then s.extract t (t + n) else ⟨#[]⟩
def tkT (s : ByteArray) (t n : Nat) : Nat := if t + n ≤ s.size then t + n else t
def tkN (s : ByteArray) (t n : Nat) : Nat := if t + n ≤ s.size then numAt s t n else 0
theorem tkS_size (s : ByteArray) (t n : Nat) : t + (tkS s t n).size = tkT s t n := by
  unfold tkS tkT
  split
  · rw [ByteArray.size_extract]; omega
  · rfl
theorem tkT_le {s : ByteArray} {t : Nat} (n : Nat) (h : t ≤ s.size) : tkT s t n ≤ s.size := by
  unfold tkT; split <;> omega
theorem tkN_lt (s : ByteArray) (t n : Nat) : tkN s t n < 256 ^ n := by
  unfold tkN
  split
  · exact numAt_lt s t n
  · exact Nat.pow_pos (by decide)

/-- the places behind the parts: mark, tx, page, slot, the key's size, the key, the value's size, the value -/
def q1 (s : ByteArray) : Nat := tkT s 0 1
def q2 (s : ByteArray) : Nat := tkT s (q1 s) 8
def q3 (s : ByteArray) : Nat := tkT s (q2 s) 4
def q4 (s : ByteArray) : Nat := tkT s (q3 s) 2
def q5 (s : ByteArray) : Nat := tkT s (q4 s) 1
def nK (s : ByteArray) : Nat := tkN s (q4 s) 1
def q6 (s : ByteArray) : Nat := tkT s (q5 s) (nK s)
def q7 (s : ByteArray) : Nat := tkT s (q6 s) 1
def nV (s : ByteArray) : Nat := tkN s (q6 s) 1
def q8 (s : ByteArray) : Nat := tkT s (q7 s) (nV s)
/-- whether all parts are there -/
def whB (s : ByteArray) : Bool := tkB s 0 1 && tkB s (q1 s) 8 && tkB s (q2 s) 4 && tkB s (q3 s) 2 && tkB s (q4 s) 1 && tkB s (q5 s) (nK s) && tkB s (q6 s) 1 && tkB s (q7 s) (nV s)
/-- the row that is read, whatever is wanting -/
def rdR (s : ByteArray) : Rw := ⟨tkS s (q5 s) (nK s), decide (tkN s 0 1 = 1), tkN s (q1 s) 8, tkN s (q2 s) 4, tkN s (q3 s) 2, tkS s (q7 s) (nV s), (s.size : Int) - q8 s⟩
theorem q_le (s : ByteArray) : q1 s ≤ s.size ∧ q2 s ≤ s.size ∧ q3 s ≤ s.size ∧ q4 s ≤ s.size ∧ q5 s ≤ s.size ∧ q6 s ≤ s.size ∧ q7 s ≤ s.size ∧ q8 s ≤ s.size := by
  have h1 : q1 s ≤ s.size := tkT_le _ (Nat.zero_le _)
  have h2 : q2 s ≤ s.size := tkT_le _ h1
  have h3 : q3 s ≤ s.size := tkT_le _ h2
  have h4 : q4 s ≤ s.size := tkT_le _ h3
  have h5 : q5 s ≤ s.size := tkT_le _ h4
  have h6 : q6 s ≤ s.size := tkT_le _ h5
  have h7 : q7 s ≤ s.size := tkT_le _ h6
  exact ⟨h1, h2, h3, h4, h5, h6, h7, tkT_le _ h7⟩
/-- whether all bytes from a on are 0 -/
def blankB (s : ByteArray) (a : Nat) : Bool := (s.data.toList.drop a).all (· == 0)
def okR (s : ByteArray) : Bool := whB s && (decide (tkN s 0 1 ≤ 1) && (mayR (rdR s) && blankB s (q8 s)))
def decR (s : ByteArray) : Rw := if okR s then rdR s else Rw.zero
def decE (s : ByteArray) : Int := if okR s then 0 else 7

/-- the parts' places, where all are there -/
theorem whole_q {s : ByteArray} (h : whB s = true) : q1 s = 1 ∧ q2 s = 9 ∧ q3 s = 13 ∧ q4 s = 15 ∧ q5 s = 16 ∧ q6 s = 16 + nK s ∧ q7 s = 17 + nK s ∧ q8 s = 17 + nK s + nV s ∧ nK s = numAt s 15 1 ∧ nV s = numAt s (16 + nK s) 1 ∧ 17 + nK s + nV s ≤ s.size := by
  simp only [whB, Bool.and_eq_true, tkB, decide_eq_true_eq] at h
  obtain ⟨⟨⟨⟨⟨⟨⟨h1, h2⟩, h3⟩, h4⟩, h5⟩, h6⟩, h7⟩, h8⟩ := h
  have e1 : q1 s = 1 := by unfold q1 tkT; rw [if_pos h1]
  have e2 : q2 s = 9 := by unfold q2 tkT; rw [if_pos h2, e1]
  have e3 : q3 s = 13 := by unfold q3 tkT; rw [if_pos h3, e2]
  have e4 : q4 s = 15 := by unfold q4 tkT; rw [if_pos h4, e3]
  have e5 : q5 s = 16 := by unfold q5 tkT; rw [if_pos h5, e4]
  have e6 : q6 s = 16 + nK s := by unfold q6 tkT; rw [if_pos h6, e5]
  have e7 : q7 s = 17 + nK s := by unfold q7 tkT; rw [if_pos h7, e6]; omega
  have e8 : q8 s = 17 + nK s + nV s := by unfold q8 tkT; rw [if_pos h8, e7]
  have k1 : nK s = numAt s 15 1 := by rw [nK, tkN, if_pos h5, e4]
  have k2 : nV s = numAt s (16 + nK s) 1 := by rw [nV, tkN, if_pos h7, e6]
  exact ⟨e1, e2, e3, e4, e5, e6, e7, e8, k1, k2, by omega⟩
theorem whole_of {s : ByteArray} (h1 : 16 ≤ s.size) (h2 : 17 + numAt s 15 1 ≤ s.size) (h3 : 17 + numAt s 15 1 + numAt s (16 + numAt s 15 1) 1 ≤ s.size) : whB s = true := by
  have e1 : q1 s = 1 := by unfold q1 tkT; rw [if_pos (by omega)]
  have e2 : q2 s = 9 := by unfold q2 tkT; rw [if_pos (by omega), e1]
  have e3 : q3 s = 13 := by unfold q3 tkT; rw [if_pos (by omega), e2]
  have e4 : q4 s = 15 := by unfold q4 tkT; rw [if_pos (by omega), e3]
  have e5 : q5 s = 16 := by unfold q5 tkT; rw [if_pos (by omega), e4]
  have k1 : nK s = numAt s 15 1 := by rw [nK, tkN, if_pos (by omega), e4]
  have e6 : q6 s = 16 + numAt s 15 1 := by unfold q6 tkT; rw [if_pos (by omega), e5, k1]
  have e7 : q7 s = 17 + numAt s 15 1 := by unfold q7 tkT; rw [if_pos (by omega), e6]; omega
  have k2 : nV s = numAt s (16 + numAt s 15 1) 1 := by rw [nV, tkN, if_pos (by omega), e6]
  simp only [whB, Bool.and_eq_true, tkB, decide_eq_true_eq]
  refine ⟨⟨⟨⟨⟨⟨⟨?_, ?_⟩, ?_⟩, ?_⟩, ?_⟩, ?_⟩, ?_⟩, ?_⟩ <;> omega

end Go.Proofs.YtobnenjhmkbdoaaDoor.Row
