/-
  Walks: the document's frames: numbers' bytes, sums' bytes.
  Walks: the document's frame.
  What numbers at places are in a frame; what a text that is none of a frame's is.
  What a scan hands back.
-/
import Derived.BigQuiet
import Derived.Deep.QuietTactic
import Derived.Deep.DrawnRows
import Derived.Deep.RegionHeld3
import Derived.Deep.DeepCutAuto
import Derived.Outline
import Derived.Test.YtgohpompgiljiaaZ20
import Derived.Test.YtgohpompgiljiaaZ10
import Derived.Test.YtgohpompgiljiaaZ32
import Derived.Test.YtgohpompgiljiaaZ33
import Derived.Test.YtgohpompgiljiaaZ34
import Derived.Test.YtgohpompgiljiaaZ45
namespace Go.Proofs.Ytgohpompgiljiaa.Frame
open Go.RowKit
open Go.Proofs.Ytgohpompgiljiaa.Sum (le4 sumOf sumOf_lt byteAt byteAt_low quo_step le4_take)
attribute [local go_sem ↓] Go.wp_at_zero Go.wp_at_succ

theorem putS_nb {n m : Nat} (h1 : 1 ≤ m) (h8 : m ≤ 8) (hn : n < 256 ^ m) : putS (n : Int) (m : Int) = nb m n := by
  have h : (n : Int) / 2 ^ (8 * m) = 0 := by
    have : n / 2 ^ (8 * m) = 0 := Nat.div_eq_of_lt (by rw [pow256]; exact hn)
    have e : ((n / 2 ^ (8 * m) : Nat) : Int) = 0 := by rw [this]; rfl
    rw [← e]; simp
  have hb : putB (n : Int) (m : Int) = true := by
    unfold putB
    rw [Int.toNat_natCast, h]
    exact decide_eq_true ⟨by omega, by omega, rfl⟩
  unfold putS
  rw [if_pos hb]
  unfold bytesOf nb
  rw [Int.toNat_natCast, Int.toNat_natCast]
theorem u64_of {n m : Nat} (h8 : m ≤ 8) (hn : n < 256 ^ m) : U64 (n : Int) := by
  have : 256 ^ m ≤ 256 ^ 8 := Nat.pow_le_pow_right (by omega) h8
  have e : (256 : Nat) ^ 8 = 18446744073709551616 := by decide
  unfold U64
  omega
theorem take_set {u v : List UInt8} {k : Nat} {b : UInt8} (hu : k < u.length) (h : u.take k = v.take k) (hv : v.take (k + 1) = v.take k ++ [b]) : (u.set k b).take (k + 1) = v.take (k + 1) := by
  rw [hv, ← h, List.take_succ_eq_append_getElem (by rw [List.length_set]; exact hu), List.take_set_of_le (Nat.le_refl _), List.getElem_set_self]
theorem four_in (w : World) : HoldU w.heap.size [0, 0, 0, 0] w (w.alloc (.cells #[.int .u8 0, .int .u8 0, .int .u8 0, .int .u8 0] 5)) := by
  refine ⟨?_, ?_, (Below.refl _ w).alloc (Nat.le_refl _) _⟩
  · intro j hj
    rw [cell_of_row _ _ _ _ _ _ (heap_alloc_new w _)]
    match j, hj with
    | 0, _ => rfl
    | 1, _ => rfl
    | 2, _ => rfl
    | 3, _ => rfl
  · intro j _
    exact frozen_of_row _ _ _ _ _ (heap_alloc_new w _)

end Go.Proofs.Ytgohpompgiljiaa.Frame

namespace Go.Proofs.Ytgohpompgiljiaa.Frame
open Go.RowKit
open Go.Proofs.Ytgohpompgiljiaa.Sum (sumOf)
attribute [local go_sem ↓] Go.wp_at_zero Go.wp_at_succ

theorem mayF_no {lsn : Nat} {s : ByteArray} (h : s.size < 1 ∨ 4096 < s.size ∨ lsn = 0) : encF lsn s = ⟨#[]⟩ ∧ encE lsn s = 2 := by
  have hb : mayF lsn s = false := by unfold mayF; rw [decide_eq_false_iff_not]; omega
  unfold encF encE
  rw [if_neg (by rw [hb]; decide), if_neg (by rw [hb]; decide)]
  exact ⟨rfl, rfl⟩
theorem mayF_yes {lsn : Nat} {s : ByteArray} (h1 : ¬ s.size < 1) (h2 : ¬ 4096 < s.size) (h3 : 0 < lsn) : mayF lsn s = true ∧ encF lsn s = bodF lsn s ∧ encE lsn s = 0 := by
  have hb : mayF lsn s = true := by unfold mayF; rw [decide_eq_true_iff]; omega
  unfold encF encE
  rw [if_pos hb, if_pos hb]
  exact ⟨hb, rfl, rfl⟩

end Go.Proofs.Ytgohpompgiljiaa.Frame

namespace Go.Proofs.Ytgohpompgiljiaa.Frame
open Go.RowKit
open Go.Proofs.Ytgohpompgiljiaa.Sum (sumOf)
attribute [local go_sem ↓] Go.wp_at_zero Go.wp_at_succ

theorem numAt_F {s : ByteArray} : numAt s 0 2 = nF s ∧ numAt s 2 8 = aF s := by
  unfold numAt nF aF
  rw [List.drop_zero]
  exact ⟨rfl, rfl⟩
theorem get_F {s : ByteArray} (h : 14 ≤ s.size) : getN s 0 2 = (nF s : Int) ∧ getN s 2 8 = (aF s : Int) := by
  have e1 : getB s 0 2 = true := by unfold getB mayB hasB; simp; omega
  have e2 : getB s 2 8 = true := by unfold getB mayB hasB; simp; omega
  unfold getN
  rw [if_pos e1, if_pos e2]
  exact ⟨congrArg Nat.cast numAt_F.1, congrArg Nat.cast numAt_F.2⟩
theorem dec_err {s : ByteArray} {lsn e : Nat} (h : decE s lsn = e) (he : e ≠ 0) : decS s lsn = ⟨#[]⟩ ∧ decU s lsn = 0 := by
  unfold decS decU
  rw [if_neg (by omega), if_neg (by omega)]
  exact ⟨rfl, rfl⟩
theorem dec_ok {s : ByteArray} {lsn : Nat} (h : decE s lsn = 0) : decS s lsn = s.extract 14 (14 + nF s) ∧ decU s lsn = 14 + nF s := by
  unfold decS decU
  rw [if_pos h, if_pos h]
  exact ⟨rfl, rfl⟩
theorem beq_no {s t : ByteArray} (h : s ≠ t) : (s.toList == t.toList) = false := by
  rw [beq_eq_false_iff_ne]
  intro e
  rw [Lib.toList_data, Lib.toList_data] at e
  exact h (L_ext e)
theorem small {x y : Nat} (h : x + y ≤ 9223372036854775807) : (9223372036854775807 < x + y) = False := by simp only [eq_iff_iff, iff_false]; omega
theorem ne_of_list {x y : ByteArray} : (x.toList == y.toList) = decide (L x = L y) := by
  by_cases h : x = y
  · subst h
    simp
  · rw [beq_no h, decide_eq_false (fun e => h (L_ext e))]

end Go.Proofs.Ytgohpompgiljiaa.Frame

namespace Go.Proofs.Ytgohpompgiljiaa.Frame
open Go.RowKit
open Go.Proofs.Ytgohpompgiljiaa.Slot (Tx SrcOf)
attribute [local go_sem ↓] Go.wp_at_zero Go.wp_at_succ

theorem below_new (w : World) (o : Obj) : Below w.heap.size w (w.alloc o) := (Below.refl _ _).alloc (Nat.le_refl _) o
/-- one that was just made, as append's second argument -/
theorem one_src {W : World} (T : ByteArray) : SrcOf (W.alloc (.cells #[.string T] 9)) (.slice (some ⟨W.heap.size, 0, none⟩) 1 1) 1 ([T].map Value.string) :=
  (Tx.made W (w := W) [T] (Nat.le_refl _) (by simp)).all
/-- a scan's answer -/
def ScnP (s : ByteArray) (lsn : Nat) (w : World) : Ending → World → Prop := fun e w' => ∃ v, e = .returned (.tuple #[v, .int .i64 ((scn s lsn).2.1 : Int), .int .i64 ((scn s lsn).2.2 : Int)]) ∧ Tx w w' v (scn s lsn).1 ∧ Below w.heap.size w w'
theorem ScnP.mk {s : ByteArray} {lsn : Nat} {w w' : World} {xs : List ByteArray} {u e : Nat} {v : Value} (h : scn s lsn = (xs, u, e)) (t : Tx w w' v xs) (b : Below w.heap.size w w') : ScnP s lsn w (.returned (.tuple #[v, .int .i64 (u : Int), .int .i64 (e : Int)])) w' := by
  refine ⟨v, ?_, ?_, b⟩
  · rw [h]
  · rw [h]; exact t

end Go.Proofs.Ytgohpompgiljiaa.Frame
