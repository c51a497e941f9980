/- What a scan hands back. -/
import Derived.Test.YtbcifefldmmaeaaFR30
import Derived.Test.YtbcifefldmmaeaaSTX0
namespace Go.Proofs.Ytbcifefldmmaeaa.Frame
open Go.RowKit
open Go.Proofs.Ytbcifefldmmaeaa.Slot (Tx SrcOf)
attribute [local go_sem ↓] Go.wp_at_zero Go.wp_at_succ

theorem below_new (w : World) (o : Obj) : Below w.heap.size w (w.alloc o) := (Below.refl _ _).alloc (Nat.le_refl _) o
/-- one that was just made, as append's second argument -/
theorem one_src {W : World} (T : ByteArray) : SrcOf (W.alloc (.cells #[.string T] 9)) (.slice (some ⟨W.heap.size, 0, none⟩) 1 1) 1 ([T].map Value.string) :=
  (Tx.made W (w := W) [T] (Nat.le_refl _) (by simp)).all
/-- a scan's answer -/
def ScnP (s : ByteArray) (lsn : Nat) (w : World) : Ending → World → Prop := fun e w' => ∃ v, e = .returned (.tuple #[v, .int .i64 ((scn s lsn).2.1 : Int), .int .i64 ((scn s lsn).2.2 : Int)]) ∧ Tx w w' v (scn s lsn).1 ∧ Below w.heap.size w w'
theorem ScnP.mk {s : ByteArray} {lsn : Nat} {w w' : World} {xs : List ByteArray} {u e : Nat} {v : Value} (h : scn s lsn = (xs, u, e)) (t : Tx w w' v xs) (b : Below w.heap.size w w') : ScnP s lsn w (.returned (.tuple #[v, .int .i64 (u : Int), .int .i64 (e : Int)])) w' := by
  refine ⟨v, ?_, ?_, b⟩
  · rw [h]
  · rw [h]; exact t

end Go.Proofs.Ytbcifefldmmaeaa.Frame
