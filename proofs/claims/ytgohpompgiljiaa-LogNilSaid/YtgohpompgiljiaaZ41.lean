/-
  Walks: Sure.
-/
import Derived.Test.YtgohpompgiljiaaShelf
import Derived.Laws.OwnMore
import Derived.Test.YtgohpompgiljiaaZ40
namespace Go.Proofs.Ytgohpompgiljiaa.Disk
open Go.RowKit

set_option maxRecDepth 100000 in
theorem check_used {b : Nat} {w : World} (h0 : w.cell? ⟨b, 0, none⟩ = some (.pointer (some ⟨b, 0, none⟩))) :
    Calls Try.prog 71 #[.pointer (some ⟨b, 0, none⟩)] w fun e w' => e = .returned (.tuple #[]) ∧ w = w' := by
  obtain ⟨j, hj, _⟩ := Option.map_eq_some_iff.1 (show (Try.prog.info? 110).map (·.size) = some 2 by kernel_rfl)
  have q := fun w => Lib.run_neq_ptr_same (P := Try.prog) (w := w) ⟨b, 0, none⟩ Try.underlying108 hj
  clear hj
  go_enter Try.func71, Try.ntmps71
  go_wp2
  go_end0
  exact ⟨rfl, rfl⟩

set_option maxRecDepth 100000 in
theorem info5 : (Try.prog.info? 5).map (fun i => (i.zero, i.size, i.bytes)) = some (some (.int .u8 0), 1, 1) := by kernel_rfl

theorem take_flatten (ss : List (List UInt8)) (k : Nat) (h : k < ss.length) : Lib.byteCells (ss.take (k + 1)).flatten = Lib.byteCells (ss.take k).flatten ++ Lib.byteCells ss[k] := by
  rw [List.take_succ_eq_append_getElem h, List.flatten_append]
  simp [Lib.byteCells]
theorem flatten_len : ∀ (ss : List (List UInt8)), (∀ t ∈ ss, t.length = 128) → ss.flatten.length = ss.length * 128
  | [], _ => rfl
  | x :: r, h => by rw [List.flatten_cons, List.length_append, flatten_len r (fun t ht => h t (by simp [ht])), h x (by simp), List.length_cons]; omega

/-- the builder so far; nothing else has turned -/
def SureS (w : World) (d : D) (k : Nat) (wr : World) : Prop :=
  Lib.BuilderAt 110 5 w.heap.size w.heap.size (.pointer (some ⟨w.heap.size, 0, none⟩)) (Lib.byteCells (d.sure.take k).flatten) wr ∧ Below w.heap.size w wr

end Go.Proofs.Ytgohpompgiljiaa.Disk
