/-
  Walks: an op that is read (the document): what a reader and a box keep.
  Walks: an op that is read (the document).
-/
import Derived.Test.YtfcibccipkokoaaZ9
import Derived.Test.YtfcibccipkokoaaZ6
import Derived.Test.YtfcibccipkokoaaZ4
namespace Go.Proofs.Ytfcibccipkokoaa.Op
open Go.RowKit
open Go.Proofs.Ytfcibccipkokoaa.Seq (strS Is)
open Go.Proofs.Ytfcibccipkokoaa.By

theorem Left.mono {B B' : Nat} {s : ByteArray} {a : Nat} {b : Bool} {r : Rd} (h : Left B s a b r) (hB : B ≤ B') : Left B' s a b r := by
  rcases h with h | ⟨h1, h2, h3⟩
  · exact .inl h
  · exact .inr ⟨h1, h2, by omega⟩
/-- the result's box, and that of the op which is being read; what was touched -/
structure G1 (W1 w : World) (g h n : Nat) (q : O) (v : Value) : Prop where
  res : w.heap[h]? = some (.cells (oC O.zero nilV) 36 (0, 0))
  x : w.heap[n]? = some (.cells (oC q v) 36 (0, 0))
  t : Touch (fun x => x = g) W1 w
  gl : g < W1.heap.size
  hn : h < n
  hge : W1.heap.size ≤ h
section
variable {W1 w w' : World} {g h n : Nat} {q q' : O} {v v' : Value}
theorem G1.read (S : G1 W1 w g h n q v) (U : Touch (fun x => x = g) w w') : G1 W1 w' g h n q v := by
  have h1 := S.hge
  have h2 := S.gl
  have h3 := S.hn
  exact ⟨(U.block h (Array.getElem?_eq_some_iff.1 S.res).1 (by omega)).trans S.res, (U.block n (Array.getElem?_eq_some_iff.1 S.x).1 (by omega)).trans S.x, S.t.trans' U, S.gl, S.hn, S.hge⟩
theorem G1.later (S : G1 W1 w g h n q v) (t : Below w.heap.size w w') : G1 W1 w' g h n q v := S.read (Touch.ofNew t)
theorem G1.part (S : G1 W1 w g h n q v) (j : Nat) (z : Value) (e : (oC q v).setIfInBounds j z = oC q' v') : G1 W1 (w.setCell ⟨n, j, none⟩ z) g h n q' v' := by
  have h1 := S.hn
  have h2 := S.hge
  exact ⟨(heap_setCell_other _ _ _ _ (show h ≠ n by omega)).trans S.res, by rw [heap_setCell_same w n j _ _ _ S.x, e], ⟨S.t.os, S.t.tape, S.t.output, by simpa using S.t.size, fun b hb hF => by
    rw [heap_setCell_other _ _ _ _ (show b ≠ n by omega)]; exact S.t.block b hb hF⟩, S.gl, S.hn, S.hge⟩
theorem G1.nine (S : G1 W1 w g h n q v) :
    w.cell? ⟨n, 0, none⟩ = some (.int .u8 (q.kind : Int)) ∧ w.cell? ⟨n, 1, none⟩ = some (.int .u32 (q.page : Int)) ∧ w.cell? ⟨n, 2, none⟩ = some (.int .i64 q.at') ∧ w.cell? ⟨n, 3, none⟩ = some (.int .i64 q.off) ∧ w.cell? ⟨n, 4, none⟩ = some (.string q.text) ∧ w.cell? ⟨n, 5, none⟩ = some v ∧ w.cell? ⟨n, 6, none⟩ = some (.int .u8 (q.pkind : Int)) ∧ w.cell? ⟨n, 7, none⟩ = some (.int .u8 (q.level : Int)) ∧ w.cell? ⟨n, 8, none⟩ = some (.int .u32 (q.next : Int)) := by
  refine ⟨?_, ?_, ?_, ?_, ?_, ?_, ?_, ?_, ?_⟩ <;> (rw [cell_of_row _ _ _ _ _ _ S.x]; rfl)
theorem G1.free (S : G1 W1 w g h n q v) (j : Nat) : w.frozen? ⟨n, j, none⟩ = false := frozen_of_row _ _ _ _ _ S.x
theorem G1.gn (S : G1 W1 w g h n q v) : g ≠ n := by have := S.gl; have := S.hge; have := S.hn; omega
end
theorem G1.fin {W1 w : World} {g h n : Nat} {q : O} {v : Value} (S : G1 W1 w g h n q v) (cs : Array Value) : Touch (fun x => x = g) W1 (w.setRow h cs) := by
  have h2 := S.hge
  exact ⟨S.t.os, S.t.tape, S.t.output, by have := S.t.size; simpa [World.setRow] using this, fun b hb hF => by
    rw [setRow_other _ _ _ _ (by omega)]; exact S.t.block b hb hF⟩
section
variable {W0 w : World} {g B : Nat} {s : ByteArray} {r r' : Rd} {x : Nat} {t : ByteArray}
theorem nx_lt {m : Nat} (h : nV m r = (x, r')) : x < 256 ^ m := by
  have := nV_lt m r
  rw [h] at this
  exact this
theorem nx1 (h : nV 1 r = (x, r')) : x < 256 := nx_lt h
theorem nx2 (h : nV 2 r = (x, r')) : x < 65536 := nx_lt h
theorem nx4 (h : nV 4 r = (x, r')) : x < 4294967296 := nx_lt h
end
/-- texts that are read are short -/
theorem tV_le (r : Rd) : (tV r).1.size < 65536 := by
  have h := nV_lt 2 r
  unfold tV
  rw [T_size]
  have : (cV (nV 2 r).1 (nV 2 r).2).1.length ≤ (nV 2 r).1 := by
    cases (nV 2 r).2 with
    | none => exact Nat.zero_le _
    | some l =>
      show (if (nV 2 r).1 ≤ l.length then (l.take (nV 2 r).1, some (l.drop (nV 2 r).1)) else ([], none)).1.length ≤ _
      split
      · rw [List.length_take]; omega
      · exact Nat.zero_le _
  have e : 256 ^ 2 = 65536 := by decide
  omega

end Go.Proofs.Ytfcibccipkokoaa.Op

namespace Go.Proofs.Ytfcibccipkokoaa.Op
open Go.RowKit
open Go.Proofs.Ytfcibccipkokoaa.Seq (strS Is Own)
open Go.Proofs.Ytfcibccipkokoaa.By
attribute [local go_sem ↓] Go.wp_at_zero Go.wp_at_succ

/-- an op without rows may lie anywhere -/
theorem in_plain {w : World} {o : O} (h : o.wf) (ha : 0 ≤ o.at' ∧ o.at' ≤ 65536) (hf : 0 ≤ o.off ∧ o.off ≤ 65536) (ht : o.text.size ≤ 65536) (hr : o.rows = []) : In w o nilV :=
  ⟨h, by omega, by omega, by omega, by rw [hr]; exact Is.nil w, by rw [hr]; exact Nat.zero_le _, fun r hr' => by rw [hr] at hr'; cases hr'⟩
end Go.Proofs.Ytfcibccipkokoaa.Op
