/-
  Walks: an op that is read (the document): what a reader and a box keep.
  Walks: an op that is read (the document).
-/
import Derived.Test.YticnbicnefnhbaaZ9
import Derived.Test.YticnbicnefnhbaaZ6
import Derived.Test.YticnbicnefnhbaaZ4
namespace Go.Proofs.Yticnbicnefnhbaa.Op
open Go.RowKit
open Go.Proofs.Yticnbicnefnhbaa.Seq (strS Is)
open Go.Proofs.Yticnbicnefnhbaa.By

theorem Gb.far {W0 w w' : World} {g a : Nat} {s : ByteArray} {b : Bool} (h : Gb W0 w g s a b) (t : Below W0.heap.size w w') (hb : w'.heap[g]? = w.heap[g]?) : Gb W0 w' g s a b := ⟨hb.trans h.box, h.base, h.below.trans t⟩
theorem Gt.far {W0 w w' : World} {g B : Nat} {s : ByteArray} {r : Rd} (h : Gt W0 w g B s r) (t : Below W0.heap.size w w') (hb : w'.heap[g]? = w.heap[g]?) : Gt W0 w' g B s r := by
  obtain ⟨a, b, h1, h2⟩ := h
  exact ⟨a, b, h1.far t hb, h2⟩
theorem Gt.base {W0 w : World} {g B : Nat} {s : ByteArray} {r : Rd} (h : Gt W0 w g B s r) : W0.heap.size ≤ g ∧ g < w.heap.size ∧ Below W0.heap.size W0 w := by
  obtain ⟨a, b, h1, _⟩ := h
  exact ⟨h1.base, (Array.getElem?_eq_some_iff.1 h1.box).1, h1.below⟩
theorem Gt.later {W0 w w' : World} {g B : Nat} {s : ByteArray} {r : Rd} (h : Gt W0 w g B s r) (t : Below w.heap.size w w') : Gt W0 w' g B s r :=
  h.far (t.mono h.base.2.2.size) (t.block g h.base.2.1)
theorem Gt.set {W0 w : World} {g B n j : Nat} {s : ByteArray} {r : Rd} {z : Value} (h : Gt W0 w g B s r) (hn : W0.heap.size ≤ n) (hg : g ≠ n) : Gt W0 (w.setCell ⟨n, j, none⟩ z) g B s r :=
  h.far ((Below.refl _ _).setCell (p := ⟨n, j, none⟩) hn _) (heap_setCell_other _ _ _ _ hg)
theorem Left.mono {B B' : Nat} {s : ByteArray} {a : Nat} {b : Bool} {r : Rd} (h : Left B s a b r) (hB : B ≤ B') : Left B' s a b r := by
  rcases h with h | ⟨h1, h2, h3⟩
  · exact .inl h
  · exact .inr ⟨h1, h2, by omega⟩
theorem Gt.mono {W0 w : World} {g B B' : Nat} {s : ByteArray} {r : Rd} (h : Gt W0 w g B s r) (hB : B ≤ B') : Gt W0 w g B' s r := by
  obtain ⟨a, b, h1, h2⟩ := h
  exact ⟨a, b, h1, h2.mono hB⟩
/-- of one that has met no end the place says where it is -/
theorem Gt.good {W0 w : World} {g B B' : Nat} {s : ByteArray} {r : Rd} (h : Gt W0 w g B s r) (hr : r ≠ none) : Gt W0 w g B' s r := by
  obtain ⟨a, b, h1, h2⟩ := h
  rcases h2 with h2 | ⟨_, h3, _⟩
  · exact ⟨a, b, h1, .inl h2⟩
  · exact absurd h3 hr
theorem Gt.bad {W0 w : World} {g B : Nat} {s : ByteArray} {r : Rd} (h : Gt W0 w g B s r) : w.cell? ⟨g, 2, none⟩ = some (.bool r.isNone) := by
  obtain ⟨a, b, h1, h2⟩ := h
  rcases h2 with ⟨rfl, _, rfl⟩ | ⟨rfl, rfl, _⟩
  · exact h1.three.2.2
  · exact h1.three.2.2
theorem Gt.free {W0 w : World} {g B : Nat} {s : ByteArray} {r : Rd} (h : Gt W0 w g B s r) : w.frozen? ⟨g, 2, none⟩ = false := by
  obtain ⟨a, b, h1, _⟩ := h
  exact h1.free 2

/-- the result's box, and that of the op which is being read; what was touched -/
structure G1 (W1 w : World) (g h n : Nat) (q : O) (v : Value) : Prop where
  res : w.heap[h]? = some (.cells (oC O.zero nilV) 26 (0, 0))
  x : w.heap[n]? = some (.cells (oC q v) 26 (0, 0))
  t : Touch (fun x => x = g) W1 w
  gl : g < W1.heap.size
  hn : h < n
  hge : W1.heap.size ≤ h
section
variable {W1 w w' : World} {g h n : Nat} {q q' : O} {v v' : Value}
theorem G1.read (S : G1 W1 w g h n q v) (U : Touch (fun x => x = g) w w') : G1 W1 w' g h n q v := by
  have h1 := S.hge
  have h2 := S.gl
  have h3 := S.hn
  exact ⟨(U.block h (Array.getElem?_eq_some_iff.1 S.res).1 (by omega)).trans S.res, (U.block n (Array.getElem?_eq_some_iff.1 S.x).1 (by omega)).trans S.x, S.t.trans' U, S.gl, S.hn, S.hge⟩
theorem G1.later (S : G1 W1 w g h n q v) (t : Below w.heap.size w w') : G1 W1 w' g h n q v := S.read (Touch.ofNew t)
theorem G1.part (S : G1 W1 w g h n q v) (j : Nat) (z : Value) (e : (oC q v).setIfInBounds j z = oC q' v') : G1 W1 (w.setCell ⟨n, j, none⟩ z) g h n q' v' := by
  have h1 := S.hn
  have h2 := S.hge
  exact ⟨(heap_setCell_other _ _ _ _ (show h ≠ n by omega)).trans S.res, by rw [heap_setCell_same w n j _ _ _ S.x, e], ⟨S.t.os, S.t.tape, S.t.output, by simpa using S.t.size, fun b hb hF => by
    rw [heap_setCell_other _ _ _ _ (show b ≠ n by omega)]; exact S.t.block b hb hF⟩, S.gl, S.hn, S.hge⟩
theorem G1.nine (S : G1 W1 w g h n q v) :
    w.cell? ⟨n, 0, none⟩ = some (.int .u8 (q.kind : Int)) ∧ w.cell? ⟨n, 1, none⟩ = some (.int .u32 (q.page : Int)) ∧ w.cell? ⟨n, 2, none⟩ = some (.int .i64 q.at') ∧ w.cell? ⟨n, 3, none⟩ = some (.int .i64 q.off) ∧ w.cell? ⟨n, 4, none⟩ = some (.string q.text) ∧ w.cell? ⟨n, 5, none⟩ = some v ∧ w.cell? ⟨n, 6, none⟩ = some (.int .u8 (q.pkind : Int)) ∧ w.cell? ⟨n, 7, none⟩ = some (.int .u8 (q.level : Int)) ∧ w.cell? ⟨n, 8, none⟩ = some (.int .u32 (q.next : Int)) := by
  refine ⟨?_, ?_, ?_, ?_, ?_, ?_, ?_, ?_, ?_⟩ <;> (rw [cell_of_row _ _ _ _ _ _ S.x]; rfl)
theorem G1.free (S : G1 W1 w g h n q v) (j : Nat) : w.frozen? ⟨n, j, none⟩ = false := frozen_of_row _ _ _ _ _ S.x
theorem G1.gn (S : G1 W1 w g h n q v) : g ≠ n := by have := S.gl; have := S.hge; have := S.hn; omega
end
theorem G1.fin {W1 w : World} {g h n : Nat} {q : O} {v : Value} (S : G1 W1 w g h n q v) (cs : Array Value) : Touch (fun x => x = g) W1 (w.setRow h cs) := by
  have h2 := S.hge
  exact ⟨S.t.os, S.t.tape, S.t.output, by have := S.t.size; simpa [World.setRow] using this, fun b hb hF => by
    rw [setRow_other _ _ _ _ (by omega)]; exact S.t.block b hb hF⟩
theorem Gt.row {W0 w : World} {g B h : Nat} {s : ByteArray} {r : Rd} (G : Gt W0 w g B s r) (hh : W0.heap.size ≤ h) (hg : g ≠ h) (cs : Array Value) : Gt W0 (w.setRow h cs) g B s r :=
  G.far ⟨rfl, rfl, rfl, by simp [World.setRow], fun b hb => setRow_other _ _ _ _ (by omega)⟩ (setRow_other _ _ _ _ hg)
section
variable {W0 w : World} {g B : Nat} {s : ByteArray} {r r' : Rd} {x : Nat} {t : ByteArray}
theorem gn1 (G : Gt W0 w g B s r) (hs : s.size ≤ 100000) (hB : s.size ≤ B ∧ B ≤ 1000000000) (h : nV 1 r = (x, r')) : Calls Try.prog 35 #[.pointer (some ⟨g, 0, none⟩), .int .i64 1] w fun e w' => e = .returned (.int .i64 (x : Int)) ∧ Gt W0 w' g (B + 8) s r' ∧ Touch (fun x => x = g) w w' := by
  have := gnum1 G hs hB
  rw [h] at this
  exact this
theorem gn2 (G : Gt W0 w g B s r) (hs : s.size ≤ 100000) (hB : s.size ≤ B ∧ B ≤ 1000000000) (h : nV 2 r = (x, r')) : Calls Try.prog 35 #[.pointer (some ⟨g, 0, none⟩), .int .i64 2] w fun e w' => e = .returned (.int .i64 (x : Int)) ∧ Gt W0 w' g (B + 8) s r' ∧ Touch (fun x => x = g) w w' := by
  have := gnum2 G hs hB
  rw [h] at this
  exact this
theorem gn4 (G : Gt W0 w g B s r) (hs : s.size ≤ 100000) (hB : s.size ≤ B ∧ B ≤ 1000000000) (h : nV 4 r = (x, r')) : Calls Try.prog 35 #[.pointer (some ⟨g, 0, none⟩), .int .i64 4] w fun e w' => e = .returned (.int .i64 (x : Int)) ∧ Gt W0 w' g (B + 8) s r' ∧ Touch (fun x => x = g) w w' := by
  have := gnum4 G hs hB
  rw [h] at this
  exact this
theorem gtx (G : Gt W0 w g B s r) (hs : s.size ≤ 100000) (hB : s.size ≤ B ∧ B ≤ 900000000) (h : tV r = (t, r')) : Calls Try.prog 56 #[.pointer (some ⟨g, 0, none⟩)] w fun e w' => e = .returned (.string t) ∧ Gt W0 w' g (B + 70000) s r' ∧ Touch (fun x => x = g) w w' := by
  have := gtext_any G hs hB
  rw [h] at this
  exact this
theorem nx_lt {m : Nat} (h : nV m r = (x, r')) : x < 256 ^ m := by
  have := nV_lt m r
  rw [h] at this
  exact this
theorem nx1 (h : nV 1 r = (x, r')) : x < 256 := nx_lt h
theorem nx2 (h : nV 2 r = (x, r')) : x < 65536 := nx_lt h
theorem nx4 (h : nV 4 r = (x, r')) : x < 4294967296 := nx_lt h
end
/-- texts that are read are short -/
theorem tV_le (r : Rd) : (tV r).1.size < 65536 := by
  have h := nV_lt 2 r
  unfold tV
  rw [T_size]
  have : (cV (nV 2 r).1 (nV 2 r).2).1.length ≤ (nV 2 r).1 := by
    cases (nV 2 r).2 with
    | none => exact Nat.zero_le _
    | some l =>
      show (if (nV 2 r).1 ≤ l.length then (l.take (nV 2 r).1, some (l.drop (nV 2 r).1)) else ([], none)).1.length ≤ _
      split
      · rw [List.length_take]; omega
      · exact Nat.zero_le _
  have e : 256 ^ 2 = 65536 := by decide
  omega

end Go.Proofs.Yticnbicnefnhbaa.Op

namespace Go.Proofs.Yticnbicnefnhbaa.Op
open Go.RowKit
open Go.Proofs.Yticnbicnefnhbaa.Seq (strS Is Own)
open Go.Proofs.Yticnbicnefnhbaa.By
attribute [local go_sem ↓] Go.wp_at_zero Go.wp_at_succ

/-- what reading an op answers -/
def OneP (W0 w : World) (g B : Nat) (s : ByteArray) (r : Rd) : Ending → World → Prop := fun e w' => ∃ o u, e = .returned (oV o u) ∧ In w' o u ∧ Own strS w w' u o.rows ∧ Gt W0 w' g (B + 200000) s (opV r).2 ∧ Touch (fun x => x = g) w w' ∧ ((opV r).2 ≠ none → o = (opV r).1)
/-- an op without rows may lie anywhere -/
theorem in_plain {w : World} {o : O} (h : o.wf) (ha : 0 ≤ o.at' ∧ o.at' ≤ 65536) (hf : 0 ≤ o.off ∧ o.off ≤ 65536) (ht : o.text.size ≤ 65536) (hr : o.rows = []) : In w o nilV :=
  ⟨h, by omega, by omega, by omega, by rw [hr]; exact Is.nil w, by rw [hr]; exact Nat.zero_le _, fun r hr' => by rw [hr] at hr'; cases hr'⟩
theorem one_end {W0 w W : World} {g h n B B' : Nat} {s : ByteArray} {r r' : Rd} {q : O} {v : Value} (S : G1 w W g h n q v) (G : Gt W0 W g B' s r') (hB : B' ≤ B + 200000) (hW : W0.heap.size ≤ w.heap.size) (hi : In (W.setRow h (oC q v)) q v) (ho : Own strS w (W.setRow h (oC q v)) v q.rows) (he : opV r = (q, r') ∨ (opV r).2 = none ∧ r' = none) : OneP W0 w g B s r (.returned (oV q v)) (W.setRow h (oC q v)) := by
  have h1 := S.hge
  have h2 := S.gl
  refine ⟨q, v, rfl, hi, ho, ?_, S.fin _, ?_⟩
  · rcases he with he | ⟨h3, h4⟩
    · rw [he]; exact (G.row (by omega) (by omega) _).mono hB
    · rw [h3, ← h4]; exact (G.row (by omega) (by omega) _).mono hB
  · intro hn
    rcases he with he | ⟨h3, _⟩
    · rw [he]
    · exact absurd h3 hn

end Go.Proofs.Yticnbicnefnhbaa.Op
