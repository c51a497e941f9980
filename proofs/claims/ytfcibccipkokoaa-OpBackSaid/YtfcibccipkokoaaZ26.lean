/-
  Walks: an op that is read (the document): rows that are filled in.
-/
import Derived.Deep.RegionLaw
import Derived.Test.YtfcibccipkokoaaZ10
namespace Go.Proofs.Ytfcibccipkokoaa.Op
open Go.RowKit
open Go.Proofs.Ytfcibccipkokoaa.Seq (strS Is Own one_src step_app)
open Go.Proofs.Ytfcibccipkokoaa.By
attribute [local go_sem ↓] Go.wp_at_zero Go.wp_at_succ

theorem tsV_succ (k : Nat) (r : Rd) : tsV (k + 1) r = ((tV r).1 :: (tsV k (tV r).2).1, (tsV k (tV r).2).2) := rfl
/-- an op of rows -/
def fillO (k p : Nat) (xs : List ByteArray) : O := { kind := k, page := p, at' := 0, off := 0, text := ⟨#[]⟩, rows := xs, pkind := 0, level := 0, next := 0 }
section
variable {W0 w wr w' : World} {g h n B : Nat} {s : ByteArray} {k p N i : Nat} {rq r' r'' : Rd} {xs : List ByteArray} {v v' : Value} {t : ByteArray}
/-- it is appended -/
theorem G1.grown {q : O} (S : G1 w wr g h n q v) (O : Own strS w wr v xs) (gw : wr.grownBy w' v.ownBlock) : G1 w w' g h n q v := by
  have e : (36 : TypeId) ≠ strS.e := by decide
  have h1 := S.hge
  have h2 := S.gl
  refine ⟨(gw.block h (Array.getElem?_eq_some_iff.1 S.res).1 fun e2 => O.ne S.res e h e2.symm rfl).trans S.res, (gw.block n (Array.getElem?_eq_some_iff.1 S.x).1 fun e2 => O.ne S.x e n e2.symm rfl).trans S.x, ?_, S.gl, S.hn, S.hge⟩
  exact ⟨gw.os.trans S.t.os, gw.tape.trans S.t.tape, gw.output.trans S.t.output, Nat.le_trans S.t.size gw.size, fun b hb hF => (gw.block b (Nat.lt_of_lt_of_le hb S.t.size) fun e2 => by have := (O.lt b e2.symm).1; omega).trans (S.t.block b hb hF)⟩
theorem own_part {q : O} {xs : List ByteArray} {v' z : Value} {j : Nat} (S : G1 w wr g h n q v) (O : Own strS w wr v' xs) : Own strS w (wr.setCell ⟨n, j, none⟩ z) v' xs := by
  have e : (36 : TypeId) ≠ strS.e := by decide
  exact O.far (by simp) fun x hx => heap_setCell_other _ _ _ _ (O.ne S.x e x hx)
theorem own_row {q : O} {xs : List ByteArray} {v' : Value} {cs : Array Value} (S : G1 w wr g h n q v) (O : Own strS w wr v' xs) : Own strS w (wr.setRow h cs) v' xs := by
  have e : (36 : TypeId) ≠ strS.e := by decide
  exact O.far (by simp [World.setRow]) fun x hx => setRow_other _ _ _ _ (O.ne S.res e x hx)
end

end Go.Proofs.Ytfcibccipkokoaa.Op
