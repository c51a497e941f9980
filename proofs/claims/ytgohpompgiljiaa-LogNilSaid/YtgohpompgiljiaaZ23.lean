/-
  Plain mathematics: what the bytes of a frame are once its length and its place are right; places that do not begin anew.
-/
import Derived.Test.YtgohpompgiljiaaZ22
namespace Go.Proofs.Ytgohpompgiljiaa.Frame
open Go.Proofs.Ytgohpompgiljiaa.Sum (le4 sumOf val)

/-- the code's test: is the whole frame what would be written? -/
theorem whole_iff {t : ByteArray} {lsn : Nat} (h1 : 1 ≤ nF t) (h2 : nF t ≤ 4096) (h3 : aF t = lsn) (h4 : 0 < lsn) (h5 : 14 + nF t ≤ t.size) :
    decide (L (encF lsn (t.extract 14 (14 + nF t))) = L (t.extract 0 (14 + nF t))) = okF t := by
  have hz : (t.extract 14 (14 + nF t)).size = nF t := by rw [ByteArray.size_extract]; omega
  have hm : mayF lsn (t.extract 14 (14 + nF t)) = true := may_iff.2 ⟨by omega, by omega, h4⟩
  have hl : (L t).length = t.size := rfl
  have hd : hdF lsn (t.extract 14 (14 + nF t)) = t.extract 0 10 := by
    apply L_ext
    unfold hdF
    rw [hz, L_app, L_nb, L_nb, L_cut, List.drop_zero]
    have e1 : be 2 (nF t) = (L t).take 2 := be_num 2 _ (by rw [List.length_take]; omega)
    have e2 : be 8 lsn = ((L t).drop 2).take 8 := by rw [← h3]; exact be_num 8 _ (by rw [List.length_take, List.length_drop]; omega)
    rw [e1, e2, ← List.take_append_drop 2 ((L t).take (10 - 0)), List.take_take, List.drop_take]
    congr 1
  have e : encF lsn (t.extract 14 (14 + nF t)) = t.extract 0 10 ++ sb (sumOf (L (t.extract 0 10 ++ t.extract 14 (14 + nF t)))) ++ t.extract 14 (14 + nF t) := by
    unfold encF
    rw [if_pos hm]
    unfold bodF
    rw [hd]
  have f : L (t.extract 0 (14 + nF t)) = L (t.extract 0 10) ++ L (t.extract 10 14) ++ L (t.extract 14 (14 + nF t)) := by
    simp only [L_cut, List.drop_zero, Nat.sub_zero]
    rw [show 14 + nF t - 14 = nF t from by omega, show 14 - 10 = 4 from rfl]
    rw [show 14 + nF t = 10 + (4 + nF t) from by omega, List.take_add, List.take_add, List.drop_drop, List.append_assoc]
  unfold okF
  rw [e, f, L_app, L_app]
  generalize sb _ = c
  apply decide_eq_decide.2
  constructor
  · intro k
    exact (List.append_cancel_left (List.append_cancel_right k))
  · intro k
    rw [k]

/-- the place behind: 0 where no number is left -/
def beh (lsn u : Nat) : Nat := if lsn + u < 18446744073709551616 then lsn + u else 0
theorem beh_of {lsn u : Nat} (h : lsn + u < 18446744073709551616) : beh lsn u = up lsn u := by unfold beh; rw [if_pos h, up_of h]

end Go.Proofs.Ytgohpompgiljiaa.Frame
