/-
  No dump: a walk by 'quiet' operations serves where a 'still' one is asked.
-/
import Derived.BigQuiet
import Derived.Deep.QuietTactic
import Derived.StillTailTactics
namespace Go.Proofs.Ytgohpompgiljiaa
variable {P : Program} {ops : Array Oper} {w : World} {Q : Act → Prop}

theorem still_of_quiet_op {o : Oper} {a : Act} {K : Act → Prop} (h : o.quiet P a (fun w' => w' = w) K) : o.still P a w K := by
  obtain ⟨v, hv, hk⟩ := h
  have h := hv w rfl
  unfold Oper.quietAt at h
  unfold Oper.still
  generalize (execOp a.eval o).run P w = r at *
  cases r with
  | ok n w' =>
    cases n <;> simp only [Oper.quietUpon] at h <;> simp only [Oper.stillUpon]
    case value u => exact ⟨h.1, by rw [h.2]; exact hk⟩
    case skip => exact ⟨h.1, by rw [← h.2]; exact hk⟩
    case enter f args => exact ⟨h.1, v, h.2, hk⟩
  | _ => simp only [Oper.quietUpon] at h
theorem still_of_quiet : ∀ (l : List Oper) (a : Act), wpQuiet P ops (fun w' => w' = w) Q l a → wpStill P ops w Q l a
  | [], _, h => h
  | o :: rest, a, h => by
    unfold wpQuiet at h
    unfold wpStill
    split
    · rename_i hw
      rw [if_pos hw] at h
      exact still_of_quiet_op (Oper.quiet_mono (fun a => still_of_quiet rest a) h)
    · rename_i hw
      rw [if_neg hw] at h
      exact still_of_quiet rest _ h

end Go.Proofs.Ytgohpompgiljiaa
