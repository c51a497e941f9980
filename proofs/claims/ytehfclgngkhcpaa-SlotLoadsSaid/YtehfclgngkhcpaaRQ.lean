/- Memory: what a call of the document's area leaves. -/
import Derived.Test.YtehfclgngkhcpaaRD
namespace Go.Proofs.Ytehfclgngkhcpaa.Slot
open Go.RowKit

theorem Dl.shape3 {w : World} {v : Value} {l : List (Nat × Nat)} (h : Dl w v l) : ∃ ad n cap, v = .slice ad n cap := by
  obtain ⟨ad, cap, rfl⟩ := h.shape
  exact ⟨ad, _, cap, rfl⟩
/-- a call of the document's area: what it leaves -/
def QP (w : World) (q : Nat) (F : Nat → Prop) (a : A) (w' : World) : Prop := Rf w' q a (grew F w w') ∧ Touch F w w'
theorem QP.of {w w' : World} {q : Nat} {F : Nat → Prop} {a : A} (h : Rf w' q a F ∧ Touch F w w') : QP w q F a w' := ⟨h.1.grown, h.2⟩

theorem QP.dir {w w4 : World} {q : Nat} {F : Nat → Prop} {a : A} (H : Rf w q a F) (B4 : Below w.heap.size w w4) {v4 : Value} {l : List (Nat × Nat)} (t4 : Dl w4 v4 l) (b4 : ∀ b, v4.ownBlock = some b → w.heap.size ≤ b) : QP w q F ⟨a.cells, a.low, l⟩ (w4.setCell ⟨q, 2, none⟩ v4) := by
  have h1 := ((H.later B4).grown (w0 := w)).newDir t4 (fun b hb => .inr ⟨b4 b hb, (t4.lt b hb).2⟩)
  obtain ⟨_, _, _, _, f1, _⟩ := H.lay
  refine ⟨h1.1.mono ?_ ?_, (Touch.ofNew B4).setCell (x := ⟨q, 2, none⟩) f1 _⟩
  · rintro b (hb | hb)
    · exact .inl hb
    · exact .inr ⟨hb.1, by simpa using hb.2⟩
  · rintro b (hb | hb)
    · exact h1.1.below b (.inl hb)
    · exact hb.2
theorem QP.step {w w1 w2 : World} {q : Nat} {F : Nat → Prop} {a b : A} (h1 : QP w q F a w1) (h2 : Rf w2 q b (grew F w w1) ∧ Touch (grew F w w1) w1 w2) : QP w q F b w2 :=
  ⟨h2.1.mono (by
    rintro x (hx | hx)
    · exact .inl hx
    · exact .inr ⟨hx.1, Nat.lt_of_lt_of_le hx.2 h2.2.size⟩) (by
    rintro x (hx | hx)
    · exact h2.1.below x (.inl hx)
    · exact hx.2), h1.2.step h2.2⟩
theorem QP.next {w w1 w2 : World} {q : Nat} {F : Nat → Prop} {a b : A} (h1 : QP w q F a w1) (h2 : QP w1 q (grew F w w1) b w2) : QP w q F b w2 :=
  ⟨h2.1.mono (by
    rintro x ((hx | hx) | hx)
    · exact .inl hx
    · exact .inr ⟨hx.1, Nat.lt_of_lt_of_le hx.2 h2.2.size⟩
    · exact .inr ⟨Nat.le_trans h1.2.size hx.1, hx.2⟩) (by
    rintro x (hx | hx)
    · exact h2.1.below x (.inl (.inl hx))
    · exact hx.2), h1.2.step h2.2⟩
theorem QP.later {w w1 w2 : World} {q : Nat} {F : Nat → Prop} {a : A} (h1 : QP w q F a w1) (t : Below w1.heap.size w1 w2) : QP w q F a w2 :=
  h1.step ⟨h1.1.later t, Touch.ofNew t⟩

section
variable {w : World} {q : Nat} {a : A} {F : Nat → Prop}
theorem Rf.cell0 (H : Rf w q a F) : ∃ h cB, w.cell? ⟨q, 0, none⟩ = some (.slice (some ⟨h, 0, none⟩) a.n cB) := by
  obtain ⟨h, cB, v, L, _⟩ := H.lay
  exact ⟨h, cB, L.cell0⟩
theorem Rf.len_cell (H : Rf w q a F) : ∃ ad cap, w.cell? ⟨q, 2, none⟩ = some (.slice ad a.dir.length cap) := by
  obtain ⟨h, cB, v, L, _⟩ := H.lay
  obtain ⟨ad, cap, rfl⟩ := L.dl.shape
  exact ⟨ad, cap, L.cell2⟩
theorem Rf.lt (H : Rf w q a F) : q < w.heap.size := by
  obtain ⟨h, cB, v, L, f1, _⟩ := H.lay
  exact H.below q f1
end

end Go.Proofs.Ytehfclgngkhcpaa.Slot
