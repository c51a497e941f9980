/-
  Memory: slices of texts, of numbers: shapes (any stage).
-/
import Derived.Test.YtgohpompgiljiaaProg
import Derived.Test.YtgohpompgiljiaaZ16
namespace Go.Proofs.Ytgohpompgiljiaa.Seq

theorem one_of {v : Value} (h : v.oneCell' = true) : ∀ u ∈ [v], u.oneCell' = true := by
  intro u hu
  rw [List.mem_singleton.1 hu]
  exact h
set_option maxRecDepth 100000 in
/-- texts -/
def strS : Shp Try.prog ByteArray where
  t := 34
  e := 9
  k := 1
  zero := .string ⟨#[]⟩
  bytes := 16
  cells := fun s => [.string s]
  under := Try.underlying34
  info := by kernel_rfl
  zk := rfl
  kpos := by decide
  len := fun _ => rfl
  one := fun _ => one_of rfl
  small := by decide
  elem := by kernel_rfl
  size := fun _ => by kernel_rfl
theorem str_at {w : World} {a : Option Addr} {n cap : Nat} {l : List ByteArray} (h : Is strS w (.slice a n cap) l) {i : Nat} (hi : i < l.length) : ∃ b o, a = some ⟨b, o, none⟩ ∧ b < w.heap.size ∧ w.cell? ⟨b, o + i, none⟩ = some (.string l[i]) := by
  obtain ⟨b, o, h1, h2, h3⟩ := h.at (List.getElem?_eq_getElem hi)
  refine ⟨b, o, h1, h2, ?_⟩
  have := h3 0 (.string l[i]) rfl
  rw [show o + (i * strS.k + 0) = o + i from by show o + (i * 1 + 0) = _; omega] at this
  exact this

end Go.Proofs.Ytgohpompgiljiaa.Seq
