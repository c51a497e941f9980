/-
  Memory: where a slice begins.
-/
import Derived.Test.YtgohpompgiljiaaZ43
namespace Go.Proofs.Ytgohpompgiljiaa.Slot
open Go.RowKit

/-- where a slice from k on begins -/
def base (g k c : Nat) : Option Addr := if c = k then some ⟨g, 0, none⟩ else some ⟨g, k, none⟩
theorem base_lt {g k c : Nat} (h : k < c) : base g k c = some ⟨g, k, none⟩ := if_neg (by omega)
theorem base_any (g k c : Nat) : ∃ o, base g k c = some ⟨g, o, none⟩ := by
  unfold base; split
  · exact ⟨0, rfl⟩
  · exact ⟨k, rfl⟩

end Go.Proofs.Ytgohpompgiljiaa.Slot
