/- Walks: Heavy. -/
import Derived.Test.YtfcibccipkokoaaDF
import Derived.BigQuiet
import Derived.Deep.QuietTactic
import Derived.IntWalk
namespace Go.Proofs.Ytfcibccipkokoaa.Disk
open Go.RowKit

def weight (l : List Cl) : Nat := (l.map fun c => c.s.size + c.keep.length).sum
theorem weight_take (l : List Cl) (k : Nat) (h : k < l.length) : weight (l.take (k + 1)) = weight (l.take k) + l[k].s.size + l[k].keep.length := by
  unfold weight
  rw [List.take_succ_eq_append_getElem h, List.map_append, List.sum_append]
  simp
  omega
theorem weight_le : ∀ (l : List Cl), (∀ c ∈ l, c.s.size ≤ 140737488351232 ∧ c.keep.length ≤ 140737488351232) → weight l ≤ l.length * 281474976702464
  | [], _ => by simp [weight]
  | c :: r, h => by
    have h1 := weight_le r (fun x hx => h x (by simp [hx]))
    have h2 := h c (by simp)
    have e : weight (c :: r) = c.s.size + c.keep.length + weight r := by simp [weight]
    rw [e, List.length_cons]
    omega
theorem weight_mem {l : List Cl} {c : Cl} (h : c ∈ l) : c.s.size + c.keep.length ≤ weight l := by
  induction l with
  | nil => cases h
  | cons x r ih =>
    have e : weight (x :: r) = x.s.size + x.keep.length + weight r := by simp [weight]
    rcases List.mem_cons.1 h with rfl | h
    · omega
    · have := ih h; omega

def HeavyPost (l : List Cl) (w : World) (e : Ending) (w' : World) : Prop := ∃ b, e = .returned (.bool b) ∧ (b = false → l.length ≤ 100 ∧ weight l ≤ 8192) ∧ ∃ n, w' = w.drewN n

theorem IsCalls.at {w : World} {v : Value} {l : List Cl} (h : IsCalls w v l) {k : Nat} (hk : k < l.length) : ∃ x o cap, v = .slice (some ⟨x, o, none⟩) l.length cap ∧ ClAt w x (o + k * 7) l[k] := by
  obtain ⟨a, cap, hv, hc⟩ := h
  obtain ⟨x, o, ha, h1⟩ := hc k l[k] (List.getElem?_eq_getElem hk)
  exact ⟨x, o, cap, by rw [hv, ha], h1⟩
theorem ClAt.kv {w : World} {x o : Nat} {c : Cl} (h : ClAt w x o c) : ∃ a n, c.kv = .slice a c.keep.length n := by
  obtain ⟨a, n, hv, _⟩ := h.keep
  exact ⟨a, n, hv⟩

end Go.Proofs.Ytfcibccipkokoaa.Disk
