/-
  Numbers that come in, and bytes that a call has made and writes (any stage).
-/
import Derived.Test.YtgohpompgiljiaaProg
import Derived.WalkKit
import Derived.WalkSpells
import Derived.Lib.Hide
import Derived.Deep.Slices
import Derived.Deep.MidRow
import Derived.ChangeSame
import Derived.ChangeSlices
import Derived.SizedLaws
import Derived.OpenShut
import Derived.Lib.BufSteps
import Derived.Lib.BufferWrite
import Derived.Laws.IdiomStrings
namespace Go.Proofs.Ytgohpompgiljiaa
open Go.RowKit Go.ChangeShapes Go.WideShapes Go.Deep

/-- a slice of numbers -/
def Nums (k : IntKind) (w : World) (v : Value) (l : List Nat) : Prop :=
  ∃ a cap, v = .slice a l.length cap ∧ (l = [] ∨ ∃ x o, a = some ⟨x, o, none⟩ ∧ x < w.heap.size ∧ ∀ j (hj : j < l.length), w.cell? ⟨x, o + j, none⟩ = some (.int k (l[j] : Int)))
theorem Nums.later {k : IntKind} {w w' : World} {v : Value} {l : List Nat} (h : Nums k w v l) (t : Below w.heap.size w w') : Nums k w' v l := by
  obtain ⟨a, cap, hv, hc⟩ := h
  refine ⟨a, cap, hv, hc.imp_right ?_⟩
  rintro ⟨x, o, ha, hx, hj⟩
  exact ⟨x, o, ha, Nat.lt_of_lt_of_le hx t.size, fun j h => (World.cell?_of_block (t.block x hx)).trans (hj j h)⟩

theorem Nums.at {k : IntKind} {w : World} {a : Option Addr} {n c : Nat} {l : List Nat} (h : Nums k w (.slice a n c) l) (i : Nat) (hi : i < l.length) : ∃ x o, a = some ⟨x, o, none⟩ ∧ x < w.heap.size ∧ w.cell? ⟨x, o + i, none⟩ = some (.int k (l[i] : Int)) := by
  obtain ⟨a', cap, hv, hc⟩ := h
  simp only [Value.slice.injEq] at hv
  obtain ⟨rfl, _, _⟩ := hv
  rcases hc with hc | ⟨x, o, ha, hx, hj⟩
  · subst hc
    exact absurd hi (Nat.not_lt_zero _)
  · exact ⟨x, o, ha, hx, hj i hi⟩

section
variable {H : Type} {enc : TypeId × Value → H} {W : World}
set_option maxRecDepth 100000 in
theorem nums_arg {T e : TypeId} {k : IntKind} (ht : Try.prog.underlying T = some (.slice e)) (he : Try.prog.underlying e = some (.int k)) (hc : Try.prog.cellsOf e = 1) (hk : ∀ n, (Lit.int k n).wf = true → 0 ≤ n)
    {B : Nat} {v : Value} {d : DataW H} {p : List MemPlace} (hv : Value.okWide Try.prog W .any B T v) (h : DataW.Trod enc Try.prog W 0 (fun _ => true) true T v d p) :
    ∃ l : List Nat, Nums k W v l ∧ ∀ n ∈ l, (Lit.int k (n : Int)).wf = true := by
  obtain ⟨a, len, cap, rfl⟩ := okWide_slice ht hv
  obtain ⟨fuel, hf⟩ := h
  rcases open_ints ht he hc hf with ⟨h1, _⟩ | ⟨a', len', cap', zs, h1, _, hl, hm, hx, _, hc, hw⟩
  · simp [Value.cells] at h1
    obtain ⟨rfl, rfl, rfl⟩ := h1
    exact ⟨[], ⟨none, 0, rfl, .inl rfl⟩, fun n hn => by cases hn⟩
  · simp [Value.cells] at h1
    obtain ⟨rfl, rfl, rfl⟩ := h1
    simp only [if_true] at hx
    have hz : ∀ n ∈ zs.take len, ((n.toNat : Nat) : Int) = n := fun n hn => by
      have := hk n (hw n (List.mem_of_mem_take hn))
      omega
    have hlen : ((zs.take len).map Int.toNat).length = len := by rw [List.length_map, List.length_take]; omega
    refine ⟨(zs.take len).map Int.toNat, ⟨some a', cap, by rw [hlen], ?_⟩, ?_⟩
    · by_cases h0 : len = 0
      · subst h0
        exact .inl (by simp)
      · right
        have hcell := hc 0 (by omega)
        have hsp : a'.spot = none := by
          obtain ⟨x, o, sp⟩ := a'
          cases sp with
          | none => rfl
          | some s => simp [Addr.add, World.cell?] at hcell; split at hcell <;> simp at hcell
        obtain ⟨x, o, sp⟩ := a'
        simp at hsp
        subst hsp
        have hadd : ∀ j, (⟨x, o, none⟩ : Addr).add j = ⟨x, o + j, none⟩ := fun j => by rw [Addr.add_mid]
        have hx0 : x < W.heap.size := by
          rw [hadd] at hcell
          exact block_lt_of_cell hcell
        refine ⟨x, o, rfl, hx0, fun j hj => ?_⟩
        rw [hlen] at hj
        have hj2 : j < zs.length := by omega
        have := hc j hj2
        rw [hadd] at this
        rw [this]
        have e : zs.getD j 0 = zs[j] := by rw [List.getD_eq_getElem?_getD, List.getElem?_eq_getElem hj2]; rfl
        have hm2 : zs[j] ∈ zs.take len := by
          rw [List.mem_take_iff_getElem]
          exact ⟨j, by omega, rfl⟩
        rw [e]
        simp [hz _ hm2]
    · intro n hn
      obtain ⟨z, hz1, rfl⟩ := List.mem_map.1 hn
      rw [hz z hz1]
      exact hw z (List.mem_of_mem_take hz1)
end

/-- block g holds the bytes u, which may be written; below it nothing has turned since W0 -/
def HoldU (g : Nat) (u : List UInt8) (W0 w : World) : Prop :=
  (∀ j (hj : j < u.length), w.cell? ⟨g, j, none⟩ = some (.int .u8 (u[j].toNat : Int))) ∧ (∀ j, j < u.length → w.frozen? ⟨g, j, none⟩ = false) ∧ Below g W0 w
theorem bytes_in (s : ByteArray) (w : World) : ∃ (cap : Nat) (W1 : World), (convert 9 55 (.string s)).run Try.prog w = .ok (.slice (some ⟨w.heap.size, 0, none⟩) s.size cap) W1 ∧ HoldU w.heap.size s.data.toList w W1 := by
  have hl : s.data.toList.length = s.size := (Lib.size_eq _).symm
  refine ⟨_, _, run_bytes_of_string w 9 55 5 s Try.underlying9 Try.underlying55 Try.underlying5, ?_, ?_, ((Below.refl _ w).drew).alloc (Nat.le_refl _) _⟩
  · intro j hj
    have hj' : j < s.data.size := by rw [hl] at hj; exact hj
    have e := World.cell?_alloc_mark w.drew (bytesRow s (grownCap w s.size 0 5)) 5 ((bytesRow s (grownCap w s.size 0 5)).size, (bytesRow s (grownCap w s.size 0 5)).size + 1) j
    have ew : w.drew.heap.size = w.heap.size := rfl
    rw [ew] at e
    rw [e, bytesRow_at s _ j hj']
    simp
  · intro j hj
    have hj' : j < s.data.size := by rw [hl] at hj; exact hj
    have e := World.frozen?_alloc_mark w.drew (bytesRow s (grownCap w s.size 0 5)) 5 (bytesRow s (grownCap w s.size 0 5)).size ((bytesRow s (grownCap w s.size 0 5)).size + 1) j
    have ew : w.drew.heap.size = w.heap.size := rfl
    rw [ew] at e
    rw [e]
    have hz : s.size ≤ (bytesRow s (grownCap w s.size 0 5)).size := by unfold bytesRow; rw [Array.size_append, Array.size_map]; exact Nat.le_add_right _ _
    have hj2 : j < s.size := hj'
    simp; omega
theorem HoldU.set {g : Nat} {u : List UInt8} {W0 w : World} (h : HoldU g u W0 w) (J : Nat) (hJ : J < u.length) (x : UInt8) : HoldU g (u.set J x) W0 (w.setCell ⟨g, J, none⟩ (.int .u8 (x.toNat : Int))) := by
  refine ⟨?_, ?_, h.2.2.setCell (Nat.le_refl _) _⟩
  · intro j hj
    have hj' : j < u.length := by rwa [List.length_set] at hj
    by_cases e : j = J
    · subst e
      rw [World.cell?_setCell_same _ _ _ (h.1 j hJ)]
      simp
    · rw [World.cell?_setCell_other _ _ _ _ (by simp only [ne_eq, Addr.mk.injEq]; omega), h.1 j hj']
      rw [List.getElem_set_ne (by omega)]
  · intro j hj
    rw [World.frozen?_setCell]
    exact h.2.1 j (by rwa [List.length_set] at hj)
theorem HoldU.drew {g : Nat} {u : List UInt8} {W0 w : World} (h : HoldU g u W0 w) : HoldU g u W0 w.drew := ⟨h.1, h.2.1, h.2.2.drew⟩
theorem HoldU.out {g cap : Nat} {u : List UInt8} {W0 w : World} (h : HoldU g u W0 w) : (convert 55 9 (.slice (some ⟨g, 0, none⟩) u.length cap)).run Try.prog w = .ok (.string ⟨u.toArray⟩) w := by
  refine run_convert_bytes_back (P := Try.prog) w 55 9 5 ⟨g, 0, none⟩ cap u Try.underlying55 Try.underlying5 Try.underlying9 ?_
  intro j hj
  have e : (⟨g, 0, none⟩ : Addr).add j = ⟨g, j, none⟩ := by simp [Addr.add]; try omega
  rw [e, h.1 j hj]

end Go.Proofs.Ytgohpompgiljiaa
