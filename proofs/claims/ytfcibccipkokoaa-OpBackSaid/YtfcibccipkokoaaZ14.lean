/-
  Walks: a text set within a text, in the document (Set of stage 1), and patched.
  Walks: a text set within a text, in the code.
-/
import Derived.WalkKit
import Derived.WalkSpells
import Derived.WalkLawsBesides
import Derived.Lib.Hide
import Derived.Lib.BufSteps
import Derived.Lib.BufferWrite
import Derived.Laws.IdiomStrings
import Derived.Deep.Slices
import Derived.OpenShut
import Derived.Laws.IdiomCopy
import Derived.Test.YtfcibccipkokoaaZ4
import Derived.Test.YtfcibccipkokoaaZ1
namespace Go.Proofs.Ytfcibccipkokoaa.Op
open Go.RowKit
open Go.Proofs.Ytfcibccipkokoaa.By
attribute [local go_sem ↓] Go.wp_at_zero Go.wp_at_succ

/-- does it hold so much from a on? -/
def holdsB (l : Nat) (a size : Int) : Bool := decide (0 ≤ a ∧ 0 ≤ size ∧ a + size ≤ l)
/-- byte j of s, in which the first k bytes of p stand from a on -/
def setAt (s : ByteArray) (a : Nat) (p : ByteArray) (k j : Nat) : UInt8 := if a ≤ j ∧ j < a + k then p.data.toList.getD (j - a) 0 else s.data.toList.getD j 0
def setY (s : ByteArray) (a : Nat) (p : ByteArray) : ByteArray := ⟨((List.range s.size).map (setAt s a p p.size)).toArray⟩

/-- block g holds s's bytes, of which the first k from a on are p's; they may be written -/
def Holds (s : ByteArray) (a : Nat) (p : ByteArray) (k g : Nat) (w : World) : Prop :=
  (∀ j, j < s.size → w.cell? ⟨g, j, none⟩ = some (.int .u8 ((setAt s a p k j).toNat : Int))) ∧ ∀ j, j < s.size → w.frozen? ⟨g, j, none⟩ = false

theorem conv_in (s : ByteArray) (a : Nat) (p : ByteArray) (w : World) : ∃ (cap : Nat) (W1 : World),
    s.size ≤ cap ∧ (convert 9 41 (.string s)).run Try.prog w = .ok (.slice (some ⟨w.heap.size, 0, none⟩) s.size cap) W1 ∧ Holds s a p 0 w.heap.size W1 ∧ Below w.heap.size w W1 := by
  refine ⟨_, _, grownCap_ge w s.size 0 5, run_bytes_of_string w 9 41 5 s Try.underlying9 Try.underlying41 Try.underlying5, ⟨?_, ?_⟩, ?_⟩
  · intro j hj
    have hj' : j < s.data.size := hj
    have e := World.cell?_alloc_mark w.drew (bytesRow s (grownCap w s.size 0 5)) 5 ((bytesRow s (grownCap w s.size 0 5)).size, (bytesRow s (grownCap w s.size 0 5)).size + 1) j
    have ew : w.drew.heap.size = w.heap.size := rfl
    rw [ew] at e
    rw [e, bytesRow_at s _ j hj']
    unfold setAt
    rw [if_neg (by omega)]
    simp [List.getD]
    rw [Array.getElem?_eq_getElem hj']; rfl
  · intro j hj
    have hj' : j < s.data.size := hj
    have e := World.frozen?_alloc_mark w.drew (bytesRow s (grownCap w s.size 0 5)) 5 (bytesRow s (grownCap w s.size 0 5)).size ((bytesRow s (grownCap w s.size 0 5)).size + 1) j
    have ew : w.drew.heap.size = w.heap.size := rfl
    rw [ew] at e
    rw [e]
    have hz : s.size ≤ (bytesRow s (grownCap w s.size 0 5)).size := by unfold bytesRow; rw [Array.size_append, Array.size_map]; exact Nat.le_add_right _ _
    simp; omega
  · exact ((Below.refl _ w).drew).alloc (Nat.le_refl _) _

theorem conv_out (s : ByteArray) (a : Nat) (p : ByteArray) (g cap : Nat) (W : World) (h : Holds s a p p.size g W) :
    (convert 41 9 (.slice (some ⟨g, 0, none⟩) s.size cap)).run Try.prog W = .ok (.string (setY s a p)) W := by
  have hl : ((List.range s.size).map (setAt s a p p.size)).length = s.size := by simp
  have h := run_convert_bytes_back (P := Try.prog) W 41 9 5 ⟨g, 0, none⟩ cap ((List.range s.size).map (setAt s a p p.size)) Try.underlying41 Try.underlying5 Try.underlying9 (by
    intro j hj
    have hj' : j < s.size := by omega
    have e : (⟨g, 0, none⟩ : Addr).add j = ⟨g, j, none⟩ := by simp [Addr.add]; try omega
    rw [e, h.1 j hj']
    simp)
  rw [hl] at h
  exact h

theorem holds_step {s : ByteArray} {a : Nat} {p : ByteArray} {k g : Nat} {W : World} (h : Holds s a p k g W) (hk : k < p.size) (_ha : a + p.size ≤ s.size) :
    Holds s a p (k + 1) g (W.setCell ⟨g, a + k, none⟩ (.int .u8 (p[k].toNat : Int))) := by
  refine ⟨?_, ?_⟩
  · intro j hj
    by_cases hin : j = a + k
    · subst hin
      have hc := h.1 (a + k) (by omega)
      rw [World.cell?_setCell_same _ _ _ hc]
      unfold setAt
      rw [if_pos (by omega)]
      have hk' : k < p.data.size := hk
      simp [List.getD, Array.getElem?_eq_getElem hk']
      rfl
    · rw [World.cell?_setCell_other _ _ _ _ (by simp only [ne_eq, Addr.mk.injEq]; omega), h.1 j hj]
      unfold setAt
      by_cases h2 : a ≤ j ∧ j < a + k
      · rw [if_pos h2, if_pos (by omega)]
      · rw [if_neg h2, if_neg (by omega)]
  · intro j hj
    rw [World.frozen?_setCell]
    exact h.2 j hj

def setS (s : ByteArray) (a : Int) (p : ByteArray) : ByteArray := if holdsB s.size a p.size then setY s a.toNat p else ⟨#[]⟩

theorem setY_patch (s : ByteArray) (a : Nat) (p : ByteArray) (h : a + p.size ≤ s.size) : setY s a p = patch s a p := by
  have hp : p.data.toList.length = p.size := (Lib.size_eq _).symm
  have hs : s.data.toList.length = s.size := (Lib.size_eq _).symm
  have e : (List.range s.size).map (setAt s a p p.size) = s.data.toList.take a ++ (p.data.toList ++ s.data.toList.drop (a + p.size)) := by
    refine List.ext_getElem (by simp only [List.length_map, List.length_range, List.length_append, List.length_take, List.length_drop]; omega) fun j h1 h2 => ?_
    rw [List.getElem_map, List.getElem_range]
    rw [List.length_map, List.length_range] at h1
    unfold setAt
    by_cases ja : j < a
    · rw [if_neg (by omega), List.getElem_append_left (by rw [List.length_take]; omega), List.getElem_take, List.getD_eq_getElem?_getD, List.getElem?_eq_getElem (by omega)]
      rfl
    · by_cases jb : j < a + p.size
      · rw [if_pos (by omega), List.getElem_append_right (by rw [List.length_take]; omega), List.getElem_append_left (by rw [List.length_take]; omega), List.getD_eq_getElem?_getD, List.getElem?_eq_getElem (by omega)]
        simp only [List.length_take, hs, Nat.min_eq_left (show a ≤ s.size by omega)]
        rfl
      · rw [if_neg (by omega), List.getElem_append_right (by rw [List.length_take]; omega), List.getElem_append_right (by rw [List.length_take]; omega), List.getElem_drop, List.getD_eq_getElem?_getD, List.getElem?_eq_getElem (by omega), Option.getD_some]
        congr 1
        simp only [List.length_take, hs, hp]
        omega
  unfold setY
  rw [e]
  rfl
end Go.Proofs.Ytfcibccipkokoaa.Op

namespace Go.Proofs.Ytfcibccipkokoaa.Op
open Go.RowKit
open Go.Proofs.Ytfcibccipkokoaa.By

theorem copy_str (w : World) (b o dLen dCap : Nat) (ty : TypeId) (p : ByteArray) (hle : p.size ≤ dLen)
    (hc : ∀ j, j < p.size → (w.cell? ⟨b, o + j, none⟩).isSome = true) (hf : ∀ j, j < p.size → w.frozen? ⟨b, o + j, none⟩ = false) :
    (Builtin.copy_ #[41, 9] ty #[.slice (some ⟨b, o, none⟩) dLen dCap, .string p]).run Try.prog w = .ok (goInt p.size) (w.setCells b o (Lib.byteCells p.data.toList)) := by
  have hlen : (Lib.byteCells p.data.toList).length = p.size := by rw [Lib.byteCells_length, ← Lib.size_eq]
  have hst := run_storeCells_cells (P := Try.prog) b o (Lib.byteCells p.data.toList) 0 w (by simpa [hlen] using hc) (by simpa [hlen] using hf) (Lib.byteCells_one _)
  have hmin : Nat.min p.size dLen = p.size := Nat.min_eq_left hle
  have htk : List.take p.size (List.map (fun b : UInt8 => Value.int IntKind.u8 (b.toNat : Int)) p.data.toList) = Lib.byteCells p.data.toList := by
    rw [List.take_of_length_le (by rw [List.length_map, ← Lib.size_eq]; exact Nat.le_refl _)]
    rfl
  simp only [Nat.add_zero] at hst
  have hs : (Try.prog.info? 5).map (·.size) = some 1 := by kernel_rfl
  cases hq : Try.prog.info? 5 with
  | none => simp [hq] at hs
  | some i =>
    simp [Builtin.copy_, run_underlying Try.underlying41, Builtin.lenOf, Builtin.firstCells, sizeOf, typeInfo, hq, hmin]
    rw [htk, hst]
    simp [Result.andThen]

theorem below_setCells {B : Nat} {a : World} (b : Nat) (hb : B ≤ b) : ∀ (vs : List Value) (o : Nat) (w : World), Below B a w → Below B a (w.setCells b o vs)
  | [], _, _, h => h
  | v :: r, o, _w, h => below_setCells b hb r (o + 1) _ (h.setCell hb v)

theorem holds_copy (s : ByteArray) (a : Nat) (p : ByteArray) (g : Nat) (W : World) (h : Holds s a p 0 g W) (ha : a + p.size ≤ s.size) : Holds s a p p.size g (W.setCells g a (Lib.byteCells p.data.toList)) := by
  have hlen : (Lib.byteCells p.data.toList).length = p.size := by rw [Lib.byteCells_length, ← Lib.size_eq]
  refine ⟨?_, ?_⟩
  · intro j hj
    by_cases hin : a ≤ j ∧ j < a + p.size
    · obtain ⟨i, rfl⟩ : ∃ i, j = a + i := ⟨j - a, by omega⟩
      rw [World.cell?_setCells_in g _ a W (fun i hi => by rw [h.1 (a + i) (by omega)]; rfl) i (by omega)]
      unfold setAt
      rw [if_pos hin]
      have hi : i < p.data.toList.length := by rw [← Lib.size_eq]; omega
      simp [Lib.byteCells, List.getD, List.getElem?_eq_getElem hi]
    · rw [World.cell?_setCells_out g _ a W _ (fun _ _ => by simp only; omega), h.1 j hj]
      unfold setAt
      rw [if_neg (by omega), if_neg hin]
  · intro j hj
    rw [World.frozen?_setCells]
    exact h.2 j hj

theorem set_mem (s : ByteArray) (a : Nat) (p : ByteArray) (w : World) (h : a + p.size ≤ s.size) : ∃ (cap r : Nat) (X : Option Addr) (W1 W2 : World),
    (convert 9 41 (.string s)).run Try.prog w = .ok (.slice (some ⟨w.heap.size, 0, none⟩) s.size cap) W1 ∧
    (∀ W, (Instr.sliceAt 41 (.slice (some ⟨w.heap.size, 0, none⟩) s.size cap) (some (.int .i64 (a : Int))) none none).run Try.prog W = .ok (.slice X (s.size - a) r) W) ∧
    (∀ ty, (Builtin.copy_ #[41, 9] ty #[.slice X (s.size - a) r, .string p]).run Try.prog W1 = .ok (goInt p.size) W2) ∧
    (convert 41 9 (.slice (some ⟨w.heap.size, 0, none⟩) s.size cap)).run Try.prog W2 = .ok (.string (setY s a p)) W2 ∧ Below w.heap.size w W2 := by
  obtain ⟨cap, W1, hcap, h1, h2, h3⟩ := conv_in s a p w
  have hz : ∀ w, (sizeOf (Try.prog.elem 41)).run Try.prog w = .ok 1 w := fun w => by kernel_rfl
  have hsl : ∀ W, (Instr.sliceAt 41 (.slice (some ⟨w.heap.size, 0, none⟩) s.size cap) (some (.int .i64 (a : Int))) none none).run Try.prog W = .ok (sliced (some ⟨w.heap.size, 0, none⟩) a s.size cap 1) W := by
    intro W
    rw [run_sliceAt_slice (P := Try.prog) W 41 _ _ _ _ (by kernel_rfl), run_slice_l (P := Try.prog) W 41 _ _ _ (by kernel_rfl) .i64 (a : Int) (by omega) (by omega), hz]
    simp [Result.andThen]
  unfold sliced at hsl
  by_cases h0 : p.size = 0
  · refine ⟨cap, _, _, W1, W1, h1, hsl, ?_, conv_out s a p _ cap W1 (by rw [h0]; exact h2), h3⟩
    intro ty
    rw [Lib.run_copy_empty_string W1 41 9 ty 5 _ _ _ p Try.underlying41 (by kernel_rfl) h0, h0]
    rfl
  · rw [if_neg (by omega)] at hsl
    have e : (⟨w.heap.size, 0, none⟩ : Addr).add (a * 1) = ⟨w.heap.size, a, none⟩ := by simp [Addr.add]; omega
    simp only [Option.map_some, e] at hsl
    refine ⟨cap, _, _, W1, _, h1, hsl, fun ty => copy_str W1 w.heap.size a _ _ ty p (by omega) ?_ ?_, conv_out s a p _ cap _ (holds_copy s a p _ W1 h2 h), below_setCells _ (Nat.le_refl _) _ _ _ h3⟩
    · intro j hj; rw [h2.1 _ (by omega)]; rfl
    · intro j hj; exact h2.2 _ (by omega)

theorem set_yes (s : ByteArray) (a : Nat) (p : ByteArray) (w : World) (hs : s.size ≤ 281474976710656) (h : a + p.size ≤ s.size) :
    Calls Try.prog 134 #[.string s, .int .i64 a, .string p] w fun e w' => e = .returned (.tuple #[.string (setY s a p), .bool true]) ∧ Below w.heap.size w w' := by
  have hh := has_yes s a p.size h
  obtain ⟨cap, r, X, W1, W2, h1, h2, h3, h4, h5⟩ := set_mem s a p w h
  generalize setY s a p = y at *
  go_enter Try.func134, Try.ntmps134
  go_wp2_with (first | (go_at_call 81; refine (Go.Proofs.Ytfcibccipkokoaa.has_any _ _ _ _ (by unfold maxLen; omega) (by omega)).mono ?_; rintro e w' ⟨rfl, rfl⟩))
  go_ret2
  exact ⟨rfl, h5⟩

theorem set_no (s : ByteArray) (a : Int) (p : ByteArray) (w : World) (hs : s.size ≤ 281474976710656) (ha : -9223372036854775808 ≤ a ∧ a ≤ 9223372036854775807) (hh : hasB s.size a p.size = false) :
    Calls Try.prog 134 #[.string s, .int .i64 a, .string p] w fun e w' => e = .returned (.tuple #[.string ⟨#[]⟩, .bool false]) ∧ w = w' := by
  go_enter Try.func134, Try.ntmps134
  go_wp2_with (first | (go_at_call 81; refine (Go.Proofs.Ytfcibccipkokoaa.has_any _ _ _ _ (by unfold maxLen; omega) (by omega)).mono ?_; rintro e w' ⟨rfl, rfl⟩))
  go_ret2
  exact ⟨rfl, rfl⟩

/-- set -/
theorem cset_any (s : ByteArray) (a : Int) (p : ByteArray) (w : World) (hs : s.size ≤ 281474976710656) (ha : -9223372036854775808 ≤ a ∧ a ≤ 9223372036854775807) :
    Calls Try.prog 134 #[.string s, .int .i64 a, .string p] w fun e w' => e = .returned (.tuple #[.string (if 0 ≤ a ∧ a + p.size ≤ s.size then patch s a.toNat p else ⟨#[]⟩), .bool (decide (0 ≤ a ∧ a + p.size ≤ s.size))]) ∧ Below w.heap.size w w' := by
  by_cases h : 0 ≤ a ∧ a + p.size ≤ s.size
  · rw [if_pos h, decide_eq_true h, ← setY_patch s a.toNat p (by omega)]
    have := set_yes s a.toNat p w hs (by omega)
    rw [Int.toNat_of_nonneg h.1] at this
    exact this
  · rw [if_neg h, decide_eq_false h]
    have hb : hasB s.size a p.size = false := by unfold hasB; rw [decide_eq_false_iff_not]; omega
    exact (set_no s a p w hs ha hb).mono fun _ _ ⟨a, b⟩ => ⟨a, b ▸ Below.refl _ _⟩

end Go.Proofs.Ytfcibccipkokoaa.Op
