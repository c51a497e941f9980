/- Memory: an area that the document loads. -/
import Derived.Test.YtehfclgngkhcpaaRX3
namespace Go.Proofs.Ytehfclgngkhcpaa.Slot
open Go.RowKit

theorem numAt_L (s : ByteArray) (k : Nat) (h : k + 2 ≤ s.size) : numAt s k 2 = numL s.data.toList k := by
  have hl : ((s.data.toList.drop k).take 2).length = 2 := by
    rw [List.length_take, List.length_drop]
    show min 2 (s.size - k) = 2
    omega
  have h1 := numAt_two _ hl
  have h2 : numAt (strB ((s.data.toList.drop k).take 2)) 0 2 = numAt s k 2 := by
    unfold numAt
    show num ((((s.data.toList.drop k).take 2).drop 0).take 2) = _
    rw [List.drop_zero, List.take_of_length_le (by rw [hl]; exact Nat.le_refl _)]
  rw [num_part (by omega), Nat.add_zero, h2] at h1
  exact h1
theorem rget_L (s : ByteArray) (k : Nat) (w : World) (hs : s.size ≤ 281474976710656) (h : k + 2 ≤ s.size) :
    Calls Try.prog 76 #[.string s, .int .i64 (k : Int), .int .i64 2] w fun e w' => e = .returned (.tuple #[.int .u64 (numL s.data.toList k : Int), .bool true]) ∧ w = w' := by
  have := rget_yes s k 2 w hs (by omega) (by omega) h
  rw [numAt_L s k h] at this
  exact this

/-! ### a row of n truths -/
def rowM (n : Nat) (f : Nat → Bool) : Array Value := ((List.range n).map fun j => Value.bool (f j)).toArray
theorem rowM_size (n : Nat) (f : Nat → Bool) : (rowM n f).size = n := by
  unfold rowM
  rw [List.size_toArray, List.length_map, List.length_range]
theorem rowM_get {n : Nat} (f : Nat → Bool) {j : Nat} (h : j < n) : (rowM n f)[j]? = some (.bool (f j)) := by
  unfold rowM
  rw [List.getElem?_toArray, List.getElem?_map, List.getElem?_range h]
  rfl
theorem rowM_ext {n : Nat} {f g : Nat → Bool} (h : ∀ j, j < n → f j = g j) : rowM n f = rowM n g := by
  have e : (List.range n).map (fun j => Value.bool (f j)) = (List.range n).map (fun j => Value.bool (g j)) := List.map_congr_left fun j hj => by rw [h j (List.mem_range.1 hj)]
  unfold rowM
  rw [e]
theorem rowM_set (n : Nat) (f : Nat → Bool) (i : Nat) : (rowM n f).setIfInBounds i (.bool true) = rowM n (fun j => if j = i then true else f j) := by
  apply Array.ext_getElem?
  intro j
  rw [Array.getElem?_setIfInBounds]
  by_cases hj : j < n
  · rw [rowM_get _ hj, rowM_get _ hj, rowM_size]
    by_cases e : i = j
    · subst e; rw [if_pos rfl, if_pos hj, if_pos rfl]
    · rw [if_neg e, if_neg (fun h => e h.symm)]
  · have h1 : (rowM n f)[j]? = none := by rw [Array.getElem?_eq_none]; rw [rowM_size]; omega
    have h2 : (rowM n (fun j => if j = i then true else f j))[j]? = none := by rw [Array.getElem?_eq_none]; rw [rowM_size]; omega
    rw [h1, h2, rowM_size]
    by_cases e : i = j
    · rw [if_pos e, if_neg (by omega)]
    · rw [if_neg e]
theorem rowM_made (n : Nat) : madeCells (Value.bool false).cells n = rowM n fun _ => false := by
  apply Array.ext_getElem?
  intro j
  by_cases hj : j < n
  · rw [rowM_get _ hj]
    unfold madeCells
    simp [Value.cells, hj, Nat.mod_one]
  · have h1 : (rowM n fun _ => false)[j]? = none := by rw [Array.getElem?_eq_none]; rw [rowM_size]; omega
    rw [h1, Array.getElem?_eq_none]
    rw [size_madeCells]
    omega
set_option maxRecDepth 100000 in
theorem Word.infoT : (Try.prog.info? 4).map (fun i => (i.zero, i.size, i.bytes)) = some (some (.bool false), 1, 1) := by kernel_rfl
set_option maxRecDepth 100000 in
theorem marks_make (W : World) (m : Nat) (hm : m ≤ 1000000) : (Instr.makeSlice 38 (.int .i64 (m : Int)) (.int .i64 (m : Int))).run Try.prog W = .ok (.slice (some ⟨W.heap.size, 0, none⟩) m m) (W.alloc (.cells (rowM m fun _ => false) 4)) := by
  obtain ⟨i0, hi, hz0, hz1, hz2⟩ := info_parts Word.infoT
  have h := run_make (P := Try.prog) W 38 4 i0 (.bool false) Try.underlying38 hi hz0 .i64 .i64 (m : Int) (m : Int) (by omega) (by omega) (by rw [hz2]; omega) (by omega)
  rw [← rowM_made]
  simpa [hz1] using h

/-! ### an area that is being loaded -/
structure LP (w wr : World) (q h t cB m : Nat) (v : Value) (a : A) (f : Nat → Bool) : Prop where
  lay : RLay wr q h cB v a
  own : ∀ b, v.ownBlock = some b → w.heap.size ≤ b
  mks : wr.heap[t]? = some (.cells (rowM m f) 4 (0, 0))
  below : Below w.heap.size w wr
  nq : w.heap.size ≤ q
  nh : w.heap.size ≤ h
  nt : w.heap.size ≤ t
section
variable {w wr : World} {q h t cB m : Nat} {v : Value} {a : A} {f : Nat → Bool}
theorem LP.ltq (L : LP w wr q h t cB m v a f) : q < wr.heap.size := (Array.getElem?_eq_some_iff.1 L.lay.head).1
theorem LP.ltt (L : LP w wr q h t cB m v a f) : t < wr.heap.size := (Array.getElem?_eq_some_iff.1 L.mks).1
theorem LP.tq (L : LP w wr q h t cB m v a f) : t ≠ q := by
  rintro rfl
  have := L.lay.head.symm.trans L.mks
  simp at this
theorem LP.th (L : LP w wr q h t cB m v a f) : t ≠ h := by
  rintro rfl
  obtain ⟨cur, _, h1, _⟩ := L.lay.row
  have := h1.symm.trans L.mks
  simp at this
theorem LP.tv (L : LP w wr q h t cB m v a f) {b : Nat} (hb : v.ownBlock = some b) : b ≠ t := by
  rcases L.lay.dl.form with ⟨rfl, _⟩ | ⟨g, cap, cur, rfl, h2, _⟩
  · simp [Value.ownBlock] at hb
  · simp [Value.ownBlock] at hb
    subst hb
    rintro rfl
    have := L.mks.symm.trans h2
    simp at this
theorem LP.later {w' : World} (L : LP w wr q h t cB m v a f) (b : Below wr.heap.size wr w') : LP w w' q h t cB m v a f :=
  ⟨⟨(b.block q L.ltq).trans L.lay.head, L.lay.row.far (b.block h L.lay.row.lt), L.lay.cap, L.lay.dl.later b⟩, L.own, (b.block t L.ltt).trans L.mks, L.below.trans (b.mono L.below.size), L.nq, L.nh, L.nt⟩
theorem LP.congr {f' : Nat → Bool} (L : LP w wr q h t cB m v a f) (e : ∀ j, j < m → f j = f' j) : LP w wr q h t cB m v a f' :=
  ⟨L.lay, L.own, by rw [← rowM_ext e]; exact L.mks, L.below, L.nq, L.nh, L.nt⟩
theorem LP.cell (L : LP w wr q h t cB m v a f) {j : Nat} (hj : j < m) : wr.cell? ⟨t, j, none⟩ = some (.bool (f j)) := by
  rw [cell_of_row wr t j _ _ _ L.mks, rowM_get _ hj]
theorem LP.free (L : LP w wr q h t cB m v a f) (j : Nat) : wr.frozen? ⟨t, j, none⟩ = false := frozen_of_row wr t j _ _ L.mks
theorem LP.mark (L : LP w wr q h t cB m v a f) (i : Nat) : LP w (wr.setCell ⟨t, i, none⟩ (.bool true)) q h t cB m v a (fun j => if j = i then true else f j) := by
  refine ⟨⟨?_, ?_, L.lay.cap, ?_⟩, L.own, ?_, L.below.setCell L.nt _, L.nq, L.nh, L.nt⟩
  · rw [heap_setCell_other _ _ _ _ (by exact fun e => L.tq e.symm)]
    exact L.lay.head
  · exact L.lay.row.far (heap_setCell_other _ _ _ _ (by exact fun e => L.th e.symm))
  · exact ownsRow_far L.lay.dl fun b hb => heap_setCell_other _ _ _ _ (by exact L.tv hb)
  · rw [heap_setCell_same wr t i _ _ _ L.mks, rowM_set]
theorem LP.app {wa w4 : World} {v4 : Value} {l : List (Nat × Nat)} (L : LP w wa q h t cB m v a f) (g4 : wa.grownBy w4 v.ownBlock) (t4 : Dl w4 v4 l) (b4 : ∀ b, v4.ownBlock = some b → w.heap.size ≤ b) :
    LP w (w4.setCell ⟨q, 2, none⟩ v4) q h t cB m v4 ⟨a.cells, a.low, l⟩ f := by
  have hq : w4.heap[q]? = wa.heap[q]? := g4.block q L.ltq fun e => (L.lay.ne1 e.symm).1 rfl
  have hh : w4.heap[h]? = wa.heap[h]? := g4.block h L.lay.row.lt fun e => (L.lay.ne1 e.symm).2 rfl
  have ht : w4.heap[t]? = wa.heap[t]? := g4.block t L.ltt fun e => L.tv e.symm rfl
  have head4 := hq.trans L.lay.head
  have hn : ∀ b, v4.ownBlock = some b → b ≠ q := by
    intro b hb
    rcases t4.form with ⟨rfl, _⟩ | ⟨g, cap, cur, rfl, h2, _⟩
    · simp [Value.ownBlock] at hb
    · simp [Value.ownBlock] at hb
      subst hb
      rintro rfl
      have := head4.symm.trans h2
      simp at this
  refine ⟨⟨?_, ?_, L.lay.cap, ?_⟩, b4, ?_, (L.below.grown g4 L.below.size L.own).setCell L.nq _, L.nq, L.nh, L.nt⟩
  · rw [heap_setCell_same w4 q 2 _ _ _ head4]; rfl
  · exact (L.lay.row.far hh).far (heap_setCell_other _ _ _ _ (by exact fun e => L.lay.ne e.symm))
  · exact ownsRow_far t4 fun b hb => heap_setCell_other _ _ _ _ (by exact hn b hb)
  · rw [heap_setCell_other _ _ _ _ (by exact L.tq)]
    exact ht.trans L.mks
theorem LP.fin (L : LP w wr q h t cB m v a f) : Rf wr q a (fun b => w.heap.size ≤ b ∧ b < wr.heap.size) :=
  ⟨⟨h, cB, v, L.lay, ⟨L.nq, L.ltq⟩, ⟨L.nh, L.lay.row.lt⟩, fun b hb => ⟨L.own b hb, (L.lay.dl.lt b hb).2⟩⟩, fun _ hb => hb.2⟩
theorem LP.start {w W1 : World} {s : List UInt8} {cap lo : Nat} (hr : Row W1 w.heap.size s) (hc : s.length ≤ cap) (hb : Below w.heap.size w W1) (hs : W1.heap.size = w.heap.size + 1) (m : Nat) :
    LP w ((W1.alloc (.cells #[.slice (some ⟨w.heap.size, 0, none⟩) s.length cap, .int .i64 (lo : Int), .slice none 0 0] 104)).alloc (.cells (rowM m fun _ => false) 4)) (w.heap.size + 1) w.heap.size (w.heap.size + 2) cap m (.slice none 0 0) ⟨s, lo, []⟩ (fun _ => false) := by
  obtain ⟨W2, hW2⟩ : ∃ W2, W2 = W1.alloc (.cells #[.slice (some ⟨w.heap.size, 0, none⟩) s.length cap, .int .i64 (lo : Int), .slice none 0 0] 104) := ⟨_, rfl⟩
  have h2 : W2.heap.size = w.heap.size + 2 := by rw [hW2]; simp; omega
  have b2 : Below w.heap.size w W2 := by rw [hW2]; exact hb.alloc hb.size _
  have bb : Below W2.heap.size W2 (W2.alloc (.cells (rowM m fun _ => false) 4)) := (Below.refl _ _).alloc (Nat.le_refl _) _
  have hq : W2.heap[w.heap.size + 1]? = some (.cells #[.slice (some ⟨w.heap.size, 0, none⟩) s.length cap, .int .i64 (lo : Int), .slice none 0 0] 104 (0, 0)) := by
    rw [hW2, ← hs]; exact heap_alloc_new _ _
  have hrow : Row W2 w.heap.size s := by rw [hW2]; exact hr.far (Below.heap_alloc _ _ _ hr.lt)
  rw [← hW2]
  refine ⟨⟨?_, ?_, hc, ?_⟩, ?_, ?_, b2.trans (bb.mono b2.size), by omega, by omega, by omega⟩
  · rw [bb.block _ (by omega)]
    exact hq
  · exact hrow.far (bb.block _ (by omega))
  · exact World.ownsRow_nil _ _ _ _
  · simp [Value.ownBlock]
  · rw [← h2]; exact heap_alloc_new _ _
end

end Go.Proofs.Ytehfclgngkhcpaa.Slot
