/- Walks: Compact, whole. -/
import Derived.Test.YtehfclgngkhcpaaSW6
namespace Go.Proofs.Ytehfclgngkhcpaa.Slot
open Go.RowKit
attribute [local go_sem ↓] Go.wp_at_zero Go.wp_at_succ

/-! ### plain -/
theorem strB_list (l : List UInt8) : (strB l).data.toList = l := rfl
theorem strB_size (l : List UInt8) : (strB l).size = l.length := rfl
theorem ext_list (l : List UInt8) (x y : Nat) : ((strB l).extract x (x + y)).data.toList = (l.drop x).take y := by
  rw [ByteArray.data_extract, Array.toList_extract, List.extract_eq_take_drop]
  show List.take (x + y - x) (List.drop x l) = _
  rw [Nat.add_sub_cancel_left]
theorem is_text {b : List UInt8} {a : A} (h : Is b a) (hk : a.ok) {i : Nat} (hi : i < a.dir.length) : txt b (a.at i) = a.text i := by
  have := hk.each i hi
  have := hk.fin
  exact txt_congr rfl fun j hj => h.rest _ (by omega)
theorem is_spot {b : List UInt8} {a : A} (h : Is b a) {i : Nat} (hi : i < a.dir.length) : spotAt b i = a.at i := by
  have := h.dir i hi
  unfold spotAt
  rw [this.1, this.2]
theorem is_clear {b : List UInt8} {a : A} (h : Is b a) (hf : a.fin ≤ a.low) (hl : a.low ≤ a.n) : Is (putL b a.fin (List.replicate (a.low - a.fin) 0)) ⟨putL a.cells 0 (List.replicate a.low 0), a.low, a.dir⟩ := by
  have h1 := is_put h (by omega) (k := a.fin) (t := List.replicate (a.low - a.fin) 0) (Nat.le_refl _) (by rw [List.length_replicate]; omega)
  have e1 : a.fin + (List.replicate (a.low - a.fin) (0 : UInt8)).length ≤ a.cells.length := by rw [List.length_replicate]; show _ ≤ a.n; omega
  have e2 : 0 + (List.replicate a.low (0 : UInt8)).length ≤ a.cells.length := by rw [List.length_replicate]; show _ ≤ a.n; omega
  refine ⟨?_, h1.cnt, h1.low, h1.dir, ?_⟩
  · rw [h1.len]
    show (putL a.cells _ _).length = (putL a.cells _ _).length
    rw [putL_len e1, putL_len e2]
  · intro j hj
    have hj' : a.fin ≤ j := hj
    rw [h1.rest j hj]
    show (putL a.cells _ _)[j]? = (putL a.cells _ _)[j]?
    rw [putL_at e1, putL_at e2]
    simp only [List.length_replicate]
    by_cases hc : j < a.low
    · rw [if_pos (by omega), if_pos (by omega), List.getElem?_replicate, List.getElem?_replicate, if_pos (by omega), if_pos (by omega)]
    · rw [if_neg (by omega), if_neg (by omega)]
theorem mid_step {b : List UInt8} {a : A} (hk : a.ok) {k : Nat} (hi : k < a.dir.length) (h : Is b (a.mid k)) : Is (moveB b k (a.text k)) (a.mid (k + 1)) ∧ spotAt b k = a.at k ∧ numL b 2 = (a.mid k).low ∧ a.fin + (a.at k).2 ≤ (a.mid k).low ∧ (a.mid k).low ≤ a.n ∧ b.length = a.n ∧ (standB b (a.text k)).length = a.n := by
  obtain ⟨h1, h2, h3, h4, h5, h6⟩ := mid_all hk k (by omega)
  have ht := text_len hk hi
  have e1 : tot (a.dir.take (k + 1)) = tot (a.dir.take k) + (a.at k).2 := tot_take hi
  have e2 := tot_take_le a.dir (k + 1)
  have hr := hk.room
  have hf := hk.fin
  have hhi := hk.hi
  have hf2 : (a.mid k).fin = a.fin := by unfold A.fin; rw [h2]
  have hs := is_stand h (by omega) (t := a.text k) (by omega) (by omega) (by omega)
  have hlen : (standB b (a.text k)).length = a.n := by
    rw [hs.len]
    show ((a.mid k).lay (a.text k)).length = a.n
    unfold A.lay
    rw [putL_len (by show _ ≤ (a.mid k).n; omega)]
    exact h1
  have hl2 : ((a.mid k).lay (a.text k)).length = a.n := by rw [← hlen, hs.len]; rfl
  have hp := is_point hs (i := k) (x := ((a.mid k).low - (a.text k).length, (a.text k).length)) (by show (a.mid k).fin ≤ ((a.mid k).lay (a.text k)).length; rw [hl2]; omega) (by show k < (a.mid k).dir.length; omega) (by simp only; omega) (by simp only; omega)
  refine ⟨?_, ?_, h.low, by omega, by omega, by rw [h.len]; exact h1, hlen⟩
  · unfold moveB
    rw [h.low]
    exact hp
  · rw [is_spot h (by rw [h2]; exact hi), h5 k (Nat.le_refl _)]

/-! ### what an area tells of itself -/
section
variable {w : World} {p g c : Nat} {a : A}
theorem len_is (h : Area w p g c a) : Calls Try.prog 37 #[.pointer (some ⟨p, 0, none⟩)] w fun e w' => e = .returned (.int .i64 (a.dir.length : Int)) ∧ w = w' := by
  obtain ⟨⟨b, h1, h2⟩, h3⟩ := h
  have := len_any h1
  rwa [h2.cnt] at this
theorem gap_is (h : Area w p g c a) : Calls Try.prog 40 #[.pointer (some ⟨p, 0, none⟩)] w fun e w' => e = .returned (.int .i64 (a.gap : Int)) ∧ w = w' := by
  obtain ⟨⟨b, h1, h2⟩, h3⟩ := h
  have := gap_any h1
  rw [h2.cnt, h2.low] at this
  have hf := h3.fin
  have e : (a.gap : Int) = (a.low : Int) - ((4 + 4 * a.dir.length : Nat) : Int) := by
    unfold A.gap A.fin; unfold A.fin at hf; omega
  rwa [e]
theorem sizes_is {b : List UInt8} (h : Is b a) : ∀ k, k ≤ a.dir.length → sizes b k = tot (a.dir.take k) := by
  intro k
  induction k with
  | zero => intro _; simp [sizes, tot]
  | succ k ih =>
    intro hk
    rw [sizes_succ, ih (by omega), tot_take (by omega), (h.dir k (by omega)).2]
    rfl
theorem free_is (h : Area w p g c a) : Calls Try.prog 39 #[.pointer (some ⟨p, 0, none⟩)] w fun e w' => e = .returned (.int .i64 (a.free : Int)) ∧ Below w.heap.size w w' := by
  obtain ⟨⟨b, h1, h2⟩, h3⟩ := h
  have hf := h3.fin
  have hl := h3.low
  have hr := h3.room
  have hlen := h2.len
  have := free_any h1 (by rw [h2.cnt]; unfold A.fin at hf; omega)
  rw [sizes_is h2 _ (by rw [h2.cnt]; exact Nat.le_refl _), h2.cnt, List.take_length, h2.len] at this
  have e : (a.free : Int) = (a.n : Int) - ((4 + 4 * a.dir.length : Nat) : Int) - (tot a.dir : Int) := by
    unfold A.free A.fin; unfold A.fin at hf; omega
  rwa [e]
theorem get_is (h : Area w p g c a) (i : Int) : Calls Try.prog 38 #[.pointer (some ⟨p, 0, none⟩), .int .i64 i] w fun e w' => e = .returned (.tuple #[.string (strB (getS a i)), .int .i64 (if hasP a i then 0 else 3)]) ∧ Below w.heap.size w w' := by
  obtain ⟨⟨b, h1, h2⟩, h3⟩ := h
  have hf := h3.fin
  have hl := h3.low
  unfold A.fin at hf
  have hlen := h2.len
  by_cases hp : hasP a i
  · rw [if_pos hp]
    unfold getS
    rw [if_pos hp]
    unfold hasP at hp
    obtain ⟨k, rfl⟩ : ∃ k : Nat, i = k := ⟨i.toNat, by omega⟩
    have hk : k < a.dir.length := by omega
    have he := h3.each k hk
    have hd := h2.dir k hk
    have := get_yes h1 k (by rw [h2.cnt]; exact hk) (by rw [h2.cnt]; omega) (by rw [hd.1, hd.2]; omega)
    rw [is_spot h2 hk, is_text h2 h3 hk] at this
    exact this
  · rw [if_neg hp]
    unfold getS
    rw [if_neg hp]
    have := get_no h1 i (by unfold hasE; rw [h2.cnt]; exact if_neg hp)
    exact this.mono fun _ _ ⟨e1, e2⟩ => ⟨e1, e2 ▸ Below.refl _ _⟩
end
end Go.Proofs.Ytehfclgngkhcpaa.Slot
