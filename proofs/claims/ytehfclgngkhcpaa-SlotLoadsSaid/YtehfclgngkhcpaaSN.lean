/- Plain mathematics: what is done to an area's bytes is what is done to the area. -/
import Derived.Test.YtehfclgngkhcpaaSM
namespace Go.Proofs.Ytehfclgngkhcpaa.Slot

/-- what 'point' leaves -/
def pointB (b : List UInt8) (i : Nat) (x : Nat × Nat) : List UInt8 := putL (putL b (4 + 4 * i) (two x.1)) (6 + 4 * i) (two x.2)
/-- what 'stand' leaves -/
def standB (b : List UInt8) (t : List UInt8) : List UInt8 := putL (putL b (numL b 2 - t.length) t) 2 (two (numL b 2 - t.length))

/-- what the directory tells at place i -/
def spotB (b : List UInt8) (i : Nat) : Nat × Nat := (numL b (4 + 4 * i), numL b (6 + 4 * i))
theorem at_ins {l : List (Nat × Nat)} {i : Nat} (hi : i ≤ l.length) (x : Nat × Nat) (j : Nat) : (l.take i ++ x :: l.drop i).getD j (0, 0) = if j < i then l.getD j (0, 0) else if j = i then x else l.getD (j - 1) (0, 0) := by
  simp only [List.getD_eq_getElem?_getD]
  have hk : (l.take i).length = i := by rw [List.length_take]; omega
  by_cases c1 : j < i
  · rw [if_pos c1, List.getElem?_append_left (by omega), List.getElem?_take, if_pos c1]
  · rw [if_neg c1, List.getElem?_append_right (by omega), hk]
    by_cases c2 : j = i
    · subst c2; simp
    · rw [if_neg c2]
      obtain ⟨m, hm⟩ : ∃ m, j - i = m + 1 := ⟨j - i - 1, by omega⟩
      rw [hm, List.getElem?_cons_succ, List.getElem?_drop]
      congr 2; omega
theorem at_del {l : List (Nat × Nat)} {i : Nat} (hi : i < l.length) (j : Nat) : (l.take i ++ l.drop (i + 1)).getD j (0, 0) = if j < i then l.getD j (0, 0) else l.getD (j + 1) (0, 0) := by
  simp only [List.getD_eq_getElem?_getD]
  have hk : (l.take i).length = i := by rw [List.length_take]; omega
  by_cases c1 : j < i
  · rw [if_pos c1, List.getElem?_append_left (by omega), List.getElem?_take, if_pos c1]
  · rw [if_neg c1, List.getElem?_append_right (by omega), hk, List.getElem?_drop]
    congr 2; omega

section
variable {b : List UInt8} {a : A}
theorem Is.fin_le (h : Is b a) (hf : a.fin ≤ a.n) : 4 + 4 * a.dir.length ≤ b.length := by
  have := h.len; unfold A.fin at hf; omega
theorem pointB_len {x : Nat × Nat} {i : Nat} (hi : 8 + 4 * i ≤ b.length) : (pointB b i x).length = b.length := by
  unfold pointB
  have h1 : (putL b (4 + 4 * i) (two x.1)).length = b.length := putL_len (by rw [two_len]; omega)
  rw [putL_len (by rw [two_len, h1]; omega), h1]
theorem standB_len {t : List UInt8} (hb : 4 ≤ b.length) (ht : t.length ≤ numL b 2) (hl : numL b 2 ≤ b.length) : (standB b t).length = b.length := by
  unfold standB
  have h1 : (putL b (numL b 2 - t.length) t).length = b.length := putL_len (by omega)
  rw [putL_len (by rw [two_len, h1]; omega), h1]

theorem is_point (h : Is b a) (hf : a.fin ≤ a.n) {i : Nat} (hi : i < a.dir.length) {x : Nat × Nat} (h1 : x.1 < 65536) (h2 : x.2 < 65536) : Is (pointB b i x) ⟨a.cells, a.low, a.dir.set i x⟩ := by
  have hl := h.fin_le hf
  have k1 : (putL b (4 + 4 * i) (two x.1)).length = b.length := putL_len (by rw [two_len]; omega)
  have e1 : 4 + 4 * i + (two x.1).length ≤ b.length := by rw [two_len]; omega
  have e2 : 6 + 4 * i + (two x.2).length ≤ (putL b (4 + 4 * i) (two x.1)).length := by rw [two_len, k1]; omega
  have hfar : ∀ j, (j + 2 ≤ 4 + 4 * i ∨ 8 + 4 * i ≤ j) → numL (pointB b i x) j = numL b j := fun j hj => by
    unfold pointB
    rw [num_far e2 (by rw [two_len]; omega), num_far e1 (by rw [two_len]; omega)]
  refine ⟨?_, ?_, ?_, ?_, ?_⟩
  · rw [pointB_len (by omega)]; exact h.len
  · show _ = (a.dir.set i x).length
    rw [List.length_set, hfar 0 (by omega)]; exact h.cnt
  · rw [hfar 2 (by omega)]; exact h.low
  · intro j hj
    have hj' : j < a.dir.length := by simpa using hj
    have hat : A.at ⟨a.cells, a.low, a.dir.set i x⟩ j = if j = i then x else a.at j := at_set hi j
    rw [hat]
    by_cases e : j = i
    · subst e
      rw [if_pos rfl]
      refine ⟨?_, ?_⟩
      · unfold pointB
        rw [num_far e2 (by rw [two_len]; omega), num_put (by omega) h1]
      · unfold pointB
        rw [num_put (by omega) h2]
    · rw [if_neg e, hfar _ (by omega), hfar _ (by omega)]
      exact h.dir j hj'
  · intro j hj
    have hj' : a.fin ≤ j := by
      have : A.fin ⟨a.cells, a.low, a.dir.set i x⟩ = a.fin := by simp [A.fin]
      omega
    unfold A.fin at hj'
    unfold pointB
    rw [putL_out e2 (by rw [two_len]; omega), putL_out e1 (by rw [two_len]; omega)]
    exact h.rest j (by unfold A.fin; omega)

theorem is_low (h : Is b a) (hf : a.fin ≤ a.n) {v : Nat} (hv : v < 65536) : Is (putL b 2 (two v)) ⟨a.cells, v, a.dir⟩ := by
  have hl := h.fin_le hf
  have e1 : 2 + (two v).length ≤ b.length := by rw [two_len]; omega
  refine ⟨?_, ?_, ?_, ?_, ?_⟩
  · rw [putL_len e1]; exact h.len
  · rw [num_far e1 (by omega)]; exact h.cnt
  · rw [num_put (by omega) hv]
  · intro j hj
    rw [num_far e1 (by rw [two_len]; omega), num_far e1 (by rw [two_len]; omega)]
    exact h.dir j hj
  · intro j hj
    have hj' : a.fin ≤ j := hj
    rw [putL_out e1 (by rw [two_len]; unfold A.fin at hj'; omega)]
    exact h.rest j hj

/-- bytes behind the directory -/
theorem is_put (h : Is b a) (hf : a.fin ≤ a.n) {k : Nat} {t : List UInt8} (hk : a.fin ≤ k) (ht : k + t.length ≤ a.n) : Is (putL b k t) ⟨putL a.cells k t, a.low, a.dir⟩ := by
  have hl := h.fin_le hf
  have hlen := h.len
  have e1 : k + t.length ≤ b.length := by omega
  have e2 : k + t.length ≤ a.cells.length := ht
  have hk' := hk
  unfold A.fin at hk'
  refine ⟨?_, ?_, ?_, ?_, ?_⟩
  · rw [putL_len e1]
    show _ = (putL a.cells k t).length
    rw [putL_len e2]; exact h.len
  · rw [num_far e1 (by omega)]; exact h.cnt
  · rw [num_far e1 (by omega)]; exact h.low
  · intro j hj
    have hj' : j < a.dir.length := hj
    rw [num_far e1 (by omega), num_far e1 (by omega)]
    exact h.dir j hj
  · intro j hj
    show _ = (putL a.cells k t)[j]?
    rw [putL_at e1, putL_at e2]
    split
    · rfl
    · exact h.rest j hj

theorem is_stand (h : Is b a) (hf : a.fin ≤ a.n) {t : List UInt8} (hr : a.fin + t.length ≤ a.low) (hl : a.low ≤ a.n) (hn : a.n ≤ 4096) : Is (standB b t) ⟨a.lay t, a.low - t.length, a.dir⟩ := by
  have h1 := is_put h hf (k := a.low - t.length) (t := t) (by omega) (by omega)
  have e : (putL a.cells (a.low - t.length) t).length = a.cells.length := putL_len (by unfold A.n at hl; omega)
  have h2 := is_low h1 (by show a.fin ≤ (putL a.cells (a.low - t.length) t).length; rw [e]; exact hf) (v := a.low - t.length) (by omega)
  unfold standB
  rw [h.low]
  exact h2

/-- the directory's bytes from i on, one place further -/
def opened (b : List UInt8) (i n : Nat) : List UInt8 := putL (putL b (8 + 4 * i) ((b.drop (4 + 4 * i)).take (4 * (n - i)))) 0 (two (n + 1))
theorem part_at {b : List UInt8} {lo m : Nat} (h : lo + m ≤ b.length) {j : Nat} (hj : j < m) : ((b.drop lo).take m)[j]? = b[lo + j]? := by
  rw [List.getElem?_take, if_pos hj, List.getElem?_drop]
theorem part_len {b : List UInt8} {lo m : Nat} (h : lo + m ≤ b.length) : ((b.drop lo).take m).length = m := by simp; omega

theorem is_open (h : Is b a) {i : Nat} (hi : i ≤ a.dir.length) (hr : a.fin + 4 ≤ a.n) (hn : a.n ≤ 4096) :
    Is (opened b i a.dir.length) ⟨a.cells, a.low, a.dir.take i ++ (spotB (opened b i a.dir.length) i) :: a.dir.drop i⟩ := by
  have hl := h.fin_le (by omega)
  have hlen := h.len
  unfold A.fin at hr
  have hp : ((b.drop (4 + 4 * i)).take (4 * (a.dir.length - i))).length = 4 * (a.dir.length - i) := part_len (by omega)
  have e1 : 8 + 4 * i + ((b.drop (4 + 4 * i)).take (4 * (a.dir.length - i))).length ≤ b.length := by rw [hp]; omega
  have k1 := putL_len e1
  have e2 : 0 + (two (a.dir.length + 1)).length ≤ (putL b (8 + 4 * i) ((b.drop (4 + 4 * i)).take (4 * (a.dir.length - i)))).length := by rw [two_len, k1]; omega
  have hfar : ∀ j, 2 ≤ j → (j + 2 ≤ 8 + 4 * i ∨ 8 + 4 * a.dir.length ≤ j) → numL (opened b i a.dir.length) j = numL b j := fun j h2 hj => by
    unfold opened
    rw [num_far e2 (by rw [two_len]; omega), num_far e1 (by rw [hp]; omega)]
  have hmov : ∀ j, 4 + 4 * i ≤ j → j + 2 ≤ 4 + 4 * a.dir.length → numL (opened b i a.dir.length) (j + 4) = numL b j := fun j h2 hj => by
    unfold opened
    rw [num_far e2 (by rw [two_len]; omega), num_in e1 (by omega) (by rw [hp]; omega), num_part (by omega)]
    congr 1; omega
  refine ⟨?_, ?_, ?_, ?_, ?_⟩
  · unfold opened; rw [putL_len e2, k1]; exact h.len
  · show _ = (a.dir.take i ++ _ :: a.dir.drop i).length
    unfold opened
    rw [num_put (by omega) (by omega)]
    simp; omega
  · rw [hfar 2 (by omega) (by omega)]; exact h.low
  · intro j hj
    have hj' : j < a.dir.length + 1 := by
      have e0 : (a.dir.take i ++ (spotB (opened b i a.dir.length) i) :: a.dir.drop i).length = a.dir.length + 1 := by simp; omega
      have hj2 : j < (a.dir.take i ++ (spotB (opened b i a.dir.length) i) :: a.dir.drop i).length := hj
      omega
    have hat : A.at ⟨a.cells, a.low, a.dir.take i ++ (spotB (opened b i a.dir.length) i) :: a.dir.drop i⟩ j = if j < i then a.at j else if j = i then spotB (opened b i a.dir.length) i else a.at (j - 1) := at_ins hi _ j
    rw [hat]
    by_cases c1 : j < i
    · rw [if_pos c1, hfar _ (by omega) (by omega), hfar _ (by omega) (by omega)]
      exact h.dir j (by omega)
    · rw [if_neg c1]
      by_cases c2 : j = i
      · subst c2
        rw [if_pos rfl]
        exact ⟨rfl, rfl⟩
      · rw [if_neg c2]
        have h3 := h.dir (j - 1) (by omega)
        have m1 := hmov (4 + 4 * (j - 1)) (by omega) (by omega)
        have m2 := hmov (6 + 4 * (j - 1)) (by omega) (by omega)
        rw [show 4 + 4 * (j - 1) + 4 = 4 + 4 * j by omega] at m1
        rw [show 6 + 4 * (j - 1) + 4 = 6 + 4 * j by omega] at m2
        rw [m1, m2]
        exact h3
  · intro j hj
    have hj' : 8 + 4 * a.dir.length ≤ j := by
      have e0 : (a.dir.take i ++ (spotB (opened b i a.dir.length) i) :: a.dir.drop i).length = a.dir.length + 1 := by simp; omega
      have hj2 : 4 + 4 * (a.dir.take i ++ (spotB (opened b i a.dir.length) i) :: a.dir.drop i).length ≤ j := hj
      omega
    unfold opened
    rw [putL_out e2 (by rw [two_len]; omega), putL_out e1 (by rw [hp]; omega)]
    exact h.rest j (by unfold A.fin; omega)

/-- the directory without place i -/
def shut (b : List UInt8) (i n : Nat) : List UInt8 := putL (putL (putL b (4 + 4 * i) ((b.drop (8 + 4 * i)).take (4 * (n - 1 - i)))) (4 * n) [0, 0, 0, 0]) 0 (two (n - 1))
theorem is_shut (h : Is b a) {i : Nat} (hi : i < a.dir.length) (hr : a.fin ≤ a.n) (hn : a.n ≤ 4096) : Is (shut b i a.dir.length) (a.del i) := by
  have hl := h.fin_le (by omega)
  have hlen := h.len
  unfold A.fin at hr
  have hp : ((b.drop (8 + 4 * i)).take (4 * (a.dir.length - 1 - i))).length = 4 * (a.dir.length - 1 - i) := part_len (by omega)
  have e1 : 4 + 4 * i + ((b.drop (8 + 4 * i)).take (4 * (a.dir.length - 1 - i))).length ≤ b.length := by rw [hp]; omega
  have k1 := putL_len e1
  have e2 : 4 * a.dir.length + ([0, 0, 0, 0] : List UInt8).length ≤ (putL b (4 + 4 * i) ((b.drop (8 + 4 * i)).take (4 * (a.dir.length - 1 - i)))).length := by rw [k1]; simp; omega
  have k2 := putL_len e2
  have e3 : 0 + (two (a.dir.length - 1)).length ≤ (putL (putL b (4 + 4 * i) ((b.drop (8 + 4 * i)).take (4 * (a.dir.length - 1 - i)))) (4 * a.dir.length) [0, 0, 0, 0]).length := by rw [two_len, k2, k1]; omega
  have hfar : ∀ j, 2 ≤ j → j + 2 ≤ 4 + 4 * i → numL (shut b i a.dir.length) j = numL b j := fun j h2 hj => by
    unfold shut
    rw [num_far e3 (by rw [two_len]; omega), num_far e2 (by simp; omega), num_far e1 (by rw [hp]; omega)]
  have hmov : ∀ j, 4 + 4 * i ≤ j → j + 2 ≤ 4 * a.dir.length → numL (shut b i a.dir.length) j = numL b (j + 4) := fun j h2 hj => by
    unfold shut
    rw [num_far e3 (by rw [two_len]; omega), num_far e2 (by simp; omega), num_in e1 (by omega) (by rw [hp]; omega), num_part (by omega)]
    congr 1; omega
  have e4 : a.fin - 4 + ([0, 0, 0, 0] : List UInt8).length ≤ a.cells.length := by
    have : a.cells.length = a.n := rfl
    unfold A.fin; simp; omega
  have hdl : (a.dir.take i ++ a.dir.drop (i + 1)).length = a.dir.length - 1 := by simp; omega
  refine ⟨?_, ?_, ?_, ?_, ?_⟩
  · unfold shut
    rw [putL_len e3, k2, k1]
    show _ = (putL a.cells (a.fin - 4) [0, 0, 0, 0]).length
    rw [putL_len e4]; exact h.len
  · show _ = (a.dir.take i ++ a.dir.drop (i + 1)).length
    unfold shut
    rw [num_put (by omega) (by omega), hdl]
  · rw [hfar 2 (by omega) (by omega)]; exact h.low
  · intro j hj
    have hj' : j < a.dir.length - 1 := by rw [← hdl]; exact hj
    have hat : (a.del i).at j = if j < i then a.at j else a.at (j + 1) := at_del hi j
    rw [hat]
    by_cases c1 : j < i
    · rw [if_pos c1, hfar _ (by omega) (by omega), hfar _ (by omega) (by omega)]
      exact h.dir j (by omega)
    · rw [if_neg c1, hmov _ (by omega) (by omega), hmov _ (by omega) (by omega)]
      have h3 := h.dir (j + 1) (by omega)
      rw [show 4 + 4 * (j + 1) = 4 + 4 * j + 4 by omega, show 6 + 4 * (j + 1) = 6 + 4 * j + 4 by omega] at h3
      exact h3
  · intro j hj
    have hj' : 4 * a.dir.length ≤ j := by
      have hj2 : 4 + 4 * (a.dir.take i ++ a.dir.drop (i + 1)).length ≤ j := hj
      omega
    show _ = (putL a.cells (a.fin - 4) [0, 0, 0, 0])[j]?
    unfold shut
    rw [putL_out e3 (by rw [two_len]; omega), putL_at e2, putL_at e4]
    have ef : a.fin - 4 = 4 * a.dir.length := by unfold A.fin; omega
    rw [ef]
    split
    · rfl
    · rename_i hc
      rw [putL_out e1 (by rw [hp]; simp at hc; omega)]
      exact h.rest j (by simp at hc; unfold A.fin; omega)
end

end Go.Proofs.Ytehfclgngkhcpaa.Slot
