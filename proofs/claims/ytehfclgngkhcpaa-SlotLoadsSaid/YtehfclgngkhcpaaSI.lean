/- Plain mathematics: an area's bytes are one text. -/
import Derived.Test.YtehfclgngkhcpaaSQ
namespace Go.Proofs.Ytehfclgngkhcpaa.Slot

def dirB (l : List (Nat × Nat)) : List UInt8 := l.flatMap fun x => two x.1 ++ two x.2
def imgA (a : A) : List UInt8 := two a.dir.length ++ (two a.low ++ (dirB a.dir ++ a.cells.drop a.fin))

theorem dirB_cons (x : Nat × Nat) (l : List (Nat × Nat)) : dirB (x :: l) = two x.1 ++ (two x.2 ++ dirB l) := by simp [dirB]
theorem dirB_len (l : List (Nat × Nat)) : (dirB l).length = 4 * l.length := by
  induction l with
  | nil => rfl
  | cons x l ih => rw [dirB_cons]; simp [two_len, ih]; omega
theorem num_app (l m : List UInt8) (k : Nat) : numL (l ++ m) (l.length + k) = numL m k :=
  num_congr (by rw [List.getElem?_append_right (by omega)]; congr 1; omega) (by rw [List.getElem?_append_right (by omega)]; congr 1; omega)
theorem num_head {l m : List UInt8} {k : Nat} (h : k + 2 ≤ l.length) : numL (l ++ m) k = numL l k :=
  num_congr (List.getElem?_append_left (by omega)) (List.getElem?_append_left (by omega))
theorem num_dir : ∀ (l : List (Nat × Nat)) (r : List UInt8) (i : Nat), i < l.length → (∀ x ∈ l, x.1 < 65536 ∧ x.2 < 65536) → numL (dirB l ++ r) (4 * i) = (l.getD i (0, 0)).1 ∧ numL (dirB l ++ r) (2 + 4 * i) = (l.getD i (0, 0)).2
  | [], _, _, h, _ => by simp at h
  | x :: l, r, i, h, hx => by
    rw [dirB_cons, List.append_assoc, List.append_assoc]
    have h2 := hx x (by simp)
    cases i with
    | zero =>
      refine ⟨?_, ?_⟩
      · rw [num_head (by rw [two_len]; omega), num_two h2.1]; rfl
      · have := num_app (two x.1) (two x.2 ++ (dirB l ++ r)) 0
        rw [two_len] at this
        rw [show 2 + 4 * 0 = 2 + 0 by omega, this, num_head (by rw [two_len]; omega), num_two h2.2]; rfl
    | succ i =>
      have ih := num_dir l r i (by simpa using h) (fun y hy => hx y (by simp [hy]))
      have e : ∀ j, numL (two x.1 ++ (two x.2 ++ (dirB l ++ r))) (4 + j) = numL (dirB l ++ r) j := fun j => by
        have h1 := num_app (two x.1) (two x.2 ++ (dirB l ++ r)) (2 + j)
        have h2 := num_app (two x.2) (dirB l ++ r) j
        rw [two_len] at h1 h2
        rw [show 4 + j = 2 + (2 + j) by omega, h1, h2]
      rw [show 4 * (i + 1) = 4 + 4 * i by omega, show 2 + (4 + 4 * i) = 4 + (2 + 4 * i) by omega, e, e]
      exact ih
theorem img_len {a : A} (h : a.ok) : (imgA a).length = a.n := by
  have := h.fin
  have := h.low
  have hc : a.cells.length = a.n := rfl
  unfold imgA
  simp only [List.length_append, two_len, dirB_len, List.length_drop, hc]
  unfold A.fin at *
  omega
theorem img_is {a : A} (h : a.ok) : Is (imgA a) a := by
  have hn := h.hi
  have hfin := h.fin
  have hlow := h.low
  have hd : ∀ x ∈ a.dir, x.1 < 65536 ∧ x.2 < 65536 := fun x hx => by
    have := each_mem h hx
    omega
  have e2 : ∀ j, numL (imgA a) (2 + j) = numL (two a.low ++ (dirB a.dir ++ a.cells.drop a.fin)) j := fun j => num_app (two a.dir.length) _ j
  have e4 : ∀ j, numL (imgA a) (4 + j) = numL (dirB a.dir ++ a.cells.drop a.fin) j := fun j => by
    rw [show 4 + j = 2 + (2 + j) by omega, e2]
    exact num_app (two a.low) _ j
  refine ⟨img_len h, ?_, ?_, ?_, ?_⟩
  · unfold imgA
    rw [num_head (by rw [two_len]; omega), num_two (by unfold A.fin at hfin; omega)]
  · rw [show 2 = 2 + 0 by omega, e2, num_head (by rw [two_len]; omega), num_two (by omega)]
  · intro i hi
    rw [e4, show 6 + 4 * i = 4 + (2 + 4 * i) by omega, e4]
    exact num_dir a.dir _ i hi hd
  · intro j hj
    unfold imgA
    have hf : a.fin = 4 + 4 * a.dir.length := rfl
    rw [List.getElem?_append_right (by rw [two_len]; omega), List.getElem?_append_right (by rw [two_len, two_len]; omega), List.getElem?_append_right (by rw [two_len, two_len, dirB_len]; omega), List.getElem?_drop]
    congr 1
    rw [two_len, two_len, dirB_len]
    omega
theorem is_one {b c : List UInt8} {a : A} (hk : a.ok) (h : Is b a) (k : Is c a) : b = c := by
  have hfin := hk.fin
  have hlow := hk.low
  have hb := h.len
  have hc := k.len
  have hf : a.fin = 4 + 4 * a.dir.length := rfl
  have pair : ∀ j, j + 2 ≤ a.n → numL b j = numL c j → b[j]? = c[j]? ∧ b[j + 1]? = c[j + 1]? := fun j hj e => num_tells (by omega) (by omega) e
  apply List.ext_getElem?
  intro j
  by_cases h1 : a.fin ≤ j
  · rw [h.rest j h1, k.rest j h1]
  · by_cases h2 : j < 4
    · have p0 := pair 0 (by omega) (by rw [h.cnt, k.cnt])
      have p2 := pair 2 (by omega) (by rw [h.low, k.low])
      rcases (show j = 0 ∨ j = 1 ∨ j = 2 ∨ j = 3 by omega) with rfl | rfl | rfl | rfl
      · exact p0.1
      · exact p0.2
      · exact p2.1
      · exact p2.2
    · obtain ⟨i, r, hi, hr, hj⟩ : ∃ i r, i < a.dir.length ∧ r < 4 ∧ j = 4 + 4 * i + r := ⟨(j - 4) / 4, (j - 4) % 4, by omega, by omega, by omega⟩
      have d1 := h.dir i hi
      have d2 := k.dir i hi
      have p0 := pair (4 + 4 * i) (by omega) (by rw [d1.1, d2.1])
      have p2 := pair (6 + 4 * i) (by omega) (by rw [d1.2, d2.2])
      rw [show 6 + 4 * i = 4 + 4 * i + 2 by omega] at p2
      subst hj
      rcases (show r = 0 ∨ r = 1 ∨ r = 2 ∨ r = 3 by omega) with rfl | rfl | rfl | rfl
      · exact p0.1
      · exact p0.2
      · exact p2.1
      · exact p2.2
theorem is_img {b : List UInt8} {a : A} (hk : a.ok) (h : Is b a) : b = imgA a := is_one hk h (img_is hk)

end Go.Proofs.Ytehfclgngkhcpaa.Slot
