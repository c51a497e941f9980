/- Plain mathematics: texts none of which stands over another one. -/
import Derived.Test.YtehfclgngkhcpaaSI
namespace Go.Proofs.Ytehfclgngkhcpaa.Slot

/-- is place j some text's? -/
def marksOf (l : List (Nat × Nat)) (j : Nat) : Bool := l.any fun x => decide (x.1 ≤ j ∧ j < x.1 + x.2)
def Apart (l : List (Nat × Nat)) : Prop := ∀ i j, i < j → j < l.length → clear (l.getD i (0, 0)) (l.getD j (0, 0))

theorem clear_symm {x y : Nat × Nat} (h : clear x y) : clear y x := by unfold clear at *; omega
theorem marks_iff {l : List (Nat × Nat)} {j : Nat} : marksOf l j = true ↔ ∃ x ∈ l, x.1 ≤ j ∧ j < x.1 + x.2 := by
  unfold marksOf; simp
theorem marks_snoc (l : List (Nat × Nat)) (x : Nat × Nat) (j : Nat) : marksOf (l ++ [x]) j = (marksOf l j || decide (x.1 ≤ j ∧ j < x.1 + x.2)) := by
  unfold marksOf; simp
theorem marks_nil (j : Nat) : marksOf [] j = false := rfl
theorem clear_of_marks {l : List (Nat × Nat)} {x : Nat × Nat} (h : ∀ j, x.1 ≤ j → j < x.1 + x.2 → marksOf l j = false) : ∀ y ∈ l, clear y x := by
  intro y hy
  by_cases h1 : y.2 = 0
  · exact .inl h1
  · by_cases h2 : x.2 = 0
    · exact .inr (.inl h2)
    · refine .inr (.inr ?_)
      by_cases h3 : y.1 + y.2 ≤ x.1
      · exact .inl h3
      · by_cases h4 : x.1 + x.2 ≤ y.1
        · exact .inr h4
        · exfalso
          have hj : marksOf l (max x.1 y.1) = true := marks_iff.2 ⟨y, hy, by omega, by omega⟩
          rw [h (max x.1 y.1) (by omega) (by omega)] at hj
          cases hj
theorem not_clear {l : List (Nat × Nat)} {x : Nat × Nat} {j : Nat} (h1 : x.1 ≤ j) (h2 : j < x.1 + x.2) (h : marksOf l j = true) : ∃ y ∈ l, ¬ clear y x := by
  obtain ⟨y, hy, h3, h4⟩ := marks_iff.1 h
  refine ⟨y, hy, fun hc => ?_⟩
  unfold clear at hc
  omega
theorem take_get {l : List (Nat × Nat)} {k i : Nat} (hi : i < k) (hk : k ≤ l.length) : (l.take k).getD i (0, 0) = l.getD i (0, 0) := by
  rw [List.getD_eq_getElem?_getD, List.getElem?_take, if_pos hi, ← List.getD_eq_getElem?_getD]
theorem mem_getD {l : List (Nat × Nat)} {y : Nat × Nat} (h : y ∈ l) : ∃ i, i < l.length ∧ l.getD i (0, 0) = y := by
  obtain ⟨i, hi, rfl⟩ := List.getElem_of_mem h
  exact ⟨i, hi, by rw [List.getD_eq_getElem?_getD, List.getElem?_eq_getElem hi]; rfl⟩
theorem getD_mem {l : List (Nat × Nat)} {i : Nat} (h : i < l.length) : l.getD i (0, 0) ∈ l := by
  rw [List.getD_eq_getElem?_getD, List.getElem?_eq_getElem h]
  exact List.getElem_mem h
theorem take_one {l : List (Nat × Nat)} {k : Nat} (hk : k < l.length) : l.take (k + 1) = l.take k ++ [l.getD k (0, 0)] := by
  rw [List.take_succ_eq_append_getElem hk, List.getD_eq_getElem?_getD, List.getElem?_eq_getElem hk]
  rfl
theorem apart_nil : Apart [] := fun i j _ hj => by simp at hj
theorem apart_step {l : List (Nat × Nat)} {k : Nat} (hk : k < l.length) (h : Apart (l.take k)) (hc : ∀ y ∈ l.take k, clear y (l.getD k (0, 0))) : Apart (l.take (k + 1)) := by
  intro i j hij hj
  have hj' : j < k + 1 := by rw [List.length_take] at hj; omega
  rw [take_get (by omega) (by omega), take_get (by omega) (by omega)]
  by_cases e : j = k
  · subst e
    refine hc _ ?_
    have := getD_mem (l := l.take j) (i := i) (by rw [List.length_take]; omega)
    rwa [take_get hij (by omega)] at this
  · have := h i j hij (by rw [List.length_take]; omega)
    rwa [take_get (by omega) (by omega), take_get (by omega) (by omega)] at this
theorem not_apart {l : List (Nat × Nat)} {k : Nat} (hk : k < l.length) {y : Nat × Nat} (hy : y ∈ l.take k) (hc : ¬ clear y (l.getD k (0, 0))) : ¬ Apart l := by
  intro h
  obtain ⟨i, hi, rfl⟩ := mem_getD hy
  rw [List.length_take] at hi
  rw [take_get (by omega) (by omega)] at hc
  exact hc (h i k (by omega) hk)

/-! ### their bytes are counted -/
theorem count_range (a b : Nat) (h : a ≤ b) : ∀ n, (List.range n).countP (fun j => decide (a ≤ j ∧ j < b)) = min n b - min a n := by
  intro n
  induction n with
  | zero => simp
  | succ n ih =>
    rw [List.range_succ, List.countP_append, ih]
    by_cases h1 : a ≤ n ∧ n < b
    · simp [h1]; omega
    · simp only [List.countP_cons, List.countP_nil]
      rw [if_neg (by simpa using h1)]
      omega
theorem count_or (p q : Nat → Bool) : ∀ l : List Nat, (∀ j ∈ l, ¬ (p j = true ∧ q j = true)) → l.countP (fun j => p j || q j) = l.countP p + l.countP q
  | [], _ => rfl
  | x :: l, h => by
    have ih := count_or p q l (fun j hj => h j (List.mem_cons_of_mem _ hj))
    have hx := h x (List.mem_cons_self ..)
    simp only [List.countP_cons, ih]
    cases hp : p x <;> cases hq : q x <;> simp_all <;> omega
theorem count_marks {l : List (Nat × Nat)} {hi : Nat} (ha : Apart l) (he : ∀ x ∈ l, x.1 + x.2 ≤ hi) : ∀ k, k ≤ l.length → (List.range hi).countP (marksOf (l.take k)) = tot (l.take k) := by
  intro k
  induction k with
  | zero => intro _; simp [marksOf, tot]
  | succ k ih =>
    intro hk
    have h1 := ih (by omega)
    have hx := he _ (getD_mem (l := l) (i := k) (by omega))
    rw [take_one (by omega), tot_app, tot_cons, tot_nil, ← h1]
    have e : marksOf (l.take k ++ [l.getD k (0, 0)]) = fun j => marksOf (l.take k) j || decide ((l.getD k (0, 0)).1 ≤ j ∧ j < (l.getD k (0, 0)).1 + (l.getD k (0, 0)).2) := funext fun j => marks_snoc _ _ j
    rw [e, count_or, count_range _ _ (by omega)]
    · omega
    · rintro j _ ⟨hm, hd⟩
      have hd' := of_decide_eq_true hd
      obtain ⟨y, hy, hc⟩ := not_clear hd'.1 hd'.2 hm
      obtain ⟨i, hil, rfl⟩ := mem_getD hy
      rw [List.length_take] at hil
      rw [take_get (by omega) (by omega)] at hc
      exact hc (ha i k (by omega) (by omega))
theorem room_of {l : List (Nat × Nat)} {lo hi : Nat} (ha : Apart l) (hlh : lo ≤ hi) (he : ∀ x ∈ l, lo ≤ x.1 ∧ x.1 + x.2 ≤ hi) : lo + tot l ≤ hi := by
  have h1 := count_marks ha (fun x hx => (he x hx).2) l.length (Nat.le_refl _)
  rw [List.take_length] at h1
  have h2 : (List.range hi).countP (marksOf l) ≤ (List.range hi).countP (fun j => decide (lo ≤ j ∧ j < hi)) := by
    apply List.countP_mono_left
    intro j hj hm
    obtain ⟨x, hx, h3, h4⟩ := marks_iff.1 hm
    have := he x hx
    simp; omega
  rw [count_range lo hi hlh hi] at h2
  omega

/-! ### which bytes are an area's -/
def dirOf (s : List UInt8) : List (Nat × Nat) := (List.range (numL s 0)).map (spotB s)
structure Loads (s : List UInt8) : Prop where
  lo : 16 ≤ s.length
  hi : s.length ≤ 4096
  fin : 4 + 4 * numL s 0 ≤ numL s 2
  low : numL s 2 ≤ s.length
  each : ∀ i, i < numL s 0 → numL s 2 ≤ (spotB s i).1 ∧ (spotB s i).1 + (spotB s i).2 ≤ s.length
  apart : Apart (dirOf s)
def areaOf (s : List UInt8) : A := ⟨s, numL s 2, dirOf s⟩
theorem dirOf_len (s : List UInt8) : (dirOf s).length = numL s 0 := by simp [dirOf]
theorem dirOf_at {s : List UInt8} {i : Nat} (h : i < numL s 0) : (dirOf s).getD i (0, 0) = spotB s i := by
  simp [dirOf, List.getD_eq_getElem?_getD, h]
theorem areaOf_is (s : List UInt8) : Is s (areaOf s) := by
  refine ⟨rfl, (dirOf_len s).symm, rfl, fun i hi => ?_, fun _ _ => rfl⟩
  have hi' : i < numL s 0 := by rw [← dirOf_len]; exact hi
  have : (areaOf s).at i = spotB s i := dirOf_at hi'
  rw [this]
  exact ⟨rfl, rfl⟩
theorem areaOf_ok {s : List UInt8} (h : Loads s) : (areaOf s).ok := by
  have hat : ∀ i, i < numL s 0 → (areaOf s).at i = spotB s i := fun i hi => dirOf_at hi
  have hl : (areaOf s).dir.length = numL s 0 := dirOf_len s
  have hn : (areaOf s).n = s.length := rfl
  have hw : (areaOf s).low = numL s 2 := rfl
  refine ⟨h.lo, h.hi, by unfold A.fin; rw [hl]; exact h.fin, h.low, fun i hi => ?_, fun i j hi hj hij => ?_, ?_⟩
  · rw [hl] at hi
    rw [hat i hi]
    exact h.each i hi
  · rw [hl] at hi hj
    rw [hat i hi, hat j hj, ← dirOf_at hi, ← dirOf_at hj]
    rcases Nat.lt_or_ge i j with h1 | h1
    · exact h.apart i j h1 (by rw [dirOf_len]; exact hj)
    · exact clear_symm (h.apart j i (by omega) (by rw [dirOf_len]; exact hi))
  · refine room_of h.apart h.low fun x hx => ?_
    obtain ⟨i, hi, rfl⟩ := mem_getD hx
    have hi' : i < numL s 0 := by rw [← dirOf_len]; exact hi
    have e : (areaOf s).dir.getD i (0, 0) = spotB s i := dirOf_at hi'
    rw [e]
    exact h.each i hi'
/-- an area's bytes are one's -/
theorem img_loads {b : List UInt8} {a : A} (hk : a.ok) (h : Is b a) : Loads b := by
  have hc := h.cnt
  have hl := h.low
  have hn := h.len
  have hat : ∀ i, i < a.dir.length → spotB b i = a.at i := fun i hi => by
    have := h.dir i hi
    unfold spotB
    rw [this.1, this.2]
  refine ⟨by rw [hn]; exact hk.lo, by rw [hn]; exact hk.hi, by rw [hc, hl]; exact hk.fin, by rw [hl, hn]; exact hk.low, fun i hi => ?_, fun i j hij hj => ?_⟩
  · rw [hc] at hi
    rw [hl, hn, hat i hi]
    exact hk.each i hi
  · rw [dirOf_len] at hj
    rw [dirOf_at (by omega), dirOf_at hj]
    rw [hc] at hj
    rw [hat i (by omega), hat j hj]
    exact hk.apart i j (by omega) hj (by omega)

end Go.Proofs.Ytehfclgngkhcpaa.Slot
