/- Plain mathematics: areas stay areas; their texts. -/
import Derived.Test.YtehfclgngkhcpaaSN
namespace Go.Proofs.Ytehfclgngkhcpaa.Slot

section
variable {a : A}
theorem each_mem (h : a.ok) {x : Nat × Nat} (hx : x ∈ a.dir) : a.low ≤ x.1 ∧ x.1 + x.2 ≤ a.n := by
  obtain ⟨i, hi, rfl⟩ := List.getElem_of_mem hx
  rw [at_elem hi]
  exact h.each i hi
theorem texts_len : a.texts.length = a.dir.length := by simp [A.texts]
theorem texts_at {i : Nat} (hi : i < a.dir.length) : a.texts[i]? = some (a.text i) := by
  unfold A.texts A.text
  rw [List.getElem?_map, at_get hi]; rfl
theorem lay_len (h : a.ok) {t : List UInt8} (ht : t.length ≤ a.low) : (a.lay t).length = a.n := by
  unfold A.lay
  have := h.low
  rw [putL_len (by show a.low - t.length + t.length ≤ a.n; omega)]; rfl
theorem lay_far (h : a.ok) {t : List UInt8} (ht : t.length ≤ a.low) {x : Nat × Nat} (hx : a.low ≤ x.1) : txt (a.lay t) x = txt a.cells x := by
  have := h.low
  refine txt_far (by show a.low - t.length + t.length ≤ a.n; omega) (.inr (.inr (.inl ?_)))
  show a.low - t.length + t.length ≤ x.1
  omega
theorem lay_in (h : a.ok) {t : List UInt8} (ht : t.length ≤ a.low) : txt (a.lay t) (a.low - t.length, t.length) = t := by
  have := h.low
  exact txt_put (by show a.low - t.length + t.length ≤ a.n; omega)

/-! ### a text more -/
theorem putAt_ok (h : a.ok) {i : Nat} (hi : i ≤ a.dir.length) {t : List UInt8} (hr : a.fin + 4 + t.length ≤ a.low) : (a.putAt i t).ok := by
  have hl : (a.putAt i t).n = a.n := lay_len h (by omega)
  have hd : (a.putAt i t).dir.length = a.dir.length + 1 := by simp [A.putAt]; omega
  have hf : (a.putAt i t).fin = a.fin + 4 := by unfold A.fin; rw [hd]; omega
  have hat : ∀ j, (a.putAt i t).at j = if j < i then a.at j else if j = i then (a.low - t.length, t.length) else a.at (j - 1) := fun j => at_ins hi _ j
  have hlow : (a.putAt i t).low = a.low - t.length := rfl
  have h1 := h.low
  refine ⟨by rw [hl]; exact h.lo, by rw [hl]; exact h.hi, by omega, by omega, ?_, ?_, ?_⟩
  · intro j hj
    rw [hd] at hj
    rw [hat, hl, hlow]
    split
    · have := h.each j (by omega); omega
    · split
      · simp only; omega
      · have := h.each (j - 1) (by omega); omega
  · intro j k hj hk hjk
    rw [hd] at hj hk
    rw [hat, hat]
    have hlo : ∀ m, m < a.dir.length → clear (a.low - t.length, t.length) (a.at m) ∧ clear (a.at m) (a.low - t.length, t.length) := fun m hm => by
      have := h.each m hm
      unfold clear; simp only; omega
    split
    · split
      · exact h.apart j k (by omega) (by omega) hjk
      · split
        · exact (hlo j (by omega)).2
        · exact h.apart j (k - 1) (by omega) (by omega) (by omega)
    · split
      · split
        · exact (hlo k (by omega)).1
        · split
          · omega
          · exact (hlo (k - 1) (by omega)).1
      · split
        · exact h.apart (j - 1) k (by omega) (by omega) (by omega)
        · split
          · exact (hlo (j - 1) (by omega)).2
          · exact h.apart (j - 1) (k - 1) (by omega) (by omega) (by omega)
  · have ht : tot (a.putAt i t).dir = tot a.dir + t.length := by
      show tot (a.dir.take i ++ _ :: a.dir.drop i) = _
      rw [tot_app, tot_cons]
      have := tot_split a.dir i
      simp only
      omega
    have := h.room
    rw [ht, hl, hlow]; omega
theorem putAt_texts (h : a.ok) {i : Nat} {t : List UInt8} (ht : t.length ≤ a.low) : (a.putAt i t).texts = a.texts.take i ++ t :: a.texts.drop i := by
  have hm : ∀ x ∈ a.dir, txt (a.lay t) x = txt a.cells x := fun x hx => lay_far h ht (each_mem h hx).1
  show (a.dir.take i ++ (a.low - t.length, t.length) :: a.dir.drop i).map (txt (a.lay t)) = _
  rw [List.map_append, List.map_cons, lay_in h ht]
  unfold A.texts
  rw [← List.map_take, ← List.map_drop]
  congr 1
  · exact List.map_congr_left fun x hx => hm x (List.mem_of_mem_take hx)
  · congr 1
    exact List.map_congr_left fun x hx => hm x (List.mem_of_mem_drop hx)

/-! ### another text at a place -/
theorem set_ok (h : a.ok) {c : List UInt8} (hc : c.length = a.n) {l : Nat} (hl : a.fin ≤ l) (hl2 : l ≤ a.low) {i : Nat} (hi : i < a.dir.length) {x : Nat × Nat} (h1 : l ≤ x.1) (h2 : x.1 + x.2 ≤ a.n)
    (h3 : ∀ j, j < a.dir.length → j ≠ i → clear x (a.at j)) (h4 : l + tot a.dir + x.2 ≤ a.n + (a.at i).2) : A.ok ⟨c, l, a.dir.set i x⟩ := by
  have hn : A.n ⟨c, l, a.dir.set i x⟩ = a.n := hc
  have hd : (a.dir.set i x).length = a.dir.length := List.length_set
  have hat : ∀ j, A.at ⟨c, l, a.dir.set i x⟩ j = if j = i then x else a.at j := fun j => at_set hi j
  have hlow := h.low
  refine ⟨by rw [hn]; exact h.lo, by rw [hn]; exact h.hi, ?_, ?_, ?_, ?_, ?_⟩
  · show 4 + 4 * (a.dir.set i x).length ≤ l
    rw [hd]; exact hl
  · rw [hn]; show l ≤ _; omega
  · intro j hj
    have hj' : j < a.dir.length := by rw [← hd]; exact hj
    rw [hat, hn]
    show l ≤ _ ∧ _
    split
    · exact ⟨h1, h2⟩
    · have := h.each j hj'; omega
  · intro j k hj hk hjk
    have hj' : j < a.dir.length := by rw [← hd]; exact hj
    have hk' : k < a.dir.length := by rw [← hd]; exact hk
    rw [hat, hat]
    split
    · split
      · omega
      · exact h3 k hk' (by omega)
    · split
      · have := h3 j hj' (by omega)
        unfold clear at this ⊢; omega
      · exact h.apart j k hj' hk' hjk
  · rw [hn]
    show l + tot (a.dir.set i x) ≤ _
    have e := tot_set hi x
    have e2 : a.dir.getD i (0, 0) = a.at i := rfl
    rw [e2] at e
    omega
theorem setAt_ok (h : a.ok) {i : Nat} (hi : i < a.dir.length) {t : List UInt8} (hr : a.fin + t.length ≤ a.low) : (a.setAt i t).ok := by
  have := h.low
  have := h.room
  refine set_ok h (lay_len h (by omega)) (by omega) (by omega) hi (Nat.le_refl _) (by simp only; omega) (fun j hj _ => ?_) (by simp only; omega)
  have := h.each j hj
  unfold clear; simp only; omega
theorem setAt_texts (h : a.ok) {i : Nat} {t : List UInt8} (ht : t.length ≤ a.low) : (a.setAt i t).texts = a.texts.set i t := by
  have hm : ∀ x ∈ a.dir, txt (a.lay t) x = txt a.cells x := fun x hx => lay_far h ht (each_mem h hx).1
  show (a.dir.set i (a.low - t.length, t.length)).map (txt (a.lay t)) = _
  rw [List.map_set, lay_in h ht, List.map_congr_left hm]
  rfl
theorem inPlace_ok (h : a.ok) {i : Nat} (hi : i < a.dir.length) {t : List UInt8} (ht : t.length ≤ (a.at i).2) : (a.inPlace i t).ok := by
  have he := h.each i hi
  have hr := h.room
  refine set_ok h (putL_len (by show (a.at i).1 + t.length ≤ a.n; omega)) h.fin (Nat.le_refl _) hi he.1 (by simp only; omega) (fun j hj hji => ?_) (by simp only; omega)
  have := h.apart i j hi hj (by omega)
  unfold clear at this ⊢; simp only; omega
theorem inPlace_texts (h : a.ok) {i : Nat} (hi : i < a.dir.length) {t : List UInt8} (ht : t.length ≤ (a.at i).2) : (a.inPlace i t).texts = a.texts.set i t := by
  have he := h.each i hi
  have hle : (a.at i).1 + t.length ≤ a.cells.length := by show _ ≤ a.n; omega
  have hd : (a.inPlace i t).dir.length = a.dir.length := List.length_set
  have hat : ∀ j, (a.inPlace i t).at j = if j = i then ((a.at i).1, t.length) else a.at j := fun j => at_set hi j
  apply List.ext_getElem?
  intro j
  by_cases hj : j < a.dir.length
  · rw [texts_at (by rw [hd]; exact hj), List.getElem?_set]
    show some (txt (putL a.cells (a.at i).1 t) ((a.inPlace i t).at j)) = _
    rw [hat]
    by_cases e : i = j
    · subst e
      rw [if_pos rfl, if_pos rfl, if_pos (by rw [texts_len]; exact hi), txt_put hle]
    · rw [if_neg (fun h => e h.symm), if_neg e, texts_at hj]
      congr 1
      refine txt_far hle ?_
      have := h.apart i j hi hj e
      unfold clear at this ⊢; simp only; omega
  · rw [List.getElem?_eq_none (by rw [texts_len, hd]; omega), List.getElem?_eq_none (by rw [List.length_set, texts_len]; omega)]
theorem hollow_ok (h : a.ok) {i : Nat} (hi : i < a.dir.length) : (a.hollow i).ok := by
  have he := h.each i hi
  have hr := h.room
  refine set_ok h rfl h.fin (Nat.le_refl _) hi he.1 (by simp only; omega) (fun j hj hji => .inl rfl) (by simp only; omega)
theorem hollow_free (h : a.ok) {i : Nat} (hi : i < a.dir.length) : (a.hollow i).free = a.free + (a.at i).2 ∧ (a.hollow i).n = a.n ∧ (a.hollow i).fin = a.fin ∧ (a.hollow i).dir.length = a.dir.length := by
  have hd : (a.dir.set i ((a.at i).1, 0)).length = a.dir.length := List.length_set
  have e := tot_set hi ((a.at i).1, 0)
  have e2 : a.dir.getD i (0, 0) = a.at i := rfl
  have hr := h.room
  have hf := h.fin
  refine ⟨?_, rfl, ?_, hd⟩
  · show a.n - (4 + 4 * (a.dir.set i ((a.at i).1, 0)).length) - tot (a.dir.set i ((a.at i).1, 0)) = a.n - (4 + 4 * a.dir.length) - tot a.dir + _
    unfold A.fin at hf
    rw [hd]
    rw [e2] at e
    simp only at e
    omega
  · show 4 + 4 * (a.dir.set i ((a.at i).1, 0)).length = _
    rw [hd]; rfl
theorem hollow_texts {i : Nat} : (a.hollow i).texts = a.texts.set i (txt a.cells ((a.at i).1, 0)) := by
  show (a.dir.set i ((a.at i).1, 0)).map (txt a.cells) = _
  rw [List.map_set]
  rfl
theorem compact_texts (h : a.ok) : a.compact.texts = a.texts := by
  obtain ⟨h1, h2, h3, h4, h5⟩ := compact_all h
  apply List.ext_getElem?
  intro j
  by_cases hj : j < a.dir.length
  · rw [texts_at (by rw [h2]; exact hj), texts_at hj, (h5 j hj).2]
  · rw [List.getElem?_eq_none (by rw [texts_len, h2]; omega), List.getElem?_eq_none (by rw [texts_len]; omega)]

/-! ### a text less -/
theorem del_all (h : a.ok) {i : Nat} (hi : i < a.dir.length) : (a.del i).n = a.n ∧ (a.del i).dir.length + 1 = a.dir.length ∧ (a.del i).fin + 4 = a.fin ∧ tot (a.del i).dir + (a.at i).2 = tot a.dir := by
  have hf := h.fin
  have hl := h.low
  have e4 : a.fin - 4 + ([0, 0, 0, 0] : List UInt8).length ≤ a.cells.length := by
    have : a.cells.length = a.n := rfl
    have : 4 ≤ a.fin := by unfold A.fin; omega
    simp; omega
  have hd : (a.del i).dir.length + 1 = a.dir.length := by
    show (a.dir.take i ++ a.dir.drop (i + 1)).length + 1 = _
    simp; omega
  refine ⟨putL_len e4, hd, by unfold A.fin; omega, ?_⟩
  show tot (a.dir.take i ++ a.dir.drop (i + 1)) + _ = _
  rw [tot_app]
  have h1 := tot_split a.dir (i + 1)
  have h2 := tot_take hi
  have e2 : a.dir.getD i (0, 0) = a.at i := rfl
  rw [e2] at h2
  omega
theorem del_ok (h : a.ok) {i : Nat} (hi : i < a.dir.length) : (a.del i).ok := by
  obtain ⟨h1, h2, h3, h4⟩ := del_all h hi
  have hf := h.fin
  have hl := h.low
  have hr := h.room
  have hlow : (a.del i).low = a.low := rfl
  have hat : ∀ j, (a.del i).at j = if j < i then a.at j else a.at (j + 1) := fun j => at_del hi j
  refine ⟨by rw [h1]; exact h.lo, by rw [h1]; exact h.hi, by omega, by omega, ?_, ?_, by omega⟩
  · intro j hj
    rw [hat, h1, hlow]
    split
    · exact h.each j (by omega)
    · exact h.each (j + 1) (by omega)
  · intro j k hj hk hjk
    rw [hat, hat]
    split
    · split
      · exact h.apart j k (by omega) (by omega) hjk
      · exact h.apart j (k + 1) (by omega) (by omega) (by omega)
    · split
      · exact h.apart (j + 1) k (by omega) (by omega) (by omega)
      · exact h.apart (j + 1) (k + 1) (by omega) (by omega) (by omega)
theorem del_texts (h : a.ok) {i : Nat} (hi : i < a.dir.length) : (a.del i).texts = a.texts.take i ++ a.texts.drop (i + 1) := by
  have hf := h.fin
  have hl := h.low
  have e4 : a.fin - 4 + ([0, 0, 0, 0] : List UInt8).length ≤ a.cells.length := by
    have : a.cells.length = a.n := rfl
    have : 4 ≤ a.fin := by unfold A.fin; omega
    simp; omega
  have hm : ∀ x ∈ a.dir, txt (putL a.cells (a.fin - 4) [0, 0, 0, 0]) x = txt a.cells x := fun x hx => by
    refine txt_far e4 (.inr (.inr (.inl ?_)))
    have := (each_mem h hx).1
    have : 4 ≤ a.fin := by unfold A.fin; omega
    simp; omega
  show (a.dir.take i ++ a.dir.drop (i + 1)).map (txt (putL a.cells (a.fin - 4) [0, 0, 0, 0])) = _
  rw [List.map_append]
  unfold A.texts
  rw [← List.map_take, ← List.map_drop]
  congr 1
  · exact List.map_congr_left fun x hx => hm x (List.mem_of_mem_take hx)
  · exact List.map_congr_left fun x hx => hm x (List.mem_of_mem_drop hx)

/-! ### a new one -/
theorem new_ok {n : Nat} (h1 : 16 ≤ n) (h2 : n ≤ 4096) : (A.new n).ok := by
  have hn : (A.new n).n = n := by simp [A.new, A.n]
  refine ⟨by omega, by omega, by show 4 + 4 * 0 ≤ n; omega, by rw [hn]; exact Nat.le_refl _, fun i hi => ?_, fun i j hi => ?_, by rw [hn]; simp [A.new, tot]⟩
  · simp [A.new] at hi
  · simp [A.new] at hi
end

/-! ### what the calls answer -/
def putE (a : A) (at_ : Int) (t : List UInt8) : Int := if at_ < 0 ∨ (a.dir.length : Int) < at_ then 2 else if a.free < t.length + 4 then 4 else 0
def room (a : A) (n : Nat) : A := if a.gap < n then a.compact else a
def putA (a : A) (at_ : Int) (t : List UInt8) : A := if putE a at_ t = 0 then (room a (t.length + 4)).putAt at_.toNat t else a
def hasP (a : A) (at_ : Int) : Prop := 0 ≤ at_ ∧ at_ < (a.dir.length : Int)
instance (a : A) (at_ : Int) : Decidable (hasP a at_) := by unfold hasP; infer_instance
def setE (a : A) (at_ : Int) (t : List UInt8) : Int := if ¬ hasP a at_ then 3 else if t.length ≤ (a.at at_.toNat).2 then 0 else if a.free < t.length - (a.at at_.toNat).2 then 4 else 0
def setA (a : A) (at_ : Int) (t : List UInt8) : A := if setE a at_ t ≠ 0 then a else if t.length ≤ (a.at at_.toNat).2 then a.inPlace at_.toNat t else (if a.gap < t.length then (a.hollow at_.toNat).compact else a).setAt at_.toNat t
def remE (a : A) (at_ : Int) : Int := if hasP a at_ then 0 else 3
def remA (a : A) (at_ : Int) : A := if hasP a at_ then a.del at_.toNat else a
def getS (a : A) (at_ : Int) : List UInt8 := if hasP a at_ then a.text at_.toNat else []

section
variable {a : A}
theorem room_all (h : a.ok) (n : Nat) : (room a n).ok ∧ (room a n).n = a.n ∧ (room a n).dir.length = a.dir.length ∧ (room a n).fin = a.fin ∧ (n ≤ a.free → a.fin + n ≤ (room a n).low) ∧ (room a n).texts = a.texts := by
  unfold room
  obtain ⟨f1, f2, f3⟩ := ok_free h
  split
  · have hk := compact_ok h
    obtain ⟨g1, g2, g3⟩ := compact_gap h
    obtain ⟨k1, k2, k3, k4, k5⟩ := compact_all h
    have := (ok_free hk).2.2
    exact ⟨hk, k1, k2, g3, fun _ => by omega, compact_texts h⟩
  · exact ⟨h, rfl, rfl, rfl, fun _ => by omega, rfl⟩
theorem putA_ok (h : a.ok) (i : Int) (t : List UInt8) : (putA a i t).ok := by
  unfold putA
  split
  · rename_i e
    unfold putE at e
    split at e
    · simp at e
    · split at e
      · simp at e
      · obtain ⟨r1, r2, r3, r4, r5, _⟩ := room_all h (t.length + 4)
        have := r5 (by omega)
        exact putAt_ok r1 (by rw [r3]; omega) (by omega)
  · exact h
theorem putA_texts (h : a.ok) {i : Int} {t : List UInt8} (e : putE a i t = 0) : (putA a i t).texts = a.texts.take i.toNat ++ t :: a.texts.drop i.toNat := by
  unfold putA
  rw [if_pos e]
  unfold putE at e
  split at e
  · simp at e
  · split at e
    · simp at e
    · obtain ⟨r1, r2, r3, r4, r5, r6⟩ := room_all h (t.length + 4)
      have := r5 (by omega)
      rw [putAt_texts r1 (by omega), r6]
theorem setL_all (h : a.ok) {i : Nat} (hi : i < a.dir.length) {t : List UInt8} (h1 : (a.at i).2 < t.length) (h2 : t.length - (a.at i).2 ≤ a.free) :
    (if a.gap < t.length then (a.hollow i).compact else a).ok ∧ (if a.gap < t.length then (a.hollow i).compact else a).dir.length = a.dir.length ∧ a.fin + t.length ≤ (if a.gap < t.length then (a.hollow i).compact else a).low ∧ (if a.gap < t.length then (a.hollow i).compact else a).fin = a.fin ∧ (if a.gap < t.length then (a.hollow i).compact else a).n = a.n ∧ (if a.gap < t.length then (a.hollow i).compact else a).texts.set i t = a.texts.set i t := by
  obtain ⟨f1, f2, f3⟩ := ok_free h
  split
  · have hh := hollow_ok h hi
    obtain ⟨e1, e2, e3, e4⟩ := hollow_free h hi
    have hk := compact_ok hh
    obtain ⟨g1, g2, g3⟩ := compact_gap hh
    obtain ⟨k1, k2, k3, k4, k5⟩ := compact_all hh
    have := (ok_free hk).2.2
    refine ⟨hk, by omega, by omega, by omega, by omega, ?_⟩
    rw [compact_texts hh, hollow_texts, List.set_set]
  · exact ⟨h, rfl, by omega, rfl, rfl, rfl⟩
theorem setA_ok (h : a.ok) (i : Int) (t : List UInt8) : (setA a i t).ok := by
  unfold setA
  split
  · exact h
  · rename_i e
    unfold setE at e
    split at e
    · simp at e
    · rename_i hh
      have hp : hasP a i := Classical.not_not.1 hh
      unfold hasP at hp
      split
      · exact inPlace_ok h (by omega) (by assumption)
      · rename_i hs
        rw [if_neg hs] at e
        split at e
        · simp at e
        · obtain ⟨r1, r2, r3, r4, r5, r6⟩ := setL_all h (i := i.toNat) (by omega) (t := t) (by omega) (by omega)
          exact setAt_ok r1 (by rw [r2]; omega) (by rw [r4]; exact r3)
theorem setA_texts (h : a.ok) {i : Int} {t : List UInt8} (e : setE a i t = 0) : (setA a i t).texts = a.texts.set i.toNat t ∧ hasP a i := by
  unfold setA
  rw [if_neg (by simp [e])]
  unfold setE at e
  split at e
  · simp at e
  · rename_i hh
    have hp : hasP a i := Classical.not_not.1 hh
    refine ⟨?_, hp⟩
    unfold hasP at hp
    split
    · exact inPlace_texts h (by omega) (by assumption)
    · rename_i hs
      rw [if_neg hs] at e
      split at e
      · simp at e
      · obtain ⟨r1, r2, r3, r4, r5, r6⟩ := setL_all h (i := i.toNat) (by omega) (t := t) (by omega) (by omega)
        rw [setAt_texts r1 (by omega), r6]
theorem remA_ok (h : a.ok) (i : Int) : (remA a i).ok := by
  unfold remA
  split
  · rename_i hp
    unfold hasP at hp
    exact del_ok h (by omega)
  · exact h
end

end Go.Proofs.Ytehfclgngkhcpaa.Slot
