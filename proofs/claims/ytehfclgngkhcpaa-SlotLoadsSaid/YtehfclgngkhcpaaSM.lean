/- Plain mathematics: bytes with numbers of two bytes in them; areas of texts. -/
namespace Go.Proofs.Ytehfclgngkhcpaa.Slot

/-- a number's two bytes, the higher one first -/
def two (n : Nat) : List UInt8 := [UInt8.ofNat (n / 256), UInt8.ofNat n]
/-- the number whose bytes stand there -/
def numL (b : List UInt8) (k : Nat) : Nat := 256 * (b.getD k 0).toNat + (b.getD (k + 1) 0).toNat
/-- other bytes from a place on -/
def putL {T : Type} (b : List T) (k : Nat) (t : List T) : List T := b.take k ++ t ++ b.drop (k + t.length)

theorem two_len (n : Nat) : (two n).length = 2 := rfl
theorem putL_len {T : Type} {b : List T} {k : Nat} {t : List T} (h : k + t.length ≤ b.length) : (putL b k t).length = b.length := by
  unfold putL; simp; omega
theorem putL_at {T : Type} {b : List T} {k : Nat} {t : List T} (h : k + t.length ≤ b.length) (j : Nat) : (putL b k t)[j]? = if k ≤ j ∧ j < k + t.length then t[j - k]? else b[j]? := by
  unfold putL
  have hk : (b.take k).length = k := by rw [List.length_take]; omega
  by_cases h1 : j < k
  · rw [if_neg (by omega), List.append_assoc, List.getElem?_append_left (by omega), List.getElem?_take, if_pos h1]
  · rw [List.append_assoc, List.getElem?_append_right (by omega), hk]
    by_cases h2 : j < k + t.length
    · rw [if_pos ⟨by omega, h2⟩, List.getElem?_append_left (by omega)]
    · rw [if_neg (by omega), List.getElem?_append_right (by omega), List.getElem?_drop]
      congr 1; omega
theorem putL_in {T : Type} {b : List T} {k : Nat} {t : List T} (h : k + t.length ≤ b.length) {j : Nat} (h1 : k ≤ j) (h2 : j < k + t.length) : (putL b k t)[j]? = t[j - k]? := by rw [putL_at h, if_pos ⟨h1, h2⟩]
theorem putL_out {T : Type} {b : List T} {k : Nat} {t : List T} (h : k + t.length ≤ b.length) {j : Nat} (h1 : j < k ∨ k + t.length ≤ j) : (putL b k t)[j]? = b[j]? := by rw [putL_at h, if_neg (by omega)]
theorem putL_nil {T : Type} (b : List T) (k : Nat) : putL b k [] = b := by simp [putL]
theorem putL_map {T U : Type} (f : T → U) (b : List T) (k : Nat) (t : List T) : (putL b k t).map f = putL (b.map f) k (t.map f) := by simp [putL]

theorem num_congr {b c : List UInt8} {j k : Nat} (h0 : b[j]? = c[k]?) (h1 : b[j + 1]? = c[k + 1]?) : numL b j = numL c k := by
  simp only [numL, List.getD_eq_getElem?_getD, h0, h1]
theorem num_far {b : List UInt8} {k : Nat} {t : List UInt8} (h : k + t.length ≤ b.length) {j : Nat} (hj : j + 2 ≤ k ∨ k + t.length ≤ j) : numL (putL b k t) j = numL b j :=
  num_congr (putL_out h (by omega)) (putL_out h (by omega))
theorem num_in {b : List UInt8} {k : Nat} {t : List UInt8} (h : k + t.length ≤ b.length) {j : Nat} (h1 : k ≤ j) (h2 : j + 2 ≤ k + t.length) : numL (putL b k t) j = numL t (j - k) :=
  num_congr (putL_in h h1 (by omega)) (by rw [putL_in h (by omega) (by omega)]; congr 1; omega)
theorem num_two {n : Nat} (h : n < 65536) : numL (two n) 0 = n := by
  simp [numL, two]; omega
theorem num_put {b : List UInt8} {k n : Nat} (h : k + 2 ≤ b.length) (hn : n < 65536) : numL (putL b k (two n)) k = n := by
  rw [num_in (by rw [two_len]; exact h) (Nat.le_refl _) (by rw [two_len]; omega), Nat.sub_self, num_two hn]
theorem num_lt (b : List UInt8) (k : Nat) : numL b k < 65536 := by
  have h1 := (b.getD k 0).toNat_lt
  have h2 := (b.getD (k + 1) 0).toNat_lt
  unfold numL; omega
theorem num_part {b : List UInt8} {lo m i : Nat} (h : i + 2 ≤ m) : numL ((b.drop lo).take m) i = numL b (lo + i) :=
  num_congr (by rw [List.getElem?_take, if_pos (by omega), List.getElem?_drop]) (by rw [List.getElem?_take, if_pos (by omega), List.getElem?_drop]; congr 1)
theorem byte_eq {a b : UInt8} (h : a.toNat = b.toNat) : a = b := UInt8.toNat_inj.1 h
/-- a number tells its two bytes -/
theorem num_tells {b c : List UInt8} {k : Nat} (hb : k + 2 ≤ b.length) (hc : k + 2 ≤ c.length) (h : numL b k = numL c k) : b[k]? = c[k]? ∧ b[k + 1]? = c[k + 1]? := by
  have h1 := (b.getD (k + 1) 0).toNat_lt
  have h2 := (c.getD (k + 1) 0).toNat_lt
  unfold numL at h
  have e1 : b.getD k 0 = c.getD k 0 := byte_eq (by omega)
  have e2 : b.getD (k + 1) 0 = c.getD (k + 1) 0 := byte_eq (by omega)
  simp only [List.getD_eq_getElem?_getD] at e1 e2
  rw [List.getElem?_eq_getElem (show k < b.length by omega), List.getElem?_eq_getElem (show k < c.length by omega)] at e1 ⊢
  rw [List.getElem?_eq_getElem (show k + 1 < b.length by omega), List.getElem?_eq_getElem (show k + 1 < c.length by omega)] at e2 ⊢
  simp only [Option.getD_some] at e1 e2
  exact ⟨by rw [e1], by rw [e2]⟩

/-- an area: all its bytes (those of the directory count for nothing), the low place, the directory: where each text stands, how long it is -/
structure A where
  cells : List UInt8
  low : Nat
  dir : List (Nat × Nat)

def tot (l : List (Nat × Nat)) : Nat := (l.map Prod.snd).sum
def txt (c : List UInt8) (x : Nat × Nat) : List UInt8 := (c.drop x.1).take x.2
def A.n (a : A) : Nat := a.cells.length
def A.fin (a : A) : Nat := 4 + 4 * a.dir.length
def A.free (a : A) : Nat := a.n - a.fin - tot a.dir
def A.gap (a : A) : Nat := a.low - a.fin
def A.at (a : A) (i : Nat) : Nat × Nat := a.dir.getD i (0, 0)
def A.text (a : A) (i : Nat) : List UInt8 := txt a.cells (a.at i)
def A.texts (a : A) : List (List UInt8) := a.dir.map (txt a.cells)
/-- no byte is both's -/
def clear (x y : Nat × Nat) : Prop := x.2 = 0 ∨ y.2 = 0 ∨ x.1 + x.2 ≤ y.1 ∨ y.1 + y.2 ≤ x.1

structure A.ok (a : A) : Prop where
  lo : 16 ≤ a.n
  hi : a.n ≤ 4096
  fin : a.fin ≤ a.low
  low : a.low ≤ a.n
  each : ∀ i, i < a.dir.length → a.low ≤ (a.at i).1 ∧ (a.at i).1 + (a.at i).2 ≤ a.n
  apart : ∀ i j, i < a.dir.length → j < a.dir.length → i ≠ j → clear (a.at i) (a.at j)
  room : a.low + tot a.dir ≤ a.n

/-- these are the area's bytes -/
structure Is (b : List UInt8) (a : A) : Prop where
  len : b.length = a.n
  cnt : numL b 0 = a.dir.length
  low : numL b 2 = a.low
  dir : ∀ i, i < a.dir.length → numL b (4 + 4 * i) = (a.at i).1 ∧ numL b (6 + 4 * i) = (a.at i).2
  rest : ∀ j, a.fin ≤ j → b[j]? = a.cells[j]?

theorem tot_nil : tot [] = 0 := rfl
theorem tot_cons (x : Nat × Nat) (l : List (Nat × Nat)) : tot (x :: l) = x.2 + tot l := by simp [tot]
theorem tot_app (l m : List (Nat × Nat)) : tot (l ++ m) = tot l + tot m := by simp [tot]
theorem tot_split (l : List (Nat × Nat)) (k : Nat) : tot l = tot (l.take k) + tot (l.drop k) := by rw [← tot_app, List.take_append_drop]
theorem at_get {a : A} {i : Nat} (h : i < a.dir.length) : a.dir[i]? = some (a.at i) := by
  unfold A.at
  rw [List.getD_eq_getElem?_getD, List.getElem?_eq_getElem h]
  rfl
theorem at_elem {a : A} {i : Nat} (h : i < a.dir.length) : a.dir[i] = a.at i := by
  have := at_get h
  rw [List.getElem?_eq_getElem h] at this
  exact Option.some.inj this
theorem tot_take {l : List (Nat × Nat)} {k : Nat} (h : k < l.length) : tot (l.take (k + 1)) = tot (l.take k) + (l.getD k (0, 0)).2 := by
  rw [List.take_succ_eq_append_getElem h, tot_app, tot_cons, tot_nil, List.getD_eq_getElem?_getD, List.getElem?_eq_getElem h]
  rfl
theorem tot_take_le (l : List (Nat × Nat)) (k : Nat) : tot (l.take k) ≤ tot l := by rw [tot_split l k]; omega
theorem tot_take_mono (l : List (Nat × Nat)) {j k : Nat} (h : j ≤ k) : tot (l.take j) ≤ tot (l.take k) := by
  have := tot_take_le (l.take k) j
  rwa [List.take_take, Nat.min_eq_left h] at this
theorem tot_set {l : List (Nat × Nat)} {k : Nat} (h : k < l.length) (x : Nat × Nat) : tot (l.set k x) + (l.getD k (0, 0)).2 = tot l + x.2 := by
  rw [List.set_eq_take_append_cons_drop, if_pos h, tot_app, tot_cons]
  have h1 := tot_split l (k + 1)
  have h2 := tot_take h
  omega
theorem at_le_tot {a : A} {i : Nat} (h : i < a.dir.length) : (a.at i).2 ≤ tot a.dir := by
  have h1 := tot_take h
  have h2 := tot_take_le a.dir (i + 1)
  unfold A.at; omega
theorem ok_free {a : A} (h : a.ok) : a.n = a.fin + tot a.dir + a.free ∧ a.gap ≤ a.free ∧ a.low = a.fin + a.gap := by
  have := h.fin; have := h.room
  unfold A.free A.gap
  omega

/-! ### texts in other bytes -/
theorem txt_len {c : List UInt8} {x : Nat × Nat} (h : x.1 + x.2 ≤ c.length) : (txt c x).length = x.2 := by
  unfold txt; simp; omega
theorem txt_congr {c d : List UInt8} {x y : Nat × Nat} (hs : x.2 = y.2) (h : ∀ j, j < x.2 → c[x.1 + j]? = d[y.1 + j]?) : txt c x = txt d y := by
  unfold txt
  apply List.ext_getElem?
  intro j
  rw [List.getElem?_take, List.getElem?_take, ← hs]
  by_cases hj : j < x.2
  · rw [if_pos hj, if_pos hj, List.getElem?_drop, List.getElem?_drop, h j hj]
  · rw [if_neg hj, if_neg hj]
theorem txt_put {c : List UInt8} {k : Nat} {t : List UInt8} (h : k + t.length ≤ c.length) : txt (putL c k t) (k, t.length) = t := by
  unfold txt
  apply List.ext_getElem?
  intro j
  rw [List.getElem?_take]
  by_cases hj : j < t.length
  · simp only [if_pos hj, List.getElem?_drop]
    rw [putL_in h (by omega) (by omega)]
    congr 1; omega
  · simp only [if_neg hj]
    rw [List.getElem?_eq_none (by omega)]
theorem txt_far {c : List UInt8} {k : Nat} {t : List UInt8} (h : k + t.length ≤ c.length) {x : Nat × Nat} (hx : clear (k, t.length) x) : txt (putL c k t) x = txt c x :=
  txt_congr rfl fun j hj => putL_out h (by
    rcases hx with h1 | h1 | h1 | h1 <;> (try simp only at h1) <;> omega)

/-! ### what is done to an area -/
def A.new (n : Nat) : A := ⟨List.replicate n 0, n, []⟩
/-- the text stands just ahead of the low place -/
def A.lay (a : A) (t : List UInt8) : List UInt8 := putL a.cells (a.low - t.length) t
def A.putAt (a : A) (i : Nat) (t : List UInt8) : A := ⟨a.lay t, a.low - t.length, a.dir.take i ++ (a.low - t.length, t.length) :: a.dir.drop i⟩
def A.setAt (a : A) (i : Nat) (t : List UInt8) : A := ⟨a.lay t, a.low - t.length, a.dir.set i (a.low - t.length, t.length)⟩
def A.inPlace (a : A) (i : Nat) (t : List UInt8) : A := ⟨putL a.cells (a.at i).1 t, a.low, a.dir.set i ((a.at i).1, t.length)⟩
def A.hollow (a : A) (i : Nat) : A := ⟨a.cells, a.low, a.dir.set i ((a.at i).1, 0)⟩
def A.del (a : A) (i : Nat) : A := ⟨putL a.cells (a.fin - 4) [0, 0, 0, 0], a.low, a.dir.take i ++ a.dir.drop (i + 1)⟩
/-- the first k texts are moved -/
def A.mid (a : A) : Nat → A
  | 0 => ⟨a.cells, a.n, a.dir⟩
  | k + 1 => (a.mid k).setAt k (a.text k)
def A.compact (a : A) : A := ⟨putL (a.mid a.dir.length).cells 0 (List.replicate (a.mid a.dir.length).low 0), (a.mid a.dir.length).low, (a.mid a.dir.length).dir⟩

theorem at_set {l : List (Nat × Nat)} {k : Nat} {x : Nat × Nat} (h : k < l.length) (i : Nat) : (l.set k x).getD i (0, 0) = if i = k then x else l.getD i (0, 0) := by
  simp only [List.getD_eq_getElem?_getD, List.getElem?_set]
  by_cases e : k = i
  · subst e; simp [h]
  · rw [if_neg e, if_neg (fun h => e h.symm)]

section
variable {a : A} (h : a.ok)
include h
theorem text_len {i : Nat} (hi : i < a.dir.length) : (a.text i).length = (a.at i).2 := txt_len (h.each i hi).2

theorem mid_all (k : Nat) (hk : k ≤ a.dir.length) : (a.mid k).n = a.n ∧ (a.mid k).dir.length = a.dir.length ∧ (a.mid k).low + tot (a.dir.take k) = a.n ∧
    (∀ i, i < k → (a.mid k).at i = (a.n - tot (a.dir.take (i + 1)), (a.at i).2) ∧ (a.mid k).text i = a.text i) ∧ (∀ i, k ≤ i → (a.mid k).at i = a.at i) ∧ ∀ j, j < (a.mid k).low → (a.mid k).cells[j]? = a.cells[j]? := by
  have hr := h.room
  have hlow := h.low
  induction k with
  | zero => exact ⟨rfl, rfl, by simp [A.mid, tot], fun i hi => by omega, fun i _ => rfl, fun j _ => rfl⟩
  | succ k ih =>
    obtain ⟨h1, h2, h3, h4, h5, h6⟩ := ih (by omega)
    have ht := text_len h (i := k) (by omega)
    have e1 : tot (a.dir.take (k + 1)) = tot (a.dir.take k) + (a.at k).2 := tot_take (by omega)
    have e2 := tot_take_le a.dir (k + 1)
    have hle : (a.mid k).low - (a.text k).length + (a.text k).length ≤ (a.mid k).cells.length := by
      have : (a.mid k).cells.length = a.n := h1
      omega
    have hat : ∀ i, (a.mid (k + 1)).at i = if i = k then ((a.mid k).low - (a.text k).length, (a.text k).length) else (a.mid k).at i := fun i => at_set (by omega) i
    refine ⟨?_, ?_, ?_, ?_, ?_, ?_⟩
    · show ((a.mid k).lay (a.text k)).length = a.n
      unfold A.lay; rw [putL_len hle]; exact h1
    · show ((a.mid k).dir.set k _).length = _
      rw [List.length_set]; exact h2
    · show (a.mid k).low - (a.text k).length + _ = _
      omega
    · intro i hi
      by_cases e : i = k
      · subst e
        refine ⟨by rw [hat, if_pos rfl, ht]; congr 1; omega, ?_⟩
        show txt ((a.mid i).lay (a.text i)) ((a.mid (i + 1)).at i) = _
        rw [hat, if_pos rfl]
        exact txt_put hle
      · have h7 := h4 i (by omega)
        refine ⟨by rw [hat, if_neg e]; exact h7.1, ?_⟩
        show txt ((a.mid k).lay (a.text k)) ((a.mid (k + 1)).at i) = _
        rw [hat, if_neg e]
        rw [← h7.2]
        refine txt_far hle (.inr (.inr (.inl ?_)))
        have e3 := tot_take_mono a.dir (show i + 1 ≤ k by omega)
        rw [h7.1]
        simp only
        omega
    · intro i hi
      rw [hat, if_neg (by omega)]
      exact h5 i (by omega)
    · intro j hj
      have hj' : j < (a.mid k).low - (a.text k).length := hj
      show ((a.mid k).lay (a.text k))[j]? = _
      unfold A.lay
      rw [putL_out hle (by omega)]
      exact h6 j (by omega)

theorem compact_all : a.compact.n = a.n ∧ a.compact.dir.length = a.dir.length ∧ a.compact.low + tot a.dir = a.n ∧ tot a.compact.dir = tot a.dir ∧
    (∀ i, i < a.dir.length → a.compact.at i = (a.n - tot (a.dir.take (i + 1)), (a.at i).2) ∧ a.compact.text i = a.text i) := by
  obtain ⟨h1, h2, h3, h4, _, _⟩ := mid_all h a.dir.length (Nat.le_refl _)
  rw [List.take_length] at h3
  have hle : 0 + (List.replicate (a.mid a.dir.length).low (0 : UInt8)).length ≤ (a.mid a.dir.length).cells.length := by
    have : (a.mid a.dir.length).cells.length = a.n := h1
    simp; omega
  have hat : ∀ i, a.compact.at i = (a.mid a.dir.length).at i := fun i => rfl
  refine ⟨?_, h2, h3, ?_, ?_⟩
  · show (putL _ _ _).length = _
    rw [putL_len hle]; exact h1
  · unfold tot
    congr 1
    apply List.ext_getElem
    · rw [List.length_map, List.length_map]; exact h2
    · intro i hi hi2
      rw [List.length_map] at hi hi2
      rw [List.getElem_map, List.getElem_map, at_elem hi, at_elem hi2, hat, (h4 i hi2).1]
  · intro i hi
    refine ⟨by rw [hat]; exact (h4 i hi).1, ?_⟩
    rw [← (h4 i hi).2]
    show txt (putL _ _ _) _ = txt _ _
    rw [hat]
    refine txt_far hle ?_
    have e1 := tot_take_le a.dir (i + 1)
    refine .inr (.inr (.inl ?_))
    rw [(h4 i hi).1]
    simp only [List.length_replicate]
    omega
theorem compact_ok : a.compact.ok := by
  obtain ⟨h1, h2, h3, h4, h5⟩ := compact_all h
  have hr := h.room
  have hf : a.compact.fin = a.fin := by unfold A.fin; rw [h2]
  have hfin := h.fin
  refine ⟨by rw [h1]; exact h.lo, by rw [h1]; exact h.hi, by omega, by omega, fun i hi => ?_, fun i j hi hj hij => ?_, by rw [h4]; omega⟩
  · rw [h2] at hi
    have e1 := tot_take_le a.dir (i + 1)
    have e2 : tot (a.dir.take (i + 1)) = tot (a.dir.take i) + (a.at i).2 := tot_take hi
    rw [(h5 i hi).1]
    simp only
    omega
  · rw [h2] at hi hj
    have i1 := tot_take_le a.dir (i + 1)
    have j1 := tot_take_le a.dir (j + 1)
    have i2 : tot (a.dir.take (i + 1)) = tot (a.dir.take i) + (a.at i).2 := tot_take hi
    have j2 : tot (a.dir.take (j + 1)) = tot (a.dir.take j) + (a.at j).2 := tot_take hj
    rw [(h5 i hi).1, (h5 j hj).1]
    unfold clear
    simp only
    by_cases h6 : i < j
    · have := tot_take_mono a.dir (show i + 1 ≤ j by omega)
      omega
    · have := tot_take_mono a.dir (show j + 1 ≤ i by omega)
      omega
theorem compact_gap : a.compact.gap = a.free ∧ a.compact.free = a.free ∧ a.compact.fin = a.fin := by
  obtain ⟨h1, h2, h3, h4, h5⟩ := compact_all h
  have hf : a.compact.fin = a.fin := by unfold A.fin; rw [h2]
  have := h.room
  have := h.fin
  unfold A.gap A.free
  rw [h1, h4, hf]
  omega
end

end Go.Proofs.Ytehfclgngkhcpaa.Slot
