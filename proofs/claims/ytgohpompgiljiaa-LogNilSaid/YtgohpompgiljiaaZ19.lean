/-
  Plain mathematics: numbers as bytes, highest first.
-/
/- Plain mathematics: numbers as bytes, highest first. -/
namespace Go.Proofs.Ytgohpompgiljiaa

/-- the m lowest bytes of n, the highest first -/
def be (m n : Nat) : List UInt8 := (List.range m).map fun j => UInt8.ofNat (n / 2 ^ (8 * (m - 1 - j)) % 256)
def num (l : List UInt8) : Nat := l.foldl (fun a b => 256 * a + b.toNat) 0

theorem be_length (m n : Nat) : (be m n).length = m := by simp [be]
theorem be_get (m n j : Nat) (h : j < (be m n).length) : (be m n)[j].toNat = n / 2 ^ (8 * (m - 1 - j)) % 256 := by
  simp [be]
theorem be_snoc (m n : Nat) : be (m + 1) n = be m (n / 256) ++ [UInt8.ofNat (n % 256)] := by
  unfold be
  rw [List.range_succ, List.map_append]
  congr 1
  · apply List.map_congr_left
    intro j hj
    have hj' : j < m := by simpa using hj
    have e : 8 * (m + 1 - 1 - j) = 8 * (m - 1 - j) + 8 := by omega
    rw [e, Nat.pow_add, Nat.mul_comm, ← Nat.div_div_eq_div_mul]
  · simp
theorem num_snoc (l : List UInt8) (b : UInt8) : num (l ++ [b]) = 256 * num l + b.toNat := by
  simp [num]
theorem num_be (m : Nat) : ∀ n, n < 256 ^ m → num (be m n) = n := by
  induction m with
  | zero => intro n h; simp at h; subst h; rfl
  | succ m ih =>
    intro n h
    rw [be_snoc, num_snoc, ih (n / 256) (by rw [Nat.pow_succ] at h; omega)]
    simp; omega
theorem num_lt (l : List UInt8) : num l < 256 ^ l.length := by
  suffices h : ∀ m (l : List UInt8), l.length = m → num l < 256 ^ m from h _ l rfl
  intro m
  induction m with
  | zero => intro l h; cases l <;> simp_all [num]
  | succ m ih =>
    intro l h
    have hne : l ≠ [] := by intro e; subst e; simp at h
    rw [← List.dropLast_concat_getLast hne, num_snoc, Nat.pow_succ]
    have h1 := ih l.dropLast (by simp; omega)
    have h2 := (l.getLast hne).toNat_lt
    omega
theorem num_lt_of {l : List UInt8} {m : Nat} (h : l.length ≤ m) : num l < 256 ^ m := Nat.lt_of_lt_of_le (num_lt l) (Nat.pow_le_pow_right (by omega) h)
theorem num_take_succ (l : List UInt8) (k : Nat) (h : k < l.length) : num (l.take (k + 1)) = 256 * num (l.take k) + l[k].toNat := by
  rw [List.take_succ_eq_append_getElem h, num_snoc]
theorem pow256 (m : Nat) : 2 ^ (8 * m) = 256 ^ m := by rw [Nat.pow_mul]

end Go.Proofs.Ytgohpompgiljiaa
