/-
  Plain mathematics of the sum: one step over a bit, many steps, a text as one number.
-/
/- Plain mathematics of the sum: one step over a bit, many steps, a text as one number. -/
namespace Go.Proofs.Ytgohpompgiljiaa.Sum

/-- one step over a bit -/
def hf (n : Nat) : Nat := if n % 2 = 1 then n / 2 ^^^ 2197175160 else n / 2
/-- k steps -/
def H : Nat → Nat → Nat
  | 0, n => n
  | k + 1, n => H k (hf n)

theorem bit_half (n i : Nat) : (n / 2).testBit i = n.testBit (i + 1) := (Nat.testBit_succ n i).symm
theorem xor_half (a b : Nat) : (a ^^^ b) / 2 = a / 2 ^^^ b / 2 := by
  apply Nat.eq_of_testBit_eq
  intro i
  rw [bit_half, Nat.testBit_xor, Nat.testBit_xor, bit_half, bit_half]
theorem xor_odd (a b : Nat) : (a ^^^ b) % 2 = (a % 2 + b % 2) % 2 := by
  have h := Nat.testBit_xor a b 0
  simp only [Nat.testBit_zero] at h
  have e1 := Nat.mod_two_eq_zero_or_one a
  have e2 := Nat.mod_two_eq_zero_or_one b
  have e3 := Nat.mod_two_eq_zero_or_one (a ^^^ b)
  rcases e1 with e1 | e1 <;> rcases e2 with e2 | e2 <;> rcases e3 with e3 | e3 <;> simp_all

theorem xor4 (a b c d : Nat) : (a ^^^ b) ^^^ (c ^^^ d) = (a ^^^ c) ^^^ (b ^^^ d) := by
  rw [Nat.xor_assoc, ← Nat.xor_assoc b, Nat.xor_comm b c, Nat.xor_assoc c, ← Nat.xor_assoc]

theorem hf_xor (a b : Nat) : hf (a ^^^ b) = hf a ^^^ hf b := by
  unfold hf
  have h := xor_odd a b
  rw [xor_half]
  rcases Nat.mod_two_eq_zero_or_one a with e1 | e1 <;> rcases Nat.mod_two_eq_zero_or_one b with e2 | e2 <;> rw [e1, e2] at h <;> rw [e1, e2]
  · rw [if_neg (by omega), if_neg (by omega), if_neg (by omega)]
  · rw [if_pos (by omega), if_neg (by omega), if_pos (by omega), Nat.xor_assoc]
  · rw [if_pos (by omega), if_pos (by omega), if_neg (by omega), Nat.xor_assoc, Nat.xor_assoc, Nat.xor_comm (b / 2)]
  · rw [if_neg (by omega), if_pos (by omega), if_pos (by omega), xor4, Nat.xor_self, Nat.xor_zero]
theorem hf_double (n : Nat) : hf (2 * n) = n := by
  unfold hf
  rw [if_neg (by omega)]; omega
theorem hf_lt {n : Nat} (h : n < 4294967296) : hf n < 4294967296 := by
  unfold hf
  split
  · exact Nat.xor_lt_two_pow (n := 32) (by omega) (by omega)
  · omega
theorem hf_zero {n : Nat} (h : n < 4294967296) (hz : hf n = 0) : n = 0 := by
  unfold hf at hz
  split at hz
  · have h1 : n / 2 = 2197175160 := by
      have h2 := congrArg (· ^^^ 2197175160) hz
      simpa [Nat.xor_assoc] using h2
    omega
  · omega

theorem H_add (a b n : Nat) : H (a + b) n = H b (H a n) := by
  induction a generalizing n with
  | zero => rw [Nat.zero_add]; rfl
  | succ a ih => rw [Nat.add_right_comm]; exact ih (hf n)
theorem H_succ (k n : Nat) : H (k + 1) n = hf (H k n) := by rw [H_add]; rfl
theorem H_xor (k a b : Nat) : H k (a ^^^ b) = H k a ^^^ H k b := by
  induction k generalizing a b with
  | zero => rfl
  | succ k ih => show H k (hf (a ^^^ b)) = _; rw [hf_xor, ih]; rfl
theorem H_shift (k n : Nat) : H k (2 ^ k * n) = n := by
  induction k with
  | zero => rw [Nat.pow_zero, Nat.one_mul]; rfl
  | succ k ih =>
    show H k (hf (2 ^ (k + 1) * n)) = n
    rw [Nat.pow_succ, Nat.mul_comm (2 ^ k), Nat.mul_assoc, hf_double, ih]
theorem H_lt {k n : Nat} (h : n < 4294967296) : H k n < 4294967296 := by
  induction k generalizing n with
  | zero => exact h
  | succ k ih => exact ih (hf_lt h)
theorem H_zero {k n : Nat} (h : n < 4294967296) (hz : H k n = 0) : n = 0 := by
  induction k generalizing n with
  | zero => exact hz
  | succ k ih => exact hf_zero h (ih (hf_lt h) hz)

/-- a text as one number, the lowest byte first -/
def val : List UInt8 → Nat
  | [] => 0
  | b :: l => b.toNat + 256 * val l

theorem add_xor (b n : Nat) (h : b < 256) : b + 256 * n = b ^^^ 256 * n := by
  apply Nat.eq_of_testBit_eq
  intro i
  have e : b + 256 * n = 2 ^ 8 * n + b := by omega
  have e2 : 256 * n = 2 ^ 8 * n := by omega
  rw [e, Nat.testBit_two_pow_mul_add n (by omega : b < 2 ^ 8), Nat.testBit_xor, e2, Nat.testBit_two_pow_mul]
  by_cases h8 : i < 8
  · have : ¬ 8 ≤ i := by omega
    simp [h8, this]
  · have h9 : 8 ≤ i := by omega
    have hb : b.testBit i = false := Nat.testBit_lt_two_pow (Nat.lt_of_lt_of_le h (show 2 ^ 8 ≤ 2 ^ i from Nat.pow_le_pow_right (by omega) h9))
    simp [h8, h9, hb]
theorem val_cons (b : UInt8) (l : List UInt8) : val (b :: l) = b.toNat ^^^ 2 ^ 8 * val l := by
  show b.toNat + 256 * val l = _
  rw [add_xor _ _ b.toNat_lt]

/-- a number gone on over bytes -/
def run (c : Nat) (l : List UInt8) : Nat := l.foldl (fun c b => H 8 (c ^^^ b.toNat)) c
theorem run_cons (c : Nat) (b : UInt8) (l : List UInt8) : run c (b :: l) = run (H 8 (c ^^^ b.toNat)) l := rfl
theorem run_append (c : Nat) (l m : List UInt8) : run c (l ++ m) = run (run c l) m := by simp [run]
theorem run_val (c : Nat) (l : List UInt8) : run c l = H (8 * l.length) (c ^^^ val l) := by
  induction l generalizing c with
  | nil => simp [run, val, H]
  | cons b l ih =>
    have e : 8 * (b :: l).length = 8 + 8 * l.length := by simp; omega
    rw [run_cons, ih, e, H_add, val_cons, ← Nat.xor_assoc, H_xor 8 (c ^^^ b.toNat), H_shift]
theorem run_lt {c : Nat} (h : c < 4294967296) (l : List UInt8) : run c l < 4294967296 := by
  induction l generalizing c with
  | nil => exact h
  | cons b l ih =>
    have hb := b.toNat_lt
    exact ih (H_lt (Nat.xor_lt_two_pow (n := 32) (by omega) (by omega)))

theorem flip_lt {c : Nat} (h : c < 4294967296) : 4294967295 ^^^ c < 4294967296 := Nat.xor_lt_two_pow (n := 32) (by omega) (by omega)
theorem flip_flip (c : Nat) : 4294967295 ^^^ (4294967295 ^^^ c) = c := by rw [← Nat.xor_assoc, Nat.xor_self, Nat.zero_xor]

/-- the sum c, gone on over l -/
def more (c : Nat) (l : List UInt8) : Nat := 4294967295 ^^^ run (4294967295 ^^^ c) l
/-- the sum -/
def sumOf (l : List UInt8) : Nat := more 0 l
theorem more_lt {c : Nat} (h : c < 4294967296) (l : List UInt8) : more c l < 4294967296 := flip_lt (run_lt (flip_lt h) l)
theorem sumOf_lt (l : List UInt8) : sumOf l < 4294967296 := more_lt (by omega) l
theorem more_more (c : Nat) (l m : List UInt8) : more (more c l) m = more c (l ++ m) := by
  unfold more
  rw [flip_flip, run_append]
theorem more_nil (c : Nat) : more c [] = c := by
  unfold more
  exact flip_flip c

/-- the four bytes of a number, the lowest first -/
def le4 (n : Nat) : List UInt8 := [UInt8.ofNat (n % 256), UInt8.ofNat (n / 256 % 256), UInt8.ofNat (n / 65536 % 256), UInt8.ofNat (n / 16777216 % 256)]
theorem val_le4 {n : Nat} (h : n < 4294967296) : val (le4 n) = n := by
  simp [le4, val]; omega
theorem val_lt (l : List UInt8) : val l < 2 ^ (8 * l.length) := by
  induction l with
  | nil => simp [val]
  | cons b l ih =>
    have hb := b.toNat_lt
    have e : 8 * (b :: l).length = 8 * l.length + 8 := by simp; omega
    rw [e, Nat.pow_add]
    show b.toNat + 256 * val l < _
    omega
theorem le4_val {l : List UInt8} (h : l.length = 4) : le4 (val l) = l := by
  match l, h with
  | [a, b, c, d], _ =>
    have ha := a.toNat_lt
    have hb := b.toNat_lt
    have hc := c.toNat_lt
    have hd := d.toNat_lt
    have e1 : val [a, b, c, d] % 256 = a.toNat := by simp [val]
    have e2 : val [a, b, c, d] / 256 % 256 = b.toNat := by simp [val]; omega
    have e3 : val [a, b, c, d] / 65536 % 256 = c.toNat := by simp [val]; omega
    have e4 : val [a, b, c, d] / 16777216 % 256 = d.toNat := by simp [val]; omega
    unfold le4
    rw [e1, e2, e3, e4]
    simp

/-- a text, sealed -/
def sealL (l : List UInt8) : List UInt8 := l ++ le4 (sumOf l)
theorem sealL_length (l : List UInt8) : (sealL l).length = l.length + 4 := by simp [sealL, le4]
/-- is it sealed? -/
def isSealed (t : List UInt8) : Bool := decide (4 ≤ t.length) && decide (sumOf (t.take (t.length - 4)) = val (t.drop (t.length - 4)))
theorem sealed_sealL (l : List UInt8) : isSealed (sealL l) = true := by
  have e : (sealL l).length - 4 = l.length := by rw [sealL_length]; omega
  unfold isSealed
  rw [e, sealL_length]
  unfold sealL
  rw [List.take_left, List.drop_left, val_le4 (sumOf_lt l)]
  simp
theorem take_sealL (l : List UInt8) : (sealL l).take ((sealL l).length - 4) = l := by
  have e : (sealL l).length - 4 = l.length := by rw [sealL_length]; omega
  rw [e]
  unfold sealL
  rw [List.take_left]
theorem sealed_iff (t : List UInt8) (h : 4 ≤ t.length) : isSealed t = decide (sealL (t.take (t.length - 4)) = t) := by
  unfold isSealed
  have hd : (t.drop (t.length - 4)).length = 4 := by simp; omega
  rw [Bool.eq_iff_iff]
  simp only [h, decide_true, Bool.true_and, decide_eq_true_eq]
  constructor
  · intro he
    unfold sealL
    rw [he, le4_val hd, List.take_append_drop]
  · intro he
    have h2 := congrArg (List.drop (t.length - 4)) he
    unfold sealL at h2
    have e : (t.take (t.length - 4)).length = t.length - 4 := by simp
    rw [List.drop_append_of_le_length (by omega), List.drop_of_length_le (by omega), List.nil_append] at h2
    rw [← h2, val_le4 (sumOf_lt _)]

/-- over a sealed text the number comes to one and the same -/
theorem run_sealed {t : List UInt8} (h : isSealed t = true) : run 4294967295 t = H 32 4294967295 := by
  have h4 : 4 ≤ t.length ∧ sumOf (t.take (t.length - 4)) = val (t.drop (t.length - 4)) := by simpa [isSealed] using h
  have hd : (t.drop (t.length - 4)).length = 4 := by simp; omega
  have e := run_append 4294967295 (t.take (t.length - 4)) (t.drop (t.length - 4))
  rw [List.take_append_drop] at e
  rw [e, run_val _ (t.drop _), hd, ← h4.2]
  unfold sumOf more
  rw [Nat.xor_zero, Nat.xor_comm 4294967295, ← Nat.xor_assoc, Nat.xor_self, Nat.zero_xor]

/-- bits that lie within 32 in a row, turned in a sealed text: it is sealed just if none was turned -/
theorem turned_not {t u : List UInt8} {k m : Nat} (ht : isSealed t = true) (hl : u.length = t.length) (hk : k ≤ 8 * t.length) (hm : m < 4294967296) (hv : val u = val t ^^^ 2 ^ k * m) (hu : isSealed u = true) : m = 0 := by
  have h1 := run_sealed ht
  have h2 := run_sealed hu
  rw [run_val, hl, hv, ← Nat.xor_assoc, H_xor, ← run_val, h1] at h2
  have h3 : H (8 * t.length) (2 ^ k * m) = 0 := by
    have h4 := congrArg (H 32 4294967295 ^^^ ·) h2
    simpa [← Nat.xor_assoc] using h4
  have e : 8 * t.length = k + (8 * t.length - k) := by omega
  rw [e, H_add, H_shift] at h3
  exact H_zero hm h3

theorem len_of_val {t u : List UInt8} (hl : u.length = t.length) (hv : val u = val t) : u = t := by
  induction t generalizing u with
  | nil => simpa using hl
  | cons b t ih =>
    match u, hl with
    | c :: u, hl =>
      have hb := b.toNat_lt
      have hc := c.toNat_lt
      have h1 : c.toNat + 256 * val u = b.toNat + 256 * val t := hv
      have h2 : c.toNat = b.toNat := by omega
      have h3 : val u = val t := by omega
      rw [ih (by simpa using hl) h3, UInt8.toNat_inj.1 h2]

/-- three texts put together by exclusive or -/
def xorL (a b c : List UInt8) : List UInt8 := List.zipWith (fun x y => x ^^^ y) (List.zipWith (fun x y => x ^^^ y) a b) c
theorem val_zip (a b : List UInt8) (h : a.length = b.length) : val (List.zipWith (fun x y => x ^^^ y) a b) = val a ^^^ val b := by
  induction a generalizing b with
  | nil =>
    match b, h with
    | [], _ => rfl
  | cons x a ih =>
    match b, h with
    | y :: b, h =>
      have e2 : val a ^^^ val b = val (List.zipWith (fun x y => x ^^^ y) a b) := (ih b (by simpa using h)).symm
      show val ((x ^^^ y) :: List.zipWith _ a b) = _
      rw [val_cons, val_cons, val_cons, xor4, ← e2, UInt8.toNat_xor]
      congr 1
      apply Nat.eq_of_testBit_eq
      intro i
      simp only [Nat.testBit_xor, Nat.testBit_two_pow_mul]
      by_cases h8 : 8 ≤ i <;> simp [h8]
theorem sum_xor (a b c : List UInt8) (h1 : a.length = b.length) (h2 : b.length = c.length) : sumOf (xorL a b c) = sumOf a ^^^ sumOf b ^^^ sumOf c := by
  have hl : (List.zipWith (fun x y : UInt8 => x ^^^ y) a b).length = c.length := by simp; omega
  have hl2 : (xorL a b c).length = c.length := by unfold xorL; simp; omega
  unfold sumOf more
  rw [Nat.xor_zero, run_val, run_val, run_val, run_val, hl2, h1, h2]
  unfold xorL
  rw [val_zip _ _ hl, val_zip _ _ h1]
  simp only [H_xor]
  generalize H (8 * c.length) 4294967295 = p
  generalize H (8 * c.length) (val a) = x
  generalize H (8 * c.length) (val b) = y
  generalize H (8 * c.length) (val c) = z
  generalize 4294967295 = f
  apply Nat.eq_of_testBit_eq
  intro i
  simp only [Nat.testBit_xor]
  generalize f.testBit i = q0
  generalize p.testBit i = q1
  generalize x.testBit i = q2
  generalize y.testBit i = q3
  generalize z.testBit i = q4
  revert q0 q1 q2 q3 q4
  decide

/-- the steps that a byte takes, from a number of 32 bits: what the table gives -/
theorem step_table (c b : Nat) (_hb : b < 256) : H 8 (c ^^^ b) = c / 256 ^^^ H 8 (c % 256 ^^^ b) := by
  have e : c = c % 256 + 256 * (c / 256) := by omega
  have e2 := add_xor (c % 256) (c / 256) (by omega)
  have e3 : c = 2 ^ 8 * (c / 256) ^^^ c % 256 := by
    rw [Nat.xor_comm]
    show c = c % 256 ^^^ 256 * (c / 256)
    omega
  have e4 : c ^^^ b = 2 ^ 8 * (c / 256) ^^^ (c % 256 ^^^ b) := by
    rw [← Nat.xor_assoc, ← e3]
  rw [e4, H_xor, H_shift]

end Go.Proofs.Ytgohpompgiljiaa.Sum
