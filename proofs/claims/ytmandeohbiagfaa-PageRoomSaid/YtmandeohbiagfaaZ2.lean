/-
  Plain mathematics: texts none of which stands over another one.
  Plain mathematics of the sum: one step over a bit, many steps, a text as one number.
  Plain mathematics: pages, their bytes, which page bytes are.
  contracts of library functions at this program: laid off the library by its own tool.
  Walks: what an area asks of itself.
  Walks: where texts stand; how many bytes are free; Get.
  Walks: a text stands ahead of the low place; Get; Free.
  Walks: Get; Free.
  No dump: a walk by 'quiet' operations serves where a 'still' one is asked.
  Walks: New; what there is of nil.
  Walks: Compact.
  Walks: Compact, whole.
-/
import Derived.Shelf.LaysM
import Derived.Shelf.Strconv.Clone
import Derived.Shelf.Slices.Equal
import Derived.Shelf.Slices.Empties2
import Derived.Test.YtmandeohbiagfaaProg
import Derived.BigQuiet
import Derived.Deep.QuietTactic
import Derived.StillTailTactics
import Derived.Test.YtmandeohbiagfaaZ1
namespace Go.Proofs.Ytmandeohbiagfaa.Slot

/-- is place j some text's? -/
def marksOf (l : List (Nat × Nat)) (j : Nat) : Bool := l.any fun x => decide (x.1 ≤ j ∧ j < x.1 + x.2)
def Apart (l : List (Nat × Nat)) : Prop := ∀ i j, i < j → j < l.length → clear (l.getD i (0, 0)) (l.getD j (0, 0))

theorem clear_symm {x y : Nat × Nat} (h : clear x y) : clear y x := by unfold clear at *; omega
theorem marks_iff {l : List (Nat × Nat)} {j : Nat} : marksOf l j = true ↔ ∃ x ∈ l, x.1 ≤ j ∧ j < x.1 + x.2 := by
  unfold marksOf; simp
theorem marks_snoc (l : List (Nat × Nat)) (x : Nat × Nat) (j : Nat) : marksOf (l ++ [x]) j = (marksOf l j || decide (x.1 ≤ j ∧ j < x.1 + x.2)) := by
  unfold marksOf; simp
theorem marks_nil (j : Nat) : marksOf [] j = false := rfl
theorem clear_of_marks {l : List (Nat × Nat)} {x : Nat × Nat} (h : ∀ j, x.1 ≤ j → j < x.1 + x.2 → marksOf l j = false) : ∀ y ∈ l, clear y x := by
  intro y hy
  by_cases h1 : y.2 = 0
  · exact .inl h1
  · by_cases h2 : x.2 = 0
    · exact .inr (.inl h2)
    · refine .inr (.inr ?_)
      by_cases h3 : y.1 + y.2 ≤ x.1
      · exact .inl h3
      · by_cases h4 : x.1 + x.2 ≤ y.1
        · exact .inr h4
        · exfalso
          have hj : marksOf l (max x.1 y.1) = true := marks_iff.2 ⟨y, hy, by omega, by omega⟩
          rw [h (max x.1 y.1) (by omega) (by omega)] at hj
          cases hj
theorem not_clear {l : List (Nat × Nat)} {x : Nat × Nat} {j : Nat} (h1 : x.1 ≤ j) (h2 : j < x.1 + x.2) (h : marksOf l j = true) : ∃ y ∈ l, ¬ clear y x := by
  obtain ⟨y, hy, h3, h4⟩ := marks_iff.1 h
  refine ⟨y, hy, fun hc => ?_⟩
  unfold clear at hc
  omega
theorem take_get {l : List (Nat × Nat)} {k i : Nat} (hi : i < k) (_hk : k ≤ l.length) : (l.take k).getD i (0, 0) = l.getD i (0, 0) := by
  rw [List.getD_eq_getElem?_getD, List.getElem?_take, if_pos hi, ← List.getD_eq_getElem?_getD]
theorem mem_getD {l : List (Nat × Nat)} {y : Nat × Nat} (h : y ∈ l) : ∃ i, i < l.length ∧ l.getD i (0, 0) = y := by
  obtain ⟨i, hi, rfl⟩ := List.getElem_of_mem h
  exact ⟨i, hi, by rw [List.getD_eq_getElem?_getD, List.getElem?_eq_getElem hi]; rfl⟩
theorem getD_mem {l : List (Nat × Nat)} {i : Nat} (h : i < l.length) : l.getD i (0, 0) ∈ l := by
  rw [List.getD_eq_getElem?_getD, List.getElem?_eq_getElem h]
  exact List.getElem_mem h
theorem take_one {l : List (Nat × Nat)} {k : Nat} (hk : k < l.length) : l.take (k + 1) = l.take k ++ [l.getD k (0, 0)] := by
  rw [List.take_succ_eq_append_getElem hk, List.getD_eq_getElem?_getD, List.getElem?_eq_getElem hk]
  rfl
theorem apart_nil : Apart [] := fun i j _ hj => by simp at hj
theorem apart_step {l : List (Nat × Nat)} {k : Nat} (hk : k < l.length) (h : Apart (l.take k)) (hc : ∀ y ∈ l.take k, clear y (l.getD k (0, 0))) : Apart (l.take (k + 1)) := by
  intro i j hij hj
  have hj' : j < k + 1 := by rw [List.length_take] at hj; omega
  rw [take_get (by omega) (by omega), take_get (by omega) (by omega)]
  by_cases e : j = k
  · subst e
    refine hc _ ?_
    have := getD_mem (l := l.take j) (i := i) (by rw [List.length_take]; omega)
    rwa [take_get hij (by omega)] at this
  · have := h i j hij (by rw [List.length_take]; omega)
    rwa [take_get (by omega) (by omega), take_get (by omega) (by omega)] at this
theorem not_apart {l : List (Nat × Nat)} {k : Nat} (hk : k < l.length) {y : Nat × Nat} (hy : y ∈ l.take k) (hc : ¬ clear y (l.getD k (0, 0))) : ¬ Apart l := by
  intro h
  obtain ⟨i, hi, rfl⟩ := mem_getD hy
  rw [List.length_take] at hi
  rw [take_get (by omega) (by omega)] at hc
  exact hc (h i k (by omega) hk)

/-! ### their bytes are counted -/
theorem count_range (a b : Nat) (h : a ≤ b) : ∀ n, (List.range n).countP (fun j => decide (a ≤ j ∧ j < b)) = min n b - min a n := by
  intro n
  induction n with
  | zero => simp
  | succ n ih =>
    rw [List.range_succ, List.countP_append, ih]
    by_cases h1 : a ≤ n ∧ n < b
    · simp [h1]; omega
    · simp only [List.countP_cons, List.countP_nil]
      rw [if_neg (by simpa using h1)]
      omega
theorem count_or (p q : Nat → Bool) : ∀ l : List Nat, (∀ j ∈ l, ¬ (p j = true ∧ q j = true)) → l.countP (fun j => p j || q j) = l.countP p + l.countP q
  | [], _ => rfl
  | x :: l, h => by
    have ih := count_or p q l (fun j hj => h j (List.mem_cons_of_mem _ hj))
    have hx := h x (List.mem_cons_self ..)
    simp only [List.countP_cons, ih]
    cases hp : p x <;> cases hq : q x <;> simp_all <;> omega
theorem count_marks {l : List (Nat × Nat)} {hi : Nat} (ha : Apart l) (he : ∀ x ∈ l, x.1 + x.2 ≤ hi) : ∀ k, k ≤ l.length → (List.range hi).countP (marksOf (l.take k)) = tot (l.take k) := by
  intro k
  induction k with
  | zero => intro _; simp [marksOf, tot]
  | succ k ih =>
    intro hk
    have h1 := ih (by omega)
    have hx := he _ (getD_mem (l := l) (i := k) (by omega))
    rw [take_one (by omega), tot_app, tot_cons, tot_nil, ← h1]
    have e : marksOf (l.take k ++ [l.getD k (0, 0)]) = fun j => marksOf (l.take k) j || decide ((l.getD k (0, 0)).1 ≤ j ∧ j < (l.getD k (0, 0)).1 + (l.getD k (0, 0)).2) := funext fun j => marks_snoc _ _ j
    rw [e, count_or, count_range _ _ (by omega)]
    · omega
    · rintro j _ ⟨hm, hd⟩
      have hd' := of_decide_eq_true hd
      obtain ⟨y, hy, hc⟩ := not_clear hd'.1 hd'.2 hm
      obtain ⟨i, hil, rfl⟩ := mem_getD hy
      rw [List.length_take] at hil
      rw [take_get (by omega) (by omega)] at hc
      exact hc (ha i k (by omega) (by omega))
theorem room_of {l : List (Nat × Nat)} {lo hi : Nat} (ha : Apart l) (hlh : lo ≤ hi) (he : ∀ x ∈ l, lo ≤ x.1 ∧ x.1 + x.2 ≤ hi) : lo + tot l ≤ hi := by
  have h1 := count_marks ha (fun x hx => (he x hx).2) l.length (Nat.le_refl _)
  rw [List.take_length] at h1
  have h2 : (List.range hi).countP (marksOf l) ≤ (List.range hi).countP (fun j => decide (lo ≤ j ∧ j < hi)) := by
    apply List.countP_mono_left
    intro j hj hm
    obtain ⟨x, hx, h3, h4⟩ := marks_iff.1 hm
    have := he x hx
    simp; omega
  rw [count_range lo hi hlh hi] at h2
  omega

/-! ### which bytes are an area's -/
def dirOf (s : List UInt8) : List (Nat × Nat) := (List.range (numL s 0)).map (spotB s)
structure Loads (s : List UInt8) : Prop where
  lo : 16 ≤ s.length
  hi : s.length ≤ 4096
  fin : 4 + 4 * numL s 0 ≤ numL s 2
  low : numL s 2 ≤ s.length
  each : ∀ i, i < numL s 0 → numL s 2 ≤ (spotB s i).1 ∧ (spotB s i).1 + (spotB s i).2 ≤ s.length
  apart : Apart (dirOf s)
def areaOf (s : List UInt8) : A := ⟨s, numL s 2, dirOf s⟩
theorem dirOf_len (s : List UInt8) : (dirOf s).length = numL s 0 := by simp [dirOf]
theorem dirOf_at {s : List UInt8} {i : Nat} (h : i < numL s 0) : (dirOf s).getD i (0, 0) = spotB s i := by
  simp [dirOf, List.getD_eq_getElem?_getD, h]
theorem areaOf_is (s : List UInt8) : Is s (areaOf s) := by
  refine ⟨rfl, (dirOf_len s).symm, rfl, fun i hi => ?_, fun _ _ => rfl⟩
  have hi' : i < numL s 0 := by rw [← dirOf_len]; exact hi
  have : (areaOf s).at i = spotB s i := dirOf_at hi'
  rw [this]
  exact ⟨rfl, rfl⟩
theorem areaOf_ok {s : List UInt8} (h : Loads s) : (areaOf s).ok := by
  have hat : ∀ i, i < numL s 0 → (areaOf s).at i = spotB s i := fun i hi => dirOf_at hi
  have hl : (areaOf s).dir.length = numL s 0 := dirOf_len s
  have hn : (areaOf s).n = s.length := rfl
  have hw : (areaOf s).low = numL s 2 := rfl
  refine ⟨h.lo, h.hi, by unfold A.fin; rw [hl]; exact h.fin, h.low, fun i hi => ?_, fun i j hi hj hij => ?_, ?_⟩
  · rw [hl] at hi
    rw [hat i hi]
    exact h.each i hi
  · rw [hl] at hi hj
    rw [hat i hi, hat j hj, ← dirOf_at hi, ← dirOf_at hj]
    rcases Nat.lt_or_ge i j with h1 | h1
    · exact h.apart i j h1 (by rw [dirOf_len]; exact hj)
    · exact clear_symm (h.apart j i (by omega) (by rw [dirOf_len]; exact hi))
  · refine room_of h.apart h.low fun x hx => ?_
    obtain ⟨i, hi, rfl⟩ := mem_getD hx
    have hi' : i < numL s 0 := by rw [← dirOf_len]; exact hi
    have e : (areaOf s).dir.getD i (0, 0) = spotB s i := dirOf_at hi'
    rw [e]
    exact h.each i hi'
/-- an area's bytes are one's -/
theorem img_loads {b : List UInt8} {a : A} (hk : a.ok) (h : Is b a) : Loads b := by
  have hc := h.cnt
  have hl := h.low
  have hn := h.len
  have hat : ∀ i, i < a.dir.length → spotB b i = a.at i := fun i hi => by
    have := h.dir i hi
    unfold spotB
    rw [this.1, this.2]
  refine ⟨by rw [hn]; exact hk.lo, by rw [hn]; exact hk.hi, by rw [hc, hl]; exact hk.fin, by rw [hl, hn]; exact hk.low, fun i hi => ?_, fun i j hij hj => ?_⟩
  · rw [hc] at hi
    rw [hl, hn, hat i hi]
    exact hk.each i hi
  · rw [dirOf_len] at hj
    rw [dirOf_at (by omega), dirOf_at hj]
    rw [hc] at hj
    rw [hat i (by omega), hat j hj]
    exact hk.apart i j (by omega) hj (by omega)

end Go.Proofs.Ytmandeohbiagfaa.Slot

/- Plain mathematics of the sum: one step over a bit, many steps, a text as one number. -/
namespace Go.Proofs.Ytmandeohbiagfaa.Sum

/-- one step over a bit -/
def hf (n : Nat) : Nat := if n % 2 = 1 then n / 2 ^^^ 2197175160 else n / 2
/-- k steps -/
def H : Nat → Nat → Nat
  | 0, n => n
  | k + 1, n => H k (hf n)

theorem bit_half (n i : Nat) : (n / 2).testBit i = n.testBit (i + 1) := (Nat.testBit_succ n i).symm
theorem xor_half (a b : Nat) : (a ^^^ b) / 2 = a / 2 ^^^ b / 2 := by
  apply Nat.eq_of_testBit_eq
  intro i
  rw [bit_half, Nat.testBit_xor, Nat.testBit_xor, bit_half, bit_half]
theorem xor_odd (a b : Nat) : (a ^^^ b) % 2 = (a % 2 + b % 2) % 2 := by
  have h := Nat.testBit_xor a b 0
  simp only [Nat.testBit_zero] at h
  have e1 := Nat.mod_two_eq_zero_or_one a
  have e2 := Nat.mod_two_eq_zero_or_one b
  have e3 := Nat.mod_two_eq_zero_or_one (a ^^^ b)
  rcases e1 with e1 | e1 <;> rcases e2 with e2 | e2 <;> rcases e3 with e3 | e3 <;> simp_all

theorem xor4 (a b c d : Nat) : (a ^^^ b) ^^^ (c ^^^ d) = (a ^^^ c) ^^^ (b ^^^ d) := by
  rw [Nat.xor_assoc, ← Nat.xor_assoc b, Nat.xor_comm b c, Nat.xor_assoc c, ← Nat.xor_assoc]

theorem hf_xor (a b : Nat) : hf (a ^^^ b) = hf a ^^^ hf b := by
  unfold hf
  have h := xor_odd a b
  rw [xor_half]
  rcases Nat.mod_two_eq_zero_or_one a with e1 | e1 <;> rcases Nat.mod_two_eq_zero_or_one b with e2 | e2 <;> rw [e1, e2] at h <;> rw [e1, e2]
  · rw [if_neg (by omega), if_neg (by omega), if_neg (by omega)]
  · rw [if_pos (by omega), if_neg (by omega), if_pos (by omega), Nat.xor_assoc]
  · rw [if_pos (by omega), if_pos (by omega), if_neg (by omega), Nat.xor_assoc, Nat.xor_assoc, Nat.xor_comm (b / 2)]
  · rw [if_neg (by omega), if_pos (by omega), if_pos (by omega), xor4, Nat.xor_self, Nat.xor_zero]
theorem hf_double (n : Nat) : hf (2 * n) = n := by
  unfold hf
  rw [if_neg (by omega)]; omega
theorem hf_lt {n : Nat} (h : n < 4294967296) : hf n < 4294967296 := by
  unfold hf
  split
  · exact Nat.xor_lt_two_pow (n := 32) (by omega) (by omega)
  · omega
theorem hf_zero {n : Nat} (h : n < 4294967296) (hz : hf n = 0) : n = 0 := by
  unfold hf at hz
  split at hz
  · have h1 : n / 2 = 2197175160 := by
      have h2 := congrArg (· ^^^ 2197175160) hz
      simpa [Nat.xor_assoc] using h2
    omega
  · omega

theorem H_add (a b n : Nat) : H (a + b) n = H b (H a n) := by
  induction a generalizing n with
  | zero => rw [Nat.zero_add]; rfl
  | succ a ih => rw [Nat.add_right_comm]; exact ih (hf n)
theorem H_succ (k n : Nat) : H (k + 1) n = hf (H k n) := by rw [H_add]; rfl
theorem H_xor (k a b : Nat) : H k (a ^^^ b) = H k a ^^^ H k b := by
  induction k generalizing a b with
  | zero => rfl
  | succ k ih => show H k (hf (a ^^^ b)) = _; rw [hf_xor, ih]; rfl
theorem H_shift (k n : Nat) : H k (2 ^ k * n) = n := by
  induction k with
  | zero => rw [Nat.pow_zero, Nat.one_mul]; rfl
  | succ k ih =>
    show H k (hf (2 ^ (k + 1) * n)) = n
    rw [Nat.pow_succ, Nat.mul_comm (2 ^ k), Nat.mul_assoc, hf_double, ih]
theorem H_lt {k n : Nat} (h : n < 4294967296) : H k n < 4294967296 := by
  induction k generalizing n with
  | zero => exact h
  | succ k ih => exact ih (hf_lt h)
theorem H_zero {k n : Nat} (h : n < 4294967296) (hz : H k n = 0) : n = 0 := by
  induction k generalizing n with
  | zero => exact hz
  | succ k ih => exact hf_zero h (ih (hf_lt h) hz)

/-- a text as one number, the lowest byte first -/
def val : List UInt8 → Nat
  | [] => 0
  | b :: l => b.toNat + 256 * val l

theorem add_xor (b n : Nat) (h : b < 256) : b + 256 * n = b ^^^ 256 * n := by
  apply Nat.eq_of_testBit_eq
  intro i
  have e : b + 256 * n = 2 ^ 8 * n + b := by omega
  have e2 : 256 * n = 2 ^ 8 * n := by omega
  rw [e, Nat.testBit_two_pow_mul_add n (by omega : b < 2 ^ 8), Nat.testBit_xor, e2, Nat.testBit_two_pow_mul]
  by_cases h8 : i < 8
  · have : ¬ 8 ≤ i := by omega
    simp [h8, this]
  · have h9 : 8 ≤ i := by omega
    have hb : b.testBit i = false := Nat.testBit_lt_two_pow (Nat.lt_of_lt_of_le h (show 2 ^ 8 ≤ 2 ^ i from Nat.pow_le_pow_right (by omega) h9))
    simp [h8, h9, hb]
theorem val_cons (b : UInt8) (l : List UInt8) : val (b :: l) = b.toNat ^^^ 2 ^ 8 * val l := by
  show b.toNat + 256 * val l = _
  rw [add_xor _ _ b.toNat_lt]

/-- a number gone on over bytes -/
def run (c : Nat) (l : List UInt8) : Nat := l.foldl (fun c b => H 8 (c ^^^ b.toNat)) c
theorem run_cons (c : Nat) (b : UInt8) (l : List UInt8) : run c (b :: l) = run (H 8 (c ^^^ b.toNat)) l := rfl
theorem run_append (c : Nat) (l m : List UInt8) : run c (l ++ m) = run (run c l) m := by simp [run]
theorem run_val (c : Nat) (l : List UInt8) : run c l = H (8 * l.length) (c ^^^ val l) := by
  induction l generalizing c with
  | nil => simp [run, val, H]
  | cons b l ih =>
    have e : 8 * (b :: l).length = 8 + 8 * l.length := by simp; omega
    rw [run_cons, ih, e, H_add, val_cons, ← Nat.xor_assoc, H_xor 8 (c ^^^ b.toNat), H_shift]
theorem run_lt {c : Nat} (h : c < 4294967296) (l : List UInt8) : run c l < 4294967296 := by
  induction l generalizing c with
  | nil => exact h
  | cons b l ih =>
    have hb := b.toNat_lt
    exact ih (H_lt (Nat.xor_lt_two_pow (n := 32) (by omega) (by omega)))

theorem flip_lt {c : Nat} (h : c < 4294967296) : 4294967295 ^^^ c < 4294967296 := Nat.xor_lt_two_pow (n := 32) (by omega) (by omega)
theorem flip_flip (c : Nat) : 4294967295 ^^^ (4294967295 ^^^ c) = c := by rw [← Nat.xor_assoc, Nat.xor_self, Nat.zero_xor]

/-- the sum c, gone on over l -/
def more (c : Nat) (l : List UInt8) : Nat := 4294967295 ^^^ run (4294967295 ^^^ c) l
/-- the sum -/
def sumOf (l : List UInt8) : Nat := more 0 l
theorem more_lt {c : Nat} (h : c < 4294967296) (l : List UInt8) : more c l < 4294967296 := flip_lt (run_lt (flip_lt h) l)
theorem sumOf_lt (l : List UInt8) : sumOf l < 4294967296 := more_lt (by omega) l
theorem more_more (c : Nat) (l m : List UInt8) : more (more c l) m = more c (l ++ m) := by
  unfold more
  rw [flip_flip, run_append]
theorem more_nil (c : Nat) : more c [] = c := by
  unfold more
  exact flip_flip c

/-- the four bytes of a number, the lowest first -/
def le4 (n : Nat) : List UInt8 := [UInt8.ofNat (n % 256), UInt8.ofNat (n / 256 % 256), UInt8.ofNat (n / 65536 % 256), UInt8.ofNat (n / 16777216 % 256)]
theorem val_le4 {n : Nat} (h : n < 4294967296) : val (le4 n) = n := by
  simp [le4, val]; omega
theorem val_lt (l : List UInt8) : val l < 2 ^ (8 * l.length) := by
  induction l with
  | nil => simp [val]
  | cons b l ih =>
    have hb := b.toNat_lt
    have e : 8 * (b :: l).length = 8 * l.length + 8 := by simp; omega
    rw [e, Nat.pow_add]
    show b.toNat + 256 * val l < _
    omega
theorem le4_val {l : List UInt8} (h : l.length = 4) : le4 (val l) = l := by
  match l, h with
  | [a, b, c, d], _ =>
    have ha := a.toNat_lt
    have hb := b.toNat_lt
    have hc := c.toNat_lt
    have hd := d.toNat_lt
    have e1 : val [a, b, c, d] % 256 = a.toNat := by simp [val]
    have e2 : val [a, b, c, d] / 256 % 256 = b.toNat := by simp [val]; omega
    have e3 : val [a, b, c, d] / 65536 % 256 = c.toNat := by simp [val]; omega
    have e4 : val [a, b, c, d] / 16777216 % 256 = d.toNat := by simp [val]; omega
    unfold le4
    rw [e1, e2, e3, e4]
    simp

/-- a text, sealed -/
def sealL (l : List UInt8) : List UInt8 := l ++ le4 (sumOf l)
theorem sealL_length (l : List UInt8) : (sealL l).length = l.length + 4 := by simp [sealL, le4]
/-- is it sealed? -/
def isSealed (t : List UInt8) : Bool := decide (4 ≤ t.length) && decide (sumOf (t.take (t.length - 4)) = val (t.drop (t.length - 4)))
theorem sealed_sealL (l : List UInt8) : isSealed (sealL l) = true := by
  have e : (sealL l).length - 4 = l.length := by rw [sealL_length]; omega
  unfold isSealed
  rw [e, sealL_length]
  unfold sealL
  rw [List.take_left, List.drop_left, val_le4 (sumOf_lt l)]
  simp
theorem take_sealL (l : List UInt8) : (sealL l).take ((sealL l).length - 4) = l := by
  have e : (sealL l).length - 4 = l.length := by rw [sealL_length]; omega
  rw [e]
  unfold sealL
  rw [List.take_left]
theorem sealed_iff (t : List UInt8) (h : 4 ≤ t.length) : isSealed t = decide (sealL (t.take (t.length - 4)) = t) := by
  unfold isSealed
  have hd : (t.drop (t.length - 4)).length = 4 := by simp; omega
  rw [Bool.eq_iff_iff]
  simp only [h, decide_true, Bool.true_and, decide_eq_true_eq]
  constructor
  · intro he
    unfold sealL
    rw [he, le4_val hd, List.take_append_drop]
  · intro he
    have h2 := congrArg (List.drop (t.length - 4)) he
    unfold sealL at h2
    have e : (t.take (t.length - 4)).length = t.length - 4 := by simp
    rw [List.drop_append_of_le_length (by omega), List.drop_of_length_le (by omega), List.nil_append] at h2
    rw [← h2, val_le4 (sumOf_lt _)]

/-- over a sealed text the number comes to one and the same -/
theorem run_sealed {t : List UInt8} (h : isSealed t = true) : run 4294967295 t = H 32 4294967295 := by
  have h4 : 4 ≤ t.length ∧ sumOf (t.take (t.length - 4)) = val (t.drop (t.length - 4)) := by simpa [isSealed] using h
  have hd : (t.drop (t.length - 4)).length = 4 := by simp; omega
  have e := run_append 4294967295 (t.take (t.length - 4)) (t.drop (t.length - 4))
  rw [List.take_append_drop] at e
  rw [e, run_val _ (t.drop _), hd, ← h4.2]
  unfold sumOf more
  rw [Nat.xor_zero, Nat.xor_comm 4294967295, ← Nat.xor_assoc, Nat.xor_self, Nat.zero_xor]

/-- bits that lie within 32 in a row, turned in a sealed text: it is sealed just if none was turned -/
theorem turned_not {t u : List UInt8} {k m : Nat} (ht : isSealed t = true) (hl : u.length = t.length) (hk : k ≤ 8 * t.length) (hm : m < 4294967296) (hv : val u = val t ^^^ 2 ^ k * m) (hu : isSealed u = true) : m = 0 := by
  have h1 := run_sealed ht
  have h2 := run_sealed hu
  rw [run_val, hl, hv, ← Nat.xor_assoc, H_xor, ← run_val, h1] at h2
  have h3 : H (8 * t.length) (2 ^ k * m) = 0 := by
    have h4 := congrArg (H 32 4294967295 ^^^ ·) h2
    simpa [← Nat.xor_assoc] using h4
  have e : 8 * t.length = k + (8 * t.length - k) := by omega
  rw [e, H_add, H_shift] at h3
  exact H_zero hm h3

theorem len_of_val {t u : List UInt8} (hl : u.length = t.length) (hv : val u = val t) : u = t := by
  induction t generalizing u with
  | nil => simpa using hl
  | cons b t ih =>
    match u, hl with
    | c :: u, hl =>
      have hb := b.toNat_lt
      have hc := c.toNat_lt
      have h1 : c.toNat + 256 * val u = b.toNat + 256 * val t := hv
      have h2 : c.toNat = b.toNat := by omega
      have h3 : val u = val t := by omega
      rw [ih (by simpa using hl) h3, UInt8.toNat_inj.1 h2]

/-- three texts put together by exclusive or -/
def xorL (a b c : List UInt8) : List UInt8 := List.zipWith (fun x y => x ^^^ y) (List.zipWith (fun x y => x ^^^ y) a b) c
theorem val_zip (a b : List UInt8) (h : a.length = b.length) : val (List.zipWith (fun x y => x ^^^ y) a b) = val a ^^^ val b := by
  induction a generalizing b with
  | nil =>
    match b, h with
    | [], _ => rfl
  | cons x a ih =>
    match b, h with
    | y :: b, h =>
      have e2 : val a ^^^ val b = val (List.zipWith (fun x y => x ^^^ y) a b) := (ih b (by simpa using h)).symm
      show val ((x ^^^ y) :: List.zipWith _ a b) = _
      rw [val_cons, val_cons, val_cons, xor4, ← e2, UInt8.toNat_xor]
      congr 1
      apply Nat.eq_of_testBit_eq
      intro i
      simp only [Nat.testBit_xor, Nat.testBit_two_pow_mul]
      by_cases h8 : 8 ≤ i <;> simp [h8]
theorem sum_xor (a b c : List UInt8) (h1 : a.length = b.length) (h2 : b.length = c.length) : sumOf (xorL a b c) = sumOf a ^^^ sumOf b ^^^ sumOf c := by
  have hl : (List.zipWith (fun x y : UInt8 => x ^^^ y) a b).length = c.length := by simp; omega
  have hl2 : (xorL a b c).length = c.length := by unfold xorL; simp; omega
  unfold sumOf more
  rw [Nat.xor_zero, run_val, run_val, run_val, run_val, hl2, h1, h2]
  unfold xorL
  rw [val_zip _ _ hl, val_zip _ _ h1]
  simp only [H_xor]
  generalize H (8 * c.length) 4294967295 = p
  generalize H (8 * c.length) (val a) = x
  generalize H (8 * c.length) (val b) = y
  generalize H (8 * c.length) (val c) = z
  generalize 4294967295 = f
  apply Nat.eq_of_testBit_eq
  intro i
  simp only [Nat.testBit_xor]
  generalize f.testBit i = q0
  generalize p.testBit i = q1
  generalize x.testBit i = q2
  generalize y.testBit i = q3
  generalize z.testBit i = q4
  revert q0 q1 q2 q3 q4
  decide

/-- the steps that a byte takes, from a number of 32 bits: what the table gives -/
theorem step_table (c b : Nat) (_hb : b < 256) : H 8 (c ^^^ b) = c / 256 ^^^ H 8 (c % 256 ^^^ b) := by
  have e : c = c % 256 + 256 * (c / 256) := by omega
  have e2 := add_xor (c % 256) (c / 256) (by omega)
  have e3 : c = 2 ^ 8 * (c / 256) ^^^ c % 256 := by
    rw [Nat.xor_comm]
    show c = c % 256 ^^^ 256 * (c / 256)
    omega
  have e4 : c ^^^ b = 2 ^ 8 * (c / 256) ^^^ (c % 256 ^^^ b) := by
    rw [← Nat.xor_assoc, ← e3]
  rw [e4, H_xor, H_shift]

end Go.Proofs.Ytmandeohbiagfaa.Sum

namespace Go.Proofs.Ytmandeohbiagfaa.Page
open Slot (A Is imgA strB areaOf Loads txt tot)
open Go.Proofs.Ytmandeohbiagfaa.Sum (sealL isSealed)

/-- a page: what it has -/
structure Pg where
  kind : Nat
  level : Nat
  id : Nat
  lsn : Nat
  next : Nat
  rows : List ByteArray
def Pg.zero : Pg := ⟨0, 0, 0, 0, 0, []⟩
def nth (l : List ByteArray) (k : Nat) : ByteArray := l.getD k .empty
/-- what rows take -/
def used (l : List ByteArray) : Nat := (l.map fun r => 4 + r.size).sum
structure Pg.wf (p : Pg) : Prop where
  kind : p.kind < 256
  level : p.level < 256
  id : p.id < 4294967296
  lsn : p.lsn < 18446744073709551616
  next : p.next < 4294967296
/-- may it be? -/
def mayP (p : Pg) : Bool := decide (p.kind ≤ 5 ∧ 1 ≤ p.id ∧ p.id ≤ 1024 ∧ p.next ≤ 1024 ∧ used p.rows ≤ 484)
def leftI (l : List ByteArray) : Int := if used l ≤ 484 then 484 - (used l : Int) else -1
def roomI (l : List ByteArray) : Int := if used l ≤ 480 then 480 - (used l : Int) else -1
/-- the area into which the first k rows were put -/
def arA (l : List ByteArray) : Nat → A
  | 0 => A.new 488
  | k + 1 => (Slot.room (arA l k) ((nth l k).size + 4)).putAt k (nth l k).data.toList
def headL (p : Pg) : List UInt8 := be 1 p.kind ++ (be 1 p.level ++ (be 4 p.id ++ (be 8 p.lsn ++ (be 4 p.next ++ [0, 0]))))
def bodyL (p : Pg) : List UInt8 := headL p ++ imgA (arA p.rows p.rows.length)
/-- its bytes -/
def encS (p : Pg) : ByteArray := if mayP p then strB (sealL (bodyL p)) else ⟨#[]⟩
def encE (p : Pg) : Int := if mayP p then 0 else 2
def areaS (s : ByteArray) : List UInt8 := (s.data.toList.drop 20).take 488
def nAt (s : ByteArray) (k n : Nat) : Nat := num ((s.data.toList.drop k).take n)
/-- what stands there -/
def parse (s : ByteArray) : Pg := ⟨nAt s 0 1, nAt s 1 1, nAt s 2 4, nAt s 6 8, nAt s 14 4, (areaOf (areaS s)).texts.map strB⟩
structure IsPage (s : ByteArray) : Prop where
  size : s.size = 512
  loads : Loads (areaS s)
  may : mayP (parse s) = true
  bytes : encS (parse s) = s
/-- what bytes are read as, and with which error -/
def Dec (s : ByteArray) (q : Pg) (c : Int) : Prop := (IsPage s ∧ q = parse s ∧ c = 0) ∨ (¬ IsPage s ∧ q = Pg.zero ∧ c = 60)
theorem dec_ex (s : ByteArray) : ∃ q c, Dec s q c := by
  by_cases h : IsPage s
  · exact ⟨_, _, .inl ⟨h, rfl, rfl⟩⟩
  · exact ⟨_, _, .inr ⟨h, rfl, rfl⟩⟩

/-! ### rows -/
theorem used_nil : used [] = 0 := rfl
theorem used_cons (r : ByteArray) (l : List ByteArray) : used (r :: l) = 4 + r.size + used l := by simp [used]
theorem used_app (l m : List ByteArray) : used (l ++ m) = used l + used m := by simp [used]
theorem nth_take {l : List ByteArray} {k : Nat} (h : k < l.length) : l.take (k + 1) = l.take k ++ [nth l k] := by
  rw [List.take_succ_eq_append_getElem h]
  unfold nth
  rw [List.getD_eq_getElem?_getD, List.getElem?_eq_getElem h]
  rfl
theorem nth_get {l : List ByteArray} {k : Nat} (h : k < l.length) : l[k]? = some (nth l k) := by
  unfold nth
  rw [List.getD_eq_getElem?_getD, List.getElem?_eq_getElem h]
  rfl
theorem nth_elem {l : List ByteArray} {k : Nat} (h : k < l.length) : l[k] = nth l k := by
  have := nth_get h
  rw [List.getElem?_eq_getElem h] at this
  exact Option.some.inj this
theorem used_take {l : List ByteArray} {k : Nat} (h : k < l.length) : used (l.take (k + 1)) = used (l.take k) + (4 + (nth l k).size) := by
  rw [nth_take h, used_app, used_cons, used_nil]; omega
theorem used_take_le (l : List ByteArray) (k : Nat) : used (l.take k) ≤ used l := by
  have h := used_app (l.take k) (l.drop k)
  rw [List.take_append_drop] at h
  omega
theorem used_len (l : List ByteArray) : 4 * l.length ≤ used l := by
  induction l with
  | nil => simp [used]
  | cons r l ih => rw [used_cons, List.length_cons]; omega
theorem nth_size {l : List ByteArray} {k : Nat} (h : k < l.length) : 4 + (nth l k).size ≤ used l := by
  have h1 := used_take h
  have h2 := used_take_le l (k + 1)
  omega

/-! ### the area of rows -/
theorem size_len (r : ByteArray) : r.data.toList.length = r.size := rfl
theorem new_facts (n : Nat) : (A.new n).n = n ∧ (A.new n).dir.length = 0 ∧ (A.new n).free = n - 4 ∧ (A.new n).gap = n - 4 ∧ (A.new n).texts = [] := by
  refine ⟨by simp [A.new, A.n], by simp [A.new], by simp [A.new, A.free, A.n, A.fin, tot], by simp [A.new, A.gap, A.fin], by simp [A.new, A.texts]⟩
theorem arA_all (l : List ByteArray) : ∀ k, k ≤ l.length → used (l.take k) ≤ 484 →
    (arA l k).ok ∧ (arA l k).n = 488 ∧ (arA l k).dir.length = k ∧ (arA l k).free + used (l.take k) = 484 ∧ (arA l k).gap = (arA l k).free ∧ (arA l k).texts = (l.take k).map (·.data.toList) := by
  intro k
  induction k with
  | zero =>
    intro _ _
    obtain ⟨n1, n2, n3, n4, n5⟩ := new_facts 488
    refine ⟨Slot.new_ok (by omega) (by omega), n1, n2, ?_, ?_, n5⟩
    · show (A.new 488).free + 0 = 484
      omega
    · show (A.new 488).gap = (A.new 488).free
      omega
  | succ k ih =>
    intro hk hu
    have hu1 := used_take (show k < l.length by omega)
    obtain ⟨h1, h2, h3, h4, h5, h6⟩ := ih (by omega) (by omega)
    have hroom : Slot.room (arA l k) ((nth l k).size + 4) = arA l k := by
      unfold Slot.room
      rw [if_neg (by omega)]
    obtain ⟨f1, f2, f3⟩ := Slot.ok_free h1
    have hlow := h1.low
    have e : arA l (k + 1) = (arA l k).putAt k (nth l k).data.toList := by
      show (Slot.room (arA l k) ((nth l k).size + 4)).putAt k _ = _
      rw [hroom]
    have hl : (arA l k).fin + 4 + (nth l k).data.toList.length ≤ (arA l k).low := by rw [size_len]; omega
    have hlay : ((arA l k).lay (nth l k).data.toList).length = (arA l k).n := Slot.lay_len h1 (by omega)
    have hd : ((arA l k).putAt k (nth l k).data.toList).dir.length = k + 1 := by
      simp [A.putAt]; omega
    have ht : tot ((arA l k).putAt k (nth l k).data.toList).dir = tot (arA l k).dir + (nth l k).size := by
      show tot ((arA l k).dir.take k ++ _ :: (arA l k).dir.drop k) = _
      rw [Slot.tot_app, Slot.tot_cons]
      have := Slot.tot_split (arA l k).dir k
      simp only [size_len]
      omega
    have hn : ((arA l k).putAt k (nth l k).data.toList).n = 488 := by
      show ((arA l k).lay (nth l k).data.toList).length = _
      rw [hlay, h2]
    have hf : ((arA l k).putAt k (nth l k).data.toList).fin = (arA l k).fin + 4 := by unfold A.fin; rw [hd, h3]; omega
    have hlo : ((arA l k).putAt k (nth l k).data.toList).low = (arA l k).low - (nth l k).size := rfl
    rw [e]
    refine ⟨Slot.putAt_ok h1 (by omega) hl, hn, hd, ?_, ?_, ?_⟩
    · unfold A.free
      rw [hn, hf, ht]
      unfold A.free at h4 f1
      rw [h2] at h4 f1
      omega
    · unfold A.free A.gap
      rw [hn, hf, ht, hlo]
      unfold A.free at h5 f1
      unfold A.gap at h5 f3
      rw [h2] at h5 f1
      omega
    · rw [Slot.putAt_texts h1 (by omega), h6, nth_take (by omega), List.map_append]
      have hk2 : ((l.take k).map (·.data.toList)).length = k := by rw [List.length_map, List.length_take]; omega
      rw [List.take_of_length_le (by omega), List.drop_of_length_le (by omega)]
      rfl
theorem arA_is (l : List ByteArray) (h : used l ≤ 484) : (arA l l.length).ok ∧ (arA l l.length).n = 488 ∧ (arA l l.length).texts = l.map (·.data.toList) := by
  have := arA_all l l.length (Nat.le_refl _) (by rw [List.take_length]; exact h)
  rw [List.take_length] at this
  exact ⟨this.1, this.2.1, this.2.2.2.2.2⟩

/-! ### an area's bytes, loaded -/
theorem texts_is {b : List UInt8} {a : A} (hk : a.ok) (h : Is b a) : (areaOf b).texts = a.texts := by
  have hc := h.cnt
  have hl : (areaOf b).dir.length = a.dir.length := (Slot.dirOf_len b).trans hc
  have hf := hk.fin
  apply List.ext_getElem?
  intro i
  by_cases hi : i < a.dir.length
  · rw [Slot.texts_at (by rw [hl]; exact hi), Slot.texts_at hi]
    have hat : (areaOf b).at i = a.at i := by
      have := h.dir i hi
      have e : (areaOf b).at i = Slot.spotB b i := Slot.dirOf_at (by rw [hc]; exact hi)
      rw [e]
      unfold Slot.spotB
      rw [this.1, this.2]
    show some (txt b ((areaOf b).at i)) = some (txt a.cells (a.at i))
    rw [hat]
    congr 1
    exact Slot.txt_congr rfl fun j _ => h.rest _ (by have := hk.each i hi; omega)
  · rw [List.getElem?_eq_none (by rw [Slot.texts_len, hl]; omega), List.getElem?_eq_none (by rw [Slot.texts_len]; omega)]

/-! ### written, and read -/
theorem headL_len (p : Pg) : (headL p).length = 20 := by simp [headL, be_length]
theorem bodyL_len {p : Pg} (h : used p.rows ≤ 484) : (bodyL p).length = 508 := by
  obtain ⟨h1, h2, _⟩ := arA_is p.rows h
  unfold bodyL
  rw [List.length_append, headL_len, Slot.img_len h1, h2]
theorem may_used {p : Pg} (h : mayP p = true) : used p.rows ≤ 484 := by
  unfold mayP at h
  exact (of_decide_eq_true h).2.2.2.2
theorem drop_left {T : Type} (l m : List T) (k : Nat) (h : l.length ≤ k) : (l ++ m).drop k = m.drop (k - l.length) := by
  rw [List.drop_append, List.drop_of_length_le h, List.nil_append]
theorem take_left_of {T : Type} {l m : List T} {k : Nat} (h : l.length = k) : (l ++ m).take k = l := by
  subst h; exact List.take_left
theorem num_one {n : Nat} (m : Nat) (h : n < 256 ^ m) : num (be m n) = n := num_be m n h
theorem enc_data {p : Pg} (h : mayP p = true) : (encS p).data.toList = sealL (bodyL p) := by
  unfold encS
  rw [if_pos h]
  unfold strB
  rfl
theorem enc_size {p : Pg} (h : mayP p = true) : (encS p).size = 512 := by
  rw [← size_len, enc_data h, Sum.sealL_length, bodyL_len (may_used h)]
theorem enc_parts {p : Pg} (h : mayP p = true) : ∃ z, (encS p).data.toList = be 1 p.kind ++ (be 1 p.level ++ (be 4 p.id ++ (be 8 p.lsn ++ (be 4 p.next ++ ([0, 0] ++ (imgA (arA p.rows p.rows.length) ++ z)))))) := by
  rw [enc_data h]
  refine ⟨Sum.le4 (Sum.sumOf (bodyL p)), ?_⟩
  unfold sealL bodyL headL
  simp only [List.append_assoc]
theorem strB_data (r : ByteArray) : strB r.data.toList = r := by
  apply ByteArray.ext
  simp [strB]
theorem parse_enc {p : Pg} (hw : p.wf) (h : mayP p = true) : areaS (encS p) = imgA (arA p.rows p.rows.length) ∧ parse (encS p) = p := by
  obtain ⟨z, hz⟩ := enc_parts h
  obtain ⟨h1, h2, h3⟩ := arA_is p.rows (may_used h)
  have hi : (imgA (arA p.rows p.rows.length)).length = 488 := by rw [Slot.img_len h1, h2]
  have ha : areaS (encS p) = imgA (arA p.rows p.rows.length) := by
    unfold areaS
    rw [hz]
    rw [drop_left _ _ _ (by rw [be_length]; omega), be_length, drop_left _ _ _ (by rw [be_length]; omega), be_length, drop_left _ _ _ (by rw [be_length]; omega), be_length, drop_left _ _ _ (by rw [be_length]; omega), be_length, drop_left _ _ _ (by rw [be_length]; omega), be_length, drop_left _ _ _ (by simp)]
    exact take_left_of hi
  refine ⟨ha, ?_⟩
  have e0 : nAt (encS p) 0 1 = p.kind := by
    unfold nAt
    rw [hz, List.drop_zero, take_left_of (by rw [be_length]), num_one 1 (by have := hw.kind; omega)]
  have e1 : nAt (encS p) 1 1 = p.level := by
    unfold nAt
    rw [hz, drop_left _ _ _ (by rw [be_length]; omega), be_length, List.drop_zero, take_left_of (by rw [be_length]), num_one 1 (by have := hw.level; omega)]
  have e2 : nAt (encS p) 2 4 = p.id := by
    unfold nAt
    rw [hz, drop_left _ _ _ (by rw [be_length]; omega), be_length, drop_left _ _ _ (by rw [be_length]; omega), be_length, List.drop_zero, take_left_of (by rw [be_length]), num_one 4 (by have := hw.id; omega)]
  have e3 : nAt (encS p) 6 8 = p.lsn := by
    unfold nAt
    rw [hz, drop_left _ _ _ (by rw [be_length]; omega), be_length, drop_left _ _ _ (by rw [be_length]; omega), be_length, drop_left _ _ _ (by rw [be_length]; omega), be_length, List.drop_zero, take_left_of (by rw [be_length]), num_one 8 (by have := hw.lsn; omega)]
  have e4 : nAt (encS p) 14 4 = p.next := by
    unfold nAt
    rw [hz, drop_left _ _ _ (by rw [be_length]; omega), be_length, drop_left _ _ _ (by rw [be_length]; omega), be_length, drop_left _ _ _ (by rw [be_length]; omega), be_length, drop_left _ _ _ (by rw [be_length]; omega), be_length, List.drop_zero, take_left_of (by rw [be_length]), num_one 4 (by have := hw.next; omega)]
  have e5 : (areaOf (areaS (encS p))).texts.map strB = p.rows := by
    rw [ha, texts_is h1 (Slot.img_is h1), h3, List.map_map]
    have : (strB ∘ fun r : ByteArray => r.data.toList) = id := funext fun r => strB_data r
    rw [this, List.map_id]
  unfold parse
  rw [e0, e1, e2, e3, e4, e5]
/-- what was written is a page's bytes -/
theorem enc_page {p : Pg} (hw : p.wf) (h : mayP p = true) : IsPage (encS p) := by
  obtain ⟨h1, h2⟩ := parse_enc hw h
  obtain ⟨k1, k2, k3⟩ := arA_is p.rows (may_used h)
  exact ⟨enc_size h, by rw [h1]; exact Slot.img_loads k1 (Slot.img_is k1), by rw [h2]; exact h, by rw [h2]⟩
theorem dec_enc {p : Pg} (hw : p.wf) (h : mayP p = true) : Dec (encS p) p 0 := .inl ⟨enc_page hw h, (parse_enc hw h).2.symm, rfl⟩
theorem enc_inj {p q : Pg} (hw : p.wf) (hx : q.wf) (h : mayP p = true) (k : mayP q = true) (e : encS p = encS q) : p = q := by
  rw [← (parse_enc hw h).2, e, (parse_enc hx k).2]
theorem page_sealed {s : ByteArray} (h : IsPage s) : isSealed s.data.toList = true := by
  rw [← h.bytes, enc_data h.may]
  exact Sum.sealed_sealL _
/-- what stands in bytes, of which an area is loaded, takes no more than -/
theorem parse_used {s : ByteArray} (hs : s.size = 512) (h : Loads (areaS s)) : used (parse s).rows ≤ 1000000 := by
  have hk := Slot.areaOf_ok h
  have hl : (areaS s).length = 488 := by
    unfold areaS
    rw [List.length_take, List.length_drop, size_len, hs]
    rfl
  have hn : (areaOf (areaS s)).n = 488 := hl
  have hf := hk.fin
  have hlo := hk.low
  have hd : (areaOf (areaS s)).dir.length ≤ 121 := by unfold A.fin at hf; omega
  have each : ∀ x ∈ (areaOf (areaS s)).dir, (4 + (strB (txt (areaOf (areaS s)).cells x)).size) ≤ 492 := fun x hx => by
    have h1 := Slot.each_mem hk hx
    have h2 : (strB (txt (areaOf (areaS s)).cells x)).size = (txt (areaOf (areaS s)).cells x).length := rfl
    have h3 : (txt (areaOf (areaS s)).cells x).length = x.2 := Slot.txt_len (by show x.1 + x.2 ≤ (areaOf (areaS s)).n; exact h1.2)
    omega
  have gen : ∀ l : List (Nat × Nat), (∀ x ∈ l, (4 + (strB (txt (areaOf (areaS s)).cells x)).size) ≤ 492) → used (l.map fun x => strB (txt (areaOf (areaS s)).cells x)) ≤ 492 * l.length := by
    intro l
    induction l with
    | nil => intro _; simp [used]
    | cons x l ih =>
      intro h
      rw [List.map_cons, used_cons, List.length_cons]
      have h1 := h x (List.mem_cons_self ..)
      have h2 := ih fun y hy => h y (List.mem_cons_of_mem _ hy)
      omega
  have := gen _ each
  unfold parse A.texts
  rw [List.map_map]
  exact Nat.le_trans this (by omega)
theorem parse_wf (s : ByteArray) : (parse s).wf := by
  have h : ∀ k n, nAt s k n < 256 ^ n := fun k n => num_lt_of (by rw [List.length_take]; omega)
  exact ⟨h 0 1, h 1 1, h 2 4, h 6 8, h 14 4⟩

end Go.Proofs.Ytmandeohbiagfaa.Page

namespace Go.Proofs
open Go.Shelf
def Try.laysM316_ren : Go.Shelf.Ren := ⟨fun | 316 => 81 | n => n, fun | 9 => 9 | 3 => 3 | 4 => 4 | 37 => 45 | 0 => 0 | 127 => 107 | 5 => 5 | n => n, fun | n => n⟩
theorem Try.laysM316 : Go.Proofs.LaysM.n316 Try.prog Try.laysM316_ren := {
  mixed := by kernel_rfl
  f316 := Try.func81.trans (congrArg some (by kernel_rfl))
  t0 := Try.underlying0
  a0 := Try.isAgg0
  z0 := Try.sizeOf0
  v0 := Try.zeroValue0
  t3 := Try.underlying3
  a3 := Try.isAgg3
  z3 := Try.sizeOf3
  v3 := Try.zeroValue3
  t4 := Try.underlying4
  a4 := Try.isAgg4
  z4 := Try.sizeOf4
  v4 := Try.zeroValue4
  t9 := Try.underlying9
  a9 := Try.isAgg9
  z9 := Try.sizeOf9
  v9 := Try.zeroValue9
  t37 := Try.underlying45
  a37 := Try.isAgg45
  z37 := Try.sizeOf45
  v37 := Try.zeroValue45
  t127 := Try.underlying107
  a127 := Try.isAgg107
  z127 := Try.sizeOf107
  v127 := Try.zeroValue107
  t5 := Try.underlying5
  a5 := Try.isAgg5
  z5 := Try.sizeOf5
  v5 := Try.zeroValue5
  i0 := by kernel_rfl
  i3 := by kernel_rfl
  i4 := by kernel_rfl
  i5 := by kernel_rfl
  i9 := by kernel_rfl
  i37 := by kernel_rfl
  i127 := by kernel_rfl }
open Go.RowKit in
theorem Try.stringslite_Clone (s : ByteArray) (w : World) (hlim : s.size ≤ 281474976710656) :
    Calls Try.prog 81 #[.string s] w fun e w' => e = .returned (.string s) ∧ Below w.heap.size w w' := Any.stringslite_Clone Try.laysM316 s w hlim
def Try.lays193_ren : Go.Shelf.Ren := ⟨fun | 193 => 32 | n => n, fun | 31 => 24 | 9 => 9 | 4 => 4 | 3 => 3 | 0 => 0 | n => n, fun | n => n⟩
theorem Try.lays193 : Go.Proofs.Lays.n193 Try.prog Try.lays193_ren := {
  mixed := by kernel_rfl
  f193 := Try.func32.trans (congrArg some (by kernel_rfl))
  t0 := Try.underlying0
  a0 := Try.isAgg0
  z0 := Try.sizeOf0
  v0 := Try.zeroValue0
  t3 := Try.underlying3
  a3 := Try.isAgg3
  z3 := Try.sizeOf3
  v3 := Try.zeroValue3
  t4 := Try.underlying4
  a4 := Try.isAgg4
  z4 := Try.sizeOf4
  v4 := Try.zeroValue4
  t9 := Try.underlying9
  a9 := Try.isAgg9
  z9 := Try.sizeOf9
  v9 := Try.zeroValue9
  t31 := Try.underlying24
  a31 := Try.isAgg24
  z31 := Try.sizeOf24
  v31 := Try.zeroValue24 }
open Go.RowKit Go.Lib in
theorem Try.slices_Equal_string (b1 o1 n c b2 o2 m d : Nat) (xs ys : List ByteArray) (w : World) (hx : n ≤ xs.length) (hy : m ≤ ys.length) (hbig : n ≤ 9223372036854775807) (hbig2 : m ≤ 9223372036854775807) (hc1 : ∀ j, j < xs.length → w.cell? ⟨b1, o1 + j, none⟩ = some (.string (xs.getD j ByteArray.empty))) (hc2 : ∀ j, j < ys.length → w.cell? ⟨b2, o2 + j, none⟩ = some (.string (ys.getD j ByteArray.empty))) :
    Calls Try.prog 32 #[.slice (some ⟨b1, o1, none⟩) n c, .slice (some ⟨b2, o2, none⟩) m d] w fun e w' => e = .returned (.bool (decide (xs.take n = ys.take m))) ∧ ∃ q, w' = w.drewN q := Any.slices_Equal_string Try.lays193 b1 o1 n c b2 o2 m d xs ys w hx hy hbig hbig2 hc1 hc2
open Go.RowKit Go.Lib in
theorem Try.slices_Equal_string_empty (a1 a2 : Option Addr) (c m d : Nat) (w : World) (hbig2 : m ≤ 9223372036854775807) :
    Calls Try.prog 32 #[.slice a1 0 c, .slice a2 m d] w fun e w' => e = .returned (.bool (decide (m = 0))) ∧ w' = w := Any.slices_Equal_string_empty Try.lays193 a1 a2 c m d w hbig2
open Go.RowKit Go.Lib in
theorem Try.slices_Equal_string_lens (a1 a2 : Option Addr) (n c m d : Nat) (w : World) (hnm : n ≠ m) :
    Calls Try.prog 32 #[.slice a1 n c, .slice a2 m d] w fun e w' => e = .returned (.bool false) ∧ w' = w := Any.slices_Equal_string_lens Try.lays193 a1 a2 n c m d w hnm
end Go.Proofs

namespace Go.Proofs.Ytmandeohbiagfaa.Slot
open Go.RowKit
attribute [local go_sem ↓] Go.wp_at_zero Go.wp_at_succ

theorem numAt_two (l : List UInt8) (h : l.length = 2) : numAt (strB l) 0 2 = numL l 0 := by
  match l, h with
  | [x, y], _ => simp [numAt, strB, num, numL]
theorem bytesOf_two (n : Nat) : bytesOf 2 (n : Int) = strB (two n) := by
  unfold bytesOf strB two be
  simp [List.range_succ]
  constructor <;> (apply UInt8.toNat_inj.1; simp)

set_option maxRecDepth 100000 in
theorem place_any (k : Nat) (w : World) (hk : k ≤ 100000) : Calls Try.prog 75 #[.int .i64 (k : Int)] w fun e w' => e = .returned (.int .i64 ((4 + 4 * k : Nat) : Int)) ∧ w = w' := by
  go_enter Try.func75, Try.ntmps75
  go_wp2
  go_ret
  exact ⟨ret_int (by omega), rfl⟩

def sizedB (n : Int) : Bool := decide (16 ≤ n ∧ n ≤ 4096)
set_option maxRecDepth 100000 in
theorem sized_any (n : Int) (w : World) : Calls Try.prog 69 #[.int .i64 n] w fun e w' => e = .returned (.bool (sizedB n)) ∧ w = w' := by
  go_enter Try.func69, Try.ntmps69
  go_wp2
  all_goals
    go_ret
    exact ⟨ret_bool (by unfold sizedB; simp; omega), rfl⟩

section
variable {w : World} {p g c : Nat} {b : List UInt8}
set_option maxRecDepth 100000 in
theorem number_any (h : Ar w p g c b) (k : Nat) (hk : k + 2 ≤ b.length) :
    Calls Try.prog 85 #[.pointer (some ⟨p, 0, none⟩), .int .i64 (k : Int)] w fun e w' => e = .returned (.int .i64 (numL b k : Int)) ∧ w = w' := by
  have c0 := h.cell0
  have hc := h.cap
  have hhi := h.hi
  have sl := fun W => slice_part W (g := g) (n := b.length) (c := c) (k := k) (m := k + 2) (by omega) (by omega)
  have e1 : k + 2 - k = 2 := by omega
  have e2 : ((k + 2 : Nat) : Int) = (k : Int) + 2 := by omega
  rw [e1, e2] at sl
  have cv := h.row.str (c := c) (k := k) (m := k + 2) (by omega) hk hc
  rw [e1] at cv
  have hl : ((b.drop k).take 2).length = 2 := by simp; omega
  have en : numAt (strB ((b.drop k).take 2)) 0 2 = numL b k := by rw [numAt_two _ hl, num_part (by omega)]; rfl
  have hs : (strB ((b.drop k).take 2)).size = 2 := hl
  have gt := get_yes (strB ((b.drop k).take 2)) 0 2 w (by omega) (by omega) (by omega) (by omega)
  rw [en] at gt
  have hb := num_lt b k
  generalize strB ((b.drop k).take 2) = s at *
  generalize numL b k = m at *
  have GT := Lib.hid gt
  clear gt en hs hl h e1 e2
  obtain ⟨B, hB⟩ : ∃ B, B = base g k c := ⟨_, rfl⟩
  rw [← hB] at sl cv
  clear hB
  go_enter Try.func85, Try.ntmps85
  go_wp2_with fail
  refine GT.out.mono ?_
  rintro e w' ⟨rfl, rfl⟩
  go_wp2_with fail
  go_ret
  exact ⟨rfl, rfl⟩

set_option maxRecDepth 100000 in
theorem lay_any (h : Ar w p g c b) (k n : Nat) (hk : k + 2 ≤ b.length) (hn : n < 65536) :
    Calls Try.prog 70 #[.pointer (some ⟨p, 0, none⟩), .int .i64 (k : Int), .int .i64 (n : Int)] w fun e w' => e = .returned (.tuple #[]) ∧ (Ar w' p g c (putL b k (two n)) ∧ Touch (both p g) w w') := by
  have hc := h.cap
  have hhi := h.hi
  have pt := put_yes (n : Int) 2 w (by omega) (by omega) (by omega) (by
    have e : (n : Int) / 2 ^ (8 * 2) = 0 := Int.ediv_eq_zero_of_lt (by omega) (by omega)
    rw [e]; rfl)
  rw [bytesOf_two] at pt
  have PT := Lib.hid pt
  have HA := Lib.hid h
  have sl := fun W => slice_from W (g := g) (n := b.length) (c := c) (k := k) (by omega)
  clear pt h
  go_enter Try.func70, Try.ntmps70
  go_wp2_with fail
  refine PT.out.mono ?_
  rintro e w1 ⟨rfl, b1⟩
  have A1 := HA.out.later b1
  have c0 := A1.cell0
  have cp := fun ty => A1.row.copy ty (k := k) (x := strB (two n)) (by show k + 2 ≤ _; omega) hc
  have A2 := A1.put (k := k) (t := two n) (by rw [two_len]; omega)
  have HE := Lib.hid (show Ar _ p g c (putL b k (two n)) ∧ Touch (both p g) w _ from ⟨A2.1, (Touch.ofNew b1).trans' A2.2⟩)
  have ed : (strB (two n)).data.toList = two n := rfl
  rw [ed] at cp
  clear PT HA A1 A2 b1 ed
  generalize w1.setCells g k (Lib.byteCells (two n)) = w2 at *
  generalize strB (two n) = s at *
  obtain ⟨B, hB⟩ : ∃ B, B = base g k c := ⟨_, rfl⟩
  rw [← hB] at sl cp
  clear hB
  go_wp2_with fail
  go_end0
  exact ⟨rfl, HE.out⟩
set_option maxRecDepth 100000 in
theorem made_any (h : Ar w p g c b) : Calls Try.prog 71 #[.pointer (some ⟨p, 0, none⟩)] w fun e w' => e = .returned (.bool true) ∧ w = w' := by
  have c0 := h.cell0
  have h1 : decide (0 < b.length) = true := by have := h.lo; exact decide_eq_true (by omega)
  clear h
  go_enter Try.func71, Try.ntmps71
  go_wp2
  go_ret
  exact ⟨rfl, rfl⟩
set_option maxRecDepth 100000 in
theorem made_nil (w : World) : Calls Try.prog 71 #[.pointer none] w fun e w' => e = .returned (.bool false) ∧ w = w' := by
  go_enter Try.func71, Try.ntmps71
  go_wp2
  go_ret
  exact ⟨rfl, rfl⟩
set_option maxRecDepth 100000 in
theorem low_any (h : Ar w p g c b) : Calls Try.prog 91 #[.pointer (some ⟨p, 0, none⟩)] w fun e w' => e = .returned (.int .i64 (numL b 2 : Int)) ∧ w = w' := by
  have m := Lib.hid (number_any h 2 (by have := h.lo; omega))
  clear h
  go_enter Try.func91, Try.ntmps91
  go_wp2_with fail
  refine m.out.mono ?_
  rintro e w' ⟨rfl, rfl⟩
  go_wp2_with fail
  go_ret
  exact ⟨rfl, rfl⟩
set_option maxRecDepth 100000 in
theorem len_any (h : Ar w p g c b) : Calls Try.prog 56 #[.pointer (some ⟨p, 0, none⟩)] w fun e w' => e = .returned (.int .i64 (numL b 0 : Int)) ∧ w = w' := by
  have m := Lib.hid (number_any h 0 (by have := h.lo; omega))
  have d := Lib.hid (made_any h)
  clear h
  go_enter Try.func56, Try.ntmps56
  go_wp2_with fail
  refine d.out.mono ?_
  rintro e w' ⟨rfl, rfl⟩
  go_wp2_with fail
  refine m.out.mono ?_
  rintro e w' ⟨rfl, rfl⟩
  go_wp2_with fail
  go_ret
  exact ⟨rfl, rfl⟩
set_option maxRecDepth 100000 in
theorem end_any (h : Ar w p g c b) : Calls Try.prog 76 #[.pointer (some ⟨p, 0, none⟩)] w fun e w' => e = .returned (.int .i64 ((4 + 4 * numL b 0 : Nat) : Int)) ∧ w = w' := by
  have m := Lib.hid (len_any h)
  have hb := num_lt b 0
  have d := Lib.hid (place_any (numL b 0) w (by omega))
  clear h hb
  generalize numL b 0 = n at *
  go_enter Try.func76, Try.ntmps76
  go_wp2_with fail
  refine m.out.mono ?_
  rintro e w' ⟨rfl, rfl⟩
  go_wp2_with fail
  refine d.out.mono ?_
  rintro e w' ⟨rfl, rfl⟩
  go_wp2_with fail
  go_ret
  exact ⟨rfl, rfl⟩
set_option maxRecDepth 100000 in
theorem gap_any (h : Ar w p g c b) : Calls Try.prog 73 #[.pointer (some ⟨p, 0, none⟩)] w fun e w' => e = .returned (.int .i64 ((numL b 2 : Int) - ((4 + 4 * numL b 0 : Nat) : Int))) ∧ w = w' := by
  have m := Lib.hid (made_any h)
  have l := Lib.hid (low_any h)
  have d := Lib.hid (end_any h)
  have h1 := num_lt b 0
  have h2 := num_lt b 2
  clear h
  generalize numL b 2 = k at *
  obtain ⟨n, hn⟩ : ∃ n, n = 4 + 4 * numL b 0 := ⟨_, rfl⟩
  rw [← hn] at d ⊢
  have h3 : n ≤ 1000000 := by omega
  clear hn h1
  go_enter Try.func73, Try.ntmps73
  go_wp2_with fail
  refine m.out.mono ?_
  rintro e w' ⟨rfl, rfl⟩
  go_wp2_with fail
  refine l.out.mono ?_
  rintro e w' ⟨rfl, rfl⟩
  go_wp2_with fail
  refine d.out.mono ?_
  rintro e w' ⟨rfl, rfl⟩
  go_wp2_with fail
  go_ret
  exact ⟨rfl, rfl⟩
set_option maxRecDepth 100000 in
theorem bytes_any (h : Ar w p g c b) : Calls Try.prog 45 #[.pointer (some ⟨p, 0, none⟩)] w fun e w' => e = .returned (.string (strB b)) ∧ w = w' := by
  have m := Lib.hid (made_any h)
  have c0 := h.cell0
  have cv := h.row.str (c := c) (k := 0) (m := b.length) (by omega) (by omega) h.cap
  rw [Nat.sub_zero, List.drop_zero, List.take_length, Nat.sub_zero, show base g 0 c = some ⟨g, 0, none⟩ by unfold base; split <;> rfl] at cv
  clear h
  go_enter Try.func45, Try.ntmps45
  go_wp2_with fail
  refine m.out.mono ?_
  rintro e w' ⟨rfl, rfl⟩
  go_wp2_with fail
  go_ret
  exact ⟨rfl, rfl⟩
/-- is there such a text? -/
def hasE (b : List UInt8) (i : Int) : Int := if 0 ≤ i ∧ i < numL b 0 then 0 else 3
set_option maxRecDepth 100000 in
theorem has_any (h : Ar w p g c b) (i : Int) : Calls Try.prog 86 #[.pointer (some ⟨p, 0, none⟩), .int .i64 i] w fun e w' => e = .returned (.int .i64 (hasE b i)) ∧ w = w' := by
  have m := Lib.hid (made_any h)
  have l := Lib.hid (len_any h)
  clear h
  unfold hasE
  generalize numL b 0 = n at *
  by_cases h0 : i < 0
  · rw [if_neg (by omega)]
    have e0 : decide (i < 0) = true := decide_eq_true h0
    clear h0
    go_enter Try.func86, Try.ntmps86
    go_wp2_with fail
    refine m.out.mono ?_
    rintro e w' ⟨rfl, rfl⟩
    go_wp2_with fail
    go_ret
    exact ⟨rfl, rfl⟩
  · have e0 : decide (i < 0) = false := decide_eq_false h0
    by_cases h1 : i < n
    · rw [if_pos (by omega)]
      have e1 : decide ((n : Int) ≤ i) = false := decide_eq_false (by omega)
      clear h0 h1
      go_enter Try.func86, Try.ntmps86
      go_wp2_with fail
      refine m.out.mono ?_
      rintro e w' ⟨rfl, rfl⟩
      go_wp2_with fail
      refine l.out.mono ?_
      rintro e w' ⟨rfl, rfl⟩
      go_wp2_with fail
      go_ret
      exact ⟨rfl, rfl⟩
    · rw [if_neg (by omega)]
      have e1 : decide ((n : Int) ≤ i) = true := decide_eq_true (by omega)
      clear h0 h1
      go_enter Try.func86, Try.ntmps86
      go_wp2_with fail
      refine m.out.mono ?_
      rintro e w' ⟨rfl, rfl⟩
      go_wp2_with fail
      refine l.out.mono ?_
      rintro e w' ⟨rfl, rfl⟩
      go_wp2_with fail
      go_ret
      exact ⟨rfl, rfl⟩
end

end Go.Proofs.Ytmandeohbiagfaa.Slot

namespace Go.Proofs.Ytmandeohbiagfaa.Slot
open Go.RowKit
attribute [local go_sem ↓] Go.wp_at_zero Go.wp_at_succ

/-- what the directory tells -/
def spotAt (b : List UInt8) (i : Nat) : Nat × Nat := (numL b (4 + 4 * i), numL b (6 + 4 * i))
def spotV (x : Nat × Nat) : Value := .agg #[.int .i64 (x.1 : Int), .int .i64 (x.2 : Int)]
theorem num_bd (b : List UInt8) (k : Nat) : (0 : Int) ≤ (numL b k : Int) ∧ (numL b k : Int) ≤ 65535 := by
  have := num_lt b k
  omega

section
variable {w : World} {p g c : Nat} {b : List UInt8}
set_option maxRecDepth 100000 in
set_option maxHeartbeats 1000000 in
theorem spot_any (h : Ar w p g c b) (i : Nat) (hi : 8 + 4 * i ≤ b.length) :
    Calls Try.prog 87 #[.pointer (some ⟨p, 0, none⟩), .int .i64 (i : Int)] w fun e w' => e = .returned (spotV (spotAt b i)) ∧ Below w.heap.size w w' := by
  have hhi := h.hi
  have ba := (Below.refl w.heap.size w).alloc (Nat.le_refl _) (.cells #[.int .i64 0, .int .i64 0] 99)
  have hA := h.later ba
  have pl := Lib.hid (place_any i (w.alloc (.cells #[.int .i64 0, .int .i64 0] 99)) (by omega))
  have n1 := Lib.hid (number_any hA (4 + 4 * i) (by omega))
  have n2 := number_any hA (6 + 4 * i) (by omega)
  rw [show ((6 + 4 * i : Nat) : Int) = ((4 + 4 * i : Nat) : Int) + 2 by omega] at n2
  have N2 := Lib.hid n2
  have b0 : (0 : Int) ≤ ((4 + 4 * i : Nat) : Int) := Int.natCast_nonneg _
  have b1 : ((4 + 4 * i : Nat) : Int) ≤ 5000 := by omega
  unfold spotV spotAt
  clear h hA hi n2 ba
  generalize ((4 + 4 * i : Nat) : Int) = k at *
  obtain ⟨x, hx⟩ : ∃ x, x = numL b (4 + 4 * i) := ⟨_, rfl⟩
  obtain ⟨y, hy⟩ : ∃ y, y = numL b (6 + 4 * i) := ⟨_, rfl⟩
  rw [← hx] at n1 ⊢
  rw [← hy] at N2 ⊢
  clear hx hy
  go_enter Try.func87, Try.ntmps87
  go_wp2_with fail
  refine pl.out.mono ?_
  rintro e w' ⟨rfl, rfl⟩
  go_wp2_with fail
  refine n1.out.mono ?_
  rintro e w' ⟨rfl, rfl⟩
  go_wp2_with fail
  refine N2.out.mono ?_
  rintro e w' ⟨rfl, rfl⟩
  go_wp2_with fail
  exact bodyPost_ret (v := .agg #[.int .i64 (x : Int), .int .i64 (y : Int)]) (by simp [results, Try.results87, go_sem]) rfl ⟨rfl, by
    exact (Below.refl _ _).alloc (Nat.le_refl _) _⟩

set_option maxRecDepth 100000 in
theorem spot_end (x y : Nat) (w : World) (hx : x ≤ 1000000) (hy : y ≤ 1000000) : Calls Try.prog 88 #[.agg #[.int .i64 (x : Int), .int .i64 (y : Int)]] w fun e w' => e = .returned (.int .i64 ((x + y : Nat) : Int)) ∧ Below w.heap.size w w' := by
  go_enter Try.func88, Try.ntmps88
  go_wp2
  go_ret
  exact ⟨ret_int (by omega), (Below.refl _ _).alloc (Nat.le_refl _) _⟩

/-- what 'point' leaves -/
def pointL (b : List UInt8) (i : Nat) (x : Nat × Nat) : List UInt8 := putL (putL b (4 + 4 * i) (two x.1)) (6 + 4 * i) (two x.2)
theorem pointL_len {b : List UInt8} {i : Nat} {x : Nat × Nat} (hi : 8 + 4 * i ≤ b.length) : (pointL b i x).length = b.length := by
  unfold pointL
  have h1 : (putL b (4 + 4 * i) (two x.1)).length = b.length := putL_len (by rw [two_len]; omega)
  rw [putL_len (by rw [two_len, h1]; omega), h1]
set_option maxRecDepth 100000 in
set_option maxHeartbeats 1000000 in
theorem point_any (h : Ar w p g c b) (i : Nat) (hi : 8 + 4 * i ≤ b.length) (x y : Nat) (hx : x < 65536) (hy : y < 65536) :
    Calls Try.prog 77 #[.pointer (some ⟨p, 0, none⟩), .int .i64 (i : Int), .agg #[.int .i64 (x : Int), .int .i64 (y : Int)]] w fun e w' => e = .returned (.tuple #[]) ∧ (Ar w' p g c (pointL b i (x, y)) ∧ Touch (both p g) w w') := by
  have hhi := h.hi
  have hlt := h.below
  have ba := (Below.refl w.heap.size w).alloc (Nat.le_refl _) (.cells #[.int .i64 (x : Int), .int .i64 (y : Int)] 99)
  obtain ⟨W, hW⟩ : ∃ W, W = w.alloc (.cells #[.int .i64 (x : Int), .int .i64 (y : Int)] 99) := ⟨_, rfl⟩
  have g0 : W.cell? ⟨w.heap.size, 0, none⟩ = some (.int .i64 (x : Int)) := by rw [hW, cell_of_row _ _ _ _ _ _ (heap_alloc_new w _)]; rfl
  have g1 : W.cell? ⟨w.heap.size, 1, none⟩ = some (.int .i64 (y : Int)) := by rw [hW, cell_of_row _ _ _ _ _ _ (heap_alloc_new w _)]; rfl
  have hsz : w.heap.size < W.heap.size := by rw [hW]; simp
  rw [← hW] at ba
  have hA := h.later ba
  have pl := Lib.hid (place_any i W (by omega))
  have l1 := Lib.hid (lay_any hA (4 + 4 * i) x (by omega) hx)
  have hne : ¬ both p g w.heap.size := fun hh => by have := hlt _ hh; omega
  have BA := Lib.hid ba
  have e6 : ((6 + 4 * i : Nat) : Int) = ((4 + 4 * i : Nat) : Int) + 2 := by omega
  have b0 : (0 : Int) ≤ ((4 + 4 * i : Nat) : Int) := Int.natCast_nonneg _
  have b1 : ((4 + 4 * i : Nat) : Int) ≤ 5000 := by omega
  have l2 : ∀ W', Ar W' p g c (putL b (4 + 4 * i) (two x)) → Calls Try.prog 70 #[.pointer (some ⟨p, 0, none⟩), .int .i64 (((4 + 4 * i : Nat) : Int) + 2), .int .i64 (y : Int)] W' fun e w' => e = .returned (.tuple #[]) ∧ (Ar w' p g c (pointL b i (x, y)) ∧ Touch (both p g) W' w') := fun W' hh => by
    have := lay_any hh (6 + 4 * i) y (by rw [putL_len (by rw [two_len]; omega)]; omega) hy
    rw [e6] at this
    exact this
  have L2 := Lib.hid l2
  clear h hA hlt l2 hi ba e6
  generalize ((4 + 4 * i : Nat) : Int) = k at *
  generalize pointL b i (x, y) = b2 at *
  generalize putL b (4 + 4 * i) (two x) = bb at *
  go_enter Try.func77, Try.ntmps77
  go_wp2_with (rw [← hW])
  clear hW
  refine pl.out.mono ?_
  rintro e w' ⟨rfl, rfl⟩
  go_wp2_with fail
  refine l1.out.mono ?_
  rintro e w1 ⟨rfl, h1⟩
  have g2 : w1.cell? ⟨w.heap.size, 1, none⟩ = some (.int .i64 (y : Int)) := (World.cell?_of_block (h1.2.block _ hsz hne)).trans g1
  have L3 := Lib.hid (L2.out _ h1.1)
  have T := Lib.hid h1.2
  clear h1 L2 g0 g1 l1 pl
  go_wp2_with fail
  refine L3.out.mono ?_
  rintro e w2 ⟨rfl, h2⟩
  have HE := Lib.hid (show Ar w2 p g c b2 ∧ Touch (both p g) w w2 from ⟨h2.1, (Touch.ofNew BA.out).trans' (T.out.trans' h2.2)⟩)
  clear h2 L3 T
  go_wp2_with fail
  go_end0
  exact ⟨rfl, HE.out⟩

/-- what 'stand' leaves -/
def standL (b : List UInt8) (t : List UInt8) : List UInt8 := putL (putL b (numL b 2 - t.length) t) 2 (two (numL b 2 - t.length))
end

end Go.Proofs.Ytmandeohbiagfaa.Slot

namespace Go.Proofs.Ytmandeohbiagfaa.Slot
open Go.RowKit
attribute [local go_sem ↓] Go.wp_at_zero Go.wp_at_succ

section
variable {w : World} {p g c : Nat} {b : List UInt8}
set_option maxRecDepth 100000 in
set_option maxHeartbeats 2000000 in
theorem stand_any (h : Ar w p g c b) (t : ByteArray) (ht : t.size ≤ numL b 2) (hlow : numL b 2 ≤ b.length) :
    Calls Try.prog 78 #[.pointer (some ⟨p, 0, none⟩), .string t] w fun e w' => e = .returned (spotV (numL b 2 - t.size, t.size)) ∧ (Ar w' p g c (standL b t.data.toList) ∧ Touch (both p g) w w') := by
  have hhi := h.hi
  have hlo := h.lo
  have hcap := h.cap
  have hlt := h.below
  have ht0 : t.data.toList.length = t.size := rfl
  have lw := fun W (tt : Below w.heap.size w W) => low_any (h.later tt)
  have LW := Lib.hid lw
  have HA := Lib.hid h
  have sl := fun W => slice_from W (g := g) (n := b.length) (c := c) (k := numL b 2 - t.size) (by omega)
  have hk : numL b 2 - t.size + t.size ≤ b.length := by omega
  have hput : (putL b (numL b 2 - t.size) t.data.toList).length = b.length := putL_len (by omega)
  have hsl : standL b t.data.toList = putL (putL b (numL b 2 - t.size) t.data.toList) 2 (two (numL b 2 - t.size)) := rfl
  have ly := fun W (hh : Ar W p g c (putL b (numL b 2 - t.size) t.data.toList)) => lay_any hh 2 (numL b 2 - t.size) (by omega) (by omega)
  rw [← hsl] at ly
  have LY := Lib.hid ly
  unfold spotV
  have ei : (numL b 2 : Int) - (t.size : Int) = ((numL b 2 - t.size : Nat) : Int) := by omega
  have cpy : ∀ W, Ar W p g c b → ∀ (ops : Array Oper) (rest : List Oper) (o : Oper) (a : Act) (Q : Exit → Act → World → Prop), True := fun _ _ _ _ _ _ _ => trivial
  clear lw ly h ht hsl cpy hput
  obtain ⟨low, hlw⟩ : ∃ low, low = numL b 2 := ⟨_, rfl⟩
  rw [← hlw] at LW sl hk LY hlow ei ⊢
  have hl1 : (low : Int) ≤ 4096 := by omega
  have hl0 : (0 : Int) ≤ (low : Int) := Int.natCast_nonneg _
  have ht1 : (t.size : Int) ≤ (low : Int) := by
    by_cases h : t.size ≤ low
    · omega
    · omega
  have ht2 : (0 : Int) ≤ (t.size : Int) := Int.natCast_nonneg _
  obtain ⟨at_, hat⟩ : ∃ a, a = low - t.size := ⟨_, rfl⟩
  rw [← hat] at sl hk LY ei ⊢
  have EI := Lib.hid ei
  have ha0 : (0 : Int) ≤ (at_ : Int) := Int.natCast_nonneg _
  have ha1 : (at_ : Int) ≤ (b.length : Int) := by omega
  obtain ⟨W2, hW2⟩ : ∃ W2, W2 = (w.alloc (.cells #[.int .i64 0, .int .i64 0] 99)).alloc (.cells #[.int .i64 (at_ : Int), .int .i64 (t.size : Int)] 99) := ⟨_, rfl⟩
  have b1 : Below w.heap.size w (w.alloc (.cells #[.int .i64 0, .int .i64 0] 99)) := (Below.refl _ _).alloc (Nat.le_refl _) _
  have b2 : Below w.heap.size w W2 := by rw [hW2]; exact b1.alloc (by simp) _
  have s1 : (w.alloc (.cells #[.int .i64 0, .int .i64 0] 99)).heap.size = w.heap.size + 1 := by simp
  have s2 : W2.heap.size = w.heap.size + 2 := by rw [hW2]; simp
  have g0 : W2.cell? ⟨w.heap.size + 1, 0, none⟩ = some (.int .i64 (at_ : Int)) := by rw [hW2, cell_of_row _ _ _ _ _ _ (by rw [← s1]; exact heap_alloc_new _ _)]; rfl
  have g1 : W2.cell? ⟨w.heap.size + 1, 1, none⟩ = some (.int .i64 (t.size : Int)) := by rw [hW2, cell_of_row _ _ _ _ _ _ (by rw [← s1]; exact heap_alloc_new _ _)]; rfl
  have A2 := HA.out.later b2
  have c0 := A2.cell0
  have hs2 : w.heap.size + 1 < W2.heap.size := by omega
  have hne : ¬ both p g (w.heap.size + 1) := fun hh => by have := hlt _ hh; omega
  have hne0 : ¬ both p g w.heap.size := fun hh => by have := hlt _ hh; omega
  have HA2 := Lib.hid A2
  have HW2 := Lib.hid hW2
  have B2 := Lib.hid b2
  have r0 : W2.heap[w.heap.size]? = some (.cells #[.int .i64 0, .int .i64 0] 99 (0, 0)) := by rw [hW2, Below.heap_alloc _ _ _ (by simp)]; exact heap_alloc_new _ _
  have r1 : W2.heap[w.heap.size + 1]? = some (.cells #[.int .i64 (at_ : Int), .int .i64 (t.size : Int)] 99 (0, 0)) := by rw [hW2, ← s1]; exact heap_alloc_new _ _
  clear hlw hat ei hW2 A2 b2 HA s1 s2
  go_enter Try.func78, Try.ntmps78
  go_wp2_with fail
  refine (LW.out _ b1).mono ?_
  rintro e w' ⟨rfl, rfl⟩
  clear LW b1
  go_wp2_with fail
  rw [EI.out, ← HW2.out]
  clear HW2 EI
  go_still_tail 8, (by kernel_rfl)
  refine wpList_copy_text (HA2.out.drew).row rfl _ _ rfl at_ t hk hcap rfl rfl ?_
  have p3 := (HA2.out.drew).put (k := at_) (t := t.data.toList) hk
  change wpList _ _ _ _ _ (W2.drew.setCells g at_ (Lib.byteCells t.data.toList))
  generalize W2.drew.setCells g at_ (Lib.byteCells t.data.toList) = W3 at *
  have q0 : W3.heap[w.heap.size]? = some (.cells #[.int .i64 0, .int .i64 0] 99 (0, 0)) := (p3.2.block _ (by show _ < W2.heap.size; omega) hne0).trans r0
  have q1 : W3.heap[w.heap.size + 1]? = some (.cells #[.int .i64 (at_ : Int), .int .i64 (t.size : Int)] 99 (0, 0)) := (p3.2.block _ (by show _ < W2.heap.size; omega) hne).trans r1
  have k0 : W3.cell? ⟨w.heap.size + 1, 0, none⟩ = some (.int .i64 (at_ : Int)) := by rw [cell_of_row _ _ _ _ _ _ q1]; rfl
  have c3 := Lib.hid (LY.out W3 p3.1)
  have T3 := Lib.hid ((Touch.ofNew B2.out : Touch (both p g) w W2).drew.trans' p3.2)
  have R0 := Lib.hid q0
  have R1 := Lib.hid q1
  have hs3 : w.heap.size + 1 < W3.heap.size := (Array.getElem?_eq_some_iff.1 q1).1
  clear p3 q0 q1 r0 r1 g0 g1 c0 HA2 LY B2 sl
  go_wp2_with fail
  refine c3.out.mono ?_
  rintro e W4 ⟨rfl, h4⟩
  have q0 := (h4.2.block _ (by omega) hne0).trans R0.out
  have q1 := (h4.2.block _ (by omega) hne).trans R1.out
  have k0 : W4.cell? ⟨w.heap.size + 1, 0, none⟩ = some (.int .i64 (at_ : Int)) := by rw [cell_of_row _ _ _ _ _ _ q1]; rfl
  have k1 : W4.cell? ⟨w.heap.size + 1, 1, none⟩ = some (.int .i64 (t.size : Int)) := by rw [cell_of_row _ _ _ _ _ _ q1]; rfl
  have z0 : W4.cell? ⟨w.heap.size, 0, none⟩ = some (.int .i64 0) := by rw [cell_of_row _ _ _ _ _ _ q0]; rfl
  have z1 : W4.cell? ⟨w.heap.size, 1, none⟩ = some (.int .i64 0) := by rw [cell_of_row _ _ _ _ _ _ q0]; rfl
  have f0 := frozen_of_row W4 w.heap.size 0 _ _ q0
  have f1 := frozen_of_row W4 w.heap.size 1 _ _ q0
  have H4 := Lib.hid h4
  have hs4 : w.heap.size < W4.heap.size := (Array.getElem?_eq_some_iff.1 q0).1
  clear c3 R0 R1 h4 q0 q1 hs3 hs2
  go_wp2_with fail
  refine bodyPost_ret (v := .agg #[.int .i64 (at_ : Int), .int .i64 (t.size : Int)]) ?_ rfl ⟨rfl, ?_⟩
  · simp [results, Try.results78, go_sem, z0, z1]
  · refine ⟨(H4.out.1.setNew hne0 _).setNew hne0 _, ((T3.out.trans' H4.out.2).setNew (Nat.le_refl _) _).setNew (Nat.le_refl _) _⟩
end

end Go.Proofs.Ytmandeohbiagfaa.Slot

namespace Go.Proofs.Ytmandeohbiagfaa.Slot
open Go.RowKit
attribute [local go_sem ↓] Go.wp_at_zero Go.wp_at_succ

/-- what the region of Get reads -/
def GetS (p g c n len : Nat) (x y : Nat) (s : ByteArray) (w : World) : Prop := w.cell? ⟨p, 0, none⟩ = some (.slice (some ⟨g, 0, none⟩) len c) ∧ w.cell? ⟨n, 0, none⟩ = some (.int .i64 (x : Int)) ∧ w.cell? ⟨n, 1, none⟩ = some (.int .i64 (y : Int)) ∧
  (convert 45 9 (.slice (base g x c) y (c - x))).run Try.prog w = .ok (.string s) w
structure GetH (p g c n : Nat) (b : List UInt8) (x y : Nat) (s : ByteArray) (w : World) : Prop where
  ar : Ar w p g c b
  row : w.heap[n]? = some (.cells #[.int .i64 (x : Int), .int .i64 (y : Int)] 99 (0, 0))
  fit : x + y ≤ b.length
  str : s = strB ((b.drop x).take y)
theorem GetH.gives {p g c n : Nat} {b : List UInt8} {x y : Nat} {s : ByteArray} {w : World} (h : GetH p g c n b x y s w) : GetS p g c n b.length x y s w := by
  have h1 := h.ar.row.str (c := c) (k := x) (m := x + y) (by omega) h.fit h.ar.cap
  rw [Nat.add_sub_cancel_left, ← h.str] at h1
  exact ⟨h.ar.cell0, by rw [cell_of_row _ _ _ _ _ _ h.row]; rfl, by rw [cell_of_row _ _ _ _ _ _ h.row]; rfl, h1⟩
theorem GetH.later {p g c n : Nat} {b : List UInt8} {x y : Nat} {s : ByteArray} {w w' : World} (h : GetH p g c n b x y s w) (t : Below w.heap.size w w') : GetH p g c n b x y s w' :=
  ⟨h.ar.later t, (t.block n (Array.getElem?_eq_some_iff.1 h.row).1).trans h.row, h.fit, h.str⟩

section
variable {w : World} {p g c : Nat} {b : List UInt8}
set_option maxRecDepth 100000 in
theorem get_no (h : Ar w p g c b) (i : Int) (hi : hasE b i = 3) :
    Calls Try.prog 57 #[.pointer (some ⟨p, 0, none⟩), .int .i64 i] w fun e w' => e = .returned (.tuple #[.string ⟨#[]⟩, .int .i64 3]) ∧ w = w' := by
  have m := has_any h i
  rw [hi] at m
  clear h hi
  go_enter Try.func57, Try.ntmps57
  go_wp2_with fail
  refine m.mono ?_
  rintro e w' ⟨rfl, rfl⟩
  clear m
  go_wp2_with fail
  go_ret2
  exact ⟨rfl, rfl⟩
set_option maxRecDepth 100000 in
theorem get_nil (w : World) (i : Int) : Calls Try.prog 57 #[.pointer none, .int .i64 i] w fun e w' => e = .returned (.tuple #[.string ⟨#[]⟩, .int .i64 1]) ∧ w = w' := by
  have m : Calls Try.prog 86 #[.pointer none, .int .i64 i] w fun e w' => e = .returned (.int .i64 1) ∧ w = w' := by
    have m := made_nil w
    go_enter Try.func86, Try.ntmps86
    go_wp2_with fail
    refine m.mono ?_
    rintro e w' ⟨rfl, rfl⟩
    clear m
    go_wp2_with fail
    go_ret
    exact ⟨rfl, rfl⟩
  go_enter Try.func57, Try.ntmps57
  go_wp2_with fail
  refine m.mono ?_
  rintro e w' ⟨rfl, rfl⟩
  clear m
  go_wp2_with fail
  go_ret2
  exact ⟨rfl, rfl⟩
set_option maxRecDepth 100000 in
set_option maxHeartbeats 2000000 in
theorem get_yes (h : Ar w p g c b) (i : Nat) (hi : i < numL b 0) (hf : 4 + 4 * numL b 0 ≤ b.length) (hx : numL b (4 + 4 * i) + numL b (6 + 4 * i) ≤ b.length) :
    Calls Try.prog 57 #[.pointer (some ⟨p, 0, none⟩), .int .i64 (i : Int)] w fun e w' => e = .returned (.tuple #[.string (strB (txt b (spotAt b i))), .int .i64 0]) ∧ Below w.heap.size w w' := by
  have m := has_any h (i : Int)
  have hhi := h.hi
  have hcap := h.cap
  rw [show hasE b (i : Int) = 0 from if_pos (by omega)] at m
  have sp := Lib.hid (spot_any h i (by omega))
  have HA := Lib.hid h
  unfold txt
  unfold spotAt spotV at *
  obtain ⟨x, ex⟩ : ∃ x, x = numL b (4 + 4 * i) := ⟨_, rfl⟩
  obtain ⟨y, ey⟩ : ∃ y, y = numL b (6 + 4 * i) := ⟨_, rfl⟩
  rw [← ex, ← ey] at sp hx ⊢
  simp only at sp ⊢
  obtain ⟨s, hs⟩ : ∃ s, s = strB ((b.drop x).take y) := ⟨_, rfl⟩
  rw [← hs]
  have HS := Lib.hid hs
  have sl := fun W => slice_part W (g := g) (n := b.length) (c := c) (k := x) (m := x + y) (by omega) (by omega)
  rw [Nat.add_sub_cancel_left] at sl
  have se := fun W => spot_end x y W (by omega) (by omega)
  have SE := Lib.hid se
  clear h hi hf ex ey hs se
  go_enter Try.func57, Try.ntmps57
  go_wp2_with fail
  refine m.mono ?_
  rintro e w' ⟨rfl, rfl⟩
  clear m
  go_wp2_with fail
  refine sp.out.mono ?_
  rintro e w1 ⟨rfl, b1⟩
  clear sp
  have b2 : Below w.heap.size w (w1.alloc (.cells #[.int .i64 (x : Int), .int .i64 (y : Int)] 99)) := b1.alloc b1.size _
  have GH : GetH p g c w1.heap.size b x y s (w1.alloc (.cells #[.int .i64 (x : Int), .int .i64 (y : Int)] 99)) := ⟨(HA.out.later b2), heap_alloc_new _ _, hx, HS.out⟩
  have hn : w1.heap.size < (w1.alloc (.cells #[.int .i64 (x : Int), .int .i64 (y : Int)] 99)).heap.size := by simp
  go_wp2_with fail
  have B2 := Lib.hid b2
  have G := Lib.hid GH
  clear b1 b2 GH HA HS
  generalize w1.alloc (.cells #[.int .i64 (x : Int), .int .i64 (y : Int)] 99) = W at *
  generalize w1.heap.size = n at *
  obtain ⟨B, hB⟩ : ∃ B, B = base g x c := ⟨_, rfl⟩
  obtain ⟨z, hz⟩ : ∃ z : Int, z = ((x + y : Nat) : Int) := ⟨_, rfl⟩
  have HB := Lib.hid hB
  rw [← hB] at sl
  rw [← hz] at sl
  have sE : ∀ W, Calls Try.prog 88 #[.agg #[.int .i64 (x : Int), .int .i64 (y : Int)]] W fun e w' => e = .returned (.int .i64 z) ∧ Below W.heap.size W w' := fun W => by rw [hz]; exact SE.out W
  have SE2 := Lib.hid sE
  clear hB hz sE SE
  go_region_held3 (fun w' => w'.cell? ⟨p, 0, none⟩ = some (.slice (some ⟨g, 0, none⟩) b.length c) ∧ w'.cell? ⟨n, 0, none⟩ = some (.int .i64 (x : Int)) ∧ w'.cell? ⟨n, 1, none⟩ = some (.int .i64 (y : Int)) ∧ (convert 45 9 (.slice B y (c - x))).run Try.prog w' = .ok (.string s) w')
    (first | (rw [HB.out]; exact (G.out.later ((Below.refl _ _).drew)).gives) | (rw [HB.out]; exact ((G.out.later ((Below.refl _ _).drew)).later hb).gives))
    (first | (go_at_call 88; refine Calls.mono (SE2.out _) ?_; rintro e w' ⟨rfl, hb⟩))
  have HE := Lib.hid ((B2.out.drew).trans (hb.mono B2.out.size))
  clear hb
  go_wp2_with fail
  go_ret2
  exact ⟨rfl, HE.out⟩

/-- the sizes of the first k texts -/
def sizes (b : List UInt8) (k : Nat) : Nat := ((List.range k).map fun i => numL b (6 + 4 * i)).sum
theorem sizes_succ (b : List UInt8) (k : Nat) : sizes b (k + 1) = sizes b k + numL b (6 + 4 * k) := by simp [sizes, List.range_succ]
theorem sizes_le (b : List UInt8) (k : Nat) : sizes b k ≤ 65535 * k := by
  induction k with
  | zero => simp [sizes]
  | succ k ih => rw [sizes_succ]; have := num_lt b (6 + 4 * k); omega
set_option maxRecDepth 100000 in
set_option maxHeartbeats 2000000 in
theorem free_any (h : Ar w p g c b) (hf : 4 + 4 * numL b 0 ≤ b.length) :
    Calls Try.prog 72 #[.pointer (some ⟨p, 0, none⟩)] w fun e w' => e = .returned (.int .i64 ((b.length : Int) - ((4 + 4 * numL b 0 : Nat) : Int) - (sizes b (numL b 0) : Int))) ∧ Below w.heap.size w w' := by
  have m := Lib.hid (made_any h)
  have hhi := h.hi
  have c0 := h.cell0
  have en := Lib.hid (fun W (t : Below w.heap.size w W) => end_any (h.later t))
  have ln := Lib.hid (fun W (t : Below w.heap.size w W) => len_any (h.later t))
  have sp := Lib.hid (fun W (t : Below w.heap.size w W) (i : Nat) (hi : 8 + 4 * i ≤ b.length) => spot_any (h.later t) i hi)
  obtain ⟨n, hn⟩ : ∃ n, n = numL b 0 := ⟨_, rfl⟩
  rw [← hn] at en ln hf ⊢
  obtain ⟨f, hfn⟩ : ∃ f, f = 4 + 4 * n := ⟨_, rfl⟩
  have hf1 : (f : Int) ≤ (b.length : Int) := by omega
  rw [← hfn] at en ⊢
  have hn1 : n ≤ 1100 := by omega
  have hfn2 : f ≤ 4 + 4 * n ∧ 4 + 4 * n ≤ f := by omega
  have hb0 : (b.length : Int) ≤ 4096 := by omega
  have hf0 : (0 : Int) ≤ (f : Int) := Int.natCast_nonneg _
  have hl0 : (0 : Int) ≤ (b.length : Int) := Int.natCast_nonneg _
  clear h hn hfn
  go_enter Try.func72, Try.ntmps72
  go_wp2_with fail
  refine m.out.mono ?_
  rintro e w' ⟨rfl, rfl⟩
  go_wp2_with fail
  go_quiet ((go_at_call 76; first | exact quiet_same (en.out _ (below_drewN (Below.refl _ _) _)) | exact quiet_same0 (en.out _ (Below.refl _ _))))
  have bq : Below w.heap.size w (w.drewN nq) := below_drewN (Below.refl _ _) _
  go_wp2_with fail
  refine (ln.out _ bq).mono ?_
  rintro e w' ⟨rfl, rfl⟩
  go_wp2_with fail
  have BQ := Lib.hid bq
  clear bq
  go_loopw [3, 18] (fun v i wr => ∃ k : Nat, k ≤ n ∧ i = .int .i64 k ∧ v = .int .i64 ((b.length : Int) - (f : Int) - (sizes b k : Int)) ∧ Below w.heap.size w wr) (fun _ i _ => n - (intOf i).toNat)
  case atStart => exact ⟨0, by omega, by go_num, by simp [sizes], BQ.out⟩
  case round =>
    obtain ⟨k, hk, rfl, rfl, hb⟩ := hrel
    clear BQ
    have hz := sizes_le b k
    have hz2 := num_lt b (6 + 4 * k)
    have hz3 := sizes_succ b k
    by_cases hlt : k < n
    · have sk := Lib.hid (sp.out _ hb k (by omega))
      unfold spotV spotAt at sk
      simp only at sk
      have HS := Lib.hid hz3
      have HB := Lib.hid hb
      obtain ⟨z, ez⟩ : ∃ z, z = sizes b k := ⟨_, rfl⟩
      rw [← ez] at HS hz ⊢
      obtain ⟨y, ey⟩ : ∃ y, y = numL b (6 + 4 * k) := ⟨_, rfl⟩
      rw [← ey] at HS hz2 sk
      clear hz3 ez ey hb
      have q0 : (0 : Int) ≤ (z : Int) := Int.natCast_nonneg _
      have q1 : (z : Int) ≤ 100000000 := by omega
      have q2 : (0 : Int) ≤ (y : Int) := Int.natCast_nonneg _
      have q3 : (y : Int) ≤ 65535 := by omega
      have hfd : ∀ (u v : Value) (W : World), (Instr.field 99 (.agg #[u, v]) 1).run Try.prog W = .ok v W := fun u v W => by kernel_rfl
      go_wp2_with fail
      refine sk.out.mono ?_
      rintro e w' ⟨rfl, hb2⟩
      have HB2 := Lib.hid (HB.out.trans (hb2.mono HB.out.size))
      clear hb2 sk HB
      go_wp2_with fail
      go_roundw
      case rel => exact ⟨k + 1, by omega, by go_num, by rw [HS.out]; congr 1; omega, HB2.out⟩
      case measure => simp [intOf]; omega
    · obtain rfl : k = n := by omega
      have HB := Lib.hid hb
      clear hb hz hz2 hz3
      go_wp2_with fail
      go_ret
      exact ⟨rfl, HB.out⟩
end

end Go.Proofs.Ytmandeohbiagfaa.Slot

namespace Go.Proofs.Ytmandeohbiagfaa
variable {P : Program} {ops : Array Oper} {w : World} {Q : Act → Prop}

theorem still_of_quiet_op {o : Oper} {a : Act} {K : Act → Prop} (h : o.quiet P a (fun w' => w' = w) K) : o.still P a w K := by
  obtain ⟨v, hv, hk⟩ := h
  have h := hv w rfl
  unfold Oper.quietAt at h
  unfold Oper.still
  generalize (execOp a.eval o).run P w = r at *
  cases r with
  | ok n w' =>
    cases n <;> simp only [Oper.quietUpon] at h <;> simp only [Oper.stillUpon]
    case value u => exact ⟨h.1, by rw [h.2]; exact hk⟩
    case skip => exact ⟨h.1, by rw [← h.2]; exact hk⟩
    case enter f args => exact ⟨h.1, v, h.2, hk⟩
  | _ => simp only [Oper.quietUpon] at h
theorem still_of_quiet : ∀ (l : List Oper) (a : Act), wpQuiet P ops (fun w' => w' = w) Q l a → wpStill P ops w Q l a
  | [], _, h => h
  | o :: rest, a, h => by
    unfold wpQuiet at h
    unfold wpStill
    split
    · rename_i hw
      rw [if_pos hw] at h
      exact still_of_quiet_op (Oper.quiet_mono (fun a => still_of_quiet rest a) h)
    · rename_i hw
      rw [if_neg hw] at h
      exact still_of_quiet rest _ h

end Go.Proofs.Ytmandeohbiagfaa

namespace Go.Proofs.Ytmandeohbiagfaa.Slot
open Go.RowKit
attribute [local go_sem ↓] Go.wp_at_zero Go.wp_at_succ

/-- block p is an area: this one -/
structure Area (w : World) (p g c : Nat) (a : A) : Prop where
  img : ∃ b, Ar w p g c b ∧ Is b a
  ok : a.ok
theorem Area.touch {w w' : World} {p g c : Nat} {a : A} {G : Nat → Prop} (h : Area w p g c a) (t : Touch G w w') (hd : ∀ x, both p g x → ¬ G x) : Area w' p g c a := by
  obtain ⟨⟨b, h1, h2⟩, h3⟩ := h
  exact ⟨⟨b, h1.touch t hd, h2⟩, h3⟩
theorem Area.later {w w' : World} {p g c : Nat} {a : A} (h : Area w p g c a) (t : Below w.heap.size w w') : Area w' p g c a := by
  obtain ⟨⟨b, h1, h2⟩, h3⟩ := h
  exact ⟨⟨b, h1.later t, h2⟩, h3⟩
theorem Area.drew {w : World} {p g c : Nat} {a : A} (h : Area w p g c a) : Area w.drew p g c a := h.later ((Below.refl _ _).drew)
theorem Area.below {w : World} {p g c : Nat} {a : A} (h : Area w p g c a) : ∀ x, both p g x → x < w.heap.size := by
  obtain ⟨⟨b, h1, h2⟩, h3⟩ := h
  exact h1.below

theorem num_zero (n k : Nat) : numL (List.replicate n 0) k = 0 := by
  have e : ∀ j, (List.replicate n (0 : UInt8)).getD j 0 = 0 := fun j => by
    rw [List.getD_eq_getElem?_getD, List.getElem?_replicate]
    split <;> rfl
  unfold numL
  rw [e, e]; rfl
theorem is_new {n : Nat} (h1 : 16 ≤ n) (h2 : n ≤ 4096) : Is (putL (List.replicate n 0) 2 (two n)) (A.new n) := by
  have h0 : Is (List.replicate n 0) ⟨List.replicate n 0, 0, []⟩ := ⟨rfl, num_zero n 0, num_zero n 2, fun i hi => by simp at hi, fun _ _ => rfl⟩
  exact is_low h0 (by show 4 + 4 * 0 ≤ (List.replicate n (0 : UInt8)).length; simp; omega) (v := n) (by omega)
theorem row_made (w : World) (n : Nat) : Row (w.alloc (.cells (madeCells (Value.int .u8 0).cells n) 5)) w.heap.size (List.replicate n 0) := by
  refine ⟨madeCells (Value.int .u8 0).cells n, (0, 0), heap_alloc_new _ _, ?_, ?_, .inl rfl⟩
  · rw [List.length_replicate]
    unfold madeCells Lib.byteCells
    apply List.ext_getElem?
    intro j
    by_cases hj : j < n <;> simp [Value.cells, hj, Nat.mod_one]
  · rw [List.length_replicate, size_madeCells]
    simp

set_option maxRecDepth 100000 in
theorem new_no (n : Int) (w : World) (h : sizedB n = false) : Calls Try.prog 43 #[.int .i64 n] w fun e w' => e = .returned (.tuple #[.pointer none, .int .i64 2]) ∧ w = w' := by
  have m := sized_any n w
  rw [h] at m
  clear h
  go_enter Try.func43, Try.ntmps43
  go_wp2_with fail
  refine m.mono ?_
  rintro e w' ⟨rfl, rfl⟩
  clear m
  go_wp2_with fail
  go_ret2
  exact ⟨rfl, rfl⟩

/-- the new area's blocks -/
def newA (w w' : World) (n : Nat) : Prop := Area w' (w.heap.size + 1) w.heap.size n (A.new n) ∧ Below w.heap.size w w'
set_option maxRecDepth 100000 in
set_option maxHeartbeats 1000000 in
theorem new_any (n : Nat) (w : World) (h1 : 16 ≤ n) (h2 : n ≤ 4096) : Calls Try.prog 43 #[.int .i64 (n : Int)] w fun e w' => e = .returned (.tuple #[.pointer (some ⟨w.heap.size + 1, 0, none⟩), .int .i64 0]) ∧ newA w w' n := by
  have m := sized_any (n : Int) w
  rw [show sizedB (n : Int) = true from decide_eq_true ⟨by omega, by omega⟩] at m
  obtain ⟨i0, hi, hz0, hz1, hz2⟩ := info_parts Word.infoB
  obtain ⟨M, hM⟩ : ∃ M, M = madeCells (Value.int .u8 0).cells n := ⟨_, rfl⟩
  have hmk : ∀ W : World, (Instr.makeSlice 45 (.int .i64 (n : Int)) (.int .i64 (n : Int))).run Try.prog W = .ok (.slice (some ⟨W.heap.size, 0, none⟩) n n) (W.alloc (.cells M 5)) := fun W => by
    have h := run_make (P := Try.prog) W 45 5 i0 (.int .u8 0) Try.underlying45 hi hz0 .i64 .i64 (n : Int) (n : Int) (by omega) (by omega) (by rw [hz2]; omega) (by omega)
    simpa [hz1, ← hM] using h
  have b1 : Below w.heap.size w (w.alloc (.cells M 5)) := (Below.refl _ _).alloc (Nat.le_refl _) _
  obtain ⟨W1, hW1⟩ : ∃ W1, W1 = w.alloc (.cells M 5) := ⟨_, rfl⟩
  have hs1 : W1.heap.size = w.heap.size + 1 := by rw [hW1]; simp
  obtain ⟨W2, hW2⟩ : ∃ W2, W2 = W1.alloc (.cells #[.slice (some ⟨w.heap.size, 0, none⟩) n n] 94) := ⟨_, rfl⟩
  have hA : Ar W2 (w.heap.size + 1) w.heap.size n (List.replicate n 0) := by
    refine ⟨?_, ?_, ?_, ?_, ?_⟩
    · rw [hW2, ← hs1, List.length_replicate]; exact heap_alloc_new _ _
    · rw [hW2, hW1, hM]
      exact (row_made w n).far (Below.heap_alloc _ _ _ (by simp))
    · rw [List.length_replicate]; exact Nat.le_refl _
    · rw [List.length_replicate]; exact h1
    · rw [List.length_replicate]; exact h2
  rw [← hW1] at b1
  have b2 : Below w.heap.size w W2 := by rw [hW2]; exact b1.alloc (by omega) _
  have ly := lay_any hA 2 n (by rw [List.length_replicate]; omega) (by omega)
  have HE : ∀ w', Ar w' (w.heap.size + 1) w.heap.size n (putL (List.replicate n 0) 2 (two n)) → Touch (both (w.heap.size + 1) w.heap.size) W2 w' → newA w w' n := fun w' k1 k2 =>
    ⟨⟨⟨_, k1, is_new h1 h2⟩, new_ok h1 h2⟩, b2.trans (k2.below b2.size (by rintro x (rfl | rfl) <;> omega))⟩
  have HH := Lib.hid HE
  have HW1 := Lib.hid hW1
  have HW2 := Lib.hid hW2
  have HS1 := Lib.hid hs1
  have LY := Lib.hid ly
  clear hM hz0 hz1 hz2 hi hW1 hW2 hA b1 b2 HE hs1 ly i0
  go_enter Try.func43, Try.ntmps43
  go_wp2_with fail
  refine m.mono ?_
  rintro e w' ⟨rfl, rfl⟩
  clear m
  go_wp2_with (first | rw [← HW1.out] | rw [HS1.out] | rw [← HW2.out])
  refine LY.out.mono ?_
  rintro e w' ⟨rfl, k⟩
  have K := Lib.hid (HH.out _ k.1 k.2)
  clear k LY HH HW1 HW2 hmk
  go_wp2_with fail
  go_ret2
  exact ⟨rfl, K.out⟩

section
variable (w : World)
set_option maxRecDepth 100000 in
theorem has_nil (i : Int) : Calls Try.prog 86 #[.pointer none, .int .i64 i] w fun e w' => e = .returned (.int .i64 1) ∧ w = w' := by
  have m := made_nil w
  go_enter Try.func86, Try.ntmps86
  go_wp2_with fail
  refine m.mono ?_
  rintro e w' ⟨rfl, rfl⟩
  clear m
  go_wp2_with fail
  go_ret
  exact ⟨rfl, rfl⟩
set_option maxRecDepth 100000 in
theorem len_nil : Calls Try.prog 56 #[.pointer none] w fun e w' => e = .returned (.int .i64 0) ∧ w = w' := by
  have m := made_nil w
  go_enter Try.func56, Try.ntmps56
  go_wp2_with fail
  refine m.mono ?_
  rintro e w' ⟨rfl, rfl⟩
  clear m
  go_wp2_with fail
  go_ret
  exact ⟨rfl, rfl⟩
set_option maxRecDepth 100000 in
theorem bytes_nil : Calls Try.prog 45 #[.pointer none] w fun e w' => e = .returned (.string ⟨#[]⟩) ∧ w = w' := by
  have m := made_nil w
  go_enter Try.func45, Try.ntmps45
  go_wp2_with fail
  refine m.mono ?_
  rintro e w' ⟨rfl, rfl⟩
  clear m
  go_wp2_with fail
  go_ret
  exact ⟨rfl, rfl⟩
set_option maxRecDepth 100000 in
theorem gap_nil : Calls Try.prog 73 #[.pointer none] w fun e w' => e = .returned (.int .i64 0) ∧ w = w' := by
  have m := made_nil w
  go_enter Try.func73, Try.ntmps73
  go_wp2_with fail
  refine m.mono ?_
  rintro e w' ⟨rfl, rfl⟩
  clear m
  go_wp2_with fail
  go_ret
  exact ⟨rfl, rfl⟩
set_option maxRecDepth 100000 in
theorem free_nil : Calls Try.prog 72 #[.pointer none] w fun e w' => e = .returned (.int .i64 0) ∧ w = w' := by
  have m := made_nil w
  go_enter Try.func72, Try.ntmps72
  go_wp2_with fail
  refine m.mono ?_
  rintro e w' ⟨rfl, rfl⟩
  clear m
  go_wp2_with fail
  go_ret
  exact ⟨rfl, rfl⟩
def Compacted (w : World) (e : Ending) (w' : World) : Prop := e = .returned (.int .i64 0) ∧ Below w.heap.size w w'
set_option maxRecDepth 100000 in
theorem compact_nil : Calls Try.prog 74 #[.pointer none] w (Compacted w) := by
  have m := made_nil (w.alloc (.cells #[.pointer none] 77))
  go_enter Try.func74, Try.ntmps74
  go_wp2_with fail
  refine m.mono ?_
  rintro e w' ⟨rfl, rfl⟩
  clear m
  go_wp2_with fail
  go_ret
  exact ⟨rfl, (Below.refl _ _).alloc (Nat.le_refl _) _⟩
set_option maxRecDepth 100000 in
theorem put_nil (i : Int) (t : ByteArray) (ht : t.size ≤ 281474976710656) : Calls Try.prog 44 #[.pointer none, .int .i64 i, .string t] w fun e w' => e = .returned (.int .i64 1) ∧ w = w' := by
  have m := made_nil w
  go_enter Try.func44, Try.ntmps44
  go_wp2_with fail
  refine m.mono ?_
  rintro e w' ⟨rfl, rfl⟩
  clear m
  go_wp2_with fail
  go_ret
  exact ⟨rfl, rfl⟩
end

end Go.Proofs.Ytmandeohbiagfaa.Slot

namespace Go.Proofs.Ytmandeohbiagfaa.Slot
open Go.RowKit
attribute [local go_sem ↓] Go.wp_at_zero Go.wp_at_succ

theorem pointL_eq : pointL = pointB := rfl
theorem standL_eq : standL = standB := rfl
theorem spotAt_eq : spotAt = spotB := rfl

/-- what the region of a move reads -/
structure MvH (p q o n x y : Nat) (old : ByteArray) (w : World) : Prop where
  rq : w.heap[q]? = some (.cells #[.pointer (some ⟨p, 0, none⟩)] 77 (0, 0))
  ro : w.heap[o]? = some (.cells #[.string old] 9 (0, 0))
  rn : w.heap[n]? = some (.cells #[.int .i64 (x : Int), .int .i64 (y : Int)] 99 (0, 0))
def MvS (p q o n x y : Nat) (old : ByteArray) (w : World) : Prop := w.cell? ⟨q, 0, none⟩ = some (.pointer (some ⟨p, 0, none⟩)) ∧ w.cell? ⟨o, 0, none⟩ = some (.string old) ∧ w.cell? ⟨n, 0, none⟩ = some (.int .i64 (x : Int)) ∧ w.cell? ⟨n, 1, none⟩ = some (.int .i64 (y : Int))
theorem MvH.gives {p q o n x y : Nat} {old : ByteArray} {w : World} (h : MvH p q o n x y old w) : MvS p q o n x y old w :=
  ⟨by rw [cell_of_row _ _ _ _ _ _ h.rq]; rfl, by rw [cell_of_row _ _ _ _ _ _ h.ro]; rfl, by rw [cell_of_row _ _ _ _ _ _ h.rn]; rfl, by rw [cell_of_row _ _ _ _ _ _ h.rn]; rfl⟩
theorem MvH.later {p q o n x y : Nat} {old : ByteArray} {w w' : World} (h : MvH p q o n x y old w) (t : Below w.heap.size w w') : MvH p q o n x y old w' :=
  ⟨(t.block q (Array.getElem?_eq_some_iff.1 h.rq).1).trans h.rq, (t.block o (Array.getElem?_eq_some_iff.1 h.ro).1).trans h.ro, (t.block n (Array.getElem?_eq_some_iff.1 h.rn).1).trans h.rn⟩
theorem MvH.touch {p q o n x y : Nat} {old : ByteArray} {w w' : World} {G : Nat → Prop} (h : MvH p q o n x y old w) (t : Touch G w w') (hq : ¬ G q) (ho : ¬ G o) (hn : ¬ G n) : MvH p q o n x y old w' :=
  ⟨(t.block q (Array.getElem?_eq_some_iff.1 h.rq).1 hq).trans h.rq, (t.block o (Array.getElem?_eq_some_iff.1 h.ro).1 ho).trans h.ro, (t.block n (Array.getElem?_eq_some_iff.1 h.rn).1 hn).trans h.rn⟩

section
variable {w : World} {p g c : Nat} {b : List UInt8}
/-- what a text that is moved leaves -/
def moveB (b : List UInt8) (i : Nat) (t : List UInt8) : List UInt8 := pointB (standB b t) i (numL b 2 - t.length, t.length)
set_option maxRecDepth 100000 in
set_option maxHeartbeats 2000000 in
theorem move_any (h : Ar w p g c b) {q o : Nat} {old : ByteArray} (hq : w.heap[q]? = some (.cells #[.pointer (some ⟨p, 0, none⟩)] 77 (0, 0))) (ho : w.heap[o]? = some (.cells #[.string old] 9 (0, 0)))
    {i x y : Nat} (hi : 8 + 4 * i ≤ b.length) (hx : spotAt b i = (x, y)) (hxy : x + y ≤ old.size) (hos : old.size ≤ 4096) (hy : y ≤ numL b 2) (hl : numL b 2 ≤ b.length) {t : ByteArray} (ht : t = old.extract x (x + y)) (hts : t.size = y) (hi2 : 8 + 4 * i ≤ (standB b t.data.toList).length) :
    Calls Try.prog 92 #[.int .i64 (i : Int), .pointer (some ⟨q, 0, none⟩), .pointer (some ⟨o, 0, none⟩)] w fun e w' => e = .returned (.tuple #[]) ∧ (Ar w' p g c (moveB b i t.data.toList) ∧ Touch (both p g) w w') := by
  have hhi := h.hi
  have hlt := h.below
  have hqp : ¬ both p g q := by
    rintro (rfl | rfl)
    · have := h.head.symm.trans hq; simp at this
    · obtain ⟨cur, m, k1, k2, k3, k4⟩ := h.row
      have := k1.symm.trans hq
      simp at this
  have hop : ¬ both p g o := by
    rintro (rfl | rfl)
    · have := h.head.symm.trans ho; simp at this
    · obtain ⟨cur, m, k1, k2, k3, k4⟩ := h.row
      have := k1.symm.trans ho
      simp at this
  have hqs := (Array.getElem?_eq_some_iff.1 hq).1
  have hoz := (Array.getElem?_eq_some_iff.1 ho).1
  have q0 : w.cell? ⟨q, 0, none⟩ = some (.pointer (some ⟨p, 0, none⟩)) := by rw [cell_of_row _ _ _ _ _ _ hq]; rfl
  have sp := spot_any h i hi
  rw [hx] at sp
  unfold spotV at sp
  simp only at sp
  have SP := Lib.hid sp
  have se := fun W => spot_end x y W (by omega) (by omega)
  obtain ⟨z, hz⟩ : ∃ z : Int, z = ((x + y : Nat) : Int) := ⟨_, rfl⟩
  rw [← hz] at se
  have z0 : (0 : Int) ≤ z := by omega
  have z1 : z ≤ (old.size : Int) := by omega
  have z2 : (x : Int) ≤ z := by omega
  have hzt : z.toNat = x + y := by omega
  have SE := Lib.hid se
  have st := fun W (hh : Ar W p g c b) => stand_any hh t (by rw [hts]; exact hy) hl
  rw [hts] at st
  unfold spotV at st
  simp only at st
  have ST := Lib.hid st
  obtain ⟨v, hv⟩ : ∃ v, v = numL b 2 - y := ⟨_, rfl⟩
  rw [← hv] at ST
  have pt := fun W (hh : Ar W p g c (standL b t.data.toList)) => point_any hh i hi2 v y (by omega) (by omega)
  have hm : pointL (standL b t.data.toList) i (v, y) = moveB b i t.data.toList := by
    unfold moveB
    rw [hv, show t.data.toList.length = y from hts]
    rfl
  rw [hm] at pt
  have PT := Lib.hid pt
  have HA := Lib.hid h
  have HZ := Lib.hid hz
  have HZT := Lib.hid hzt
  have HT := Lib.hid ht
  have HQ := Lib.hid hq
  have HO := Lib.hid ho
  clear h hi hx hl ht hts hi2 sp se st hv pt hm hq ho hz hzt hy
  go_enter Try.func92, Try.ntmps92
  go_wp2_with fail
  refine SP.out.mono ?_
  rintro e w1 ⟨rfl, b1⟩
  go_wp2_with fail
  have b2 : Below w.heap.size w (w1.alloc (.cells #[.int .i64 (x : Int), .int .i64 (y : Int)] 99)) := b1.alloc b1.size _
  have A2 := HA.out.later b2
  have M2 : MvH p q o w1.heap.size x y old (w1.alloc (.cells #[.int .i64 (x : Int), .int .i64 (y : Int)] 99)) := ⟨(b2.block q hqs).trans HQ.out, (b2.block o hoz).trans HO.out, heap_alloc_new _ _⟩
  have hnp : ¬ both p g w1.heap.size := fun hh => by have := hlt _ hh; have := b1.size; omega
  have B2 := Lib.hid b2
  have HA2 := Lib.hid A2
  have HM2 := Lib.hid M2
  clear b1 b2 A2 M2 HA HQ HO SP q0 hqs hoz hlt
  generalize w1.alloc (.cells #[.int .i64 (x : Int), .int .i64 (y : Int)] 99) = W at *
  generalize w1.heap.size = n at *
  have hex : old.extract x z.toNat = t := by rw [HZT.out, HT.out]
  go_region_held3 (fun w' => w'.cell? ⟨q, 0, none⟩ = some (.pointer (some ⟨p, 0, none⟩)) ∧ w'.cell? ⟨o, 0, none⟩ = some (.string old) ∧ w'.cell? ⟨n, 0, none⟩ = some (.int .i64 (x : Int)) ∧ w'.cell? ⟨n, 1, none⟩ = some (.int .i64 (y : Int)))
    (first | exact (HM2.out.later ((Below.refl _ _).drew)).gives | exact ((HM2.out.later ((Below.refl _ _).drew)).later hb).gives | exact ((((HM2.out.later ((Below.refl _ _).drew)).later hb).touch hs.2 hqp hop hnp)).gives | exact ((((HM2.out.later ((Below.refl _ _).drew)).later hb).touch hs.2 hqp hop hnp).touch hp.2 hqp hop hnp).gives)
    (first | (go_at_call 88; refine Calls.mono (SE.out _) ?_; rintro e w' ⟨rfl, hb⟩) | (go_at_call 78; refine Calls.mono (ST.out _ ((HA2.out.later ((Below.refl _ _).drew)).later hb)) ?_; rintro e w' ⟨rfl, hs⟩) | (go_at_call 77; refine Calls.mono (PT.out _ hs.1) ?_; rintro e w' ⟨rfl, hp⟩))
  have HE := Lib.hid (show Touch (both p g) w _ from (((Touch.ofNew B2.out : Touch (both p g) w W).drew.trans' (Touch.ofNew hb)).trans' hs.2).trans' hp.2)
  have HP := Lib.hid hp.1
  clear hb hs hp
  go_end0
  exact ⟨rfl, HP.out, HE.out⟩
end

end Go.Proofs.Ytmandeohbiagfaa.Slot

namespace Go.Proofs.Ytmandeohbiagfaa.Slot
open Go.RowKit
attribute [local go_sem ↓] Go.wp_at_zero Go.wp_at_succ

/-! ### plain -/
theorem strB_list (l : List UInt8) : (strB l).data.toList = l := rfl
theorem strB_size (l : List UInt8) : (strB l).size = l.length := rfl
theorem ext_list (l : List UInt8) (x y : Nat) : ((strB l).extract x (x + y)).data.toList = (l.drop x).take y := by
  rw [ByteArray.data_extract, Array.toList_extract, List.extract_eq_take_drop]
  show List.take (x + y - x) (List.drop x l) = _
  rw [Nat.add_sub_cancel_left]
theorem is_text {b : List UInt8} {a : A} (h : Is b a) (hk : a.ok) {i : Nat} (hi : i < a.dir.length) : txt b (a.at i) = a.text i := by
  have := hk.each i hi
  have := hk.fin
  exact txt_congr rfl fun j hj => h.rest _ (by omega)
theorem is_spot {b : List UInt8} {a : A} (h : Is b a) {i : Nat} (hi : i < a.dir.length) : spotAt b i = a.at i := by
  have := h.dir i hi
  unfold spotAt
  rw [this.1, this.2]
theorem is_clear {b : List UInt8} {a : A} (h : Is b a) (hf : a.fin ≤ a.low) (hl : a.low ≤ a.n) : Is (putL b a.fin (List.replicate (a.low - a.fin) 0)) ⟨putL a.cells 0 (List.replicate a.low 0), a.low, a.dir⟩ := by
  have h1 := is_put h (by omega) (k := a.fin) (t := List.replicate (a.low - a.fin) 0) (Nat.le_refl _) (by rw [List.length_replicate]; omega)
  have e1 : a.fin + (List.replicate (a.low - a.fin) (0 : UInt8)).length ≤ a.cells.length := by rw [List.length_replicate]; show _ ≤ a.n; omega
  have e2 : 0 + (List.replicate a.low (0 : UInt8)).length ≤ a.cells.length := by rw [List.length_replicate]; show _ ≤ a.n; omega
  refine ⟨?_, h1.cnt, h1.low, h1.dir, ?_⟩
  · rw [h1.len]
    show (putL a.cells _ _).length = (putL a.cells _ _).length
    rw [putL_len e1, putL_len e2]
  · intro j hj
    have hj' : a.fin ≤ j := hj
    rw [h1.rest j hj]
    show (putL a.cells _ _)[j]? = (putL a.cells _ _)[j]?
    rw [putL_at e1, putL_at e2]
    simp only [List.length_replicate]
    by_cases hc : j < a.low
    · rw [if_pos (by omega), if_pos (by omega), List.getElem?_replicate, List.getElem?_replicate, if_pos (by omega), if_pos (by omega)]
    · rw [if_neg (by omega), if_neg (by omega)]
theorem mid_step {b : List UInt8} {a : A} (hk : a.ok) {k : Nat} (hi : k < a.dir.length) (h : Is b (a.mid k)) : Is (moveB b k (a.text k)) (a.mid (k + 1)) ∧ spotAt b k = a.at k ∧ numL b 2 = (a.mid k).low ∧ a.fin + (a.at k).2 ≤ (a.mid k).low ∧ (a.mid k).low ≤ a.n ∧ b.length = a.n ∧ (standB b (a.text k)).length = a.n := by
  obtain ⟨h1, h2, h3, h4, h5, h6⟩ := mid_all hk k (by omega)
  have ht := text_len hk hi
  have e1 : tot (a.dir.take (k + 1)) = tot (a.dir.take k) + (a.at k).2 := tot_take hi
  have e2 := tot_take_le a.dir (k + 1)
  have hr := hk.room
  have hf := hk.fin
  have hhi := hk.hi
  have hf2 : (a.mid k).fin = a.fin := by unfold A.fin; rw [h2]
  have hs := is_stand h (by omega) (t := a.text k) (by omega) (by omega) (by omega)
  have hlen : (standB b (a.text k)).length = a.n := by
    rw [hs.len]
    show ((a.mid k).lay (a.text k)).length = a.n
    unfold A.lay
    rw [putL_len (by show _ ≤ (a.mid k).n; omega)]
    exact h1
  have hl2 : ((a.mid k).lay (a.text k)).length = a.n := by rw [← hlen, hs.len]; rfl
  have hp := is_point hs (i := k) (x := ((a.mid k).low - (a.text k).length, (a.text k).length)) (by show (a.mid k).fin ≤ ((a.mid k).lay (a.text k)).length; rw [hl2]; omega) (by show k < (a.mid k).dir.length; omega) (by simp only; omega) (by simp only; omega)
  refine ⟨?_, ?_, h.low, by omega, by omega, by rw [h.len]; exact h1, hlen⟩
  · unfold moveB
    rw [h.low]
    exact hp
  · rw [is_spot h (by rw [h2]; exact hi), h5 k (Nat.le_refl _)]

/-! ### what an area tells of itself -/
section
variable {w : World} {p g c : Nat} {a : A}
theorem len_is (h : Area w p g c a) : Calls Try.prog 56 #[.pointer (some ⟨p, 0, none⟩)] w fun e w' => e = .returned (.int .i64 (a.dir.length : Int)) ∧ w = w' := by
  obtain ⟨⟨b, h1, h2⟩, h3⟩ := h
  have := len_any h1
  rwa [h2.cnt] at this
theorem gap_is (h : Area w p g c a) : Calls Try.prog 73 #[.pointer (some ⟨p, 0, none⟩)] w fun e w' => e = .returned (.int .i64 (a.gap : Int)) ∧ w = w' := by
  obtain ⟨⟨b, h1, h2⟩, h3⟩ := h
  have := gap_any h1
  rw [h2.cnt, h2.low] at this
  have hf := h3.fin
  have e : (a.gap : Int) = (a.low : Int) - ((4 + 4 * a.dir.length : Nat) : Int) := by
    unfold A.gap A.fin; unfold A.fin at hf; omega
  rwa [e]
theorem sizes_is {b : List UInt8} (h : Is b a) : ∀ k, k ≤ a.dir.length → sizes b k = tot (a.dir.take k) := by
  intro k
  induction k with
  | zero => intro _; simp [sizes, tot]
  | succ k ih =>
    intro hk
    rw [sizes_succ, ih (by omega), tot_take (by omega), (h.dir k (by omega)).2]
    rfl
theorem free_is (h : Area w p g c a) : Calls Try.prog 72 #[.pointer (some ⟨p, 0, none⟩)] w fun e w' => e = .returned (.int .i64 (a.free : Int)) ∧ Below w.heap.size w w' := by
  obtain ⟨⟨b, h1, h2⟩, h3⟩ := h
  have hf := h3.fin
  have hl := h3.low
  have hr := h3.room
  have hlen := h2.len
  have := free_any h1 (by rw [h2.cnt]; unfold A.fin at hf; omega)
  rw [sizes_is h2 _ (by rw [h2.cnt]; exact Nat.le_refl _), h2.cnt, List.take_length, h2.len] at this
  have e : (a.free : Int) = (a.n : Int) - ((4 + 4 * a.dir.length : Nat) : Int) - (tot a.dir : Int) := by
    unfold A.free A.fin; unfold A.fin at hf; omega
  rwa [e]
theorem get_is (h : Area w p g c a) (i : Int) : Calls Try.prog 57 #[.pointer (some ⟨p, 0, none⟩), .int .i64 i] w fun e w' => e = .returned (.tuple #[.string (strB (getS a i)), .int .i64 (if hasP a i then 0 else 3)]) ∧ Below w.heap.size w w' := by
  obtain ⟨⟨b, h1, h2⟩, h3⟩ := h
  have hf := h3.fin
  have hl := h3.low
  unfold A.fin at hf
  have hlen := h2.len
  by_cases hp : hasP a i
  · rw [if_pos hp]
    unfold getS
    rw [if_pos hp]
    unfold hasP at hp
    obtain ⟨k, rfl⟩ : ∃ k : Nat, i = k := ⟨i.toNat, by omega⟩
    have hk : k < a.dir.length := by omega
    have he := h3.each k hk
    have hd := h2.dir k hk
    have := get_yes h1 k (by rw [h2.cnt]; exact hk) (by rw [h2.cnt]; omega) (by rw [hd.1, hd.2]; omega)
    rw [is_spot h2 hk, is_text h2 h3 hk] at this
    exact this
  · rw [if_neg hp]
    unfold getS
    rw [if_neg hp]
    have := get_no h1 i (by unfold hasE; rw [h2.cnt]; exact if_neg hp)
    exact this.mono fun _ _ ⟨e1, e2⟩ => ⟨e1, e2 ▸ Below.refl _ _⟩
end
end Go.Proofs.Ytmandeohbiagfaa.Slot
