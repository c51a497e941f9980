/- Plain mathematics: records read from bytes. -/
import Derived.Test.YtfcibccipkokoaaCM
import Derived.Test.YtfcibccipkokoaaWD
namespace Go.Proofs.Ytfcibccipkokoaa.Rec

/-- whether n bytes stand at t; they; the place behind; the number -/
def tkB (s : ByteArray) (t n : Nat) : Bool := decide (t + n ≤ s.size)
def tkS (s : ByteArray) (t n : Nat) : ByteArray := if t + n ≤ s.size then s.extract t (t + n) else ⟨#[]⟩
def tkT (s : ByteArray) (t n : Nat) : Nat := if t + n ≤ s.size then t + n else t
def tkN (s : ByteArray) (t n : Nat) : Nat := if t + n ≤ s.size then numAt s t n else 0
theorem tkS_size (s : ByteArray) (t n : Nat) : t + (tkS s t n).size = tkT s t n := by
  unfold tkS tkT
  split
  · rw [ByteArray.size_extract]; omega
  · rfl
theorem tkS_le (s : ByteArray) (t n : Nat) (hs : s.size ≤ 140737488351232) : (tkS s t n).size ≤ 140737488351232 := by
  unfold tkS
  split
  · rw [ByteArray.size_extract]; omega
  · exact Nat.zero_le _
theorem tkT_le {s : ByteArray} {t : Nat} (n : Nat) (h : t ≤ s.size) : tkT s t n ≤ s.size := by
  unfold tkT; split <;> omega
theorem tkN_lt (s : ByteArray) (t n : Nat) : tkN s t n < 256 ^ n := by
  unfold tkN
  split
  · exact numAt_lt s t n
  · exact Nat.pow_pos (by decide)
theorem tk_yes {s : ByteArray} {t n : Nat} (h : tkB s t n = true) : tkT s t n = t + n ∧ tkN s t n = numAt s t n ∧ t + n ≤ s.size := by
  have h2 : t + n ≤ s.size := of_decide_eq_true h
  exact ⟨if_pos h2, if_pos h2, h2⟩
theorem tk_of {s : ByteArray} {t n : Nat} (h : t + n ≤ s.size) : tkB s t n = true ∧ tkT s t n = t + n ∧ tkN s t n = numAt s t n := ⟨decide_eq_true h, if_pos h, if_pos h⟩

/-! ### rows of tables: the place behind k of them, whether they are there, they -/
def dT (s : ByteArray) (t : Nat) : Nat → Nat
  | 0 => t
  | k + 1 => tkT s (tkT s (dT s t k) 4) 8
def dB (s : ByteArray) (t : Nat) : Nat → Bool
  | 0 => true
  | k + 1 => dB s t k && tkB s (dT s t k) 4 && tkB s (tkT s (dT s t k) 4) 8
def dL (s : ByteArray) (t : Nat) : Nat → List Di
  | 0 => []
  | k + 1 => dL s t k ++ [⟨tkN s (dT s t k) 4, tkN s (tkT s (dT s t k) 4) 8⟩]
def aT (s : ByteArray) (t : Nat) : Nat → Nat
  | 0 => t
  | k + 1 => tkT s (tkT s (tkT s (tkT s (aT s t k) 8) 8) 8) 8
def aB (s : ByteArray) (t : Nat) : Nat → Bool
  | 0 => true
  | k + 1 => aB s t k && tkB s (aT s t k) 8 && tkB s (tkT s (aT s t k) 8) 8 && tkB s (tkT s (tkT s (aT s t k) 8) 8) 8 && tkB s (tkT s (tkT s (tkT s (aT s t k) 8) 8) 8) 8
def aL (s : ByteArray) (t : Nat) : Nat → List Ac
  | 0 => []
  | k + 1 => aL s t k ++ [⟨tkN s (aT s t k) 8, tkN s (tkT s (aT s t k) 8) 8, tkN s (tkT s (tkT s (aT s t k) 8) 8) 8, tkN s (tkT s (tkT s (tkT s (aT s t k) 8) 8) 8) 8⟩]
theorem dT_le {s : ByteArray} {t : Nat} (h : t ≤ s.size) : ∀ k, dT s t k ≤ s.size
  | 0 => h
  | k + 1 => tkT_le 8 (tkT_le 4 (dT_le h k))
theorem aT_le {s : ByteArray} {t : Nat} (h : t ≤ s.size) : ∀ k, aT s t k ≤ s.size
  | 0 => h
  | k + 1 => tkT_le 8 (tkT_le 8 (tkT_le 8 (tkT_le 8 (aT_le h k))))
theorem dL_len (s : ByteArray) (t : Nat) : ∀ k, (dL s t k).length = k
  | 0 => rfl
  | k + 1 => by show (dL s t k ++ [_]).length = k + 1; rw [List.length_append, dL_len s t k]; rfl
theorem aL_len (s : ByteArray) (t : Nat) : ∀ k, (aL s t k).length = k
  | 0 => rfl
  | k + 1 => by show (aL s t k ++ [_]).length = k + 1; rw [List.length_append, aL_len s t k]; rfl
theorem dL_wf (s : ByteArray) (t : Nat) : ∀ k, ∀ d ∈ dL s t k, d.wf
  | 0 => fun d h => by cases h
  | k + 1 => fun d h => by
    rcases List.mem_append.1 h with h | h
    · exact dL_wf s t k d h
    · rw [List.mem_singleton] at h
      subst h
      exact ⟨tkN_lt s _ 4, tkN_lt s _ 8⟩
theorem aL_wf (s : ByteArray) (t : Nat) : ∀ k, ∀ d ∈ aL s t k, d.wf
  | 0 => fun d h => by cases h
  | k + 1 => fun d h => by
    rcases List.mem_append.1 h with h | h
    · exact aL_wf s t k d h
    · rw [List.mem_singleton] at h
      subst h
      exact ⟨tkN_lt s _ 8, tkN_lt s _ 8, tkN_lt s _ 8, tkN_lt s _ 8⟩

/-! ### tables: from the place t on -/
def t1 (s : ByteArray) (t : Nat) : Nat := tkT s t 8
def t2 (s : ByteArray) (t : Nat) : Nat := tkT s (t1 s t) 8
def tn (s : ByteArray) (t : Nat) : Nat := tkN s (t2 s t) 1
def t3 (s : ByteArray) (t : Nat) : Nat := tkT s (t2 s t) 1
def t4 (s : ByteArray) (t : Nat) : Nat := dT s (t3 s t) (tn s t)
def tm (s : ByteArray) (t : Nat) : Nat := tkN s (t4 s t) 1
def t5 (s : ByteArray) (t : Nat) : Nat := tkT s (t4 s t) 1
def t6 (s : ByteArray) (t : Nat) : Nat := aT s (t5 s t) (tm s t)
def tB (s : ByteArray) (t : Nat) : Bool := tkB s t 8 && tkB s (t1 s t) 8 && tkB s (t2 s t) 1 && dB s (t3 s t) (tn s t) && tkB s (t4 s t) 1 && aB s (t5 s t) (tm s t)
/-- a record that has nothing but these tables -/
def tabOf (s : ByteArray) (t : Nat) : Rc := { Rc.zero with ttx := tkN s t 8, tnum := tkN s (t1 s t) 8, dirty := dL s (t3 s t) (tn s t), txns := aL s (t5 s t) (tm s t) }
theorem t_le {s : ByteArray} {t : Nat} (h : t ≤ s.size) : t1 s t ≤ s.size ∧ t2 s t ≤ s.size ∧ t3 s t ≤ s.size ∧ t4 s t ≤ s.size ∧ t5 s t ≤ s.size ∧ t6 s t ≤ s.size := by
  have h1 : t1 s t ≤ s.size := tkT_le _ h
  have h2 : t2 s t ≤ s.size := tkT_le _ h1
  have h3 : t3 s t ≤ s.size := tkT_le _ h2
  have h4 : t4 s t ≤ s.size := dT_le h3 _
  have h5 : t5 s t ≤ s.size := tkT_le _ h4
  exact ⟨h1, h2, h3, h4, h5, aT_le h5 _⟩

/-! ### a record -/
def q1 (s : ByteArray) : Nat := tkT s 0 1
def q2 (s : ByteArray) : Nat := tkT s (q1 s) 8
def q3 (s : ByteArray) : Nat := tkT s (q2 s) 8
def kd (s : ByteArray) : Nat := tkN s 0 1
/-- the head that is read -/
def rdH (s : ByteArray) : Rc := { Rc.zero with kind := kd s, tx := tkN s (q1 s) 8, prev := tkN s (q2 s) 8 }
def hB (s : ByteArray) : Bool := tkB s 0 1 && tkB s (q1 s) 8 && tkB s (q2 s) 8
/-- what is read behind the head -/
def rdM (s : ByteArray) : Rc :=
  if kd s = 2 then { rdH s with page := tkN s (q3 s) 4, slot := tkN s (tkT s (q3 s) 4) 2 }
  else if kd s = 3 then { rdH s with next := tkN s (q3 s) 8 }
  else if kd s = 4 then { rdH s with number := tkN s (q3 s) 8 }
  else if kd s = 8 then { rdH s with dirty := (tabOf s (q3 s)).dirty, txns := (tabOf s (q3 s)).txns, ttx := (tabOf s (q3 s)).ttx, tnum := (tabOf s (q3 s)).tnum }
  else rdH s
def mT (s : ByteArray) : Nat :=
  if kd s = 2 then tkT s (tkT s (q3 s) 4) 2
  else if kd s = 3 then tkT s (q3 s) 8
  else if kd s = 4 then tkT s (q3 s) 8
  else if kd s = 8 then t6 s (q3 s)
  else q3 s
def mB (s : ByteArray) : Bool :=
  if kd s = 2 then hB s && tkB s (q3 s) 4 && tkB s (tkT s (q3 s) 4) 2
  else if kd s = 3 then hB s && tkB s (q3 s) 8
  else if kd s = 4 then hB s && tkB s (q3 s) 8
  else if kd s = 8 then hB s && tB s (q3 s)
  else hB s
/-- the record that is read, whatever is wanting; whether all was there -/
def rdC (s : ByteArray) : Rc := { rdM s with body := tkS s (mT s) (s.size - mT s) }
def whB (s : ByteArray) : Bool := mB s && tkB s (mT s) (s.size - mT s)
def okC (s : ByteArray) : Bool := whB s && mayC (rdC s)
def decC (s : ByteArray) : Rc := if okC s then rdC s else Rc.zero
def decE (s : ByteArray) : Int := if okC s then 0 else 7
theorem q_le (s : ByteArray) : q1 s ≤ s.size ∧ q2 s ≤ s.size ∧ q3 s ≤ s.size := by
  have h1 : q1 s ≤ s.size := tkT_le _ (Nat.zero_le _)
  have h2 : q2 s ≤ s.size := tkT_le _ h1
  exact ⟨h1, h2, tkT_le _ h2⟩
theorem mT_le (s : ByteArray) : mT s ≤ s.size := by
  have h := (q_le s).2.2
  unfold mT
  split
  · exact tkT_le _ (tkT_le _ h)
  split
  · exact tkT_le _ h
  split
  · exact tkT_le _ h
  split
  · exact (t_le h).2.2.2.2.2
  · exact h
theorem rdH_wf (s : ByteArray) : (rdH s).wf :=
  { kind := tkN_lt s _ 1, tx := tkN_lt s _ 8, prev := tkN_lt s _ 8, page := (by decide : 0 < 4294967296), slot := (by decide : 0 < 65536), next := (by decide : 0 < 18446744073709551616), number := (by decide : 0 < 18446744073709551616), body := (by decide : 0 ≤ 140737488351232), ttx := (by decide : 0 < 18446744073709551616), tnum := (by decide : 0 < 18446744073709551616), dirty := (by decide : 0 ≤ 140737488351232), txns := (by decide : 0 ≤ 140737488351232), each := fun i d h => by simp [rdH, Rc.zero] at h, eacht := fun i d h => by simp [rdH, Rc.zero] at h }
theorem rdM_wf (s : ByteArray) : (rdM s).wf := by
  have h := rdH_wf s
  unfold rdM
  split
  · exact { h with page := tkN_lt s _ 4, slot := tkN_lt s _ 2 }
  split
  · exact { h with next := tkN_lt s _ 8 }
  split
  · exact { h with number := tkN_lt s _ 8 }
  split
  · refine { h with dirty := ?_, txns := ?_, ttx := tkN_lt s _ 8, tnum := tkN_lt s _ 8, each := fun i d hd => ?_, eacht := fun i d hd => ?_ }
    · show (dL s _ _).length ≤ _
      rw [dL_len]
      have := tkN_lt s (t2 s (q3 s)) 1
      unfold tn
      omega
    · show (aL s _ _).length ≤ _
      rw [aL_len]
      have := tkN_lt s (t4 s (q3 s)) 1
      unfold tm
      omega
    · exact dL_wf s _ _ d (List.mem_of_getElem? hd)
    · exact aL_wf s _ _ d (List.mem_of_getElem? hd)
  · exact h
theorem rdC_wf {s : ByteArray} (hs : s.size ≤ 140737488351232) : (rdC s).wf := { rdM_wf s with body := tkS_le s _ _ hs }
theorem is_ok {s : ByteArray} (h : okC s = true) : decC s = rdC s ∧ decE s = 0 := by unfold decC decE; rw [if_pos h, if_pos h]; exact ⟨rfl, rfl⟩
theorem not_ok {s : ByteArray} (h : ¬ okC s = true) : decC s = Rc.zero ∧ decE s = 7 := by unfold decC decE; rw [if_neg h, if_neg h]; exact ⟨rfl, rfl⟩

end Go.Proofs.Ytfcibccipkokoaa.Rec
