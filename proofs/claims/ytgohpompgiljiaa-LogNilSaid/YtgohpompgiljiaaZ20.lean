/-
  Plain mathematics: frames, as bytes.
-/
import Derived.Test.YtgohpompgiljiaaZ18
import Derived.Test.YtgohpompgiljiaaZ19
namespace Go.Proofs.Ytgohpompgiljiaa.Frame
open Go.Proofs.Ytgohpompgiljiaa.Sum (le4 sumOf val sumOf_lt val_le4)

/-- n's bytes, as a text -/
def nb (m n : Nat) : ByteArray := ⟨(be m n).toArray⟩
theorem nb_size (m n : Nat) : (nb m n).size = m := by
  show (be m n).toArray.size = m
  rw [List.size_toArray, be_length]
/-- a text's bytes -/
abbrev L (s : ByteArray) : List UInt8 := s.data.toList
theorem L_len (s : ByteArray) : (L s).length = s.size := rfl
theorem L_app (s t : ByteArray) : L (s ++ t) = L s ++ L t := by simp [L]
theorem L_ext {s t : ByteArray} (h : L s = L t) : s = t := by
  cases s; cases t
  simp only [L] at h
  simp only [ByteArray.mk.injEq]
  exact Array.toList_inj.1 h
theorem L_nb (m n : Nat) : L (nb m n) = be m n := by simp [L, nb]
theorem L_cut (s : ByteArray) (a b : Nat) : L (s.extract a b) = ((L s).drop a).take (b - a) := by
  simp only [L, ByteArray.data_extract, Array.toList_extract, List.extract_eq_take_drop]
/-- a sum's bytes -/
def sb (n : Nat) : ByteArray := ⟨(le4 n).toArray⟩
theorem sb_size (n : Nat) : (sb n).size = 4 := rfl
theorem L_sb (n : Nat) : L (sb n) = le4 n := by simp [L, sb]

/-- may it be written? -/
def mayF (lsn : Nat) (s : ByteArray) : Bool := decide (1 ≤ s.size ∧ s.size ≤ 4096 ∧ 0 < lsn)
/-- a frame's head -/
def hdF (lsn : Nat) (s : ByteArray) : ByteArray := nb 2 s.size ++ nb 8 lsn
/-- a frame -/
def bodF (lsn : Nat) (s : ByteArray) : ByteArray := hdF lsn s ++ sb (sumOf (L (hdF lsn s ++ s))) ++ s
def encF (lsn : Nat) (s : ByteArray) : ByteArray := if mayF lsn s then bodF lsn s else ⟨#[]⟩
def encE (lsn : Nat) (s : ByteArray) : Nat := if mayF lsn s then 0 else 2
theorem hd_size (lsn : Nat) (s : ByteArray) : (hdF lsn s).size = 10 := by simp only [hdF, ByteArray.size_append, nb_size]
theorem bod_size (lsn : Nat) (s : ByteArray) : (bodF lsn s).size = 14 + s.size := by simp only [bodF, ByteArray.size_append, hd_size, sb_size]
theorem enc_size {lsn : Nat} {s : ByteArray} (h : mayF lsn s = true) : (encF lsn s).size = 14 + s.size := by unfold encF; rw [if_pos h, bod_size]

/-- the length, and the place, that bytes tell -/
def nF (t : ByteArray) : Nat := num ((L t).take 2)
def aF (t : ByteArray) : Nat := num (((L t).drop 2).take 8)
/-- is the sum as it should be? -/
def okF (t : ByteArray) : Bool := decide (L (sb (sumOf (L (t.extract 0 10 ++ t.extract 14 (14 + nF t))))) = L (t.extract 10 14))
/-- what bytes are, ahead of what they say: 0 a whole frame, else the error -/
def decE (t : ByteArray) (lsn : Nat) : Nat :=
  if t.size < 14 then 6 else if nF t = 0 ∨ 4096 < nF t ∨ aF t ≠ lsn ∨ lsn = 0 then 7 else if t.size < 14 + nF t then 6 else if okF t then 0 else 100
def decS (t : ByteArray) (lsn : Nat) : ByteArray := if decE t lsn = 0 then t.extract 14 (14 + nF t) else ⟨#[]⟩
def decU (t : ByteArray) (lsn : Nat) : Nat := if decE t lsn = 0 then 14 + nF t else 0

theorem nF_lt (t : ByteArray) : nF t < 65536 := num_lt_of (m := 2) (by simp; omega)
theorem aF_lt (t : ByteArray) : aF t < 18446744073709551616 := num_lt_of (m := 8) (by simp; omega)
/-- a whole frame: what it is made of -/
theorem dec_yes {t : ByteArray} {lsn : Nat} (h : decE t lsn = 0) : 1 ≤ nF t ∧ nF t ≤ 4096 ∧ aF t = lsn ∧ 0 < lsn ∧ 14 + nF t ≤ t.size ∧ okF t = true := by
  unfold decE at h
  split at h
  · cases h
  split at h
  · cases h
  split at h
  · cases h
  split at h
  · rename_i h1 h2 h3 h4
    exact ⟨by omega, by omega, by omega, by omega, by omega, h4⟩
  · cases h
theorem dec_of {t : ByteArray} {lsn : Nat} (h1 : 1 ≤ nF t) (h2 : nF t ≤ 4096) (h3 : aF t = lsn) (h4 : 0 < lsn) (h5 : 14 + nF t ≤ t.size) (h6 : okF t = true) : decE t lsn = 0 := by
  unfold decE
  rw [if_neg (by omega), if_neg (by omega), if_neg (by omega), if_pos h6]
theorem decU_pos {t : ByteArray} {lsn : Nat} (h : decE t lsn = 0) : 15 ≤ decU t lsn ∧ decU t lsn ≤ t.size := by
  have := dec_yes h
  unfold decU
  rw [if_pos h]
  omega

/-- a frame's parts, whatever stands behind it -/
theorem parts (lsn : Nat) (s t : ByteArray) (hl : lsn < 18446744073709551616) (hs : s.size ≤ 4096) :
    nF (bodF lsn s ++ t) = s.size ∧ aF (bodF lsn s ++ t) = lsn ∧ (bodF lsn s ++ t).extract 0 10 = hdF lsn s ∧ (bodF lsn s ++ t).extract 10 14 = sb (sumOf (L (hdF lsn s ++ s))) ∧ (bodF lsn s ++ t).extract 14 (14 + s.size) = s := by
  have e : L (bodF lsn s ++ t) = be 2 s.size ++ (be 8 lsn ++ (le4 (sumOf (L (hdF lsn s ++ s))) ++ (L s ++ L t))) := by
    have hh : L (hdF lsn s) = be 2 s.size ++ be 8 lsn := by unfold hdF; rw [L_app, L_nb, L_nb]
    unfold bodF
    rw [L_app, L_app, L_app, L_sb, hh]
    simp only [List.append_assoc]
  have h2 : (be 2 s.size).length = 2 := be_length _ _
  have h8 : (be 8 lsn).length = 8 := be_length _ _
  have h4 : (le4 (sumOf (L (hdF lsn s ++ s)))).length = 4 := rfl
  refine ⟨?_, ?_, L_ext ?_, L_ext ?_, L_ext ?_⟩
  · unfold nF
    rw [e, List.take_left' h2, num_be 2 _ (by omega)]
  · unfold aF
    rw [e, List.drop_left' h2, List.take_left' h8, num_be 8 _ (by omega)]
  · rw [L_cut, e, List.drop_zero, ← List.append_assoc, List.take_left' (by rw [List.length_append, h2, h8])]
    unfold hdF
    rw [L_app, L_nb, L_nb]
  · rw [L_cut, e, ← List.append_assoc, List.drop_left' (by rw [List.length_append, h2, h8]), List.take_left' h4, L_sb]
  · rw [L_cut, e, ← List.append_assoc, ← List.append_assoc, List.drop_left' (by simp only [List.length_append, h2, h8, h4]), List.take_left' (by rw [L_len]; omega)]
/-- what was written is read, whatever stands behind it -/
theorem dec_enc {lsn : Nat} {s : ByteArray} (t : ByteArray) (hl : lsn < 18446744073709551616) (h : mayF lsn s = true) :
    decE (encF lsn s ++ t) lsn = 0 ∧ decS (encF lsn s ++ t) lsn = s ∧ decU (encF lsn s ++ t) lsn = 14 + s.size := by
  have hm : 1 ≤ s.size ∧ s.size ≤ 4096 ∧ 0 < lsn := by simpa [mayF] using h
  have e : encF lsn s = bodF lsn s := by unfold encF; rw [if_pos h]
  rw [e]
  obtain ⟨p1, p2, p3, p4, p5⟩ := parts lsn s t hl hm.2.1
  have p6 : okF (bodF lsn s ++ t) = true := by
    unfold okF
    rw [p1, p3, p4, p5]
    exact decide_eq_true rfl
  have z : (bodF lsn s ++ t).size = 14 + s.size + t.size := by rw [ByteArray.size_append, bod_size]
  have h0 := dec_of (t := bodF lsn s ++ t) (lsn := lsn) (by omega) (by omega) p2 hm.2.2 (by omega) p6
  refine ⟨h0, ?_, ?_⟩
  · unfold decS
    rw [if_pos h0, p1, p5]
  · unfold decU
    rw [if_pos h0, p1]
/-- a frame is read at its own place alone -/
theorem dec_else {lsn b : Nat} {s : ByteArray} (t : ByteArray) (hl : lsn < 18446744073709551616) (h : mayF lsn s = true) (hb : b ≠ lsn) : decE (encF lsn s ++ t) b = 7 := by
  have hm : 1 ≤ s.size ∧ s.size ≤ 4096 ∧ 0 < lsn := by simpa [mayF] using h
  have e : encF lsn s = bodF lsn s := by unfold encF; rw [if_pos h]
  rw [e]
  obtain ⟨p1, p2, p3, p4, p5⟩ := parts lsn s t hl hm.2.1
  have z : (bodF lsn s ++ t).size = 14 + s.size + t.size := by rw [ByteArray.size_append, bod_size]
  unfold decE
  rw [if_neg (by omega), if_pos]
  rw [p2]
  omega
/-- unlike texts, or places, have unlike frames -/
theorem enc_inj {a b : Nat} {s t : ByteArray} (ha : a < 18446744073709551616) (hb : b < 18446744073709551616) (h : mayF a s = true) (k : mayF b t = true) (e : encF a s = encF b t) : a = b ∧ s = t := by
  have h1 := dec_enc (⟨#[]⟩ : ByteArray) ha h
  have h2 := dec_enc (⟨#[]⟩ : ByteArray) hb k
  rw [e] at h1
  have hab : a = b := by
    have := (dec_yes h1.1).2.2.1
    have := (dec_yes h2.1).2.2.1
    omega
  subst hab
  exact ⟨rfl, h1.2.1.symm.trans h2.2.1⟩

/-- the place that is so many bytes behind -/
def up (lsn u : Nat) : Nat := (lsn + u) % 18446744073709551616
theorem up_lt (lsn u : Nat) : up lsn u < 18446744073709551616 := Nat.mod_lt _ (by decide)
theorem up_zero {lsn : Nat} (h : lsn < 18446744073709551616) : up lsn 0 = lsn := by unfold up; omega
theorem up_up (lsn a b : Nat) : up (up lsn a) b = up lsn (a + b) := by unfold up; omega
theorem up_of {lsn u : Nat} (h : lsn + u < 18446744073709551616) : up lsn u = lsn + u := by unfold up; omega

/-- what is one behind the other: texts, how many bytes, the error at the end -/
def scan : Nat → ByteArray → Nat → List ByteArray × Nat × Nat
  | 0, _, _ => ([], 0, 0)
  | k + 1, t, lsn =>
    if t.size = 0 then ([], 0, 0)
    else if decE t lsn = 0 then
      let r := scan k (t.extract (decU t lsn) t.size) (up lsn (decU t lsn))
      (decS t lsn :: r.1, decU t lsn + r.2.1, r.2.2)
    else ([], 0, decE t lsn)
theorem scan_succ (k : Nat) (t : ByteArray) (lsn : Nat) : scan (k + 1) t lsn = if t.size = 0 then ([], 0, 0) else if decE t lsn = 0 then (decS t lsn :: (scan k (t.extract (decU t lsn) t.size) (up lsn (decU t lsn))).1, decU t lsn + (scan k (t.extract (decU t lsn) t.size) (up lsn (decU t lsn))).2.1, (scan k (t.extract (decU t lsn) t.size) (up lsn (decU t lsn))).2.2) else ([], 0, decE t lsn) := rfl
def scn (t : ByteArray) (lsn : Nat) : List ByteArray × Nat × Nat := scan t.size t lsn
theorem cut_size (t : ByteArray) (k : Nat) (h : k ≤ t.size) : (t.extract k t.size).size = t.size - k := by rw [ByteArray.size_extract]; omega
theorem scan_more : ∀ (k : Nat) (t : ByteArray) (lsn : Nat), t.size ≤ k → scan (k + 1) t lsn = scan k t lsn := by
  intro k
  induction k with
  | zero =>
    intro t lsn h
    rw [scan_succ, if_pos (by omega)]
    rfl
  | succ k ih =>
    intro t lsn h
    rw [scan_succ (k + 1) t lsn, scan_succ k t lsn]
    by_cases h1 : t.size = 0
    · rw [if_pos h1, if_pos h1]
    rw [if_neg h1, if_neg h1]
    by_cases h2 : decE t lsn = 0
    · have := decU_pos h2
      have e := ih (t.extract (decU t lsn) t.size) (up lsn (decU t lsn)) (by rw [cut_size _ _ this.2]; omega)
      rw [if_pos h2, if_pos h2, e]
    · rw [if_neg h2, if_neg h2]
theorem scan_le (k d : Nat) (t : ByteArray) (lsn : Nat) (h : t.size ≤ k) : scan (k + d) t lsn = scan k t lsn := by
  induction d with
  | zero => rfl
  | succ d ih => rw [← Nat.add_assoc, scan_more _ _ _ (by omega), ih]
theorem scan_at {k : Nat} {t : ByteArray} {lsn : Nat} (h : t.size ≤ k) : scan k t lsn = scn t lsn := by
  obtain ⟨d, rfl⟩ := Nat.le.dest h
  exact scan_le _ _ _ _ (Nat.le_refl _)
theorem scn_nil {t : ByteArray} {lsn : Nat} (h : t.size = 0) : scn t lsn = ([], 0, 0) := by
  unfold scn
  rw [h]
  rfl
theorem scn_no {t : ByteArray} {lsn : Nat} (h : 0 < t.size) (he : decE t lsn ≠ 0) : scn t lsn = ([], 0, decE t lsn) := by
  rw [← scan_at (k := t.size + 1) (by omega), scan_succ, if_neg (by omega), if_neg he]
theorem scn_yes {t : ByteArray} {lsn : Nat} (he : decE t lsn = 0) :
    scn t lsn = (decS t lsn :: (scn (t.extract (decU t lsn) t.size) (up lsn (decU t lsn))).1, decU t lsn + (scn (t.extract (decU t lsn) t.size) (up lsn (decU t lsn))).2.1, (scn (t.extract (decU t lsn) t.size) (up lsn (decU t lsn))).2.2) := by
  have h := decU_pos he
  rw [← scan_at (k := t.size + 1) (by omega), scan_succ, if_neg (by omega), if_pos he]
  rw [scan_at (by rw [cut_size _ _ h.2]; omega)]
theorem scn_used (t : ByteArray) (lsn : Nat) : (scn t lsn).2.1 ≤ t.size := by
  suffices h : ∀ k (t : ByteArray) lsn, t.size ≤ k → (scn t lsn).2.1 ≤ t.size from h t.size t lsn (Nat.le_refl _)
  intro k
  induction k with
  | zero => intro t lsn h; rw [scn_nil (by omega)]; exact Nat.zero_le _
  | succ k ih =>
    intro t lsn h
    by_cases h0 : t.size = 0
    · rw [scn_nil h0]; exact Nat.zero_le _
    by_cases he : decE t lsn = 0
    · have hu := decU_pos he
      rw [scn_yes he]
      have := ih (t.extract (decU t lsn) t.size) (up lsn (decU t lsn)) (by rw [cut_size _ _ hu.2]; omega)
      rw [cut_size _ _ hu.2] at this
      simp only
      omega
    · rw [scn_no (by omega) he]; exact Nat.zero_le _

theorem cut_cut (s : ByteArray) (u d : Nat) (h : u + d ≤ s.size) : (s.extract u s.size).extract d (s.extract u s.size).size = s.extract (u + d) s.size := by
  apply L_ext
  rw [L_cut, L_cut, L_cut, cut_size _ _ (by omega), List.drop_take, List.take_take, List.drop_drop]
  congr 1
  omega
theorem cut_all (s : ByteArray) : s.extract 0 s.size = s := by
  apply L_ext
  rw [L_cut, List.drop_zero, List.take_of_length_le (by rw [L_len]; omega)]
/-- a scan that has come to u, and has told xs -/
structure At (s : ByteArray) (lsn : Nat) (xs : List ByteArray) (u : Nat) : Prop where
  le : u ≤ s.size
  len : xs.length ≤ u
  is : scn s lsn = (xs ++ (scn (s.extract u s.size) (up lsn u)).1, u + (scn (s.extract u s.size) (up lsn u)).2.1, (scn (s.extract u s.size) (up lsn u)).2.2)
theorem At.start (s : ByteArray) {lsn : Nat} (h : lsn < 18446744073709551616) : At s lsn [] 0 := by
  refine ⟨Nat.zero_le _, Nat.le_refl _, ?_⟩
  rw [cut_all, up_zero h, Nat.zero_add]
  rfl
theorem At.step {s : ByteArray} {lsn : Nat} {xs : List ByteArray} {u : Nat} (h : At s lsn xs u) (he : decE (s.extract u s.size) (up lsn u) = 0) :
    At s lsn (xs ++ [decS (s.extract u s.size) (up lsn u)]) (u + decU (s.extract u s.size) (up lsn u)) := by
  have hu := decU_pos he
  have hl := h.le
  rw [cut_size _ _ hl] at hu
  refine ⟨by omega, by rw [List.length_append]; have := h.len; simp; omega, ?_⟩
  have e := h.is
  rw [scn_yes he, cut_cut _ _ _ (by omega), up_up] at e
  rw [e]
  simp only [List.append_assoc, List.singleton_append, Nat.add_assoc]
theorem At.stop {s : ByteArray} {lsn : Nat} {xs : List ByteArray} {u : Nat} (h : At s lsn xs u) (hu : u < s.size) (he : decE (s.extract u s.size) (up lsn u) ≠ 0) :
    scn s lsn = (xs, u, decE (s.extract u s.size) (up lsn u)) := by
  have e := h.is
  rw [scn_no (t := s.extract u s.size) (lsn := up lsn u) (by rw [cut_size _ _ h.le]; omega) he] at e
  rw [e, List.append_nil, Nat.add_zero]
theorem At.done {s : ByteArray} {lsn : Nat} {xs : List ByteArray} {u : Nat} (h : At s lsn xs u) (hu : ¬ u < s.size) : scn s lsn = (xs, u, 0) := by
  have e := h.is
  rw [scn_nil (t := s.extract u s.size) (lsn := up lsn u) (by rw [cut_size _ _ h.le]; omega)] at e
  rw [e, List.append_nil, Nat.add_zero]

end Go.Proofs.Ytgohpompgiljiaa.Frame
