/-
  Plain mathematics: texts as lists of bytes; numbers' bytes; bytes that are read from the front (any stage).
  Plain mathematics: ops, as bytes.
  Plain mathematics: lists of ops, as bytes.
-/
import Derived.Test.YtfcibccipkokoaaZ1
namespace Go.Proofs.Ytfcibccipkokoaa.By

/-- a text's bytes -/
abbrev L (s : ByteArray) : List UInt8 := s.data.toList
theorem L_len (s : ByteArray) : (L s).length = s.size := rfl
theorem L_app (s t : ByteArray) : L (s ++ t) = L s ++ L t := by simp [L]
theorem L_ext {s t : ByteArray} (h : L s = L t) : s = t := by
  cases s; cases t
  simp only [L] at h
  simp only [ByteArray.mk.injEq]
  exact Array.toList_inj.1 h
/-- n's bytes, as a text -/
def nb (m n : Nat) : ByteArray := ⟨(be m n).toArray⟩
theorem nb_size (m n : Nat) : (nb m n).size = m := by
  show (be m n).toArray.size = m
  rw [List.size_toArray, be_length]
theorem L_nb (m n : Nat) : L (nb m n) = be m n := by simp [L, nb]
theorem L_cut (s : ByteArray) (a b : Nat) : L (s.extract a b) = ((L s).drop a).take (b - a) := by
  simp only [L, ByteArray.data_extract, Array.toList_extract, List.extract_eq_take_drop]
/-- a list's text -/
abbrev T (l : List UInt8) : ByteArray := ⟨l.toArray⟩
theorem L_T (l : List UInt8) : L (T l) = l := rfl
theorem T_L (s : ByteArray) : T (L s) = s := L_ext rfl
theorem T_size (l : List UInt8) : (T l).size = l.length := rfl
theorem be_num : ∀ (n : Nat) (l : List UInt8), l.length = n → be n (num l) = l := by
  intro n
  induction n with
  | zero =>
    intro l h
    have : l = [] := List.eq_nil_of_length_eq_zero h
    subst this
    rfl
  | succ n ih =>
    intro l h
    have hne : l ≠ [] := by rintro rfl; simp at h
    have e := List.dropLast_concat_getLast hne
    have hb := (l.getLast hne).toNat_lt
    rw [← e, num_snoc, be_snoc, show (256 * num l.dropLast + (l.getLast hne).toNat) / 256 = num l.dropLast from by omega, show (256 * num l.dropLast + (l.getLast hne).toNat) % 256 = (l.getLast hne).toNat from by omega, ih _ (by rw [List.length_dropLast]; omega)]
    simp

/-! ### what is read from the front: what is left, or none, once something was wanting -/
abbrev Rd := Option (List UInt8)
/-- so many bytes -/
def cV (n : Nat) : Rd → List UInt8 × Rd
  | some l => if n ≤ l.length then (l.take n, some (l.drop n)) else ([], none)
  | none => ([], none)
/-- a number of so many bytes -/
def nV (n : Nat) (r : Rd) : Nat × Rd := (num (cV n r).1, (cV n r).2)
theorem cV_of {n : Nat} {l m : List UInt8} (h : l.length = n) : cV n (some (l ++ m)) = (l, some m) := by
  show (if n ≤ (l ++ m).length then ((l ++ m).take n, some ((l ++ m).drop n)) else ([], none)) = _
  rw [if_pos (by rw [List.length_append]; omega), List.take_left' h, List.drop_left' h]
theorem cV_some {n : Nat} {r : Rd} {a m : List UInt8} (h : cV n r = (a, some m)) : r = some (a ++ m) ∧ a.length = n := by
  unfold cV at h
  split at h
  · split at h
    · rename_i l hl
      simp only [Prod.mk.injEq, Option.some.injEq] at h
      obtain ⟨rfl, rfl⟩ := h
      exact ⟨by rw [List.take_append_drop], by rw [List.length_take]; omega⟩
    · simp at h
  · simp at h
theorem nV_of {n x : Nat} (m : List UInt8) (h : x < 256 ^ n) : nV n (some (be n x ++ m)) = (x, some m) := by
  unfold nV
  rw [cV_of (be_length _ _), num_be n x h]
theorem nV_none (n : Nat) : nV n none = (0, none) := rfl
theorem nV_some {n x : Nat} {r : Rd} {m : List UInt8} (h : nV n r = (x, some m)) : r = some (be n x ++ m) ∧ x < 256 ^ n := by
  unfold nV at h
  simp only [Prod.mk.injEq] at h
  obtain ⟨h1, h2⟩ := h
  have h3 : cV n r = ((cV n r).1, some m) := by rw [← h2]
  obtain ⟨e, hl⟩ := cV_some h3
  refine ⟨?_, by rw [← h1]; exact num_lt_of (Nat.le_of_eq hl)⟩
  rw [e, ← h1, be_num n _ hl]
/-- a text: how many bytes, in two; these -/
def tV (r : Rd) : ByteArray × Rd := (T (cV (nV 2 r).1 (nV 2 r).2).1, (cV (nV 2 r).1 (nV 2 r).2).2)
/-- a text's bytes, ahead of them how many -/
def tb (s : ByteArray) : List UInt8 := be 2 s.size ++ L s
theorem tV_of {s : ByteArray} (m : List UInt8) (h : s.size < 65536) : tV (some (tb s ++ m)) = (s, some m) := by
  unfold tV tb
  rw [List.append_assoc, nV_of _ (by omega)]
  simp only
  rw [cV_of (L_len s)]
theorem tV_none : tV none = (⟨#[]⟩, none) := rfl
theorem tV_some {r : Rd} {s : ByteArray} {m : List UInt8} (h : tV r = (s, some m)) : r = some (tb s ++ m) ∧ s.size < 65536 := by
  unfold tV at h
  simp only [Prod.mk.injEq] at h
  obtain ⟨h1, h2⟩ := h
  cases hr : (nV 2 r).2 with
  | none => rw [hr] at h2; simp [cV] at h2
  | some l =>
    have h3 : nV 2 r = ((nV 2 r).1, some l) := by rw [← hr]
    obtain ⟨e1, e2⟩ := nV_some h3
    rw [hr] at h1 h2
    have h4 : cV (nV 2 r).1 (some l) = ((cV (nV 2 r).1 (some l)).1, some m) := by rw [← h2]
    obtain ⟨e3, e4⟩ := cV_some h4
    have e5 : l = (cV (nV 2 r).1 (some l)).1 ++ m := Option.some.inj e3
    have e6 : L s = (cV (nV 2 r).1 (some l)).1 := by rw [← h1]
    have e7 : s.size = (nV 2 r).1 := by rw [← L_len, e6, e4]
    refine ⟨?_, by rw [e7]; exact e2⟩
    unfold tb
    rw [e1, e7, e6, List.append_assoc, ← e5]
/-- so many texts -/
def tsV : Nat → Rd → List ByteArray × Rd
  | 0, r => ([], r)
  | k + 1, r => ((tV r).1 :: (tsV k (tV r).2).1, (tsV k (tV r).2).2)
theorem tsV_of : ∀ (l : List ByteArray) (m : List UInt8), (∀ s ∈ l, s.size < 65536) → tsV l.length (some (l.flatMap tb ++ m)) = (l, some m) := by
  intro l
  induction l with
  | nil => intro m _; rfl
  | cons s l ih =>
    intro m h
    rw [List.length_cons, List.flatMap_cons, List.append_assoc, tsV, tV_of _ (h s (List.mem_cons_self ..)), ih m (fun x hx => h x (List.mem_cons_of_mem _ hx))]
theorem tsV_none : ∀ k, (tsV k none).2 = none := by
  intro k
  induction k with
  | zero => rfl
  | succ k ih => rw [tsV, tV_none]; exact ih
theorem tsV_some : ∀ (k : Nat) (r : Rd) (l : List ByteArray) (m : List UInt8), tsV k r = (l, some m) → r = some (l.flatMap tb ++ m) ∧ l.length = k ∧ ∀ s ∈ l, s.size < 65536 := by
  intro k
  induction k with
  | zero =>
    intro r l m h
    simp only [tsV, Prod.mk.injEq] at h
    obtain ⟨rfl, rfl⟩ := h
    exact ⟨rfl, rfl, fun s hs => by cases hs⟩
  | succ k ih =>
    intro r l m h
    simp only [tsV, Prod.mk.injEq] at h
    obtain ⟨h1, h2⟩ := h
    cases hr : (tV r).2 with
    | none => rw [hr, tsV_none] at h2; cases h2
    | some q =>
      have h3 : tV r = ((tV r).1, some q) := by rw [← hr]
      obtain ⟨e1, e2⟩ := tV_some h3
      rw [hr] at h1 h2
      have h4 : tsV k (some q) = ((tsV k (some q)).1, some m) := by rw [← h2]
      obtain ⟨e3, e4, e5⟩ := ih _ _ _ h4
      subst h1
      refine ⟨?_, by rw [List.length_cons, e4], fun s hs => ?_⟩
      · exact e1.trans (by rw [List.flatMap_cons, List.append_assoc, ← Option.some.inj e3])
      · rcases List.mem_cons.1 hs with rfl | hs
        · exact e2
        · exact e5 s hs

theorem nV_get {n : Nat} {r : Rd} {m : List UInt8} (h : (nV n r).2 = some m) : r = some (be n (nV n r).1 ++ m) ∧ (nV n r).1 < 256 ^ n := nV_some (by rw [← h])
theorem tV_get {r : Rd} {m : List UInt8} (h : (tV r).2 = some m) : r = some (tb (tV r).1 ++ m) ∧ (tV r).1.size < 65536 := tV_some (by rw [← h])
theorem tsV_get {k : Nat} {r : Rd} {m : List UInt8} (h : (tsV k r).2 = some m) : r = some ((tsV k r).1.flatMap tb ++ m) ∧ (tsV k r).1.length = k ∧ ∀ s ∈ (tsV k r).1, s.size < 65536 := tsV_some k r _ m (by rw [← h])

end Go.Proofs.Ytfcibccipkokoaa.By

namespace Go.Proofs.Ytfcibccipkokoaa.Op
open Go.Proofs.Ytfcibccipkokoaa.By

/-- an op: what it has -/
structure O where
  kind : Nat
  page : Nat
  at' : Int
  off : Int
  text : ByteArray
  rows : List ByteArray
  pkind : Nat
  level : Nat
  next : Nat
  deriving DecidableEq
def O.zero : O := ⟨0, 0, 0, 0, ⟨#[]⟩, [], 0, 0, 0⟩
structure O.wf (o : O) : Prop where
  kind : o.kind < 256
  page : o.page < 4294967296
  pkind : o.pkind < 256
  level : o.level < 256
  next : o.next < 4294967296
/-- what its kind has alone -/
def only (o : O) : O :=
  if o.kind = 1 then { O.zero with kind := o.kind, page := o.page, pkind := o.pkind, level := o.level, next := o.next }
  else if o.kind = 2 ∨ o.kind = 3 then { O.zero with kind := o.kind, page := o.page, at' := o.at', text := o.text }
  else if o.kind = 4 ∨ o.kind = 5 then { O.zero with kind := o.kind, page := o.page, at' := o.at' }
  else if o.kind = 6 then { O.zero with kind := o.kind, page := o.page, rows := o.rows }
  else if o.kind = 7 then { O.zero with kind := o.kind, page := o.page, next := o.next }
  else if o.kind = 8 then { O.zero with kind := o.kind, page := o.page, at' := o.at', off := o.off, text := o.text }
  else { O.zero with kind := o.kind, page := o.page }
/-- how many bytes rows have -/
def total (l : List ByteArray) : Nat := (l.map ByteArray.size).sum
theorem total_cons (s : ByteArray) (l : List ByteArray) : total (s :: l) = s.size + total l := by simp [total]
theorem total_le {l : List ByteArray} {s : ByteArray} (h : s ∈ l) : s.size ≤ total l := by
  induction l with
  | nil => cases h
  | cons x l ih =>
    rw [total_cons]
    rcases List.mem_cons.1 h with rfl | h
    · omega
    · have := ih h; omega
/-- may it be? -/
structure May (o : O) : Prop where
  k1 : 1 ≤ o.kind
  k8 : o.kind ≤ 8
  p1 : 1 ≤ o.page
  p2 : o.page ≤ 1024
  nx : o.next ≤ 1024
  pk : o.pkind ≤ 5
  a0 : 0 ≤ o.at'
  a1 : o.at' ≤ 488
  o0 : 0 ≤ o.off
  o1 : o.off ≤ 488
  rl : o.rows.length ≤ 488
  tt : o.text.size + total o.rows ≤ 488
  on : only o = o
instance (o : O) : Decidable (May o) :=
  decidable_of_iff (1 ≤ o.kind ∧ o.kind ≤ 8 ∧ 1 ≤ o.page ∧ o.page ≤ 1024 ∧ o.next ≤ 1024 ∧ o.pkind ≤ 5 ∧ 0 ≤ o.at' ∧ o.at' ≤ 488 ∧ 0 ≤ o.off ∧ o.off ≤ 488 ∧ o.rows.length ≤ 488 ∧ o.text.size + total o.rows ≤ 488 ∧ only o = o)
    ⟨fun ⟨a, b, c, d, e, f, g, h, i, j, k, l, m⟩ => ⟨a, b, c, d, e, f, g, h, i, j, k, l, m⟩, fun h => ⟨h.k1, h.k8, h.p1, h.p2, h.nx, h.pk, h.a0, h.a1, h.o0, h.o1, h.rl, h.tt, h.on⟩⟩

/-- its bytes -/
def tail (o : O) : List UInt8 :=
  if o.kind = 1 then be 1 o.pkind ++ (be 1 o.level ++ be 4 o.next)
  else if o.kind = 2 ∨ o.kind = 3 then be 2 o.at'.toNat ++ tb o.text
  else if o.kind = 4 ∨ o.kind = 5 then be 2 o.at'.toNat
  else if o.kind = 6 then be 2 o.rows.length ++ o.rows.flatMap tb
  else if o.kind = 7 then be 4 o.next
  else if o.kind = 8 then be 2 o.at'.toNat ++ (be 2 o.off.toNat ++ tb o.text)
  else []
def bytes (o : O) : List UInt8 := be 1 o.kind ++ (be 4 o.page ++ tail o)
/-- the op that stands at the front -/
def tailV (k p : Nat) (r : Rd) : O × Rd :=
  let z : O := { O.zero with kind := k, page := p }
  if k = 1 then ({ z with pkind := (nV 1 r).1, level := (nV 1 (nV 1 r).2).1, next := (nV 4 (nV 1 (nV 1 r).2).2).1 }, (nV 4 (nV 1 (nV 1 r).2).2).2)
  else if k = 2 ∨ k = 3 then ({ z with at' := (nV 2 r).1, text := (tV (nV 2 r).2).1 }, (tV (nV 2 r).2).2)
  else if k = 4 ∨ k = 5 then ({ z with at' := (nV 2 r).1 }, (nV 2 r).2)
  else if k = 6 then ({ z with rows := (tsV (nV 2 r).1 (nV 2 r).2).1 }, (tsV (nV 2 r).1 (nV 2 r).2).2)
  else if k = 7 then ({ z with next := (nV 4 r).1 }, (nV 4 r).2)
  else if k = 8 then ({ z with at' := (nV 2 r).1, off := (nV 2 (nV 2 r).2).1, text := (tV (nV 2 (nV 2 r).2).2).1 }, (tV (nV 2 (nV 2 r).2).2).2)
  else (z, r)
def opV (r : Rd) : O × Rd := tailV (nV 1 r).1 (nV 4 (nV 1 r).2).1 (nV 4 (nV 1 r).2).2

theorem kinds {k : Nat} (h1 : 1 ≤ k) (h8 : k ≤ 8) : k = 1 ∨ k = 2 ∨ k = 3 ∨ k = 4 ∨ k = 5 ∨ k = 6 ∨ k = 7 ∨ k = 8 := by omega
/-- what was written is read -/
theorem tailV_of {o : O} (m : List UInt8) (h : May o) (w : o.wf) : tailV o.kind o.page (some (tail o ++ m)) = (o, some m) := by
  have on := h.on
  have ha : o.at'.toNat < 65536 := by have := h.a1; omega
  have ho : o.off.toNat < 65536 := by have := h.o1; omega
  have ea : ((o.at'.toNat : Nat) : Int) = o.at' := Int.toNat_of_nonneg h.a0
  have eo : ((o.off.toNat : Nat) : Int) = o.off := Int.toNat_of_nonneg h.o0
  have ht : o.text.size < 65536 := by have := h.tt; omega
  have hr : ∀ s ∈ o.rows, s.size < 65536 := fun s hs => by have := total_le hs; have := h.tt; omega
  have hrl : o.rows.length < 65536 := by have := h.rl; omega
  have h1 := w.pkind
  have h2 := w.level
  have h3 := w.next
  obtain ⟨kind, page, at', off, text, rows, pkind, level, next⟩ := o
  simp only at *
  rcases kinds h.k1 h.k8 with e | e | e | e | e | e | e | e
  all_goals
    simp only at e
    subst e
    simp [only, O.zero] at on
    unfold tailV tail
    simp only [reduceIte, Nat.reduceEqDiff, or_true, or_false, or_self, List.append_assoc]
  · rw [nV_of _ (by omega), nV_of _ (by omega), nV_of _ (by omega)]
    simp only [O.zero]
    grind
  · rw [nV_of _ (by omega), tV_of _ ht]
    simp only [ea, O.zero]
    grind
  · rw [nV_of _ (by omega), tV_of _ ht]
    simp only [ea, O.zero]
    grind
  · rw [nV_of _ (by omega)]
    simp only [ea, O.zero]
    grind
  · rw [nV_of _ (by omega)]
    simp only [ea, O.zero]
    grind
  · rw [nV_of _ (by omega), tsV_of _ _ hr]
    simp only [O.zero]
    grind
  · rw [nV_of _ (by omega)]
    simp only [O.zero]
    grind
  · rw [nV_of _ (by omega), nV_of _ (by omega), tV_of _ ht]
    simp only [ea, eo, O.zero]
    grind
theorem opV_of {o : O} (m : List UInt8) (h : May o) (w : o.wf) : opV (some (bytes o ++ m)) = (o, some m) := by
  have h1 := w.kind
  have h2 := w.page
  unfold opV bytes
  simp only [List.append_assoc]
  rw [nV_of _ (by omega)]
  simp only
  rw [nV_of _ (by omega)]
  exact tailV_of m h w
/-- what is read is written so -/
theorem tailV_get {k p : Nat} {r : Rd} {m : List UInt8} (h : (tailV k p r).2 = some m) (hk : k < 256) (hp : p < 4294967296) :
    r = some (tail (tailV k p r).1 ++ m) ∧ (tailV k p r).1.wf ∧ only (tailV k p r).1 = (tailV k p r).1 ∧ 0 ≤ (tailV k p r).1.at' ∧ 0 ≤ (tailV k p r).1.off ∧ (tailV k p r).1.kind = k ∧ (tailV k p r).1.page = p := by
  unfold tailV at h ⊢
  simp only at h ⊢
  by_cases e1 : k = 1
  · subst e1
    simp only [reduceIte] at h ⊢
    obtain ⟨g3, b3⟩ := nV_get h
    obtain ⟨g2, b2⟩ := nV_get g3
    obtain ⟨g1, b1⟩ := nV_get g2
    refine ⟨?_, ⟨hk, hp, by simpa using b1, by simpa using b2, by simpa using b3⟩, by simp [only, O.zero], by simp [O.zero], by simp [O.zero], (by first | rfl | trivial), (by first | rfl | trivial)⟩
    refine g1.trans ?_
    simp only [tail, reduceIte, List.append_assoc]
  rw [if_neg e1] at h ⊢
  by_cases e2 : k = 2 ∨ k = 3
  · rw [if_pos e2] at h ⊢
    obtain ⟨g2, b2⟩ := tV_get h
    obtain ⟨g1, b1⟩ := nV_get g2
    refine ⟨?_, ⟨hk, hp, by simp [O.zero], by simp [O.zero], by simp [O.zero]⟩, ?_, by simp, by simp [O.zero], (by first | rfl | trivial), (by first | rfl | trivial)⟩
    · refine g1.trans ?_
      simp only [tail, if_neg e1, if_pos e2, Int.toNat_natCast, List.append_assoc]
    · simp only [only, if_neg e1, if_pos e2, O.zero]
  rw [if_neg e2] at h ⊢
  by_cases e3 : k = 4 ∨ k = 5
  · rw [if_pos e3] at h ⊢
    obtain ⟨g1, b1⟩ := nV_get h
    refine ⟨?_, ⟨hk, hp, by simp [O.zero], by simp [O.zero], by simp [O.zero]⟩, ?_, by simp, by simp [O.zero], (by first | rfl | trivial), (by first | rfl | trivial)⟩
    · refine g1.trans ?_
      simp only [tail, if_neg e1, if_neg e2, if_pos e3, Int.toNat_natCast]
    · simp only [only, if_neg e1, if_neg e2, if_pos e3, O.zero]
  rw [if_neg e3] at h ⊢
  by_cases e4 : k = 6
  · subst e4
    simp only [reduceIte] at h ⊢
    obtain ⟨g2, b2, b3⟩ := tsV_get h
    obtain ⟨g1, b1⟩ := nV_get g2
    refine ⟨?_, ⟨hk, hp, by simp [O.zero], by simp [O.zero], by simp [O.zero]⟩, by simp [only, O.zero], by simp [O.zero], by simp [O.zero], (by first | rfl | trivial), (by first | rfl | trivial)⟩
    refine g1.trans ?_
    simp only [tail, b2]
    simp
  rw [if_neg e4] at h ⊢
  by_cases e5 : k = 7
  · subst e5
    simp only [reduceIte] at h ⊢
    obtain ⟨g1, b1⟩ := nV_get h
    refine ⟨?_, ⟨hk, hp, by simp [O.zero], by simp [O.zero], by simpa using b1⟩, by simp [only, O.zero], by simp [O.zero], by simp [O.zero], (by first | rfl | trivial), (by first | rfl | trivial)⟩
    refine g1.trans ?_
    simp [tail]
  rw [if_neg e5] at h ⊢
  by_cases e6 : k = 8
  · subst e6
    simp only [reduceIte] at h ⊢
    obtain ⟨g3, b3⟩ := tV_get h
    obtain ⟨g2, b2⟩ := nV_get g3
    obtain ⟨g1, b1⟩ := nV_get g2
    refine ⟨?_, ⟨hk, hp, by simp [O.zero], by simp [O.zero], by simp [O.zero]⟩, by simp [only, O.zero], by simp, by simp, (by first | rfl | trivial), (by first | rfl | trivial)⟩
    refine g1.trans ?_
    simp [tail]
  rw [if_neg e6] at h ⊢
  refine ⟨?_, ⟨hk, hp, by simp [O.zero], by simp [O.zero], by simp [O.zero]⟩, ?_, by simp [O.zero], by simp [O.zero], (by first | rfl | trivial), (by first | rfl | trivial)⟩
  · simp only at h
    subst h
    simp only [tail, if_neg e1, if_neg e2, if_neg e3, if_neg e4, if_neg e5, if_neg e6, List.nil_append]
  · simp only [only, if_neg e1, if_neg e2, if_neg e3, if_neg e4, if_neg e5, if_neg e6]
theorem opV_get {r : Rd} {m : List UInt8} (h : (opV r).2 = some m) : r = some (bytes (opV r).1 ++ m) ∧ (opV r).1.wf ∧ only (opV r).1 = (opV r).1 ∧ 0 ≤ (opV r).1.at' ∧ 0 ≤ (opV r).1.off := by
  cases h1 : (nV 4 (nV 1 r).2).2 with
  | none =>
    exfalso
    unfold opV at h
    rw [h1] at h
    revert h
    generalize (nV 1 r).1 = k
    generalize (nV 4 (nV 1 r).2).1 = p
    unfold tailV
    simp only [nV_none, tV_none, tsV_none]
    intro h
    split at h
    · cases h
    split at h
    · cases h
    split at h
    · cases h
    split at h
    · cases h
    split at h
    · cases h
    split at h
    · cases h
    · cases h
  | some q =>
    obtain ⟨g2, b2⟩ := nV_get h1
    obtain ⟨g1, b1⟩ := nV_get g2
    unfold opV at h ⊢
    rw [h1] at h ⊢
    obtain ⟨t1, t2, t3, t4, t5, t6, t7⟩ := tailV_get h (by simpa using b1) (by simpa using b2)
    refine ⟨?_, t2, t3, t4, t5⟩
    refine g1.trans ?_
    unfold bytes
    rw [t6, t7]
    conv => lhs; rw [Option.some.inj t1]
    simp only [List.append_assoc]

end Go.Proofs.Ytfcibccipkokoaa.Op

namespace Go.Proofs.Ytfcibccipkokoaa.Op
open Go.Proofs.Ytfcibccipkokoaa.By

def allMay (l : List O) : Bool := l.all fun o => decide (May o)
theorem allMay_iff {l : List O} : allMay l = true ↔ ∀ o ∈ l, May o := by simp [allMay]
/-- a list's bytes -/
def encL (l : List O) : List UInt8 := be 1 l.length ++ l.flatMap bytes
def encE (l : List O) : Nat := if 32 < l.length then 5 else if allMay l then 0 else 2
def encS (l : List O) : ByteArray := if encE l = 0 then T (encL l) else ⟨#[]⟩
theorem enc_ok {l : List O} (h : encE l = 0) : l.length ≤ 32 ∧ (∀ o ∈ l, May o) ∧ L (encS l) = encL l := by
  have hs : encS l = T (encL l) := by unfold encS; rw [if_pos h]
  unfold encE at h
  split at h
  · cases h
  · split at h
    · rename_i h1 h2
      exact ⟨by omega, allMay_iff.1 h2, by rw [hs]⟩
    · cases h
theorem enc_yes {l : List O} (h1 : l.length ≤ 32) (h2 : ∀ o ∈ l, May o) : encE l = 0 := by
  unfold encE
  rw [if_neg (by omega), if_pos (allMay_iff.2 h2)]
/-- so many ops, each of which may be -/
def lsV : Nat → Rd → Option (List O × Rd)
  | 0, r => some ([], r)
  | k + 1, r => if (opV r).2 = none then none else if May (opV r).1 then (lsV k (opV r).2).map (fun x => ((opV r).1 :: x.1, x.2)) else none
/-- the list that bytes are -/
def decL (s : ByteArray) : Option (List O) :=
  if (nV 1 (some (L s))).2 = none then none else if 32 < (nV 1 (some (L s))).1 then none
  else (lsV (nV 1 (some (L s))).1 (nV 1 (some (L s))).2).bind fun x => if x.2 = some [] then some x.1 else none
theorem lsV_of : ∀ (l : List O) (m : List UInt8), (∀ o ∈ l, May o ∧ o.wf) → lsV l.length (some (l.flatMap bytes ++ m)) = some (l, some m) := by
  intro l
  induction l with
  | nil => intro m _; rfl
  | cons o l ih =>
    intro m h
    obtain ⟨h1, h2⟩ := h o (List.mem_cons_self ..)
    rw [List.length_cons, List.flatMap_cons, List.append_assoc, lsV, opV_of _ h1 h2, if_neg (by simp), if_pos h1, ih m (fun x hx => h x (List.mem_cons_of_mem _ hx))]
    rfl
theorem lsV_get : ∀ (k : Nat) (r : Rd) (l : List O) (m : List UInt8), lsV k r = some (l, some m) → r = some (l.flatMap bytes ++ m) ∧ l.length = k ∧ ∀ o ∈ l, May o ∧ o.wf := by
  intro k
  induction k with
  | zero =>
    intro r l m h
    simp only [lsV, Option.some.injEq, Prod.mk.injEq] at h
    obtain ⟨rfl, rfl⟩ := h
    exact ⟨rfl, rfl, fun o ho => by cases ho⟩
  | succ k ih =>
    intro r l m h
    rw [lsV] at h
    split at h
    · cases h
    rename_i hn
    split at h
    · rename_i hm
      cases hq : (opV r).2 with
      | none => exact absurd hq hn
      | some q =>
        obtain ⟨g1, g2, _⟩ := opV_get hq
        rw [hq, Option.map_eq_some_iff] at h
        obtain ⟨⟨l2, r2⟩, e1, e2⟩ := h
        simp only [Prod.mk.injEq] at e2
        obtain ⟨rfl, rfl⟩ := e2
        obtain ⟨h1, h2, h3⟩ := ih _ _ _ e1
        refine ⟨?_, by rw [List.length_cons, h2], fun o ho => ?_⟩
        · refine g1.trans ?_
          rw [List.flatMap_cons, List.append_assoc, Option.some.inj h1]
        · rcases List.mem_cons.1 ho with rfl | ho
          · exact ⟨hm, g2⟩
          · exact h3 o ho
    · cases h
/-- what was written is read -/
theorem dec_enc {l : List O} (h : encE l = 0) (w : ∀ o ∈ l, o.wf) : decL (encS l) = some l := by
  obtain ⟨h1, h2, h3⟩ := enc_ok h
  unfold decL
  rw [h3]
  unfold encL
  rw [nV_of _ (by omega), if_neg (by simp), if_neg (by simp only; omega)]
  have := lsV_of l [] fun o ho => ⟨h2 o ho, w o ho⟩
  rw [List.append_nil] at this
  simp only
  rw [this]
  rfl
/-- what is read is written as itself -/
theorem enc_dec {s : ByteArray} {l : List O} (h : decL s = some l) : encE l = 0 ∧ encS l = s ∧ ∀ o ∈ l, o.wf := by
  unfold decL at h
  split at h
  · cases h
  rename_i h1
  split at h
  · cases h
  rename_i h2
  rw [Option.bind_eq_some_iff] at h
  obtain ⟨⟨l2, r2⟩, e1, e2⟩ := h
  split at e2
  · rename_i hr
    simp only at hr
    subst hr
    simp only [Option.some.injEq] at e2
    subst e2
    cases hq : (nV 1 (some (L s))).2 with
    | none => exact absurd hq h1
    | some q =>
      obtain ⟨g1, g2⟩ := nV_get hq
      rw [hq] at e1
      obtain ⟨f1, f2, f3⟩ := lsV_get _ _ _ _ e1
      have he : encE l2 = 0 := enc_yes (by omega) fun o ho => (f3 o ho).1
      refine ⟨he, L_ext ?_, fun o ho => (f3 o ho).2⟩
      rw [(enc_ok he).2.2]
      unfold encL
      refine Eq.trans ?_ (Option.some.inj g1).symm
      rw [f2, Option.some.inj f1, List.append_nil]
  · cases e2
/-! ### while it is read -/
/-- i ops of n have been read: xs; what is left: r -/
structure Rdg (n : Nat) (r0 : Rd) (xs : List O) (r : Rd) : Prop where
  le : xs.length ≤ n
  is : lsV n r0 = (lsV (n - xs.length) r).map fun x => (xs ++ x.1, x.2)
theorem Rdg.start (n : Nat) (r : Rd) : Rdg n r [] r := by
  refine ⟨Nat.zero_le _, ?_⟩
  simp
theorem Rdg.step {n : Nat} {r0 : Rd} {xs : List O} {r : Rd} (h : Rdg n r0 xs r) (hl : xs.length < n) (h1 : (opV r).2 ≠ none) (h2 : May (opV r).1) : Rdg n r0 (xs ++ [(opV r).1]) (opV r).2 := by
  refine ⟨by rw [List.length_append]; simp; omega, ?_⟩
  have e : n - xs.length = (n - (xs ++ [(opV r).1]).length) + 1 := by rw [List.length_append]; simp; omega
  rw [h.is, e, lsV, if_neg h1, if_pos h2, Option.map_map]
  congr 1
  funext x
  simp
theorem Rdg.stop {n : Nat} {r0 : Rd} {xs : List O} {r : Rd} (h : Rdg n r0 xs r) (hl : xs.length < n) (h1 : (opV r).2 = none ∨ ¬ May (opV r).1) : lsV n r0 = none := by
  have e : n - xs.length = (n - xs.length - 1) + 1 := by omega
  rw [h.is, e, lsV]
  rcases h1 with h1 | h1
  · rw [if_pos h1]; rfl
  · rw [if_neg h1]
    split <;> rfl
theorem Rdg.done {n : Nat} {r0 : Rd} {xs : List O} {r : Rd} (h : Rdg n r0 xs r) (hl : ¬ xs.length < n) : lsV n r0 = some (xs, r) := by
  have e : n - xs.length = 0 := by omega
  rw [h.is, e, lsV]
  simp

end Go.Proofs.Ytfcibccipkokoaa.Op
