/- Plain mathematics: records of the log, and their bytes. -/
import Derived.Test.YtfcibccipkokoaaWD
namespace Go.Proofs.Ytfcibccipkokoaa.Rec

/-- a page that may be elder, and since when -/
structure Di where
  page : Nat
  lsn : Nat
/-- somebody who goes on -/
structure Ac where
  tx : Nat
  first : Nat
  last : Nat
  next : Nat
/-- a record -/
structure Rc where
  kind : Nat
  tx : Nat
  prev : Nat
  page : Nat
  slot : Nat
  next : Nat
  number : Nat
  body : ByteArray
  dirty : List Di
  txns : List Ac
  ttx : Nat
  tnum : Nat
instance : DecidableEq Di := fun a b => decidable_of_iff (a.page = b.page ∧ a.lsn = b.lsn) ⟨by obtain ⟨p, q⟩ := a; obtain ⟨x, y⟩ := b; rintro ⟨h1, h2⟩; simp only at h1 h2; rw [h1, h2], by rintro rfl; exact ⟨rfl, rfl⟩⟩
instance : DecidableEq Ac := fun a b => decidable_of_iff (a.tx = b.tx ∧ a.first = b.first ∧ a.last = b.last ∧ a.next = b.next) ⟨by obtain ⟨p, q, r, s⟩ := a; obtain ⟨x, y, z, u⟩ := b; rintro ⟨h1, h2, h3, h4⟩; simp only at h1 h2 h3 h4; rw [h1, h2, h3, h4], by rintro rfl; exact ⟨rfl, rfl, rfl, rfl⟩⟩

structure Di.wf (d : Di) : Prop where
  page : d.page < 4294967296
  lsn : d.lsn < 18446744073709551616
structure Ac.wf (a : Ac) : Prop where
  tx : a.tx < 18446744073709551616
  first : a.first < 18446744073709551616
  last : a.last < 18446744073709551616
  next : a.next < 18446744073709551616
structure Rc.wf (r : Rc) : Prop where
  kind : r.kind < 256
  tx : r.tx < 18446744073709551616
  prev : r.prev < 18446744073709551616
  page : r.page < 4294967296
  slot : r.slot < 65536
  next : r.next < 18446744073709551616
  number : r.number < 18446744073709551616
  body : r.body.size ≤ 140737488351232
  ttx : r.ttx < 18446744073709551616
  tnum : r.tnum < 18446744073709551616
  dirty : r.dirty.length ≤ 140737488351232
  txns : r.txns.length ≤ 140737488351232
  each : ∀ (i : Nat) (d : Di), r.dirty[i]? = some d → d.wf
  eacht : ∀ (i : Nat) (d : Ac), r.txns[i]? = some d → d.wf

def Rc.zero : Rc := ⟨0, 0, 0, 0, 0, 0, 0, ⟨#[]⟩, [], [], 0, 0⟩

/-- whether both are the same -/
def sameTab (a b : Rc) : Bool := decide (a.ttx = b.ttx) && (decide (a.tnum = b.tnum) && (decide (a.dirty = b.dirty) && decide (a.txns = b.txns)))
def sameC (a b : Rc) : Bool := decide (a.kind = b.kind) && (decide (a.tx = b.tx) && (decide (a.prev = b.prev) && (decide (a.page = b.page ∧ a.slot = b.slot) && (decide (a.next = b.next) && (decide (a.number = b.number) && (decide (a.body = b.body) && sameTab a b))))))
theorem same_iff (a b : Rc) : sameC a b = true ↔ a = b := by
  unfold sameC sameTab
  simp only [Bool.and_eq_true, decide_eq_true_eq]
  constructor
  · obtain ⟨a1, a2, a3, a4, a5, a6, a7, a8, a9, a10, a11, a12⟩ := a
    obtain ⟨b1, b2, b3, b4, b5, b6, b7, b8, b9, b10, b11, b12⟩ := b
    simp only
    rintro ⟨rfl, rfl, rfl, ⟨rfl, rfl⟩, rfl, rfl, rfl, rfl, rfl, rfl, rfl⟩
    rfl
  · rintro rfl
    simp
theorem same_self (a : Rc) : sameC a a = true := (same_iff a a).2 rfl

/-- what a record of some kind has -/
structure Pt where
  owned : Bool
  nobodys : Bool
  roll : Bool
  next : Bool
  number : Bool
  body : Bool
  tables : Bool
def ptOf (k : Nat) : Pt :=
  if k = 1 then ⟨true, false, false, false, false, false, false⟩
  else if k = 5 then ⟨true, false, false, false, false, false, false⟩
  else if k = 2 then ⟨true, false, true, false, false, true, false⟩
  else if k = 3 then ⟨true, false, false, true, false, true, false⟩
  else if k = 4 then ⟨true, false, false, false, true, true, false⟩
  else if k = 6 then ⟨true, true, false, false, false, true, false⟩
  else if k = 7 then ⟨false, true, false, false, false, false, false⟩
  else if k = 8 then ⟨false, true, false, false, false, false, true⟩
  else ⟨false, false, false, false, false, false, false⟩

def mayDiFrom : Nat → List Di → Bool
  | _, [] => true
  | m, d :: l => decide (m < d.page) && (decide (0 < d.lsn) && mayDiFrom d.page l)
def mayAcFrom : Nat → List Ac → Bool
  | _, [] => true
  | m, d :: l => decide (m < d.tx) && (decide (0 < d.first) && (decide (0 < d.last) && mayAcFrom d.tx l))
def mayDi (l : List Di) : Bool := mayDiFrom 0 l && decide (l.length ≤ 64)
def mayAc (l : List Ac) : Bool := mayAcFrom 0 l && decide (l.length ≤ 64)
def mayTx (r : Rc) (p : Pt) : Bool := if r.tx = 0 then p.nobodys && decide (r.prev = 0) else p.owned
def mayRoll (page slot : Nat) (has : Bool) : Bool := if page = 0 then decide (slot = 0) else has
def nilTab (r : Rc) : Bool := decide (r.ttx = 0) && (decide (r.tnum = 0) && (decide (r.dirty = []) && decide (r.txns = [])))
def okTab (r : Rc) : Bool := decide (0 < r.ttx) && (decide (0 < r.tnum) && (mayDi r.dirty && mayAc r.txns))
def mayTab (r : Rc) (has : Bool) : Bool := if has then okTab r else nilTab r
def mayPt (r : Rc) (p : Pt) : Bool := mayRoll r.page r.slot p.roll && ((p.next || decide (r.next = 0)) && ((p.number == decide (0 < r.number)) && ((p.body == decide (0 < r.body.size)) && (decide (r.body.size ≤ 3072) && mayTab r p.tables))))
def mayC (r : Rc) : Bool := mayTx r (ptOf r.kind) && mayPt r (ptOf r.kind)

/-- a number's bytes -/
def nb (m n : Nat) : ByteArray := ⟨(be m n).toArray⟩
theorem nb_size (m n : Nat) : (nb m n).size = m := by
  show (be m n).length = m
  exact be_length m n
def diS (d : Di) : ByteArray := nb 4 d.page ++ nb 8 d.lsn
def acS (a : Ac) : ByteArray := nb 8 a.tx ++ nb 8 a.first ++ nb 8 a.last ++ nb 8 a.next
def disS (l : List Di) : ByteArray := l.foldl (fun s d => s ++ diS d) ⟨#[]⟩
def acsS (l : List Ac) : ByteArray := l.foldl (fun s d => s ++ acS d) ⟨#[]⟩
theorem dis_snoc (l : List Di) (d : Di) : disS (l ++ [d]) = disS l ++ diS d := by unfold disS; rw [List.foldl_append]; rfl
theorem acs_snoc (l : List Ac) (d : Ac) : acsS (l ++ [d]) = acsS l ++ acS d := by unfold acsS; rw [List.foldl_append]; rfl
theorem di_size (d : Di) : (diS d).size = 12 := by simp only [diS, ByteArray.size_append, nb_size]
theorem ac_size (d : Ac) : (acS d).size = 32 := by simp only [acS, ByteArray.size_append, nb_size]
theorem dis_size (l : List Di) : (disS l).size = 12 * l.length := by
  suffices h : ∀ n (l : List Di), l.length = n → (disS l).size = 12 * n from h _ l rfl
  intro n
  induction n with
  | zero => intro l h; rw [List.eq_nil_of_length_eq_zero h]; rfl
  | succ n ih =>
    intro l h
    have hne : l ≠ [] := by intro e; subst e; simp at h
    rw [← List.dropLast_concat_getLast hne, dis_snoc, ByteArray.size_append, di_size, ih _ (by rw [List.length_dropLast]; omega)]
    omega
theorem acs_size (l : List Ac) : (acsS l).size = 32 * l.length := by
  suffices h : ∀ n (l : List Ac), l.length = n → (acsS l).size = 32 * n from h _ l rfl
  intro n
  induction n with
  | zero => intro l h; rw [List.eq_nil_of_length_eq_zero h]; rfl
  | succ n ih =>
    intro l h
    have hne : l ≠ [] := by intro e; subst e; simp at h
    rw [← List.dropLast_concat_getLast hne, acs_snoc, ByteArray.size_append, ac_size, ih _ (by rw [List.length_dropLast]; omega)]
    omega
def headS (r : Rc) : ByteArray := nb 1 r.kind ++ (nb 8 r.tx ++ nb 8 r.prev)
def tabS (r : Rc) : ByteArray := nb 8 r.ttx ++ nb 8 r.tnum ++ nb 1 r.dirty.length ++ disS r.dirty ++ nb 1 r.txns.length ++ acsS r.txns
def midS (r : Rc) : ByteArray := if r.kind = 2 then nb 4 r.page ++ nb 2 r.slot else if r.kind = 3 then nb 8 r.next else if r.kind = 4 then nb 8 r.number else if r.kind = 8 then tabS r else ⟨#[]⟩
def bodyS (r : Rc) : ByteArray := headS r ++ midS r ++ r.body
def encS (r : Rc) : ByteArray := if mayC r then bodyS r else ⟨#[]⟩
def encE (r : Rc) : Int := if mayC r then 0 else 2
def undoneC (r : Rc) : Bool := decide (r.kind = 2) && decide (0 < r.page)
def heavyC (r : Rc) : Bool := decide (8192 < r.body.size) || (decide (100 < r.dirty.length) || decide (100 < r.txns.length))

theorem head_size (r : Rc) : (headS r).size = 17 := by simp only [headS, ByteArray.size_append, nb_size]
theorem tab_size (r : Rc) : (tabS r).size = 18 + 12 * r.dirty.length + 32 * r.txns.length := by
  simp only [tabS, ByteArray.size_append, nb_size, dis_size, acs_size]; omega
/-- a record that may be: its tables are few -/
theorem may_lens {r : Rc} (h : mayC r = true) : r.dirty.length ≤ 64 ∧ r.txns.length ≤ 64 ∧ r.body.size ≤ 3072 := by
  simp only [mayC, mayPt, Bool.and_eq_true, decide_eq_true_eq] at h
  obtain ⟨_, _, _, _, _, hb, ht⟩ := h
  refine ⟨?_, ?_, hb⟩
  · unfold mayTab at ht
    split at ht
    · simp only [okTab, mayDi, Bool.and_eq_true, decide_eq_true_eq] at ht; omega
    · simp only [nilTab, Bool.and_eq_true, decide_eq_true_eq] at ht
      rw [ht.2.2.1]; simp
  · unfold mayTab at ht
    split at ht
    · simp only [okTab, mayAc, Bool.and_eq_true, decide_eq_true_eq] at ht; omega
    · simp only [nilTab, Bool.and_eq_true, decide_eq_true_eq] at ht
      rw [ht.2.2.2]; simp
theorem enc_size_le (r : Rc) : (encS r).size ≤ 5986 := by
  unfold encS
  split
  · rename_i h
    obtain ⟨h1, h2, h3⟩ := may_lens h
    simp only [bodyS, ByteArray.size_append, head_size]
    have : (midS r).size ≤ 2834 := by
      unfold midS
      split
      · simp only [ByteArray.size_append, nb_size]; omega
      split
      · simp only [nb_size]; omega
      split
      · simp only [nb_size]; omega
      split
      · rw [tab_size]; omega
      · exact Nat.zero_le _
    omega
  · exact Nat.zero_le _

/-! ### the document's -/
def bodyB (s : ByteArray) : Bool := decide (1 ≤ s.size) && decide (s.size ≤ 3072)
def plainC (r : Rc) : Bool := decide (r.page = 0 ∧ r.slot = 0) && (decide (r.next = 0) && (decide (r.number = 0) && (decide (r.body.size = 0) && (decide (r.dirty.length = 0) && (decide (r.txns.length = 0) && (decide (r.ttx = 0) && decide (r.tnum = 0)))))))
/-- what a record's kind has is taken away -/
def lessC (r : Rc) : Rc :=
  if r.kind = 2 then { r with page := 0, slot := 0, body := ⟨#[]⟩ }
  else if r.kind = 6 then { r with body := ⟨#[]⟩ }
  else if r.kind = 3 then { r with next := 0, body := ⟨#[]⟩ }
  else if r.kind = 4 then { r with number := 0, body := ⟨#[]⟩ }
  else if r.kind = 8 then { r with dirty := [], txns := [], ttx := 0, tnum := 0 }
  else r
/-- whether what its kind has may be -/
def hasC (r : Rc) : Bool :=
  if r.kind = 1 then true else if r.kind = 5 then true else if r.kind = 7 then true
  else if r.kind = 2 then bodyB r.body && !(decide (r.page = 0) && !decide (r.slot = 0))
  else if r.kind = 6 then bodyB r.body
  else if r.kind = 3 then bodyB r.body
  else if r.kind = 4 then bodyB r.body && !decide (r.number = 0)
  else if r.kind = 8 then okTab r
  else false
def whoseC (r : Rc) : Bool :=
  if r.kind = 7 ∨ r.kind = 8 then decide (r.tx = 0) && decide (r.prev = 0)
  else if r.kind = 6 ∧ r.tx = 0 then decide (r.prev = 0)
  else decide (0 < r.tx)
def rmayC (r : Rc) : Bool := hasC r && (plainC (lessC r) && whoseC r)
theorem len_zero {α} (l : List α) : decide (l.length = 0) = decide (l = []) := by rw [decide_eq_decide]; exact List.length_eq_zero_iff
theorem size_zero (s : ByteArray) : decide (s.size = 0) = !decide (0 < s.size) := by
  rw [Bool.eq_iff_iff]
  simp only [decide_eq_true_eq, Bool.not_eq_true', decide_eq_false_iff_not]
  omega
theorem may_eq (r : Rc) : rmayC r = mayC r := by
  obtain ⟨kind, tx, prev, page, slot, next, number, body, dirty, txns, ttx, tnum⟩ := r
  have z : (⟨#[]⟩ : ByteArray).size = 0 := rfl
  have z2 : ByteArray.empty.size = 0 := rfl
  by_cases h1 : kind = 1
  · subst h1
    rw [Bool.eq_iff_iff]
    simp [rmayC, mayC, hasC, plainC, lessC, whoseC, ptOf, mayTx, mayPt, mayRoll, mayTab, nilTab]
    grind
  by_cases h5 : kind = 5
  · subst h5
    rw [Bool.eq_iff_iff]
    simp [rmayC, mayC, hasC, plainC, lessC, whoseC, ptOf, mayTx, mayPt, mayRoll, mayTab, nilTab]
    grind
  by_cases h2 : kind = 2
  · subst h2
    rw [Bool.eq_iff_iff]
    simp [rmayC, mayC, hasC, plainC, lessC, whoseC, ptOf, mayTx, mayPt, mayRoll, mayTab, nilTab, bodyB, z]
    grind
  by_cases h3 : kind = 3
  · subst h3
    rw [Bool.eq_iff_iff]
    simp [rmayC, mayC, hasC, plainC, lessC, whoseC, ptOf, mayTx, mayPt, mayRoll, mayTab, nilTab, bodyB, z]
    grind
  by_cases h4 : kind = 4
  · subst h4
    rw [Bool.eq_iff_iff]
    simp [rmayC, mayC, hasC, plainC, lessC, whoseC, ptOf, mayTx, mayPt, mayRoll, mayTab, nilTab, bodyB, z]
    grind
  by_cases h6 : kind = 6
  · subst h6
    rw [Bool.eq_iff_iff]
    simp [rmayC, mayC, hasC, plainC, lessC, whoseC, ptOf, mayTx, mayPt, mayRoll, mayTab, nilTab, bodyB, z]
    grind
  by_cases h7 : kind = 7
  · subst h7
    rw [Bool.eq_iff_iff]
    simp [rmayC, mayC, hasC, plainC, lessC, whoseC, ptOf, mayTx, mayPt, mayRoll, mayTab, nilTab]
    grind
  by_cases h8 : kind = 8
  · subst h8
    rw [Bool.eq_iff_iff]
    simp [rmayC, mayC, hasC, plainC, lessC, whoseC, ptOf, mayTx, mayPt, mayRoll, mayTab, okTab]
    grind
  · simp [rmayC, mayC, hasC, ptOf, mayTx, h1, h2, h3, h4, h5, h6, h7, h8]
end Go.Proofs.Ytfcibccipkokoaa.Rec
