/- Plain mathematics: a record that may be, in which one part is another one. -/
import Derived.Test.YtadhophiannigaaCM4
namespace Go.Proofs.Ytadhophiannigaa.Rec

theorem or_one_pos (n : Nat) : (n ||| 1) % 2 = 1 := by
  rw [Nat.mod_two_eq_one_iff_testBit_zero, Nat.testBit_or]
  simp
theorem or_one_lt {n : Nat} (h : n < 18446744073709551616) : (n ||| 1) < 18446744073709551616 := by
  have := @Nat.or_lt_two_pow n 1 64 h (by decide)
  exact this
def bodS : ByteArray := ⟨#[98, 111, 100, 121]⟩
def setC (p n : Nat) (r : Rc) : Rc :=
  if p = 0 then { r with next := n } else if p = 1 then { r with number := n ||| 1 } else if p = 2 then { r with page := (n ||| 1) % 4294967296 } else if p = 3 then { r with body := bodS } else { r with ttx := n ||| 1 }
def bodyK (k : Nat) : Bool := decide (k = 2) || (decide (k = 6) || (decide (k = 3) || decide (k = 4)))
def hasK (p k : Nat) : Bool := if p = 0 then decide (k = 3) else if p = 1 then decide (k = 4) else if p = 2 then decide (k = 2) else if p = 3 then bodyK k else decide (k = 8)

theorem set_wf {r : Rc} (h : r.wf) (p : Nat) {n : Nat} (hn : n < 18446744073709551616) : (setC p n r).wf := by
  have h1 := or_one_lt hn
  unfold setC
  split
  · exact { h with next := hn }
  split
  · exact { h with number := h1 }
  split
  · exact { h with page := Nat.mod_lt _ (by decide) }
  split
  · exact { h with body := (by decide : bodS.size ≤ 140737488351232) }
  · exact { h with ttx := h1 }
theorem kinds (k : Nat) : k = 1 ∨ k = 2 ∨ k = 3 ∨ k = 4 ∨ k = 5 ∨ k = 6 ∨ k = 7 ∨ k = 8 ∨ (k ≠ 1 ∧ k ≠ 2 ∧ k ≠ 3 ∧ k ≠ 4 ∧ k ≠ 5 ∧ k ≠ 6 ∧ k ≠ 7 ∧ k ≠ 8) := by omega
theorem may_next {r : Rc} (h : mayC r = true) {n : Nat} (hne : n ≠ r.next) : mayC { r with next := n } = decide (r.kind = 3) := by
  obtain ⟨kind, tx, prev, page, slot, next, number, body, dirty, txns, ttx, tnum⟩ := r
  simp only at *
  rcases kinds kind with hk | hk | hk | hk | hk | hk | hk | hk | hk
  case inr.inr.inr.inr.inr.inr.inr.inr =>
    obtain ⟨k1, k2, k3, k4, k5, k6, k7, k8⟩ := hk
    simp [mayC, mayTx, ptOf, k1, k2, k3, k4, k5, k6, k7, k8] at h
  all_goals
    subst hk
    rw [Bool.eq_iff_iff]
    simp [mayC, ptOf, mayTx, mayPt, mayRoll, mayTab, nilTab, okTab] at h ⊢
    grind
theorem may_number {r : Rc} (h : mayC r = true) {n : Nat} (hne : 0 < n) : mayC { r with number := n } = decide (r.kind = 4) := by
  obtain ⟨kind, tx, prev, page, slot, next, number, body, dirty, txns, ttx, tnum⟩ := r
  simp only at *
  rcases kinds kind with hk | hk | hk | hk | hk | hk | hk | hk | hk
  case inr.inr.inr.inr.inr.inr.inr.inr =>
    obtain ⟨k1, k2, k3, k4, k5, k6, k7, k8⟩ := hk
    simp [mayC, mayTx, ptOf, k1, k2, k3, k4, k5, k6, k7, k8] at h
  all_goals
    subst hk
    rw [Bool.eq_iff_iff]
    simp [mayC, ptOf, mayTx, mayPt, mayRoll, mayTab, nilTab, okTab] at h ⊢
    grind
theorem may_page {r : Rc} (h : mayC r = true) {n : Nat} (hne : 0 < n) : mayC { r with page := n } = decide (r.kind = 2) := by
  obtain ⟨kind, tx, prev, page, slot, next, number, body, dirty, txns, ttx, tnum⟩ := r
  simp only at *
  rcases kinds kind with hk | hk | hk | hk | hk | hk | hk | hk | hk
  case inr.inr.inr.inr.inr.inr.inr.inr =>
    obtain ⟨k1, k2, k3, k4, k5, k6, k7, k8⟩ := hk
    simp [mayC, mayTx, ptOf, k1, k2, k3, k4, k5, k6, k7, k8] at h
  all_goals
    subst hk
    rw [Bool.eq_iff_iff]
    simp [mayC, ptOf, mayTx, mayPt, mayRoll, mayTab, nilTab, okTab] at h ⊢
    grind
theorem may_body {r : Rc} (h : mayC r = true) {s : ByteArray} (h1 : 0 < s.size) (h2 : s.size ≤ 3072) : mayC { r with body := s } = bodyK r.kind := by
  obtain ⟨kind, tx, prev, page, slot, next, number, body, dirty, txns, ttx, tnum⟩ := r
  have hs : s ≠ ByteArray.empty := fun e => by
    rw [e] at h1
    exact absurd h1 (by decide)
  simp only at *
  rcases kinds kind with hk | hk | hk | hk | hk | hk | hk | hk | hk
  case inr.inr.inr.inr.inr.inr.inr.inr =>
    obtain ⟨k1, k2, k3, k4, k5, k6, k7, k8⟩ := hk
    simp [mayC, mayTx, ptOf, k1, k2, k3, k4, k5, k6, k7, k8] at h
  all_goals
    subst hk
    rw [Bool.eq_iff_iff]
    simp [mayC, ptOf, mayTx, mayPt, mayRoll, mayTab, nilTab, okTab, bodyK] at h ⊢
    grind
theorem may_ttx {r : Rc} (h : mayC r = true) {n : Nat} (hne : 0 < n) : mayC { r with ttx := n } = decide (r.kind = 8) := by
  obtain ⟨kind, tx, prev, page, slot, next, number, body, dirty, txns, ttx, tnum⟩ := r
  simp only at *
  rcases kinds kind with hk | hk | hk | hk | hk | hk | hk | hk | hk
  case inr.inr.inr.inr.inr.inr.inr.inr =>
    obtain ⟨k1, k2, k3, k4, k5, k6, k7, k8⟩ := hk
    simp [mayC, mayTx, ptOf, k1, k2, k3, k4, k5, k6, k7, k8] at h
  all_goals
    subst hk
    rw [Bool.eq_iff_iff]
    simp [mayC, ptOf, mayTx, mayPt, mayRoll, mayTab, nilTab, okTab] at h ⊢
    grind
theorem may_set {r : Rc} (h : mayC r = true) (p n : Nat) (hne : setC p n r ≠ r) : mayC (setC p n r) = hasK p r.kind := by
  have e1 := or_one_pos n
  unfold setC at hne
  unfold setC hasK
  split at hne
  · rename_i hp
    rw [if_pos hp, if_pos hp]
    refine may_next h fun e => hne ?_
    rw [e]
  rename_i hp
  rw [if_neg hp, if_neg hp]
  split at hne
  · rename_i hp
    rw [if_pos hp, if_pos hp]
    exact may_number h (by omega)
  rename_i hp
  rw [if_neg hp, if_neg hp]
  split at hne
  · rename_i hp
    rw [if_pos hp, if_pos hp]
    exact may_page h (by omega)
  rename_i hp
  rw [if_neg hp, if_neg hp]
  split at hne
  · rename_i hp
    rw [if_pos hp, if_pos hp]
    exact may_body h (by decide) (by decide)
  rename_i hp
  rw [if_neg hp, if_neg hp]
  exact may_ttx h (by omega)

end Go.Proofs.Ytadhophiannigaa.Rec
