/-
  Sorting of numbers: a round, plainly.
  Sorted numbers without their doubles, plainly.
-/
import Derived.Sort.AssemblyPlain
import Derived.Sort.Walk13a
import Derived.Sort.LotD4
import Derived.Lib.SlicesCompact
import Derived.Test.YtfcibccipkokoaaZ20
namespace Go.Proofs.Ytfcibccipkokoaa.Qs
open Go.RowKit

theorem swo : Go.Sort.SWO lt where
  irrefl := fun x => by simp [lt]
  trans := fun x y z a b => by simp [lt] at *; omega
  ntrans := fun x y z a b => by simp [lt] at *; omega
theorem hint_two {h : Go.Sort.Hint} (e : hintI h = 2) : h = .decreasing := by cases h <;> simp [hintI] at e ⊢

/-- a round's own values, and what they are -/
structure Rnd (dk : Array Nat) (a b lim : Nat) (wb wp : Bool) (n : Nat) (Y : Go.Sort.Rd Nat) : Prop where
  d1 : Y.d1 = (if !wb then Go.Sort.breakPatterns dk a b else dk)
  lm : Y.lim = (if !wb then lim - 1 else lim)
  c : Y.c = Go.Sort.choosePivot lt Y.d1 a b
  dec : Y.c.2 = .decreasing → Y.d2 = Go.Sort.reverseRange Y.d1 a b ∧ Y.pivot = (b - 1) - (Y.c.1 - a) ∧ Y.hint = .increasing
  ndec : Y.c.2 ≠ .decreasing → Y.d2 = Y.d1 ∧ Y.pivot = Y.c.1 ∧ Y.hint = Y.c.2
  yes : (wb && wp && decide (Y.hint = .increasing)) = true → Y.pi = Go.Sort.partialInsertionSort lt Y.d2 a b
  no : (wb && wp && decide (Y.hint = .increasing)) = false → Y.pi = (Y.d2, false)
  s1 : Y.d1.size = n
  c1 : a ≤ Y.c.1 ∧ Y.c.1 < b
  s2 : Y.d2.size = n
  pv : a ≤ Y.pivot ∧ Y.pivot < b
  s3 : Y.pi.1.size = n
  bl : Go.Sort.Below lt a b Y.pi.1
  done : ¬ b - a ≤ 12 → ¬ lim = 0 → Y.pi.2 = true → Go.Sort.pdq lt dk a b lim wb wp = Y.pi.1
  eq : ∀ mid d4, ¬ b - a ≤ 12 → ¬ lim = 0 → Y.pi.2 = false → (decide (a > 0) && !lt Y.pi.1[a - 1]! Y.pi.1[Y.pivot]!) = true → Go.Sort.partitionEqual lt Y.pi.1 a b Y.pivot = (mid, d4) →
    (a < mid ∧ mid ≤ b ∧ d4.size = n ∧ Go.Sort.Below lt mid b d4) ∧ Go.Sort.pdq lt dk a b lim wb wp = Go.Sort.pdq lt d4 mid b Y.lim wb wp
  part : ∀ mid ap d4, ¬ b - a ≤ 12 → ¬ lim = 0 → Y.pi.2 = false → (decide (a > 0) && !lt Y.pi.1[a - 1]! Y.pi.1[Y.pivot]!) = false → Go.Sort.partition lt Y.pi.1 a b Y.pivot = (mid, ap, d4) →
    (a ≤ mid ∧ mid < b ∧ d4.size = n ∧ Go.Sort.Below lt a mid d4 ∧ Go.Sort.Below lt (mid + 1) b d4) ∧
    (mid - a < b - mid → (Go.Sort.pdq lt d4 a mid Y.lim true true).size = n ∧ Go.Sort.Below lt (mid + 1) b (Go.Sort.pdq lt d4 a mid Y.lim true true) ∧ Go.Sort.pdq lt dk a b lim wb wp = Go.Sort.pdq lt (Go.Sort.pdq lt d4 a mid Y.lim true true) (mid + 1) b Y.lim (decide (mid - a ≥ (b - a) / 8)) ap) ∧
    (¬ mid - a < b - mid → (Go.Sort.pdq lt d4 (mid + 1) b Y.lim true true).size = n ∧ Go.Sort.Below lt a mid (Go.Sort.pdq lt d4 (mid + 1) b Y.lim true true) ∧ Go.Sort.pdq lt dk a b lim wb wp = Go.Sort.pdq lt (Go.Sort.pdq lt d4 (mid + 1) b Y.lim true true) a mid Y.lim (decide (b - mid ≥ (b - a) / 8)) ap)

theorem rnd_is {dk : Array Nat} {a b lim n : Nat} {wb wp : Bool} (hab : a < b) (hb : b ≤ n) (hn : dk.size = n) (hB : Go.Sort.Below lt a b dk) : Rnd dk a b lim wb wp n (Go.Sort.rd lt dk a b lim wb wp) := by
  obtain ⟨s1, B1, hc1, s2, B2, hpv, s3, B3⟩ := Go.Sort.rd_facts (limit := lim) (wb := wb) (wp := wp) swo Go.Sort.partialInsertionSort_holds Go.Sort.reverseRange_holds hab (by omega) hB
  rw [hn] at s1 s2 s3
  refine ⟨rfl, rfl, rfl, Go.Sort.rd_dec, Go.Sort.rd_not, Go.Sort.rd_pi_yes, Go.Sort.rd_pi_no, s1, hc1, s2, hpv, s3, B3, fun h1 h2 h3 => Go.Sort.pdq_done h1 h2 h3, fun mid d4 h1 h2 h3 h4 hx => ?_, fun mid ap d4 h1 h2 h3 h4 hx => ?_⟩
  · have h4' := h4
    simp only [Bool.and_eq_true, decide_eq_true_eq, Bool.not_eq_true'] at h4'
    obtain ⟨r1, r2, r3, r4, _⟩ := Go.Sort.round_eq swo (Go.Sort.partitionEqual_holds lt) h4'.1 hpv.1 hpv.2 (by omega) B3 h4'.2 hx
    exact ⟨⟨r1, r2, r3.trans s3, r4⟩, by rw [Go.Sort.pdq_eq h1 h2 h3 h4 (by rw [hx]; exact ⟨r1, r2⟩), hx]⟩
  · obtain ⟨r1, r2, r3, r4, r5, r6, r7⟩ := Go.Sort.round_part swo (Go.Sort.partition_holds lt) hpv.1 hpv.2 (by omega) B3 hx
    have r3' := r3.trans s3
    refine ⟨⟨r1, r2, r3', r4, r5⟩, fun h5 => ?_, fun h5 => ?_⟩
    · obtain ⟨pL, sL⟩ := Go.Sort.pdq_sorts lt swo d4 a mid (Go.Sort.rd lt dk a b lim wb wp).lim true true (by omega) (by omega) r4
      exact ⟨pL.1.trans r3', (r6 _ pL sL).1, by rw [Go.Sort.pdq_left h1 h2 h3 h4 (by rw [hx]; exact ⟨r1, r2⟩) (by rw [hx]; exact h5), hx]⟩
    · obtain ⟨pL, sL⟩ := Go.Sort.pdq_sorts lt swo d4 (mid + 1) b (Go.Sort.rd lt dk a b lim wb wp).lim true true (by omega) (by omega) r5
      exact ⟨pL.1.trans r3', (r7 _ pL sL).1, by rw [Go.Sort.pdq_right h1 h2 h3 h4 (by rw [hx]; exact ⟨r1, r2⟩) (by rw [hx]; exact h5), hx]⟩

end Go.Proofs.Ytfcibccipkokoaa.Qs

namespace Go.Proofs.Ytfcibccipkokoaa.Qs
open Go.Lib

theorem comp_inv (d : Array Nat) (hs : ∀ i j, i < j → j < d.size → d[i]! ≤ d[j]!) : ∀ m, m ≤ d.size → (compactUpTo d m).Pairwise (· < ·) ∧ ∀ x, x ∈ compactUpTo d m ↔ ∃ i, i < m ∧ d[i]! = x
  | 0, _ => by
    refine ⟨by simp [compactUpTo], fun x => ?_⟩
    simp [compactUpTo]
  | m + 1, hm => by
    obtain ⟨h1, h2⟩ := comp_inv d hs m (by omega)
    rw [compactUpTo_succ]
    by_cases hk : m = 0 ∨ d[m]! ≠ d[m - 1]!
    · have k : keeps d m = true := by
        rcases hk with rfl | hk
        · exact keeps_lt_one d 0 (by omega)
        · exact keeps_pos hk
      rw [k, if_pos rfl]
      refine ⟨List.pairwise_append.2 ⟨h1, List.pairwise_singleton _ _, fun x hx y hy => ?_⟩, fun x => ?_⟩
      · rw [List.mem_singleton] at hy
        subst hy
        obtain ⟨i, hi, rfl⟩ := (h2 x).1 hx
        rcases hk with rfl | hk
        · omega
        · have a : d[i]! ≤ d[m - 1]! := by
            rcases Nat.lt_or_ge i (m - 1) with c | c
            · exact hs i (m - 1) c (by omega)
            · rw [show i = m - 1 by omega]; exact Nat.le_refl _
          have b := hs (m - 1) m (by omega) (by omega)
          omega
      · rw [List.mem_append, h2, List.mem_singleton]
        constructor
        · rintro (⟨i, hi, e⟩ | rfl)
          · exact ⟨i, by omega, e⟩
          · exact ⟨m, by omega, rfl⟩
        · rintro ⟨i, hi, e⟩
          rcases Nat.lt_or_ge i m with c | c
          · exact .inl ⟨i, c, e⟩
          · exact .inr (by rw [← e, show i = m by omega])
    · have hk0 : m ≠ 0 := fun e => hk (.inl e)
      have hke : d[m]! = d[m - 1]! := Classical.byContradiction fun e => hk (.inr e)
      rw [keeps_neg (by omega) hke, if_neg (by simp), List.append_nil]
      refine ⟨h1, fun x => ?_⟩
      rw [h2]
      constructor
      · rintro ⟨i, hi, e⟩
        exact ⟨i, by omega, e⟩
      · rintro ⟨i, hi, e⟩
        rcases Nat.lt_or_ge i m with c | c
        · exact ⟨i, c, e⟩
        · exact ⟨m - 1, by omega, by rw [← hke, ← e, show i = m by omega]⟩

/-- sorted, then without doubles: each number once, rising -/
theorem comp_sort (zs : List Nat) : (compactUpTo (Go.Sort.sort lt zs.toArray) zs.length).Pairwise (· < ·) ∧ ∀ x, x ∈ compactUpTo (Go.Sort.sort lt zs.toArray) zs.length ↔ x ∈ zs := by
  obtain ⟨⟨p1, _, p3⟩, s⟩ := Go.Sort.sort_sorts lt swo zs.toArray
  obtain ⟨d, hd⟩ : ∃ d, d = Go.Sort.sort lt zs.toArray := ⟨_, rfl⟩
  rw [← hd] at p1 p3 s ⊢
  have hz : zs.toArray.size = zs.length := by simp
  rw [hz] at p1 p3 s
  obtain ⟨a, b⟩ := comp_inv d (fun i j h1 h2 => by have := s i j (Nat.zero_le _) h1 (by omega); simpa [lt] using this) zs.length (by omega)
  refine ⟨a, fun x => (b x).trans ?_⟩
  have e1 : d.extract 0 zs.length = d := by rw [← p1]; simp
  have e2 : zs.toArray.extract 0 zs.length = zs.toArray := by rw [← hz]; exact Array.extract_size ..
  rw [e1, e2] at p3
  rw [← show x ∈ d.toList ↔ x ∈ zs from p3.mem_iff]
  constructor
  · rintro ⟨i, hi, rfl⟩
    rw [getElem!_pos d i (by omega)]
    exact Array.getElem_mem_toList ..
  · intro h
    obtain ⟨i, hi, e⟩ := List.getElem_of_mem h
    rw [Array.length_toList] at hi
    exact ⟨i, by omega, by rw [getElem!_pos d i hi]; simpa using e⟩
theorem comp_len (d : Array Nat) (m : Nat) : (compactUpTo d m).length ≤ m := by
  unfold compactUpTo
  rw [List.length_map]
  exact Nat.le_trans (List.length_filter_le ..) (by simp)

end Go.Proofs.Ytfcibccipkokoaa.Qs
