/- Walks: which pages, which others a checkpoint may have; which lists are the same. -/
import Derived.Test.YtadhophiannigaaCW1
namespace Go.Proofs.Ytadhophiannigaa.Rec
open Go.RowKit
attribute [local go_sem ↓] Go.wp_at_zero Go.wp_at_succ

theorem di_step {l : List Di} {k m : Nat} (h : k < l.length) : mayDiFrom m (l.drop k) = (decide (m < l[k].page) && (decide (0 < l[k].lsn) && mayDiFrom l[k].page (l.drop (k + 1)))) := by
  rw [List.drop_eq_getElem_cons h]; rfl
theorem ac_step {l : List Ac} {k m : Nat} (h : k < l.length) : mayAcFrom m (l.drop k) = (decide (m < l[k].tx) && (decide (0 < l[k].first) && (decide (0 < l[k].last) && mayAcFrom l[k].tx (l.drop (k + 1))))) := by
  rw [List.drop_eq_getElem_cons h]; rfl

set_option maxRecDepth 100000 in
set_option maxHeartbeats 1000000 in
theorem dirty_any {w : World} {v : Value} {l : List Di} (h : IsDi w v l) (hl : l.length ≤ 140737488351232) :
    Calls Try.prog 47 #[v] w fun e w' => e = .returned (.bool (mayDi l)) ∧ Below w.heap.size w w' := by
  have H := Lib.hid h
  obtain ⟨ad, c, rfl⟩ := h.form
  clear h
  obtain ⟨n, hn⟩ : ∃ n, n = l.length := ⟨_, rfl⟩
  have N := Lib.hid hn
  have e : mayDi l = (mayDiFrom 0 l && decide (n ≤ 64)) := by rw [hn]; rfl
  rw [← hn] at H hl ⊢
  clear hn
  generalize mayDi l = res at *
  have E := Lib.hid e
  clear e
  go_enter Try.func47, Try.ntmps47
  go_wp2_with fail
  go_loopw [3, 8] (fun m i wr => ∃ (k m' : Nat), k ≤ n ∧ m = .int .u32 (m' : Int) ∧ i = .int .i64 (k : Int) ∧ Below w.heap.size w wr ∧ mayDiFrom 0 l = mayDiFrom m' (l.drop k)) (fun _ i _ => n - (intOf i).toNat)
  case atStart => exact ⟨0, 0, by omega, rfl, rfl, Below.refl _ _, rfl⟩
  case round =>
    obtain ⟨k, m', hk, rfl, rfl, hb, he⟩ := hrel
    have HB := Lib.hid hb
    have HE := Lib.hid he
    clear hb he
    by_cases hlt : k < n
    · have hlt2 : k < l.length := by rw [← N.out]; exact hlt
      obtain ⟨x, o, cap', hv, hat⟩ := (H.out.later HB.out).at hlt2
      simp only [Value.slice.injEq] at hv
      obtain ⟨rfl, e9, rfl⟩ := hv
      clear e9
      have hs := di_step (m := m') hlt2
      rw [← HE.out] at hs
      obtain ⟨c0, c1⟩ := hat
      generalize l[k] = q at *
      obtain ⟨page, lsn⟩ := q
      simp only at *
      have HS := Lib.hid hs
      clear hs hlt2
      by_cases h1 : page ≤ m'
      · have hr : res = false := by rw [E.out, HS.out, decide_eq_false (by omega)]; rfl
        have HR := Lib.hid hr
        clear hr
        go_wp2_with fail
        go_ret
        exact ⟨ret_bool HR.out.symm, HB.out.alloc HB.out.size _⟩
      · by_cases h2 : lsn = 0
        · have hr : res = false := by rw [E.out, HS.out, h2, decide_eq_false (by omega : ¬ 0 < 0), Bool.false_and, Bool.and_false]; rfl
          have HR := Lib.hid hr
          clear hr
          go_wp2_with fail
          go_ret
          exact ⟨ret_bool HR.out.symm, HB.out.alloc HB.out.size _⟩
        · have hr : mayDiFrom 0 l = mayDiFrom page (l.drop (k + 1)) := by rw [HS.out, decide_eq_true (by omega), decide_eq_true (by omega), Bool.true_and, Bool.true_and]
          have HR := Lib.hid hr
          clear hr
          go_wp2_with fail
          go_roundw
          case rel => exact ⟨k + 1, page, by omega, rfl, by go_num, HB.out.alloc HB.out.size _, HR.out⟩
          case measure => simp [intOf]; omega
    · obtain rfl : k = n := by omega
      have hd : l.drop k = [] := List.drop_eq_nil_of_le (by rw [← N.out]; exact Nat.le_refl _)
      have he := HE.out
      rw [hd] at he
      have hr : res = decide (k ≤ 64) := by rw [E.out, he]; rfl
      have HR := Lib.hid hr
      clear hr he hd
      go_wp2_with fail
      go_ret
      exact ⟨ret_bool (by rw [HR.out, Bool.eq_iff_iff]; simp only [decide_eq_true_eq]; omega), HB.out⟩

set_option maxRecDepth 100000 in
set_option maxHeartbeats 1000000 in
theorem txns_any {w : World} {v : Value} {l : List Ac} (h : IsAc w v l) (hl : l.length ≤ 140737488351232) :
    Calls Try.prog 48 #[v] w fun e w' => e = .returned (.bool (mayAc l)) ∧ Below w.heap.size w w' := by
  have H := Lib.hid h
  obtain ⟨ad, c, rfl⟩ := h.form
  clear h
  obtain ⟨n, hn⟩ : ∃ n, n = l.length := ⟨_, rfl⟩
  have N := Lib.hid hn
  have e : mayAc l = (mayAcFrom 0 l && decide (n ≤ 64)) := by rw [hn]; rfl
  rw [← hn] at H hl ⊢
  clear hn
  generalize mayAc l = res at *
  have E := Lib.hid e
  clear e
  go_enter Try.func48, Try.ntmps48
  go_wp2_with fail
  go_loopw [3, 8] (fun m i wr => ∃ (k m' : Nat), k ≤ n ∧ m = .int .u64 (m' : Int) ∧ i = .int .i64 (k : Int) ∧ Below w.heap.size w wr ∧ mayAcFrom 0 l = mayAcFrom m' (l.drop k)) (fun _ i _ => n - (intOf i).toNat)
  case atStart => exact ⟨0, 0, by omega, rfl, rfl, Below.refl _ _, rfl⟩
  case round =>
    obtain ⟨k, m', hk, rfl, rfl, hb, he⟩ := hrel
    have HB := Lib.hid hb
    have HE := Lib.hid he
    clear hb he
    by_cases hlt : k < n
    · have hlt2 : k < l.length := by rw [← N.out]; exact hlt
      obtain ⟨x, o, cap', hv, hat⟩ := (H.out.later HB.out).at hlt2
      simp only [Value.slice.injEq] at hv
      obtain ⟨rfl, e9, rfl⟩ := hv
      clear e9
      have hs := ac_step (m := m') hlt2
      rw [← HE.out] at hs
      obtain ⟨c0, c1, c2, c3⟩ := hat
      generalize l[k] = q at *
      obtain ⟨tx, first, last, next⟩ := q
      simp only at *
      have HS := Lib.hid hs
      clear hs hlt2
      by_cases h1 : tx ≤ m'
      · have hr : res = false := by rw [E.out, HS.out, decide_eq_false (by omega)]; rfl
        have HR := Lib.hid hr
        clear hr
        go_wp2_with fail
        go_ret
        exact ⟨ret_bool HR.out.symm, HB.out.alloc HB.out.size _⟩
      · by_cases h2 : first = 0
        · have hr : res = false := by rw [E.out, HS.out, h2, decide_eq_false (by omega : ¬ 0 < 0), Bool.false_and, Bool.and_false]; rfl
          have HR := Lib.hid hr
          clear hr
          go_wp2_with fail
          go_ret
          exact ⟨ret_bool HR.out.symm, HB.out.alloc HB.out.size _⟩
        · have f1 : ((first : Int) == 0) = false := by rw [beq_eq_false_iff_ne]; omega
          by_cases h3 : last = 0
          · have hr : res = false := by rw [E.out, HS.out, h3, decide_eq_false (by omega : ¬ 0 < 0), Bool.false_and, Bool.and_false, Bool.and_false]; rfl
            have HR := Lib.hid hr
            clear hr
            go_wp2_with fail
            go_ret
            exact ⟨ret_bool HR.out.symm, HB.out.alloc HB.out.size _⟩
          · have f2 : ((last : Int) == 0) = false := by rw [beq_eq_false_iff_ne]; omega
            have hr : mayAcFrom 0 l = mayAcFrom tx (l.drop (k + 1)) := by rw [HS.out, decide_eq_true (by omega), decide_eq_true (by omega), decide_eq_true (by omega), Bool.true_and, Bool.true_and, Bool.true_and]
            have HR := Lib.hid hr
            clear hr
            go_wp2_with fail
            go_roundw
            case rel => exact ⟨k + 1, tx, by omega, rfl, by go_num, HB.out.alloc HB.out.size _, HR.out⟩
            case measure => simp [intOf]; omega
    · obtain rfl : k = n := by omega
      have hd : l.drop k = [] := List.drop_eq_nil_of_le (by rw [← N.out]; exact Nat.le_refl _)
      have he := HE.out
      rw [hd] at he
      have hr : res = decide (k ≤ 64) := by rw [E.out, he]; rfl
      have HR := Lib.hid hr
      clear hr he hd
      go_wp2_with fail
      go_ret
      exact ⟨ret_bool (by rw [HR.out, Bool.eq_iff_iff]; simp only [decide_eq_true_eq]; omega), HB.out⟩

end Go.Proofs.Ytadhophiannigaa.Rec
