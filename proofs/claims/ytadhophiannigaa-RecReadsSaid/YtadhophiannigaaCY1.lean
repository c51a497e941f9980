/- Walks: the document's bodies, and what has nothing but its kind; which records are the same. -/
import Derived.Test.YtadhophiannigaaCW4
namespace Go.Proofs.Ytadhophiannigaa.Rec
open Go.RowKit
attribute [local go_sem ↓] Go.wp_at_zero Go.wp_at_succ

set_option maxRecDepth 100000 in
set_option maxHeartbeats 1000000 in
theorem body_any (s : ByteArray) (w : World) (hs : s.size ≤ 140737488351232) :
    Calls Try.prog 24 #[.string s] w fun e w' => e = .returned (.bool (bodyB s)) ∧ w = w' := by
  have e : bodyB s = (decide (1 ≤ s.size) && decide (s.size ≤ 3072)) := rfl
  generalize bodyB s = b at *
  have E := Lib.hid e
  clear e
  go_enter Try.func24, Try.ntmps24
  go_wp2_with fail
  all_goals
    go_ret
    exact ⟨ret_bool (by rw [E.out, Bool.eq_iff_iff]; simp only [Bool.and_eq_true, decide_eq_true_eq, Bool.false_eq_true, false_iff]; omega), rfl⟩

theorem ne_no {x y : Nat} (h : x ≠ y) : ((x : Int) != (y : Int)) = true := by rw [bne_iff_ne]; omega
theorem tonat_eq {x y : Nat} (h : x = y) : ((x : Int) != (y : Int)) = false := by subst h; simp

set_option maxRecDepth 100000 in
set_option maxHeartbeats 2000000 in
theorem rsametab_any {w : World} {a b : Rc} {d t d' t' : Value} (hd : IsDi w d a.dirty) (ht : IsAc w t a.txns) (hd' : IsDi w d' b.dirty) (ht' : IsAc w t' b.txns) (l1 : a.dirty.length ≤ 140737488351232) (l2 : a.txns.length ≤ 140737488351232) (l3 : b.dirty.length ≤ 140737488351232) (l4 : b.txns.length ≤ 140737488351232) :
    Calls Try.prog 30 #[tabV a d t, tabV b d' t'] w fun e w' => e = .returned (.bool (sameTab a b)) ∧ Below w.heap.size w w' := by
  have T0 := Lib.hid (T2.start w a b d t d' t')
  have HD := Lib.hid hd
  have HT := Lib.hid ht
  have HD' := Lib.hid hd'
  have HT' := Lib.hid ht'
  have e : sameTab a b = (decide (a.ttx = b.ttx) && (decide (a.tnum = b.tnum) && (decide (a.dirty = b.dirty) && decide (a.txns = b.txns)))) := rfl
  obtain ⟨ad, c, rfl⟩ := hd.form
  obtain ⟨ad2, c2, rfl⟩ := ht.form
  obtain ⟨ad', c', rfl⟩ := hd'.form
  obtain ⟨ad2', c2', rfl⟩ := ht'.form
  clear hd ht hd' ht'
  generalize sameTab a b = res at *
  obtain ⟨akind, atx, aprev, apage, aslot, anext, anumber, abody, A, B, attx, atnum⟩ := a
  obtain ⟨bkind, btx, bprev, bpage, bslot, bnext, bnumber, bbody, C, D, bttx, btnum⟩ := b
  simp only at *
  obtain ⟨n, hn⟩ : ∃ n, n = A.length := ⟨_, rfl⟩
  obtain ⟨m, hm⟩ : ∃ n, n = B.length := ⟨_, rfl⟩
  obtain ⟨n', hn'⟩ : ∃ n, n = C.length := ⟨_, rfl⟩
  obtain ⟨m', hm'⟩ : ∃ n, n = D.length := ⟨_, rfl⟩
  have N := Lib.hid hn
  have M := Lib.hid hm
  have N' := Lib.hid hn'
  have M' := Lib.hid hm'
  rw [← hn] at l1 HD
  rw [← hm] at l2 HT
  rw [← hn'] at l3 HD'
  rw [← hm'] at l4 HT'
  rw [← hn, ← hm, ← hn', ← hm'] at T0 ⊢
  clear hn hm hn' hm'
  have E := Lib.hid e
  clear e
  obtain ⟨a0, a1, a2, a3⟩ := T0.out.a.all
  obtain ⟨b0, b1, b2, b3⟩ := T0.out.b.all
  unfold tabV tabC at *
  simp only at *
  have BB := Lib.hid T0.out.a.below
  by_cases h1 : attx = bttx
  rotate_left
  · have f := ne_no h1
    have EE := Lib.hid (show res = false by rw [E.out, decide_eq_false h1]; rfl)
    clear E h1
    go_enter Try.func30, Try.ntmps30
    go_wp2_with fail
    go_ret
    exact ⟨ret_bool EE.out.symm, BB.out⟩
  subst h1
  by_cases h1 : atnum = btnum
  rotate_left
  · have f := ne_no h1
    have EE := Lib.hid (show res = false by rw [E.out, decide_eq_false h1]; simp)
    clear E h1
    go_enter Try.func30, Try.ntmps30
    go_wp2_with fail
    go_ret
    exact ⟨ret_bool EE.out.symm, BB.out⟩
  subst h1
  by_cases h1 : n = n'
  rotate_left
  · have f := ne_no h1
    have EE := Lib.hid (show res = false by
      rw [E.out, decide_eq_false (p := A = C) (fun e => h1 (by rw [N.out, N'.out, e]))]; simp)
    clear E h1
    go_enter Try.func30, Try.ntmps30
    go_wp2_with fail
    go_ret
    exact ⟨ret_bool EE.out.symm, BB.out⟩
  subst h1
  by_cases h1 : m = m'
  rotate_left
  · have f := ne_no h1
    have EE := Lib.hid (show res = false by
      rw [E.out, decide_eq_false (p := B = D) (fun e => h1 (by rw [M.out, M'.out, e]))]; simp)
    clear E h1
    go_enter Try.func30, Try.ntmps30
    go_wp2_with fail
    go_ret
    exact ⟨ret_bool EE.out.symm, BB.out⟩
  subst h1
  have EE := Lib.hid (show res = (decide (A = C) && decide (B = D)) by rw [E.out]; simp)
  clear E a0 a1 a2 a3 b0 b1 b2 b3
  have LN := Lib.hid (show A.length = C.length from N.out.symm.trans N'.out)
  have LM := Lib.hid (show B.length = D.length from M.out.symm.trans M'.out)
  obtain ⟨a0, a1, a2, a3⟩ := T0.out.a.all
  obtain ⟨b0, b1, b2, b3⟩ := T0.out.b.all
  simp only at *
  go_enter Try.func30, Try.ntmps30
  go_wp2_with fail
  clear a0 a1 a2 a3 b0 b1 b2 b3
  generalize hq : w.heap.size + 1 = q at *
  generalize hg : w.heap.size = g at *
  go_loopw [5] (fun i wr => ∃ j : Nat, j ≤ n ∧ i = .int .i64 (j : Int) ∧ T2 w wr g q ⟨akind, atx, aprev, apage, aslot, anext, anumber, abody, A, B, attx, atnum⟩ ⟨bkind, btx, bprev, bpage, bslot, bnext, bnumber, bbody, C, D, attx, atnum⟩ (.slice ad n c) (.slice ad2 m c2) (.slice ad' n c') (.slice ad2' m c2') ∧ decide (A = C) = decide (A.drop j = C.drop j)) (fun i _ => n - (intOf i).toNat)
  case atStart => exact ⟨0, by omega, rfl, T0.out, eq_start A C⟩
  case round =>
    obtain ⟨j, hj, rfl, T1, he⟩ := hrel
    have TT := Lib.hid T1
    have HE := Lib.hid he
    clear T1 he T0
    obtain ⟨a0, a1, a2, a3⟩ := TT.out.a.all
    obtain ⟨b0, b1, b2, b3⟩ := TT.out.b.all
    simp only at *
    by_cases hlt : j < n
    · have hlt1 : j < A.length := by rw [← N.out]; exact hlt
      have hlt2 : j < C.length := by rw [← LN.out, ← N.out]; exact hlt
      obtain ⟨x, o, cap', hv, hat⟩ := (HD.out.later TT.out.a.below).at hlt1
      obtain ⟨x2, o2, cap2, hv2, hat2⟩ := (HD'.out.later TT.out.a.below).at hlt2
      simp only [Value.slice.injEq] at hv hv2
      obtain ⟨rfl, e9, rfl⟩ := hv
      obtain ⟨rfl, e8, rfl⟩ := hv2
      clear e9 e8
      have hs := eq_step hlt1 hlt2
      rw [← HE.out] at hs
      obtain ⟨c0, c1⟩ := hat
      obtain ⟨d0, d1⟩ := hat2
      generalize A[j] = q1 at *
      generalize C[j] = q2 at *
      have HS := Lib.hid hs
      clear hs hlt1 hlt2
      have NB := Lib.hid (TT.out.later ((Below.refl _ _).drew))
      by_cases hq : q1 = q2
      · subst hq
        have hne := di_same q1
        have hr : decide (A = C) = decide (A.drop (j + 1) = C.drop (j + 1)) := by rw [HS.out, decide_eq_true rfl, Bool.true_and]
        have HR := Lib.hid hr
        clear hr HS
        go_wp2_with fail
        go_region
        go_wp2_with fail
        go_roundw
        case rel => exact ⟨j + 1, by omega, by go_num, NB.out, HR.out⟩
        case measure => simp [intOf]; omega
      · have hne := fun W => di_ne hq W
        have hr : res = false := by rw [EE.out]; rw [HS.out, decide_eq_false hq]; simp
        have HR := Lib.hid hr
        clear hr hq HS
        go_wp2_with fail
        go_region
        go_wp2_with fail
        go_ret
        exact ⟨ret_bool HR.out.symm, NB.out.a.below⟩
    · obtain rfl : j = n := by omega
      have hd : A.drop j = [] := List.drop_eq_nil_of_le (by rw [← N.out]; exact Nat.le_refl _)
      have hd2 : C.drop j = [] := List.drop_eq_nil_of_le (by rw [← LN.out, ← N.out]; exact Nat.le_refl _)
      have he := HE.out
      rw [hd, hd2, decide_eq_true rfl] at he
      have EE2 := Lib.hid (show res = decide (B = D) by rw [EE.out, he, Bool.true_and])
      clear he hd hd2 HE EE hlt
      go_wp2_with fail
      clear a0 a1 a2 a3 b0 b1 b2 b3
      go_loopw [6] (fun i wr => ∃ i' : Nat, i' ≤ m ∧ i = .int .i64 (i' : Int) ∧ T2 w wr g q ⟨akind, atx, aprev, apage, aslot, anext, anumber, abody, A, B, attx, atnum⟩ ⟨bkind, btx, bprev, bpage, bslot, bnext, bnumber, bbody, C, D, attx, atnum⟩ (.slice ad j c) (.slice ad2 m c2) (.slice ad' j c') (.slice ad2' m c2') ∧ decide (B = D) = decide (B.drop i' = D.drop i')) (fun i _ => m - (intOf i).toNat)
      case atStart => exact ⟨0, by omega, rfl, TT.out, eq_start B D⟩
      case round =>
        obtain ⟨i, hi, rfl, T1, he⟩ := hrel
        clear TT
        have TT := Lib.hid T1
        have HE := Lib.hid he
        clear T1 he
        obtain ⟨a0, a1, a2, a3⟩ := TT.out.a.all
        obtain ⟨b0, b1, b2, b3⟩ := TT.out.b.all
        simp only at *
        by_cases hlt : i < m
        · have hlt1 : i < B.length := by rw [← M.out]; exact hlt
          have hlt2 : i < D.length := by rw [← LM.out, ← M.out]; exact hlt
          obtain ⟨x, o, cap', hv, hat⟩ := (HT.out.later TT.out.a.below).at hlt1
          obtain ⟨x2, o2, cap2, hv2, hat2⟩ := (HT'.out.later TT.out.a.below).at hlt2
          simp only [Value.slice.injEq] at hv hv2
          obtain ⟨rfl, e9, rfl⟩ := hv
          obtain ⟨rfl, e8, rfl⟩ := hv2
          clear e9 e8
          have hs := eq_step hlt1 hlt2
          rw [← HE.out] at hs
          obtain ⟨c0, c1, c2, c3⟩ := hat
          obtain ⟨d0, d1, d2, d3⟩ := hat2
          generalize B[i] = q1 at *
          generalize D[i] = q2 at *
          have HS := Lib.hid hs
          clear hs hlt1 hlt2
          have NB := Lib.hid (TT.out.later ((Below.refl _ _).drew))
          by_cases hq : q1 = q2
          · subst hq
            have hne := ac_same q1
            have hr : decide (B = D) = decide (B.drop (i + 1) = D.drop (i + 1)) := by rw [HS.out, decide_eq_true rfl, Bool.true_and]
            have HR := Lib.hid hr
            clear hr HS
            go_wp2_with fail
            go_region
            go_wp2_with fail
            go_roundw
            case rel => exact ⟨i + 1, by omega, by go_num, NB.out, HR.out⟩
            case measure => simp [intOf]; omega
          · have hne := fun W => ac_ne hq W
            have hr : res = false := by rw [EE2.out, HS.out, decide_eq_false hq]; simp
            have HR := Lib.hid hr
            clear hr hq HS
            go_wp2_with fail
            go_region
            go_wp2_with fail
            go_ret
            exact ⟨ret_bool HR.out.symm, NB.out.a.below⟩
        · obtain rfl : i = m := by omega
          have hd : B.drop i = [] := List.drop_eq_nil_of_le (by rw [← M.out]; exact Nat.le_refl _)
          have hd2 : D.drop i = [] := List.drop_eq_nil_of_le (by rw [← LM.out, ← M.out]; exact Nat.le_refl _)
          have he := HE.out
          rw [hd, hd2, decide_eq_true rfl] at he
          have EE3 := Lib.hid (show res = true by rw [EE2.out, he])
          clear he hd hd2 HE EE2 hlt
          go_wp2_with fail
          go_ret
          exact ⟨ret_bool EE3.out.symm, TT.out.a.below⟩

end Go.Proofs.Ytadhophiannigaa.Rec
