/- Walks: which tables may be, in the document. -/
import Derived.Test.YtadhophiannigaaCY2
import Derived.Test.YtadhophiannigaaCW7
import Derived.BigQuiet
import Derived.Test.YtadhophiannigaaTO
namespace Go.Proofs.Ytadhophiannigaa.Rec
open Go.RowKit
attribute [local go_sem ↓] Go.wp_at_zero Go.wp_at_succ

/-- what stands ahead of row k -/
def preD (l : List Di) (k : Nat) : Nat := if k = 0 then 0 else (l.getD (k - 1) ⟨0, 0⟩).page
def preA (l : List Ac) (k : Nat) : Nat := if k = 0 then 0 else (l.getD (k - 1) ⟨0, 0, 0, 0⟩).tx
theorem preD_next (l : List Di) (k : Nat) (h : k < l.length) : preD l (k + 1) = l[k].page := by
  unfold preD
  rw [if_neg (by omega), List.getD_eq_getElem?_getD, show k + 1 - 1 = k by omega, List.getElem?_eq_getElem h]; rfl
theorem preA_next (l : List Ac) (k : Nat) (h : k < l.length) : preA l (k + 1) = l[k].tx := by
  unfold preA
  rw [if_neg (by omega), List.getD_eq_getElem?_getD, show k + 1 - 1 = k by omega, List.getElem?_eq_getElem h]; rfl

set_option maxRecDepth 100000 in
set_option maxHeartbeats 4000000 in
theorem rtables_any {w : World} {r : Rc} {d t : Value} (h : InR w r d t) :
    Calls Try.prog 25 #[tabV r d t] w fun e w' => e = .returned (.bool (okTab r)) ∧ Below w.heap.size w w' := by
  have T0 := Lib.hid (Tb.start w r d t)
  have HD := Lib.hid h.di
  have HT := Lib.hid h.ac
  have e : okTab r = (decide (0 < r.ttx) && (decide (0 < r.tnum) && ((mayDiFrom 0 r.dirty && decide (r.dirty.length ≤ 64)) && (mayAcFrom 0 r.txns && decide (r.txns.length ≤ 64))))) := rfl
  have l1 := h.wf.dirty
  have l2 := h.wf.txns
  obtain ⟨ad, c, rfl⟩ := h.di.form
  obtain ⟨ad2, c2, rfl⟩ := h.ac.form
  clear h
  generalize okTab r = res at *
  obtain ⟨kind, tx, prev, page, slot, next, number, body, A, B, ttx, tnum⟩ := r
  simp only at *
  obtain ⟨n, hn⟩ : ∃ n, n = A.length := ⟨_, rfl⟩
  obtain ⟨m, hm⟩ : ∃ n, n = B.length := ⟨_, rfl⟩
  have N := Lib.hid hn
  have M := Lib.hid hm
  rw [← hn] at l1 HD
  rw [← hm] at l2 HT
  rw [← hn, ← hm] at T0 e ⊢
  clear hn hm
  have E := Lib.hid e
  clear e
  obtain ⟨a0, a1, a2, a3⟩ := T0.out.all
  unfold tabV tabC at *
  simp only at *
  have BB := Lib.hid T0.out.below
  by_cases h1 : 64 < n
  · have EE := Lib.hid (show res = false by rw [E.out, decide_eq_false (p := n ≤ 64) (by omega)]; simp)
    clear E
    go_enter Try.func25, Try.ntmps25
    go_wp2_with fail
    go_ret
    exact ⟨ret_bool EE.out.symm, BB.out⟩
  by_cases h2 : 64 < m
  · have EE := Lib.hid (show res = false by rw [E.out, decide_eq_false (p := m ≤ 64) (by omega)]; simp)
    clear E
    go_enter Try.func25, Try.ntmps25
    go_wp2_with fail
    go_ret
    exact ⟨ret_bool EE.out.symm, BB.out⟩
  by_cases h3 : ttx = 0
  · subst h3
    have EE := Lib.hid (show res = false by rw [E.out]; simp)
    clear E
    go_enter Try.func25, Try.ntmps25
    go_wp2_with fail
    go_ret
    exact ⟨ret_bool EE.out.symm, BB.out⟩
  have f3 : ((ttx : Int) == 0) = false := num_no h3
  by_cases h4 : tnum = 0
  · subst h4
    have EE := Lib.hid (show res = false by rw [E.out]; simp)
    clear E
    go_enter Try.func25, Try.ntmps25
    go_wp2_with fail
    go_ret
    exact ⟨ret_bool EE.out.symm, BB.out⟩
  have f4 : ((tnum : Int) == 0) = false := num_no h4
  have EE := Lib.hid (show res = (mayDiFrom 0 A && mayAcFrom 0 B) by rw [E.out, decide_eq_true (by omega), decide_eq_true (by omega), decide_eq_true (by omega), decide_eq_true (by omega)]; simp)
  clear E
  go_enter Try.func25, Try.ntmps25
  go_wp2_with fail
  clear a0 a1 a2 a3 f3 f4
  generalize hg : w.heap.size = g at *
  go_loopw [3] (fun i wr => ∃ j : Nat, j ≤ n ∧ i = .int .i64 (j : Int) ∧ Tb w wr g ⟨kind, tx, prev, page, slot, next, number, body, A, B, ttx, tnum⟩ (.slice ad n c) (.slice ad2 m c2) ∧ mayDiFrom 0 A = mayDiFrom (preD A j) (A.drop j)) (fun i _ => n - (intOf i).toNat)
  case atStart => exact ⟨0, by omega, rfl, T0.out, rfl⟩
  case round =>
    obtain ⟨j, hj, rfl, T1, he⟩ := hrel
    have TT := Lib.hid T1
    have HE := Lib.hid he
    clear T1 he T0
    obtain ⟨a0, a1, a2, a3⟩ := TT.out.all
    simp only at *
    by_cases hlt : j < n
    · have hlt1 : j < A.length := by rw [← N.out]; exact hlt
      rcases Nat.eq_zero_or_pos j with h0 | hpos
      · obtain ⟨x, o, cap', hv, hat⟩ := (HD.out.later TT.out.below).at hlt1
        simp only [Value.slice.injEq] at hv
        obtain ⟨rfl, e9, rfl⟩ := hv
        clear e9
        have hs := di_step (m := preD A j) hlt1
        rw [← HE.out] at hs
        have hnx := preD_next A j hlt1
        obtain ⟨c0, c1⟩ := hat
        generalize A[j] = q at *
        obtain ⟨qp, ql⟩ := q
        simp only at c0 c1 hs hnx
        have HX := Lib.hid hnx
        clear hlt1 hnx HE
        generalize hpp : preD A j = pp at *
        have HS := Lib.hid hs
        clear hs

        obtain rfl : pp = 0 := by rw [← hpp, h0]; rfl
        clear hpp
        have fj : decide ((0 : Int) < (j : Int)) = false := decide_eq_false (by omega)
        have fj2 : decide (0 < j) = false := decide_eq_false (by omega)
        clear h0
        by_cases g1 : qp = 0
        · subst g1
          have HR := Lib.hid (show res = false by rw [EE.out, HS.out, decide_eq_false (by omega)]; rfl)
          clear HS EE
          go_wp2_with fail
          go_quiet (fail)
          go_wp2_with fail
          go_ret
          exact ⟨ret_bool HR.out.symm, (TT.out.later (below_drewN (Below.refl _ _) _)).below⟩
        have f1 : ((qp : Int) == 0) = false := num_no g1
        by_cases g2 : ql = 0
        · subst g2
          have HR := Lib.hid (show res = false by rw [EE.out, HS.out, decide_eq_false (p := 0 < 0) (by omega)]; simp)
          clear HS EE
          go_wp2_with fail
          go_quiet (fail)
          go_wp2_with fail
          go_ret
          exact ⟨ret_bool HR.out.symm, (TT.out.later (below_drewN (Below.refl _ _) _)).below⟩
        have f2 : ((ql : Int) == 0) = false := num_no g2
        have HR := Lib.hid (show mayDiFrom 0 A = mayDiFrom (preD A (j + 1)) (A.drop (j + 1)) by rw [HS.out, decide_eq_true (by omega), decide_eq_true (by omega), HX.out]; rfl)
        clear HS EE
        go_wp2_with fail
        go_quiet (fail)
        go_wp2_with fail
        go_roundw
        case rel => exact ⟨j + 1, by omega, by go_num, TT.out.later (below_drewN (Below.refl _ _) _), HR.out⟩
        case measure => simp [intOf]; omega
      · obtain ⟨k, rfl⟩ : ∃ k, j = k + 1 := ⟨j - 1, by omega⟩
        obtain ⟨x, o, cap', hv, hat⟩ := (HD.out.later TT.out.below).at hlt1
        obtain ⟨x2, o2, cap2, hv2, hat2⟩ := (HD.out.later TT.out.below).at (show k < A.length by omega)
        rw [hv] at hv2
        simp only [Value.slice.injEq, Option.some.injEq, Addr.mk.injEq, and_true] at hv2
        obtain ⟨⟨rfl, rfl⟩, _, _⟩ := hv2
        have p0 := hat2.c0
        rw [← preD_next A k (by omega)] at p0
        simp only [Value.slice.injEq] at hv
        obtain ⟨rfl, e9, rfl⟩ := hv
        clear e9
        have hs := di_step (m := preD A (k + 1)) hlt1
        rw [← HE.out] at hs
        have hnx := preD_next A (k + 1) hlt1
        obtain ⟨c0, c1⟩ := hat
        generalize A[(k + 1)] = q at *
        obtain ⟨qp, ql⟩ := q
        simp only at c0 c1 hs hnx
        have HX := Lib.hid hnx
        clear hat2 hlt1 hnx HE
        generalize hpp : preD A (k + 1) = pp at *
        have HS := Lib.hid hs
        clear hs

        clear hpp
        have fj : decide ((0 : Int) < ((k + 1 : Nat) : Int)) = true := decide_eq_true (by omega)
        have fj2 : decide ((0 : Int) < (k : Int) + 1) = true := decide_eq_true (by omega)
        by_cases g1 : qp = 0
        · subst g1
          have HR := Lib.hid (show res = false by rw [EE.out, HS.out, decide_eq_false (by omega)]; rfl)
          clear HS EE
          go_wp2_with fail
          go_quiet (fail)
          go_wp2_with fail
          go_ret
          exact ⟨ret_bool HR.out.symm, (TT.out.later (below_drewN (Below.refl _ _) _)).below⟩
        have f1 : ((qp : Int) == 0) = false := num_no g1
        by_cases g2 : ql = 0
        · subst g2
          have HR := Lib.hid (show res = false by rw [EE.out, HS.out, decide_eq_false (p := 0 < 0) (by omega)]; simp)
          clear HS EE
          go_wp2_with fail
          go_quiet (fail)
          go_wp2_with fail
          go_ret
          exact ⟨ret_bool HR.out.symm, (TT.out.later (below_drewN (Below.refl _ _) _)).below⟩
        have f2 : ((ql : Int) == 0) = false := num_no g2
        by_cases g3 : qp ≤ pp
        · have f3 : decide ((qp : Int) ≤ (pp : Int)) = true := decide_eq_true (by omega)
          have f4 : decide (qp ≤ pp) = true := decide_eq_true g3
          have HR := Lib.hid (show res = false by rw [EE.out, HS.out, decide_eq_false (by omega)]; rfl)
          clear HS EE
          go_wp2_with fail
          go_quiet (fail)
          go_wp2_with fail
          go_ret
          exact ⟨ret_bool HR.out.symm, (TT.out.later (below_drewN (Below.refl _ _) _)).below⟩
        · have f3 : decide ((qp : Int) ≤ (pp : Int)) = false := decide_eq_false (by omega)
          have f4 : decide (qp ≤ pp) = false := decide_eq_false g3
          have HR := Lib.hid (show mayDiFrom 0 A = mayDiFrom (preD A ((k + 1) + 1)) (A.drop (k + 1 + 1)) by rw [HS.out, decide_eq_true (by omega), decide_eq_true (by omega), HX.out]; rfl)
          clear HS EE
          go_wp2_with fail
          go_quiet (fail)
          go_wp2_with fail
          go_roundw
          case rel => exact ⟨k + 1 + 1, by omega, by go_num, TT.out.later (below_drewN (Below.refl _ _) _), HR.out⟩
          case measure => simp [intOf]; omega
    · obtain rfl : j = n := by omega
      have hd : A.drop j = [] := List.drop_eq_nil_of_le (by rw [← N.out]; exact Nat.le_refl _)
      have he := HE.out
      rw [hd] at he
      have EE2 := Lib.hid (show res = mayAcFrom 0 B by rw [EE.out, he]; rfl)
      clear he hd HE EE hlt
      go_wp2_with fail
      clear a0 a1 a2 a3
      go_loopw [4] (fun i wr => ∃ i' : Nat, i' ≤ m ∧ i = .int .i64 (i' : Int) ∧ Tb w wr g ⟨kind, tx, prev, page, slot, next, number, body, A, B, ttx, tnum⟩ (.slice ad j c) (.slice ad2 m c2) ∧ mayAcFrom 0 B = mayAcFrom (preA B i') (B.drop i')) (fun i _ => m - (intOf i).toNat)
      case atStart => exact ⟨0, by omega, rfl, TT.out, rfl⟩
      case round =>
        obtain ⟨i, hi, rfl, T1, he⟩ := hrel
        clear TT
        have TT := Lib.hid T1
        have HE := Lib.hid he
        clear T1 he
        obtain ⟨a0, a1, a2, a3⟩ := TT.out.all
        simp only at *
        by_cases hlt : i < m
        · have hlt1 : i < B.length := by rw [← M.out]; exact hlt
          rcases Nat.eq_zero_or_pos i with h0 | hpos
          · obtain ⟨x, o, cap', hv, hat⟩ := (HT.out.later TT.out.below).at hlt1
            simp only [Value.slice.injEq] at hv
            obtain ⟨rfl, e9, rfl⟩ := hv
            clear e9
            have hs := ac_step (m := preA B i) hlt1
            rw [← HE.out] at hs
            have hnx := preA_next B i hlt1
            obtain ⟨c0, c1, c2, c3⟩ := hat
            generalize B[i] = q at *
            obtain ⟨qt, qf, ql, qn⟩ := q
            simp only at c0 c1 c2 c3 hs hnx
            have HX := Lib.hid hnx
            clear hlt1 hnx HE
            generalize hpp : preA B i = pp at *
            have HS := Lib.hid hs
            clear hs
            obtain rfl : pp = 0 := by rw [← hpp, h0]; rfl
            clear hpp
            have fj : decide ((0 : Int) < (i : Int)) = false := decide_eq_false (by omega)
            have fj2 : decide (0 < i) = false := decide_eq_false (by omega)
            clear h0
            go_upto_region 12 with fail
            have TW := Lib.hid (TT.out.later (below_new wr (.cells #[.int .u64 (qt : Int), .int .u64 (qf : Int), .int .u64 (ql : Int), .int .u64 (qn : Int)] 57)))
            have AB := Lib.hid (Ab.make TT.out ⟨qt, qf, ql, qn⟩)
            clear c0 c1 c2 c3 a0 a1 a2 a3
            simp only at AB
            generalize hb : wr.heap.size = b at *
            generalize wr.alloc _ = W12 at *
            obtain ⟨c0, c1, c2, c3⟩ := AB.out.four
            obtain ⟨a0, a1, a2, a3⟩ := TW.out.all
            simp only at a0 a1 a2 a3 c0 c1 c2 c3
            by_cases g1 : qt = 0
            · subst g1
              have HR := Lib.hid (show res = false by rw [EE2.out, HS.out, decide_eq_false (by omega)]; rfl)
              clear HS EE2
              go_quiet (fail)
              go_wp2_with fail
              go_ret
              exact ⟨ret_bool HR.out.symm, (TW.out.later (below_drewN (Below.refl _ _) _)).below⟩
            have f1 : ((qt : Int) == 0) = false := num_no g1
            by_cases g2 : qf = 0
            · subst g2
              have HR := Lib.hid (show res = false by rw [EE2.out, HS.out, decide_eq_false (p := 0 < 0) (by omega)]; simp)
              clear HS EE2
              go_quiet (fail)
              go_wp2_with fail
              go_ret
              exact ⟨ret_bool HR.out.symm, (TW.out.later (below_drewN (Below.refl _ _) _)).below⟩
            have f2 : ((qf : Int) == 0) = false := num_no g2
            by_cases g3 : ql = 0
            · subst g3
              have HR := Lib.hid (show res = false by rw [EE2.out, HS.out, decide_eq_false (p := 0 < 0) (by omega)]; simp)
              clear HS EE2
              go_quiet (fail)
              go_wp2_with fail
              go_ret
              exact ⟨ret_bool HR.out.symm, (TW.out.later (below_drewN (Below.refl _ _) _)).below⟩
            have f3 : ((ql : Int) == 0) = false := num_no g3
            have HR := Lib.hid (show mayAcFrom 0 B = mayAcFrom (preA B (i + 1)) (B.drop (i + 1)) by rw [HS.out, decide_eq_true (by omega), decide_eq_true (by omega), decide_eq_true (by omega), HX.out]; rfl)
            clear HS EE2
            go_quiet (fail)
            go_wp2_with fail
            go_roundw
            case rel => exact ⟨i + 1, by omega, by go_num, TW.out.later (below_drewN (Below.refl _ _) _), HR.out⟩
            case measure => simp [intOf]; omega
          · obtain ⟨k, rfl⟩ : ∃ k, i = k + 1 := ⟨i - 1, by omega⟩
            obtain ⟨x, o, cap', hv, hat⟩ := (HT.out.later TT.out.below).at hlt1
            obtain ⟨x2, o2, cap2, hv2, hat2⟩ := (HT.out.later TT.out.below).at (show k < B.length by omega)
            rw [hv] at hv2
            simp only [Value.slice.injEq, Option.some.injEq, Addr.mk.injEq, and_true] at hv2
            obtain ⟨⟨rfl, rfl⟩, _, _⟩ := hv2
            have p00 := hat2.c0
            rw [← preA_next B k (by omega)] at p00
            simp only [Value.slice.injEq] at hv
            obtain ⟨rfl, e9, rfl⟩ := hv
            clear e9
            have hs := ac_step (m := preA B (k + 1)) hlt1
            rw [← HE.out] at hs
            have hnx := preA_next B (k + 1) hlt1
            obtain ⟨c0, c1, c2, c3⟩ := hat
            generalize B[(k + 1)] = q at *
            obtain ⟨qt, qf, ql, qn⟩ := q
            simp only at c0 c1 c2 c3 hs hnx
            have HX := Lib.hid hnx
            clear hat2 hlt1 hnx HE
            generalize hpp : preA B (k + 1) = pp at *
            have HS := Lib.hid hs
            clear hs
            clear hpp
            have fj : decide ((0 : Int) < ((k + 1 : Nat) : Int)) = true := decide_eq_true (by omega)
            have fj2 : decide ((0 : Int) < (k : Int) + 1) = true := decide_eq_true (by omega)
            go_upto_region 12 with fail
            have TW := Lib.hid (TT.out.later (below_new wr (.cells #[.int .u64 (qt : Int), .int .u64 (qf : Int), .int .u64 (ql : Int), .int .u64 (qn : Int)] 57)))
            have AB := Lib.hid (Ab.make TT.out ⟨qt, qf, ql, qn⟩)
            have p0 : (wr.alloc (.cells #[.int .u64 (qt : Int), .int .u64 (qf : Int), .int .u64 (ql : Int), .int .u64 (qn : Int)] 57)).cell? ⟨x, o + k * 4, none⟩ = some (.int .u64 (pp : Int)) := (World.cell?_of_block ((below_new wr _).block x (block_lt_of_cell p00))).trans p00
            clear c0 c1 c2 c3 a0 a1 a2 a3 p00
            simp only at AB
            generalize hb : wr.heap.size = b at *
            generalize wr.alloc _ = W12 at *
            obtain ⟨c0, c1, c2, c3⟩ := AB.out.four
            obtain ⟨a0, a1, a2, a3⟩ := TW.out.all
            simp only at a0 a1 a2 a3 c0 c1 c2 c3
            by_cases g1 : qt = 0
            · subst g1
              have HR := Lib.hid (show res = false by rw [EE2.out, HS.out, decide_eq_false (by omega)]; rfl)
              clear HS EE2
              go_quiet (fail)
              go_wp2_with fail
              go_ret
              exact ⟨ret_bool HR.out.symm, (TW.out.later (below_drewN (Below.refl _ _) _)).below⟩
            have f1 : ((qt : Int) == 0) = false := num_no g1
            by_cases g2 : qf = 0
            · subst g2
              have HR := Lib.hid (show res = false by rw [EE2.out, HS.out, decide_eq_false (p := 0 < 0) (by omega)]; simp)
              clear HS EE2
              go_quiet (fail)
              go_wp2_with fail
              go_ret
              exact ⟨ret_bool HR.out.symm, (TW.out.later (below_drewN (Below.refl _ _) _)).below⟩
            have f2 : ((qf : Int) == 0) = false := num_no g2
            by_cases g3 : ql = 0
            · subst g3
              have HR := Lib.hid (show res = false by rw [EE2.out, HS.out, decide_eq_false (p := 0 < 0) (by omega)]; simp)
              clear HS EE2
              go_quiet (fail)
              go_wp2_with fail
              go_ret
              exact ⟨ret_bool HR.out.symm, (TW.out.later (below_drewN (Below.refl _ _) _)).below⟩
            have f3 : ((ql : Int) == 0) = false := num_no g3
            by_cases g4 : qt ≤ pp
            · have f4 : decide ((qt : Int) ≤ (pp : Int)) = true := decide_eq_true (by omega)
              have f5 : decide (qt ≤ pp) = true := decide_eq_true g4
              have HR := Lib.hid (show res = false by rw [EE2.out, HS.out, decide_eq_false (by omega)]; rfl)
              clear HS EE2
              go_quiet (fail)
              go_wp2_with fail
              go_ret
              exact ⟨ret_bool HR.out.symm, (TW.out.later (below_drewN (Below.refl _ _) _)).below⟩
            · have f4 : decide ((qt : Int) ≤ (pp : Int)) = false := decide_eq_false (by omega)
              have f5 : decide (qt ≤ pp) = false := decide_eq_false g4
              have HR := Lib.hid (show mayAcFrom 0 B = mayAcFrom (preA B (k + 1 + 1)) (B.drop (k + 1 + 1)) by rw [HS.out, decide_eq_true (by omega), decide_eq_true (by omega), decide_eq_true (by omega), HX.out]; rfl)
              clear HS EE2
              go_quiet (fail)
              go_wp2_with fail
              go_roundw
              case rel => exact ⟨k + 1 + 1, by omega, by go_num, TW.out.later (below_drewN (Below.refl _ _) _), HR.out⟩
              case measure => simp [intOf]; omega
        · obtain rfl : i = m := by omega
          have hd : B.drop i = [] := List.drop_eq_nil_of_le (by rw [← M.out]; exact Nat.le_refl _)
          have he := HE.out
          rw [hd] at he
          have EE3 := Lib.hid (show res = true by rw [EE2.out, he]; rfl)
          clear he hd HE EE2 hlt
          go_wp2_with fail
          go_ret
          exact ⟨ret_bool EE3.out.symm, TT.out.below⟩

end Go.Proofs.Ytadhophiannigaa.Rec
