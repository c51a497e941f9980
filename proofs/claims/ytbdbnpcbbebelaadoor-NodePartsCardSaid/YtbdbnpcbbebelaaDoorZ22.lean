/-
  Walks: where to cut, in the code.
-/
import Derived.LoopN
import Derived.Test.YtbdbnpcbbebelaaDoorZ21
namespace Go.Proofs.YtbdbnpcbbebelaaDoor.Node
open Go.RowKit
open Go.Proofs.YtbdbnpcbbebelaaDoor.Page (Pg nth used pgV pgC CapOk zeroP info_page results_page zero_one rows_head rows_tail Parts joinL NilOk)
attribute [local go_sem ↓] Go.wp_at_zero Go.wp_at_succ

/-- how far both parts are, where the best place so far is -/
def lst (l : List ByteArray) (k : Nat) : Nat := if bst l k = 0 then 0 else dif l (bst l k)
theorem bst_keep {l : List ByteArray} {j : Nat} (h : fitB l (j + 1) = false ∨ (bst l j ≠ 0 ∧ ¬ dif l (j + 1) < lst l j)) : bst l (j + 1) = bst l j ∧ lst l (j + 1) = lst l j := by
  have e : bst l (j + 1) = bst l j := by
    show (if fitB l (j + 1) && (decide (bst l j = 0) || decide (dif l (j + 1) < dif l (bst l j))) then j + 1 else bst l j) = _
    rcases h with h | ⟨h1, h2⟩
    · rw [h]; rfl
    · unfold lst at h2
      rw [if_neg h1] at h2
      rw [decide_eq_false h1, decide_eq_false h2]
      simp
  exact ⟨e, by unfold lst; rw [e]⟩
theorem bst_set {l : List ByteArray} {j : Nat} (h : fitB l (j + 1) = true) (h2 : bst l j = 0 ∨ dif l (j + 1) < lst l j) : bst l (j + 1) = j + 1 ∧ lst l (j + 1) = dif l (j + 1) := by
  have e : bst l (j + 1) = j + 1 := by
    show (if fitB l (j + 1) && (decide (bst l j = 0) || decide (dif l (j + 1) < dif l (bst l j))) then j + 1 else bst l j) = _
    rw [h]
    by_cases h0 : bst l j = 0
    · rw [decide_eq_true h0]; rfl
    · rcases h2 with h2 | h2
      · exact absurd h2 h0
      · unfold lst at h2
        rw [if_neg h0] at h2
        rw [decide_eq_true h2, Bool.or_true]; rfl
  exact ⟨e, by unfold lst; rw [e, if_neg (by omega)]⟩

set_option maxRecDepth 100000 in
set_option maxHeartbeats 8000000 in
theorem cut_any {w : World} {v : Value} (p : Pg) (h : Page.Rows w v p.rows) (hc : CapOk v) (hu : used p.rows ≤ 1000000) (hd : ∀ r, Page.mayP { p with rows := r } = decide (used r ≤ 484)) :
    Calls Tryd.prog 50 #[pgV p v] w fun e w' => e = .returned (.int .i64 (cutN p.rows : Int)) ∧ Below w.heap.size w w' := by
  have T0 := Lib.hid (Pb.start h)
  have RM := Lib.hid (fun (W : World) (t : Pb w W w.heap.size p v) (z : Value) (r : List ByteArray) (hr : Page.Rows w z r) (hu : used r ≤ 1000000) => (show Calls Tryd.prog 46 #[pgV p v, z] W fun e w' => e = .returned (.bool (decide (used r ≤ 484))) ∧ Below W.heap.size W w' by
    have := roomy_any p t.rows (hr.later t.below) hu
    rw [hd] at this
    exact this))
  have WG := Lib.hid (fun (W : World) (t : Below w.heap.size w W) (z : Value) (r : List ByteArray) (hr : Page.Rows w z r) (hu : used r ≤ 1000000) => weight_any (hr.later t) hu)
  have SL := Lib.hid (fun (k : Nat) (hk : k ≤ p.rows.length) => (show ∃ x1 x2, (∀ W : World, (Instr.sliceAt 24 v none (some (.int .i64 (k : Int))) none).run Tryd.prog W = .ok x1 W) ∧ (∀ W : World, (Instr.sliceAt 24 v (some (.int .i64 (k : Int))) none none).run Tryd.prog W = .ok x2 W) ∧ Page.Rows w x1 (p.rows.take k) ∧ Page.Rows w x2 (p.rows.drop k) by
    obtain ⟨x1, s1, r1, _⟩ := rows_head h hc hk
    obtain ⟨x2, s2, r2, _⟩ := rows_tail h hc hk
    exact ⟨x1, x2, s1, s2, r1, r2⟩))
  have U := Lib.hid hu
  have UT := Lib.hid (fun k => used_drop_le p.rows k)
  obtain ⟨n, hn⟩ : ∃ n, n = p.rows.length := ⟨_, rfl⟩
  have N := Lib.hid hn
  have hn2 : n ≤ 250000 := by have := Page.used_len p.rows; omega
  obtain ⟨ad, c, rfl, _⟩ := id h
  have CN := Lib.hid (show cutN p.rows = bst p.rows (n - 1) by unfold cutN; rw [hn])
  rw [← hn] at T0 RM SL ⊢
  clear h hc hu hd hn
  unfold pgV at RM
  unfold pgV
  have TT := Lib.hid T0.out
  unfold pgC at T0
  go_enter Tryd.func50, Tryd.ntmps50
  go_wp2_with fail
  go_step3
  go_wp2_with fail
  go_step3
  go_wp2_with fail
  go_loopw [3, 4, 5] (fun x y z wr => ∃ j : Nat, (j + 1 ≤ n ∨ j = 0) ∧ x = .int .i64 (bst p.rows j : Int) ∧ y = .int .i64 (lst p.rows j : Int) ∧ z = .int .i64 ((j : Int) + 1) ∧ Pb w wr w.heap.size p (.slice ad n c)) (fun _ _ z _ => n - (intOf z).toNat)
  case atStart => exact ⟨0, by omega, rfl, rfl, by go_num, TT.out⟩
  case round =>
    obtain ⟨j, hj, rfl, rfl, rfl, hpb⟩ := hrel
    have HP := Lib.hid hpb
    clear hpb TT T0
    have bl := bst_le p.rows j
    have ll : lst p.rows j ≤ 1000000 := by
      unfold lst dif
      have := U.out
      have := UT.out (bst p.rows j)
      split
      · omega
      · split <;> omega
    by_cases hlt : j + 1 < n
    · obtain ⟨x1, x2, s1, s2, r1, r2⟩ := SL.out (j + 1) (by omega)
      have KEEP := Lib.hid (fun (h : fitB p.rows (j + 1) = false ∨ (bst p.rows j ≠ 0 ∧ ¬ dif p.rows (j + 1) < lst p.rows j)) => bst_keep h)
      have SET := Lib.hid (fun (h : fitB p.rows (j + 1) = true) (h2 : bst p.rows j = 0 ∨ dif p.rows (j + 1) < lst p.rows j) => bst_set h h2)
      have u1 := UT.out (j + 1)
      have FT := Lib.hid (show fitB p.rows (j + 1) = (decide (used (p.rows.take (j + 1)) ≤ 484) && decide (used (p.rows.drop (j + 1)) ≤ 484)) from rfl)
      have DF := Lib.hid (show dif p.rows (j + 1) = if used (p.rows.take (j + 1)) < used (p.rows.drop (j + 1)) then used (p.rows.drop (j + 1)) - used (p.rows.take (j + 1)) else used (p.rows.take (j + 1)) - used (p.rows.drop (j + 1)) from rfl)
      have RA := Lib.hid (fun (W : World) (t : Pb w W w.heap.size p (.slice ad n c)) => RM.out W t x1 _ r1 (by have := U.out; omega))
      have RB := Lib.hid (fun (W : World) (t : Pb w W w.heap.size p (.slice ad n c)) => RM.out W t x2 _ r2 (by have := U.out; omega))
      have WA := Lib.hid (fun (W : World) (t : Below w.heap.size w W) => WG.out W t x1 _ r1 (by have := U.out; omega))
      have WB := Lib.hid (fun (W : World) (t : Below w.heap.size w W) => WG.out W t x2 _ r2 (by have := U.out; omega))
      have hua : used (p.rows.take (j + 1)) ≤ 1000000 := by have := U.out; omega
      have hub : used (p.rows.drop (j + 1)) ≤ 1000000 := by have := U.out; omega
      generalize used (p.rows.take (j + 1)) = ua at *
      generalize used (p.rows.drop (j + 1)) = ub at *
      obtain ⟨ad1, cc1, hx1, _⟩ := r1
      obtain ⟨ad2, cc2, hx2, _⟩ := r2
      subst hx1
      subst hx2
      generalize (p.rows.take (j + 1)).length = m1 at *
      generalize (p.rows.drop (j + 1)).length = m2 at *
      have e1 : ((j + 1 : Nat) : Int) = (j : Int) + 1 := by omega
      rw [e1] at s1 s2
      have PD := Lib.hid (HP.out.later ((Below.refl _ _).drew))
      obtain ⟨a0, a1, a2, a3, a4, a5⟩ := HP.out.six
      have HB := Lib.hid HP.out
      clear u1 e1 HP RM WG SL
      have bjn : bst p.rows j ≤ 250000 := by omega
      generalize bst p.rows j = bj at *
      generalize lst p.rows j = lj at *
      generalize dif p.rows (j + 1) = dj at *
      go_wp2_with fail
      go_quiet (fail)
      go_upto_region 7 with fail
      clear a0 a1 a2 a3 a4 a5
      have P1 := Lib.hid ((HB.out.later (Key.below_drewN' (Below.refl wr.heap.size wr) nq)).later (below_new (wr.drewN nq) (.cells #[.slice ad1 m1 cc1, .slice ad2 m2 cc2] 24)))
      have B1 := Lib.hid (show ((wr.drewN nq).alloc (.cells #[.slice ad1 m1 cc1, .slice ad2 m2 cc2] 24)).heap[wr.heap.size]? = some (.cells #[.slice ad1 m1 cc1, .slice ad2 m2 cc2] 24 (0, 0)) from heap_alloc_new (wr.drewN nq) _)
      generalize (wr.drewN nq).alloc _ = W1 at *
      generalize wr.heap.size = blk at *
      obtain ⟨a0, a1, a2, a3, a4, a5⟩ := P1.out.six
      have c0 : W1.cell? ⟨blk, 0, none⟩ = some (.slice ad1 m1 cc1) := by rw [cell_of_row _ _ _ _ _ _ B1.out]; rfl
      refine wp_loop_rounds 3 ?_
      rw [rounds_succ]
      clear HB
      go_wp2_with fail
      refine (RA.out _ P1.out).mono ?_
      rintro e W2 ⟨rfl, b2⟩
      have P2 := Lib.hid (P1.out.later b2)
      have B2 := Lib.hid (old_blk b2 B1.out)
      clear P1 B1 b2 RA a0 a1 a2 a3 a4 a5 c0
      by_cases h1 : ua ≤ 484
      · rw [decide_eq_true h1] at FT ⊢
        obtain ⟨a0, a1, a2, a3, a4, a5⟩ := P2.out.six
        have c1 : W2.cell? ⟨blk, 1, none⟩ = some (.slice ad2 m2 cc2) := by rw [cell_of_row _ _ _ _ _ _ B2.out]; rfl
        go_wp2_with fail
        rw [rounds_succ]
        go_wp2_with fail
        refine (RB.out _ P2.out).mono ?_
        rintro e W3 ⟨rfl, b3⟩
        have P3 := Lib.hid (P2.out.later b3)
        clear P2 B2 b3 RB a0 a1 a2 a3 a4 a5 c1
        by_cases h2 : ub ≤ 484
        · rw [decide_eq_true h2] at FT ⊢
          go_wp2_with fail
          rw [rounds_succ]
          go_wp2_with fail
          refine (WA.out _ P3.out.below).mono ?_
          rintro e W4 ⟨rfl, rfl⟩
          go_wp2_with fail
          refine (WB.out _ P3.out.below).mono ?_
          rintro e W5 ⟨rfl, rfl⟩
          have FIT := Lib.hid (show fitB p.rows (j + 1) = true by rw [FT.out]; rfl)
          clear WA WB FT h1 h2
          by_cases hab : ua < ub
          · have hdj : (ub : Int) - (ua : Int) = (dj : Int) := by have := DF.out; rw [if_pos hab] at this; omega
            have hdj2 : dj = ub - ua := by omega
            clear DF
            by_cases hb0 : bj = 0
            · obtain ⟨k1, k2⟩ := SET.out FIT.out (.inl hb0)
              have KK1 := Lib.hid k1
              have KK2 := Lib.hid k2
              subst hb0
              clear k1 k2 KEEP SET
              go_wp2_with fail
              go_roundw
              case rel => exact ⟨j + 1, by omega, by rw [KK1.out]; go_num, by rw [KK2.out]; exact congrArg (Value.int .i64) (by omega), by go_num, P3.out⟩
              case measure => simp [intOf]; omega
            · by_cases hdl : dj < lj
              · obtain ⟨k1, k2⟩ := SET.out FIT.out (.inr hdl)
                have KK1 := Lib.hid k1
                have KK2 := Lib.hid k2
                have hb1 : 0 < bj := by omega
                clear k1 k2 KEEP SET hb0
                go_wp2_with fail
                go_roundw
                case rel => exact ⟨j + 1, by omega, by rw [KK1.out]; go_num, by rw [KK2.out]; exact congrArg (Value.int .i64) (by omega), by go_num, P3.out⟩
                case measure => simp [intOf]; omega
              · obtain ⟨k1, k2⟩ := KEEP.out (.inr ⟨hb0, hdl⟩)
                have KK1 := Lib.hid k1
                have KK2 := Lib.hid k2
                have hb1 : 0 < bj := by omega
                clear k1 k2 KEEP SET hb0
                go_wp2_with fail
                go_roundw
                case rel => exact ⟨j + 1, by omega, by rw [KK1.out], by rw [KK2.out], by go_num, P3.out⟩
                case measure => simp [intOf]; omega
          · have hdj : (ua : Int) - (ub : Int) = (dj : Int) := by have := DF.out; rw [if_neg hab] at this; omega
            have hdj2 : dj = ua - ub := by omega
            clear DF
            by_cases hb0 : bj = 0
            · obtain ⟨k1, k2⟩ := SET.out FIT.out (.inl hb0)
              have KK1 := Lib.hid k1
              have KK2 := Lib.hid k2
              subst hb0
              clear k1 k2 KEEP SET
              go_wp2_with fail
              go_roundw
              case rel => exact ⟨j + 1, by omega, by rw [KK1.out]; go_num, by rw [KK2.out]; exact congrArg (Value.int .i64) (by omega), by go_num, P3.out⟩
              case measure => simp [intOf]; omega
            · by_cases hdl : dj < lj
              · obtain ⟨k1, k2⟩ := SET.out FIT.out (.inr hdl)
                have KK1 := Lib.hid k1
                have KK2 := Lib.hid k2
                have hb1 : 0 < bj := by omega
                clear k1 k2 KEEP SET hb0
                go_wp2_with fail
                go_roundw
                case rel => exact ⟨j + 1, by omega, by rw [KK1.out]; go_num, by rw [KK2.out]; exact congrArg (Value.int .i64) (by omega), by go_num, P3.out⟩
                case measure => simp [intOf]; omega
              · obtain ⟨k1, k2⟩ := KEEP.out (.inr ⟨hb0, hdl⟩)
                have KK1 := Lib.hid k1
                have KK2 := Lib.hid k2
                have hb1 : 0 < bj := by omega
                clear k1 k2 KEEP SET hb0
                go_wp2_with fail
                go_roundw
                case rel => exact ⟨j + 1, by omega, by rw [KK1.out], by rw [KK2.out], by go_num, P3.out⟩
                case measure => simp [intOf]; omega
        · rw [decide_eq_false h2]
          obtain ⟨k1, k2⟩ := KEEP.out (.inl (by rw [FT.out, decide_eq_false h2]; rfl))
          have KK1 := Lib.hid k1
          have KK2 := Lib.hid k2
          clear k1 k2 KEEP SET h1 h2 FT WA WB
          go_wp2_with fail
          go_roundw
          case rel => exact ⟨j + 1, by omega, by rw [KK1.out], by rw [KK2.out], by go_num, P3.out⟩
          case measure => simp [intOf]; omega
      · rw [decide_eq_false h1]
        obtain ⟨k1, k2⟩ := KEEP.out (.inl (by rw [FT.out, decide_eq_false h1]; rfl))
        have KK1 := Lib.hid k1
        have KK2 := Lib.hid k2
        clear k1 k2 KEEP SET h1 FT WA WB RB
        go_wp2_with fail
        go_roundw
        case rel => exact ⟨j + 1, by omega, by rw [KK1.out], by rw [KK2.out], by go_num, P2.out⟩
        case measure => simp [intOf]; omega
    · have e : j = n - 1 := by omega
      have EC := Lib.hid (show cutN p.rows = bst p.rows j by rw [CN.out, e])
      obtain ⟨a0, a1, a2, a3, a4, a5⟩ := HP.out.six
      clear e CN
      go_wp2_with fail
      rw [Exit.noGoto_ret]
      go_ret
      exact ⟨by rw [EC.out]; rfl, HP.out.below⟩

end Go.Proofs.YtbdbnpcbbebelaaDoor.Node
