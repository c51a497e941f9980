/-
  Walks: a page without a row, in the document.
  Walks: a page without a row, in the document.
-/
import Derived.Deep.RegionLaw
import Derived.Test.YtbdbnpcbbebelaaDoorZ11
import Derived.Test.YtbdbnpcbbebelaaDoorZ3
namespace Go.Proofs.YtbdbnpcbbebelaaDoor.Node
open Go.RowKit
open Go.Proofs.YtbdbnpcbbebelaaDoor.Page (Pg nth used pgV pgC CapOk zeroP info_page results_page zero_one rows_head rows_tail)
attribute [local go_sem ↓] Go.wp_at_zero Go.wp_at_succ

set_option maxRecDepth 100000 in
set_option maxHeartbeats 4000000 in
theorem rout_one {w : World} {v : Value} (p : Pg) (h : Page.Rows w v p.rows) (hu : used p.rows ≤ 900000) (hk : nodeB p = true) (hy : p.kind = 2 ∧ p.rows.length = 1) :
    Calls Tryd.prog 23 #[pgV p v, .int .i64 0] w (PgPost Pg.zero 7 w) := by
  have T0 := Lib.hid (Pp.start h)
  have K1 := Lib.hid (fun (W : World) (T : Pp w W w.heap.size (w.heap.size + 1) p v) => rcheck_any p T.pb.rows (by omega))
  have eci : checkI p = 0 := by unfold checkI; rw [hk]; rfl
  rw [eci] at K1
  obtain ⟨ad, c, rfl, _⟩ := id h
  clear h hu hk eci
  rw [hy.2] at T0 K1 ⊢
  have e1 : ((p.kind : Int) == 2) = true := by simp; omega
  clear hy
  obtain ⟨a0, a1, a2, a3, a4, a5⟩ := T0.out.pb.six
  unfold pgV pgC at *
  go_enter Tryd.func23, Tryd.ntmps23
  go_wp2_with fail
  refine (K1.out _ T0.out).mono ?_
  rintro e w1 ⟨rfl, b1⟩
  have T1 := Lib.hid (T0.out.later b1)
  clear b1 T0 a0 a1 a2 a3 a4 a5 K1
  obtain ⟨a0, a1, a2, a3, a4, a5⟩ := T1.out.pb.six
  obtain ⟨r, hr⟩ : ∃ r, r = w.heap.size + 1 := ⟨_, rfl⟩
  rw [← hr] at T1 ⊢
  have GR := Lib.hid (show w.heap.size ≤ r by omega)
  have HB := Lib.hid T1.out.res
  have HL := Lib.hid T1.out.pb.below
  clear T1 hr
  go_wp2_with (refine wpList_store_row rfl 26 _ _ rfl r zeroP rfl rfl 26 zeroP HB.out info_page rfl zero_one ?_)
  exact bodyPost_ret (v := .tuple #[pgV Pg.zero (.slice none 0 0), .int .i64 7]) (results_page Tryd.results23 _ _ r zeroP 7 rfl rfl (setRow_heap _ _ _ _ _ _ HB.out) info_page) rfl (PgPost.none 7 (below_setRow HL.out GR.out _))

end Go.Proofs.YtbdbnpcbbebelaaDoor.Node

namespace Go.Proofs.YtbdbnpcbbebelaaDoor.Node
open Go.RowKit
open Go.Proofs.YtbdbnpcbbebelaaDoor.Page (Pg nth used pgV pgC CapOk zeroP info_page results_page zero_one rows_head rows_tail)
attribute [local go_sem ↓] Go.wp_at_zero Go.wp_at_succ

set_option maxRecDepth 100000 in
set_option maxHeartbeats 4000000 in
theorem rout_yes {w : World} {v : Value} (p : Pg) (k : Nat) (h : Page.Rows w v p.rows) (hc : CapOk v) (hu : used p.rows ≤ 900000) (hk : nodeB p = true) (hx : k < p.rows.length) (hy : ¬ (p.kind = 2 ∧ p.rows.length = 1)) :
    Calls Tryd.prog 23 #[pgV p v, .int .i64 (k : Int)] w (PgPost (outQ p k) 0 w) := by
  have T0 := Lib.hid (Pp.start h)
  have K1 := Lib.hid (fun (W : World) (T : Pp w W w.heap.size (w.heap.size + 1) p v) => rcheck_any p T.pb.rows (by omega))
  have eci : checkI p = 0 := by unfold checkI; rw [hk]; rfl
  rw [eci] at K1
  have hn2 : p.rows.length ≤ 250000 := by have := Page.used_len p.rows; omega
  obtain ⟨x1, s1, r1, c1⟩ := rows_head h hc (show k ≤ p.rows.length by omega)
  obtain ⟨x2, s2, r2, c2⟩ := rows_tail h hc (show k + 1 ≤ p.rows.length by omega)
  have OLD := Lib.hid (old_of h)
  have R1 := Lib.hid r1
  have R2 := Lib.hid r2
  have N1 := Lib.hid c1.nilOk
  have N2 := Lib.hid c2.nilOk
  have L1 := Lib.hid (show ([] : List ByteArray).length + (p.rows.take k).length ≤ 1000000 by simp; omega)
  have L2 := Lib.hid (show (p.rows.take k).length + (p.rows.drop (k + 1)).length ≤ 1000000 by simp; omega)
  obtain ⟨A, hA⟩ : ∃ A, A = p.rows.take k := ⟨_, rfl⟩
  obtain ⟨B, hB⟩ : ∃ B, B = p.rows.drop (k + 1) := ⟨_, rfl⟩
  have OR := Lib.hid (show A ++ B = (outQ p k).rows by rw [hA, hB]; rfl)
  rw [← hA] at R1 L1 L2
  rw [← hB] at R2 L2
  obtain ⟨ad, c, rfl, _⟩ := id h
  clear h hc hu hk eci r1 r2 c1 c2 hA hB
  obtain ⟨n, hn⟩ : ∃ n, n = p.rows.length := ⟨_, rfl⟩
  have NN := Lib.hid hn
  rw [← hn] at T0 K1 s1 s2 hx hy hn2 OLD ⊢
  clear hn
  have OLD2 := Lib.hid (show p.rows ≠ [] → ∀ b o c', (.slice ad n c : Value) = .slice (some ⟨b, o, none⟩) p.rows.length c' → b < w.heap.size from fun hnil b o c' e => OLD.out hnil b o c' (e.trans (by rw [NN.out])))
  have e1 : ((k + 1 : Nat) : Int) = (k : Int) + 1 := by omega
  rw [e1] at s2
  have hy2 : ((p.kind : Int) == 2) = false ∨ ((n : Int) == 1) = false := by
    by_cases e : p.kind = 2
    · right; simp; omega
    · left; simp; omega
  have EP := Lib.hid (show (outQ p k).kind = p.kind ∧ (outQ p k).level = p.level ∧ (outQ p k).id = p.id ∧ (outQ p k).lsn = p.lsn ∧ (outQ p k).next = p.next from ⟨rfl, rfl, rfl, rfl, rfl⟩)
  have SETQ := Lib.hid (fun (W : World) (u : Value) (T : Pp w W w.heap.size (w.heap.size + 1) p (.slice ad n c)) (X : Slot.Tx w W u (outQ p k).rows) => (show Pp w (W.setCell ⟨w.heap.size, 5, none⟩ u) w.heap.size (w.heap.size + 1) (outQ p k) u ∧ Slot.Tx w (W.setCell ⟨w.heap.size, 5, none⟩ u) u (outQ p k).rows from T.set (Nat.le_refl _) (by omega) X))
  obtain ⟨a0, a1, a2, a3, a4, a5⟩ := T0.out.pb.six
  unfold pgC at T0
  unfold pgV at K1
  clear e1 hy OLD
  unfold pgV
  go_enter Tryd.func23, Tryd.ntmps23
  go_wp2_with fail
  refine (K1.out _ T0.out).mono ?_
  rintro e w1 ⟨rfl, b1⟩
  have T1 := Lib.hid (T0.out.later b1)
  clear b1 T0 a0 a1 a2 a3 a4 a5 K1
  obtain ⟨g, hg⟩ : ∃ g, g = w.heap.size := ⟨_, rfl⟩
  have G := Lib.hid hg
  rw [← hg] at T1 SETQ ⊢
  clear hg
  go_upto_region 3 with fail
  go_cut [18] (fun s wx => s = .bool false ∧ wx = w1)
  case first =>
    obtain ⟨a0, a1, a2, a3, a4, a5⟩ := T1.out.pb.six
    clear s1 s2 hy2
    have e1 : decide ((k : Int) < 0) = false := decide_eq_false (by omega)
    have e2 : decide (n ≤ k) = false := decide_eq_false (by omega)
    go_wp2_with fail
    go_meet
    exact ⟨by simp <;> omega, rfl⟩
  case rest =>
    obtain ⟨rfl, rfl⟩ := hcut
    go_upto_region 5 with fail
    go_cut [28] (fun s wx => s = .bool false ∧ wx = wc)
    case first =>
      obtain ⟨a0, a1, a2, a3, a4, a5⟩ := T1.out.pb.six
      clear s1 s2
      rcases hy2 with e | e
      · go_wp2_with fail
        go_meet
        exact ⟨rfl, rfl⟩
      · by_cases e2 : ((p.kind : Int) == 2) = true
        · go_wp2_with fail
          go_meet
          exact ⟨rfl, rfl⟩
        · have e3 : ((p.kind : Int) == 2) = false := by simpa using e2
          clear e2
          go_wp2_with fail
          go_meet
          exact ⟨rfl, rfl⟩
    case rest =>
      obtain ⟨rfl, rfl⟩ := hcut
      go_upto_region 7 with fail
      go_cut [41] (fun s wx => ∃ W, wx = World.setCell W ⟨g, 5, none⟩ s ∧ Pp w W g (g + 1) p (.slice ad n c) ∧ Slot.Tx w W s (outQ p k).rows)
      case first =>
        have T2 := Lib.hid (T1.out.later ((Below.refl _ _).drew.alloc (Nat.le_refl _) (.cells #[] 9)))
        have E0 := Lib.hid (Slot.Tx.made w (w := wc.drew) [] T1.out.pb.below.size (by simp))
        have X1 := Lib.hid (R1.out.later (T2.out.pb.below))
        obtain ⟨a0, a1, a2, a3, a4, a5⟩ := T1.out.pb.six
        have k0 : (0 : Int) ≤ (k : Int) := Int.natCast_nonneg _
        have k1 : (k : Int) < (n : Int) := by omega
        have k2 : (k : Int) ≤ 250000 := by omega
        have wq : IntKind.i64.wrap ((k : Int) + 1) = (k : Int) + 1 := IntWalk.i64_in _ (by omega)
        have hgl : g < wc.heap.size := (Array.getElem?_eq_some_iff.1 T1.out.pb.box).1
        clear a0 a1 a2 a3 a4 hy2 EP SETQ hx
        go_region_law (first | (refine Page.step_app_in (W0 := w) (l := []) (news := A) rfl _ _ rfl E0.out X1.out N1.out L1.out rfl rfl ?_; intro v3 w3 t3 g3; replace t3 : Slot.Tx w w3 v3 A := t3; obtain ⟨ad3, cap3, rfl⟩ := t3.shape; have T3 := Lib.hid (T2.out.grown E0.out g3 OLD2.out); have a5x := T3.out.pb.six.2.2.2.2.2) | (refine Page.step_app_in (W0 := w) (l := A) (news := B) rfl _ _ rfl t3 (R2.out.later T3.out.pb.below) N2.out L2.out rfl rfl ?_; intro v4 w4 t4 g4; obtain ⟨ad4, cap4, rfl⟩ := t4.shape; have T4 := Lib.hid (T3.out.grown t3 g4 OLD2.out); have a5y := T4.out.pb.six.2.2.2.2.2; have fzy := frozen_of_row _ _ 5 _ _ T4.out.pb.box))
        all_goals
          have T5 := Lib.hid T4.out
          have t5 := Lib.hid t4
          rw [List.length_append] at t5
          go_wp2_with fail
          go_meet
          exact ⟨_, rfl, T5.out, by rw [← OR.out]; exact t5.out⟩
      case rest =>
        obtain ⟨W3, rfl, q3, t3⟩ := hcut
        obtain ⟨adu, capu, rfl⟩ := t3.shape
        obtain ⟨q5, t5⟩ := SETQ.out _ _ q3 t3
        have Q5 := Lib.hid q5
        have X5 := Lib.hid t5
        clear q3 t3 q5 t5 T1 SETQ hy2 s1 s2 R1 R2 OR L1 L2 N1 N2
        obtain ⟨m, hm⟩ : ∃ m, m = (outQ p k).rows.length := ⟨_, rfl⟩
        rw [← hm] at Q5 X5 ⊢
        clear hm
        generalize W3.setCell _ _ = W5 at *
        generalize outQ p k = q at *
        clear EP
        obtain ⟨b0, b1, b2, b3, b4, b5⟩ := Q5.out.pb.six
        have HB := Lib.hid Q5.out.res
        have HL := Lib.hid Q5.out.pb.below
        have CT := Lib.hid (Page.cap_tx X5.out)
        have TXR := Lib.hid (tx_setRow X5.out Q5.out.res (pgC q (.slice adu m capu)))
        have GR := Lib.hid (show w.heap.size ≤ g + 1 by have := G.out; omega)
        clear Q5 X5
        go_wp2_with (refine wpList_store_row rfl 26 _ _ rfl (g + 1) (pgC q (.slice adu m capu)) rfl rfl 26 zeroP HB.out info_page rfl (pg_one _ _ _ _) ?_)
        exact bodyPost_ret (v := .tuple #[pgV q (.slice adu m capu), .int .i64 0]) (results_page Tryd.results23 _ _ (g + 1) (pgC q (.slice adu m capu)) 0 rfl rfl (setRow_heap _ _ _ _ _ _ HB.out) info_page) rfl ⟨below_setRow HL.out GR.out _, _, rfl, Page.rows_tx TXR.out, CT.out⟩

theorem routR_bad {p : Pg} {x : Int} (h : ¬ outE p x = 0) : outR p x = Pg.zero := if_neg h
theorem rout_any {w : World} {v : Value} (p : Pg) (x : Int) (h : Page.Rows w v p.rows) (hc : CapOk v) (hu : used p.rows ≤ 900000) :
    Calls Tryd.prog 23 #[pgV p v, .int .i64 x] w (PgPost (outR p x) (outE p x) w) := by
  cases hk : nodeB p with
  | false =>
    have e : outE p x = 7 := by unfold outE; rw [hk]; rfl
    rw [routR_bad (by omega), e]
    exact rout_node p x h hu hk
  | true =>
    by_cases hx : 0 ≤ x ∧ x < p.rows.length
    · obtain ⟨k, rfl⟩ : ∃ k : Nat, x = k := ⟨x.toNat, by omega⟩
      by_cases hy : p.kind = 2 ∧ p.rows.length = 1
      · obtain rfl : k = 0 := by omega
        have e : outE p ((0 : Nat) : Int) = 7 := by unfold outE; rw [hk, if_pos rfl, if_pos hx, if_pos hy]
        rw [routR_bad (by omega), e]
        exact rout_one p h hu hk hy
      · have e : outE p (k : Int) = 0 := by unfold outE; rw [hk, if_pos rfl, if_pos hx, if_neg hy]
        have e2 : outR p (k : Int) = outQ p k := by unfold outR; rw [if_pos e, Int.toNat_natCast]
        rw [e, e2]
        exact rout_yes p k h hc hu hk (by omega) hy
    · have e : outE p x = 3 := by unfold outE; rw [hk, if_pos rfl, if_neg hx]
      rw [routR_bad (by omega), e]
      exact rout_at p x h hu hk hx

end Go.Proofs.YtbdbnpcbbebelaaDoor.Node
