/-
  Walks: two pages as one, in the code.
-/
import Derived.Test.YtbdbnpcbbebelaaDoorZ20
import Derived.Test.YtbdbnpcbbebelaaDoorZ17
namespace Go.Proofs.YtbdbnpcbbebelaaDoor.Node
open Go.RowKit
open Go.Proofs.YtbdbnpcbbebelaaDoor.Page (Pg nth used pgV pgC CapOk zeroP info_page results_page zero_one Parts joinL NilOk)
attribute [local go_sem ↓] Go.wp_at_zero Go.wp_at_succ

/-- two slices, one behind the other -/
theorem concat_pair {W : World} {x y : Value} {A B : List ByteArray} (hx : Page.Rows W x A) (hy : Page.Rows W y B) (nx : NilOk x) (ny : NilOk y) (hl : (A ++ B).length ≤ 1000000) :
    Calls Tryd.prog 49 #[.slice (some ⟨W.heap.size, 0, none⟩) 2 2] (W.alloc (.cells #[x, y] 24)) fun e w' => ∃ u, e = .returned u ∧ Slot.Tx W w' u (A ++ B) ∧ Below W.heap.size W w' := by
  have PT := parts_two hx hy nx ny
  have JL : joinL [(x, A), (y, B)] 2 = A ++ B := by simp [joinL]
  have CC := Page.concat_any (n := 2) PT rfl (by omega) (by rw [JL]; exact hl)
  rw [JL] at CC
  have b0 := below_new W (.cells #[x, y] 24)
  refine CC.mono ?_
  rintro e w' ⟨u, rfl, t, b⟩
  exact ⟨u, rfl, tx_elder t b0.size, b0.trans (b.mono b0.size)⟩

set_option maxRecDepth 100000 in
set_option maxHeartbeats 8000000 in
theorem merge_any {w : World} {u v : Value} (p q : Pg) (hp : Page.Rows w u p.rows) (hq : Page.Rows w v q.rows) (cp : CapOk u) (cq : CapOk v) (kp : p.kind < 256) (kq : q.kind < 256) (up : used p.rows ≤ 400000) (uq : used q.rows ≤ 400000) :
    Calls Tryd.prog 29 #[pgV p u, pgV q v] w (PgPost (mrgR p q) (mrgE p q) w) := by
  have T0 := Lib.hid (Pm.start w p q u v)
  have K1 := Lib.hid (fun (W : World) (t : Below w.heap.size w W) => node_any p (hp.later t) kp (by omega))
  have K2 := Lib.hid (fun (W : World) (t : Below w.heap.size w W) => node_any q (hq.later t) kq (by omega))
  have um : used (mrgQ p q).rows ≤ 1000000 := by show used (p.rows ++ q.rows) ≤ _; rw [Page.used_app]; omega
  have K4 := Lib.hid (fun (W : World) (z : Value) (t : Page.Rows W z (mrgQ p q).rows) => roomy_any (mrgQ p q) t t um)
  have K5 := Lib.hid (fun (W : World) (z : Value) (t : Page.Rows W z (mrgQ p q).rows) => own_any (mrgQ p q) t um)
  have EE := Lib.hid (show mrgE p q = if nodeB p && nodeB q then (if p.kind = q.kind ∧ p.level = q.level then (if keysB (mrgQ p q) then (if Page.mayP (mrgQ p q) then 0 else 4) else 7) else 2) else 7 from rfl)
  have ER := Lib.hid (show mrgR p q = if mrgE p q = 0 then mrgQ p q else Pg.zero from rfl)
  have MKK := Lib.hid (fun (a : nodeB p = true) (b : nodeB q = true) (e : p.level = q.level) => (show p.kind = q.kind ∧ keysB (mrgQ p q) = risB (keysL p.kind p.rows ++ keysL q.kind q.rows) (keysL p.kind p.rows ++ keysL q.kind q.rows).length from
    ⟨kind_level a b e, by rw [mrg_keys a b (kind_level a b e), List.length_append, keys_len, keys_len]⟩))
  have NL1 := Lib.hid (show nodeL p = if nodeB p then keysL p.kind p.rows else [] from rfl)
  have NL2 := Lib.hid (show nodeL q = if nodeB q then keysL q.kind q.rows else [] from rfl)
  have lp := Page.used_len p.rows
  have lq := Page.used_len q.rows
  have L2 := Lib.hid (show (p.rows ++ q.rows).length ≤ 1000000 by rw [List.length_append]; omega)
  have L3 := Lib.hid (show (keysL p.kind p.rows ++ keysL q.kind q.rows).length ≤ 1000000 by rw [List.length_append, keys_len, keys_len]; omega)
  have RP := Lib.hid hp
  have RQ := Lib.hid hq
  have N1 := Lib.hid cp.nilOk
  have N2 := Lib.hid cq.nilOk
  have MQ := Lib.hid (show ({ ({ p with next := q.next } : Pg) with rows := p.rows ++ q.rows } : Pg) = mrgQ p q from rfl)
  have HN1 := Lib.hid (show ∀ w : World, NodeP p w = fun e w' => ∃ u, e = .returned (.tuple #[u, .bool (nodeB p)]) ∧ Slot.Tx w w' u (nodeL p) ∧ Below w.heap.size w w' from fun _ => rfl)
  have HN2 := Lib.hid (show ∀ w : World, NodeP q w = fun e w' => ∃ u, e = .returned (.tuple #[u, .bool (nodeB q)]) ∧ Slot.Tx w w' u (nodeL q) ∧ Below w.heap.size w w' from fun _ => rfl)
  generalize mrgE p q = me at *
  generalize mrgR p q = mr at *
  obtain ⟨ad, c, rfl, _⟩ := id hp
  obtain ⟨ad', c', rfl, _⟩ := id hq
  clear hp hq cp cq up uq lp lq um kp kq
  obtain ⟨n, hn⟩ : ∃ n, n = p.rows.length := ⟨_, rfl⟩
  obtain ⟨n', hn'⟩ : ∃ n, n = q.rows.length := ⟨_, rfl⟩
  rw [← hn] at T0 K1 RP N1 ⊢
  rw [← hn'] at T0 K2 RQ N2 ⊢
  clear hn hn'
  unfold pgV at K1 K2
  have TT := Lib.hid (T0.out)
  unfold pgC at T0
  unfold pgV
  go_enter Tryd.func29, Tryd.ntmps29
  go_upto_region 1 with fail
  obtain ⟨W0, hW0⟩ : ∃ W, W = ((w.alloc (.cells (pgC p (.slice ad n c)) 26)).alloc (.cells (pgC q (.slice ad' n' c')) 26)).alloc (.cells zeroP 26) := ⟨_, rfl⟩
  rw [← hW0] at TT
  unfold pgC zeroP at hW0
  rw [← hW0]
  clear T0 hW0
  obtain ⟨g, hg⟩ : ∃ g, g = w.heap.size := ⟨_, rfl⟩
  obtain ⟨h, hh⟩ : ∃ h, h = g + 1 := ⟨_, rfl⟩
  obtain ⟨r, hr⟩ : ∃ r, r = h + 1 := ⟨_, rfl⟩
  have GR := Lib.hid (show w.heap.size ≤ r by omega)
  rw [← hg, ← hh, ← hr] at TT
  rw [← hg, ← hh, ← hr]
  clear hg hh hr
  obtain ⟨a0, a1, a2, a3, a4, a5⟩ := six_of TT.out.gbox
  go_wp2_with fail
  refine ((K1.out _ TT.out.below).mono (fun e w' x => (congrFun (congrFun (HN1.out _) e) w').mp x)).mono ?_
  rintro e w1 ⟨u1, rfl, t1, b1⟩
  have T1 := Lib.hid (TT.out.later b1)
  have X1 := Lib.hid (tx_elder t1 TT.out.below.size)
  clear b1 t1 TT K1 a0 a1 a2 a3 a4 a5
  obtain ⟨d0, d1, d2, d3, d4, d5⟩ := six_of T1.out.hbox
  go_wp2_with fail
  refine ((K2.out _ T1.out.below).mono (fun e w' x => (congrFun (congrFun (HN2.out _) e) w').mp x)).mono ?_
  rintro e w2 ⟨u2, rfl, t2, b2⟩
  have T2 := Lib.hid (T1.out.later b2)
  have X2 := Lib.hid (tx_elder t2 T1.out.below.size)
  have X1b := Lib.hid (X1.out.later b2)
  clear b2 t2 T1 X1 K2 d0 d1 d2 d3 d4 d5 HN1 HN2
  obtain ⟨bp, hbp⟩ : ∃ b, b = nodeB p := ⟨_, rfl⟩
  obtain ⟨bq, hbq⟩ : ∃ b, b = nodeB q := ⟨_, rfl⟩
  rw [← hbp, ← hbq] at EE ⊢
  rw [← hbp] at NL1 MKK
  rw [← hbq] at NL2 MKK
  clear hbp hbq
  go_upto_region 3 with fail
  go_cut [21] (fun s wx => s = .bool (!(bp && bq)) ∧ wx = w2)
  case first =>
    clear K4 K5
    cases bp with
    | false =>
      go_wp2_with fail
      go_meet
      exact ⟨rfl, rfl⟩
    | true =>
      go_wp2_with fail
      go_meet
      exact ⟨by simp, rfl⟩
  case rest =>
    obtain ⟨rfl, rfl⟩ := hcut
    cases hn : (bp && bq) with
    | false =>
      have HB := Lib.hid T2.out.res
      have HL := Lib.hid T2.out.below
      have e7 : me = 7 := by rw [EE.out, hn]; rfl
      have ez : mr = Pg.zero := by rw [ER.out, e7]; rfl
      subst e7
      subst ez
      clear hn T2 K4 K5 X1b X2
      go_wp2_with (refine wpList_store_row rfl 26 _ _ rfl r zeroP rfl rfl 26 zeroP HB.out info_page rfl zero_one ?_)
      exact bodyPost_ret (v := .tuple #[pgV Pg.zero (.slice none 0 0), .int .i64 7]) (results_page Tryd.results29 _ _ r zeroP 7 rfl rfl (setRow_heap _ _ _ _ _ _ HB.out) info_page) rfl (PgPost.none 7 (below_setRow HL.out GR.out _))
    | true =>
      rw [hn, if_pos rfl] at EE
      obtain ⟨np, nq⟩ := Bool.and_eq_true_iff.1 hn
      clear hn
      rw [np, if_pos rfl] at NL1
      rw [nq, if_pos rfl] at NL2
      rw [NL1.out] at X1b
      rw [NL2.out] at X2
      clear NL1 NL2
      obtain ⟨a0, a1, a2, a3, a4, a5⟩ := six_of T2.out.gbox
      obtain ⟨d0, d1, d2, d3, d4, d5⟩ := six_of T2.out.hbox
      by_cases hl : p.level = q.level
      · have e1 : ((p.level : Int) != (q.level : Int)) = false := by simp [hl]
        obtain ⟨hkd, hrs⟩ := MKK.out np nq hl
        rw [if_pos ⟨hkd, hl⟩, hrs] at EE
        clear np nq hl hkd hrs MKK
        obtain ⟨c1a, c1c, hs1⟩ := X1b.out.shape
        obtain ⟨c2a, c2c, hs2⟩ := X2.out.shape
        subst hs1
        subst hs2
        have CC := Lib.hid (concat_pair (Page.rows_tx X1b.out) (Page.rows_tx X2.out) (Page.cap_tx X1b.out).nilOk (Page.cap_tx X2.out).nilOk L3.out)
        generalize keysL p.kind p.rows = L1 at *
        generalize keysL q.kind q.rows = L2' at *
        generalize L1.length = l1 at *
        generalize L2'.length = l2 at *
        go_wp2_with fail
        refine CC.out.mono ?_
        rintro e w4 ⟨u4, rfl, t4, b4⟩
        have T4 := Lib.hid (T2.out.later b4)
        have KR := Lib.hid (rising_any (Page.rows_tx t4) L3.out)
        obtain ⟨c4a, c4c, hs4⟩ := t4.shape
        subst hs4
        clear t4 b4 CC T2 X1b X2 a0 a1 a2 a3 a4 a5 d0 d1 d2 d3 d4 d5
        generalize (L1 ++ L2').length = l3 at *
        go_wp2_with fail
        refine KR.out.mono ?_
        rintro e w5 ⟨rfl, b5⟩
        have T5 := Lib.hid (T4.out.later b5)
        clear b5 KR T4
        cases hrs : risB (L1 ++ L2') l3 with
        | false =>
          rw [hrs] at EE
          have HB := Lib.hid T5.out.res
          have HL := Lib.hid T5.out.below
          have e7 : me = 7 := EE.out
          have ez : mr = Pg.zero := by rw [ER.out, e7]; rfl
          subst e7
          subst ez
          clear hrs T5 K4 K5
          go_wp2_with (refine wpList_store_row rfl 26 _ _ rfl r zeroP rfl rfl 26 zeroP HB.out info_page rfl zero_one ?_)
          exact bodyPost_ret (v := .tuple #[pgV Pg.zero (.slice none 0 0), .int .i64 7]) (results_page Tryd.results29 _ _ r zeroP 7 rfl rfl (setRow_heap _ _ _ _ _ _ HB.out) info_page) rfl (PgPost.none 7 (below_setRow HL.out GR.out _))
        | true =>
          rw [hrs, if_pos rfl] at EE
          clear hrs L3
          obtain ⟨a0, a1, a2, a3, a4, a5⟩ := six_of T5.out.gbox
          obtain ⟨d0, d1, d2, d3, d4, d5⟩ := six_of T5.out.hbox
          go_upto_region 10 with fail
          clear a0 a1 a2 a3 a4 a5 d0 d1 d2 d3 d4 d5
          have TB := Lib.hid (Mb.start T5.out)
          obtain ⟨b, hb⟩ : ∃ b, b = w5.heap.size := ⟨_, rfl⟩
          rw [← hb] at TB
          rw [← hb]
          obtain ⟨W1, hW1⟩ : ∃ W, W = w5.alloc (.cells (pgC p (.slice ad n c)) 26) := ⟨_, rfl⟩
          rw [← hW1] at TB
          unfold pgC at hW1
          rw [← hW1]
          clear hW1 hb T5
          have d4 := (six_of TB.out.hbox).2.2.2.2.1
          have b4 := (six_of TB.out.nbox).2.2.2.2.1
          have fz := frozen_of_row _ _ 4 _ _ TB.out.nbox
          have M4 := Lib.hid (TB.out.next q.next)
          clear TB
          go_upto_region 11 with fail
          generalize W1.setCell _ _ = W4 at *
          clear d4 b4 fz
          have a5 := (six_of M4.out.gbox).2.2.2.2.2
          have d5 := (six_of M4.out.hbox).2.2.2.2.2
          have CC := Lib.hid (concat_pair (RP.out.later M4.out.below) (RQ.out.later M4.out.below) N1.out N2.out L2.out)
          go_wp2_with fail
          refine CC.out.mono ?_
          rintro e w6 ⟨u6, rfl, t6, b6⟩
          have m6 := M4.out.later b6
          have t6 := tx_elder t6 M4.out.below.size
          obtain ⟨adu, capu, hs6⟩ := t6.shape
          subst hs6
          have M7 := Lib.hid (m6.rows (.slice adu (p.rows ++ q.rows).length capu) (p.rows ++ q.rows))
          rw [MQ.out] at M7
          have X7 := Lib.hid (show Slot.Tx w _ _ (mrgQ p q).rows from m6.tx t6 5 (.slice adu (p.rows ++ q.rows).length capu))
          have b5 := (six_of m6.nbox).2.2.2.2.2
          have fz := frozen_of_row _ _ 5 _ _ m6.nbox
          have B0 := Lib.hid (show (p.rows ++ q.rows).length = (mrgQ p q).rows.length from rfl)
          clear t6 b6 CC M4 a5 d5 m6 RP RQ N1 N2 L2
          rw [B0.out] at M7 X7 ⊢
          clear B0 MQ
          generalize mrgQ p q = qx at *
          go_upto_region 12 with fail
          generalize w6.setCell _ _ = W7 at *
          clear b5 fz
          have K6 := Lib.hid (K4.out _ _ (Page.rows_tx X7.out))
          unfold pgV at K6
          obtain ⟨b0, b1, b2, b3, b4, b5⟩ := six_of M7.out.nbox
          clear K4
          go_wp2_with fail
          refine K6.out.mono ?_
          rintro e w8 ⟨rfl, b8⟩
          have M8 := Lib.hid (M7.out.later b8)
          have X8 := Lib.hid (X7.out.later b8)
          clear b8 K6 M7 X7 b0 b1 b2 b3 b4 b5
          change Hid (me = if Page.mayP { qx with rows := qx.rows } = true then 0 else 4) at EE
          cases hmb : Page.mayP { qx with rows := qx.rows } with
          | false =>
            have HB := Lib.hid M8.out.res
            have HL := Lib.hid M8.out.below
            rw [hmb] at EE
            have e7 : me = 4 := EE.out
            have ez : mr = Pg.zero := by rw [ER.out, e7]; rfl
            subst e7
            subst ez
            clear hmb M8 X8 K5
            go_wp2_with (refine wpList_store_row rfl 26 _ _ rfl r zeroP rfl rfl 26 zeroP HB.out info_page rfl zero_one ?_)
            exact bodyPost_ret (v := .tuple #[pgV Pg.zero (.slice none 0 0), .int .i64 4]) (results_page Tryd.results29 _ _ r zeroP 4 rfl rfl (setRow_heap _ _ _ _ _ _ HB.out) info_page) rfl (PgPost.none 4 (below_setRow HL.out GR.out _))
          | true =>
            rw [hmb, if_pos rfl] at EE
            have e7 : me = 0 := EE.out
            have ez : mr = qx := by rw [ER.out, e7]; rfl
            subst e7
            subst ez
            obtain ⟨b0, b1, b2, b3, b4, b5⟩ := six_of M8.out.nbox
            have K7 := Lib.hid (K5.out _ _ (Page.rows_tx X8.out))
            have OP := Lib.hid (show ∀ w, OwnPost mr w = fun e w' => Below w.heap.size w w' ∧ ∃ u, e = .returned (pgV mr u) ∧ Page.Rows w' u mr.rows ∧ CapOk u from fun _ => rfl)
            rw [OP.out] at K7
            unfold pgV at K7
            clear hmb X8 OP K5
            go_wp2_with fail
            refine K7.out.mono ?_
            rintro e w9 ⟨b9, u9, rfl, r9, c9⟩
            have M9 := Lib.hid (M8.out.later b9)
            obtain ⟨ad9, cap9, hs9, _⟩ := id r9
            subst hs9
            have HB := Lib.hid M9.out.res
            have HL := Lib.hid M9.out.below
            have RT := Lib.hid (rows_setRow r9 M9.out.res (pgC mr (.slice ad9 mr.rows.length cap9)))
            have C9 := Lib.hid c9
            clear b9 r9 c9 K7 M8 M9 b0 b1 b2 b3 b4 b5
            go_wp2_with (refine wpList_store_row rfl 26 _ _ rfl r (pgC mr (.slice ad9 mr.rows.length cap9)) rfl rfl 26 zeroP HB.out info_page rfl (pg_one _ _ _ _) ?_)
            exact bodyPost_ret (v := .tuple #[pgV mr (.slice ad9 mr.rows.length cap9), .int .i64 0]) (results_page Tryd.results29 _ _ r (pgC mr (.slice ad9 mr.rows.length cap9)) 0 rfl rfl (setRow_heap _ _ _ _ _ _ HB.out) info_page) rfl ⟨below_setRow HL.out GR.out _, _, rfl, RT.out, C9.out⟩
      · have e1 : ((p.level : Int) != (q.level : Int)) = true := by simp; omega
        rw [if_neg (fun e => hl e.2)] at EE
        have HB := Lib.hid T2.out.res
        have HL := Lib.hid T2.out.below
        have e7 : me = 2 := EE.out
        have ez : mr = Pg.zero := by rw [ER.out, e7]; rfl
        subst e7
        subst ez
        clear hl T2 K4 K5 X1b X2 MKK np nq
        go_wp2_with (refine wpList_store_row rfl 26 _ _ rfl r zeroP rfl rfl 26 zeroP HB.out info_page rfl zero_one ?_)
        exact bodyPost_ret (v := .tuple #[pgV Pg.zero (.slice none 0 0), .int .i64 2]) (results_page Tryd.results29 _ _ r zeroP 2 rfl rfl (setRow_heap _ _ _ _ _ _ HB.out) info_page) rfl (PgPost.none 2 (below_setRow HL.out GR.out _))

end Go.Proofs.YtbdbnpcbbebelaaDoor.Node
