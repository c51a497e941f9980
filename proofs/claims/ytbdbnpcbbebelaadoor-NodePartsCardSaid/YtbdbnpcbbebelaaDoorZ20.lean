/-
  Walks: a page without a row, in the code.
-/
import Derived.Test.YtbdbnpcbbebelaaDoorZ15
namespace Go.Proofs.YtbdbnpcbbebelaaDoor.Node
open Go.RowKit
open Go.Proofs.YtbdbnpcbbebelaaDoor.Page (Pg nth used pgV pgC CapOk zeroP info_page results_page zero_one rows_head rows_tail Parts joinL NilOk)
attribute [local go_sem ↓] Go.wp_at_zero Go.wp_at_succ

theorem outR_bad {p : Pg} {x : Int} (h : ¬ outE p x = 0) : outR p x = Pg.zero := if_neg h
theorem out_used (l : List ByteArray) (k : Nat) : used (outL l k) ≤ used l := by
  unfold outL
  rw [Page.used_app]
  have h1 := used_drop_le l k
  have h3 := used_drop_le (l.drop k) 1
  rw [List.drop_drop] at h3
  omega
/-- two slices, one behind the other: beside a page's box -/
theorem concat_two {w : World} {g r : Nat} {p : Pg} {v x y : Value} {A B : List ByteArray} (hx : Page.Rows w x A) (hy : Page.Rows w y B) (nx : NilOk x) (ny : NilOk y) (hl : (A ++ B).length ≤ 1000000) {W : World} (T : Pp w W g r p v) :
    Calls Tryd.prog 49 #[.slice (some ⟨W.heap.size, 0, none⟩) 2 2] (W.alloc (.cells #[x, y] 24)) fun e w' => ∃ u, e = .returned u ∧ Pp w w' g r p v ∧ Slot.Tx w w' u (A ++ B) := by
  have PT := parts_two (hx.later T.pb.below) (hy.later T.pb.below) nx ny
  have JL : joinL [(x, A), (y, B)] 2 = A ++ B := by simp [joinL]
  have CC := Page.concat_any (n := 2) PT rfl (by omega) (by rw [JL]; exact hl)
  rw [JL] at CC
  refine CC.mono ?_
  rintro e w' ⟨u, rfl, t, b⟩
  have T1 := T.later (below_new W (.cells #[x, y] 24))
  exact ⟨u, rfl, T1.later b, tx_elder t T1.pb.below.size⟩

set_option maxRecDepth 100000 in
set_option maxHeartbeats 4000000 in
theorem without_no {w : World} {v : Value} (p : Pg) (x : Int) (h : Page.Rows w v p.rows) (hkd : p.kind < 256) (hu : used p.rows ≤ 900000) (ho : outE p x ≠ 0) :
    Calls Tryd.prog 22 #[pgV p v, .int .i64 x] w (PgPost Pg.zero (outE p x) w) := by
  have T0 := Lib.hid (Pp.start h)
  have K1 := Lib.hid (fun (W : World) (t : Pp w W w.heap.size (w.heap.size + 1) p v) => node_any p t.pb.rows hkd (by omega))
  have K2 := Lib.hid (fun (W : World) (t : Pp w W w.heap.size (w.heap.size + 1) p v) => isrow_any p x t.pb.rows (by have := Page.used_len p.rows; omega))
  have EO := Lib.hid (show outE p x = if nodeB p then (if 0 ≤ x ∧ x < p.rows.length then (if p.kind = 2 ∧ p.rows.length = 1 then 7 else 0) else 3) else 7 from rfl)
  have HO := Lib.hid ho
  obtain ⟨ad, c, rfl, _⟩ := id h
  clear h hu hkd ho
  obtain ⟨n, hn⟩ : ∃ n, n = p.rows.length := ⟨_, rfl⟩
  rw [← hn] at T0 K1 K2 EO ⊢
  clear hn
  generalize outE p x = oe at *
  obtain ⟨a0, a1, a2, a3, a4, a5⟩ := T0.out.pb.six
  unfold pgV pgC at *
  have HN := Lib.hid (show NodeP p = fun w e w' => ∃ u, e = .returned (.tuple #[u, .bool (nodeB p)]) ∧ Slot.Tx w w' u (nodeL p) ∧ Below w.heap.size w w' from rfl)
  rw [HN.out] at K1
  clear HN
  cases hk : nodeB p with
  | false =>
    rw [hk] at EO K1
    obtain rfl : oe = 7 := EO.out
    clear hk K2 HO EO
    go_enter Tryd.func22, Tryd.ntmps22
    go_wp2_with fail
    refine (K1.out _ T0.out).mono ?_
    rintro e w1 ⟨u, rfl, _, b1⟩
    have T1 := Lib.hid (T0.out.later b1)
    clear b1 T0 a0 a1 a2 a3 a4 a5 K1
    have HB := Lib.hid T1.out.res
    have HL := Lib.hid T1.out.pb.below
    have G := Lib.hid (show w.heap.size ≤ w.heap.size + 1 by omega)
    clear T1
    generalize w.heap.size + 1 = r at *
    go_wp2_with (refine wpList_store_row rfl 26 _ _ rfl r zeroP rfl rfl 26 zeroP HB.out info_page rfl zero_one ?_)
    exact bodyPost_ret (v := .tuple #[pgV Pg.zero (.slice none 0 0), .int .i64 7]) (results_page Tryd.results22 _ _ r zeroP 7 rfl rfl (setRow_heap _ _ _ _ _ _ HB.out) info_page) rfl (PgPost.none 7 (below_setRow HL.out G.out _))
  | true =>
    rw [hk, if_pos rfl] at EO
    rw [hk] at K1
    by_cases hx : 0 ≤ x ∧ x < (n : Int)
    · rw [if_pos hx] at EO
      have hy : p.kind = 2 ∧ n = 1 := by
        by_cases e : p.kind = 2 ∧ n = 1
        · exact e
        · have := EO.out
          rw [if_neg e] at this
          exact absurd this HO.out
      rw [if_pos hy] at EO
      obtain rfl : oe = 7 := EO.out
      rw [decide_eq_true hx] at K2
      have e1 : ((p.kind : Int) == 2) = true := by simp; omega
      obtain rfl : n = 1 := hy.2
      clear hk EO HO hx hy
      go_enter Tryd.func22, Tryd.ntmps22
      go_wp2_with fail
      refine (K1.out _ T0.out).mono ?_
      rintro e w1 ⟨u, rfl, _, b1⟩
      have T1 := Lib.hid (T0.out.later b1)
      clear b1 T0 a0 a1 a2 a3 a4 a5 K1
      obtain ⟨a0, a1, a2, a3, a4, a5⟩ := T1.out.pb.six
      go_wp2_with fail
      refine (K2.out _ T1.out).mono ?_
      rintro e w2 ⟨rfl, b2⟩
      have T2 := Lib.hid (T1.out.later b2)
      clear b2 T1 a0 a1 a2 a3 a4 a5 K2
      obtain ⟨a0, a1, a2, a3, a4, a5⟩ := T2.out.pb.six
      have HB := Lib.hid T2.out.res
      have HL := Lib.hid T2.out.pb.below
      have G := Lib.hid (show w.heap.size ≤ w.heap.size + 1 by omega)
      clear T2
      generalize w.heap.size + 1 = r at *
      go_wp2_with (refine wpList_store_row rfl 26 _ _ rfl r zeroP rfl rfl 26 zeroP HB.out info_page rfl zero_one ?_)
      exact bodyPost_ret (v := .tuple #[pgV Pg.zero (.slice none 0 0), .int .i64 7]) (results_page Tryd.results22 _ _ r zeroP 7 rfl rfl (setRow_heap _ _ _ _ _ _ HB.out) info_page) rfl (PgPost.none 7 (below_setRow HL.out G.out _))
    · rw [if_neg hx] at EO
      obtain rfl : oe = 3 := EO.out
      rw [decide_eq_false hx] at K2
      clear hk EO HO hx
      go_enter Tryd.func22, Tryd.ntmps22
      go_wp2_with fail
      refine (K1.out _ T0.out).mono ?_
      rintro e w1 ⟨u, rfl, _, b1⟩
      have T1 := Lib.hid (T0.out.later b1)
      clear b1 T0 a0 a1 a2 a3 a4 a5 K1
      obtain ⟨a0, a1, a2, a3, a4, a5⟩ := T1.out.pb.six
      go_wp2_with fail
      refine (K2.out _ T1.out).mono ?_
      rintro e w2 ⟨rfl, b2⟩
      have T2 := Lib.hid (T1.out.later b2)
      clear b2 T1 a0 a1 a2 a3 a4 a5 K2
      have HB := Lib.hid T2.out.res
      have HL := Lib.hid T2.out.pb.below
      have G := Lib.hid (show w.heap.size ≤ w.heap.size + 1 by omega)
      clear T2
      generalize w.heap.size + 1 = r at *
      go_wp2_with (refine wpList_store_row rfl 26 _ _ rfl r zeroP rfl rfl 26 zeroP HB.out info_page rfl zero_one ?_)
      exact bodyPost_ret (v := .tuple #[pgV Pg.zero (.slice none 0 0), .int .i64 3]) (results_page Tryd.results22 _ _ r zeroP 3 rfl rfl (setRow_heap _ _ _ _ _ _ HB.out) info_page) rfl (PgPost.none 3 (below_setRow HL.out G.out _))

set_option maxRecDepth 100000 in
set_option maxHeartbeats 4000000 in
theorem without_yes {w : World} {v : Value} (p : Pg) (k : Nat) (h : Page.Rows w v p.rows) (hc : CapOk v) (hkd : p.kind < 256) (hu : used p.rows ≤ 900000) (hk : nodeB p = true) (hx : k < p.rows.length) (hy : ¬ (p.kind = 2 ∧ p.rows.length = 1)) :
    Calls Tryd.prog 22 #[pgV p v, .int .i64 (k : Int)] w (PgPost (outQ p k) 0 w) := by
  have T0 := Lib.hid (Pp.start h)
  have K1 := Lib.hid (fun (W : World) (t : Pp w W w.heap.size (w.heap.size + 1) p v) => node_any p t.pb.rows hkd (by omega))
  have K2 := Lib.hid (fun (W : World) (t : Pp w W w.heap.size (w.heap.size + 1) p v) => isrow_any p (k : Int) t.pb.rows (by have := Page.used_len p.rows; omega))
  have hn2 : p.rows.length ≤ 250000 := by have := Page.used_len p.rows; omega
  have uo := out_used p.rows k
  have K3 := Lib.hid (fun (W : World) (u : Value) (T : Pp w W w.heap.size (w.heap.size + 1) (outQ p k) u) => own_any (outQ p k) T.pb.rows (show used (outL p.rows k) ≤ 1000000 by omega))
  obtain ⟨x1, s1, r1, c1⟩ := rows_head h hc (show k ≤ p.rows.length by omega)
  obtain ⟨x2, s2, r2, c2⟩ := rows_tail h hc (show k + 1 ≤ p.rows.length by omega)
  have CC := Lib.hid (fun (W : World) (T : Pp w W w.heap.size (w.heap.size + 1) p v) => concat_two r1 r2 c1.nilOk c2.nilOk (by have := Page.used_len (outL p.rows k); show (outL p.rows k).length ≤ 1000000; omega) T)
  change Hid (∀ (W : World) (T : Pp w W w.heap.size (w.heap.size + 1) p v), Calls Tryd.prog 49 #[.slice (some ⟨W.heap.size, 0, none⟩) 2 2] (W.alloc (.cells #[x1, x2] 24)) fun e w' => ∃ u, e = .returned u ∧ Pp w w' w.heap.size (w.heap.size + 1) p v ∧ Slot.Tx w w' u (outQ p k).rows) at CC
  obtain ⟨ad, c, rfl, _⟩ := id h
  obtain ⟨ad1, cc1, rfl, _⟩ := id r1
  obtain ⟨ad2, cc2, rfl, _⟩ := id r2
  clear h hc hu r1 r2 c1 c2 hkd uo
  obtain ⟨n, hn⟩ : ∃ n, n = p.rows.length := ⟨_, rfl⟩
  rw [← hn] at T0 K1 K2 CC s1 s2 hx hy hn2 ⊢
  clear hn
  rw [decide_eq_true (show 0 ≤ (k : Int) ∧ (k : Int) < (n : Int) by omega)] at K2
  have HN := Lib.hid (show NodeP p = fun w e w' => ∃ u, e = .returned (.tuple #[u, .bool (nodeB p)]) ∧ Slot.Tx w w' u (nodeL p) ∧ Below w.heap.size w w' from rfl)
  rw [HN.out, hk] at K1
  have OP := Lib.hid (show OwnPost (outQ p k) = fun w e w' => Below w.heap.size w w' ∧ ∃ u, e = .returned (pgV (outQ p k) u) ∧ Page.Rows w' u (outQ p k).rows ∧ CapOk u from rfl)
  rw [OP.out] at K3
  have EH := Lib.hid (show ∀ u, pgV (outQ p k) u = .agg #[.int .u8 (p.kind : Int), .int .u8 (p.level : Int), .int .u32 (p.id : Int), .int .u64 (p.lsn : Int), .int .u32 (p.next : Int), u] from fun _ => rfl)
  have EP := Lib.hid (show (outQ p k).kind = p.kind ∧ (outQ p k).level = p.level ∧ (outQ p k).id = p.id ∧ (outQ p k).lsn = p.lsn ∧ (outQ p k).next = p.next from ⟨rfl, rfl, rfl, rfl, rfl⟩)
  have SETQ := Lib.hid (fun (W : World) (u : Value) (T : Pp w W w.heap.size (w.heap.size + 1) p (.slice ad n c)) (X : Slot.Tx w W u (outQ p k).rows) => (show Pp w (W.setCell ⟨w.heap.size, 5, none⟩ u) w.heap.size (w.heap.size + 1) (outQ p k) u from (T.set (Nat.le_refl _) (by omega) X).1))
  obtain ⟨a0, a1, a2, a3, a4, a5⟩ := T0.out.pb.six
  have e1 : ((k + 1 : Nat) : Int) = (k : Int) + 1 := by omega
  rw [e1] at s2
  have hy2 : ((p.kind : Int) == 2) = false ∨ ((n : Int) == 1) = false := by
    by_cases e : p.kind = 2
    · right; simp; omega
    · left; simp; omega
  unfold pgC at T0
  unfold pgV at K1 K2
  clear hk HN OP e1 hy
  generalize (p.rows.take k).length = m1 at *
  generalize (p.rows.drop (k + 1)).length = m2 at *
  unfold pgV
  go_enter Tryd.func22, Tryd.ntmps22
  go_wp2_with fail
  refine (K1.out _ T0.out).mono ?_
  rintro e w1 ⟨u, rfl, _, b1⟩
  have T1 := Lib.hid (T0.out.later b1)
  clear b1 T0 a0 a1 a2 a3 a4 a5 K1
  obtain ⟨a0, a1, a2, a3, a4, a5⟩ := T1.out.pb.six
  obtain ⟨g, hg⟩ : ∃ g, g = w.heap.size := ⟨_, rfl⟩
  have G := Lib.hid hg
  rw [← hg] at T1 K2 K3 CC SETQ a0 a1 a2 a3 a4 a5 ⊢
  clear hg
  go_wp2_with fail
  refine (K2.out _ T1.out).mono ?_
  rintro e w2 ⟨rfl, b2⟩
  have T2 := Lib.hid (T1.out.later b2)
  clear b2 T1 a0 a1 a2 a3 a4 a5 K2
  go_upto_region 6 with fail
  go_cut [23] (fun s wx => s = .bool false ∧ wx = w2)
  case first =>
    obtain ⟨a0, a1, a2, a3, a4, a5⟩ := T2.out.pb.six
    clear s1 s2
    rcases hy2 with e | e
    · go_wp2_with fail
      go_meet
      exact ⟨rfl, rfl⟩
    · by_cases e2 : ((p.kind : Int) == 2) = true
      · go_wp2_with fail
        go_meet
        exact ⟨rfl, rfl⟩
      · have e3 : ((p.kind : Int) == 2) = false := by simpa using e2
        clear e2
        go_wp2_with fail
        go_meet
        exact ⟨rfl, rfl⟩
  case rest =>
    obtain ⟨rfl, rfl⟩ := hcut
    go_upto_region 8 with fail
    go_cut [44] (fun s wx => ∃ W, wx = World.setCell W ⟨g, 5, none⟩ s ∧ Pp w W g (g + 1) p (.slice ad n c) ∧ Slot.Tx w W s (outQ p k).rows)
    case first =>
      have TD := Lib.hid (T2.out.later ((Below.refl _ _).drew))
      obtain ⟨a0, a1, a2, a3, a4, a5⟩ := T2.out.pb.six
      clear a0 a1 a2 a3 a4 K3 SETQ EH EP hy2
      have wq : IntKind.i64.wrap ((k : Int) + 1) = (k : Int) + 1 := IntWalk.i64_in _ (by omega)
      go_region_with ((go_at_call 49; refine (CC.out _ TD.out).mono ?_; rintro e w4 ⟨u4, rfl, q4, t4⟩; obtain ⟨adu, capu, rfl⟩ := t4.shape; have a5x := q4.pb.six.2.2.2.2.2; have fzx := frozen_of_row _ _ 5 _ _ q4.pb.box))
      all_goals (go_wp2_with fail; go_meet; exact ⟨_, rfl, q4, t4⟩)
    case rest =>
      obtain ⟨W3, rfl, q3, t3⟩ := hcut
      obtain ⟨adu, capu, rfl⟩ := t3.shape
      have Q5 := Lib.hid (SETQ.out _ _ q3 t3)
      clear q3 t3 T2 SETQ CC hy2 s1 s2
      obtain ⟨m, hm⟩ : ∃ m, m = (outQ p k).rows.length := ⟨_, rfl⟩
      rw [← hm] at Q5 ⊢
      clear hm
      have K4 := Lib.hid (K3.out _ _ Q5.out)
      rw [EH.out] at K4
      generalize W3.setCell _ _ = W5 at *
      clear K3
      obtain ⟨b0, b1, b2, b3, b4, b5⟩ := Q5.out.pb.six
      obtain ⟨p0, p1, p2, p3, p4⟩ := EP.out
      rw [p0] at b0
      rw [p1] at b1
      rw [p2] at b2
      rw [p3] at b3
      rw [p4] at b4
      clear p0 p1 p2 p3 p4
      go_wp2_with fail
      refine K4.out.mono ?_
      rintro e w6 ⟨b6, u6, rfl, r6, c6⟩
      have Q6 := Lib.hid (Q5.out.later b6)
      obtain ⟨ad6, cap6, rfl, _⟩ := id r6
      have HB := Lib.hid Q6.out.res
      have HL := Lib.hid Q6.out.pb.below
      have RT := Lib.hid (rows_setRow r6 Q6.out.res (pgC (outQ p k) (.slice ad6 (outQ p k).rows.length cap6)))
      have C6 := Lib.hid c6
      have GR := Lib.hid (show w.heap.size ≤ g + 1 by have := G.out; omega)
      clear b6 Q5 Q6 K4 b0 b1 b2 b3 b4 b5 r6 c6
      generalize outQ p k = q at *
      unfold pgV
      go_wp2_with (refine wpList_store_row rfl 26 _ _ rfl (g + 1) (pgC q (.slice ad6 q.rows.length cap6)) rfl rfl 26 zeroP HB.out info_page rfl (pg_one _ _ _ _) ?_)
      exact bodyPost_ret (v := .tuple #[pgV q (.slice ad6 q.rows.length cap6), .int .i64 0]) (results_page Tryd.results22 _ _ (g + 1) (pgC q (.slice ad6 q.rows.length cap6)) 0 rfl rfl (setRow_heap _ _ _ _ _ _ HB.out) info_page) rfl ⟨below_setRow HL.out GR.out _, _, rfl, RT.out, C6.out⟩

theorem without_any {w : World} {v : Value} (p : Pg) (x : Int) (h : Page.Rows w v p.rows) (hc : CapOk v) (hkd : p.kind < 256) (hu : used p.rows ≤ 900000) :
    Calls Tryd.prog 22 #[pgV p v, .int .i64 x] w (PgPost (outR p x) (outE p x) w) := by
  by_cases ho : outE p x = 0
  · have e : outR p x = outQ p x.toNat := if_pos ho
    rw [e, ho]
    unfold outE at ho
    cases hk : nodeB p with
    | false => rw [hk] at ho; simp at ho
    | true =>
      rw [hk, if_pos rfl] at ho
      by_cases hx : 0 ≤ x ∧ x < p.rows.length
      · rw [if_pos hx] at ho
        have hy : ¬ (p.kind = 2 ∧ p.rows.length = 1) := fun e => by rw [if_pos e] at ho; omega
        obtain ⟨k, rfl⟩ : ∃ k : Nat, x = k := ⟨x.toNat, by omega⟩
        rw [Int.toNat_natCast]
        exact without_yes p k h hc hkd hu hk (by omega) hy
      · rw [if_neg hx] at ho; omega
  · rw [outR_bad ho]
    exact without_no p x h hkd hu ho

end Go.Proofs.YtbdbnpcbbebelaaDoor.Node
