/-
  Walks: NodeSplits.
-/
import Derived.Test.YtbdbnpcbbebelaaDoorZ25
namespace Go.Proofs.YtbdbnpcbbebelaaDoor.Node
open Go.RowKit
open Go.Proofs.YtbdbnpcbbebelaaDoor.Page (Pg nth used pgV pgC CapOk zeroP InPg heavyB sameB)
attribute [local go_sem ↓] Go.wp_at_zero Go.wp_at_succ

theorem Al.start {w : World} {p q : Pg} {u v : Value} (hu : Page.Rows w u p.rows) (hv : Page.Rows w v q.rows) : Al w ((w.alloc (.cells (pgC p u) 26)).alloc (.cells (pgC q v) 26)) w.heap.size (w.heap.size + 1) p q u v := by
  have e1 : (w.alloc (.cells (pgC p u) 26)).heap.size = w.heap.size + 1 := by simp
  have b1 := below_new w (.cells (pgC p u) 26)
  have b2 := below_new (w.alloc (.cells (pgC p u) 26)) (.cells (pgC q v) 26)
  have h1 := heap_alloc_new w (.cells (pgC p u) 26)
  have h2 := heap_alloc_new (w.alloc (.cells (pgC p u) 26)) (.cells (pgC q v) 26)
  rw [e1] at h2
  have bb := b1.trans (b2.mono b1.size)
  exact ⟨⟨old_blk b2 h1, hu.later bb, bb⟩, ⟨h2, hv.later bb, bb⟩⟩
theorem spl_len {p : Pg} {x : Int} {t : ByteArray} {is : Bool} (hu : used p.rows ≤ 20000) (ht : t.size ≤ 1024) : (splA p x t is).length ≤ 1000000 ∧ (splB p x t is).length ≤ 1000000 := by
  have h1 := put_used2 p x t is (by omega) (by omega)
  have h2 := Page.used_len (putR p x t is).rows
  unfold splA splB
  split
  · rw [List.length_take, List.length_drop]; omega
  · simp
theorem mrg_len {p q : Pg} (hp : used p.rows ≤ 20000) (hq : used q.rows ≤ 20000) : (mrgR p q).rows.length ≤ 1000000 := by
  unfold mrgR
  split
  · show (p.rows ++ q.rows).length ≤ _
    have h1 := Page.used_len p.rows
    have h2 := Page.used_len q.rows
    rw [List.length_append]; omega
  · simp [Pg.zero]

set_option maxRecDepth 100000 in
set_option maxHeartbeats 8000000 in
theorem splits_walk {w : World} {p q : Pg} {u v : Value} {text : ByteArray} (hp : InPg w p u) (hq : InPg w q v) (ht : text.size ≤ 140737488351232) (x : Int) (is : Bool) :
    Calls Tryd.prog 5 #[pgV p u, pgV q v, .int .i64 x, .string text, .bool is] w fun e w' => e = .returned (.bool true) ∧ Below w.heap.size w w' := by
  have T0 := Lib.hid (Al.start hp.rows hq.rows)
  have KHP := Lib.hid (fun (W : World) (t : Page.Rows W u p.rows) => Page.heavy_any p t hp.len hp.each)
  have KHQ := Lib.hid (fun (W : World) (t : Page.Rows W v q.rows) => Page.heavy_any q t hq.len hq.each)
  have LUP := Lib.hid (fun h => light_used (l := p.rows) h)
  have LUQ := Lib.hid (fun h => light_used (l := q.rows) h)
  have K1 := Lib.hid (fun (hu : used p.rows ≤ 20000) (ht : text.size ≤ 1024) (W : World) (t : Page.Rows W u p.rows) => spl_post (split_any p x text is t hp.cap hp.wf.kind (by omega) (by omega)))
  have K2 := Lib.hid (fun (hu : used p.rows ≤ 20000) (ht : text.size ≤ 1024) (W : World) (t : Page.Rows W u p.rows) => spl_post (rsplit_any p x text is t hp.cap (by omega) (by omega)))
  have K3 := Lib.hid (fun (hu : used p.rows ≤ 20000) (hv : used q.rows ≤ 20000) (W : World) (t : Page.Rows W u p.rows) (s : Page.Rows W v q.rows) => pg_post (merge_any p q t s hp.cap hq.cap hp.wf.kind hq.wf.kind (by omega) (by omega)))
  have K4 := Lib.hid (fun (hu : used p.rows ≤ 20000) (hv : used q.rows ≤ 20000) (W : World) (t : Page.Rows W u p.rows) (s : Page.Rows W v q.rows) => pg_post (rmerge_any p q t s hp.cap hq.cap (by omega) (by omega)))
  have SA := Lib.hid (fun (hu : used p.rows ≤ 20000) (ht : text.size ≤ 1024) (W : World) (v1 v2 : Value) (h1 : Page.Rows W v1 (splA p x text is)) (h2 : Page.Rows W v2 (splA p x text is)) => (show Calls Tryd.prog 26 #[v1, v2] W fun e w' => e = .returned (.bool true) ∧ Below W.heap.size W w' by
    have hl := (spl_len (x := x) (is := is) hu ht).1
    have := rtexts_any _ _ h1 h2 hl hl
    rw [decide_eq_true rfl] at this
    exact this))
  have SB := Lib.hid (fun (hu : used p.rows ≤ 20000) (ht : text.size ≤ 1024) (W : World) (v1 v2 : Value) (h1 : Page.Rows W v1 (splB p x text is)) (h2 : Page.Rows W v2 (splB p x text is)) => (show Calls Tryd.prog 26 #[v1, v2] W fun e w' => e = .returned (.bool true) ∧ Below W.heap.size W w' by
    have hl := (spl_len (x := x) (is := is) hu ht).2
    have := rtexts_any _ _ h1 h2 hl hl
    rw [decide_eq_true rfl] at this
    exact this))
  have SC := Lib.hid (fun (hu : used p.rows ≤ 20000) (hv : used q.rows ≤ 20000) (W : World) (v1 v2 : Value) (h1 : Page.Rows W v1 (mrgR p q).rows) (h2 : Page.Rows W v2 (mrgR p q).rows) => (show Calls Tryd.prog 24 #[pgV (mrgR p q) v1, pgV (mrgR p q) v2] W fun e w' => e = .returned (.bool true) ∧ Below W.heap.size W w' by
    have := Page.rsame_any _ _ h1 h2 (mrg_len hu hv)
    rw [same_self] at this
    exact this))
  obtain ⟨ad, c, rfl, _⟩ := id hp.rows
  obtain ⟨ad', c', rfl, _⟩ := id hq.rows
  clear hp hq
  generalize splA p x text is = sA at *
  generalize splB p x text is = sB at *
  generalize splS p x text is = sS at *
  generalize splE p x text is = sE at *
  generalize mrgE p q = me at *
  generalize mrgR p q = mr at *
  generalize used p.rows = up at *
  generalize used q.rows = uq at *
  generalize heavyB p.rows = hb at *
  generalize heavyB q.rows = hb' at *
  obtain ⟨n, hn⟩ : ∃ n, n = p.rows.length := ⟨_, rfl⟩
  obtain ⟨n', hn'⟩ : ∃ n, n = q.rows.length := ⟨_, rfl⟩
  rw [← hn] at T0 KHP K1 K2 K3 K4 ⊢
  rw [← hn'] at T0 KHQ K3 K4 ⊢
  clear hn hn'
  obtain ⟨m1, hm1⟩ : ∃ m, m = sA.length := ⟨_, rfl⟩
  obtain ⟨m2, hm2⟩ : ∃ m, m = sB.length := ⟨_, rfl⟩
  obtain ⟨m3, hm3⟩ : ∃ m, m = mr.rows.length := ⟨_, rfl⟩
  rw [← hm1, ← hm2] at K1 K2
  rw [← hm3] at K3 K4
  clear hm1 hm2 hm3
  unfold pgV at KHP KHQ K1 K2 K3 K4 SC
  have TT := Lib.hid T0.out
  unfold pgC at T0
  unfold pgV
  go_enter Tryd.func5, Tryd.ntmps5
  go_upto_region 1 with fail
  unfold pgC at TT
  generalize (w.alloc _).alloc _ = W0 at *
  obtain ⟨h, hh⟩ : ∃ h, h = w.heap.size + 1 := ⟨_, rfl⟩
  rw [← hh] at TT ⊢
  clear hh
  obtain ⟨g, hg⟩ : ∃ g, g = w.heap.size := ⟨_, rfl⟩
  have G := Lib.hid hg
  rw [← hg] at TT ⊢
  clear hg T0
  obtain ⟨a0, a1, a2, a3, a4, a5⟩ := TT.out.a.six
  go_wp2_with fail
  refine (KHP.out _ TT.out.a.rows).mono ?_
  rintro e w1 ⟨rfl, b1⟩
  have T1 := Lib.hid (TT.out.later b1)
  clear b1 TT a0 a1 a2 a3 a4 a5 KHP
  cases hb with
  | true =>
    clear K1 K2 K3 K4 LUP LUQ SA SB SC KHQ
    go_wp2_with fail
    refine (alive_any _).mono ?_
    rintro e w2 ⟨rfl, b2⟩
    have B2 := Lib.hid (T1.out.later b2).a.below
    clear b2 T1
    go_wp2_with fail
    go_ret
    exact ⟨rfl, by first | exact B2.out | (rw [G.out]; exact B2.out)⟩
  | false =>
  have hu := LUP.out rfl
  obtain ⟨d0, d1, d2, d3, d4, d5⟩ := T1.out.b.six
  go_wp2_with fail
  refine (KHQ.out _ T1.out.b.rows).mono ?_
  rintro e w2 ⟨rfl, b2⟩
  have T2 := Lib.hid (T1.out.later b2)
  clear b2 T1 d0 d1 d2 d3 d4 d5 KHQ
  cases hb' with
  | true =>
    clear K1 K2 K3 K4 LUP LUQ SA SB SC
    go_wp2_with fail
    refine (alive_any _).mono ?_
    rintro e w3 ⟨rfl, b3⟩
    have B2 := Lib.hid (T2.out.later b3).a.below
    clear b3 T2
    go_wp2_with fail
    go_ret
    exact ⟨rfl, by first | exact B2.out | (rw [G.out]; exact B2.out)⟩
  | false =>
  have hv := LUQ.out rfl
  by_cases hl : 1024 < text.size
  · clear K1 K2 K3 K4 LUP LUQ SA SB SC
    go_wp2_with fail
    refine (alive_any _).mono ?_
    rintro e w3 ⟨rfl, b3⟩
    have B2 := Lib.hid (T2.out.later b3).a.below
    clear b3 T2
    go_wp2_with fail
    go_ret
    exact ⟨rfl, by first | exact B2.out | (rw [G.out]; exact B2.out)⟩
  have htx : text.size ≤ 1024 := by omega
  have Q1 := Lib.hid (K1.out hu htx)
  have Q2 := Lib.hid (K2.out hu htx)
  have Q3 := Lib.hid (K3.out hu hv)
  have Q4 := Lib.hid (K4.out hu hv)
  have S1 := Lib.hid (SA.out hu htx)
  have S2 := Lib.hid (SB.out hu htx)
  have S3 := Lib.hid (SC.out hu hv)
  clear K1 K2 K3 K4 LUP LUQ SA SB SC htx hu hv
  obtain ⟨a0, a1, a2, a3, a4, a5⟩ := T2.out.a.six
  go_wp2_with fail
  refine (Q1.out _ T2.out.a.rows).mono ?_
  rintro e w3 ⟨ea, ca, eb, cb, rfl, b3, ra, rb, _, _⟩
  have T3 := Lib.hid (T2.out.later b3)
  have RA := Lib.hid ra
  have RB := Lib.hid rb
  clear b3 T2 ra rb Q1 a0 a1 a2 a3 a4 a5
  obtain ⟨a0, a1, a2, a3, a4, a5⟩ := T3.out.a.six
  go_wp2_with fail
  refine (Q2.out _ T3.out.a.rows).mono ?_
  rintro e w4 ⟨ec, cc, ed, cd, rfl, b4, rc, rd, _, _⟩
  have T4 := Lib.hid (T3.out.later b4)
  have RA4 := Lib.hid (RA.out.later b4)
  have RB4 := Lib.hid (RB.out.later b4)
  have RC4 := Lib.hid rc
  have RD4 := Lib.hid rd
  clear b4 T3 RA RB rc rd Q2 a0 a1 a2 a3 a4 a5
  obtain ⟨a0, a1, a2, a3, a4, a5⟩ := T4.out.a.six
  obtain ⟨d0, d1, d2, d3, d4, d5⟩ := T4.out.b.six
  go_wp2_with fail
  refine (Q3.out _ T4.out.a.rows T4.out.b.rows).mono ?_
  rintro e w5 ⟨ex, cx, rfl, b5, r5, _⟩
  have n5 := below_new w5 (.cells (pgC mr (.slice ex m3 cx)) 26)
  have T5 := Lib.hid ((T4.out.later b5).later n5)
  have RA5 := Lib.hid ((RA4.out.later b5).later n5)
  have RB5 := Lib.hid ((RB4.out.later b5).later n5)
  have RC5 := Lib.hid ((RC4.out.later b5).later n5)
  have RD5 := Lib.hid ((RD4.out.later b5).later n5)
  have X5 := Lib.hid (show Pb w (w5.alloc (.cells (pgC mr (.slice ex m3 cx)) 26)) w5.heap.size mr (.slice ex m3 cx) from ⟨heap_alloc_new w5 _, r5.later n5, T5.out.a.below⟩)
  clear b5 n5 r5 T4 RA4 RB4 RC4 RD4 Q3 a0 a1 a2 a3 a4 a5 d0 d1 d2 d3 d4 d5
  go_upto_region 6 with fail
  unfold pgC at T5 RA5 RB5 RC5 RD5 X5
  generalize w5.alloc _ = W5 at *
  generalize w5.heap.size = gx at *
  obtain ⟨a0, a1, a2, a3, a4, a5⟩ := T5.out.a.six
  obtain ⟨d0, d1, d2, d3, d4, d5⟩ := T5.out.b.six
  go_wp2_with fail
  refine (Q4.out _ T5.out.a.rows T5.out.b.rows).mono ?_
  rintro e w6 ⟨ey, cy, rfl, b6, r6, _⟩
  have n6 := below_new w6 (.cells (pgC mr (.slice ey m3 cy)) 26)
  have B6 := Lib.hid ((T5.out.later b6).later n6).a.below
  have RA6 := Lib.hid ((RA5.out.later b6).later n6)
  have RB6 := Lib.hid ((RB5.out.later b6).later n6)
  have RC6 := Lib.hid ((RC5.out.later b6).later n6)
  have RD6 := Lib.hid ((RD5.out.later b6).later n6)
  have X6 := Lib.hid ((X5.out.later b6).later n6)
  have Y6 := Lib.hid (show Pb w (w6.alloc (.cells (pgC mr (.slice ey m3 cy)) 26)) w6.heap.size mr (.slice ey m3 cy) from ⟨heap_alloc_new w6 _, r6.later n6, B6.out⟩)
  clear b6 n6 r6 T5 RA5 RB5 RC5 RD5 X5 Q4 a0 a1 a2 a3 a4 a5 d0 d1 d2 d3 d4 d5
  go_upto_region 7 with fail
  unfold pgC at B6 RA6 RB6 RC6 RD6 X6 Y6
  generalize w6.alloc _ = W6 at *
  generalize w6.heap.size = gy at *
  have z1 := Page.beq_yes sS
  go_wp2_with fail
  refine (S1.out _ _ _ RA6.out RC6.out).mono ?_
  rintro e w7 ⟨rfl, b7⟩
  have RB7 := Lib.hid (RB6.out.later b7)
  have RD7 := Lib.hid (RD6.out.later b7)
  have X7 := Lib.hid (X6.out.later b7)
  have Y7 := Lib.hid (Y6.out.later b7)
  clear b7 RA6 RB6 RC6 RD6 X6 Y6 B6 S1
  go_wp2_with fail
  refine (S2.out _ _ _ RB7.out RD7.out).mono ?_
  rintro e w8 ⟨rfl, b8⟩
  have X8 := Lib.hid (X7.out.later b8)
  have Y8 := Lib.hid (Y7.out.later b8)
  clear b8 RB7 RD7 X7 Y7 S2
  obtain ⟨a0, a1, a2, a3, a4, a5⟩ := X8.out.six
  obtain ⟨d0, d1, d2, d3, d4, d5⟩ := Y8.out.six
  go_wp2_with fail
  refine (S3.out _ _ _ X8.out.rows Y8.out.rows).mono ?_
  rintro e w9 ⟨rfl, b9⟩
  have B9 := Lib.hid (X8.out.later b9).below
  clear b9 X8 Y8 S3 a0 a1 a2 a3 a4 a5 d0 d1 d2 d3 d4 d5
  go_wp2_with fail
  refine (alive_any _).mono ?_
  rintro e w10 ⟨rfl, b10⟩
  have BB := Lib.hid (B9.out.trans (b10.mono B9.out.size))
  clear b10 B9
  go_wp2_with fail
  go_ret
  exact ⟨rfl, by first | exact BB.out | (rw [G.out]; exact BB.out)⟩

end Go.Proofs.YtbdbnpcbbebelaaDoor.Node
