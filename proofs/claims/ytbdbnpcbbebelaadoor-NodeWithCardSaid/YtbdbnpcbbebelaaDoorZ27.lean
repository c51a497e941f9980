/-
  Walks: NodeWith.
-/
import Derived.Test.YtbdbnpcbbebelaaDoorZ25
namespace Go.Proofs.YtbdbnpcbbebelaaDoor.Node
open Go.RowKit
open Go.Proofs.YtbdbnpcbbebelaaDoor.Page (Pg nth used pgV pgC CapOk zeroP InPg heavyB sameB)
attribute [local go_sem ↓] Go.wp_at_zero Go.wp_at_succ

set_option maxRecDepth 100000 in
set_option maxHeartbeats 8000000 in
theorem with_walk {w : World} {p : Pg} {v : Value} {text : ByteArray} (hp : InPg w p v) (ht : text.size ≤ 140737488351232) (x : Int) (is : Bool) :
    Calls Tryd.prog 4 #[pgV p v, .int .i64 x, .string text, .bool is] w fun e w' => e = .returned (.bool true) ∧ Below w.heap.size w w' := by
  have T0 := Lib.hid (Pb.start hp.rows)
  have KH := Lib.hid (fun (W : World) (t : Pb w W w.heap.size p v) => Page.heavy_any p t.rows hp.len hp.each)
  have LU := Lib.hid (fun h => light_used (l := p.rows) h)
  have kd := hp.wf.kind
  have cp := hp.cap
  have R0 := Lib.hid hp.rows
  have N0 := Lib.hid hp.cap.nilOk
  have K1 := Lib.hid (fun (hu : used p.rows ≤ 20000) (ht : text.size ≤ 1024) (W : World) (t : Pb w W w.heap.size p v) => pg_post (with_any p x text is t.rows cp kd (by omega) (by omega)))
  have K2 := Lib.hid (fun (hu : used p.rows ≤ 20000) (ht : text.size ≤ 1024) (W : World) (t : Pb w W w.heap.size p v) => pg_post (rwith_any p x text is t.rows cp (by omega) (by omega)))
  have K3 := Lib.hid (fun (hu : used p.rows ≤ 20000) (W : World) (t : Pb w W w.heap.size p v) => pg_post (without_any p x t.rows cp kd (by omega)))
  have K4 := Lib.hid (fun (hu : used p.rows ≤ 20000) (W : World) (t : Pb w W w.heap.size p v) => pg_post (rout_any p x t.rows cp (by omega)))
  have K5 := Lib.hid (fun (hu : used p.rows ≤ 20000) (ht : text.size ≤ 1024) (W : World) (t : Pb w W w.heap.size p v) => fits_any p x text is t.rows cp kd (by omega) (by omega))
  have HLN := Lib.hid (fun (hu : used p.rows ≤ 20000) => (show p.rows.length ≤ 20000 by have := Page.used_len p.rows; omega))
  have LR1 := Lib.hid (fun (hu : used p.rows ≤ 20000) (ht : text.size ≤ 1024) => (show (withR p x text is).rows.length ≤ 1000000 by
    unfold withR
    split
    · have := put_used2 p x text is (by omega) (by omega)
      have := Page.used_len (putR p x text is).rows
      omega
    · exact Nat.zero_le _))
  have LR2 := Lib.hid (fun (hu : used p.rows ≤ 20000) => (show (outR p x).rows.length ≤ 1000000 by
    unfold outR
    split
    · have := out_used p.rows x.toNat
      have := Page.used_len (outL p.rows x.toNat)
      show (outL p.rows x.toNat).length ≤ _
      omega
    · exact Nat.zero_le _))
  have SA := Lib.hid (fun (hl : (withR p x text is).rows.length ≤ 1000000) (W : World) (v1 v2 : Value) (h1 : Page.Rows W v1 (withR p x text is).rows) (h2 : Page.Rows W v2 (withR p x text is).rows) => (show Calls Tryd.prog 24 #[pgV (withR p x text is) v1, pgV (withR p x text is) v2] W fun e w' => e = .returned (.bool true) ∧ Below W.heap.size W w' by
    have := Page.rsame_any _ _ h1 h2 hl
    rw [same_self] at this
    exact this))
  have SC := Lib.hid (fun (hl : (outR p x).rows.length ≤ 1000000) (W : World) (v1 v2 : Value) (h1 : Page.Rows W v1 (outR p x).rows) (h2 : Page.Rows W v2 (outR p x).rows) => (show Calls Tryd.prog 24 #[pgV (outR p x) v1, pgV (outR p x) v2] W fun e w' => e = .returned (.bool true) ∧ Below W.heap.size W w' by
    have := Page.rsame_any _ _ h1 h2 hl
    rw [same_self] at this
    exact this))
  have TT := Lib.hid (fun (hu : used p.rows ≤ 20000) (W : World) (v1 v2 : Value) (h1 : Page.Rows W v1 p.rows) (h2 : Page.Rows W v2 p.rows) => (show Calls Tryd.prog 26 #[v1, v2] W fun e w' => e = .returned (.bool true) ∧ Below W.heap.size W w' by
    have hl : p.rows.length ≤ 1000000 := by have := Page.used_len p.rows; omega
    have := rtexts_any _ _ h1 h2 hl hl
    rw [decide_eq_true rfl] at this
    exact this))
  obtain ⟨ad, c, rfl, _⟩ := id hp.rows
  clear hp kd cp
  obtain ⟨n, hn⟩ : ∃ n, n = p.rows.length := ⟨_, rfl⟩
  rw [← hn] at T0 KH K1 K2 K3 K4 K5 HLN R0 N0 ⊢
  have NN := Lib.hid hn
  clear hn
  obtain ⟨uu, huu⟩ : ∃ u, u = used p.rows := ⟨_, rfl⟩
  rw [← huu] at LU K1 K2 K3 K4 K5 HLN LR1 LR2 TT
  clear huu
  generalize withE p x text is = we at *
  generalize withR p x text is = wr at *
  generalize outE p x = oe at *
  generalize outR p x = orr at *
  generalize heavyB p.rows = hb at *
  obtain ⟨a0, a1, a2, a3, a4, a5⟩ := T0.out.six
  obtain ⟨m1, hm1⟩ : ∃ m, m = wr.rows.length := ⟨_, rfl⟩
  obtain ⟨m2, hm2⟩ : ∃ m, m = orr.rows.length := ⟨_, rfl⟩
  rw [← hm1] at K1 K2 LR1 SA
  rw [← hm2] at K3 K4 LR2 SC
  clear hm1 hm2
  unfold pgV at KH K1 K2 K3 K4 K5 SA SC
  unfold pgC at T0
  unfold pgV
  go_enter Tryd.func4, Tryd.ntmps4
  go_wp2_with fail
  refine (KH.out _ T0.out).mono ?_
  rintro e w1 ⟨rfl, b1⟩
  have T1 := Lib.hid (T0.out.later b1)
  clear b1 T0 a0 a1 a2 a3 a4 a5 KH
  cases hb with
  | true =>
    clear K1 K2 K3 K4 K5 LU HLN LR1 LR2 R0 SA SC TT
    go_wp2_with fail
    refine (alive_any _).mono ?_
    rintro e w2 ⟨rfl, b2⟩
    have B2 := Lib.hid (T1.out.later b2).below
    clear b2 T1
    go_wp2_with fail
    go_ret
    exact ⟨rfl, B2.out⟩
  | false =>
  have hu := LU.out rfl
  by_cases hl : 1024 < text.size
  · clear K1 K2 K3 K4 K5 LU HLN LR1 LR2 R0 SA SC TT
    go_wp2_with fail
    refine (alive_any _).mono ?_
    rintro e w2 ⟨rfl, b2⟩
    have B2 := Lib.hid (T1.out.later b2).below
    clear b2 T1
    go_wp2_with fail
    go_ret
    exact ⟨rfl, B2.out⟩
  have htx : text.size ≤ 1024 := by omega
  have Q1 := Lib.hid (K1.out hu htx)
  have Q2 := Lib.hid (K2.out hu htx)
  have Q3 := Lib.hid (K3.out hu)
  have Q4 := Lib.hid (K4.out hu)
  have Q5 := Lib.hid (K5.out hu htx)
  have hn2 := HLN.out hu
  have S1 := Lib.hid (SA.out (LR1.out hu htx))
  have S2 := Lib.hid (SC.out (LR2.out hu))
  have S3 := Lib.hid (TT.out hu)
  have LL := Lib.hid (show ([] : List ByteArray).length + p.rows.length ≤ 1000000 by have := NN.out; simp; omega)
  clear K1 K2 K3 K4 K5 LU HLN LR1 LR2 htx SA SC TT
  obtain ⟨g, hg⟩ : ∃ g, g = w.heap.size := ⟨_, rfl⟩
  have G := Lib.hid hg
  rw [← hg] at T1 Q1 Q2 Q3 Q4 Q5 ⊢
  clear hg
  -- the rows ahead of it
  have T2 := Lib.hid (T1.out.later (below_new w1 (.cells #[] 9)))
  have E2 := Lib.hid (Slot.Tx.made w (w := w1) [] T1.out.below.size (by simp))
  have R2 := Lib.hid (R0.out.later T2.out.below)
  have OLD := Lib.hid (old_of R0.out)
  obtain ⟨a0, a1, a2, a3, a4, a5⟩ := T2.out.six
  have OLD2 := Lib.hid (show p.rows ≠ [] → ∀ b o c', (.slice ad n c : Value) = .slice (some ⟨b, o, none⟩) p.rows.length c' → b < w.heap.size from fun hnil b o c' e => by
    have := OLD.out
    rw [← NN.out] at this e
    exact this hnil b o c' e)
  clear OLD
  go_wp2_with (first | (refine Page.wpList_app_in (W0 := w) (l := []) (news := p.rows) rfl _ _ rfl E2.out R2.out N0.out LL.out rfl rfl ?_; intro v3 w3 t3 g3; replace t3 : Slot.Tx w w3 v3 p.rows := t3; have T3 := Lib.hid (T2.out.grown E2.out g3 OLD2.out); have X3 := Lib.hid t3; obtain ⟨adw, capw, rfl⟩ := t3.shape; rw [← NN.out] at X3 ⊢; clear t3 g3 a0 a1 a2 a3 a4 a5 E2 R2 T2; obtain ⟨a0, a1, a2, a3, a4, a5⟩ := T3.out.six))
  refine (Q1.out _ T3.out).mono ?_
  rintro e w4 ⟨ad4, cap4, rfl, b4, r4, _⟩
  have n4 := below_new w4 (.cells (pgC wr (.slice ad4 m1 cap4)) 26)
  have T4 := Lib.hid ((T3.out.later b4).later n4)
  have X4 := Lib.hid ((X3.out.later b4).later n4)
  have A4 := Lib.hid (show Pb w (w4.alloc (.cells (pgC wr (.slice ad4 m1 cap4)) 26)) w4.heap.size wr (.slice ad4 m1 cap4) from ⟨heap_alloc_new w4 _, r4.later n4, T4.out.below⟩)
  clear b4 r4 n4 T3 X3 Q1 a0 a1 a2 a3 a4 a5
  go_upto_region 5 with fail
  unfold pgC at T4 X4 A4
  generalize w4.alloc _ = W4 at *
  generalize w4.heap.size = ga at *
  obtain ⟨a0, a1, a2, a3, a4, a5⟩ := T4.out.six
  go_wp2_with fail
  refine (Q2.out _ T4.out).mono ?_
  rintro e w5 ⟨ad5, cap5, rfl, b5, r5, _⟩
  have n5 := below_new w5 (.cells (pgC wr (.slice ad5 m1 cap5)) 26)
  have T5 := Lib.hid ((T4.out.later b5).later n5)
  have X5 := Lib.hid ((X4.out.later b5).later n5)
  have A5 := Lib.hid ((A4.out.later b5).later n5)
  have D5 := Lib.hid (show Pb w (w5.alloc (.cells (pgC wr (.slice ad5 m1 cap5)) 26)) w5.heap.size wr (.slice ad5 m1 cap5) from ⟨heap_alloc_new w5 _, r5.later n5, T5.out.below⟩)
  clear b5 r5 n5 T4 X4 A4 Q2 a0 a1 a2 a3 a4 a5
  go_upto_region 6 with fail
  unfold pgC at T5 X5 A5 D5
  generalize w5.alloc _ = W5 at *
  generalize w5.heap.size = gb at *
  obtain ⟨a0, a1, a2, a3, a4, a5⟩ := T5.out.six
  go_wp2_with fail
  refine (Q3.out _ T5.out).mono ?_
  rintro e w6 ⟨ad6, cap6, rfl, b6, r6, _⟩
  have n6 := below_new w6 (.cells (pgC orr (.slice ad6 m2 cap6)) 26)
  have T6 := Lib.hid ((T5.out.later b6).later n6)
  have X6 := Lib.hid ((X5.out.later b6).later n6)
  have A6 := Lib.hid ((A5.out.later b6).later n6)
  have D6 := Lib.hid ((D5.out.later b6).later n6)
  have E6 := Lib.hid (show Pb w (w6.alloc (.cells (pgC orr (.slice ad6 m2 cap6)) 26)) w6.heap.size orr (.slice ad6 m2 cap6) from ⟨heap_alloc_new w6 _, r6.later n6, T6.out.below⟩)
  clear b6 r6 n6 T5 X5 A5 D5 Q3 a0 a1 a2 a3 a4 a5
  go_upto_region 7 with fail
  unfold pgC at T6 X6 A6 D6 E6
  generalize w6.alloc _ = W6 at *
  generalize w6.heap.size = gc at *
  obtain ⟨a0, a1, a2, a3, a4, a5⟩ := T6.out.six
  go_wp2_with fail
  refine (Q4.out _ T6.out).mono ?_
  rintro e w7 ⟨ad7, cap7, rfl, b7, r7, _⟩
  have n7 := below_new w7 (.cells (pgC orr (.slice ad7 m2 cap7)) 26)
  have T7 := Lib.hid ((T6.out.later b7).later n7)
  have X7 := Lib.hid ((X6.out.later b7).later n7)
  have A7 := Lib.hid ((A6.out.later b7).later n7)
  have D7 := Lib.hid ((D6.out.later b7).later n7)
  have E7 := Lib.hid ((E6.out.later b7).later n7)
  have F7 := Lib.hid (show Pb w (w7.alloc (.cells (pgC orr (.slice ad7 m2 cap7)) 26)) w7.heap.size orr (.slice ad7 m2 cap7) from ⟨heap_alloc_new w7 _, r7.later n7, T7.out.below⟩)
  clear b7 r7 n7 T6 X6 A6 D6 E6 Q4 a0 a1 a2 a3 a4 a5
  go_upto_region 8 with fail
  unfold pgC at T7 X7 A7 D7 E7 F7
  generalize w7.alloc _ = W7 at *
  generalize w7.heap.size = gd at *
  obtain ⟨a0, a1, a2, a3, a4, a5⟩ := A7.out.six
  obtain ⟨d0, d1, d2, d3, d4, d5⟩ := D7.out.six
  go_wp2_with fail
  refine (S1.out _ _ _ A7.out.rows D7.out.rows).mono ?_
  rintro e w8 ⟨rfl, b8⟩
  have T8 := Lib.hid (T7.out.later b8)
  have X8 := Lib.hid (X7.out.later b8)
  have E8 := Lib.hid (E7.out.later b8)
  have F8 := Lib.hid (F7.out.later b8)
  clear b8 T7 X7 A7 D7 E7 F7 S1 a0 a1 a2 a3 a4 a5 d0 d1 d2 d3 d4 d5
  obtain ⟨a0, a1, a2, a3, a4, a5⟩ := E8.out.six
  obtain ⟨d0, d1, d2, d3, d4, d5⟩ := F8.out.six
  go_wp2_with fail
  refine (S2.out _ _ _ E8.out.rows F8.out.rows).mono ?_
  rintro e w9 ⟨rfl, b9⟩
  have T9 := Lib.hid (T8.out.later b9)
  have X9 := Lib.hid (X8.out.later b9)
  clear b9 T8 X8 E8 F8 S2 a0 a1 a2 a3 a4 a5 d0 d1 d2 d3 d4 d5
  obtain ⟨a0, a1, a2, a3, a4, a5⟩ := T9.out.six
  go_wp2_with fail
  refine (Q5.out _ T9.out).mono ?_
  rintro e w10 ⟨rfl, b10⟩
  have T10 := Lib.hid (T9.out.later b10)
  have X10 := Lib.hid (X9.out.later b10)
  clear b10 T9 X9 Q5 a0 a1 a2 a3 a4 a5
  obtain ⟨a0, a1, a2, a3, a4, a5⟩ := T10.out.six
  go_wp2_with fail
  refine (S3.out _ _ _ (Page.rows_tx X10.out) T10.out.rows).mono ?_
  rintro e w11 ⟨rfl, b11⟩
  have T11 := Lib.hid (T10.out.later b11).below
  clear b11 T10 X10 S3 a0 a1 a2 a3 a4 a5
  go_wp2_with fail
  refine (alive_any _).mono ?_
  rintro e w12 ⟨rfl, b12⟩
  have BB := Lib.hid (T11.out.trans (b12.mono T11.out.size))
  clear b12 T11
  go_wp2_with fail
  go_ret
  exact ⟨rfl, BB.out⟩

end Go.Proofs.YtbdbnpcbbebelaaDoor.Node
