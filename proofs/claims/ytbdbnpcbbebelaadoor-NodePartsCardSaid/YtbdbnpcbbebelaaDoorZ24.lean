/-
  Walks: the answers that the document fixes: alive.
-/
import Derived.Test.YtbdbnpcbbebelaaDoorZ19
import Derived.Test.YtbdbnpcbbebelaaDoorZ13
namespace Go.Proofs.YtbdbnpcbbebelaaDoor.Node
open Go.RowKit
open Go.Proofs.YtbdbnpcbbebelaaDoor.Page (Pg nth used pgV pgC CapOk zeroP info_page results_page zero_one)
open Go.Proofs.YtbdbnpcbbebelaaDoor.Row (Rw En rwC rwV enC enV encS encE entS entE)
attribute [local go_sem ↓] Go.wp_at_zero Go.wp_at_succ

set_option maxRecDepth 100000 in
set_option maxHeartbeats 8000000 in
theorem alive_any (w : World) : Calls Tryd.prog 9 #[] w fun e w' => e = .returned (.bool true) ∧ Below w.heap.size w w' := by
  obtain ⟨f1, f2, f3, f4, f5, f6, f7⟩ := al_facts
  obtain ⟨g1, g2, g3, g4, g5, g6, g7⟩ := al_facts2
  obtain ⟨h1, h2, h3, h4, h5⟩ := al_facts3
  obtain ⟨u1, u2, u3, u4, u5⟩ := al_used
  have KL := Lib.hid (fun W => (show Calls Tryd.prog 31 #[.slice (some ⟨W.heap.size, 0, none⟩) 2 2] (W.alloc (.cells #[.string ⟨#[97]⟩, .bool false, .int .u64 0, .int .u32 0, .int .u16 0, .string ⟨#[]⟩, .int .i64 0, .string ⟨#[99]⟩, .bool false, .int .u64 0, .int .u32 0, .int .u16 0, .string ⟨#[]⟩, .int .i64 0] 68)) (OwnPost alP _) from leaf_any [alR 97, alR 99] (rws_two W (alR 97) (alR 99) (alR_wf _) (alR_wf _)) (by decide)))
  have KI := Lib.hid (fun W => (show Calls Tryd.prog 35 #[.slice (some ⟨W.heap.size, 0, none⟩) 2 2] (W.alloc (.cells #[.string ⟨#[]⟩, .int .u32 2, .string ⟨#[109]⟩, .int .u32 3] 73)) (OwnPost alQ _) from inner_any [alE, alF] (ens_two W alE alF alE_wf alF_wf) (by decide)))
  have KA := Lib.hid (fun W => (show Calls Tryd.prog 31 #[.slice (some ⟨W.heap.size, 0, none⟩) 1 1] (W.alloc (.cells #[.string ⟨#[97]⟩, .bool false, .int .u64 0, .int .u32 0, .int .u16 0, .string ⟨#[]⟩, .int .i64 0] 68)) (OwnPost (leafP [alR 97]) _) from leaf_any [alR 97] (rws_one W (alR 97) (alR_wf _)) (by decide)))
  have KC := Lib.hid (fun W => (show Calls Tryd.prog 31 #[.slice (some ⟨W.heap.size, 0, none⟩) 1 1] (W.alloc (.cells #[.string ⟨#[99]⟩, .bool false, .int .u64 0, .int .u32 0, .int .u16 0, .string ⟨#[]⟩, .int .i64 0] 68)) (OwnPost (leafP [alR 99]) _) from leaf_any [alR 99] (rws_one W (alR 99) (alR_wf _)) (by decide)))
  have KE := Lib.hid (fun W => (show Calls Tryd.prog 32 #[.agg #[.string ⟨#[98]⟩, .bool false, .int .u64 0, .int .u32 0, .int .u16 0, .string ⟨#[]⟩, .int .i64 0]] W fun e w' => e = .returned (.tuple #[.string alS, .int .i64 (encE (alR 98))]) ∧ Below W.heap.size W w' from Row.rencode_any (alR 98) W (alR_wf _)))
  have KF1 := Lib.hid (fun W u (h : Page.Rows W u alP.rows) => (show Calls Tryd.prog 12 #[pgV alP u, .string ⟨#[98]⟩] W fun e w' => e = .returned (.tuple #[.int .i64 1, .bool false]) ∧ Below W.heap.size W w' by
    have := find_any alP ⟨#[98]⟩ h (by decide) (by omega)
    rw [f1, f2] at this
    exact this))
  have KF2 := Lib.hid (fun W u (h : Page.Rows W u alP.rows) => (show Calls Tryd.prog 12 #[pgV alP u, .string ⟨#[99]⟩] W fun e w' => e = .returned (.tuple #[.int .i64 1, .bool true]) ∧ Below W.heap.size W w' by
    have := find_any alP ⟨#[99]⟩ h (by decide) (by omega)
    rw [f3, f4] at this
    exact this))
  have KH1 := Lib.hid (fun W u (h : Page.Rows W u alQ.rows) => (show Calls Tryd.prog 14 #[pgV alQ u, .string ⟨#[107]⟩] W fun e w' => e = .returned (.tuple #[.int .u32 2, .int .i64 (chI alQ ⟨#[107]⟩ : Int), .int .i64 0]) ∧ Below W.heap.size W w' by
    have := child_any alQ ⟨#[107]⟩ h (by decide) (by omega)
    rw [f5, f6] at this
    exact this))
  have KH2 := Lib.hid (fun W u (h : Page.Rows W u alQ.rows) => (show Calls Tryd.prog 14 #[pgV alQ u, .string ⟨#[109]⟩] W fun e w' => e = .returned (.tuple #[.int .u32 3, .int .i64 (chI alQ ⟨#[109]⟩ : Int), .int .i64 0]) ∧ Below W.heap.size W w' by
    have := child_any alQ ⟨#[109]⟩ h (by decide) (by omega)
    rw [f7, f6] at this
    exact this))
  have KW1 := Lib.hid (fun W u (h : Page.Rows W u alP.rows) (c : CapOk u) => (show Calls Tryd.prog 20 #[pgV alP u, .int .i64 1, .string alS, .bool false] W (PgPost (withR alP 1 alS false) 0 W) by
    have := with_any alP 1 alS false h c (by decide) (by omega) (by omega)
    rw [g1] at this
    exact this))
  have KW2 := Lib.hid (fun W u (h : Page.Rows W u alP.rows) (c : CapOk u) => (show Calls Tryd.prog 20 #[pgV alP u, .int .i64 0, .string alS, .bool false] W (PgPost (withR alP 0 alS false) 7 W) by
    have := with_any alP 0 alS false h c (by decide) (by omega) (by omega)
    rw [g3] at this
    exact this))
  have KS := Lib.hid (fun W u (h : Page.Rows W u alP.rows) (c : CapOk u) => (show Calls Tryd.prog 27 #[pgV alP u, .int .i64 1, .string alS, .bool false] W (SplPost (splA alP 1 alS false) (splB alP 1 alS false) ⟨#[98]⟩ 0 W) by
    have := split_any alP 1 alS false h c (by decide) (by omega) (by omega)
    rw [g6, g7] at this
    exact this))
  have KM := Lib.hid (fun W u v (h : Page.Rows W u (leafP [alR 97]).rows) (h2 : Page.Rows W v (leafP [alR 99]).rows) (c : CapOk u) (c2 : CapOk v) => (show Calls Tryd.prog 29 #[pgV (leafP [alR 97]) u, pgV (leafP [alR 99]) v] W (PgPost (mrgR (leafP [alR 97]) (leafP [alR 99])) 0 W) by
    have := merge_any (leafP [alR 97]) (leafP [alR 99]) h h2 c c2 (by decide) (by decide) (by omega) (by omega)
    rw [h1] at this
    exact this))
  have KSM := Lib.hid (fun W u (h : Page.Rows W u alP.rows) => (show Calls Tryd.prog 18 #[pgV alP u] W fun e w' => e = .returned (.bool true) ∧ Below W.heap.size W w' by
    have := small_any alP h (by omega)
    rw [h3] at this
    exact this))
  have KQ := Lib.hid (fun W u (h : Page.Rows W u alQ.rows) => (show Calls Tryd.prog 16 #[pgV alQ u] W fun e w' => e = .returned (.int .i64 0) ∧ Below W.heap.size W w' by
    have := check_any alQ h (by decide) (by omega)
    rw [h4] at this
    exact this))
  have KZ := Lib.hid (fun W => (show Calls Tryd.prog 16 #[.agg #[.int .u8 2, .int .u8 1, .int .u32 1, .int .u64 0, .int .u32 0, .slice none 0 0]] W fun e w' => e = .returned (.int .i64 7) ∧ Below W.heap.size W w' by
    have := check_any (w := W) ⟨2, 1, 1, 0, 0, []⟩ (Page.Rows.nil W none 0) (by decide) (by decide)
    rw [h5] at this
    exact this))
  have E3 := Lib.hid g2
  have E1 := Lib.hid g4
  have E2 := Lib.hid g5
  have EM := Lib.hid h2
  clear f1 f2 f3 f4 f5 f6 f7 g1 g2 g3 g4 g5 g6 g7 h1 h2 h3 h4 h5 u1 u2 u3 u4 u5
  generalize encE (alR 98) = eb at *
  generalize chI alQ ⟨#[107]⟩ = ci1 at *
  generalize chI alQ ⟨#[109]⟩ = ci2 at *
  generalize withR alP 1 alS false = x1 at *
  generalize withR alP 0 alS false = x2 at *
  generalize splA alP 1 alS false = sA at *
  generalize splB alP 1 alS false = sB at *
  generalize mrgR (leafP [alR 97]) (leafP [alR 99]) = x3 at *
  generalize alS = S at *
  generalize alP = p at *
  generalize alQ = q at *
  generalize leafP [alR 97] = pa at *
  generalize leafP [alR 99] = pc at *
  go_enter Tryd.func9, Tryd.ntmps9
  go_wp2_with fail
  refine (own_post (KL.out _)).mono ?_
  rintro e w2 ⟨ad1, cap1, rfl, b2, r2, c2⟩
  have B2 := Lib.hid ((below_new w _).trans (b2.mono (below_new w _).size))
  have C2 := Lib.hid c2
  have P2 := Lib.hid (Pb.make B2.out r2)
  generalize hn : p.rows.length = n at *
  clear hn
  unfold pgV
  go_upto_region 2 with fail
  unfold pgC at P2
  generalize w2.alloc _ = W2 at *
  generalize w2.heap.size = g at *
  clear b2 r2 c2 B2 KL
  go_wp2_with fail
  refine (own_post (KI.out _)).mono ?_
  rintro e w3 ⟨ad2, cap2, rfl, b3, r3, c3⟩
  have P3 := Lib.hid ((P2.out.later (below_new W2 _)).later b3)
  have A3 := Lib.hid (show Al w (w3.alloc (.cells (pgC q (.slice ad2 q.rows.length cap2)) 26)) g w3.heap.size p q (.slice ad1 n cap1) (.slice ad2 q.rows.length cap2) from ⟨P3.out.later (below_new w3 _), Pb.make P3.out.below r3⟩)
  generalize hm : q.rows.length = m at *
  clear hm
  unfold pgV
  go_upto_region 3 with fail
  unfold pgC at A3
  generalize w3.alloc _ = W3 at *
  generalize w3.heap.size = h at *
  clear b3 r3 c3 P3 P2 KI
  obtain ⟨a0, a1, a2, a3, a4, a5⟩ := A3.out.a.six
  unfold pgV at *
  go_wp2_with fail
  refine (KF1.out _ _ A3.out.a.rows).mono ?_
  rintro e w4 ⟨rfl, b4⟩
  have A4 := Lib.hid (A3.out.later b4)
  clear b4 A3 KF1 a0 a1 a2 a3 a4 a5
  obtain ⟨a0, a1, a2, a3, a4, a5⟩ := A4.out.a.six
  go_wp2_with fail
  refine (KF2.out _ _ A4.out.a.rows).mono ?_
  rintro e w5 ⟨rfl, b5⟩
  have A5 := Lib.hid (A4.out.later b5)
  clear b5 A4 KF2 a0 a1 a2 a3 a4 a5
  obtain ⟨d0, d1, d2, d3, d4, d5⟩ := A5.out.b.six
  go_wp2_with fail
  refine (KH1.out _ _ A5.out.b.rows).mono ?_
  rintro e w6 ⟨rfl, b6⟩
  have A6 := Lib.hid (A5.out.later b6)
  clear b6 A5 KH1 d0 d1 d2 d3 d4 d5
  obtain ⟨d0, d1, d2, d3, d4, d5⟩ := A6.out.b.six
  go_wp2_with fail
  refine (KH2.out _ _ A6.out.b.rows).mono ?_
  rintro e w7 ⟨rfl, b7⟩
  have A7 := Lib.hid (A6.out.later b7)
  clear b7 A6 KH2 d0 d1 d2 d3 d4 d5
  go_wp2_with fail
  refine (KE.out _).mono ?_
  rintro e w8 ⟨rfl, b8⟩
  have A8 := Lib.hid (A7.out.later b8)
  clear b8 A7 KE
  obtain ⟨a0, a1, a2, a3, a4, a5⟩ := A8.out.a.six
  go_wp2_with fail
  refine (pg_post (KW1.out _ _ A8.out.a.rows C2.out)).mono ?_
  rintro e w9 ⟨ad3, cap3, rfl, b9, r9, _⟩
  rw [E3.out] at r9 ⊢
  have A9 := Lib.hid ((A8.out.later b9).later (below_new w9 (.cells (pgC x1 (.slice ad3 3 cap3)) 26)))
  have X9 := Lib.hid (heap_alloc_new w9 (.cells (pgC x1 (.slice ad3 3 cap3)) 26))
  clear b9 r9 A8 KW1 a0 a1 a2 a3 a4 a5
  unfold pgV
  go_upto_region 9 with fail
  unfold pgC at A9
  unfold pgC at X9
  generalize w9.alloc _ = W9 at *
  generalize w9.heap.size = gx at *
  obtain ⟨a0, a1, a2, a3, a4, a5⟩ := A9.out.a.six
  go_wp2_with fail
  refine (pg_post (KW2.out _ _ A9.out.a.rows C2.out)).mono ?_
  rintro e w10 ⟨ad4, cap4, rfl, b10, r10, _⟩
  generalize hm2 : x2.rows.length = m2 at *
  clear hm2 r10
  have A10 := Lib.hid ((A9.out.later b10).later (below_new w10 (.cells (pgC x2 (.slice ad4 m2 cap4)) 26)))
  have X10 := Lib.hid (old_blk (below_new w10 (.cells (pgC x2 (.slice ad4 m2 cap4)) 26)) (old_blk b10 X9.out))
  clear b10 A9 X9 KW2 a0 a1 a2 a3 a4 a5
  unfold pgV
  go_upto_region 10 with fail
  unfold pgC at A10 X10
  generalize w10.alloc _ = W10 at *
  obtain ⟨a0, a1, a2, a3, a4, a5⟩ := A10.out.a.six
  go_wp2_with fail
  refine (spl_post (KS.out _ _ A10.out.a.rows C2.out)).mono ?_
  rintro e w11 ⟨ad5, cap5, ad6, cap6, rfl, b11, _, _, _, _⟩
  rw [E1.out, E2.out]
  have A11 := Lib.hid (A10.out.later b11)
  have X11 := Lib.hid (old_blk b11 X10.out)
  clear b11 A10 X10 KS a0 a1 a2 a3 a4 a5
  go_wp2_with fail
  refine (own_post (KA.out _)).mono ?_
  rintro e w12 ⟨ad7, cap7, rfl, b12, r12, c12⟩
  have bn := below_new w11 (.cells #[.string ⟨#[97]⟩, .bool false, .int .u64 0, .int .u32 0, .int .u16 0, .string ⟨#[]⟩, .int .i64 0] 68)
  have A12 := Lib.hid ((A11.out.later bn).later b12)
  have X12 := Lib.hid (old_blk b12 (old_blk bn X11.out))
  have R12 := Lib.hid r12
  have C12 := Lib.hid c12
  generalize pa.rows.length = m7 at *
  clear b12 bn A11 X11 KA r12 c12
  unfold pgV
  go_wp2_with fail
  refine (own_post (KC.out _)).mono ?_
  rintro e w13 ⟨ad8, cap8, rfl, b13, r13, c13⟩
  have bn := below_new w12 (.cells #[.string ⟨#[99]⟩, .bool false, .int .u64 0, .int .u32 0, .int .u16 0, .string ⟨#[]⟩, .int .i64 0] 68)
  have A13 := Lib.hid ((A12.out.later bn).later b13)
  have X13 := Lib.hid (old_blk b13 (old_blk bn X12.out))
  have R13 := Lib.hid ((R12.out.later bn).later b13)
  have S13 := Lib.hid r13
  have C13 := Lib.hid c13
  generalize pc.rows.length = m8 at *
  clear b13 bn A12 X12 R12 KC r13 c13
  unfold pgV
  go_wp2_with fail
  refine (pg_post (KM.out _ _ _ R13.out S13.out C12.out C13.out)).mono ?_
  rintro e w14 ⟨ad9, cap9, rfl, b14, _, _⟩
  rw [EM.out]
  have A14 := Lib.hid (A13.out.later b14)
  have X14 := Lib.hid (old_blk b14 X13.out)
  clear b14 A13 X13 KM R13 S13 C12 C13
  have bn := below_new w14 (.cells (pgC x3 (.slice ad9 2 cap9)) 26)
  have A15 := Lib.hid (A14.out.later bn)
  have X15 := Lib.hid (old_blk bn X14.out)
  have Y15 := Lib.hid (heap_alloc_new w14 (.cells (pgC x3 (.slice ad9 2 cap9)) 26))
  have sx := (six_of X14.out).2.2.2.2.2
  have hgx : gx < w14.heap.size := (Array.getElem?_eq_some_iff.1 X14.out).1
  have hg : g < w14.heap.size := (Array.getElem?_eq_some_iff.1 A14.out.a.box).1
  obtain ⟨a0, a1, a2, a3, a4, a5⟩ := A14.out.a.six
  clear A14 X14 bn
  unfold pgC at A15 X15 Y15
  unfold pgV
  go_wp2_with fail
  refine (KSM.out _ _ A15.out.a.rows).mono ?_
  rintro e w16 ⟨rfl, b16⟩
  have A16 := Lib.hid (A15.out.later b16)
  clear b16 A15 X15 Y15 KSM a0 a1 a2 a3 a4 a5 sx hgx hg
  obtain ⟨d0, d1, d2, d3, d4, d5⟩ := A16.out.b.six
  go_wp2_with fail
  refine (KQ.out _ _ A16.out.b.rows).mono ?_
  rintro e w17 ⟨rfl, b17⟩
  have A17 := Lib.hid (A16.out.later b17)
  clear b17 A16 KQ d0 d1 d2 d3 d4 d5
  go_wp2_with fail
  refine (KZ.out _).mono ?_
  rintro e w18 ⟨rfl, b18⟩
  have A18 := Lib.hid (A17.out.later b18).a.below
  clear b18 A17 KZ
  go_wp2_with fail
  go_ret
  exact ⟨rfl, A18.out⟩

end Go.Proofs.YtbdbnpcbbebelaaDoor.Node
