/-
  Walks: what a page is with an op done, and with a list done again.
-/
import Derived.Test.YticnbicnefnhbaaZ31
import Derived.Test.YticnbicnefnhbaaZ20
import Derived.Test.YticnbicnefnhbaaZ16
import Derived.Test.YticnbicnefnhbaaZ17
namespace Go.Proofs.Yticnbicnefnhbaa.Op
open Go.RowKit
open Go.Proofs.Yticnbicnefnhbaa.Page (Pg pgV used pgC zeroP)
open Go.Proofs.Yticnbicnefnhbaa.By
attribute [local go_sem ↓] Go.wp_at_zero Go.wp_at_succ

/-- the page's box, the op's -/
structure Aq (w W : World) (g h : Nat) (p : Pg) (v : Value) (o : O) (u : Value) : Prop where
  pb : W.heap[g]? = some (.cells (pgC p v) 45 (0, 0))
  ob : W.heap[h]? = some (.cells (oC o u) 26 (0, 0))
  below : Below w.heap.size w W
section
variable {w W W' : World} {g h : Nat} {p : Pg} {v x : Value} {o : O} {u : Value} {l : List ByteArray}
theorem Aq.later (D : Aq w W g h p v o u) (t : Below W.heap.size W W') : Aq w W' g h p v o u :=
  ⟨(t.block _ (Array.getElem?_eq_some_iff.1 D.pb).1).trans D.pb, (t.block _ (Array.getElem?_eq_some_iff.1 D.ob).1).trans D.ob, D.below.trans (t.mono D.below.size)⟩
theorem Aq.six (D : Aq w W g h p v o u) : W.cell? ⟨g, 0, none⟩ = some (.int .u8 (p.kind : Int)) ∧ W.cell? ⟨g, 1, none⟩ = some (.int .u8 (p.level : Int)) ∧ W.cell? ⟨g, 2, none⟩ = some (.int .u32 (p.id : Int)) ∧ W.cell? ⟨g, 3, none⟩ = some (.int .u64 (p.lsn : Int)) ∧ W.cell? ⟨g, 4, none⟩ = some (.int .u32 (p.next : Int)) ∧ W.cell? ⟨g, 5, none⟩ = some v := six_of D.pb
theorem Aq.nine (D : Aq w W g h p v o u) : (W.cell? ⟨h, 0, none⟩ = some (.int .u8 (o.kind : Int)) ∧ W.cell? ⟨h, 1, none⟩ = some (.int .u32 (o.page : Int)) ∧ W.cell? ⟨h, 2, none⟩ = some (.int .i64 o.at') ∧ W.cell? ⟨h, 3, none⟩ = some (.int .i64 o.off) ∧ W.cell? ⟨h, 4, none⟩ = some (.string o.text) ∧ W.cell? ⟨h, 5, none⟩ = some (u) ∧ W.cell? ⟨h, 6, none⟩ = some (.int .u8 (o.pkind : Int)) ∧ W.cell? ⟨h, 7, none⟩ = some (.int .u8 (o.level : Int)) ∧ W.cell? ⟨h, 8, none⟩ = some (.int .u32 (o.next : Int))) := by
  refine ⟨?_, ?_, ?_, ?_, ?_, ?_, ?_, ?_, ?_⟩ <;> (rw [cell_of_row _ _ _ _ _ _ D.ob]; rfl)
theorem Aq.start : Aq w ((w.alloc (.cells (pgC p v) 45)).alloc (.cells (oC o u) 26)) w.heap.size (w.heap.size + 1) p v o u := by
  have b1 := below_new w (.cells (pgC p v) 45)
  have n1 := heap_alloc_new w (.cells (pgC p v) 45)
  have z1 : (w.alloc (.cells (pgC p v) 45)).heap.size = w.heap.size + 1 := by simp
  generalize w.alloc _ = w1 at *
  have b2 := below_new w1 (.cells (oC o u) 26)
  have n2 := heap_alloc_new w1 (.cells (oC o u) 26)
  rw [z1] at n2
  exact ⟨(b2.block _ (by omega)).trans n1, n2, b1.trans (b2.mono b1.size)⟩
theorem Aq.grown (D : Aq w W g h p v o u) (T : Slot.Tx w W x l) (gw : W.grownBy W' x.ownBlock) : Aq w W' g h p v o u :=
  ⟨(gw.block _ (Array.getElem?_eq_some_iff.1 D.pb).1 (fun e => tx_ne T D.pb (by decide) _ e.symm rfl)).trans D.pb, (gw.block _ (Array.getElem?_eq_some_iff.1 D.ob).1 (fun e => tx_ne T D.ob (by decide) _ e.symm rfl)).trans D.ob, Slot.below_grown D.below (fun y hy => (T.own.lt y hy).1) gw⟩
end
theorem same_self {W : World} {q : Pg} {v1 v2 : Value} (h1 : Page.Rows W v1 q.rows) (h2 : Page.Rows W v2 q.rows) (hu : used q.rows ≤ 1000000) : Calls Try.prog 25 #[pgV q v1, pgV q v2] W fun e w' => e = .returned (.bool true) ∧ Below W.heap.size W w' := by
  have := Page.rsame_any q q h1 h2 (by have := Page.used_len q.rows; omega)
  rw [show Page.sameB q q = true from (Page.same_iff q q).2 rfl] at this
  exact this
theorem ops_each {w : World} {v : Value} {l : List O} (h : Ops w v l) : ∀ o ∈ l, o.wf := by
  obtain ⟨q, rfl, _, h3⟩ := h
  intro o ho
  obtain ⟨x, hx, rfl⟩ := List.mem_map.1 ho
  exact (h3 x hx).wf

set_option maxRecDepth 100000 in
set_option maxHeartbeats 4000000 in
theorem applies_walk {w : World} {p : Pg} {v : Value} {o : O} {u : Value} {x : Int} {l : List O} {vl : Value} (hp : Page.InPg w p v) (ho : In w o u) (hx : 0 ≤ x ∧ x ≤ 18446744073709551615) (hl : Ops w vl l) :
    Calls Try.prog 4 #[pgV p v, oV o u, .int .u64 x, vl] w fun e w' => e = .returned (.bool true) ∧ Below w.heap.size w w' := by
  obtain ⟨lsn, rfl⟩ : ∃ n : Nat, x = (n : Int) := ⟨x.toNat, by omega⟩
  have hn : lsn < 18446744073709551616 := by omega
  clear hx
  have A0 := Lib.hid (Aq.start (w := w) (p := p) (v := v) (o := o) (u := u))
  have KP := Lib.hid (fun W (B : Below w.heap.size w W) => Page.heavy_any p (hp.rows.later B) hp.len hp.each)
  have KL := Lib.hid (fun W (B : Below w.heap.size w W) => heavy_any (hl.later B))
  have KO := Lib.hid (fun W (B : Below w.heap.size w W) => size_any (ho.later B))
  obtain ⟨ad, c, rfl, _⟩ := id hp.rows
  obtain ⟨au, cu, rfl⟩ := ho.rows.shape
  obtain ⟨al, cl, rfl⟩ := hl.shape
  have HP := Lib.hid hp
  have HO := Lib.hid ho
  have HL := Lib.hid hl
  have HN := Lib.hid hn
  obtain ⟨n, hnl⟩ : ∃ n, n = p.rows.length := ⟨_, rfl⟩
  have N := Lib.hid hnl
  rw [← hnl] at A0 KP HP ⊢
  clear hp ho hl hn hnl
  unfold pgV oV at *
  unfold pgC oC at A0
  unfold oC at *
  go_enter Try.func4, Try.ntmps4
  go_upto_region 1 with fail
  generalize (w.alloc _).alloc _ = W0 at *
  generalize w.heap.size + 1 = h at *
  obtain ⟨g, hg⟩ : ∃ g, g = w.heap.size := ⟨_, rfl⟩
  rw [← hg] at A0 ⊢
  clear hg
  obtain ⟨x0, x1, x2, x3, x4, x5⟩ := A0.out.six
  obtain ⟨y0, y1, y2, y3, y4, y5, y6, y7, y8⟩ := A0.out.nine
  go_cut [28] (fun s wx => (s = .bool true ∧ Below w.heap.size w wx) ∨ (s = .bool false ∧ Page.heavyB p.rows = false ∧ heavyO l = false ∧ sizeO o ≤ 4096 ∧ Aq w wx g h p (.slice ad n c) o (.slice au o.rows.length cu)))
  case first =>
    have sz := size_le HO.out
    obtain ⟨z, hz⟩ : ∃ z, z = sizeO o := ⟨_, rfl⟩
    have HZ := Lib.hid hz
    rw [← hz] at KO sz
    clear hz
    by_cases h1 : Page.heavyB p.rows = true
    · rw [h1] at KP
      clear h1
      go_wp2_with fail
      (with_reducible refine (KP.out _ A0.out.below).mono ?_)
      rintro e w1 ⟨rfl, b1⟩
      have B1 := Lib.hid (A0.out.below.trans (b1.mono A0.out.below.size))
      clear b1
      go_wp2_with fail
      go_meet
      exact .inl ⟨rfl, B1.out⟩
    have h2 : Page.heavyB p.rows = false := by simpa using h1
    have H2 := Lib.hid h2
    rw [h2] at KP
    clear h1 h2
    go_wp2_with fail
    (with_reducible refine (KP.out _ A0.out.below).mono ?_)
    rintro e w1 ⟨rfl, b1⟩
    have A1 := Lib.hid (A0.out.later b1)
    clear b1 KP A0 x0 x1 x2 x3 x4 x5 y0 y1 y2 y3 y4 y5 y6 y7 y8
    by_cases h3 : heavyO l = true
    · rw [h3] at KL
      clear h3
      go_wp2_with fail
      (with_reducible refine (KL.out _ A1.out.below).mono ?_)
      rintro e w2 ⟨rfl, b2⟩
      have B2 := Lib.hid (A1.out.below.trans (b2.mono A1.out.below.size))
      clear b2
      go_wp2_with fail
      go_meet
      exact .inl ⟨rfl, B2.out⟩
    have h4 : heavyO l = false := by simpa using h3
    have H4 := Lib.hid h4
    rw [h4] at KL
    clear h3 h4
    go_wp2_with fail
    (with_reducible refine (KL.out _ A1.out.below).mono ?_)
    rintro e w2 ⟨rfl, b2⟩
    have A2 := Lib.hid (A1.out.later b2)
    clear b2 KL A1
    obtain ⟨y0, y1, y2, y3, y4, y5, y6, y7, y8⟩ := A2.out.nine
    go_wp2_with fail
    (with_reducible refine (KO.out _ A2.out.below).mono ?_)
    rintro e w3 ⟨rfl, b3⟩
    have A3 := Lib.hid (A2.out.later b3)
    clear b3 KO A2 y0 y1 y2 y3 y4 y5 y6 y7 y8
    by_cases h5 : 4096 < z
    · have e5 : (4096 : Int) < (z : Int) := by omega
      clear h5
      go_wp2_with fail
      go_meet
      exact .inl ⟨by simp, A3.out.below⟩
    · have e5 : ¬ (4096 : Int) < (z : Int) := by omega
      have Z5 := Lib.hid (show sizeO o ≤ 4096 by rw [← HZ.out]; omega)
      clear h5
      go_wp2_with fail
      go_meet
      exact .inr ⟨by simp [e5], H2.out, H4.out, Z5.out, A3.out⟩
  case rest =>
    rcases hcut with ⟨rfl, hB⟩ | ⟨rfl, G1, G2, G3, G4⟩
    · clear x0 x1 x2 x3 x4 x5 y0 y1 y2 y3 y4 y5 y6 y7 y8
      go_wp2_with (go_at_call 10; (with_reducible refine (alive_any _).mono ?_); rintro e w5 ⟨rfl, d5⟩)
      go_ret
      exact ⟨rfl, hB.trans (d5.mono hB.size)⟩
    have A3 := Lib.hid G4
    have hu := (Page.light G1).1
    have hlen := (heavy_no G2).1
    clear KP KL KO G1 G2 G3 G4 A0 x0 x1 x2 x3 x4 x5 y0 y1 y2 y3 y4 y5 y6 y7 y8
    have GD := Lib.hid (show Gd p from ⟨HP.out.wf, by omega⟩)
    have GR := Lib.hid (redo_gd (l := l) GD.out (ops_each HL.out) HN.out)
    have UA := Lib.hid (app_used p o lsn)
    have L1 := Lib.hid (show p.rows.length ≤ 1000000 by have := Page.used_len p.rows; omega)
    have KA := Lib.hid (fun W (B : Below w.heap.size w W) => capply_any (HP.out.rows.later B) HP.out.cap GD.out.us (HO.out.later B) HN.out)
    have KRA := Lib.hid (fun W (B : Below w.heap.size w W) => rapply_any (HP.out.rows.later B) HP.out.cap GD.out.us (HO.out.later B) HN.out)
    have KR := Lib.hid (fun W (B : Below w.heap.size w W) => credo_any (HP.out.rows.later B) HP.out.cap GD.out.us (HL.out.later B) HN.out (by omega))
    have KRR := Lib.hid (fun W (B : Below w.heap.size w W) => rredo_any (HP.out.rows.later B) HP.out.cap HP.out.wf GD.out.us (HL.out.later B) HN.out (by omega))
    have R0 := Lib.hid HP.out.rows
    have N0 := Lib.hid HP.out.cap.nilOk
    have KT := Lib.hid (fun W v1 v2 (h1 : Page.Rows W v1 p.rows) (h2 : Page.Rows W v2 p.rows) => (show Calls Try.prog 26 #[v1, v2] W fun e w' => e = .returned (.bool true) ∧ Below W.heap.size W w' from by
      have := rtexts_any p.rows p.rows h1 h2 L1.out L1.out
      rw [decide_eq_true rfl] at this
      exact this))
    have UR := Lib.hid GR.out.us
    clear hu hlen GR GD HP HO HL
    generalize appP p o lsn = qa at *
    generalize appE p o lsn = ea at *
    generalize (redo p lsn l).1 = qr at *
    generalize (redo p lsn l).2 = er at *
    unfold pgV oV oC at KA KRA
    unfold pgV at KR KRR
    -- the rows as they were
    have E3 := Lib.hid (Slot.Tx.made w (w := wc) [] A3.out.below.size (by simp))
    have A4 := Lib.hid (A3.out.later (below_new wc (.cells #[] 9)))
    have R4 := Lib.hid (R0.out.later A4.out.below)
    have L4 := Lib.hid (show ([] : List ByteArray).length + p.rows.length ≤ 1000000 by rw [List.length_nil]; have := L1.out; omega)
    go_upto_region 3 with fail
    obtain ⟨x0, x1, x2, x3, x4, x5⟩ := A4.out.six
    go_upto_region 4 with (refine Page.wpList_app_in (W0 := w) (l := []) (news := p.rows) rfl _ _ rfl E3.out R4.out N0.out L4.out rfl rfl ?_; intro v5 w5 t5 g5)
    replace t5 : Slot.Tx w w5 v5 p.rows := t5
    obtain ⟨a5, c5, rfl⟩ := t5.shape
    have A5 := Lib.hid (A4.out.grown E3.out g5)
    rw [← N.out] at t5 ⊢
    have T5 := Lib.hid t5
    clear t5 g5 E3 A4 A3 R4 L4 x0 x1 x2 x3 x4 x5
    obtain ⟨x0, x1, x2, x3, x4, x5⟩ := A5.out.six
    obtain ⟨y0, y1, y2, y3, y4, y5, y6, y7, y8⟩ := A5.out.nine
    go_wp2_with fail
    (with_reducible refine (KA.out _ A5.out.below).mono ?_)
    rintro e w6b ⟨v6, rfl, r6, -, b6⟩
    obtain ⟨a6, c6, hv6, _⟩ := id r6
    obtain ⟨n6, hn6⟩ : ∃ m, m = qa.rows.length := ⟨_, rfl⟩
    rw [← hn6] at hv6
    subst hv6
    clear hn6
    have n2 := below_new w6b (.cells (pgC qa (.slice a6 n6 c6)) 45)
    have X6 := Lib.hid (heap_alloc_new w6b (.cells (pgC qa (.slice a6 n6 c6)) 45))
    have R6 := Lib.hid (r6.later n2)
    have A6 := Lib.hid ((A5.out.later b6).later n2)
    have T6 := Lib.hid ((T5.out.later b6).later n2)
    clear r6 b6 n2 KA T5 A5 x0 x1 x2 x3 x4 x5 y0 y1 y2 y3 y4 y5 y6 y7 y8
    unfold pgV
    go_upto_region 5 with fail
    unfold pgC at X6 R6 A6 T6
    generalize w6b.alloc _ = w6 at *
    generalize w6b.heap.size = g6 at *
    obtain ⟨x0, x1, x2, x3, x4, x5⟩ := A6.out.six
    obtain ⟨y0, y1, y2, y3, y4, y5, y6, y7, y8⟩ := A6.out.nine
    go_wp2_with fail
    (with_reducible refine (KRA.out _ A6.out.below).mono ?_)
    rintro e w7b ⟨v7, rfl, r7, -, b7⟩
    obtain ⟨a7, c7, hv7, _⟩ := id r7
    obtain ⟨n7, hn7⟩ : ∃ m, m = qa.rows.length := ⟨_, rfl⟩
    rw [← hn7] at hv7
    subst hv7
    clear hn7
    have n2 := below_new w7b (.cells (pgC qa (.slice a7 n7 c7)) 45)
    have X7 := Lib.hid (heap_alloc_new w7b (.cells (pgC qa (.slice a7 n7 c7)) 45))
    have R7 := Lib.hid (r7.later n2)
    have A7 := Lib.hid ((A6.out.later b7).later n2)
    have T7 := Lib.hid ((T6.out.later b7).later n2)
    have X6 := Lib.hid ((n2.block _ (Nat.lt_of_lt_of_le (Array.getElem?_eq_some_iff.1 X6.out).1 b7.size)).trans ((b7.block _ (Array.getElem?_eq_some_iff.1 X6.out).1).trans X6.out))
    have R6 := Lib.hid ((R6.out.later b7).later n2)
    clear r7 b7 n2 KRA T6 A6 x0 x1 x2 x3 x4 x5 y0 y1 y2 y3 y4 y5 y6 y7 y8
    unfold pgV
    go_upto_region 6 with fail
    unfold pgC at X7 R7 A7 T7 R6
    try unfold pgC at X6
    generalize w7b.alloc _ = w7 at *
    generalize w7b.heap.size = g7 at *
    obtain ⟨x0, x1, x2, x3, x4, x5⟩ := A7.out.six
    go_wp2_with fail
    (with_reducible refine (KR.out _ A7.out.below).mono ?_)
    rintro e w8b ⟨v8, rfl, r8, -, b8⟩
    obtain ⟨a8, c8, hv8, _⟩ := id r8
    obtain ⟨n8, hn8⟩ : ∃ m, m = qr.rows.length := ⟨_, rfl⟩
    rw [← hn8] at hv8
    subst hv8
    clear hn8
    have n2 := below_new w8b (.cells (pgC qr (.slice a8 n8 c8)) 45)
    have X8 := Lib.hid (heap_alloc_new w8b (.cells (pgC qr (.slice a8 n8 c8)) 45))
    have R8 := Lib.hid (r8.later n2)
    have A8 := Lib.hid ((A7.out.later b8).later n2)
    have T8 := Lib.hid ((T7.out.later b8).later n2)
    have X6 := Lib.hid ((n2.block _ (Nat.lt_of_lt_of_le (Array.getElem?_eq_some_iff.1 X6.out).1 b8.size)).trans ((b8.block _ (Array.getElem?_eq_some_iff.1 X6.out).1).trans X6.out))
    have R6 := Lib.hid ((R6.out.later b8).later n2)
    have X7 := Lib.hid ((n2.block _ (Nat.lt_of_lt_of_le (Array.getElem?_eq_some_iff.1 X7.out).1 b8.size)).trans ((b8.block _ (Array.getElem?_eq_some_iff.1 X7.out).1).trans X7.out))
    have R7 := Lib.hid ((R7.out.later b8).later n2)
    clear r8 b8 n2 KR T7 A7 x0 x1 x2 x3 x4 x5
    unfold pgV
    go_upto_region 7 with fail
    unfold pgC at X8 R8 A8 T8 R6 R7
    try unfold pgC at X6
    try unfold pgC at X7
    generalize w8b.alloc _ = w8 at *
    generalize w8b.heap.size = g8 at *
    obtain ⟨x0, x1, x2, x3, x4, x5⟩ := A8.out.six
    go_wp2_with fail
    (with_reducible refine (KRR.out _ A8.out.below).mono ?_)
    rintro e w9b ⟨v9, rfl, r9, -, b9⟩
    obtain ⟨a9, c9, hv9, _⟩ := id r9
    obtain ⟨n9, hn9⟩ : ∃ m, m = qr.rows.length := ⟨_, rfl⟩
    rw [← hn9] at hv9
    subst hv9
    clear hn9
    have n2 := below_new w9b (.cells (pgC qr (.slice a9 n9 c9)) 45)
    have X9 := Lib.hid (heap_alloc_new w9b (.cells (pgC qr (.slice a9 n9 c9)) 45))
    have R9 := Lib.hid (r9.later n2)
    have A9 := Lib.hid ((A8.out.later b9).later n2)
    have T9 := Lib.hid ((T8.out.later b9).later n2)
    have X6 := Lib.hid ((n2.block _ (Nat.lt_of_lt_of_le (Array.getElem?_eq_some_iff.1 X6.out).1 b9.size)).trans ((b9.block _ (Array.getElem?_eq_some_iff.1 X6.out).1).trans X6.out))
    have R6 := Lib.hid ((R6.out.later b9).later n2)
    have X7 := Lib.hid ((n2.block _ (Nat.lt_of_lt_of_le (Array.getElem?_eq_some_iff.1 X7.out).1 b9.size)).trans ((b9.block _ (Array.getElem?_eq_some_iff.1 X7.out).1).trans X7.out))
    have R7 := Lib.hid ((R7.out.later b9).later n2)
    have X8 := Lib.hid ((n2.block _ (Nat.lt_of_lt_of_le (Array.getElem?_eq_some_iff.1 X8.out).1 b9.size)).trans ((b9.block _ (Array.getElem?_eq_some_iff.1 X8.out).1).trans X8.out))
    have R8 := Lib.hid ((R8.out.later b9).later n2)
    clear r9 b9 n2 KRR T8 A8 x0 x1 x2 x3 x4 x5
    unfold pgV
    go_upto_region 8 with fail
    unfold pgC at X9 R9 A9 T9 R6 R7 R8
    try unfold pgC at X6
    try unfold pgC at X7
    try unfold pgC at X8
    generalize w9b.alloc _ = w9 at *
    generalize w9b.heap.size = g9 at *
    have M1 := Lib.hid (same_self R6.out R7.out UA.out)
    unfold pgV at M1
    obtain ⟨s0, s1, s2, s3, s4, s5⟩ := six_of (p := qa) (v := .slice a6 n6 c6) X6.out
    obtain ⟨t0, t1, t2, t3, t4, t5⟩ := six_of (p := qa) (v := .slice a7 n7 c7) X7.out
    go_wp2_with fail
    (with_reducible refine M1.out.mono ?_)
    rintro e w10 ⟨rfl, b10⟩
    have R8 := Lib.hid (R8.out.later b10)
    have R9 := Lib.hid (R9.out.later b10)
    have A10 := Lib.hid (A9.out.later b10)
    have T10 := Lib.hid (T9.out.later b10)
    have M2 := Lib.hid (same_self R8.out R9.out UR.out)
    unfold pgV at M2
    have e8 := (b10.block _ (Array.getElem?_eq_some_iff.1 X8.out).1).trans X8.out
    have e9 := (b10.block _ (Array.getElem?_eq_some_iff.1 X9.out).1).trans X9.out
    clear M1 A9 T9 R6 R7 X6 X7 X8 X9 b10 s0 s1 s2 s3 s4 s5 t0 t1 t2 t3 t4 t5
    obtain ⟨s0, s1, s2, s3, s4, s5⟩ := six_of (p := qr) (v := .slice a8 n8 c8) e8
    obtain ⟨t0, t1, t2, t3, t4, t5⟩ := six_of (p := qr) (v := .slice a9 n9 c9) e9
    clear e8 e9
    go_wp2_with fail
    (with_reducible refine M2.out.mono ?_)
    rintro e w11 ⟨rfl, b11⟩
    have A11 := Lib.hid (A10.out.later b11)
    have T11 := Lib.hid (T10.out.later b11)
    clear M2 A10 T10 R8 R9 b11 s0 s1 s2 s3 s4 s5 t0 t1 t2 t3 t4 t5
    have M3 := Lib.hid (KT.out w11 _ _ (Page.rows_tx T11.out) (R0.out.later A11.out.below))
    have x5 := A11.out.six.2.2.2.2.2
    go_wp2_with fail
    (with_reducible refine M3.out.mono ?_)
    rintro e w12 ⟨rfl, b12⟩
    have B12 := Lib.hid (A11.out.below.trans (b12.mono A11.out.below.size))
    clear M3 KT A11 T11 b12 x5
    go_wp2_with (go_at_call 10; (with_reducible refine (alive_any _).mono ?_); rintro e w13 ⟨rfl, d13⟩)
    go_ret
    exact ⟨rfl, B12.out.trans (d13.mono B12.out.size)⟩

end Go.Proofs.Yticnbicnefnhbaa.Op
