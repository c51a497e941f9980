/-
  Walks: Apply, Redo.
  Walks: Redo.
  The code's ops: by their names.
  Walks: some answers that the document fixes, as every law of ops asks.
-/
import Derived.Test.YtfcibccipkokoaaZ15
import Derived.Test.YtfcibccipkokoaaZ9
import Derived.Test.YtfcibccipkokoaaZ12
import Derived.Test.YtfcibccipkokoaaZ3
namespace Go.Proofs.Ytfcibccipkokoaa.Op
open Go.RowKit
open Go.Proofs.Ytfcibccipkokoaa.Page (Pg pgV pgC used nth mayP zeroP info_page results_page)
attribute [local go_sem ↓] Go.wp_at_zero Go.wp_at_succ

theorem app_used (p : Pg) (o : O) (lsn : Nat) : used (appP p o lsn).rows ≤ 1000000 := by
  unfold appP
  split
  · rename_i h
    unfold appE at h
    split at h
    · rename_i h2; exact absurd h h2
    · split at h
      · rename_i h2
        have := (may_rows h2).2.2.2.2
        omega
      · cases h
  · exact Nat.zero_le _
theorem PgOut.cap {_w w' : World} {vin v : Value} (hc : Page.CapOk vin) (h : Str w' v ∨ v = vin) : Page.CapOk v := by
  rcases h with h | rfl
  · exact h.cap
  · exact hc

set_option maxRecDepth 100000 in
set_option maxHeartbeats 4000000 in
theorem capply_all {w : World} {p : Pg} {v : Value} {o : O} {u : Value} {lsn : Nat} (hp : Page.Rows w v p.rows) (hc : Page.CapOk v) (hu : used p.rows ≤ 1000000) (ho : In w o u) (hl : lsn < 18446744073709551616) :
    Calls Try.prog 28 #[pgV p v, oV o u, .int .u64 (lsn : Int)] w (PgOut w v (appP p o lsn) (appE p o lsn)) := by
  obtain ⟨ad, c, hv, _⟩ := id hp
  obtain ⟨n, hn⟩ : ∃ n, n = p.rows.length := ⟨_, rfl⟩
  rw [← hn] at hv
  subst hv
  obtain ⟨ua, uc, hu2⟩ := ho.rows.shape
  obtain ⟨un, hun⟩ : ∃ un, un = o.rows.length := ⟨_, rfl⟩
  rw [← hun] at hu2
  subst hu2
  clear hn hun
  have D0 := Lib.hid (Dn.start (o := o) (u := .slice ua un uc) hp hc)
  have KD := Lib.hid (fun (W : World) (t : Below w.heap.size w W) => done_any (lsn := lsn) (hp.later t) hc hu (ho.later t) hl)
  have US := Lib.hid (app_used p o lsn)
  obtain ⟨PO, hPO⟩ : ∃ PO, PO = PgOut w (.slice ad n c) (appP p o lsn) (appE p o lsn) := ⟨_, rfl⟩
  rw [← hPO]
  have OK := Lib.hid (fun (v' : Value) (W : World) (hr : Page.Rows W v' (appP p o lsn).rows) (hs : Str W v') (b : Below w.heap.size w W) => (show PO (.returned (.tuple #[pgV (appP p o lsn) v', .int .i64 (appE p o lsn : Int)])) W by rw [hPO]; exact ⟨v', rfl, hr, .inl hs, b⟩))
  clear hp hc hu ho hPO
  generalize appP p o lsn = q at *
  generalize appE p o lsn = e0 at *
  unfold pgV pgC at *
  unfold oV oC at *
  go_enter Try.func28, Try.ntmps28
  go_upto_region 1 with fail
  unfold zeroP at D0
  generalize ((w.alloc _).alloc _).alloc _ = W0 at *
  generalize w.heap.size + 1 + 1 = r at *
  generalize w.heap.size + 1 = h at *
  obtain ⟨x0, x1, x2, x3, x4, x5⟩ := D0.out.gx.six
  obtain ⟨y0, y1, y2, y3, y4, y5, y6, y7, y8⟩ := D0.out.onine
  have K1 := Lib.hid (KD.out W0 D0.out.below)
  clear KD
  go_wp2_with fail
  refine K1.out.mono ?_
  rintro e w1 ⟨v1, rfl, r1, s1, b1⟩
  have R1 := Lib.hid r1
  obtain ⟨a1, c1, hv1, _⟩ := id r1
  obtain ⟨n1, hn1⟩ : ∃ n1, n1 = q.rows.length := ⟨_, rfl⟩
  rw [← hn1] at hv1
  subst hv1
  have n2 := below_new w1 (.cells (pgC q (.slice a1 n1 c1)) 64)
  have N2 := Lib.hid (heap_alloc_new w1 (.cells (pgC q (.slice a1 n1 c1)) 64))
  have D2 := Lib.hid ((D0.out.later b1).later n2)
  have KO := Lib.hid (own_any (w := w1.alloc (.cells (pgC q (.slice a1 n1 c1)) 64)) (p := q) (v := .slice a1 n1 c1) (r1.later n2) US.out)
  clear hn1 s1 r1 b1 n2 x0 x1 x2 x3 x4 x5 y0 y1 y2 y3 y4 y5 y6 y7 y8 K1 D0
  unfold pgV pgC at KO
  unfold pgC at N2
  unfold pgV
  go_upto_region 2 with fail
  unfold pgC at D2
  generalize w1.alloc _ = w2 at *
  generalize w1.heap.size = g2 at *
  have six : w2.cell? ⟨g2, 0, none⟩ = some (.int .u8 (q.kind : Int)) ∧ w2.cell? ⟨g2, 1, none⟩ = some (.int .u8 (q.level : Int)) ∧ w2.cell? ⟨g2, 2, none⟩ = some (.int .u32 (q.id : Int)) ∧ w2.cell? ⟨g2, 3, none⟩ = some (.int .u64 (q.lsn : Int)) ∧ w2.cell? ⟨g2, 4, none⟩ = some (.int .u32 (q.next : Int)) ∧ w2.cell? ⟨g2, 5, none⟩ = some (.slice a1 n1 c1) := by
    refine ⟨?_, ?_, ?_, ?_, ?_, ?_⟩ <;> (rw [cell_of_row _ _ _ _ _ _ N2.out]; rfl)
  obtain ⟨x0, x1, x2, x3, x4, x5⟩ := six
  go_wp2_with fail
  refine KO.out.mono ?_
  rintro e w3 ⟨v3, rfl, r3, s3, b3⟩
  have D3 := Lib.hid (D2.out.later b3)
  obtain ⟨a3, c3, hv3, _⟩ := id r3
  obtain ⟨n3, hn3⟩ : ∃ n3, n3 = q.rows.length := ⟨_, rfl⟩
  rw [← hn3] at hv3
  subst hv3
  have R3 := Lib.hid r3
  have S3 := Lib.hid s3
  clear hn3 r3 s3 b3 KO x0 x1 x2 x3 x4 x5 N2
  unfold pgV
  go_wp2_with (refine wpList_store_row rfl 64 (.tmp 6) (.tmp 18) rfl r (pgC q (.slice a3 n3 c3)) rfl rfl 64 zeroP D3.out.rb info_page rfl (pgC_one' _ _ _ _) ?_)
  exact bodyPost_ret (v := .tuple #[.agg (pgC q (.slice a3 n3 c3)), .int .i64 (e0 : Int)]) (results_page Try.results28 _ _ r (pgC q (.slice a3 n3 c3)) (e0 : Int) rfl rfl (setRow_heap _ _ _ _ _ _ D3.out.rb) info_page) rfl (OK.out _ _ (rows_setRow R3.out D3.out.rb _) (str_setRow S3.out D3.out.rb _) (D3.out.fin _))

end Go.Proofs.Ytfcibccipkokoaa.Op

namespace Go.Proofs.Ytfcibccipkokoaa.Op
open Go.RowKit
open Go.Proofs.Ytfcibccipkokoaa.Page (Pg pgV pgC used nth mayP zeroP info_page results_page)
attribute [local go_sem ↓] Go.wp_at_zero Go.wp_at_succ

/-- while a list is done: the page's box, the box of what it has become, the result's -/
structure Rq (w W : World) (g s r : Nat) (p : Pg) (v : Value) (q : Pg) (x : Value) : Prop where
  pb : W.heap[g]? = some (.cells (pgC p v) 64 (0, 0))
  qb : W.heap[s]? = some (.cells (pgC q x) 64 (0, 0))
  rb : W.heap[r]? = some (.cells zeroP 64 (0, 0))
  rows : Page.Rows W x q.rows
  cap : Page.CapOk x
  us : used q.rows ≤ 1000000
  below : Below w.heap.size w W
  hs : w.heap.size ≤ s
  hr : w.heap.size ≤ r
  gs : g ≠ s
  rs : r ≠ s
section
variable {w W W' : World} {g s r : Nat} {p q q2 : Pg} {v x x2 : Value}
theorem Rq.later (D : Rq w W g s r p v q x) (t : Below W.heap.size W W') : Rq w W' g s r p v q x :=
  have on : ∀ {y : Nat} {o : Obj}, W.heap[y]? = some o → W'.heap[y]? = some o := fun hy => (t.block _ (Array.getElem?_eq_some_iff.1 hy).1).trans hy
  ⟨on D.pb, on D.qb, on D.rb, D.rows.later t, D.cap, D.us, D.below.trans (t.mono D.below.size), D.hs, D.hr, D.gs, D.rs⟩
theorem rows_setPage {l : List ByteArray} {pp : Pg} {u : Value} (h : Page.Rows W v l) (hs2 : ∀ z, u ≠ .string z) (hb : W.heap[r]? = some (.cells (pgC pp u) 64 (0, 0))) (cs : Array Value) : Page.Rows (W.setRow r cs) v l := by
  obtain ⟨ad, c, rfl, h1⟩ := h
  refine ⟨ad, c, rfl, h1.imp id ?_⟩
  rintro ⟨b, y, rfl, hlt, hc⟩
  refine ⟨b, y, rfl, by simpa [World.setRow] using hlt, fun k hk => ?_⟩
  have hne : b ≠ r := by
    rintro rfl
    have := hc k hk
    rw [cell_of_row _ _ _ _ _ _ hb] at this
    rcases (show y + k = 0 ∨ y + k = 1 ∨ y + k = 2 ∨ y + k = 3 ∨ y + k = 4 ∨ y + k = 5 ∨ 6 ≤ y + k by omega) with e | e | e | e | e | e | e
    · rw [e] at this; simp [pgC] at this
    · rw [e] at this; simp [pgC] at this
    · rw [e] at this; simp [pgC] at this
    · rw [e] at this; simp [pgC] at this
    · rw [e] at this; simp [pgC] at this
    · rw [e] at this; simp [pgC] at this; exact hs2 _ this
    · rw [Array.getElem?_eq_none (by show 6 ≤ y + k; exact e)] at this; cases this
  exact (World.cell?_of_block (a := ⟨b, y + k, none⟩) (setRow_other _ _ _ _ hne)).trans (hc k hk)
theorem Rq.put (D : Rq w W g s r p v q x) (hr : Page.Rows W x2 q2.rows) (hc : Page.CapOk x2) (hu : used q2.rows ≤ 1000000) : Rq w (W.setRow s (pgC q2 x2)) g s r p v q2 x2 :=
  ⟨(setRow_other _ _ _ _ D.gs).trans D.pb, setRow_heap _ _ _ _ _ _ D.qb, (setRow_other _ _ _ _ D.rs).trans D.rb, rows_setPage hr (pg_slice D.rows) D.qb _, hc, hu, below_setRow D.below D.hs _, D.hs, D.hr, D.gs, D.rs⟩
theorem six_of {g : Nat} {p : Pg} {v : Value} (h : W.heap[g]? = some (.cells (pgC p v) 64 (0, 0))) : W.cell? ⟨g, 0, none⟩ = some (.int .u8 (p.kind : Int)) ∧ W.cell? ⟨g, 1, none⟩ = some (.int .u8 (p.level : Int)) ∧ W.cell? ⟨g, 2, none⟩ = some (.int .u32 (p.id : Int)) ∧ W.cell? ⟨g, 3, none⟩ = some (.int .u64 (p.lsn : Int)) ∧ W.cell? ⟨g, 4, none⟩ = some (.int .u32 (p.next : Int)) ∧ W.cell? ⟨g, 5, none⟩ = some v := by
  refine ⟨?_, ?_, ?_, ?_, ?_, ?_⟩ <;> (rw [cell_of_row _ _ _ _ _ _ h]; rfl)
end
theorem Rq.start {w W0 : World} {g r : Nat} {p : Pg} {v : Value} (pb : W0.heap[g]? = some (.cells (pgC p v) 64 (0, 0))) (rb : W0.heap[r]? = some (.cells zeroP 64 (0, 0))) (b : Below w.heap.size w W0) (hw : w.heap.size ≤ r) (hr : Page.Rows w v p.rows) (hc : Page.CapOk v) (hu : used p.rows ≤ 1000000) :
    Rq w (W0.alloc (.cells (pgC p v) 64)) g W0.heap.size r p v p v := by
  have b3 := below_new W0 (.cells (pgC p v) 64)
  have lg := (Array.getElem?_eq_some_iff.1 pb).1
  have lr := (Array.getElem?_eq_some_iff.1 rb).1
  have b13 := b.trans (b3.mono b.size)
  exact ⟨(b3.block _ lg).trans pb, heap_alloc_new W0 _, (b3.block _ lr).trans rb, hr.later b13, hc, hu, b13, b.size, hw, by omega, by omega⟩
theorem redo_go {p q : Pg} {lsn : Nat} {l : List O} {k : Nat} (hk : k < l.length) (hp : l[k].page = p.id) : redoL p lsn (l.drop k) q = if appE q l[k] lsn = 0 then redoL p lsn (l.drop (k + 1)) (appP q l[k] lsn) else (p, appE q l[k] lsn) := by
  rw [List.drop_eq_getElem_cons hk, redoL, if_pos hp]
theorem redo_skip {p q : Pg} {lsn : Nat} {l : List O} {k : Nat} (hk : k < l.length) (hp : l[k].page ≠ p.id) : redoL p lsn (l.drop k) q = redoL p lsn (l.drop (k + 1)) q := by
  rw [List.drop_eq_getElem_cons hk, redoL, if_neg hp]

set_option maxRecDepth 100000 in
set_option maxHeartbeats 4000000 in
theorem credo_all {w : World} {p : Pg} {v : Value} {l : List O} {vl : Value} {lsn : Nat} (hp : Page.Rows w v p.rows) (hc : Page.CapOk v) (hu : used p.rows ≤ 1000000) (ho : Ops w vl l) (hl : lsn < 18446744073709551616) (hlen : l.length ≤ 1000000) :
    Calls Try.prog 29 #[pgV p v, .int .u64 (lsn : Int), vl] w (PgOut w v (redo p lsn l).1 (redo p lsn l).2) := by
  obtain ⟨ad, c, hv, _⟩ := id hp
  obtain ⟨n, hn⟩ : ∃ n, n = p.rows.length := ⟨_, rfl⟩
  rw [← hn] at hv
  subst hv
  obtain ⟨la, lc, hvl⟩ := ho.shape
  obtain ⟨m, hm⟩ : ∃ m, m = l.length := ⟨_, rfl⟩
  rw [← hm] at hvl
  subst hvl
  have HM := Lib.hid hm
  rw [← hm] at hlen
  clear hn hm
  have n2 := Page.below2 w (.cells (pgC p (.slice ad n c)) 64) (.cells zeroP 64)
  have N2 := Lib.hid n2
  have HO := Lib.hid ho
  have HP := Lib.hid hp
  have HU := Lib.hid hu
  obtain ⟨PO, hPO⟩ : ∃ PO, PO = PgOut w (.slice ad n c) (redo p lsn l).1 (redo p lsn l).2 := ⟨_, rfl⟩
  rw [← hPO]
  have OK := Lib.hid (fun (q : Pg) (e : Nat) (h : redo p lsn l = (q, e)) (v' : Value) (W : World) (hr : Page.Rows W v' q.rows) (hs : Str W v') (b : Below w.heap.size w W) => (show PO (.returned (.tuple #[pgV q v', .int .i64 (e : Int)])) W by rw [hPO, h]; exact ⟨v', rfl, hr, .inl hs, b⟩))
  have HL := Lib.hid hl
  clear hp hu ho hPO n2
  have CP := Lib.hid hc
  clear hc
  have n1 := heap_alloc_new w (.cells (pgC p (.slice ad n c)) 64)
  have b1 := below_new (w.alloc (.cells (pgC p (.slice ad n c)) 64)) (.cells zeroP 64)
  have X2 := Lib.hid (show ((w.alloc (.cells (pgC p (.slice ad n c)) 64)).alloc (.cells zeroP 64)).heap[w.heap.size]? = some (.cells (pgC p (.slice ad n c)) 64 (0, 0)) from (b1.block _ (by simp)).trans n1)
  have Z2 := Lib.hid (show ((w.alloc (.cells (pgC p (.slice ad n c)) 64)).alloc (.cells zeroP 64)).heap[w.heap.size + 1]? = some (.cells zeroP 64 (0, 0)) from by
    have := heap_alloc_new (w.alloc (.cells (pgC p (.slice ad n c)) 64)) (.cells zeroP 64)
    simpa using this)
  have HR := Lib.hid (show w.heap.size ≤ w.heap.size + 1 by omega)
  clear n1 b1
  have OLD := Lib.hid (fun h : lsn ≤ p.lsn => (show redo p lsn l = (p, 0) from redo_old l h))
  have NEW := Lib.hid (fun h : ¬ lsn ≤ p.lsn => (show redo p lsn l = redoL p lsn (l.drop 0) p from by unfold redo; rw [if_neg h, List.drop_zero]))
  unfold pgV pgC at *
  go_enter Try.func29, Try.ntmps29
  go_upto_region 1 with fail
  unfold zeroP at N2 X2 Z2
  generalize (w.alloc _).alloc _ = W0 at *
  generalize w.heap.size + 1 = r at *
  obtain ⟨g, hg⟩ : ∃ g, g = w.heap.size := ⟨_, rfl⟩
  rw [← hg] at X2 ⊢
  clear hg
  obtain ⟨x0, x1, x2, x3, x4, x5⟩ := six_of (p := p) (v := .slice ad n c) X2.out
  by_cases hold : lsn ≤ p.lsn
  · have E := Lib.hid (OLD.out hold)
    have f1 : (lsn : Int) ≤ (p.lsn : Int) := by omega
    have KO := Lib.hid (own_any (p := p) (HP.out.later N2.out) HU.out)
    clear OLD NEW hold
    unfold pgV at KO
    go_wp2_with fail
    refine KO.out.mono ?_
    rintro e w3 ⟨v3, rfl, r3, s3, b3⟩
    have R3 := Lib.hid r3
    have S3 := Lib.hid s3
    have Z3 := Lib.hid (show w3.heap[r]? = some (.cells zeroP 64 (0, 0)) from (b3.block _ (Array.getElem?_eq_some_iff.1 Z2.out).1).trans Z2.out)
    have B3 := Lib.hid (N2.out.trans (b3.mono N2.out.size))
    obtain ⟨a3, c3, hv3, _⟩ := id r3
    obtain ⟨n3, hn3⟩ : ∃ n3, n3 = p.rows.length := ⟨_, rfl⟩
    rw [← hn3] at hv3
    subst hv3
    clear hn3 r3 s3 b3 KO x0 x1 x2 x3 x4 x5
    unfold pgV
    go_wp2_with (refine wpList_store_row rfl 64 (.tmp 6) (.tmp 17) rfl r (pgC p (.slice a3 n3 c3)) rfl rfl 64 zeroP Z3.out info_page rfl (pgC_one' _ _ _ _) ?_)
    exact bodyPost_ret (v := .tuple #[.agg (pgC p (.slice a3 n3 c3)), .int .i64 0]) (results_page Try.results29 _ _ r (pgC p (.slice a3 n3 c3)) 0 rfl rfl (setRow_heap _ _ _ _ _ _ Z3.out) info_page) rfl (OK.out p 0 E.out _ _ (rows_setRow R3.out Z3.out _) (str_setRow S3.out Z3.out _) (below_setRow B3.out HR.out _))
  have RE := Lib.hid (NEW.out hold)
  have f1 : ¬ (lsn : Int) ≤ (p.lsn : Int) := by omega
  have Q0 := Lib.hid (Rq.start X2.out Z2.out N2.out HR.out HP.out CP.out HU.out)
  clear OLD NEW hold
  unfold pgC at Q0
  go_upto_region 4 with fail
  obtain ⟨s, hs⟩ : ∃ s, s = W0.heap.size := ⟨_, rfl⟩
  rw [← hs] at Q0 ⊢
  generalize W0.alloc _ = W1 at *
  clear x0 x1 x2 x3 x4 x5 hs f1 X2 Z2 N2
  go_wp2_with fail
  go_loopw [21] (fun i wr => ∃ (k : Nat) (q : Pg) (x : Value), i = .int .i64 k ∧ k ≤ m ∧ redo p lsn l = redoL p lsn (l.drop k) q ∧ Rq w wr g s r p (.slice ad n c) q x) (fun i _ => m - (intOf i).toNat)
  case atStart => exact ⟨0, p, _, rfl, Nat.zero_le _, RE.out, Q0.out⟩
  case round =>
    obtain ⟨k, q0, x, rfl, hkn, hre, hr⟩ := hrel
    have RE := Lib.hid hre
    have R := Lib.hid hr
    obtain ⟨xa, xc, hx, _⟩ := id hr.rows
    obtain ⟨xn, hxn⟩ : ∃ xn, xn = q0.rows.length := ⟨_, rfl⟩
    rw [← hxn] at hx
    subst hx
    clear hre hr hxn Q0
    by_cases hlt : k < m
    · have hll : k < l.length := by rw [← HM.out]; exact hlt
      obtain ⟨u, b, o, rfl, io, po⟩ := (HO.out.later R.out.below).nine hll
      obtain ⟨au, cu, hu2⟩ := io.rows.shape
      have SKP := Lib.hid (redo_skip (p := p) (q := q0) (lsn := lsn) hll)
      have GO := Lib.hid (redo_go (p := p) (q := q0) (lsn := lsn) hll)
      obtain ⟨X, hX⟩ : ∃ X, X = l[k] := ⟨_, rfl⟩
      rw [← hX] at io po SKP GO hu2
      obtain ⟨un, hun⟩ : ∃ un, un = X.rows.length := ⟨_, rfl⟩
      rw [← hun] at hu2
      subst hu2
      clear hX hun hll
      have IO := Lib.hid io
      obtain ⟨y0, y1, y2, y3, y4, y5, y6, y7, y8, _⟩ := po
      have n5 := below_new wr (.cells (oC X (.slice au un cu)) 36)
      have O5 := Lib.hid (heap_alloc_new wr (.cells (oC X (.slice au un cu)) 36))
      have R5 := Lib.hid (R.out.later n5)
      have I5 := Lib.hid (io.later n5)
      clear io n5
      unfold oC at O5 R5 I5
      go_upto_region 7 with fail
      obtain ⟨t, ht⟩ : ∃ t, t = wr.heap.size := ⟨_, rfl⟩
      rw [← ht] at O5 ⊢
      generalize wr.alloc _ = w5 at *
      clear y0 y1 y2 y3 y4 y5 y6 y7 y8 ht
      have nine : (w5.cell? ⟨t, 0, none⟩ = some (.int .u8 (X.kind : Int)) ∧ w5.cell? ⟨t, 1, none⟩ = some (.int .u32 (X.page : Int)) ∧ w5.cell? ⟨t, 2, none⟩ = some (.int .i64 X.at') ∧ w5.cell? ⟨t, 3, none⟩ = some (.int .i64 X.off) ∧ w5.cell? ⟨t, 4, none⟩ = some (.string X.text) ∧ w5.cell? ⟨t, 5, none⟩ = some (.slice au un cu) ∧ w5.cell? ⟨t, 6, none⟩ = some (.int .u8 (X.pkind : Int)) ∧ w5.cell? ⟨t, 7, none⟩ = some (.int .u8 (X.level : Int)) ∧ w5.cell? ⟨t, 8, none⟩ = some (.int .u32 (X.next : Int))) := by
        refine ⟨?_, ?_, ?_, ?_, ?_, ?_, ?_, ?_, ?_⟩ <;> (rw [cell_of_row _ _ _ _ _ _ O5.out]; rfl)
      obtain ⟨y0, y1, y2, y3, y4, y5, y6, y7, y8⟩ := nine
      obtain ⟨x0, x1, x2, x3, x4, x5⟩ := six_of R5.out.pb
      by_cases hpg : X.page = p.id
      · have xe : ((X.page : Int) != (p.id : Int)) = false := by rw [hpg]; simp
        go_upto_region 9 with fail
        clear x0 x1 x2 x3 x4 x5 xe SKP y0 y1 y2 y3 y4 y5 y6 y7 y8
        have GO := Lib.hid (GO.out hpg)
        have US := Lib.hid (app_used q0 X lsn)
        have KD := Lib.hid (done_any R5.out.rows R5.out.cap R5.out.us I5.out HL.out)
        obtain ⟨x0, x1, x2, x3, x4, x5⟩ := six_of R5.out.qb
        generalize appP q0 X lsn = q at *
        generalize appE q0 X lsn = e0 at *
        unfold pgV oV oC at KD
        have nine : (w5.cell? ⟨t, 0, none⟩ = some (.int .u8 (X.kind : Int)) ∧ w5.cell? ⟨t, 1, none⟩ = some (.int .u32 (X.page : Int)) ∧ w5.cell? ⟨t, 2, none⟩ = some (.int .i64 X.at') ∧ w5.cell? ⟨t, 3, none⟩ = some (.int .i64 X.off) ∧ w5.cell? ⟨t, 4, none⟩ = some (.string X.text) ∧ w5.cell? ⟨t, 5, none⟩ = some (.slice au un cu) ∧ w5.cell? ⟨t, 6, none⟩ = some (.int .u8 (X.pkind : Int)) ∧ w5.cell? ⟨t, 7, none⟩ = some (.int .u8 (X.level : Int)) ∧ w5.cell? ⟨t, 8, none⟩ = some (.int .u32 (X.next : Int))) := by
          refine ⟨?_, ?_, ?_, ?_, ?_, ?_, ?_, ?_, ?_⟩ <;> (rw [cell_of_row _ _ _ _ _ _ O5.out]; rfl)
        obtain ⟨y0, y1, y2, y3, y4, y5, y6, y7, y8⟩ := nine
        clear hpg
        go_wp2_with fail
        refine KD.out.mono ?_
        rintro e w7 ⟨v7, rfl, r7, s7, b7⟩
        have R7 := Lib.hid (R5.out.later b7)
        have C7 := Lib.hid (show Page.CapOk v7 from s7.elim (fun h => h.cap) (fun h => h ▸ R5.out.cap))
        obtain ⟨a7, c7, hv7, _⟩ := id r7
        obtain ⟨n7, hn7⟩ : ∃ n7, n7 = q.rows.length := ⟨_, rfl⟩
        rw [← hn7] at hv7
        subst hv7
        have R8 := Lib.hid (R7.out.put r7 C7.out US.out)
        clear KD hn7 r7 s7 b7 R5 I5 O5 x0 x1 x2 x3 x4 x5 y0 y1 y2 y3 y4 y5 y6 y7 y8 C7
        unfold pgV
        go_upto_region 10 with (refine wpList_store_row rfl 64 (.tmp 8) (.tmp 35) rfl s (pgC q (.slice a7 n7 c7)) rfl rfl 64 _ R7.out.qb info_page rfl (pgC_one' _ _ _ _) ?_)
        generalize w7.setRow _ _ = w8 at *
        clear R7
        by_cases he : e0 = 0
        · have ee : ((e0 : Int) != 0) = false := by rw [he]; rfl
          have GO := Lib.hid (show redoL p lsn (l.drop k) q0 = redoL p lsn (l.drop (k + 1)) q by rw [GO.out, if_pos he])
          clear he
          go_wp2_with fail
          clear ee
          go_roundw
          case rel => exact ⟨k + 1, q, _, by go_num, by omega, RE.out.trans GO.out, R8.out⟩
          case measure => simp [intOf]; omega
        · have ee : ((e0 : Int) != 0) = true := by rw [bne_iff_ne]; omega
          have GO := Lib.hid (show redo p lsn l = (p, e0) by rw [RE.out, GO.out, if_neg he])
          clear he RE
          obtain ⟨x0, x1, x2, x3, x4, x5⟩ := six_of R8.out.pb
          have KO := Lib.hid (own_any (p := p) (HP.out.later R8.out.below) HU.out)
          unfold pgV at KO
          go_wp2_with fail
          refine KO.out.mono ?_
          rintro e w9 ⟨v9, rfl, r9, s9, b9⟩
          have R9 := Lib.hid (R8.out.later b9)
          have Z9 := Lib.hid r9
          have S9 := Lib.hid s9
          obtain ⟨a9, c9, hv9, _⟩ := id r9
          obtain ⟨n9, hn9⟩ : ∃ n9, n9 = p.rows.length := ⟨_, rfl⟩
          rw [← hn9] at hv9
          subst hv9
          clear hn9 r9 s9 b9 KO x0 x1 x2 x3 x4 x5 R8 ee
          unfold pgV
          go_wp2_with (refine wpList_store_row rfl 64 (.tmp 6) (.tmp 40) rfl r (pgC p (.slice a9 n9 c9)) rfl rfl 64 zeroP R9.out.rb info_page rfl (pgC_one' _ _ _ _) ?_)
          exact bodyPost_ret (v := .tuple #[.agg (pgC p (.slice a9 n9 c9)), .int .i64 (e0 : Int)]) (results_page Try.results29 _ _ r (pgC p (.slice a9 n9 c9)) (e0 : Int) rfl rfl (setRow_heap _ _ _ _ _ _ R9.out.rb) info_page) rfl (OK.out p e0 GO.out _ _ (rows_setRow Z9.out R9.out.rb _) (str_setRow S9.out R9.out.rb _) (below_setRow R9.out.below HR.out _))
      · have xe : ((X.page : Int) != (p.id : Int)) = true := by rw [bne_iff_ne]; omega
        have GO := Lib.hid (SKP.out hpg)
        go_wp2_with fail
        clear x0 x1 x2 x3 x4 x5 y0 y1 y2 y3 y4 y5 y6 y7 y8 xe SKP
        go_roundw
        case rel => exact ⟨k + 1, q0, _, by go_num, by omega, RE.out.trans GO.out, R5.out⟩
        case measure => simp [intOf]; omega
    · have GO := Lib.hid (show redo p lsn l = (q0, 0) by rw [RE.out, List.drop_of_length_le (by have := HM.out; omega), redoL])
      clear RE
      obtain ⟨x0, x1, x2, x3, x4, x5⟩ := six_of R.out.qb
      have KO := Lib.hid (own_any (p := q0) R.out.rows R.out.us)
      unfold pgV at KO
      go_wp2_with fail
      refine KO.out.mono ?_
      rintro e w9 ⟨v9, rfl, r9, s9, b9⟩
      have R9 := Lib.hid (R.out.later b9)
      have Z9 := Lib.hid r9
      have S9 := Lib.hid s9
      obtain ⟨a9, c9, hv9, _⟩ := id r9
      obtain ⟨n9, hn9⟩ : ∃ n9, n9 = q0.rows.length := ⟨_, rfl⟩
      rw [← hn9] at hv9
      subst hv9
      clear hn9 r9 s9 b9 KO x0 x1 x2 x3 x4 x5 R
      unfold pgV
      go_wp2_with (refine wpList_store_row rfl 64 (.tmp 6) (.tmp 44) rfl r (pgC q0 (.slice a9 n9 c9)) rfl rfl 64 zeroP R9.out.rb info_page rfl (pgC_one' _ _ _ _) ?_)
      exact bodyPost_ret (v := .tuple #[.agg (pgC q0 (.slice a9 n9 c9)), .int .i64 0]) (results_page Try.results29 _ _ r (pgC q0 (.slice a9 n9 c9)) 0 rfl rfl (setRow_heap _ _ _ _ _ _ R9.out.rb) info_page) rfl (OK.out q0 0 GO.out _ _ (rows_setRow Z9.out R9.out.rb _) (str_setRow S9.out R9.out.rb _) (below_setRow R9.out.below HR.out _))

end Go.Proofs.Ytfcibccipkokoaa.Op

namespace Go.Proofs.Ytfcibccipkokoaa.Op
open Go.RowKit
open Go.Proofs.Ytfcibccipkokoaa.Page (Pg pgV used)
open Go.Proofs.Ytfcibccipkokoaa.By

theorem cmay_any {w : World} {o : O} {u : Value} (h : In w o u) : Calls Try.prog 30 #[oV o u] w fun e w' => e = .returned (.bool (decide (May o))) ∧ Below w.heap.size w w' := cmay_all h
theorem cencode_any {w : World} {l : List O} {v : Value} (h : Ops w v l) : Calls Try.prog 10 #[v] w fun e w' => e = .returned (.tuple #[.string (encS l), .int .i64 (encE l : Int)]) ∧ Below w.heap.size w w' := cencode_all h
theorem cdecode_any (s : ByteArray) (w : World) (hs : s.size ≤ 100000) : Calls Try.prog 11 #[.string s] w (DecP w s) := cdecode_all s w hs
theorem capply_any {w : World} {p : Pg} {v : Value} {o : O} {u : Value} {lsn : Nat} (hp : Page.Rows w v p.rows) (hc : Page.CapOk v) (hu : used p.rows ≤ 1000000) (ho : In w o u) (hl : lsn < 18446744073709551616) :
    Calls Try.prog 28 #[pgV p v, oV o u, .int .u64 (lsn : Int)] w (PgOut w v (appP p o lsn) (appE p o lsn)) := capply_all hp hc hu ho hl
theorem credo_any {w : World} {p : Pg} {v : Value} {l : List O} {vl : Value} {lsn : Nat} (hp : Page.Rows w v p.rows) (hc : Page.CapOk v) (hu : used p.rows ≤ 1000000) (hl : Ops w vl l) (hn : lsn < 18446744073709551616) (hlen : l.length ≤ 1000000) :
    Calls Try.prog 29 #[pgV p v, .int .u64 (lsn : Int), vl] w (PgOut w v (redo p lsn l).1 (redo p lsn l).2) := credo_all hp hc hu hl hn hlen
/-- what came back has room for its rows -/
theorem PgOut.capOf {w : World} {v vin : Value} (h : Str w v ∨ v = vin) (hc : Page.CapOk vin) : Page.CapOk v := h.elim (fun s => s.cap) (fun e => e ▸ hc)

end Go.Proofs.Ytfcibccipkokoaa.Op

namespace Go.Proofs.Ytfcibccipkokoaa.Op
open Go.RowKit
open Go.Proofs.Ytfcibccipkokoaa.Seq (strS u32S Is Own all)
open Go.Proofs.Ytfcibccipkokoaa.Page (Pg pgV used)
open Go.Proofs.Ytfcibccipkokoaa.By
attribute [local go_sem ↓] Go.wp_at_zero Go.wp_at_succ

/-- ops that were just made -/
theorem ops_made {w : World} (q : List (O × Sl)) (hq : q.length ≤ 1000000) (hi : ∀ x ∈ q, In w x.1 x.2.1) : Ops (w.alloc (.cells (all opS q).toArray opS.e)) (.slice (some ⟨w.heap.size, 0, none⟩) q.length q.length) (q.map (·.1)) :=
  ⟨q, rfl, (Own.made opS w q (Nat.le_refl _) hq).is, fun x hx => (hi x hx).later (below_new w _)⟩
def nilS : Sl := ⟨nilV, rfl⟩
/-- an op without rows -/
theorem in_nil {w : World} {o : O} (h : o.wf) (ha : 0 ≤ o.at' ∧ o.at' ≤ 65536) (hf : 0 ≤ o.off ∧ o.off ≤ 65536) (ht : o.text.size ≤ 65536) (hr : o.rows = []) : In w o nilS.1 := in_plain h ha hf ht hr

def oPx : O := ⟨2, 1, 0, 0, ⟨#[120]⟩, [], 0, 0, 0⟩
def oF : O := ⟨1, 1, 0, 0, ⟨#[]⟩, [], 1, 0, 7⟩
def oP2 : O := ⟨2, 2, 0, 0, ⟨#[]⟩, [], 0, 0, 0⟩
def oPy : O := ⟨8, 1, 0, 0, ⟨#[121]⟩, [], 0, 0, 0⟩
def oD : O := ⟨4, 1, 0, 0, ⟨#[]⟩, [], 0, 0, 0⟩
def oD1 : O := ⟨4, 1, 1, 0, ⟨#[]⟩, [], 0, 0, 0⟩
def oDn : O := ⟨4, 1, 0, 0, ⟨#[]⟩, [], 0, 0, 1⟩
def bX : ByteArray := ⟨#[1, 2, 0, 0, 0, 1, 0, 0, 0, 1, 120]⟩
def p1 : Pg := ⟨1, 0, 1, 5, 7, []⟩
def p2 : Pg := ⟨1, 0, 1, 6, 7, [⟨#[121]⟩]⟩
theorem al_enc : encS [oPx] = bX ∧ encE [oPx] = 0 := by decide +kernel
theorem al_dec : decL bX = some [oPx] := by
  have h := dec_enc (l := [oPx]) al_enc.2 (fun o ho => by rw [List.mem_singleton.1 ho]; exact ⟨by decide, by decide, by decide, by decide, by decide⟩)
  rw [al_enc.1] at h
  exact h
theorem al_app : appE Pg.zero oF 5 = 0 ∧ appP Pg.zero oF 5 = p1 := ⟨by kernel_rfl, by kernel_rfl⟩
theorem al_redo : redo p1 6 [oPx, oP2, oPy] = (p2, 0) := by kernel_rfl
theorem al_redo2 : redo p2 6 [oD] = (p2, 0) := by kernel_rfl
theorem al_none : appE p2 oD1 7 = 3 := by decide +kernel
theorem al_may : ¬ May oDn := by decide +kernel

theorem lits (o : O) (ho : o.rows = []) (w : World) (h : o.wf) (ha : 0 ≤ o.at' ∧ o.at' ≤ 65536) (hf : 0 ≤ o.off ∧ o.off ≤ 65536) (ht : o.text.size ≤ 65536) : ∀ x ∈ [((o, nilS) : O × Sl)], In w x.1 x.2.1 := fun x hx => by
  rw [List.mem_singleton.1 hx]
  exact in_nil h ha hf ht ho
def lit1 (k p : Nat) (a : Int) (t : ByteArray) : O := ⟨k, p, a, 0, t, [], 0, 0, 0⟩
theorem in_lit {w : World} (k p : Nat) (a : Int) (t : ByteArray) (pk lv nx : Nat) (hk : k < 256) (hp : p < 4294967296) (ha : 0 ≤ a ∧ a ≤ 65536) (ht : t.size ≤ 65536) (h1 : pk < 256) (h2 : lv < 256) (h3 : nx < 4294967296) : In w ⟨k, p, a, 0, t, [], pk, lv, nx⟩ nilS.1 :=
  in_nil ⟨hk, hp, h1, h2, h3⟩ ha (by show 0 ≤ (0 : Int) ∧ (0 : Int) ≤ 65536; decide) ht rfl

theorem box_cell {w : World} {g : Nat} {cs : Array Value} {T : TypeId} (h : w.heap[g]? = some (.cells cs T (0, 0))) (j : Nat) {v : Value} (e : cs[j]? = some v) : w.cell? ⟨g, j, none⟩ = some v := by
  rw [cell_of_row _ _ _ _ _ _ h]
  exact e
theorem box_later {w w' : World} {g : Nat} {o : Obj} (h : w.heap[g]? = some o) (t : Below w.heap.size w w') : w'.heap[g]? = some o := (t.block g (Array.getElem?_eq_some_iff.1 h).1).trans h

set_option maxRecDepth 100000 in
set_option maxHeartbeats 4000000 in
theorem alive_any (w : World) : Calls Try.prog 9 #[] w fun e w' => e = .returned (.bool true) ∧ Below w.heap.size w w' := by
  have K1 := Lib.hid (fun W : World => (show Calls Try.prog 10 #[.slice (some ⟨W.heap.size, 0, none⟩) 1 1] (W.alloc (.cells #[.int .u8 2, .int .u32 1, .int .i64 0, .int .i64 0, .string ⟨#[120]⟩, .slice none 0 0, .int .u8 0, .int .u8 0, .int .u32 0] 36)) fun e w' => e = .returned (.tuple #[.string ⟨#[1, 2, 0, 0, 0, 1, 0, 0, 0, 1, 120]⟩, .int .i64 0]) ∧ Below (W.alloc (.cells #[.int .u8 2, .int .u32 1, .int .i64 0, .int .i64 0, .string ⟨#[120]⟩, .slice none 0 0, .int .u8 0, .int .u8 0, .int .u32 0] 36)).heap.size (W.alloc (.cells #[.int .u8 2, .int .u32 1, .int .i64 0, .int .i64 0, .string ⟨#[120]⟩, .slice none 0 0, .int .u8 0, .int .u8 0, .int .u32 0] 36)) w' from by
    have h := cencode_any (ops_made (w := W) [((oPx, nilS) : O × Sl)] (by decide) (lits oPx rfl W ⟨by decide, by decide, by decide, by decide, by decide⟩ (by decide) (by decide) (by decide)))
    rw [show [((oPx, nilS) : O × Sl)].map (·.1) = [oPx] from rfl, al_enc.1, al_enc.2] at h
    exact h))
  have K2 := Lib.hid (fun W : World => (show Calls Try.prog 11 #[.string ⟨#[1, 2, 0, 0, 0, 1, 0, 0, 0, 1, 120]⟩] W fun e w' => ∃ ad c, e = .returned (.tuple #[.slice ad 1 c, .int .i64 0]) ∧ Below W.heap.size W w' from (cdecode_any bX W (by decide)).mono (by
    rintro e w' ⟨v, rfl, h1, h2⟩
    have e1 : decR bX = [oPx] := by unfold decR; rw [al_dec]; rfl
    have e2 : decE bX = 0 := by unfold decE; rw [al_dec]; rfl
    rw [e1] at h1
    rw [e2]
    obtain ⟨ad, c, rfl⟩ := h1.shape
    exact ⟨ad, c, rfl, h2⟩)))
  have K3 := Lib.hid (fun W : World => (show Calls Try.prog 28 #[.agg #[.int .u8 0, .int .u8 0, .int .u32 0, .int .u64 0, .int .u32 0, .slice none 0 0], .agg #[.int .u8 1, .int .u32 1, .int .i64 0, .int .i64 0, .string ⟨#[]⟩, .slice none 0 0, .int .u8 1, .int .u8 0, .int .u32 7], .int .u64 5] W fun e w' => ∃ ad c, e = .returned (.tuple #[.agg #[.int .u8 1, .int .u8 0, .int .u32 1, .int .u64 5, .int .u32 7, .slice ad 0 c], .int .i64 0]) ∧ Page.CapOk (.slice ad 0 c) ∧ Below W.heap.size W w' from (capply_any (p := Pg.zero) (v := nilV) (o := oF) (u := nilV) (lsn := 5) (w := W) ⟨none, 0, rfl, .inl rfl⟩ Page.cap_none (by decide) (in_lit 1 1 0 ⟨#[]⟩ 1 0 7 (by decide) (by decide) (by decide) (by decide) (by decide) (by decide) (by decide)) (by decide)).mono (by
    rintro e w' ⟨v, rfl, h1, h3, h2⟩
    rw [al_app.1, al_app.2] at *
    obtain ⟨ad, c, rfl, _⟩ := h1
    exact ⟨ad, c, rfl, PgOut.capOf h3 Page.cap_none, h2⟩)))
  have K4 := Lib.hid (fun (W : World) (ad : Option Addr) (c : Nat) (hc : Page.CapOk (.slice ad 0 c)) => (show Calls Try.prog 29 #[.agg #[.int .u8 1, .int .u8 0, .int .u32 1, .int .u64 5, .int .u32 7, .slice ad 0 c], .int .u64 6, .slice (some ⟨W.heap.size, 0, none⟩) 3 3] (W.alloc (.cells #[.int .u8 2, .int .u32 1, .int .i64 0, .int .i64 0, .string ⟨#[120]⟩, .slice none 0 0, .int .u8 0, .int .u8 0, .int .u32 0, .int .u8 2, .int .u32 2, .int .i64 0, .int .i64 0, .string ⟨#[]⟩, .slice none 0 0, .int .u8 0, .int .u8 0, .int .u32 0, .int .u8 8, .int .u32 1, .int .i64 0, .int .i64 0, .string ⟨#[121]⟩, .slice none 0 0, .int .u8 0, .int .u8 0, .int .u32 0] 36)) fun e w' => ∃ ad c, e = .returned (.tuple #[.agg #[.int .u8 1, .int .u8 0, .int .u32 1, .int .u64 6, .int .u32 7, .slice ad 1 c], .int .i64 0]) ∧ Page.Rows w' (.slice ad 1 c) p2.rows ∧ Page.CapOk (.slice ad 1 c) ∧ Below (W.alloc (.cells #[.int .u8 2, .int .u32 1, .int .i64 0, .int .i64 0, .string ⟨#[120]⟩, .slice none 0 0, .int .u8 0, .int .u8 0, .int .u32 0, .int .u8 2, .int .u32 2, .int .i64 0, .int .i64 0, .string ⟨#[]⟩, .slice none 0 0, .int .u8 0, .int .u8 0, .int .u32 0, .int .u8 8, .int .u32 1, .int .i64 0, .int .i64 0, .string ⟨#[121]⟩, .slice none 0 0, .int .u8 0, .int .u8 0, .int .u32 0] 36)).heap.size (W.alloc (.cells #[.int .u8 2, .int .u32 1, .int .i64 0, .int .i64 0, .string ⟨#[120]⟩, .slice none 0 0, .int .u8 0, .int .u8 0, .int .u32 0, .int .u8 2, .int .u32 2, .int .i64 0, .int .i64 0, .string ⟨#[]⟩, .slice none 0 0, .int .u8 0, .int .u8 0, .int .u32 0, .int .u8 8, .int .u32 1, .int .i64 0, .int .i64 0, .string ⟨#[121]⟩, .slice none 0 0, .int .u8 0, .int .u8 0, .int .u32 0] 36)) w' from by
    have h := credo_any (p := p1) (v := .slice ad 0 c) (lsn := 6) ⟨ad, c, rfl, .inl rfl⟩ hc (by decide) (ops_made (w := W) [((oPx, nilS) : O × Sl), (oP2, nilS), (oPy, nilS)] (by decide) (fun x hx => by
      simp only [List.mem_cons, List.not_mem_nil, or_false] at hx
      rcases hx with rfl | rfl | rfl <;> exact in_nil ⟨by decide, by decide, by decide, by decide, by decide⟩ (by decide) (by decide) (by decide) rfl)) (by decide) (by decide)
    rw [show [((oPx, nilS) : O × Sl), (oP2, nilS), (oPy, nilS)].map (·.1) = [oPx, oP2, oPy] from rfl, al_redo] at h
    refine h.mono ?_
    rintro e w' ⟨v, rfl, h1, h4, h2⟩
    have hc2 := PgOut.capOf h4 hc
    obtain ⟨ad2, c2, rfl, h3⟩ := id h1
    exact ⟨ad2, c2, rfl, h1, hc2, h2⟩))
  have K5 := Lib.hid (fun (W : World) (ad : Option Addr) (c : Nat) (hr : Page.Rows W (.slice ad 1 c) p2.rows) (hc : Page.CapOk (.slice ad 1 c)) => (show Calls Try.prog 29 #[.agg #[.int .u8 1, .int .u8 0, .int .u32 1, .int .u64 6, .int .u32 7, .slice ad 1 c], .int .u64 6, .slice (some ⟨W.heap.size, 0, none⟩) 1 1] (W.alloc (.cells #[.int .u8 4, .int .u32 1, .int .i64 0, .int .i64 0, .string ⟨#[]⟩, .slice none 0 0, .int .u8 0, .int .u8 0, .int .u32 0] 36)) fun e w' => ∃ ad c, e = .returned (.tuple #[.agg #[.int .u8 1, .int .u8 0, .int .u32 1, .int .u64 6, .int .u32 7, .slice ad 1 c], .int .i64 0]) ∧ Below (W.alloc (.cells #[.int .u8 4, .int .u32 1, .int .i64 0, .int .i64 0, .string ⟨#[]⟩, .slice none 0 0, .int .u8 0, .int .u8 0, .int .u32 0] 36)).heap.size (W.alloc (.cells #[.int .u8 4, .int .u32 1, .int .i64 0, .int .i64 0, .string ⟨#[]⟩, .slice none 0 0, .int .u8 0, .int .u8 0, .int .u32 0] 36)) w' from by
    have h := credo_any (p := p2) (v := .slice ad 1 c) (lsn := 6) (hr.later (below_new W _)) hc (by decide) (ops_made (w := W) [((oD, nilS) : O × Sl)] (by decide) (lits oD rfl W ⟨by decide, by decide, by decide, by decide, by decide⟩ (by decide) (by decide) (by decide))) (by decide) (by decide)
    rw [show [((oD, nilS) : O × Sl)].map (·.1) = [oD] from rfl, al_redo2] at h
    refine h.mono ?_
    rintro e w' ⟨v, rfl, h1, _, h2⟩
    obtain ⟨ad2, c2, rfl, _⟩ := h1
    exact ⟨ad2, c2, rfl, h2⟩))
  have K6 := Lib.hid (fun (W : World) (ad : Option Addr) (c : Nat) (hr : Page.Rows W (.slice ad 1 c) p2.rows) (hc : Page.CapOk (.slice ad 1 c)) => (show Calls Try.prog 28 #[.agg #[.int .u8 1, .int .u8 0, .int .u32 1, .int .u64 6, .int .u32 7, .slice ad 1 c], .agg #[.int .u8 4, .int .u32 1, .int .i64 1, .int .i64 0, .string ⟨#[]⟩, .slice none 0 0, .int .u8 0, .int .u8 0, .int .u32 0], .int .u64 7] W fun e w' => ∃ p ad c, e = .returned (.tuple #[pgV p (.slice ad 0 c), .int .i64 3]) ∧ Below W.heap.size W w' from (capply_any (p := p2) (v := .slice ad 1 c) (o := oD1) (u := nilV) (lsn := 7) (w := W) hr hc (by decide) (in_lit 4 1 1 ⟨#[]⟩ 0 0 0 (by decide) (by decide) (by decide) (by decide) (by decide) (by decide) (by decide)) (by decide)).mono (by
    rintro e w' ⟨v, rfl, h1, _, h2⟩
    have e2 : appP p2 oD1 7 = Pg.zero := by unfold appP; rw [if_neg (by rw [al_none]; decide)]
    rw [al_none]
    rw [e2] at h1
    obtain ⟨ad, c, rfl, _⟩ := h1
    exact ⟨_, ad, c, rfl, h2⟩)))
  have K7 := Lib.hid (fun W : World => (show Calls Try.prog 30 #[.agg #[.int .u8 4, .int .u32 1, .int .i64 0, .int .i64 0, .string ⟨#[]⟩, .slice none 0 0, .int .u8 0, .int .u8 0, .int .u32 1]] W fun e w' => e = .returned (.bool false) ∧ Below W.heap.size W w' from by
    have h := cmay_any (w := W) (o := oDn) (u := nilV) (in_lit 4 1 0 ⟨#[]⟩ 0 0 1 (by decide) (by decide) (by decide) (by decide) (by decide) (by decide) (by decide))
    rw [decide_eq_false al_may] at h
    exact h))
  go_enter Try.func9, Try.ntmps9
  go_wp2_with fail
  refine (K1.out _).mono ?_
  rintro e w1 ⟨rfl, b1⟩
  have B1 := Lib.hid ((below_new w _).trans (b1.mono (below_new w _).size))
  clear b1 K1
  go_wp2_with fail
  refine (K2.out _).mono ?_
  rintro e w2 ⟨ad2, c2, rfl, b2⟩
  have B2 := Lib.hid (B1.out.trans (b2.mono B1.out.size))
  clear b2 K2 B1
  go_wp2_with fail
  refine (K3.out _).mono ?_
  rintro e w3 ⟨ad3, c3, rfl, k3, b3⟩
  have CK3 := Lib.hid k3
  clear k3
  have B3 := Lib.hid (B2.out.trans (b3.mono B2.out.size))
  clear b3 K3 B2
  have X5 := Lib.hid (heap_alloc_new w3 (.cells #[.int .u8 1, .int .u8 0, .int .u32 1, .int .u64 5, .int .u32 7, .slice ad3 0 c3] 64))
  have N5 := Lib.hid (below_new w3 (.cells #[.int .u8 1, .int .u8 0, .int .u32 1, .int .u64 5, .int .u32 7, .slice ad3 0 c3] 64))
  have C5 := Lib.hid (B3.out.trans (N5.out.mono B3.out.size))
  have z5 := Lib.hid (show w3.heap.size + 1 = (w3.alloc (.cells #[.int .u8 1, .int .u8 0, .int .u32 1, .int .u64 5, .int .u32 7, .slice ad3 0 c3] 64)).heap.size from by simp)
  go_wp2_with fail
  rw [z5.out]
  generalize w3.heap.size = g5 at *
  generalize w3.alloc _ = W3 at *
  refine (K4.out W3 ad3 c3 CK3.out).mono ?_
  rintro e w4 ⟨ad4, c4, rfl, r4, k4, b4⟩
  have CK4 := Lib.hid k4
  clear k4
  have M3 := below_new W3 (.cells #[.int .u8 2, .int .u32 1, .int .i64 0, .int .i64 0, .string ⟨#[120]⟩, .slice none 0 0, .int .u8 0, .int .u8 0, .int .u32 0, .int .u8 2, .int .u32 2, .int .i64 0, .int .i64 0, .string ⟨#[]⟩, .slice none 0 0, .int .u8 0, .int .u8 0, .int .u32 0, .int .u8 8, .int .u32 1, .int .i64 0, .int .i64 0, .string ⟨#[121]⟩, .slice none 0 0, .int .u8 0, .int .u8 0, .int .u32 0] 36)
  have b4' := M3.trans (b4.mono M3.size)
  obtain ⟨ad4', c4', e4, hr4⟩ := id r4
  simp only [Value.slice.injEq] at e4
  obtain ⟨rfl, e5, rfl⟩ := e4
  clear e5
  have B4 := Lib.hid (C5.out.trans (b4'.mono C5.out.size))
  have X5b := Lib.hid (box_later X5.out b4')
  have R4 := Lib.hid r4
  have y4 : ∃ b o, ad4 = some ⟨b, o, none⟩ ∧ w4.cell? ⟨b, o, none⟩ = some (.string ⟨#[121]⟩) := by
    rcases hr4 with h | ⟨b, o, h1, _, h3⟩
    · cases h
    · exact ⟨b, o, h1, h3 0 (by decide)⟩
  obtain ⟨yb, yo, rfl, hy⟩ := y4
  have HY := Lib.hid hy
  clear hy hr4 r4 b4 b4' M3 X5 N5 C5 B3 z5 K4
  have X7 := Lib.hid (heap_alloc_new w4 (.cells #[.int .u8 1, .int .u8 0, .int .u32 1, .int .u64 6, .int .u32 7, .slice (some ⟨yb, yo, none⟩) 1 c4] 64))
  have N7 := Lib.hid (below_new w4 (.cells #[.int .u8 1, .int .u8 0, .int .u32 1, .int .u64 6, .int .u32 7, .slice (some ⟨yb, yo, none⟩) 1 c4] 64))
  have C7 := Lib.hid (B4.out.trans (N7.out.mono B4.out.size))
  have z7 := Lib.hid (show w4.heap.size + 1 = (w4.alloc (.cells #[.int .u8 1, .int .u8 0, .int .u32 1, .int .u64 6, .int .u32 7, .slice (some ⟨yb, yo, none⟩) 1 c4] 64)).heap.size from by simp)
  have R7 := Lib.hid (R4.out.later N7.out)
  have HY7 := Lib.hid ((N7.out.cell (p := ⟨yb, yo, none⟩) (World.block_lt_of_cell? _ _ HY.out)).trans HY.out)
  have X5c := Lib.hid (box_later X5b.out N7.out)
  go_wp2_with fail
  rw [z7.out]
  generalize w4.heap.size = g7 at *
  generalize w4.alloc _ = W4 at *
  refine (K5.out W4 _ c4 R7.out CK4.out).mono ?_
  rintro e w5 ⟨ad5, c5, rfl, b5⟩
  have M5 := below_new W4 (.cells #[.int .u8 4, .int .u32 1, .int .i64 0, .int .i64 0, .string ⟨#[]⟩, .slice none 0 0, .int .u8 0, .int .u8 0, .int .u32 0] 36)
  have b5' := M5.trans (b5.mono M5.size)
  have B5 := Lib.hid (C7.out.trans (b5'.mono C7.out.size))
  have X5d := Lib.hid (box_later X5c.out b5')
  have X7d := Lib.hid (box_later X7.out b5')
  have R5 := Lib.hid (R7.out.later b5')
  have HY5 := Lib.hid ((b5'.cell (p := ⟨yb, yo, none⟩) (World.block_lt_of_cell? _ _ HY7.out)).trans HY7.out)
  clear b5 b5' M5 X5b X5c X7 N7 C7 R7 HY HY7 R4 B4 z7 K5
  have X9 := Lib.hid (heap_alloc_new w5 (.cells #[.int .u8 1, .int .u8 0, .int .u32 1, .int .u64 6, .int .u32 7, .slice ad5 1 c5] 64))
  have N9 := Lib.hid (below_new w5 (.cells #[.int .u8 1, .int .u8 0, .int .u32 1, .int .u64 6, .int .u32 7, .slice ad5 1 c5] 64))
  have C9 := Lib.hid (B5.out.trans (N9.out.mono B5.out.size))
  have z9 := Lib.hid (show w5.heap.size + 1 = (w5.alloc (.cells #[.int .u8 1, .int .u8 0, .int .u32 1, .int .u64 6, .int .u32 7, .slice ad5 1 c5] 64)).heap.size from by simp)
  have R9 := Lib.hid (R5.out.later N9.out)
  have HY9 := Lib.hid ((N9.out.cell (p := ⟨yb, yo, none⟩) (World.block_lt_of_cell? _ _ HY5.out)).trans HY5.out)
  have X5e := Lib.hid (box_later X5d.out N9.out)
  have X7e := Lib.hid (box_later X7d.out N9.out)
  have x7e := X7e.out
  have k0 := box_cell x7e 0 rfl
  have k1 := box_cell x7e 1 rfl
  have k2 := box_cell x7e 2 rfl
  have k3 := box_cell x7e 3 rfl
  have k4 := box_cell x7e 4 rfl
  have k5 := box_cell x7e 5 rfl
  clear x7e
  go_wp2_with fail
  clear k0 k1 k2 k3 k4 k5
  generalize w5.heap.size = g9 at *
  generalize w5.alloc _ = W5 at *
  refine (K6.out W5 _ c4 R9.out CK4.out).mono ?_
  rintro e w6 ⟨pz, ad6, c6, rfl, b6⟩
  unfold pgV
  have N6 := Lib.hid (fun o => b6.trans ((below_new w6 o).mono b6.size))
  have B6 := Lib.hid (fun o => C9.out.trans ((N6.out o).mono C9.out.size))
  have Y5 := Lib.hid (fun o => box_later X5e.out (N6.out o))
  have Y7 := Lib.hid (fun o => box_later X7e.out (N6.out o))
  have Y9 := Lib.hid (fun o => box_later X9.out (N6.out o))
  have HZ := Lib.hid (fun o => ((N6.out o).cell (p := ⟨yb, yo, none⟩) (World.block_lt_of_cell? _ _ HY9.out)).trans HY9.out)
  have a0 := fun o => box_cell (Y5.out o) 0 rfl
  have a3 := fun o => box_cell (Y5.out o) 3 rfl
  have a4 := fun o => box_cell (Y5.out o) 4 rfl
  have d3 := fun o => box_cell (Y7.out o) 3 rfl
  have d5 := fun o => box_cell (Y7.out o) 5 rfl
  have h5 := fun o => box_cell (Y9.out o) 5 rfl
  have hz := HZ.out
  clear b6 N6 X5e X7e X9 HY9 R9 C9 K6 X5d X7d HY5 R5 B5 z9 N9
  go_wp2_with (go_at_call 30; (with_reducible refine (K7.out _).mono ?_); rintro e w7 ⟨rfl, b7⟩)
  go_ret
  exact ⟨rfl, (B6.out _).trans (b7.mono (B6.out _).size)⟩

end Go.Proofs.Ytfcibccipkokoaa.Op
