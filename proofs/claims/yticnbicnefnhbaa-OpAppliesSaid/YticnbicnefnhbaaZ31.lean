/-
  Walks: the document's Redo, over its Apply.
-/
import Derived.Test.YticnbicnefnhbaaZ19
import Derived.Test.YticnbicnefnhbaaZ30
import Derived.Test.YticnbicnefnhbaaZ18
import Derived.Test.YticnbicnefnhbaaZ20
namespace Go.Proofs.Yticnbicnefnhbaa.Op
open Go.RowKit
open Go.Proofs.Yticnbicnefnhbaa.Page (Pg pgV pgC used zeroP info_page results_page)
open Go.Proofs.Yticnbicnefnhbaa.By
attribute [local go_sem ↓] Go.wp_at_zero Go.wp_at_succ

theorem Str.beside {w : World} {v : Value} (h : Str w v) {x : Nat} {old : Array Value} (hx : w.heap[x]? = some (.cells old 45 (0, 0))) (cs : Array Value) : Str (w.setRow x cs) v := by
  refine ⟨fun b e => ?_, h.cap⟩
  obtain ⟨c2, f, h1⟩ := h.own b e
  refine ⟨c2, f, (setRow_oth _ _ _ _ ?_).trans h1⟩
  rintro rfl
  rw [hx] at h1
  simp only [Option.some.injEq, Obj.cells.injEq] at h1
  exact absurd h1.2.1 (by decide)
theorem app_gd {p : Pg} {o : O} {lsn : Nat} (hp : Gd p) (ho : o.wf) (hn : lsn < 18446744073709551616) (h : appE p o lsn = 0) : Gd (appP p o lsn) := by
  obtain ⟨h1, h2⟩ := app_done h
  rw [h2]
  exact ⟨done_wf hp.wf ho hn, by have := (may_rows h1).2.2.2.2; omega⟩
/-- what the loop keeps: p's box, the result's, q's -/
structure RL (w wr : World) (v0 : Value) (p : Pg) (gq : Nat) (q : Pg) (v : Value) : Prop where
  a : PBx wr w.heap.size p v0
  r : wr.heap[w.heap.size + 1]? = some (.cells zeroP 45 (0, 0))
  b : PBx wr gq q v
  far : w.heap.size + 1 < gq
  rows : Rin w wr v q.rows
  or : Str wr v ∨ v = v0
  below : Below w.heap.size w wr

theorem RL.later {w wr wx : World} {v0 : Value} {p : Pg} {gq : Nat} {q : Pg} {v : Value} (h : RL w wr v0 p gq q v) (t : Below wr.heap.size wr wx) : RL w wx v0 p gq q v :=
  ⟨h.a.later t, (t.block _ (Array.getElem?_eq_some_iff.1 h.r).1).trans h.r, h.b.later t, h.far, h.rows.later t, h.or.imp (fun s => s.later t) id, h.below.trans (t.mono h.below.size)⟩
theorem RL.put {w wr : World} {v0 : Value} {p : Pg} {gq : Nat} {q q2 : Pg} {v v2 : Value} (h : RL w wr v0 p gq q v) (r : Rin w wr v2 q2.rows) (o : Str wr v2 ∨ v2 = v) : RL w (wr.setRow gq (pgC q2 v2)) v0 p gq q2 v2 := by
  have hf := h.far
  refine ⟨⟨(setRow_oth _ _ _ _ (by omega)).trans h.a.box⟩, (setRow_oth _ _ _ _ (by omega)).trans h.r, ⟨setRow_heap _ _ _ _ _ _ h.b.box⟩, h.far, r.beside h.b.box (by omega) _, ?_, below_setRow h.below (by omega) _⟩
  rcases o with o | rfl
  · exact .inl (o.beside h.b.box _)
  · exact h.or.imp (fun s => s.beside h.b.box _) id
theorem dM (w : World) (n : Nat) : Below w.heap.size w (w.drewN n) := ⟨rfl, rfl, rfl, Nat.le_refl _, fun _ _ => rfl⟩
theorem redoL_skip {p q : Pg} {lsn k : Nat} {l : List O} (hk : k < l.length) (h : l[k].page ≠ p.id) : redoL p lsn (l.drop k) q = redoL p lsn (l.drop (k + 1)) q := by
  rw [List.drop_eq_getElem_cons hk, redoL, if_neg h]
theorem redoL_done {p q : Pg} {lsn k : Nat} {l : List O} (hk : k < l.length) (h : l[k].page = p.id) (he : appE q l[k] lsn = 0) : redoL p lsn (l.drop k) q = redoL p lsn (l.drop (k + 1)) (appP q l[k] lsn) := by
  rw [List.drop_eq_getElem_cons hk, redoL, if_pos h, if_pos he]
theorem redoL_err {p q : Pg} {lsn k : Nat} {l : List O} (hk : k < l.length) (h : l[k].page = p.id) (he : appE q l[k] lsn ≠ 0) : redoL p lsn (l.drop k) q = (p, appE q l[k] lsn) := by
  rw [List.drop_eq_getElem_cons hk, redoL, if_pos h, if_neg he]

set_option maxRecDepth 100000 in
set_option maxHeartbeats 4000000 in
theorem rredo_any {w : World} {p : Pg} {v : Value} {l : List O} {vl : Value} {lsn : Nat} (hp : Page.Rows w v p.rows) (hc : Page.CapOk v) (hw : p.wf) (hu : used p.rows ≤ 1000000) (hl : Ops w vl l) (hn : lsn < 18446744073709551616) (hlen : l.length ≤ 1000000) :
    Calls Try.prog 24 #[pgV p v, .int .u64 (lsn : Int), vl] w (PgOut w v (redo p lsn l).1 (redo p lsn l).2) := by
  have GD := Lib.hid (show Gd p from ⟨hw, hu⟩)
  have HP := Lib.hid hp
  have HC := Lib.hid hc
  obtain ⟨ad, c, rfl, _⟩ := id hp
  obtain ⟨adl, cl, rfl⟩ := hl.shape
  have HL := Lib.hid hl
  have HN := Lib.hid hn
  obtain ⟨n, hnl⟩ : ∃ n, n = l.length := ⟨_, rfl⟩
  have N := Lib.hid hnl
  rw [← hnl] at HL hlen ⊢
  clear hp hc hl hw hu hn hnl
  unfold pgV
  go_enter Try.func24, Try.ntmps24
  go_upto_region 1 with fail
  have XA := Lib.hid ((PBx.new w p (.slice ad p.rows.length c)).later (below_new (w.alloc (.cells (pgC p (.slice ad p.rows.length c)) 45)) (.cells zeroP 45)))
  have XR := Lib.hid (show ((w.alloc (.cells (pgC p (.slice ad p.rows.length c)) 45)).alloc (.cells zeroP 45)).heap[w.heap.size + 1]? = some (.cells zeroP 45 (0, 0)) from by
    have := heap_alloc_new (w.alloc (.cells (pgC p (.slice ad p.rows.length c)) 45)) (.cells zeroP 45)
    rw [World.size_alloc] at this
    exact this)
  have B2 := Lib.hid ((below_new w (.cells (pgC p (.slice ad p.rows.length c)) 45)).trans ((below_new (w.alloc (.cells (pgC p (.slice ad p.rows.length c)) 45)) (.cells zeroP 45)).mono (below_new w _).size))
  unfold pgC at XA XR B2
  unfold zeroP at XA XR B2
  generalize World.alloc (World.alloc w _) _ = w2 at *
  have PN := Lib.hid (fun (W : World) (h : PBx W w.heap.size p (.slice ad p.rows.length c)) => h.six)
  obtain ⟨x0, x1, x2, x3, x4, x5⟩ := XA.out.six
  have FIN := Lib.hid (fun (W : World) (q : Pg) (v : Value) (e : Nat) (he : redo p lsn l = (q, e)) (hr : W.heap[w.heap.size + 1]? = some (.cells zeroP 45 (0, 0))) (R : Rin w W v q.rows) (o : Str W v ∨ v = .slice ad p.rows.length c) (B : Below w.heap.size w W) => (show PgOut w (.slice ad p.rows.length c) (redo p lsn l).1 (redo p lsn l).2 (.returned (.tuple #[pgV q v, .int .i64 (e : Int)])) (W.setRow (w.heap.size + 1) (pgC q v)) from by
    rw [he]
    exact ⟨v, rfl, (R.beside hr (Nat.le_succ _) _).r, o.imp (fun h => h.beside hr _) id, below_setRow B (Nat.le_succ _) _⟩))
  by_cases hle : lsn ≤ p.lsn
  · have f1 : (lsn : Int) ≤ (p.lsn : Int) := by omega
    have hr : redo p lsn l = (p, 0) := redo_old _ hle
    clear hle
    go_wp2_with (refine wpList_store_row rfl 45 _ _ rfl (w.heap.size + 1) (pgC p (.slice ad p.rows.length c)) rfl rfl 45 zeroP XR.out info_page rfl (pgC_one p ad _ c) ?_)
    exact bodyPost_ret (v := .tuple #[pgV p (.slice ad p.rows.length c), .int .i64 0]) (results_page Try.results24 _ _ (w.heap.size + 1) (pgC p (.slice ad p.rows.length c)) 0 rfl rfl (setRow_heap _ _ _ _ _ _ XR.out) info_page) rfl (FIN.out w2 p _ 0 hr XR.out ((Rin.came HP.out HC.out).later B2.out) (.inr rfl) B2.out)
  have f1 : ¬ (lsn : Int) ≤ (p.lsn : Int) := by omega
  have RE := Lib.hid (show redo p lsn l = redoL p lsn (l.drop 0) p from by unfold redo; rw [if_neg hle, List.drop_zero])
  clear hle
  have n3 := below_new w2 (.cells (pgC p (.slice ad p.rows.length c)) 45)
  have far := (Array.getElem?_eq_some_iff.1 XR.out).1
  have S3 := Lib.hid (show RL w _ (.slice ad p.rows.length c) p w2.heap.size p (.slice ad p.rows.length c) from ⟨XA.out.later n3, (n3.block _ far).trans XR.out, PBx.new w2 p (.slice ad p.rows.length c), far, ((Rin.came HP.out HC.out).later B2.out).later n3, .inr rfl, B2.out.trans (n3.mono B2.out.size)⟩)
  clear n3 far XA XR B2 PN
  unfold pgC at S3
  go_upto_region 4 with fail
  generalize hgq : w2.heap.size = gq at *
  generalize World.alloc w2 _ = w3 at *
  clear x0 x1 x2 x3 x4 x5 hgq f1
  go_wp2_with fail
  go_loopw [9] (fun i wr => ∃ (k : Nat) (q : Pg) (v : Value), i = .int .i64 k ∧ k ≤ n ∧ redo p lsn l = redoL p lsn (l.drop k) q ∧ Gd q ∧ RL w wr (.slice ad p.rows.length c) p gq q v) (fun i _ => n - (intOf i).toNat)
  case atStart => exact ⟨0, p, _, rfl, Nat.zero_le _, RE.out, GD.out, S3.out⟩
  case round =>
    obtain ⟨k, q0, v, rfl, hkn, hre, hg, hr⟩ := hrel
    have RE := Lib.hid hre
    have GQ := Lib.hid hg
    have R := Lib.hid hr
    obtain ⟨a2, c2, rfl, _⟩ := id hr.rows.r
    clear hre hg hr S3
    by_cases hlt : k < n
    · have hll : k < l.length := by rw [← N.out]; exact hlt
      obtain ⟨u, b, o, rfl, io, po⟩ := (HL.out.later R.out.below).nine hll
      obtain ⟨au, cu, rfl⟩ := io.rows.shape
      have SKP := Lib.hid (redoL_skip (p := p) (q := q0) (lsn := lsn) hll)
      have DON := Lib.hid (redoL_done (p := p) (q := q0) (lsn := lsn) hll)
      have ERR := Lib.hid (redoL_err (p := p) (q := q0) (lsn := lsn) hll)
      obtain ⟨X, hX⟩ : ∃ X, X = l[k] := ⟨_, rfl⟩
      rw [← hX] at io po SKP DON ERR
      have IO := Lib.hid io
      have PO := Lib.hid po
      clear io po hX
      have y1 := PO.out.c1
      have x2 := R.out.a.six.2.2.1
      by_cases hpg : X.page = p.id
      · have xe : ((X.page : Int) != (p.id : Int)) = false := by rw [hpg]; simp
        go_wp2_with fail
        go_quiet (fail)
        go_upto_region 8 with fail
        have RD := Lib.hid (R.out.later (dM wr nq))
        have IO := Lib.hid (IO.out.later (dM wr nq))
        have PO := Lib.hid (PO.out.later (dM wr nq))
        clear y1 x2 R xe SKP
        generalize World.drewN wr nq = wd at *
        obtain ⟨q, hq⟩ : ∃ q, q = appP q0 X lsn := ⟨_, rfl⟩
        obtain ⟨e, he⟩ : ∃ e, e = appE q0 X lsn := ⟨_, rfl⟩
        have DON := Lib.hid (fun h => DON.out hpg h)
        have ERR := Lib.hid (fun h => ERR.out hpg h)
        have KR := Lib.hid (fun W (B : Below wd.heap.size wd W) => rapply_any (RD.out.later B).rows.r RD.out.rows.cap GQ.out.us (IO.out.later B) HN.out)
        have GN := Lib.hid (fun h => app_gd GQ.out IO.out.wf HN.out h)
        unfold pgV oV oC at KR
        rw [← hq, ← he] at KR DON GN
        rw [← he] at ERR
        have RU := Lib.hid RD.out.rows
        have WV := Lib.hid RD.out.below.size
        have NZ := Lib.hid (fun W v' (r : Page.Rows W v' q.rows) (h : v' = .slice a2 q0.rows.length c2) => rows_nil_of RU.out.r (show Page.Rows W (.slice a2 q0.rows.length c2) q.rows from h ▸ r))
        have SC := Lib.hid (fun W (B : Below wd.heap.size wd W) => (show W.cell? ⟨gq, 0, none⟩ = some (.int .u8 (q0.kind : Int)) ∧ W.cell? ⟨gq, 1, none⟩ = some (.int .u8 (q0.level : Int)) ∧ W.cell? ⟨gq, 2, none⟩ = some (.int .u32 (q0.id : Int)) ∧ W.cell? ⟨gq, 3, none⟩ = some (.int .u64 (q0.lsn : Int)) ∧ W.cell? ⟨gq, 4, none⟩ = some (.int .u32 (q0.next : Int)) ∧ W.cell? ⟨gq, 5, none⟩ = some (.slice a2 q0.rows.length c2) ∧ W.cell? ⟨b, o + k * 9, none⟩ = some (.int .u8 (X.kind : Int)) ∧ W.cell? ⟨b, o + k * 9 + 1, none⟩ = some (.int .u32 (X.page : Int)) ∧ W.cell? ⟨b, o + k * 9 + 2, none⟩ = some (.int .i64 X.at') ∧ W.cell? ⟨b, o + k * 9 + 3, none⟩ = some (.int .i64 X.off) ∧ W.cell? ⟨b, o + k * 9 + 4, none⟩ = some (.string X.text) ∧ W.cell? ⟨b, o + k * 9 + 5, none⟩ = some (.slice au X.rows.length cu) ∧ W.cell? ⟨b, o + k * 9 + 6, none⟩ = some (.int .u8 (X.pkind : Int)) ∧ W.cell? ⟨b, o + k * 9 + 7, none⟩ = some (.int .u8 (X.level : Int)) ∧ W.cell? ⟨b, o + k * 9 + 8, none⟩ = some (.int .u32 (X.next : Int)) from by
          obtain ⟨h0, h1, h2, h3, h4, h5⟩ := (RD.out.later B).b.six
          obtain ⟨k0, k1, k2, k3, k4, k5, k6, k7, k8, _⟩ := PO.out.later B
          exact ⟨h0, h1, h2, h3, h4, h5, k0, k1, k2, k3, k4, k5, k6, k7, k8⟩))
        clear hq he hpg IO PO
        go_cut [10, 11] (fun x y wx => ∃ g v, x = .pointer (some ⟨g, 0, none⟩) ∧ y = .int .i64 (e : Int) ∧ Got w wd wx g q v ∧ (Str wx v ∨ v = .slice a2 q0.rows.length c2))
        case first =>
          refine wp_region_noPanic ?_
          refine wp_region_held_drew (S := (fun w' => w'.cell? ⟨gq, 0, none⟩ = some (.int .u8 (q0.kind : Int)) ∧ w'.cell? ⟨gq, 1, none⟩ = some (.int .u8 (q0.level : Int)) ∧ w'.cell? ⟨gq, 2, none⟩ = some (.int .u32 (q0.id : Int)) ∧ w'.cell? ⟨gq, 3, none⟩ = some (.int .u64 (q0.lsn : Int)) ∧ w'.cell? ⟨gq, 4, none⟩ = some (.int .u32 (q0.next : Int)) ∧ w'.cell? ⟨gq, 5, none⟩ = some (.slice a2 q0.rows.length c2) ∧ w'.cell? ⟨b, o + k * 9, none⟩ = some (.int .u8 (X.kind : Int)) ∧ w'.cell? ⟨b, o + k * 9 + 1, none⟩ = some (.int .u32 (X.page : Int)) ∧ w'.cell? ⟨b, o + k * 9 + 2, none⟩ = some (.int .i64 X.at') ∧ w'.cell? ⟨b, o + k * 9 + 3, none⟩ = some (.int .i64 X.off) ∧ w'.cell? ⟨b, o + k * 9 + 4, none⟩ = some (.string X.text) ∧ w'.cell? ⟨b, o + k * 9 + 5, none⟩ = some (.slice au X.rows.length cu) ∧ w'.cell? ⟨b, o + k * 9 + 6, none⟩ = some (.int .u8 (X.pkind : Int)) ∧ w'.cell? ⟨b, o + k * 9 + 7, none⟩ = some (.int .u8 (X.level : Int)) ∧ w'.cell? ⟨b, o + k * 9 + 8, none⟩ = some (.int .u32 (X.next : Int)))) (by kernel_rfl) (SC.out _ (Below.refl _ _).drew) (fun hHeld => ?_)
          refine wpAnyH_take (i := 0) (v := ?_) rfl (by kernel_rfl) (by kernel_rfl) (by kernel_rfl) (fun _ _ _ h => h) (Or.inl ⟨by rfl, ?_⟩) hHeld ?_
          rotate_left
          · (intro w hSw; (try dsimp only at hSw); go_simp; (try with_reducible rfl))
          simp only [List.getElem_toArray, List.getElem_cons_zero, Act.put, List.setIfInBounds_toArray, List.set_cons_zero, List.set_cons_succ]
          refine wpAnyH_take (i := 1) (v := ?_) rfl (by kernel_rfl) (by kernel_rfl) (by kernel_rfl) (fun _ _ _ h => h) (Or.inl ⟨by rfl, ?_⟩) hHeld ?_
          rotate_left
          · (intro w hSw; (try dsimp only at hSw); go_simp; (try with_reducible rfl))
          simp only [List.getElem_toArray, List.getElem_cons_succ, List.getElem_cons_zero, Act.put, List.setIfInBounds_toArray, List.set_cons_zero, List.set_cons_succ]
          refine wpAnyH_take (i := 2) (v := ?_) rfl (by kernel_rfl) (by kernel_rfl) (by kernel_rfl) (fun _ _ _ h => h) (Or.inl ⟨by rfl, ?_⟩) hHeld ?_
          rotate_left
          · (intro w hSw; (try dsimp only at hSw); go_simp; (try with_reducible rfl))
          simp only [List.getElem_toArray, List.getElem_cons_succ, List.getElem_cons_zero, Act.put, List.setIfInBounds_toArray, List.set_cons_zero, List.set_cons_succ]
          refine wpAnyH_take (i := 3) (v := ?_) rfl (by kernel_rfl) (by kernel_rfl) (by kernel_rfl) (fun _ _ _ h => h) (Or.inl ⟨by rfl, ?_⟩) hHeld ?_
          rotate_left
          · (intro w hSw; (try dsimp only at hSw); go_simp; (try with_reducible rfl))
          simp only [List.getElem_toArray, List.getElem_cons_succ, List.getElem_cons_zero, Act.put, List.setIfInBounds_toArray, List.set_cons_zero, List.set_cons_succ]
          refine wpAnyH_take (i := 4) (v := ?_) rfl (by kernel_rfl) (by kernel_rfl) (by kernel_rfl) (fun _ _ _ h => h) (Or.inl ⟨by rfl, ?_⟩) hHeld ?_
          rotate_left
          · (intro w hSw; (try dsimp only at hSw); go_simp; (try with_reducible rfl))
          simp only [List.getElem_toArray, List.getElem_cons_succ, List.getElem_cons_zero, Act.put, List.setIfInBounds_toArray, List.set_cons_zero, List.set_cons_succ]
          refine wpAnyH_take (i := 5) (v := ?_) rfl (by kernel_rfl) (by kernel_rfl) (by kernel_rfl) (fun _ _ _ h => h) (Or.inl ⟨by rfl, ?_⟩) hHeld ?_
          rotate_left
          · (intro w hSw; (try dsimp only at hSw); go_simp; (try with_reducible rfl))
          simp only [List.getElem_toArray, List.getElem_cons_succ, List.getElem_cons_zero, Act.put, List.setIfInBounds_toArray, List.set_cons_zero, List.set_cons_succ]
          have B0 : Below wd.heap.size wd wd.drew := (Below.refl _ _).drew
          refine wpAnyH_ready (rs := [6, 10]) (by kernel_rfl) (by simp) (AllReadyH.cons rfl (fun K hK => ?_) (AllReadyH.cons rfl (fun K hK => ?_) AllReadyH.nil))
          · clear hHeld
            refine step_fnW (by rfl) (.func 22) [.tmp 33, .tmp 37, .tmp 38] _ rfl 22 [] (by simp [Act.eval]) _ Try.func22 (by kernel_rfl) (by kernel_rfl) (KR.out _ B0) (by simp [Act.eval]) ?_
            rintro e w4 ⟨v4, rfl, r4, o4, b4⟩
            refine ⟨_, rfl, ?_⟩
            have T4 := B0.trans (b4.mono B0.size)
            obtain ⟨aq, cq, rfl, _⟩ := id r4
            have RQ := Lib.hid ((RU.out.later B0).got b4 r4 o4 (fun h h1 => NZ.out _ _ r4 h h1))
            have OQ := Lib.hid o4
            refine hK.out _ _ (SC.out _ T4) (fun hHeld => ?_)
            clear hK K o4 r4
            simp only [List.getElem_toArray, List.getElem_cons_succ, List.getElem_cons_zero, Act.put, List.setIfInBounds_toArray, List.set_cons_zero, List.set_cons_succ]
            refine wpAnyH_take (i := 7) (v := ?_) rfl (by kernel_rfl) (by kernel_rfl) (by kernel_rfl) (fun _ _ _ h => h) (Or.inl ⟨by rfl, ?_⟩) hHeld ?_
            rotate_left
            · (intro w hSw; (try dsimp only at hSw); go_simp; (try with_reducible rfl))
            simp only [List.getElem_toArray, List.getElem_cons_succ, List.getElem_cons_zero, Act.put, List.setIfInBounds_toArray, List.set_cons_zero, List.set_cons_succ]
            refine wpAnyH_take (i := 8) (v := ?_) rfl (by kernel_rfl) (by kernel_rfl) (by kernel_rfl) (fun _ _ _ h => h) (Or.inl ⟨by rfl, ?_⟩) hHeld ?_
            rotate_left
            · (intro w hSw; (try dsimp only at hSw); go_simp; (try with_reducible rfl))
            simp only [List.getElem_toArray, List.getElem_cons_succ, List.getElem_cons_zero, Act.put, List.setIfInBounds_toArray, List.set_cons_zero, List.set_cons_succ]
            refine wpAnyH_take (i := 9) (v := ?_) rfl (by kernel_rfl) (by kernel_rfl) (by kernel_rfl) (fun _ _ _ h => h) (Or.inl ⟨by rfl, ?_⟩) hHeld ?_
            rotate_left
            · (intro w hSw; (try dsimp only at hSw); go_simp; (try with_reducible rfl))
            simp only [List.getElem_toArray, List.getElem_cons_succ, List.getElem_cons_zero, Act.put, List.setIfInBounds_toArray, List.set_cons_zero, List.set_cons_succ]
            refine wpAnyH_ready (rs := [10]) (by kernel_rfl) (by simp) (AllReadyH.cons rfl (fun K hK => ?_) AllReadyH.nil)
            have T5 := T4.trans ((below_new w4 (.cells Page.zeroP 45)).mono T4.size)
            refine step_al (some 10) (by rfl) (by rfl) (by rfl) ?_
            clear hHeld
            refine hK.out _ _ (SC.out _ T5) (fun hHeld => ?_)
            clear hK K hHeld
            simp only [Act.put, List.setIfInBounds_toArray, List.set_cons_zero, List.set_cons_succ]
            refine wpAnyH_ready (rs := [11]) (by kernel_rfl) (by simp) (AllReadyH.cons rfl (fun K hK => ?_) AllReadyH.nil)
            have GG := Lib.hid (Got.put (heap_alloc_new w4 _) WV.out T4.size T5 (RQ.out.later (below_new w4 _)))
            have OG := Lib.hid ((OQ.out.imp (fun h => h.later (below_new w4 (.cells Page.zeroP 45))) id).imp (fun h => h.beside (heap_alloc_new w4 (.cells Page.zeroP 45)) (pgC q (.slice aq q.rows.length cq))) id)
            refine step_st (X := q) none (by rfl) (by rfl) _ _ (by rfl) (by rfl) (by rfl) (heap_alloc_new w4 _) rfl ?_
            refine hK.out _ _ (SC.out _ GG.out.below) (fun hHeld => ?_)
            clear hK K
            simp only [Act.put]
            refine wpAnyH_take (i := 12) (v := ?_) rfl (by kernel_rfl) (by kernel_rfl) (by kernel_rfl) (fun _ _ _ h => h) (Or.inl ⟨by rfl, ?_⟩) hHeld ?_
            rotate_left
            · (intro w hSw; (try dsimp only at hSw); go_simp; (try with_reducible rfl))
            simp only [List.getElem_toArray, List.getElem_cons_succ, List.getElem_cons_zero, Act.put, List.setIfInBounds_toArray, List.set_cons_zero, List.set_cons_succ]
            refine wpAnyH_done (by kernel_rfl) ?_ _
            refine NoPanic.normal ?_
            go_wp2_with fail
            go_meet
            exact ⟨_, _, rfl, rfl, GG.out, OG.out⟩
          · clear hHeld
            have T5 := B0.trans ((below_new wd.drew (.cells Page.zeroP 45)).mono B0.size)
            refine step_al (some 10) (by rfl) (by rfl) (by rfl) ?_
            have HX := heap_alloc_new wd.drew (.cells Page.zeroP 45)
            refine hK.out _ _ (SC.out _ T5) (fun hHeld => ?_)
            clear hK K hHeld
            simp only [Act.put, List.setIfInBounds_toArray, List.set_cons_zero, List.set_cons_succ]
            generalize World.alloc wd.drew _ = w5 at *
            refine wpAnyH_ready (rs := [6]) (by kernel_rfl) (by simp) (AllReadyH.cons rfl (fun K hK => ?_) AllReadyH.nil)
            refine step_fnW (by rfl) (.func 22) [.tmp 33, .tmp 37, .tmp 38] _ rfl 22 [] (by simp [Act.eval]) _ Try.func22 (by kernel_rfl) (by kernel_rfl) (KR.out _ T5) (by simp [Act.eval]) ?_
            rintro e w6 ⟨v6, rfl, r6, o6, b6⟩
            refine ⟨_, rfl, ?_⟩
            have T6 := T5.trans (b6.mono T5.size)
            obtain ⟨aq, cq, rfl, _⟩ := id r6
            have RQ := Lib.hid ((RU.out.later T5).got b6 r6 o6 (fun h h1 => NZ.out _ _ r6 h h1))
            have OQ := Lib.hid o6
            refine hK.out _ _ (SC.out _ T6) (fun hHeld => ?_)
            clear hK K o6 r6
            simp only [List.getElem_toArray, List.getElem_cons_succ, List.getElem_cons_zero, Act.put, List.setIfInBounds_toArray, List.set_cons_zero, List.set_cons_succ]
            refine wpAnyH_take (i := 7) (v := ?_) rfl (by kernel_rfl) (by kernel_rfl) (by kernel_rfl) (fun _ _ _ h => h) (Or.inl ⟨by rfl, ?_⟩) hHeld ?_
            rotate_left
            · (intro w hSw; (try dsimp only at hSw); go_simp; (try with_reducible rfl))
            simp only [List.getElem_toArray, List.getElem_cons_succ, List.getElem_cons_zero, Act.put, List.setIfInBounds_toArray, List.set_cons_zero, List.set_cons_succ]
            refine wpAnyH_take (i := 8) (v := ?_) rfl (by kernel_rfl) (by kernel_rfl) (by kernel_rfl) (fun _ _ _ h => h) (Or.inl ⟨by rfl, ?_⟩) hHeld ?_
            rotate_left
            · (intro w hSw; (try dsimp only at hSw); go_simp; (try with_reducible rfl))
            simp only [List.getElem_toArray, List.getElem_cons_succ, List.getElem_cons_zero, Act.put, List.setIfInBounds_toArray, List.set_cons_zero, List.set_cons_succ]
            refine wpAnyH_take (i := 9) (v := ?_) rfl (by kernel_rfl) (by kernel_rfl) (by kernel_rfl) (fun _ _ _ h => h) (Or.inl ⟨by rfl, ?_⟩) hHeld ?_
            rotate_left
            · (intro w hSw; (try dsimp only at hSw); go_simp; (try with_reducible rfl))
            simp only [List.getElem_toArray, List.getElem_cons_succ, List.getElem_cons_zero, Act.put, List.setIfInBounds_toArray, List.set_cons_zero, List.set_cons_succ]
            clear hHeld
            have HX6 := (b6.block wd.drew.heap.size (Array.getElem?_eq_some_iff.1 HX).1).trans HX
            refine wpAnyH_ready (rs := [11]) (by kernel_rfl) (by simp) (AllReadyH.cons rfl (fun K hK => ?_) AllReadyH.nil)
            have GG := Lib.hid (Got.put HX6 WV.out (Nat.le_refl _) T6 RQ.out)
            have OG := Lib.hid ((OQ.out).imp (fun h => h.beside HX6 (pgC q (.slice aq q.rows.length cq))) id)
            refine step_st (X := q) none (by rfl) (by rfl) _ _ (by rfl) (by rfl) (by rfl) HX6 rfl ?_
            refine hK.out _ _ (SC.out _ GG.out.below) (fun hHeld => ?_)
            clear hK K
            simp only [Act.put]
            refine wpAnyH_take (i := 12) (v := ?_) rfl (by kernel_rfl) (by kernel_rfl) (by kernel_rfl) (fun _ _ _ h => h) (Or.inl ⟨by rfl, ?_⟩) hHeld ?_
            rotate_left
            · (intro w hSw; (try dsimp only at hSw); go_simp; (try with_reducible rfl))
            simp only [List.getElem_toArray, List.getElem_cons_succ, List.getElem_cons_zero, Act.put, List.setIfInBounds_toArray, List.set_cons_zero, List.set_cons_succ]
            refine wpAnyH_done (by kernel_rfl) ?_ _
            refine NoPanic.normal ?_
            go_wp2_with fail
            go_meet
            exact ⟨_, _, rfl, rfl, GG.out, OG.out⟩
        case rest =>
          obtain ⟨g10, v10, rfl, rfl, G, OG⟩ := hcut
          obtain ⟨aq, cq, rfl, _⟩ := id G.rows.r
          have R2 := Lib.hid (RD.out.later G.below)
          have GR := Lib.hid G.rows
          have GO := Lib.hid OG
          have XG : PBx _ g10 q (.slice aq q.rows.length cq) := ⟨G.box⟩
          obtain ⟨y0, y1, y2, y3, y4, y5⟩ := XG.six
          obtain ⟨x0, x1, x2, x3, x4, x5⟩ := R2.out.a.six
          clear G OG XG KR NZ SC RU WV RD
          by_cases he0 : e = 0
          · have f1 : ((e : Int) != 0) = false := by rw [he0]; rfl
            have f3 := DON.out he0
            have f4 := GN.out he0
            clear he0
            go_wp2_with (refine wpList_store_row rfl 45 _ _ rfl gq (pgC q (.slice aq q.rows.length cq)) rfl rfl 45 (pgC q0 (.slice a2 q0.rows.length c2)) R2.out.b.box info_page rfl (pgC_one q aq _ cq) ?_)
            exact ⟨⟨k + 1, q, _, by go_num, hlt, by rw [RE.out]; exact f3, f4, R2.out.put GR.out GO.out⟩, by simp [intOf]; omega⟩
          · have f1 : ((e : Int) != 0) = true := by rw [bne_iff_ne]; omega
            have f3 := ERR.out he0
            clear he0
            go_wp2_with (refine wpList_store_row rfl 45 _ _ rfl (w.heap.size + 1) (pgC p (.slice ad p.rows.length c)) rfl rfl 45 zeroP R2.out.r info_page rfl (pgC_one p ad _ c) ?_)
            exact bodyPost_ret (v := .tuple #[pgV p (.slice ad p.rows.length c), .int .i64 (e : Int)]) (results_page Try.results24 _ _ (w.heap.size + 1) (pgC p (.slice ad p.rows.length c)) (e : Int) rfl rfl (setRow_heap _ _ _ _ _ _ R2.out.r) info_page) rfl (FIN.out _ p _ e (by rw [RE.out]; exact f3) R2.out.r ((Rin.came HP.out HC.out).later R2.out.below) (.inr rfl) R2.out.below)
      · have xe : ((X.page : Int) != (p.id : Int)) = true := by rw [bne_iff_ne]; omega
        go_wp2_with fail
        go_quiet (fail)
        go_wp2_with fail
        exact ⟨⟨k + 1, q0, _, by go_num, hlt, by rw [RE.out]; exact SKP.out hpg, GQ.out, R.out.later (dM _ _)⟩, by simp [intOf]; omega⟩
    · obtain rfl : k = n := by omega
      have f3 : redo p lsn l = (q0, 0) := by rw [RE.out, N.out, List.drop_length]; rfl
      obtain ⟨x0, x1, x2, x3, x4, x5⟩ := R.out.b.six
      go_wp2_with (refine wpList_store_row rfl 45 _ _ rfl (w.heap.size + 1) (pgC q0 (.slice a2 q0.rows.length c2)) rfl rfl 45 zeroP R.out.r info_page rfl (pgC_one q0 a2 _ c2) ?_)
      exact bodyPost_ret (v := .tuple #[pgV q0 (.slice a2 q0.rows.length c2), .int .i64 0]) (results_page Try.results24 _ _ (w.heap.size + 1) (pgC q0 (.slice a2 q0.rows.length c2)) 0 rfl rfl (setRow_heap _ _ _ _ _ _ R.out.r) info_page) rfl (FIN.out _ q0 _ 0 f3 R.out.r R.out.rows R.out.or R.out.below)

end Go.Proofs.Yticnbicnefnhbaa.Op
