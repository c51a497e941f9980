/- Walks: the document's reading of a record. -/
import Derived.Test.YtadhophiannigaaCY6
import Derived.Test.YtadhophiannigaaST
import Derived.Test.YtadhophiannigaaCW13
namespace Go.Proofs.Ytadhophiannigaa.Rec
open Go.RowKit
attribute [local go_sem ↓] Go.wp_at_zero Go.wp_at_succ

/-- a record that the document reads -/
structure Re (W0 w : World) (g r0 : Nat) (r : Rc) (d u : Value) : Prop where
  box : w.heap[g]? = some (.cells (recC r d u) 32 (0, 0))
  res : w.heap[r0]? = some (.cells zeroC 32 (0, 0))
  od : OwnDi W0 w d r.dirty
  oa : OwnAc W0 w u r.txns
  below : Below W0.heap.size W0 w
  ne : r0 ≠ g
  hg : W0.heap.size ≤ g
  hr : W0.heap.size ≤ r0
section
variable {W0 w w' : World} {g r0 : Nat} {r r' : Rc} {d u d' u' : Value}
theorem Re.later (L : Re W0 w g r0 r d u) (c : Below w.heap.size w w') : Re W0 w' g r0 r d u :=
  have on : ∀ {x : Nat} {o : Obj}, w.heap[x]? = some o → w'.heap[x]? = some o := fun hx => (c.block _ (Array.getElem?_eq_some_iff.1 hx).1).trans hx
  ⟨on L.box, on L.res, L.od.later c, L.oa.later c, L.below.trans (c.mono L.below.size), L.ne, L.hg, L.hr⟩
theorem Re.part (L : Re W0 w g r0 r d u) (j : Nat) (v : Value) (e : (recC r d u).setIfInBounds j v = recC r' d' u') (hd : r'.dirty = r.dirty) (ha : r'.txns = r.txns) (e1 : d' = d) (e2 : u' = u) : Re W0 (w.setCell ⟨g, j, none⟩ v) g r0 r' d' u' := by
  subst e1 e2
  exact ⟨by rw [heap_setCell_same w g j _ _ _ L.box, e], by rw [heap_setCell_other _ _ _ _ (show r0 ≠ g from L.ne)]; exact L.res, by rw [hd]; exact L.od.part L.box (by decide) j v, by rw [ha]; exact L.oa.part L.box (by decide) j v, L.below.setCell L.hg _, L.ne, L.hg, L.hr⟩
theorem Re.fz (L : Re W0 w g r0 r d u) (j : Nat) : w.frozen? ⟨g, j, none⟩ = false := frozen_of_row _ _ _ _ _ L.box
theorem Re.appD (L : Re W0 w g r0 r d u) (G : w.grownBy w' d.ownBlock) {l : List Di} (O : OwnDi W0 w' d' l) (hm : r' = { r with dirty := l }) : Re W0 (w'.setCell ⟨g, 8, none⟩ d') g r0 r' d' u := by
  subst hm
  have n1 := fun x hx => L.od.ne L.box (by decide) x hx
  have n2 := fun x hx => L.od.ne L.res (by decide) x hx
  have hbox : w'.heap[g]? = some (.cells (recC r d u) 32 (0, 0)) := (G.block g (Array.getElem?_eq_some_iff.1 L.box).1 (fun e => n1 g e.symm rfl)).trans L.box
  have hres : w'.heap[r0]? = some (.cells zeroC 32 (0, 0)) := (G.block r0 (Array.getElem?_eq_some_iff.1 L.res).1 (fun e => n2 r0 e.symm rfl)).trans L.res
  have n3 : ∀ x, u.ownBlock = some x → some x ≠ d.ownBlock := fun x hx e => by
    rcases L.od.form with ⟨rfl, _⟩ | ⟨g', cap, cur, rfl, _, h3, _⟩
    · simp [Value.ownBlock] at e
    · simp [Value.ownBlock] at e
      subst e
      exact L.oa.ne h3 (by decide) _ hx rfl
  have bw : Below W0.heap.size W0 w' := L.below.grown G L.below.size fun x hx => (L.od.lt x hx).1
  exact ⟨by rw [heap_setCell_same w' g 8 _ _ _ hbox]; rfl, by rw [heap_setCell_other _ _ _ _ (show r0 ≠ g from L.ne)]; exact hres, O.part hbox (by decide) 8 d', OwnAc.part (L.oa.far G.size fun x hx => G.block x (L.oa.lt x hx).2 (n3 x hx)) hbox (by decide) 8 d', bw.setCell L.hg _, L.ne, L.hg, L.hr⟩
theorem Re.appA (L : Re W0 w g r0 r d u) (G : w.grownBy w' u.ownBlock) {l : List Ac} (O : OwnAc W0 w' u' l) (hm : r' = { r with txns := l }) : Re W0 (w'.setCell ⟨g, 9, none⟩ u') g r0 r' d u' := by
  subst hm
  have n1 := fun x hx => L.oa.ne L.box (by decide) x hx
  have n2 := fun x hx => L.oa.ne L.res (by decide) x hx
  have hbox : w'.heap[g]? = some (.cells (recC r d u) 32 (0, 0)) := (G.block g (Array.getElem?_eq_some_iff.1 L.box).1 (fun e => n1 g e.symm rfl)).trans L.box
  have hres : w'.heap[r0]? = some (.cells zeroC 32 (0, 0)) := (G.block r0 (Array.getElem?_eq_some_iff.1 L.res).1 (fun e => n2 r0 e.symm rfl)).trans L.res
  have n3 : ∀ x, d.ownBlock = some x → some x ≠ u.ownBlock := fun x hx e => by
    rcases L.oa.form with ⟨rfl, _⟩ | ⟨g', cap, cur, rfl, _, h3, _⟩
    · simp [Value.ownBlock] at e
    · simp [Value.ownBlock] at e
      subst e
      exact L.od.ne h3 (by decide) _ hx rfl
  have bw : Below W0.heap.size W0 w' := L.below.grown G L.below.size fun x hx => (L.oa.lt x hx).1
  exact ⟨by rw [heap_setCell_same w' g 9 _ _ _ hbox]; rfl, by rw [heap_setCell_other _ _ _ _ (show r0 ≠ g from L.ne)]; exact hres, OwnDi.part (L.od.far G.size fun x hx => G.block x (L.od.lt x hx).2 (n3 x hx)) hbox (by decide) 9 u', O.part hbox (by decide) 9 u', bw.setCell L.hg _, L.ne, L.hg, L.hr⟩
theorem Re.grownD (L : Re W0 w g r0 r d u) (G : w.grownBy w' d.ownBlock) : w'.cell? ⟨g, 8, none⟩ = some d ∧ w'.frozen? ⟨g, 8, none⟩ = false := by
  have hbox : w'.heap[g]? = some (.cells (recC r d u) 32 (0, 0)) := (G.block g (Array.getElem?_eq_some_iff.1 L.box).1 (fun e => L.od.ne L.box (by decide) g e.symm rfl)).trans L.box
  exact ⟨by rw [cell_of_row _ _ _ _ _ _ hbox]; rfl, frozen_of_row _ _ _ _ _ hbox⟩
theorem Re.grownA (L : Re W0 w g r0 r d u) (G : w.grownBy w' u.ownBlock) : w'.cell? ⟨g, 9, none⟩ = some u ∧ w'.frozen? ⟨g, 9, none⟩ = false := by
  have hbox : w'.heap[g]? = some (.cells (recC r d u) 32 (0, 0)) := (G.block g (Array.getElem?_eq_some_iff.1 L.box).1 (fun e => L.oa.ne L.box (by decide) g e.symm rfl)).trans L.box
  exact ⟨by rw [cell_of_row _ _ _ _ _ _ hbox]; rfl, frozen_of_row _ _ _ _ _ hbox⟩
end
theorem Re.start {W0 w : World} {r0 : Nat} (Z : Rz W0 w r0) (r : Rc) (h1 : r.dirty = []) (h2 : r.txns = []) :
    Re W0 (w.alloc (.cells (recC r (.slice none 0 0) (.slice none 0 0)) 32)) w.heap.size r0 r (.slice none 0 0) (.slice none 0 0) := by
  have c := below_new w (.cells (recC r (.slice none 0 0) (.slice none 0 0)) 32)
  have hl := (Array.getElem?_eq_some_iff.1 Z.res).1
  exact ⟨heap_alloc_new _ _, (c.block _ hl).trans Z.res, by rw [h1]; exact OwnDi.nil W0 (Nat.le_trans Z.below.size c.size), by rw [h2]; exact OwnAc.nil W0 (Nat.le_trans Z.below.size c.size), Z.below.trans (c.mono Z.below.size), by omega, Z.below.size, Z.ge⟩

theorem first_byte {s : ByteArray} (h : 17 ≤ s.size) : ((s[0]'(by omega)).toNat : Int) = (kd s : Int) := by
  have e : kd s = numAt s 0 1 := (tk_of (s := s) (t := 0) (n := 1) (by omega)).2.2
  rw [e, show (1 : Nat) = 0 + 1 from rfl, numAt_succ s 0 0 (by omega), numAt_zero]
  simp

set_option linter.unusedSimpArgs false in
set_option maxRecDepth 100000 in
set_option maxHeartbeats 4000000 in
theorem rdecode_any (s : ByteArray) (w : World) (hs : s.size ≤ 140737488351232) : Calls Try.prog 18 #[.string s] w (DecP s w) := by
  have R0 := Lib.hid (Rz.start w)
  have RK := rok_eq hs
  have NO := Lib.hid (fun (hn : ¬ rokC s = true) w' b => @DecP.no s w w' (by rw [← RK]; exact hn) b)
  have YES := Lib.hid (fun (hn : rokC s = true) w' d u (i : InR w' (rrC s) d u) b => (show DecP s w (.returned (.tuple #[recV (rrC s) d u, .int .i64 0])) w' by
    have ho : okC s = true := by rw [← RK]; exact hn
    rw [rr_eq ho] at i ⊢
    exact DecP.yes ho i b))
  have OK := Lib.hid (show rokC s = (decide (17 ≤ s.size) && (decide (s.size ≤ 4096) && (mayC (rrC s) && decide (encS (rrC s) = s)))) from rfl)
  have WF := Lib.hid (rrC_wf hs)
  have HS := Lib.hid hs
  unfold zeroC recC Rc.zero at R0
  simp only at R0
  by_cases hz : s.size < 17
  · have HN := Lib.hid (NO.out (by rw [OK.out, decide_eq_false (p := 17 ≤ s.size) (by omega)]; simp))
    clear NO YES OK RK
    go_enter Try.func18, Try.ntmps18
    go_wp2_with (refine wpList_store_row rfl 32 _ _ rfl w.heap.size zeroC rfl rfl 32 zeroC R0.out.res info_rec rfl (rec_one _ rfl rfl) ?_)
    exact bodyPost_ret (v := .tuple #[recV Rc.zero (.slice none 0 0) (.slice none 0 0), .int .i64 7]) (results_two Try.results18 _ _ w.heap.size zeroC 7 rfl rfl (setRow_heap _ _ _ _ _ _ R0.out.res) Try.underlying32 info_rec) rfl (HN.out _ (below_setRow R0.out.below R0.out.ge _))
  by_cases hz2 : 4096 < s.size
  · have HN := Lib.hid (NO.out (by rw [OK.out, decide_eq_false (p := s.size ≤ 4096) (by omega)]; simp))
    clear NO YES OK RK
    go_enter Try.func18, Try.ntmps18
    go_wp2_with (refine wpList_store_row rfl 32 _ _ rfl w.heap.size zeroC rfl rfl 32 zeroC R0.out.res info_rec rfl (rec_one _ rfl rfl) ?_)
    exact bodyPost_ret (v := .tuple #[recV Rc.zero (.slice none 0 0) (.slice none 0 0), .int .i64 7]) (results_two Try.results18 _ _ w.heap.size zeroC 7 rfl rfl (setRow_heap _ _ _ _ _ _ R0.out.res) Try.underlying32 info_rec) rfl (HN.out _ (below_setRow R0.out.below R0.out.ge _))
  have OK2 := Lib.hid (show rokC s = (mayC (rrC s) && decide (encS (rrC s) = s)) by rw [OK.out, decide_eq_true (by omega), decide_eq_true (by omega), Bool.true_and, Bool.true_and])
  clear OK RK
  have h0 : 0 < s.size := by omega
  have fb := first_byte (s := s) (by omega)
  have fb2 : ((s[0]'h0).toNat : Int) = (kd s : Int) := fb
  have G1 := Lib.hid (fun W => (show Calls Try.prog 32 #[.string s, .int .i64 1, .int .i64 8] W fun e w' => e = .returned (.int .u64 (tkN s 1 8 : Int)) ∧ W = w' from rget2_any s 1 8 W HS.out (by omega) (by decide) (by decide)))
  have G2 := Lib.hid (fun W => (show Calls Try.prog 32 #[.string s, .int .i64 9, .int .i64 8] W fun e w' => e = .returned (.int .u64 (tkN s 9 8 : Int)) ∧ W = w' from rget2_any s 9 8 W HS.out (by omega) (by decide) (by decide)))
  go_enter Try.func18, Try.ntmps18
  go_upto_region 3 with fail
  generalize hr0 : w.heap.size = r0 at R0 ⊢
  generalize w.alloc _ = W at *
  have R1 := Lib.hid (R0.out.later ((Below.refl _ _).drew))
  have L0 := Lib.hid (Re.start R1.out (rrH s) rfl rfl)
  have C0 := Lib.hid (show recC (rrH s) (.slice none 0 0) (.slice none 0 0) = #[.int .u8 (kd s : Int), .int .u64 (tkN s 1 8 : Int), .int .u64 (tkN s 9 8 : Int), .int .u32 0, .int .u16 0, .int .u64 0, .int .u64 0, .string ⟨#[]⟩, .slice none 0 0, .slice none 0 0, .int .u64 0, .int .u64 0] from rfl)
  rw [C0.out] at L0
  have hsz0 : (0 : Int) < (s.size : Int) := by omega
  go_cut [4] (fun p wx => p = .pointer (some ⟨W.heap.size, 0, none⟩) ∧ Re w wx W.heap.size r0 (rrH s) (.slice none 0 0) (.slice none 0 0))
  case first =>
    go_region_held3 (fun _ => True) (trivial)
      (first
        | (go_at_call 32; (with_reducible refine (G1.out _).mono ?_); rintro e w2 ⟨rfl, rfl⟩)
        | (go_at_call 32; (with_reducible refine (G2.out _).mono ?_); rintro e w3 ⟨rfl, rfl⟩))
    all_goals
      go_wp2_with fail
      go_meet
      exact ⟨rfl, L0.out⟩
  case rest =>
  obtain ⟨rfl, L1⟩ := hcut
  have L2 := Lib.hid L1
  clear L0 L1 C0 G1 G2 R0 R1 fb fb2 hsz0 h0
  generalize hgg : W.heap.size = g at *
  clear hgg
  have HK := Lib.hid (show (rrH s).kind = kd s from rfl)
  obtain ⟨a0, a1, a2, a3, a4, a5, a6, a7, a8, a9, a10, a11⟩ := rec_cells L2.out.box
  rw [HK.out] at a0
  go_upto_region 5 with fail
  have RC := Lib.hid (show rrC s = if kd s = 2 then { rrH s with page := tkN s 17 4, slot := tkN s 21 2, body := restS s 23 } else if kd s = 6 then { rrH s with body := restS s 17 } else if kd s = 3 then { rrH s with next := tkN s 17 8, body := restS s 25 } else if kd s = 4 then { rrH s with number := tkN s 17 8, body := restS s 25 } else if kd s = 8 then { rrH s with ttx := tkN s 17 8, tnum := tkN s 25 8, dirty := rD s 34 (rn s), txns := rA s (34 + 12 * rn s + 1) (rm s) } else rrH s from rfl)
  by_cases h2 : kd s = 2
  · have f2 : ((kd s : Int) == 2) = true := by rw [h2]; rfl
    have RR := Lib.hid (show rrC s = { rrH s with page := tkN s 17 4, slot := tkN s 21 2, body := restS s 23 } by rw [RC.out, if_pos h2])
    have G1 := Lib.hid (fun W => (show Calls Try.prog 32 #[.string s, .int .i64 17, .int .i64 4] W fun e w' => e = .returned (.int .u64 (tkN s 17 4 : Int)) ∧ W = w' from rget2_any s 17 4 W HS.out (by omega) (by decide) (by decide)))
    have G2 := Lib.hid (fun W => (show Calls Try.prog 32 #[.string s, .int .i64 21, .int .i64 2] W fun e w' => e = .returned (.int .u64 (tkN s 21 2 : Int)) ∧ W = w' from rget2_any s 21 2 W HS.out (by omega) (by decide) (by decide)))
    have G3 := Lib.hid (fun W => (show Calls Try.prog 33 #[.string s, .int .i64 23] W fun e w' => e = .returned (.string (restS s 23)) ∧ W = w' from rest_any s 23 W HS.out (by omega)))
    have wpg : IntKind.u32.wrap (tkN s 17 4 : Int) = (tkN s 17 4 : Int) := by have := tkN_lt s 17 4; rw [IntKind.wrap_u32]; omega
    have wsl : IntKind.u16.wrap (tkN s 21 2 : Int) = (tkN s 21 2 : Int) := by have := tkN_lt s 21 2; rw [IntKind.wrap_u16]; omega
    have wsl2 : (tkN s 21 2 : Int) % 65536 = (tkN s 21 2 : Int) := by have := tkN_lt s 21 2; omega
    have fz3 := L2.out.fz 3
    have fz4 := L2.out.fz 4
    have fz7 := L2.out.fz 7
    have L3 := Lib.hid (L2.out.part (r' := { rrH s with page := tkN s 17 4 }) 3 (.int .u32 (tkN s 17 4 : Int)) rfl rfl rfl rfl rfl)
    have L5 := Lib.hid (L3.out.part (r' := { rrH s with page := tkN s 17 4, slot := tkN s 21 2 }) 4 (.int .u16 (tkN s 21 2 : Int)) rfl rfl rfl rfl rfl)
    have L6 := Lib.hid (L5.out.part (r' := { rrH s with page := tkN s 17 4, slot := tkN s 21 2, body := restS s 23 }) 7 (.string (restS s 23)) rfl rfl rfl rfl rfl)
    go_wp2_with fail
    refine (G1.out _).mono ?_
    rintro e wq ⟨rfl, rfl⟩
    go_wp2_with fail
    refine (G2.out _).mono ?_
    rintro e wq ⟨rfl, rfl⟩
    go_wp2_with fail
    refine (G3.out _).mono ?_
    rintro e wq ⟨rfl, rfl⟩
    go_upto_region 33 with fail
    have L4 : Hid (Re w _ g r0 (rrC s) _ _) := Lib.hid (by rw [RR.out]; exact L6.out)
    clear RR RC L2 L3 L5 L6 G1 G2 G3 wpg wsl wsl2 fz3 fz4 fz7
    clear a0 a1 a2 a3 a4 a5 a6 a7 a8 a9 a10 a11
    have IR := Lib.hid (fun W (b : Below _ _ W) => (show InR W (rrC s) (.slice none 0 0) (.slice none 0 0) from ⟨WF.out, (L4.out.od.is).later b, (L4.out.oa.is).later b⟩))
    have KM := Lib.hid (rmay_any (IR.out _ (Below.refl _ _)))
    have KE := Lib.hid (fun W b => rencode_any (IR.out W b))
    have LE := Lib.hid (fun W (b : Below _ _ W) => L4.out.later b)
    obtain ⟨a0, a1, a2, a3, a4, a5, a6, a7, a8, a9, a10, a11⟩ := rec_cells L4.out.box
    generalize rrC s = r at *
    have HRR := Lib.hid hr0
    clear hr0
    unfold recV recC at *
    go_wp2_with fail
    refine KM.out.mono ?_
    rintro e w5 ⟨rfl, b5⟩
    have L5 := Lib.hid (LE.out w5 b5)
    cases hmay : mayC r with
    | false =>
      have HN := Lib.hid (NO.out (by rw [OK2.out, hmay, Bool.false_and]; decide))
      clear NO YES OK2 hmay KM KE LE IR L4 a0 a1 a2 a3 a4 a5 a6 a7 a8 a9 a10 a11
      go_wp2_with (refine wpList_store_row rfl 32 _ _ rfl r0 zeroC rfl rfl 32 zeroC L5.out.res info_rec rfl (rec_one _ rfl rfl) ?_)
      exact bodyPost_ret (v := .tuple #[recV Rc.zero (.slice none 0 0) (.slice none 0 0), .int .i64 7]) (results_two Try.results18 _ _ r0 zeroC 7 rfl rfl (setRow_heap _ _ _ _ _ _ L5.out.res) Try.underlying32 info_rec) rfl (HN.out _ (by have q := below_setRow L5.out.below L5.out.hr zeroC; exact q))
    | true =>
      clear a0 a1 a2 a3 a4 a5 a6 a7 a8 a9 a10 a11 KM
      obtain ⟨a0, a1, a2, a3, a4, a5, a6, a7, a8, a9, a10, a11⟩ := rec_cells L5.out.box
      go_wp2_with fail
      refine (KE.out _ b5).mono ?_
      rintro e w6 ⟨rfl, b6⟩
      have L6 := Lib.hid (L5.out.later b6)
      clear KE b6 L5 a0 a1 a2 a3 a4 a5 a6 a7 a8 a9 a10 a11 L4 LE b5
      by_cases he : encS r = s
      · have HY := Lib.hid (YES.out (by rw [OK2.out, hmay, decide_eq_true he]; rfl))
        have fe : ((encS r).toList != s.toList) = false := by rw [he]; simp
        have fe2 : ((encS r).toList == s.toList) = true := by rw [he]; simp
        have fe3 : (encS r).toList = s.toList := by rw [he]
        clear NO YES OK2 he
        obtain ⟨a0, a1, a2, a3, a4, a5, a6, a7, a8, a9, a10, a11⟩ := rec_cells L6.out.box
        go_wp2_with (refine wpList_store_row rfl 32 _ _ rfl r0 (recC r (.slice none 0 0) (.slice none 0 0)) rfl rfl 32 zeroC L6.out.res info_rec rfl (rec_one _ rfl rfl) ?_)
        exact bodyPost_ret (v := .tuple #[recV r (.slice none 0 0) (.slice none 0 0), .int .i64 0]) (results_two Try.results18 _ _ r0 (recC r (.slice none 0 0) (.slice none 0 0)) 0 rfl rfl (setRow_heap _ _ _ _ _ _ L6.out.res) Try.underlying32 info_rec) rfl (HY.out _ _ _ ⟨WF.out, (L6.out.od.setRow L6.out.res (by decide) _).is, (L6.out.oa.setRow L6.out.res (by decide) _).is⟩ (by have q := below_setRow L6.out.below L6.out.hr (recC r (.slice none 0 0) (.slice none 0 0)); exact q))
      · have HN := Lib.hid (NO.out (by rw [OK2.out, hmay, decide_eq_false he]; decide))
        have fe : ((encS r).toList != s.toList) = true := bne_yes2 he
        have fe2 : ((encS r).toList == s.toList) = false := beq_no he
        have fe3 : ¬ (encS r).toList = s.toList := fun e => he (list_inj e)
        clear NO YES OK2
        go_wp2_with (refine wpList_store_row rfl 32 _ _ rfl r0 zeroC rfl rfl 32 zeroC L6.out.res info_rec rfl (rec_one _ rfl rfl) ?_)
        exact bodyPost_ret (v := .tuple #[recV Rc.zero (.slice none 0 0) (.slice none 0 0), .int .i64 7]) (results_two Try.results18 _ _ r0 zeroC 7 rfl rfl (setRow_heap _ _ _ _ _ _ L6.out.res) Try.underlying32 info_rec) rfl (HN.out _ (by have q := below_setRow L6.out.below L6.out.hr zeroC; exact q))
  have f2 : ((kd s : Int) == 2) = false := num_no h2
  by_cases h6 : kd s = 6
  · have f6 : ((kd s : Int) == 6) = true := by rw [h6]; rfl
    have RR := Lib.hid (show rrC s = { rrH s with body := restS s 17 } by rw [RC.out, if_neg h2, if_pos h6])
    have G3 := Lib.hid (fun W => (show Calls Try.prog 33 #[.string s, .int .i64 17] W fun e w' => e = .returned (.string (restS s 17)) ∧ W = w' from rest_any s 17 W HS.out (by omega)))
    have fz7 := L2.out.fz 7
    have L6 := Lib.hid (L2.out.part (r' := { rrH s with body := restS s 17 }) 7 (.string (restS s 17)) rfl rfl rfl rfl rfl)
    go_wp2_with fail
    refine (G3.out _).mono ?_
    rintro e wq ⟨rfl, rfl⟩
    go_upto_region 33 with fail
    have L4 : Hid (Re w _ g r0 (rrC s) _ _) := Lib.hid (by rw [RR.out]; exact L6.out)
    clear RR RC L2 L6 G3 fz7
    clear a0 a1 a2 a3 a4 a5 a6 a7 a8 a9 a10 a11
    have IR := Lib.hid (fun W (b : Below _ _ W) => (show InR W (rrC s) (.slice none 0 0) (.slice none 0 0) from ⟨WF.out, (L4.out.od.is).later b, (L4.out.oa.is).later b⟩))
    have KM := Lib.hid (rmay_any (IR.out _ (Below.refl _ _)))
    have KE := Lib.hid (fun W b => rencode_any (IR.out W b))
    have LE := Lib.hid (fun W (b : Below _ _ W) => L4.out.later b)
    obtain ⟨a0, a1, a2, a3, a4, a5, a6, a7, a8, a9, a10, a11⟩ := rec_cells L4.out.box
    generalize rrC s = r at *
    have HRR := Lib.hid hr0
    clear hr0
    unfold recV recC at *
    go_wp2_with fail
    refine KM.out.mono ?_
    rintro e w5 ⟨rfl, b5⟩
    have L5 := Lib.hid (LE.out w5 b5)
    cases hmay : mayC r with
    | false =>
      have HN := Lib.hid (NO.out (by rw [OK2.out, hmay, Bool.false_and]; decide))
      clear NO YES OK2 hmay KM KE LE IR L4 a0 a1 a2 a3 a4 a5 a6 a7 a8 a9 a10 a11
      go_wp2_with (refine wpList_store_row rfl 32 _ _ rfl r0 zeroC rfl rfl 32 zeroC L5.out.res info_rec rfl (rec_one _ rfl rfl) ?_)
      exact bodyPost_ret (v := .tuple #[recV Rc.zero (.slice none 0 0) (.slice none 0 0), .int .i64 7]) (results_two Try.results18 _ _ r0 zeroC 7 rfl rfl (setRow_heap _ _ _ _ _ _ L5.out.res) Try.underlying32 info_rec) rfl (HN.out _ (by have q := below_setRow L5.out.below L5.out.hr zeroC; exact q))
    | true =>
      clear a0 a1 a2 a3 a4 a5 a6 a7 a8 a9 a10 a11 KM
      obtain ⟨a0, a1, a2, a3, a4, a5, a6, a7, a8, a9, a10, a11⟩ := rec_cells L5.out.box
      go_wp2_with fail
      refine (KE.out _ b5).mono ?_
      rintro e w6 ⟨rfl, b6⟩
      have L6 := Lib.hid (L5.out.later b6)
      clear KE b6 L5 a0 a1 a2 a3 a4 a5 a6 a7 a8 a9 a10 a11 L4 LE b5
      by_cases he : encS r = s
      · have HY := Lib.hid (YES.out (by rw [OK2.out, hmay, decide_eq_true he]; rfl))
        have fe : ((encS r).toList != s.toList) = false := by rw [he]; simp
        have fe2 : ((encS r).toList == s.toList) = true := by rw [he]; simp
        have fe3 : (encS r).toList = s.toList := by rw [he]
        clear NO YES OK2 he
        obtain ⟨a0, a1, a2, a3, a4, a5, a6, a7, a8, a9, a10, a11⟩ := rec_cells L6.out.box
        go_wp2_with (refine wpList_store_row rfl 32 _ _ rfl r0 (recC r (.slice none 0 0) (.slice none 0 0)) rfl rfl 32 zeroC L6.out.res info_rec rfl (rec_one _ rfl rfl) ?_)
        exact bodyPost_ret (v := .tuple #[recV r (.slice none 0 0) (.slice none 0 0), .int .i64 0]) (results_two Try.results18 _ _ r0 (recC r (.slice none 0 0) (.slice none 0 0)) 0 rfl rfl (setRow_heap _ _ _ _ _ _ L6.out.res) Try.underlying32 info_rec) rfl (HY.out _ _ _ ⟨WF.out, (L6.out.od.setRow L6.out.res (by decide) _).is, (L6.out.oa.setRow L6.out.res (by decide) _).is⟩ (by have q := below_setRow L6.out.below L6.out.hr (recC r (.slice none 0 0) (.slice none 0 0)); exact q))
      · have HN := Lib.hid (NO.out (by rw [OK2.out, hmay, decide_eq_false he]; decide))
        have fe : ((encS r).toList != s.toList) = true := bne_yes2 he
        have fe2 : ((encS r).toList == s.toList) = false := beq_no he
        have fe3 : ¬ (encS r).toList = s.toList := fun e => he (list_inj e)
        clear NO YES OK2
        go_wp2_with (refine wpList_store_row rfl 32 _ _ rfl r0 zeroC rfl rfl 32 zeroC L6.out.res info_rec rfl (rec_one _ rfl rfl) ?_)
        exact bodyPost_ret (v := .tuple #[recV Rc.zero (.slice none 0 0) (.slice none 0 0), .int .i64 7]) (results_two Try.results18 _ _ r0 zeroC 7 rfl rfl (setRow_heap _ _ _ _ _ _ L6.out.res) Try.underlying32 info_rec) rfl (HN.out _ (by have q := below_setRow L6.out.below L6.out.hr zeroC; exact q))
  have f6 : ((kd s : Int) == 6) = false := num_no h6
  by_cases h3 : kd s = 3
  · have f3 : ((kd s : Int) == 3) = true := by rw [h3]; rfl
    have RR := Lib.hid (show rrC s = { rrH s with next := tkN s 17 8, body := restS s 25 } by rw [RC.out, if_neg h2, if_neg h6, if_pos h3])
    have G1 := Lib.hid (fun W => (show Calls Try.prog 32 #[.string s, .int .i64 17, .int .i64 8] W fun e w' => e = .returned (.int .u64 (tkN s 17 8 : Int)) ∧ W = w' from rget2_any s 17 8 W HS.out (by omega) (by decide) (by decide)))
    have G3 := Lib.hid (fun W => (show Calls Try.prog 33 #[.string s, .int .i64 25] W fun e w' => e = .returned (.string (restS s 25)) ∧ W = w' from rest_any s 25 W HS.out (by omega)))
    have fz5 := L2.out.fz 5
    have fz7 := L2.out.fz 7
    have L3 := Lib.hid (L2.out.part (r' := { rrH s with next := tkN s 17 8 }) 5 (.int .u64 (tkN s 17 8 : Int)) rfl rfl rfl rfl rfl)
    have L6 := Lib.hid (L3.out.part (r' := { rrH s with next := tkN s 17 8, body := restS s 25 }) 7 (.string (restS s 25)) rfl rfl rfl rfl rfl)
    go_wp2_with fail
    refine (G1.out _).mono ?_
    rintro e wq ⟨rfl, rfl⟩
    go_wp2_with fail
    refine (G3.out _).mono ?_
    rintro e wq ⟨rfl, rfl⟩
    go_upto_region 33 with fail
    have L4 : Hid (Re w _ g r0 (rrC s) _ _) := Lib.hid (by rw [RR.out]; exact L6.out)
    clear RR RC L2 L3 L6 G1 G3 fz5 fz7
    clear a0 a1 a2 a3 a4 a5 a6 a7 a8 a9 a10 a11
    have IR := Lib.hid (fun W (b : Below _ _ W) => (show InR W (rrC s) (.slice none 0 0) (.slice none 0 0) from ⟨WF.out, (L4.out.od.is).later b, (L4.out.oa.is).later b⟩))
    have KM := Lib.hid (rmay_any (IR.out _ (Below.refl _ _)))
    have KE := Lib.hid (fun W b => rencode_any (IR.out W b))
    have LE := Lib.hid (fun W (b : Below _ _ W) => L4.out.later b)
    obtain ⟨a0, a1, a2, a3, a4, a5, a6, a7, a8, a9, a10, a11⟩ := rec_cells L4.out.box
    generalize rrC s = r at *
    have HRR := Lib.hid hr0
    clear hr0
    unfold recV recC at *
    go_wp2_with fail
    refine KM.out.mono ?_
    rintro e w5 ⟨rfl, b5⟩
    have L5 := Lib.hid (LE.out w5 b5)
    cases hmay : mayC r with
    | false =>
      have HN := Lib.hid (NO.out (by rw [OK2.out, hmay, Bool.false_and]; decide))
      clear NO YES OK2 hmay KM KE LE IR L4 a0 a1 a2 a3 a4 a5 a6 a7 a8 a9 a10 a11
      go_wp2_with (refine wpList_store_row rfl 32 _ _ rfl r0 zeroC rfl rfl 32 zeroC L5.out.res info_rec rfl (rec_one _ rfl rfl) ?_)
      exact bodyPost_ret (v := .tuple #[recV Rc.zero (.slice none 0 0) (.slice none 0 0), .int .i64 7]) (results_two Try.results18 _ _ r0 zeroC 7 rfl rfl (setRow_heap _ _ _ _ _ _ L5.out.res) Try.underlying32 info_rec) rfl (HN.out _ (by have q := below_setRow L5.out.below L5.out.hr zeroC; exact q))
    | true =>
      clear a0 a1 a2 a3 a4 a5 a6 a7 a8 a9 a10 a11 KM
      obtain ⟨a0, a1, a2, a3, a4, a5, a6, a7, a8, a9, a10, a11⟩ := rec_cells L5.out.box
      go_wp2_with fail
      refine (KE.out _ b5).mono ?_
      rintro e w6 ⟨rfl, b6⟩
      have L6 := Lib.hid (L5.out.later b6)
      clear KE b6 L5 a0 a1 a2 a3 a4 a5 a6 a7 a8 a9 a10 a11 L4 LE b5
      by_cases he : encS r = s
      · have HY := Lib.hid (YES.out (by rw [OK2.out, hmay, decide_eq_true he]; rfl))
        have fe : ((encS r).toList != s.toList) = false := by rw [he]; simp
        have fe2 : ((encS r).toList == s.toList) = true := by rw [he]; simp
        have fe3 : (encS r).toList = s.toList := by rw [he]
        clear NO YES OK2 he
        obtain ⟨a0, a1, a2, a3, a4, a5, a6, a7, a8, a9, a10, a11⟩ := rec_cells L6.out.box
        go_wp2_with (refine wpList_store_row rfl 32 _ _ rfl r0 (recC r (.slice none 0 0) (.slice none 0 0)) rfl rfl 32 zeroC L6.out.res info_rec rfl (rec_one _ rfl rfl) ?_)
        exact bodyPost_ret (v := .tuple #[recV r (.slice none 0 0) (.slice none 0 0), .int .i64 0]) (results_two Try.results18 _ _ r0 (recC r (.slice none 0 0) (.slice none 0 0)) 0 rfl rfl (setRow_heap _ _ _ _ _ _ L6.out.res) Try.underlying32 info_rec) rfl (HY.out _ _ _ ⟨WF.out, (L6.out.od.setRow L6.out.res (by decide) _).is, (L6.out.oa.setRow L6.out.res (by decide) _).is⟩ (by have q := below_setRow L6.out.below L6.out.hr (recC r (.slice none 0 0) (.slice none 0 0)); exact q))
      · have HN := Lib.hid (NO.out (by rw [OK2.out, hmay, decide_eq_false he]; decide))
        have fe : ((encS r).toList != s.toList) = true := bne_yes2 he
        have fe2 : ((encS r).toList == s.toList) = false := beq_no he
        have fe3 : ¬ (encS r).toList = s.toList := fun e => he (list_inj e)
        clear NO YES OK2
        go_wp2_with (refine wpList_store_row rfl 32 _ _ rfl r0 zeroC rfl rfl 32 zeroC L6.out.res info_rec rfl (rec_one _ rfl rfl) ?_)
        exact bodyPost_ret (v := .tuple #[recV Rc.zero (.slice none 0 0) (.slice none 0 0), .int .i64 7]) (results_two Try.results18 _ _ r0 zeroC 7 rfl rfl (setRow_heap _ _ _ _ _ _ L6.out.res) Try.underlying32 info_rec) rfl (HN.out _ (by have q := below_setRow L6.out.below L6.out.hr zeroC; exact q))
  have f3 : ((kd s : Int) == 3) = false := num_no h3
  by_cases h4 : kd s = 4
  · have f4 : ((kd s : Int) == 4) = true := by rw [h4]; rfl
    have RR := Lib.hid (show rrC s = { rrH s with number := tkN s 17 8, body := restS s 25 } by rw [RC.out, if_neg h2, if_neg h6, if_neg h3, if_pos h4])
    have G1 := Lib.hid (fun W => (show Calls Try.prog 32 #[.string s, .int .i64 17, .int .i64 8] W fun e w' => e = .returned (.int .u64 (tkN s 17 8 : Int)) ∧ W = w' from rget2_any s 17 8 W HS.out (by omega) (by decide) (by decide)))
    have G3 := Lib.hid (fun W => (show Calls Try.prog 33 #[.string s, .int .i64 25] W fun e w' => e = .returned (.string (restS s 25)) ∧ W = w' from rest_any s 25 W HS.out (by omega)))
    have fz6 := L2.out.fz 6
    have fz7 := L2.out.fz 7
    have L3 := Lib.hid (L2.out.part (r' := { rrH s with number := tkN s 17 8 }) 6 (.int .u64 (tkN s 17 8 : Int)) rfl rfl rfl rfl rfl)
    have L6 := Lib.hid (L3.out.part (r' := { rrH s with number := tkN s 17 8, body := restS s 25 }) 7 (.string (restS s 25)) rfl rfl rfl rfl rfl)
    go_wp2_with fail
    refine (G1.out _).mono ?_
    rintro e wq ⟨rfl, rfl⟩
    go_wp2_with fail
    refine (G3.out _).mono ?_
    rintro e wq ⟨rfl, rfl⟩
    go_upto_region 33 with fail
    have L4 : Hid (Re w _ g r0 (rrC s) _ _) := Lib.hid (by rw [RR.out]; exact L6.out)
    clear RR RC L2 L3 L6 G1 G3 fz6 fz7
    clear a0 a1 a2 a3 a4 a5 a6 a7 a8 a9 a10 a11
    have IR := Lib.hid (fun W (b : Below _ _ W) => (show InR W (rrC s) (.slice none 0 0) (.slice none 0 0) from ⟨WF.out, (L4.out.od.is).later b, (L4.out.oa.is).later b⟩))
    have KM := Lib.hid (rmay_any (IR.out _ (Below.refl _ _)))
    have KE := Lib.hid (fun W b => rencode_any (IR.out W b))
    have LE := Lib.hid (fun W (b : Below _ _ W) => L4.out.later b)
    obtain ⟨a0, a1, a2, a3, a4, a5, a6, a7, a8, a9, a10, a11⟩ := rec_cells L4.out.box
    generalize rrC s = r at *
    have HRR := Lib.hid hr0
    clear hr0
    unfold recV recC at *
    go_wp2_with fail
    refine KM.out.mono ?_
    rintro e w5 ⟨rfl, b5⟩
    have L5 := Lib.hid (LE.out w5 b5)
    cases hmay : mayC r with
    | false =>
      have HN := Lib.hid (NO.out (by rw [OK2.out, hmay, Bool.false_and]; decide))
      clear NO YES OK2 hmay KM KE LE IR L4 a0 a1 a2 a3 a4 a5 a6 a7 a8 a9 a10 a11
      go_wp2_with (refine wpList_store_row rfl 32 _ _ rfl r0 zeroC rfl rfl 32 zeroC L5.out.res info_rec rfl (rec_one _ rfl rfl) ?_)
      exact bodyPost_ret (v := .tuple #[recV Rc.zero (.slice none 0 0) (.slice none 0 0), .int .i64 7]) (results_two Try.results18 _ _ r0 zeroC 7 rfl rfl (setRow_heap _ _ _ _ _ _ L5.out.res) Try.underlying32 info_rec) rfl (HN.out _ (by have q := below_setRow L5.out.below L5.out.hr zeroC; exact q))
    | true =>
      clear a0 a1 a2 a3 a4 a5 a6 a7 a8 a9 a10 a11 KM
      obtain ⟨a0, a1, a2, a3, a4, a5, a6, a7, a8, a9, a10, a11⟩ := rec_cells L5.out.box
      go_wp2_with fail
      refine (KE.out _ b5).mono ?_
      rintro e w6 ⟨rfl, b6⟩
      have L6 := Lib.hid (L5.out.later b6)
      clear KE b6 L5 a0 a1 a2 a3 a4 a5 a6 a7 a8 a9 a10 a11 L4 LE b5
      by_cases he : encS r = s
      · have HY := Lib.hid (YES.out (by rw [OK2.out, hmay, decide_eq_true he]; rfl))
        have fe : ((encS r).toList != s.toList) = false := by rw [he]; simp
        have fe2 : ((encS r).toList == s.toList) = true := by rw [he]; simp
        have fe3 : (encS r).toList = s.toList := by rw [he]
        clear NO YES OK2 he
        obtain ⟨a0, a1, a2, a3, a4, a5, a6, a7, a8, a9, a10, a11⟩ := rec_cells L6.out.box
        go_wp2_with (refine wpList_store_row rfl 32 _ _ rfl r0 (recC r (.slice none 0 0) (.slice none 0 0)) rfl rfl 32 zeroC L6.out.res info_rec rfl (rec_one _ rfl rfl) ?_)
        exact bodyPost_ret (v := .tuple #[recV r (.slice none 0 0) (.slice none 0 0), .int .i64 0]) (results_two Try.results18 _ _ r0 (recC r (.slice none 0 0) (.slice none 0 0)) 0 rfl rfl (setRow_heap _ _ _ _ _ _ L6.out.res) Try.underlying32 info_rec) rfl (HY.out _ _ _ ⟨WF.out, (L6.out.od.setRow L6.out.res (by decide) _).is, (L6.out.oa.setRow L6.out.res (by decide) _).is⟩ (by have q := below_setRow L6.out.below L6.out.hr (recC r (.slice none 0 0) (.slice none 0 0)); exact q))
      · have HN := Lib.hid (NO.out (by rw [OK2.out, hmay, decide_eq_false he]; decide))
        have fe : ((encS r).toList != s.toList) = true := bne_yes2 he
        have fe2 : ((encS r).toList == s.toList) = false := beq_no he
        have fe3 : ¬ (encS r).toList = s.toList := fun e => he (list_inj e)
        clear NO YES OK2
        go_wp2_with (refine wpList_store_row rfl 32 _ _ rfl r0 zeroC rfl rfl 32 zeroC L6.out.res info_rec rfl (rec_one _ rfl rfl) ?_)
        exact bodyPost_ret (v := .tuple #[recV Rc.zero (.slice none 0 0) (.slice none 0 0), .int .i64 7]) (results_two Try.results18 _ _ r0 zeroC 7 rfl rfl (setRow_heap _ _ _ _ _ _ L6.out.res) Try.underlying32 info_rec) rfl (HN.out _ (by have q := below_setRow L6.out.below L6.out.hr zeroC; exact q))
  have f4 : ((kd s : Int) == 4) = false := num_no h4
  by_cases h8 : kd s = 8
  · have f8 : ((kd s : Int) == 8) = true := by rw [h8]; rfl
    have RR := Lib.hid (show rrC s = { rrH s with ttx := tkN s 17 8, tnum := tkN s 25 8, dirty := rD s 34 (rn s), txns := rA s (34 + 12 * rn s + 1) (rm s) } by rw [RC.out, if_neg h2, if_neg h6, if_neg h3, if_neg h4, if_pos h8])
    clear RC
    have G1 := Lib.hid (fun W => (show Calls Try.prog 32 #[.string s, .int .i64 17, .int .i64 8] W fun e w' => e = .returned (.int .u64 (tkN s 17 8 : Int)) ∧ W = w' from rget2_any s 17 8 W HS.out (by omega) (by decide) (by decide)))
    have G2 := Lib.hid (fun W => (show Calls Try.prog 32 #[.string s, .int .i64 25, .int .i64 8] W fun e w' => e = .returned (.int .u64 (tkN s 25 8 : Int)) ∧ W = w' from rget2_any s 25 8 W HS.out (by omega) (by decide) (by decide)))
    have G3 := Lib.hid (fun W => (show Calls Try.prog 32 #[.string s, .int .i64 33, .int .i64 1] W fun e w' => e = .returned (.int .u64 (rn s : Int)) ∧ W = w' from rget2_any s 33 1 W HS.out (by omega) (by decide) (by decide)))
    have fz10 := L2.out.fz 10
    have fz11 := L2.out.fz 11
    have L3 := Lib.hid (L2.out.part (r' := { rrH s with ttx := tkN s 17 8 }) 10 (.int .u64 (tkN s 17 8 : Int)) rfl rfl rfl rfl rfl)
    have L6 : Hid (Re w _ g r0 { rrH s with ttx := tkN s 17 8, tnum := tkN s 25 8, dirty := rD s 34 0 } (.slice none 0 0) (.slice none 0 0)) := Lib.hid (L3.out.part (r' := { rrH s with ttx := tkN s 17 8, tnum := tkN s 25 8 }) 11 (.int .u64 (tkN s 25 8 : Int)) rfl rfl rfl rfl rfl)
    have hn2 : rn s < 256 := by have := tkN_lt s 33 1; unfold rn; omega
    have wn : IntKind.i64.wrap (rn s : Int) = (rn s : Int) := by rw [IntKind.wrap_i64]; omega
    have NN := Lib.hid (show ∀ n, n = rn s → (34 + 12 * n + 1 = 34 + 12 * rn s + 1) from fun n e => by rw [e])
    have RN := Lib.hid (show rn s = rn s from rfl)
    obtain ⟨n, hn⟩ : ∃ n, n = rn s := ⟨_, rfl⟩
    have HN := Lib.hid hn
    rw [← hn] at G3 hn2 wn
    clear hn NN RN
    go_wp2_with fail
    refine (G1.out _).mono ?_
    rintro e wq ⟨rfl, rfl⟩
    go_wp2_with fail
    refine (G2.out _).mono ?_
    rintro e wq ⟨rfl, rfl⟩
    go_wp2_with fail
    refine (G3.out _).mono ?_
    rintro e wq ⟨rfl, rfl⟩
    clear L2 L3 G1 G2 G3 fz10 fz11 a0 a1 a2 a3 a4 a5 a6 a7 a8 a9 a10 a11
    generalize tkN s 17 8 = x at *
    generalize tkN s 25 8 = y at *
    have DL := Lib.hid (fun j => rD_len s 34 j)
    go_wp2_with fail
    clear f2 f6 f3 f4 f8 h2 h6 h3 h4 h8
    go_loopw [6, 7] (fun a i wr => ∃ (j : Nat) (d : Value), j ≤ n ∧ i = .int .i64 (j : Int) ∧ a = .int .i64 ((34 + 12 * j : Nat) : Int) ∧ Re w wr g r0 { rrH s with ttx := x, tnum := y, dirty := rD s 34 j } d (.slice none 0 0)) (fun _ i _ => n - (intOf i).toNat)
    case atStart => exact ⟨0, _, by omega, rfl, rfl, L6.out⟩
    case round =>
      obtain ⟨j, d, hj, rfl, rfl, L7⟩ := hrel
      have L8 := Lib.hid L7
      clear L6 L7
      by_cases hlt : j < n
      · obtain ⟨ad, nn, cap, rfl⟩ := L8.out.od.shape3
        have L9 := Lib.hid (L8.out.later ((Below.refl _ _).drew))
        obtain ⟨A, hA⟩ : ∃ A, A = 34 + 12 * j := ⟨_, rfl⟩
        have DE := Lib.hid (show rD s 34 (j + 1) = rD s 34 j ++ [⟨tkN s A 4, tkN s (A + 4) 8⟩] by rw [hA]; rfl)
        have hA2 : A ≤ 10000 := by omega
        have M1 := Lib.hid (fun W => (show Calls Try.prog 32 #[.string s, .int .i64 (A : Int), .int .i64 4] W fun e w' => e = .returned (.int .u64 (tkN s A 4 : Int)) ∧ W = w' from rget2_any s A 4 W HS.out (by omega) (by decide) (by decide)))
        have M2 := Lib.hid (fun W => (show Calls Try.prog 32 #[.string s, .int .i64 ((A : Int) + 4), .int .i64 8] W fun e w' => e = .returned (.int .u64 (tkN s (A + 4) 8 : Int)) ∧ W = w' from rget2_any s (A + 4) 8 W HS.out (by omega) (by decide) (by decide)))
        have q4 : IntKind.u32.wrap (tkN s A 4 : Int) = (tkN s A 4 : Int) := by have := tkN_lt s A 4; rw [IntKind.wrap_u32]; omega
        have wa : IntKind.i64.wrap ((A : Int) + 4) = (A : Int) + 4 := by rw [IntKind.wrap_i64]; omega
        have wa2 : IntKind.i64.wrap ((A : Int) + 12) = (A : Int) + 12 := by rw [IntKind.wrap_i64]; omega
        have HA := Lib.hid hA
        rw [← hA]
        clear hA
        generalize tkN s A 4 = v4 at *
        generalize tkN s (A + 4) 8 = v8 at *
        have DLN := Lib.hid (show (rD s 34 j).length + [(⟨v4, v8⟩ : Di)].length ≤ 1000000 by rw [DL.out j]; show j + 1 ≤ _; omega)
        obtain ⟨c0, c1, c2, c3, c4, c5, c6, c7, c8, c9, c10, c11⟩ := rec_cells L9.out.box
        have cb := (rec_cells (L9.out.later (below_new _ (.cells #[.int .u32 (v4 : Int), .int .u64 (v8 : Int)] 55))).box).2.2.2.2.2.2.2.2.1
        have cb2 := (rec_cells (L8.out.later (below_new _ (.cells #[.int .u32 (v4 : Int), .int .u64 (v8 : Int)] 55))).box).2.2.2.2.2.2.2.2.1
        have cb3 := (rec_cells L8.out.box).2.2.2.2.2.2.2.2.1
        clear c0 c1 c2 c3 c4 c5 c6 c7 c9 c10 c11 L8
        go_wp2_with fail
        go_region_law (first | (refine step_fn rfl (.func 32) [.tmp 83, .tmp 84, .const (.int .i64 4)] _ rfl 32 [] rfl _ Try.func32 (by kernel_rfl) (by kernel_rfl) (M1.out _) (by simp [Act.eval, Act.put]) ?_; rintro e w5 ⟨rfl, rfl⟩; refine ⟨_, rfl, ?_⟩) | (refine step_fn rfl (.func 32) [.tmp 87, .tmp 89, .const (.int .i64 8)] _ rfl 32 [] rfl _ Try.func32 (by kernel_rfl) (by kernel_rfl) (M2.out _) (by simp [Act.eval, Act.put]) ?_; rintro e w6 ⟨rfl, rfl⟩; refine ⟨_, rfl, ?_⟩) | (refine step_appDi (W0 := w) (m := [⟨v4, v8⟩]) rfl _ _ rfl (L9.out.later (below_new _ _)).od (di_one_src _ ⟨v4, v8⟩) DLN.out (by simp [Act.eval, Act.put]) (by simp [Act.eval, Act.put]) ?_; intro v7 w7 o7 g7; have L10 := Lib.hid ((L9.out.later (below_new _ _)).appD g7 o7 rfl); obtain ⟨c7, f7⟩ := (L9.out.later (below_new _ _)).grownD g7; obtain ⟨ad7, n7, cap7, rfl⟩ := o7.shape3))
        all_goals
          have L11 : Hid (Re w _ g r0 { rrH s with ttx := x, tnum := y, dirty := rD s 34 (j + 1) } _ (.slice none 0 0)) := Lib.hid (by rw [DE.out]; exact L10.out)
          clear L9 L10 c8 cb cb2 cb3 c7 f7 o7 g7 M1 M2
          go_wp2_with fail
          go_roundw
          case rel => exact ⟨j + 1, _, by omega, by go_num, by rw [HA.out]; first | (congr 1; done) | (congr 1; omega), L11.out⟩
          case measure => simp [intOf]; omega
      · obtain rfl : j = n := by omega
        obtain ⟨ad, nn, cap, rfl⟩ := L8.out.od.shape3
        obtain ⟨B, hB⟩ : ∃ B, B = 34 + 12 * j := ⟨_, rfl⟩
        have hB2 : B ≤ 10000 := by omega
        have ED := Lib.hid (show rD s 34 j = rD s 34 (rn s) by rw [HN.out])
        have EB := Lib.hid (show B = 34 + 12 * rn s by rw [hB, HN.out])
        have G3 := Lib.hid (fun W => (show Calls Try.prog 32 #[.string s, .int .i64 (B : Int), .int .i64 1] W fun e w' => e = .returned (.int .u64 (tkN s B 1 : Int)) ∧ W = w' from rget2_any s B 1 W HS.out (by omega) (by decide) (by decide)))
        have hm2 : tkN s B 1 < 256 := by have := tkN_lt s B 1; omega
        obtain ⟨m, hm⟩ : ∃ m, m = tkN s B 1 := ⟨_, rfl⟩
        have HM := Lib.hid (show m = rm s by rw [hm, EB.out]; rfl)
        rw [← hm] at G3 hm2
        have wm : IntKind.i64.wrap (m : Int) = (m : Int) := by rw [IntKind.wrap_i64]; omega
        have wb : IntKind.i64.wrap ((B : Int) + 1) = (B : Int) + 1 := by rw [IntKind.wrap_i64]; omega
        rw [← hB]
        clear hB hm hlt hj DL
        go_wp2_with fail
        refine (G3.out _).mono ?_
        rintro e wq ⟨rfl, rfl⟩
        clear G3
        have AL := Lib.hid (fun i => rA_len s (B + 1) i)
        have L6 : Hid (Re w _ g r0 { rrH s with ttx := x, tnum := y, dirty := rD s 34 (rn s), txns := rA s (B + 1) 0 } _ (.slice none 0 0)) := Lib.hid (by rw [← ED.out]; exact L8.out)
        clear L8 ED
        generalize hD : rD s 34 (rn s) = D at *
        clear hD
        go_wp2_with fail
        go_loopw [6, 9] (fun a i wr => ∃ (i' : Nat) (u : Value), i' ≤ m ∧ i = .int .i64 (i' : Int) ∧ a = .int .i64 ((B + 1 + 32 * i' : Nat) : Int) ∧ Re w wr g r0 { rrH s with ttx := x, tnum := y, dirty := D, txns := rA s (B + 1) i' } (.slice ad nn cap) u) (fun _ i _ => m - (intOf i).toNat)
        case atStart => exact ⟨0, _, by omega, rfl, by first | rfl | (congr 1; omega), L6.out⟩
        case round =>
          obtain ⟨i, u, hi, rfl, rfl, L7⟩ := hrel
          have L8 := Lib.hid L7
          clear L6 L7
          by_cases hlt : i < m
          · obtain ⟨ad2, nn2, cap2, rfl⟩ := L8.out.oa.shape3
            have L9 := Lib.hid (L8.out.later ((Below.refl _ _).drew))
            obtain ⟨A, hA⟩ : ∃ A, A = B + 1 + 32 * i := ⟨_, rfl⟩
            have DE := Lib.hid (show rA s (B + 1) (i + 1) = rA s (B + 1) i ++ [⟨tkN s A 8, tkN s (A + 8) 8, tkN s (A + 16) 8, tkN s (A + 24) 8⟩] by rw [hA]; rfl)
            have hA2 : A ≤ 100000 := by omega
            have M1 := Lib.hid (fun W => (show Calls Try.prog 32 #[.string s, .int .i64 (A : Int), .int .i64 8] W fun e w' => e = .returned (.int .u64 (tkN s A 8 : Int)) ∧ W = w' from rget2_any s A 8 W HS.out (by omega) (by decide) (by decide)))
            have M2 := Lib.hid (fun W => (show Calls Try.prog 32 #[.string s, .int .i64 ((A : Int) + 8), .int .i64 8] W fun e w' => e = .returned (.int .u64 (tkN s (A + 8) 8 : Int)) ∧ W = w' from rget2_any s (A + 8) 8 W HS.out (by omega) (by decide) (by decide)))
            have M3 := Lib.hid (fun W => (show Calls Try.prog 32 #[.string s, .int .i64 ((A : Int) + 16), .int .i64 8] W fun e w' => e = .returned (.int .u64 (tkN s (A + 16) 8 : Int)) ∧ W = w' from rget2_any s (A + 16) 8 W HS.out (by omega) (by decide) (by decide)))
            have M4 := Lib.hid (fun W => (show Calls Try.prog 32 #[.string s, .int .i64 ((A : Int) + 24), .int .i64 8] W fun e w' => e = .returned (.int .u64 (tkN s (A + 24) 8 : Int)) ∧ W = w' from rget2_any s (A + 24) 8 W HS.out (by omega) (by decide) (by decide)))
            have wa : IntKind.i64.wrap ((A : Int) + 8) = (A : Int) + 8 := by rw [IntKind.wrap_i64]; omega
            have wa2 : IntKind.i64.wrap ((A : Int) + 16) = (A : Int) + 16 := by rw [IntKind.wrap_i64]; omega
            have wa3 : IntKind.i64.wrap ((A : Int) + 24) = (A : Int) + 24 := by rw [IntKind.wrap_i64]; omega
            have wa4 : IntKind.i64.wrap ((A : Int) + 32) = (A : Int) + 32 := by rw [IntKind.wrap_i64]; omega
            have HA := Lib.hid hA
            rw [← hA]
            clear hA
            generalize tkN s A 8 = v1 at *
            generalize tkN s (A + 8) 8 = v2 at *
            generalize tkN s (A + 16) 8 = v3 at *
            generalize tkN s (A + 24) 8 = v4 at *
            have DLN := Lib.hid (show (rA s (B + 1) i).length + [(⟨v1, v2, v3, v4⟩ : Ac)].length ≤ 1000000 by rw [AL.out i]; show i + 1 ≤ _; omega)
            have c9 := (rec_cells L9.out.box).2.2.2.2.2.2.2.2.2.1
            have cb := (rec_cells (L9.out.later (below_new _ (.cells #[.int .u64 (v1 : Int), .int .u64 (v2 : Int), .int .u64 (v3 : Int), .int .u64 (v4 : Int)] 57))).box).2.2.2.2.2.2.2.2.2.1
            have cb2 := (rec_cells (L8.out.later (below_new _ (.cells #[.int .u64 (v1 : Int), .int .u64 (v2 : Int), .int .u64 (v3 : Int), .int .u64 (v4 : Int)] 57))).box).2.2.2.2.2.2.2.2.2.1
            have cb3 := (rec_cells L8.out.box).2.2.2.2.2.2.2.2.2.1
            clear L8
            go_wp2_with fail
            go_region_law (first | (refine step_fn rfl (.func 32) [.tmp 112, .tmp 113, .const (.int .i64 8)] _ rfl 32 [] rfl _ Try.func32 (by kernel_rfl) (by kernel_rfl) (M1.out _) (by simp [Act.eval, Act.put]) ?_; rintro e w5 ⟨rfl, rfl⟩; refine ⟨_, rfl, ?_⟩) | (refine step_fn rfl (.func 32) [.tmp 115, .tmp 117, .const (.int .i64 8)] _ rfl 32 [] rfl _ Try.func32 (by kernel_rfl) (by kernel_rfl) (M2.out _) (by simp [Act.eval, Act.put]) ?_; rintro e w6 ⟨rfl, rfl⟩; refine ⟨_, rfl, ?_⟩) | (refine step_fn rfl (.func 32) [.tmp 119, .tmp 121, .const (.int .i64 8)] _ rfl 32 [] rfl _ Try.func32 (by kernel_rfl) (by kernel_rfl) (M3.out _) (by simp [Act.eval, Act.put]) ?_; rintro e w7 ⟨rfl, rfl⟩; refine ⟨_, rfl, ?_⟩) | (refine step_fn rfl (.func 32) [.tmp 123, .tmp 125, .const (.int .i64 8)] _ rfl 32 [] rfl _ Try.func32 (by kernel_rfl) (by kernel_rfl) (M4.out _) (by simp [Act.eval, Act.put]) ?_; rintro e w8 ⟨rfl, rfl⟩; refine ⟨_, rfl, ?_⟩) | (refine step_appAc (W0 := w) (m := [⟨v1, v2, v3, v4⟩]) rfl _ _ rfl (L9.out.later (below_new _ _)).oa (ac_one_src _ ⟨v1, v2, v3, v4⟩) DLN.out (by simp [Act.eval, Act.put]) (by simp [Act.eval, Act.put]) ?_; intro v9 w9 o9 g9; have L10 := Lib.hid ((L9.out.later (below_new _ _)).appA g9 o9 rfl); obtain ⟨c7, f7⟩ := (L9.out.later (below_new _ _)).grownA g9; obtain ⟨ad9, n9, cap9, rfl⟩ := o9.shape3))
            all_goals
              have L11 : Hid (Re w _ g r0 { rrH s with ttx := x, tnum := y, dirty := D, txns := rA s (B + 1) (i + 1) } (.slice ad nn cap) _) := Lib.hid (by rw [DE.out]; exact L10.out)
              clear L9 L10 c9 cb cb2 cb3 c7 f7 o9 g9 M1 M2 M3 M4
              go_wp2_with fail
              go_roundw
              case rel => exact ⟨i + 1, _, by omega, by go_num, by rw [HA.out]; first | (congr 1; done) | (congr 1; omega), L11.out⟩
              case measure => simp [intOf]; omega
          · obtain rfl : i = m := by omega
            obtain ⟨ad2, nn2, cap2, rfl⟩ := L8.out.oa.shape3
            have EA := Lib.hid (show rA s (B + 1) i = rA s (34 + 12 * rn s + 1) (rm s) by rw [EB.out, HM.out])
            rw [EA.out] at L8
            go_upto_region 33 with fail
            have L4 := L8
            rw [← RR.out] at L4
            have a0 := 0; have a1 := 0; have a2 := 0; have a3 := 0; have a4 := 0; have a5 := 0; have a6 := 0; have a7 := 0; have a8 := 0; have a9 := 0; have a10 := 0; have a11 := 0
            clear RR EA L8 AL hlt hi wm wb
            clear a0 a1 a2 a3 a4 a5 a6 a7 a8 a9 a10 a11
            have IR := Lib.hid (fun W (b : Below _ _ W) => (show InR W (rrC s) (.slice ad nn cap) (.slice ad2 nn2 cap2) from ⟨WF.out, (L4.out.od.is).later b, (L4.out.oa.is).later b⟩))
            have KM := Lib.hid (rmay_any (IR.out _ (Below.refl _ _)))
            have KE := Lib.hid (fun W b => rencode_any (IR.out W b))
            have LE := Lib.hid (fun W (b : Below _ _ W) => L4.out.later b)
            obtain ⟨a0, a1, a2, a3, a4, a5, a6, a7, a8, a9, a10, a11⟩ := rec_cells L4.out.box
            generalize rrC s = r at *
            have HRR := Lib.hid hr0
            clear hr0
            unfold recV recC at *
            go_wp2_with fail
            refine KM.out.mono ?_
            rintro e w5 ⟨rfl, b5⟩
            have L5 := Lib.hid (LE.out w5 b5)
            cases hmay : mayC r with
            | false =>
              have HN := Lib.hid (NO.out (by rw [OK2.out, hmay, Bool.false_and]; decide))
              clear NO YES OK2 hmay KM KE LE IR L4 a0 a1 a2 a3 a4 a5 a6 a7 a8 a9 a10 a11
              go_wp2_with (refine wpList_store_row rfl 32 _ _ rfl r0 zeroC rfl rfl 32 zeroC L5.out.res info_rec rfl (rec_one _ rfl rfl) ?_)
              exact bodyPost_ret (v := .tuple #[recV Rc.zero (.slice none 0 0) (.slice none 0 0), .int .i64 7]) (results_two Try.results18 _ _ r0 zeroC 7 rfl rfl (setRow_heap _ _ _ _ _ _ L5.out.res) Try.underlying32 info_rec) rfl (HN.out _ (by have q := below_setRow L5.out.below L5.out.hr zeroC; exact q))
            | true =>
              clear a0 a1 a2 a3 a4 a5 a6 a7 a8 a9 a10 a11 KM
              obtain ⟨a0, a1, a2, a3, a4, a5, a6, a7, a8, a9, a10, a11⟩ := rec_cells L5.out.box
              go_wp2_with fail
              refine (KE.out _ b5).mono ?_
              rintro e w6 ⟨rfl, b6⟩
              have L6 := Lib.hid (L5.out.later b6)
              clear KE b6 L5 a0 a1 a2 a3 a4 a5 a6 a7 a8 a9 a10 a11 L4 LE b5
              by_cases he : encS r = s
              · have HY := Lib.hid (YES.out (by rw [OK2.out, hmay, decide_eq_true he]; rfl))
                have fe : ((encS r).toList != s.toList) = false := by rw [he]; simp
                have fe2 : ((encS r).toList == s.toList) = true := by rw [he]; simp
                have fe3 : (encS r).toList = s.toList := by rw [he]
                clear NO YES OK2 he
                obtain ⟨a0, a1, a2, a3, a4, a5, a6, a7, a8, a9, a10, a11⟩ := rec_cells L6.out.box
                go_wp2_with (refine wpList_store_row rfl 32 _ _ rfl r0 (recC r (.slice ad nn cap) (.slice ad2 nn2 cap2)) rfl rfl 32 zeroC L6.out.res info_rec rfl (rec_one _ rfl rfl) ?_)
                exact bodyPost_ret (v := .tuple #[recV r (.slice ad nn cap) (.slice ad2 nn2 cap2), .int .i64 0]) (results_two Try.results18 _ _ r0 (recC r (.slice ad nn cap) (.slice ad2 nn2 cap2)) 0 rfl rfl (setRow_heap _ _ _ _ _ _ L6.out.res) Try.underlying32 info_rec) rfl (HY.out _ _ _ ⟨WF.out, (L6.out.od.setRow L6.out.res (by decide) _).is, (L6.out.oa.setRow L6.out.res (by decide) _).is⟩ (by have q := below_setRow L6.out.below L6.out.hr (recC r (.slice ad nn cap) (.slice ad2 nn2 cap2)); exact q))
              · have HN := Lib.hid (NO.out (by rw [OK2.out, hmay, decide_eq_false he]; decide))
                have fe : ((encS r).toList != s.toList) = true := bne_yes2 he
                have fe2 : ((encS r).toList == s.toList) = false := beq_no he
                have fe3 : ¬ (encS r).toList = s.toList := fun e => he (list_inj e)
                clear NO YES OK2
                go_wp2_with (refine wpList_store_row rfl 32 _ _ rfl r0 zeroC rfl rfl 32 zeroC L6.out.res info_rec rfl (rec_one _ rfl rfl) ?_)
                exact bodyPost_ret (v := .tuple #[recV Rc.zero (.slice none 0 0) (.slice none 0 0), .int .i64 7]) (results_two Try.results18 _ _ r0 zeroC 7 rfl rfl (setRow_heap _ _ _ _ _ _ L6.out.res) Try.underlying32 info_rec) rfl (HN.out _ (by have q := below_setRow L6.out.below L6.out.hr zeroC; exact q))
  have f8 : ((kd s : Int) == 8) = false := num_no h8
  have RR := Lib.hid (show rrC s = rrH s by rw [RC.out, if_neg h2, if_neg h6, if_neg h3, if_neg h4, if_neg h8])
  go_upto_region 33 with fail
  have L4 : Hid (Re w _ g r0 (rrC s) _ _) := Lib.hid (by rw [RR.out]; exact L2.out)
  clear RR RC L2
  clear a0 a1 a2 a3 a4 a5 a6 a7 a8 a9 a10 a11
  have IR := Lib.hid (fun W (b : Below _ _ W) => (show InR W (rrC s) (.slice none 0 0) (.slice none 0 0) from ⟨WF.out, (L4.out.od.is).later b, (L4.out.oa.is).later b⟩))
  have KM := Lib.hid (rmay_any (IR.out _ (Below.refl _ _)))
  have KE := Lib.hid (fun W b => rencode_any (IR.out W b))
  have LE := Lib.hid (fun W (b : Below _ _ W) => L4.out.later b)
  obtain ⟨a0, a1, a2, a3, a4, a5, a6, a7, a8, a9, a10, a11⟩ := rec_cells L4.out.box
  generalize rrC s = r at *
  have HRR := Lib.hid hr0
  clear hr0
  unfold recV recC at *
  go_wp2_with fail
  refine KM.out.mono ?_
  rintro e w5 ⟨rfl, b5⟩
  have L5 := Lib.hid (LE.out w5 b5)
  cases hmay : mayC r with
  | false =>
    have HN := Lib.hid (NO.out (by rw [OK2.out, hmay, Bool.false_and]; decide))
    clear NO YES OK2 hmay KM KE LE IR L4 a0 a1 a2 a3 a4 a5 a6 a7 a8 a9 a10 a11
    go_wp2_with (refine wpList_store_row rfl 32 _ _ rfl r0 zeroC rfl rfl 32 zeroC L5.out.res info_rec rfl (rec_one _ rfl rfl) ?_)
    exact bodyPost_ret (v := .tuple #[recV Rc.zero (.slice none 0 0) (.slice none 0 0), .int .i64 7]) (results_two Try.results18 _ _ r0 zeroC 7 rfl rfl (setRow_heap _ _ _ _ _ _ L5.out.res) Try.underlying32 info_rec) rfl (HN.out _ (by have q := below_setRow L5.out.below L5.out.hr zeroC; exact q))
  | true =>
    clear a0 a1 a2 a3 a4 a5 a6 a7 a8 a9 a10 a11 KM
    obtain ⟨a0, a1, a2, a3, a4, a5, a6, a7, a8, a9, a10, a11⟩ := rec_cells L5.out.box
    go_wp2_with fail
    refine (KE.out _ b5).mono ?_
    rintro e w6 ⟨rfl, b6⟩
    have L6 := Lib.hid (L5.out.later b6)
    clear KE b6 L5 a0 a1 a2 a3 a4 a5 a6 a7 a8 a9 a10 a11 L4 LE b5
    by_cases he : encS r = s
    · have HY := Lib.hid (YES.out (by rw [OK2.out, hmay, decide_eq_true he]; rfl))
      have fe : ((encS r).toList != s.toList) = false := by rw [he]; simp
      have fe2 : ((encS r).toList == s.toList) = true := by rw [he]; simp
      have fe3 : (encS r).toList = s.toList := by rw [he]
      clear NO YES OK2 he
      obtain ⟨a0, a1, a2, a3, a4, a5, a6, a7, a8, a9, a10, a11⟩ := rec_cells L6.out.box
      go_wp2_with (refine wpList_store_row rfl 32 _ _ rfl r0 (recC r (.slice none 0 0) (.slice none 0 0)) rfl rfl 32 zeroC L6.out.res info_rec rfl (rec_one _ rfl rfl) ?_)
      exact bodyPost_ret (v := .tuple #[recV r (.slice none 0 0) (.slice none 0 0), .int .i64 0]) (results_two Try.results18 _ _ r0 (recC r (.slice none 0 0) (.slice none 0 0)) 0 rfl rfl (setRow_heap _ _ _ _ _ _ L6.out.res) Try.underlying32 info_rec) rfl (HY.out _ _ _ ⟨WF.out, (L6.out.od.setRow L6.out.res (by decide) _).is, (L6.out.oa.setRow L6.out.res (by decide) _).is⟩ (by have q := below_setRow L6.out.below L6.out.hr (recC r (.slice none 0 0) (.slice none 0 0)); exact q))
    · have HN := Lib.hid (NO.out (by rw [OK2.out, hmay, decide_eq_false he]; decide))
      have fe : ((encS r).toList != s.toList) = true := bne_yes2 he
      have fe2 : ((encS r).toList == s.toList) = false := beq_no he
      have fe3 : ¬ (encS r).toList = s.toList := fun e => he (list_inj e)
      clear NO YES OK2
      go_wp2_with (refine wpList_store_row rfl 32 _ _ rfl r0 zeroC rfl rfl 32 zeroC L6.out.res info_rec rfl (rec_one _ rfl rfl) ?_)
      exact bodyPost_ret (v := .tuple #[recV Rc.zero (.slice none 0 0) (.slice none 0 0), .int .i64 7]) (results_two Try.results18 _ _ r0 zeroC 7 rfl rfl (setRow_heap _ _ _ _ _ _ L6.out.res) Try.underlying32 info_rec) rfl (HN.out _ (by have q := below_setRow L6.out.below L6.out.hr zeroC; exact q))

end Go.Proofs.Ytadhophiannigaa.Rec
