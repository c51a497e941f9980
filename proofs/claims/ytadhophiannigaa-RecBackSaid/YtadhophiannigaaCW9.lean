/- Walks: which records are undone, are heavy; a record with lists of its own. -/
import Derived.Test.YtadhophiannigaaCW5
import Derived.Test.YtadhophiannigaaCA
import Derived.Deep.DeepCutAuto
namespace Go.Proofs.Ytadhophiannigaa.Rec
open Go.RowKit
attribute [local go_sem ↓] Go.wp_at_zero Go.wp_at_succ

set_option maxRecDepth 100000 in
set_option maxHeartbeats 1000000 in
theorem undone_any (r : Rc) (d t : Value) (w : World) :
    Calls Try.prog 16 #[recV r d t] w fun e w' => e = .returned (.bool (undoneC r)) ∧ Below w.heap.size w w' := by
  have T0 := Lib.hid (Bx.start w r d t)
  have e : undoneC r = (decide (r.kind = 2) && decide (0 < r.page)) := rfl
  generalize undoneC r = res at *
  obtain ⟨kind, tx, prev, page, slot, next, number, body, dirty, txns, ttx, tnum⟩ := r
  simp only at *
  have E := Lib.hid e
  clear e
  obtain ⟨a0, a1, a2, a3, a4, a5, a6, a7, a8, a9, a10, a11⟩ := T0.out.all
  unfold recV recC at *
  simp only at *
  by_cases h1 : kind = 2
  · subst h1
    go_enter Try.func16, Try.ntmps16
    go_wp2_with fail
    go_ret
    exact ⟨ret_bool (by rw [E.out, Bool.eq_iff_iff]; simp), T0.out.below⟩
  · have f : ((kind : Int) == 2) = false := by rw [beq_eq_false_iff_ne]; omega
    go_enter Try.func16, Try.ntmps16
    go_wp2_with fail
    go_ret
    exact ⟨ret_bool (by rw [E.out, decide_eq_false h1]; rfl), T0.out.below⟩

set_option maxRecDepth 100000 in
set_option maxHeartbeats 1000000 in
theorem heavy_any {w : World} {r : Rc} {d t : Value} (h : InR w r d t) :
    Calls Try.prog 7 #[recV r d t] w fun e w' => e = .returned (.bool (heavyC r)) ∧ Below w.heap.size w w' := by
  have T0 := Lib.hid (Bx.start w r d t)
  have e : heavyC r = (decide (8192 < r.body.size) || (decide (100 < r.dirty.length) || decide (100 < r.txns.length))) := rfl
  have l0 := h.wf.body
  have l1 := h.wf.dirty
  have l2 := h.wf.txns
  obtain ⟨ad, c, e1⟩ := h.di.form
  obtain ⟨ad2, c2, e2⟩ := h.ac.form
  subst e1 e2
  clear h
  generalize heavyC r = res at *
  have E := Lib.hid e
  clear e
  obtain ⟨n, hn⟩ : ∃ n, n = r.dirty.length := ⟨_, rfl⟩
  obtain ⟨m, hm⟩ : ∃ m, m = r.txns.length := ⟨_, rfl⟩
  rw [← hn, ← hm] at E
  rw [← hn] at l1 
  rw [← hm] at l2
  rw [← hn, ← hm] at T0
  rw [← hn, ← hm]
  clear hn hm
  obtain ⟨a0, a1, a2, a3, a4, a5, a6, a7, a8, a9, a10, a11⟩ := T0.out.all
  unfold recV recC at *
  have B := Lib.hid T0.out.below
  clear T0
  go_enter Try.func7, Try.ntmps7
  go_wp2_with fail
  all_goals
    go_ret
    exact ⟨ret_bool (by rw [E.out, Bool.eq_iff_iff]; simp only [Bool.or_eq_true, decide_eq_true_eq, eq_self, true_iff]; omega), B.out⟩
theorem heavy_no {r : Rc} (h : heavyC r = false) : r.body.size ≤ 8192 ∧ r.dirty.length ≤ 100 ∧ r.txns.length ≤ 100 := by
  simp only [heavyC, Bool.or_eq_false_iff, decide_eq_false_iff_not] at h
  omega

theorem info_rec : (Try.prog.info? 32).map (·.size) = some 12 := by kernel_rfl
theorem info_tab : (Try.prog.info? 30).map (·.size) = some 4 := by kernel_rfl
theorem IsDi.one {w : World} {v : Value} {l : List Di} (h : IsDi w v l) : v.oneCell' = true := by
  obtain ⟨a, c, rfl⟩ := h.form
  rfl
theorem IsAc.one {w : World} {v : Value} {l : List Ac} (h : IsAc w v l) : v.oneCell' = true := by
  obtain ⟨a, c, rfl⟩ := h.form
  rfl
theorem rec_one (r : Rc) {d t : Value} (h1 : d.oneCell' = true) (h2 : t.oneCell' = true) : (recC r d t).all (·.oneCell') = true := Array.all_eq_true_iff_forall_mem.2 (by
  intro v hv
  simp [recC] at hv
  rcases hv with rfl | rfl | rfl | rfl | rfl | rfl | rfl | rfl | rfl | rfl | rfl | rfl <;> first | rfl | assumption)
theorem tab_one (r : Rc) {d t : Value} (h1 : d.oneCell' = true) (h2 : t.oneCell' = true) : (tabC r d t).all (·.oneCell') = true := Array.all_eq_true_iff_forall_mem.2 (by
  intro v hv
  simp [tabC] at hv
  rcases hv with rfl | rfl | rfl | rfl <;> first | rfl | assumption)

/-- a box, and the result's -/
structure Br (W0 w : World) (g h : Nat) (r : Rc) (d t : Value) : Prop where
  a : Bx W0 w g r d t
  res : w.heap[h]? = some (.cells (recC Rc.zero (.slice none 0 0) (.slice none 0 0)) 32 (0, 0))
  ne : h ≠ g
  ge : W0.heap.size ≤ g
  hge : W0.heap.size ≤ h
theorem Br.later {W0 w w' : World} {g h : Nat} {r : Rc} {d t : Value} (s : Br W0 w g h r d t) (b : Below w.heap.size w w') : Br W0 w' g h r d t :=
  ⟨s.a.later b, (b.block h (Array.getElem?_eq_some_iff.1 s.res).1).trans s.res, s.ne, s.ge, s.hge⟩
theorem Br.start (w : World) (r : Rc) (d t : Value) : Br w ((w.alloc (.cells (recC r d t) 32)).alloc (.cells (recC Rc.zero (.slice none 0 0) (.slice none 0 0)) 32)) w.heap.size (w.heap.size + 1) r d t := by
  have t1 := Bx.start w r d t
  have b1 := below_new (w.alloc (.cells (recC r d t) 32)) (.cells (recC Rc.zero (.slice none 0 0) (.slice none 0 0)) 32)
  have z : (w.alloc (.cells (recC r d t) 32)).heap.size = w.heap.size + 1 := by simp
  have n1 := heap_alloc_new (w.alloc (.cells (recC r d t) 32)) (.cells (recC Rc.zero (.slice none 0 0) (.slice none 0 0)) 32)
  rw [z] at n1
  exact ⟨t1.later b1, n1, by omega, Nat.le_refl _, by omega⟩
theorem Br.grown {W0 w w' : World} {g h : Nat} {r : Rc} {d t : Value} {row : Option Nat} (s : Br W0 w g h r d t) (b : w.grownBy w' row) (hr : ∀ x, row = some x → W0.heap.size ≤ x ∧ x ≠ g ∧ x ≠ h) : Br W0 w' g h r d t :=
  ⟨⟨(b.block g (Array.getElem?_eq_some_iff.1 s.a.box).1 (fun e => (hr g e.symm).2.1 rfl)).trans s.a.box, s.a.below.grown b s.a.below.size (fun x hx => (hr x hx).1)⟩, (b.block h (Array.getElem?_eq_some_iff.1 s.res).1 (fun e => (hr h e.symm).2.2 rfl)).trans s.res, s.ne, s.ge, s.hge⟩
theorem Br.part {W0 w : World} {g h : Nat} {r r' : Rc} {d t d' t' : Value} (s : Br W0 w g h r d t) (j : Nat) (v : Value) (e : (recC r d t).setIfInBounds j v = recC r' d' t') : Br W0 (w.setCell ⟨g, j, none⟩ v) g h r' d' t' :=
  ⟨s.a.part s.ge j v e, by rw [heap_setCell_other _ _ _ _ (show h ≠ g from s.ne)]; exact s.res, s.ne, s.ge, s.hge⟩
theorem OwnDi.part {W0 w : World} {v : Value} {l : List Di} (s : OwnDi W0 w v l) {g : Nat} {cs : Array Value} {ty : TypeId} (hb : w.heap[g]? = some (.cells cs ty (0, 0))) (ht : ty ≠ 55) (j : Nat) (u : Value) : OwnDi W0 (w.setCell ⟨g, j, none⟩ u) v l :=
  s.far (by simp [World.setCell]) fun x hx => heap_setCell_other _ _ _ _ (s.ne hb ht x hx)
theorem OwnAc.part {W0 w : World} {v : Value} {l : List Ac} (s : OwnAc W0 w v l) {g : Nat} {cs : Array Value} {ty : TypeId} (hb : w.heap[g]? = some (.cells cs ty (0, 0))) (ht : ty ≠ 57) (j : Nat) (u : Value) : OwnAc W0 (w.setCell ⟨g, j, none⟩ u) v l :=
  s.far (by simp [World.setCell]) fun x hx => heap_setCell_other _ _ _ _ (s.ne hb ht x hx)

theorem OwnDi.setRow {W0 w : World} {v : Value} {l : List Di} (s : OwnDi W0 w v l) {g : Nat} {cs : Array Value} {ty : TypeId} (hb : w.heap[g]? = some (.cells cs ty (0, 0))) (ht : ty ≠ 55) (new : Array Value) : OwnDi W0 (w.setRow g new) v l :=
  s.far (by simp [World.setRow]) fun x hx => setRow_other _ _ _ _ (s.ne hb ht x hx)
theorem OwnAc.setRow {W0 w : World} {v : Value} {l : List Ac} (s : OwnAc W0 w v l) {g : Nat} {cs : Array Value} {ty : TypeId} (hb : w.heap[g]? = some (.cells cs ty (0, 0))) (ht : ty ≠ 57) (new : Array Value) : OwnAc W0 (w.setRow g new) v l :=
  s.far (by simp [World.setRow]) fun x hx => setRow_other _ _ _ _ (s.ne hb ht x hx)

/-- what a call leaves that yields a record -/
def RecP (r : Rc) (w : World) : Ending → World → Prop := fun e w' => ∃ d t, e = .returned (recV r d t) ∧ InR w' r d t ∧ Below w.heap.size w w'

set_option maxRecDepth 100000 in
set_option maxHeartbeats 4000000 in
theorem copied_any {w : World} {r : Rc} {d t : Value} (h : InR w r d t) (l1 : r.dirty.length ≤ 1000) (l2 : r.txns.length ≤ 1000) :
    Calls Try.prog 10 #[recV r d t] w (RecP r w) := by
  have T0 := Lib.hid (Br.start w r d t)
  have H := Lib.hid h
  have PO := Lib.hid (show ∀ e w', RecP r w e w' ↔ ∃ d t, e = .returned (recV r d t) ∧ InR w' r d t ∧ Below w.heap.size w w' from fun _ _ => Iff.rfl)
  clear h
  have S0 := Lib.hid ((H.out.di.later T0.out.a.below).src)
  have O0 := Lib.hid (OwnDi.nil w T0.out.a.below.size)
  obtain ⟨a0, a1, a2, a3, a4, a5, a6, a7, a8, a9, a10, a11⟩ := T0.out.a.all
  have fz := T0.out.a.fz 8
  unfold recV recC Rc.zero at *
  go_enter Try.func10, Try.ntmps10
  go_upto_region 1 with fail
  generalize hh : w.heap.size + 1 = hb at *
  clear hh
  generalize hg : w.heap.size = g at *
  generalize (w.alloc _).alloc _ = W at *
  go_wp2_with (first | (refine wpList_appDi (W0 := w) rfl _ _ rfl O0.out S0.out (by simp; omega) rfl rfl ?_; intro v1 w1 o1 g1; rw [List.nil_append] at o1; have O1 := Lib.hid o1; have T1 := Lib.hid (T0.out.grown g1 (fun x hx => by simp [Value.ownBlock] at hx)); clear o1 g1 a0 a1 a2 a3 a4 a5 a6 a7 a8 a9 a10 a11 fz O0 T0 S0; obtain ⟨a0, a1, a2, a3, a4, a5, a6, a7, a8, a9, a10, a11⟩ := T1.out.a.all; have fz := T1.out.a.fz 8; obtain ⟨ad1, c1, e1⟩ := O1.out.shape; subst e1; have T2 := Lib.hid (T1.out.part 8 (.slice ad1 r.dirty.length c1) (r' := r) (d' := .slice ad1 r.dirty.length c1) (t' := t) rfl); have O2 := Lib.hid (O1.out.part T1.out.a.box (by decide) 8 (.slice ad1 r.dirty.length c1)); clear T1 O1) | (refine wpList_appAc (W0 := w) rfl _ _ rfl (OwnAc.nil w T2.out.a.below.size) ((H.out.ac.later T2.out.a.below).src) (by simp; omega) rfl rfl ?_; intro v2 w2 o1 g1; rw [List.nil_append] at o1; have O3 := Lib.hid o1; have T3 := Lib.hid (T2.out.grown g1 (fun x hx => by simp [Value.ownBlock] at hx)); have OD := Lib.hid (O2.out.far g1.size (fun x hx => g1.block x (O2.out.lt x hx).2 (fun e => by simp [Value.ownBlock] at e))); clear o1 g1 a0 a1 a2 a3 a4 a5 a6 a7 a8 a9 a10 a11 fz T2 O2; obtain ⟨a0, a1, a2, a3, a4, a5, a6, a7, a8, a9, a10, a11⟩ := T3.out.a.all; have fz := T3.out.a.fz 9; obtain ⟨ad2, c2, e1⟩ := O3.out.shape; subst e1; have T4 := Lib.hid (T3.out.part 9 (.slice ad2 r.txns.length c2) (r' := r) (d' := .slice ad1 r.dirty.length c1) (t' := .slice ad2 r.txns.length c2) rfl); have O4 := Lib.hid (O3.out.part T3.out.a.box (by decide) 9 (.slice ad2 r.txns.length c2)); have O5 := Lib.hid (OD.out.part T3.out.a.box (by decide) 9 (.slice ad2 r.txns.length c2)); clear T3 O3 OD) | (refine wpList_store_row rfl 32 _ _ rfl hb (recC r (.slice ad1 r.dirty.length c1) (.slice ad2 r.txns.length c2)) rfl rfl 32 (recC Rc.zero (.slice none 0 0) (.slice none 0 0)) T4.out.res info_rec rfl (rec_one _ O5.out.is.one O4.out.is.one) ?_))
  have I5 := Lib.hid (O5.out.setRow T4.out.res (by decide) (recC r (.slice ad1 r.dirty.length c1) (.slice ad2 r.txns.length c2))).is
  have I4 := Lib.hid (O4.out.setRow T4.out.res (by decide) (recC r (.slice ad1 r.dirty.length c1) (.slice ad2 r.txns.length c2))).is
  have bb := below_setRow T4.out.a.below T4.out.hge (recC r (.slice ad1 r.dirty.length c1) (.slice ad2 r.txns.length c2))
  rw [hg] at bb
  have BB := Lib.hid bb
  exact bodyPost_ret (v := recV r (.slice ad1 r.dirty.length c1) (.slice ad2 r.txns.length c2)) (results_one Try.results10 _ _ hb (recC r (.slice ad1 r.dirty.length c1) (.slice ad2 r.txns.length c2)) rfl (setRow_heap _ _ _ _ _ _ T4.out.res) Try.underlying32 info_rec) rfl ((PO.out _ _).2 ⟨_, _, rfl, ⟨H.out.wf, I5.out, I4.out⟩, BB.out⟩)

end Go.Proofs.Ytadhophiannigaa.Rec
