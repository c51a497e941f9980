/- Walks: what a kind's record has; whose it may be; where it points. -/
import Derived.Test.YtadhophiannigaaCR
import Derived.Test.YtadhophiannigaaWA
import Derived.Laws.CopyOwn
namespace Go.Proofs.Ytadhophiannigaa.Rec
open Go.RowKit
attribute [local go_sem ↓] Go.wp_at_zero Go.wp_at_succ

def ptC (p : Pt) : Array Value := #[.bool p.owned, .bool p.nobodys, .bool p.roll, .bool p.next, .bool p.number, .bool p.body, .bool p.tables]
def ptV (p : Pt) : Value := .agg (ptC p)
/-- the box of what a kind's record has -/
structure Px (W0 w : World) (g : Nat) (p : Pt) : Prop where
  box : w.heap[g]? = some (.cells (ptC p) 49 (0, 0))
  below : Below W0.heap.size W0 w
theorem Px.later {W0 w w' : World} {g : Nat} {p : Pt} (h : Px W0 w g p) (b : Below w.heap.size w w') : Px W0 w' g p :=
  ⟨(b.block g (Array.getElem?_eq_some_iff.1 h.box).1).trans h.box, h.below.trans (b.mono h.below.size)⟩
theorem Px.make {W0 w : World} (p : Pt) (b : Below W0.heap.size W0 w) : Px W0 (w.alloc (.cells (ptC p) 49)) w.heap.size p := ⟨heap_alloc_new w _, b.alloc b.size _⟩
theorem Px.all {W0 w : World} {g : Nat} {p : Pt} (h : Px W0 w g p) : w.cell? ⟨g, 0, none⟩ = some (.bool p.owned) ∧ w.cell? ⟨g, 1, none⟩ = some (.bool p.nobodys) ∧ w.cell? ⟨g, 2, none⟩ = some (.bool p.roll) ∧ w.cell? ⟨g, 3, none⟩ = some (.bool p.next) ∧ w.cell? ⟨g, 4, none⟩ = some (.bool p.number) ∧ w.cell? ⟨g, 5, none⟩ = some (.bool p.body) ∧ w.cell? ⟨g, 6, none⟩ = some (.bool p.tables) := by
  refine ⟨?_, ?_, ?_, ?_, ?_, ?_, ?_⟩ <;> (rw [cell_of_row _ _ _ _ _ _ h.box]; rfl)

theorem results_one {fn : Func} {p : Tmp} {T : TypeId} {f : Array Field} (h : fn.results = #[.cell p T]) (tmps : Array Value) (w : World) (g : Nat) (cs : Array Value) (hp : tmps.getD p undef = .pointer (some ⟨g, 0, none⟩)) (hg : w.heap[g]? = some (.cells cs T (0, 0)))
    (hu : Try.prog.underlying T = some (.struct f)) (hi : (Try.prog.info? T).map (·.size) = some cs.size) : (results fn tmps).run Try.prog w = .ok (.agg cs) w := by
  have hp' : tmps[p]?.getD undef = .pointer (some ⟨g, 0, none⟩) := by simpa using hp
  simp [results, h, hp', asAddr, run_loadVar_row w g T T cs (0, 0) _ hg hu rfl hi]
theorem info_parts7 : (Try.prog.info? 49).map (·.size) = some 7 := by kernel_rfl
theorem pt_one (p : Pt) : (ptC p).all (·.oneCell') = true := Array.all_eq_true_iff_forall_mem.2 (by
  intro v hv
  simp [ptC] at hv
  rcases hv with rfl | rfl | rfl | rfl | rfl | rfl | rfl <;> rfl)
def ptZ : Pt := ⟨false, false, false, false, false, false, false⟩

set_option maxRecDepth 100000 in
set_option maxHeartbeats 1000000 in
theorem parts_at (k : Nat) (p : Pt) (w : World) (hk : k < 256) (hp : ptOf k = p)
    (h : k = 1 ∨ k = 5 ∨ k = 2 ∨ k = 3 ∨ k = 4 ∨ k = 6 ∨ k = 7 ∨ k = 8 ∨ (k ≠ 1 ∧ k ≠ 5 ∧ k ≠ 2 ∧ k ≠ 3 ∧ k ≠ 4 ∧ k ≠ 6 ∧ k ≠ 7 ∧ k ≠ 8)) :
    Calls Try.prog 19 #[.int .u8 (k : Int)] w fun e w' => e = .returned (ptV p) ∧ Below w.heap.size w w' := by
  have HB := Lib.hid (heap_alloc_new w (.cells (ptC ptZ) 49))
  have HL := Lib.hid (below_new w (.cells (ptC ptZ) 49))
  unfold ptC ptZ at HB HL
  rcases h with rfl | rfl | rfl | rfl | rfl | rfl | rfl | rfl | ⟨n1, n2, n3, n4, n5, n6, n7, n8⟩
  all_goals
    first
      | (have hp2 := hp
         simp only [ptOf, Nat.reduceEqDiff, if_false, if_true] at hp2
         subst hp2)
      | (have hp2 : ptZ = p := by rw [← hp]; unfold ptOf ptZ; rw [if_neg n1, if_neg n2, if_neg n3, if_neg n4, if_neg n5, if_neg n6, if_neg n7, if_neg n8]
         subst hp2)
    clear hp
    go_enter Try.func19, Try.ntmps19
    go_wp2_with (refine wpList_store_row rfl 49 _ _ rfl w.heap.size (ptC ⟨_, _, _, _, _, _, _⟩) rfl rfl 49 (ptC ptZ) HB.out info_parts7 rfl (pt_one _) ?_)
    exact bodyPost_ret (v := ptV ⟨_, _, _, _, _, _, _⟩) (results_one Try.results19 _ _ w.heap.size (ptC ⟨_, _, _, _, _, _, _⟩) rfl (setRow_heap _ _ _ _ _ _ HB.out) Try.underlying49 info_parts7) rfl ⟨rfl, below_setRow HL.out (Nat.le_refl _) _⟩
theorem parts_any (k : Nat) (w : World) (hk : k < 256) :
    Calls Try.prog 19 #[.int .u8 (k : Int)] w fun e w' => e = .returned (ptV (ptOf k)) ∧ Below w.heap.size w w' :=
  parts_at k (ptOf k) w hk rfl (by omega)

set_option maxRecDepth 100000 in
set_option maxHeartbeats 1000000 in
theorem roll_any (page slot : Nat) (has : Bool) (w : World) :
    Calls Try.prog 36 #[.agg #[.int .u32 (page : Int), .int .u16 (slot : Int)], .bool has] w fun e w' => e = .returned (.bool (mayRoll page slot has)) ∧ Below w.heap.size w w' := by
  have B := Lib.hid (below_new w (.cells #[.int .u32 (page : Int), .int .u16 (slot : Int)] 26))
  have e : mayRoll page slot has = if page = 0 then decide (slot = 0) else has := rfl
  generalize mayRoll page slot has = b at *
  have E := Lib.hid e
  clear e
  rcases Nat.eq_zero_or_pos page with rfl | hp
  · go_enter Try.func36, Try.ntmps36
    go_wp2_with fail
    go_ret
    exact ⟨ret_bool (by rw [E.out, Bool.eq_iff_iff]; simp only [if_true, beq_iff_eq, decide_eq_true_eq]; omega), B.out⟩
  · have e : b = has := by rw [E.out, if_neg (by omega)]
    have EE := Lib.hid e
    clear e
    go_enter Try.func36, Try.ntmps36
    go_wp2_with fail
    go_ret
    exact ⟨ret_bool EE.out.symm, B.out⟩

/-- the boxes of a record, and of what its kind has -/
structure Rp (W0 w : World) (g q : Nat) (r : Rc) (d t : Value) (p : Pt) : Prop where
  a : Bx W0 w g r d t
  b : Px W0 w q p
theorem Rp.start (w : World) (r : Rc) (d t : Value) (p : Pt) : Rp w ((w.alloc (.cells (recC r d t) 32)).alloc (.cells (ptC p) 49)) w.heap.size (w.heap.size + 1) r d t p := by
  have t1 := Bx.start w r d t
  have b1 := below_new (w.alloc (.cells (recC r d t) 32)) (.cells (ptC p) 49)
  have z : (w.alloc (.cells (recC r d t) 32)).heap.size = w.heap.size + 1 := by simp
  have t2 := Px.make (w := w.alloc (.cells (recC r d t) 32)) p t1.below
  rw [z] at t2
  exact ⟨t1.later b1, t2⟩
theorem Rp.later {W0 w w' : World} {g q : Nat} {r : Rc} {d t : Value} {p : Pt} (h : Rp W0 w g q r d t p) (b : Below w.heap.size w w') : Rp W0 w' g q r d t p := ⟨h.a.later b, h.b.later b⟩

set_option maxRecDepth 100000 in
set_option maxHeartbeats 1000000 in
theorem tx_any (r : Rc) (d t : Value) (p : Pt) (w : World) :
    Calls Try.prog 27 #[recV r d t, ptV p] w fun e w' => e = .returned (.bool (mayTx r p)) ∧ Below w.heap.size w w' := by
  have T0 := Lib.hid (Rp.start w r d t p)
  have e : mayTx r p = if r.tx = 0 then p.nobodys && decide (r.prev = 0) else p.owned := rfl
  obtain ⟨kind, tx, prev, page, slot, next, number, body, dirty, txns, ttx, tnum⟩ := r
  obtain ⟨owned, nobodys, roll, pnext, pnumber, pbody, tables⟩ := p
  generalize mayTx _ _ = b at *
  have E := Lib.hid e
  clear e
  obtain ⟨a0, a1, a2, a3, a4, a5, a6, a7, a8, a9, a10, a11⟩ := T0.out.a.all
  obtain ⟨c0, c1, c2, c3, c4, c5, c6⟩ := T0.out.b.all
  unfold recV recC ptV ptC at *
  have B := Lib.hid T0.out.b.below
  clear T0
  simp only at *
  by_cases h : tx = 0
  · subst h
    cases nobodys with
    | false =>
      go_enter Try.func27, Try.ntmps27
      go_wp2_with fail
      go_ret
      exact ⟨ret_bool (by rw [E.out]; rfl), B.out⟩
    | true =>
      go_enter Try.func27, Try.ntmps27
      go_wp2_with fail
      go_ret
      exact ⟨ret_bool (by rw [E.out, Bool.eq_iff_iff]; simp only [if_true, Bool.true_and, beq_iff_eq, decide_eq_true_eq]; omega), B.out⟩
  · have e := E.out
    rw [if_neg h] at e
    have EE := Lib.hid e
    clear e E
    go_enter Try.func27, Try.ntmps27
    go_wp2_with fail
    go_ret
    exact ⟨ret_bool EE.out.symm, B.out⟩

end Go.Proofs.Ytadhophiannigaa.Rec
