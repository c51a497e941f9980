/- Walks: a record is read. -/
import Derived.Test.YtadhophiannigaaCW11
import Derived.Test.YtadhophiannigaaCW8
namespace Go.Proofs.Ytadhophiannigaa.Rec
open Go.RowKit
attribute [local go_sem ↓] Go.wp_at_zero Go.wp_at_succ

theorem OwnDi.base {W0 W1 w : World} {v : Value} {l : List Di} (h : OwnDi W1 w v l) (hb : W0.heap.size ≤ W1.heap.size) : OwnDi W0 w v l := by
  refine ⟨⟨h.own.1, ?_⟩, Nat.le_trans hb h.size⟩
  rcases h.own.2 with h1 | ⟨g, cap, cur, h1, h2, h3⟩
  · exact .inl h1
  · exact .inr ⟨g, cap, cur, h1, Nat.le_trans hb h2, h3⟩
theorem OwnAc.base {W0 W1 w : World} {v : Value} {l : List Ac} (h : OwnAc W1 w v l) (hb : W0.heap.size ≤ W1.heap.size) : OwnAc W0 w v l := by
  refine ⟨⟨h.own.1, ?_⟩, Nat.le_trans hb h.size⟩
  rcases h.own.2 with h1 | ⟨g, cap, cur, h1, h2, h3⟩
  · exact .inl h1
  · exact .inr ⟨g, cap, cur, h1, Nat.le_trans hb h2, h3⟩

def zeroC : Array Value := recC Rc.zero (.slice none 0 0) (.slice none 0 0)
/-- a record that is being read -/
structure Rd (W0 w : World) (q p h k : Nat) (s : ByteArray) (t : Nat) (b : Bool) (g r0 : Nat) (r : Rc) (d u : Value) : Prop where
  st : St W0 w q p h k s t b
  box : w.heap[g]? = some (.cells (recC r d u) 32 (0, 0))
  res : w.heap[r0]? = some (.cells zeroC 32 (0, 0))
  od : OwnDi W0 w d r.dirty
  oa : OwnAc W0 w u r.txns
  ne : r0 ≠ g
  hg : W0.heap.size ≤ g
  hr : W0.heap.size ≤ r0
section
variable {W0 w w' : World} {q p h k : Nat} {s : ByteArray} {t t' : Nat} {b b' : Bool} {g r0 : Nat} {r r' : Rc} {d u d' u' : Value}
theorem Rd.later (L : Rd W0 w q p h k s t b g r0 r d u) (c : Below w.heap.size w w') : Rd W0 w' q p h k s t b g r0 r d u :=
  have on : ∀ {x : Nat} {o : Obj}, w.heap[x]? = some o → w'.heap[x]? = some o := fun hx => (c.block _ (Array.getElem?_eq_some_iff.1 hx).1).trans hx
  ⟨L.st.later c, on L.box, on L.res, L.od.later c, L.oa.later c, L.ne, L.hg, L.hr⟩
theorem Rd.tk (L : Rd W0 w q p h k s t b g r0 r d u) (T : Tk W0 w w' q p h k s t' b') : Rd W0 w' q p h k s t' b' g r0 r d u := by
  have n1 := block_ne L.box L.st.pos (by decide)
  have n2 := block_ne L.box L.st.whole (by decide)
  have n3 := block_ne L.res L.st.pos (by decide)
  have n4 := block_ne L.res L.st.whole (by decide)
  have n5 := fun x hx => L.od.ne L.st.pos (by decide) x hx
  have n6 := fun x hx => L.od.ne L.st.whole (by decide) x hx
  have n7 := fun x hx => L.oa.ne L.st.pos (by decide) x hx
  have n8 := fun x hx => L.oa.ne L.st.whole (by decide) x hx
  exact ⟨T.st, T.kept L.box n1 n2, T.kept L.res n3 n4, L.od.far T.touch.size fun x hx => T.touch.block x (L.od.lt x hx).2 (by rintro (e | e); exact n5 x hx e; exact n6 x hx e), L.oa.far T.touch.size fun x hx => T.touch.block x (L.oa.lt x hx).2 (by rintro (e | e); exact n7 x hx e; exact n8 x hx e), L.ne, L.hg, L.hr⟩
theorem Rd.part (L : Rd W0 w q p h k s t b g r0 r d u) (j : Nat) (v : Value) (e : (recC r d u).setIfInBounds j v = recC r' d' u') (hd : r'.dirty = r.dirty) (ha : r'.txns = r.txns) (e1 : d' = d) (e2 : u' = u) : Rd W0 (w.setCell ⟨g, j, none⟩ v) q p h k s t b g r0 r' d' u' := by
  subst e1 e2
  refine ⟨L.st.beside (F := fun x => x = g) (Touch.setCell (F := fun x => x = g) (Touch.refl _ w) (x := ⟨g, j, none⟩) rfl v) ?_, by rw [heap_setCell_same w g j _ _ _ L.box, e], by rw [heap_setCell_other _ _ _ _ (show r0 ≠ g from L.ne)]; exact L.res, by rw [hd]; exact L.od.part L.box (by decide) j v, by rw [ha]; exact L.oa.part L.box (by decide) j v, L.ne, L.hg, L.hr⟩
  rintro x rfl
  exact ⟨block_ne L.box L.st.str (by decide), block_ne L.box L.st.pos (by decide), block_ne L.box L.st.whole (by decide), block_ne L.box L.st.take (by decide), L.hg⟩
theorem Rd.tabs {m : Rc} (L : Rd W0 w q p h k s t b g r0 r d u) (O : OwnDi W0 w d' m.dirty) (A : OwnAc W0 w u' m.txns) :
    Rd W0 ((((w.setCell ⟨g, 8, none⟩ d').setCell ⟨g, 9, none⟩ u').setCell ⟨g, 10, none⟩ (.int .u64 (m.ttx : Int))).setCell ⟨g, 11, none⟩ (.int .u64 (m.tnum : Int))) q p h k s t b g r0 { r with dirty := m.dirty, txns := m.txns, ttx := m.ttx, tnum := m.tnum } d' u' := by
  have h1 := heap_setCell_same _ g 8 _ _ d' L.box
  have h2 := heap_setCell_same _ g 9 _ _ u' h1
  have h3 := heap_setCell_same _ g 10 _ _ (.int .u64 (m.ttx : Int)) h2
  have h4 := heap_setCell_same _ g 11 _ _ (.int .u64 (m.tnum : Int)) h3
  have T : Touch (fun x => x = g) w ((((w.setCell ⟨g, 8, none⟩ d').setCell ⟨g, 9, none⟩ u').setCell ⟨g, 10, none⟩ (.int .u64 (m.ttx : Int))).setCell ⟨g, 11, none⟩ (.int .u64 (m.tnum : Int))) :=
    Touch.setCell (F := fun x => x = g) (Touch.setCell (F := fun x => x = g) (Touch.setCell (F := fun x => x = g) (Touch.setCell (F := fun x => x = g) (Touch.refl _ w) (x := ⟨g, 8, none⟩) rfl _) (x := ⟨g, 9, none⟩) rfl _) (x := ⟨g, 10, none⟩) rfl _) (x := ⟨g, 11, none⟩) rfl _
  have hF : ∀ x, x = g → x ≠ q ∧ x ≠ p ∧ x ≠ h ∧ x ≠ k ∧ W0.heap.size ≤ x := by
    rintro x rfl
    exact ⟨block_ne L.box L.st.str (by decide), block_ne L.box L.st.pos (by decide), block_ne L.box L.st.whole (by decide), block_ne L.box L.st.take (by decide), L.hg⟩
  exact ⟨L.st.beside T hF, by rw [h4]; rfl, (T.block _ (Array.getElem?_eq_some_iff.1 L.res).1 L.ne).trans L.res, O.far T.size fun x hx => T.block x (O.lt x hx).2 (O.ne L.box (by decide) x hx), A.far T.size fun x hx => T.block x (A.lt x hx).2 (A.ne L.box (by decide) x hx), L.ne, L.hg, L.hr⟩
theorem Rd.cells (L : Rd W0 w q p h k s t b g r0 r d u) : (w.cell? ⟨g, 0, none⟩ = some (.int .u8 (r.kind : Int)) ∧ w.cell? ⟨g, 1, none⟩ = some (.int .u64 (r.tx : Int)) ∧ w.cell? ⟨g, 2, none⟩ = some (.int .u64 (r.prev : Int)) ∧ w.cell? ⟨g, 3, none⟩ = some (.int .u32 (r.page : Int)) ∧ w.cell? ⟨g, 4, none⟩ = some (.int .u16 (r.slot : Int)) ∧ w.cell? ⟨g, 5, none⟩ = some (.int .u64 (r.next : Int)) ∧ w.cell? ⟨g, 6, none⟩ = some (.int .u64 (r.number : Int)) ∧ w.cell? ⟨g, 7, none⟩ = some (.string r.body) ∧ w.cell? ⟨g, 8, none⟩ = some (d) ∧ w.cell? ⟨g, 9, none⟩ = some (u) ∧ w.cell? ⟨g, 10, none⟩ = some (.int .u64 (r.ttx : Int)) ∧ w.cell? ⟨g, 11, none⟩ = some (.int .u64 (r.tnum : Int))) := by
  refine ⟨?_, ?_, ?_, ?_, ?_, ?_, ?_, ?_, ?_, ?_, ?_, ?_⟩ <;> (rw [cell_of_row _ _ _ _ _ _ L.box]; rfl)
theorem Rd.zero (L : Rd W0 w q p h k s t b g r0 r d u) : (w.cell? ⟨r0, 0, none⟩ = some (.int .u8 (Rc.zero.kind : Int)) ∧ w.cell? ⟨r0, 1, none⟩ = some (.int .u64 (Rc.zero.tx : Int)) ∧ w.cell? ⟨r0, 2, none⟩ = some (.int .u64 (Rc.zero.prev : Int)) ∧ w.cell? ⟨r0, 3, none⟩ = some (.int .u32 (Rc.zero.page : Int)) ∧ w.cell? ⟨r0, 4, none⟩ = some (.int .u16 (Rc.zero.slot : Int)) ∧ w.cell? ⟨r0, 5, none⟩ = some (.int .u64 (Rc.zero.next : Int)) ∧ w.cell? ⟨r0, 6, none⟩ = some (.int .u64 (Rc.zero.number : Int)) ∧ w.cell? ⟨r0, 7, none⟩ = some (.string Rc.zero.body) ∧ w.cell? ⟨r0, 8, none⟩ = some ((.slice none 0 0)) ∧ w.cell? ⟨r0, 9, none⟩ = some ((.slice none 0 0)) ∧ w.cell? ⟨r0, 10, none⟩ = some (.int .u64 (Rc.zero.ttx : Int)) ∧ w.cell? ⟨r0, 11, none⟩ = some (.int .u64 (Rc.zero.tnum : Int))) := by
  refine ⟨?_, ?_, ?_, ?_, ?_, ?_, ?_, ?_, ?_, ?_, ?_, ?_⟩ <;> (rw [cell_of_row _ _ _ _ _ _ L.res]; rfl)
theorem Rd.fz (L : Rd W0 w q p h k s t b g r0 r d u) (j : Nat) : w.frozen? ⟨g, j, none⟩ = false := frozen_of_row _ _ _ _ _ L.box
end
theorem Rd.start {W0 w : World} {q p h k : Nat} {s : ByteArray} {t : Nat} {b : Bool} {r0 : Nat} (S : St W0 w q p h k s t b) (hres : w.heap[r0]? = some (.cells zeroC 32 (0, 0))) (hr : W0.heap.size ≤ r0) (r : Rc) (h1 : r.dirty = []) (h2 : r.txns = []) :
    Rd W0 (w.alloc (.cells (recC r (.slice none 0 0) (.slice none 0 0)) 32)) q p h k s t b w.heap.size r0 r (.slice none 0 0) (.slice none 0 0) := by
  have c := below_new w (.cells (recC r (.slice none 0 0) (.slice none 0 0)) 32)
  have hl := (Array.getElem?_eq_some_iff.1 hres).1
  exact ⟨S.later c, heap_alloc_new _ _, (c.block _ hl).trans hres, by rw [h1]; exact OwnDi.nil W0 (Nat.le_trans S.below.size c.size), by rw [h2]; exact OwnAc.nil W0 (Nat.le_trans S.below.size c.size), by omega, S.below.size, hr⟩
/-- the text's box, the result's, the place, whether all was there, the closure -/
def W5 (w : World) (s : ByteArray) : World := ((((w.alloc (.cells #[.string s] 9)).alloc (.cells zeroC 32)).alloc (.cells #[.int .i64 0] 3)).alloc (.cells #[.bool true] 4)).alloc (.cells #[takeF w.heap.size (w.heap.size + 1 + 1) (w.heap.size + 1 + 1 + 1)] 74)
theorem St.start (w : World) (s : ByteArray) : St w (W5 w s) w.heap.size (w.heap.size + 1 + 1) (w.heap.size + 1 + 1 + 1) (w.heap.size + 1 + 1 + 1 + 1) s 0 true ∧ (W5 w s).heap[w.heap.size + 1]? = some (.cells zeroC 32 (0, 0)) := by
  unfold W5
  obtain ⟨w1, h1⟩ : ∃ x, x = w.alloc (.cells #[.string s] 9) := ⟨_, rfl⟩
  obtain ⟨w2, h2⟩ : ∃ x, x = w1.alloc (.cells zeroC 32) := ⟨_, rfl⟩
  obtain ⟨w3, h3⟩ : ∃ x, x = w2.alloc (.cells #[.int .i64 0] 3) := ⟨_, rfl⟩
  obtain ⟨w4, h4⟩ : ∃ x, x = w3.alloc (.cells #[.bool true] 4) := ⟨_, rfl⟩
  obtain ⟨w5, h5⟩ : ∃ x, x = w4.alloc (.cells #[takeF w.heap.size (w.heap.size + 1 + 1) (w.heap.size + 1 + 1 + 1)] 74) := ⟨_, rfl⟩
  rw [← h1, ← h2, ← h3, ← h4, ← h5]
  have z1 : w1.heap.size = w.heap.size + 1 := by rw [h1]; simp
  have z2 : w2.heap.size = w.heap.size + 1 + 1 := by rw [h2]; simp [z1]
  have z3 : w3.heap.size = w.heap.size + 1 + 1 + 1 := by rw [h3]; simp [z2]
  have z4 : w4.heap.size = w.heap.size + 1 + 1 + 1 + 1 := by rw [h4]; simp [z3]
  have b1 : Below w.heap.size w w1 := by rw [h1]; exact below_new _ _
  have b2 : Below w1.heap.size w1 w2 := by rw [h2]; exact below_new _ _
  have b3 : Below w2.heap.size w2 w3 := by rw [h3]; exact below_new _ _
  have b4 : Below w3.heap.size w3 w4 := by rw [h4]; exact below_new _ _
  have b5 : Below w4.heap.size w4 w5 := by rw [h5]; exact below_new _ _
  have n1 : w1.heap[w.heap.size]? = some (.cells #[.string s] 9 (0, 0)) := by rw [h1]; exact heap_alloc_new _ _
  have n2 : w2.heap[w.heap.size + 1]? = some (.cells zeroC 32 (0, 0)) := by rw [h2, ← z1]; exact heap_alloc_new _ _
  have n3 : w3.heap[w.heap.size + 1 + 1]? = some (.cells #[.int .i64 0] 3 (0, 0)) := by rw [h3, ← z2]; exact heap_alloc_new _ _
  have n4 : w4.heap[w.heap.size + 1 + 1 + 1]? = some (.cells #[.bool true] 4 (0, 0)) := by rw [h4, ← z3]; exact heap_alloc_new _ _
  have n5 : w5.heap[w.heap.size + 1 + 1 + 1 + 1]? = some (.cells #[takeF w.heap.size (w.heap.size + 1 + 1) (w.heap.size + 1 + 1 + 1)] 74 (0, 0)) := by rw [h5, ← z4]; exact heap_alloc_new _ _
  have b : Below w.heap.size w w5 := (((b1.trans (b2.mono b1.size)).trans (b3.mono (by omega))).trans (b4.mono (by omega))).trans (b5.mono (by omega))
  refine ⟨⟨?_, ?_, ?_, n5, b, by omega, by omega⟩, ?_⟩
  · exact (b5.block _ (by omega)).trans ((b4.block _ (by omega)).trans ((b3.block _ (by omega)).trans ((b2.block _ (by omega)).trans n1)))
  · exact (b5.block _ (by omega)).trans ((b4.block _ (by omega)).trans n3)
  · exact (b5.block _ (by omega)).trans n4
  · exact (b5.block _ (by omega)).trans ((b4.block _ (by omega)).trans ((b3.block _ (by omega)).trans n2))
theorem pt_cells {w : World} {g : Nat} {p : Pt} (h : w.heap[g]? = some (.cells (ptC p) 49 (0, 0))) : w.cell? ⟨g, 0, none⟩ = some (.bool p.owned) ∧ w.cell? ⟨g, 1, none⟩ = some (.bool p.nobodys) ∧ w.cell? ⟨g, 2, none⟩ = some (.bool p.roll) ∧ w.cell? ⟨g, 3, none⟩ = some (.bool p.next) ∧ w.cell? ⟨g, 4, none⟩ = some (.bool p.number) ∧ w.cell? ⟨g, 5, none⟩ = some (.bool p.body) ∧ w.cell? ⟨g, 6, none⟩ = some (.bool p.tables) := by
  refine ⟨?_, ?_, ?_, ?_, ?_, ?_, ?_⟩ <;> (rw [cell_of_row _ _ _ _ _ _ h]; rfl)
theorem rec_cells {w : World} {g : Nat} {r : Rc} {d u : Value} (h : w.heap[g]? = some (.cells (recC r d u) 32 (0, 0))) : (w.cell? ⟨g, 0, none⟩ = some (.int .u8 (r.kind : Int)) ∧ w.cell? ⟨g, 1, none⟩ = some (.int .u64 (r.tx : Int)) ∧ w.cell? ⟨g, 2, none⟩ = some (.int .u64 (r.prev : Int)) ∧ w.cell? ⟨g, 3, none⟩ = some (.int .u32 (r.page : Int)) ∧ w.cell? ⟨g, 4, none⟩ = some (.int .u16 (r.slot : Int)) ∧ w.cell? ⟨g, 5, none⟩ = some (.int .u64 (r.next : Int)) ∧ w.cell? ⟨g, 6, none⟩ = some (.int .u64 (r.number : Int)) ∧ w.cell? ⟨g, 7, none⟩ = some (.string r.body) ∧ w.cell? ⟨g, 8, none⟩ = some (d) ∧ w.cell? ⟨g, 9, none⟩ = some (u) ∧ w.cell? ⟨g, 10, none⟩ = some (.int .u64 (r.ttx : Int)) ∧ w.cell? ⟨g, 11, none⟩ = some (.int .u64 (r.tnum : Int))) := by
  refine ⟨?_, ?_, ?_, ?_, ?_, ?_, ?_, ?_, ?_, ?_, ?_, ?_⟩ <;> (rw [cell_of_row _ _ _ _ _ _ h]; rfl)
theorem results_bool {fn : Func} {p k : Tmp} {T : TypeId} {f : Array Field} (h : fn.results = #[.cell p T, .tmp k]) (tmps : Array Value) (w : World) (g : Nat) (cs : Array Value) (c : Bool) (hp : tmps.getD p undef = .pointer (some ⟨g, 0, none⟩)) (hk : tmps.getD k undef = .bool c) (hg : w.heap[g]? = some (.cells cs T (0, 0)))
    (hu : Try.prog.underlying T = some (.struct f)) (hi : (Try.prog.info? T).map (·.size) = some cs.size) : (results fn tmps).run Try.prog w = .ok (.tuple #[.agg cs, .bool c]) w := by
  have hp' : tmps[p]?.getD undef = .pointer (some ⟨g, 0, none⟩) := by simpa using hp
  have hk' : tmps[k]?.getD undef = .bool c := by simpa using hk
  simp [results, h, hp', hk', asAddr, run_loadVar_row w g T T cs (0, 0) _ hg hu rfl hi]
theorem results_two {fn : Func} {p k : Tmp} {T : TypeId} {f : Array Field} (h : fn.results = #[.cell p T, .tmp k]) (tmps : Array Value) (w : World) (g : Nat) (cs : Array Value) (c : Int) (hp : tmps.getD p undef = .pointer (some ⟨g, 0, none⟩)) (hk : tmps.getD k undef = .int .i64 c) (hg : w.heap[g]? = some (.cells cs T (0, 0)))
    (hu : Try.prog.underlying T = some (.struct f)) (hi : (Try.prog.info? T).map (·.size) = some cs.size) : (results fn tmps).run Try.prog w = .ok (.tuple #[.agg cs, .int .i64 c]) w := by
  have hp' : tmps[p]?.getD undef = .pointer (some ⟨g, 0, none⟩) := by simpa using hp
  have hk' : tmps[k]?.getD undef = .int .i64 c := by simpa using hk
  simp [results, h, hp', hk', asAddr, run_loadVar_row w g T T cs (0, 0) _ hg hu rfl hi]
/-- a record whose lists are the call's own -/
structure OwnR (W0 w : World) (r : Rc) (d u : Value) : Prop where
  wf : r.wf
  di : OwnDi W0 w d r.dirty
  ac : OwnAc W0 w u r.txns
theorem OwnR.later {W0 w w' : World} {r : Rc} {d u : Value} (h : OwnR W0 w r d u) (b : Below w.heap.size w w') : OwnR W0 w' r d u := ⟨h.wf, h.di.later b, h.ac.later b⟩
theorem OwnR.is {W0 w : World} {r : Rc} {d u : Value} (h : OwnR W0 w r d u) : InR w r d u := ⟨h.wf, h.di.is, h.ac.is⟩
theorem OwnR.setRow {W0 w : World} {r : Rc} {d u : Value} (h : OwnR W0 w r d u) {g : Nat} {cs : Array Value} (hb : w.heap[g]? = some (.cells cs 32 (0, 0))) (new : Array Value) : OwnR W0 (w.setRow g new) r d u := ⟨h.wf, h.di.setRow hb (by decide) new, h.ac.setRow hb (by decide) new⟩
/-- what a reading leaves -/
def ReadP (s : ByteArray) (w : World) : Ending → World → Prop := fun e w' => ∃ d u, e = .returned (.tuple #[recV (rdC s) d u, .bool (whB s)]) ∧ OwnR w w' (rdC s) d u ∧ Below w.heap.size w w'

set_option maxRecDepth 100000 in
set_option maxHeartbeats 4000000 in
theorem read_any (s : ByteArray) (w : World) (hs : s.size ≤ 140737488351232) : Calls Try.prog 31 #[.string s] w (ReadP s w) := by
  have S0 := Lib.hid (St.start w s)
  have hsf1 := fun (a : Addr) (c : Array Value) (w : World) => run_store Try.prog w a (.func (.func 40) #[] c) .plain rfl
  have PO := Lib.hid (show ∀ e w', ReadP s w e w' ↔ ∃ d u, e = .returned (.tuple #[recV (rdC s) d u, .bool (whB s)]) ∧ OwnR w w' (rdC s) d u ∧ Below w.heap.size w w' from fun _ _ => Iff.rfl)
  have WF := Lib.hid (rdC_wf hs)
  have Q := Lib.hid (q_le s)
  have HS := Lib.hid hs
  clear hs
  go_enter Try.func31, Try.ntmps31
  go_wp2_with fail
  clear hsf1
  change Calls _ _ _ (W5 w s) _
  generalize W5 w s = W at *
  obtain ⟨S1, R1⟩ := S0.out
  have S1 := Lib.hid S1
  have R1 := Lib.hid R1
  clear S0
  have NR0 := Lib.hid (show w.heap.size ≤ w.heap.size + 1 by omega)
  generalize w.heap.size + 1 + 1 + 1 + 1 = k at *
  generalize w.heap.size + 1 + 1 + 1 = h at *
  generalize w.heap.size + 1 + 1 = p at *
  generalize w.heap.size + 1 = r0 at *
  generalize hq : w.heap.size = q at S1 NR0 ⊢
  have N1 := Lib.hid (fun (W : World) (t : Nat) (b : Bool) (S : St w W q p h k s t b) (ht : t ≤ s.size) => (show Calls Try.prog 42 #[.int .i64 1, .pointer (some ⟨k, 0, none⟩)] W fun e w' => e = .returned (.int .u64 (tkN s t 1 : Int)) ∧ Tk w W w' q p h k s (tkT s t 1) (b && tkB s t 1) from num_any S 1 HS.out ht (by decide) (by decide)))
  have N8 := Lib.hid (fun (W : World) (t : Nat) (b : Bool) (S : St w W q p h k s t b) (ht : t ≤ s.size) => (show Calls Try.prog 42 #[.int .i64 8, .pointer (some ⟨k, 0, none⟩)] W fun e w' => e = .returned (.int .u64 (tkN s t 8 : Int)) ∧ Tk w W w' q p h k s (tkT s t 8) (b && tkB s t 8) from num_any S 8 HS.out ht (by decide) (by decide)))
  have N4 := Lib.hid (fun (W : World) (t : Nat) (b : Bool) (S : St w W q p h k s t b) (ht : t ≤ s.size) => (show Calls Try.prog 42 #[.int .i64 4, .pointer (some ⟨k, 0, none⟩)] W fun e w' => e = .returned (.int .u64 (tkN s t 4 : Int)) ∧ Tk w W w' q p h k s (tkT s t 4) (b && tkB s t 4) from num_any S 4 HS.out ht (by decide) (by decide)))
  have N2 := Lib.hid (fun (W : World) (t : Nat) (b : Bool) (S : St w W q p h k s t b) (ht : t ≤ s.size) => (show Calls Try.prog 42 #[.int .i64 2, .pointer (some ⟨k, 0, none⟩)] W fun e w' => e = .returned (.int .u64 (tkN s t 2 : Int)) ∧ Tk w W w' q p h k s (tkT s t 2) (b && tkB s t 2) from num_any S 2 HS.out ht (by decide) (by decide)))
  refine (N1.out _ _ _ S1.out (Nat.zero_le _)).mono ?_
  rintro e w2 ⟨rfl, T2⟩
  have S2 := Lib.hid T2.st
  have R2 := Lib.hid (T2.kept R1.out (block_ne R1.out S1.out.pos (by decide)) (block_ne R1.out S1.out.whole (by decide)))
  clear T2 S1 R1
  go_wp2_with fail
  refine (N8.out _ _ _ S2.out Q.out.1).mono ?_
  rintro e w3 ⟨rfl, T3⟩
  have S3 := Lib.hid T3.st
  have R3 := Lib.hid (T3.kept R2.out (block_ne R2.out S2.out.pos (by decide)) (block_ne R2.out S2.out.whole (by decide)))
  clear T3 S2 R2
  go_wp2_with fail
  refine (N8.out _ _ _ S3.out Q.out.2.1).mono ?_
  rintro e w4 ⟨rfl, T4⟩
  have S4 := Lib.hid (show St w w4 q p h k s (q3 s) (hB s) from T4.st)
  have R4 := Lib.hid (T4.kept R3.out (block_ne R3.out S3.out.pos (by decide)) (block_ne R3.out S3.out.whole (by decide)))
  clear T4 S3 R3 N1
  obtain ⟨K, hK⟩ : ∃ K, K = tkN s 0 1 := ⟨_, rfl⟩
  have wk : IntKind.u8.wrap (K : Int) = (K : Int) := by have := tkN_lt s 0 1; rw [IntKind.wrap_u8]; omega
  have wk2 : (K : Int) % 256 = (K : Int) := by have := tkN_lt s 0 1; omega
  have K256 : K < 256 := by have := tkN_lt s 0 1; omega
  have HK : Hid (kd s = K) := Lib.hid hK.symm
  have KP := Lib.hid (fun W => parts_any K W K256)
  rw [← hK] at *
  have L0 := Lib.hid (Rd.start S4.out R4.out (by rw [hq]; exact NR0.out) (rdH s) rfl rfl)
  have C0 := Lib.hid (show recC (rdH s) (.slice none 0 0) (.slice none 0 0) = #[.int .u8 (K : Int), .int .u64 (tkN s (tkT s 0 1) 8 : Int), .int .u64 (tkN s (tkT s (tkT s 0 1) 8) 8 : Int), .int .u32 0, .int .u16 0, .int .u64 0, .int .u64 0, .string ⟨#[]⟩, .slice none 0 0, .slice none 0 0, .int .u64 0, .int .u64 0] by rw [← HK.out]; rfl)
  rw [C0.out] at L0
  clear hK S4 R4 K256
  have RM := Lib.hid (show rdM s = if K = 2 then { rdH s with page := tkN s (q3 s) 4, slot := tkN s (tkT s (q3 s) 4) 2 } else if K = 3 then { rdH s with next := tkN s (q3 s) 8 } else if K = 4 then { rdH s with number := tkN s (q3 s) 8 } else if K = 8 then { rdH s with dirty := (tabOf s (q3 s)).dirty, txns := (tabOf s (q3 s)).txns, ttx := (tabOf s (q3 s)).ttx, tnum := (tabOf s (q3 s)).tnum } else rdH s by rw [← HK.out]; rfl)
  have RT := Lib.hid (show mT s = if K = 2 then tkT s (tkT s (q3 s) 4) 2 else if K = 3 then tkT s (q3 s) 8 else if K = 4 then tkT s (q3 s) 8 else if K = 8 then t6 s (q3 s) else q3 s by rw [← HK.out]; rfl)
  have RB := Lib.hid (show mB s = if K = 2 then hB s && tkB s (q3 s) 4 && tkB s (tkT s (q3 s) 4) 2 else if K = 3 then hB s && tkB s (q3 s) 8 else if K = 4 then hB s && tkB s (q3 s) 8 else if K = 8 then hB s && tB s (q3 s) else hB s by rw [← HK.out]; rfl)
  have HKr := Lib.hid (show (rdH s).kind = K from HK.out)
  have PP := Lib.hid (by have := pt_pats (rdH s); rw [HKr.out] at this; exact this)
  go_wp2_with fail
  generalize hg : w4.heap.size = g at L0 ⊢
  clear hg
  generalize w4.alloc _ = W4 at *
  refine (KP.out _).mono ?_
  rintro e w5 ⟨rfl, b5⟩
  have L1 := Lib.hid (L0.out.later b5)
  have P1 := Lib.hid (Px.make (ptOf K) (L1.out.st.below))
  have L2 := Lib.hid (L1.out.later (below_new w5 (.cells (ptC (ptOf K)) 49)))
  clear b5 L0 L1 KP
  generalize ptOf K = pt at *
  obtain ⟨owned, nobodys, roll, pnext, pnumber, pbody, tables⟩ := pt
  unfold ptV ptC at *
  simp only at *
  go_upto_region 6 with fail
  generalize hpb : w5.heap.size = pb at P1 ⊢
  clear hpb
  generalize w5.alloc _ = W5' at *
  obtain ⟨b0, b1, b2, b3, b4, b5, b6⟩ := P1.out.all
  simp only at b0 b1 b2 b3 b4 b5 b6
  clear wk wk2
  have PC := Lib.hid PP.out
  obtain ⟨p1, p2, p3, p4⟩ := PC.out
  clear PP PC
  by_cases h2 : K = 2
  · have rm := RM.out
    have rt := RT.out
    have rb := RB.out
    rw [if_pos h2] at rm rt rb
    rw [decide_eq_true h2] at p1
    rw [decide_eq_false (by omega)] at p2
    rw [decide_eq_false (by omega)] at p3
    rw [decide_eq_false (by omega)] at p4
    subst p1 p2 p3 p4
    have RM := Lib.hid rm
    have RT := Lib.hid rt
    have RB := Lib.hid rb
    clear rm rt rb
    have PB := Lib.hid P1.out.box
    clear P1
    go_wp2_with fail
    refine (N4.out _ _ _ L2.out.st Q.out.2.2).mono ?_
    rintro e w6 ⟨rfl, T6⟩
    have PBn := Lib.hid (T6.kept PB.out (block_ne PB.out L2.out.st.pos (by decide)) (block_ne PB.out L2.out.st.whole (by decide)))
    clear PB
    have PB := Lib.hid PBn.out
    clear PBn
    have L3 := Lib.hid (L2.out.tk T6)
    clear T6 L2
    clear b0 b1 b2 b3 b4 b5 b6
    obtain ⟨b0, b1, b2, b3, b4, b5, b6⟩ := pt_cells PB.out
    simp only at b0 b1 b2 b3 b4 b5 b6
    go_wp2_with fail
    refine (N2.out _ _ _ L3.out.st (tkT_le 4 Q.out.2.2)).mono ?_
    rintro e w7 ⟨rfl, T7⟩
    have PBn := Lib.hid (T7.kept PB.out (block_ne PB.out L3.out.st.pos (by decide)) (block_ne PB.out L3.out.st.whole (by decide)))
    clear PB
    have PB := Lib.hid PBn.out
    clear PBn
    have L4 := Lib.hid (L3.out.tk T7)
    clear T7 L3
    clear b0 b1 b2 b3 b4 b5 b6
    obtain ⟨b0, b1, b2, b3, b4, b5, b6⟩ := pt_cells PB.out
    simp only at b0 b1 b2 b3 b4 b5 b6
    have wpg : IntKind.u32.wrap (tkN s (q3 s) 4 : Int) = (tkN s (q3 s) 4 : Int) := by have := tkN_lt s (q3 s) 4; rw [IntKind.wrap_u32]; omega
    have wpg2 : (tkN s (q3 s) 4 : Int) % 4294967296 = (tkN s (q3 s) 4 : Int) := by have := tkN_lt s (q3 s) 4; omega
    have wsl : IntKind.u16.wrap (tkN s (tkT s (q3 s) 4) 2 : Int) = (tkN s (tkT s (q3 s) 4) 2 : Int) := by have := tkN_lt s (tkT s (q3 s) 4) 2; rw [IntKind.wrap_u16]; omega
    have wsl2 : (tkN s (tkT s (q3 s) 4) 2 : Int) % 65536 = (tkN s (tkT s (q3 s) 4) 2 : Int) := by have := tkN_lt s (tkT s (q3 s) 4) 2; omega
    generalize tkN s (q3 s) 4 = pg at *
    generalize tkN s (tkT s (q3 s) 4) 2 = sl at *
    obtain ⟨a0, a1, a2, a3, a4, a5, a6, a7, a8, a9, a10, a11⟩ := L4.out.cells
    have f3 := L4.out.fz 3
    have f4 := L4.out.fz 4
    have L5 := Lib.hid (L4.out.part (r' := { rdH s with page := pg }) 3 (.int .u32 (pg : Int)) rfl rfl rfl rfl rfl)
    have PB5 := Lib.hid ((heap_setCell_other _ ⟨g, 3, none⟩ _ (.int .u32 (pg : Int)) (block_ne PB.out L4.out.box (by decide))).trans PB.out)
    have L6 := Lib.hid (L5.out.part (r' := { rdH s with page := pg, slot := sl }) 4 (.int .u16 (sl : Int)) rfl rfl rfl rfl rfl)
    have PB6 := Lib.hid ((heap_setCell_other _ ⟨g, 4, none⟩ _ (.int .u16 (sl : Int)) (block_ne PB5.out L5.out.box (by decide))).trans PB5.out)
    rw [← RM.out, ← RT.out, ← RB.out] at L6
    clear L5 PB5 PB L4 RM RT RB
    have PB := Lib.hid PB6.out
    clear PB6 b0 b1 b2 b3 b4 b5 b6
    obtain ⟨b0, b1, b2, b3, b4, b5, b6⟩ := pt_cells PB.out
    simp only at b0 b1 b2 b3 b4 b5 b6
    go_upto_region 14 with fail
    have L := Lib.hid L6.out
    clear L6 PB b0 b1 b2 b3 b4 b5 b6 a0 a1 a2 a3 a4 a5 a6 a7 a8 a9 a10 a11 f3 f4 wpg wpg2 wsl wsl2
    have ST := Lib.hid L.out.st
    have KT := Lib.hid (take_any L.out.st (s.size - mT s) HS.out (mT_le s) (by have := HS.out; omega))
    have hsub : IntKind.i64.wrap ((s.size : Int) - (mT s : Int)) = ((s.size - mT s : Nat) : Int) := by have := HS.out; have := mT_le s; rw [IntKind.wrap_i64]; omega
    have hsub2 : (s.size : Int) - (mT s : Int) = ((s.size - mT s : Nat) : Int) := by have := mT_le s; omega
    have RC := Lib.hid (show rdC s = { rdM s with body := tkS s (mT s) (s.size - mT s) } from rfl)
    have WB := Lib.hid (show whB s = (mB s && tkB s (mT s) (s.size - mT s)) from rfl)
    rw [← WB.out] at KT
    have hz := tkS_le s (mT s) (s.size - mT s) HS.out
    obtain ⟨e0, e1, e2, e3, f1, f2⟩ := ST.out.cells
    unfold takeF at e3
    generalize s.size - mT s = rest at *
    generalize tkS s (mT s) rest = bd at *
    generalize tkT s (mT s) rest = tz at *
    generalize mT s = mt at *
    generalize rdM s = M at *
    have HSZ := HS.out
    go_wp2_with fail
    refine KT.out.mono ?_
    rintro e wz ⟨rfl, TZ⟩
    have LZ := Lib.hid (L.out.tk TZ)
    clear KT TZ L ST e0 e1 e2 e3 f1 f2 hsub hsub2
    obtain ⟨a0, a1, a2, a3, a4, a5, a6, a7, a8, a9, a10, a11⟩ := LZ.out.cells
    have f6 := LZ.out.fz 7
    have LY := Lib.hid (LZ.out.part (r' := rdC s) 7 (.string bd) (by rw [RC.out]; rfl) (by rw [RC.out]) (by rw [RC.out]) rfl rfl)
    go_upto_region 15 with fail
    clear LZ a0 a1 a2 a3 a4 a5 a6 a7 a8 a9 a10 a11 f6
    generalize World.setCell _ _ _ = WY at *
    have L5 := Lib.hid (LY.out.later ((Below.refl _ _).drew))
    have SG := Lib.hid (fun (W' : World) (h1 : W'.heap[g]? = some (.cells (recC (rdC s) (.slice none 0 0) (.slice none 0 0)) 32 (0, 0))) => rec_cells h1)
    have SH := Lib.hid (fun (W' : World) (h1 : W'.heap[h]? = some (.cells #[.bool (whB s)] 4 (0, 0))) => (show W'.cell? ⟨h, 0, none⟩ = some (.bool (whB s)) by rw [cell_of_row _ _ _ _ _ _ h1]; rfl))
    have NG := Lib.hid (show g ≠ r0 from fun e => L5.out.ne e.symm)
    have NH := Lib.hid (show h ≠ r0 from fun e => block_ne L5.out.res L5.out.st.whole (by decide) e.symm)
    refine wp_region_noPanic ?_
    refine wp_region_held_drew (S := fun w' => w'.heap[g]? = some (.cells (recC (rdC s) (.slice none 0 0) (.slice none 0 0)) 32 (0, 0)) ∧ w'.heap[h]? = some (.cells #[.bool (whB s)] 4 (0, 0))) (by kernel_rfl) ⟨L5.out.box, L5.out.st.whole⟩ (fun hHeld => ?_)
    refine wpAnyH_take (i := 0) (v := recV (rdC s) (.slice none 0 0) (.slice none 0 0)) rfl (by kernel_rfl) (by kernel_rfl) (by kernel_rfl) (fun _ _ _ h => h) (Or.inl ⟨by rfl, by intro w hw; obtain ⟨z0, z1, z2, z3, z4, z5, z6, z7, z8, z9, z10, z11⟩ := SG.out w hw.1; clear hw; unfold recV recC; go_simp⟩) hHeld ?_
    refine wpAnyH_take (i := 1) (v := .bool (whB s)) rfl (by kernel_rfl) (by kernel_rfl) (by kernel_rfl) (fun _ _ _ h => h) (Or.inl ⟨by rfl, by intro w hw; have z0 := SH.out w hw.2; clear hw; go_simp⟩) hHeld ?_
    simp only [List.getElem_toArray, List.getElem_cons_succ, List.getElem_cons_zero, Act.put, List.setIfInBounds_toArray, List.set_cons_zero, List.set_cons_succ]
    refine wpAnyH_ready (rs := [2]) (by kernel_rfl) (by simp) (AllReadyH.cons rfl (fun K hK => ?_) AllReadyH.nil)
    rw [if_pos (by rfl)]
    refine wp_store_row _ _ _ rfl r0 (recC (rdC s) (.slice none 0 0) (.slice none 0 0)) rfl rfl 32 zeroC L5.out.res info_rec rfl (rec_one _ L5.out.od.is.one L5.out.oa.is.one) ?_
    refine hK.out _ _ ⟨(setRow_other _ _ _ _ NG.out).trans hHeld.1, (setRow_other _ _ _ _ NH.out).trans hHeld.2⟩ (fun hHeld2 => ?_)
    clear hK K
    try simp only [Act.put, List.setIfInBounds_toArray]
    refine wpAnyH_ready (rs := [3]) (by kernel_rfl) (by simp) (AllReadyH.cons rfl (fun K hK => ?_) AllReadyH.nil)
    rw [if_pos (by rfl)]
    go_simp
    refine hK.out _ _ hHeld2 (fun _ => ?_)
    clear hK K
    try simp only [Act.put, List.setIfInBounds_toArray]
    refine wpAnyH_done (by kernel_rfl) ?_ _
    refine NoPanic.normal ?_
    have BX := Lib.hid (below_setRow L5.out.st.below L5.out.hr (recC (rdC s) (.slice none 0 0) (.slice none 0 0)))
    have IN := Lib.hid (show OwnR w (World.setRow _ r0 (recC (rdC s) (.slice none 0 0) (.slice none 0 0))) (rdC s) (.slice none 0 0) (.slice none 0 0) from ⟨WF.out, L5.out.od.setRow L5.out.res (by decide) _, L5.out.oa.setRow L5.out.res (by decide) _⟩)
    have SR := Lib.hid (setRow_heap _ _ _ (recC (rdC s) (.slice none 0 0) (.slice none 0 0)) _ _ L5.out.res)
    go_wp2_with fail
    exact bodyPost_ret (v := .tuple #[recV (rdC s) (.slice none 0 0) (.slice none 0 0), .bool (whB s)]) (results_bool Try.results31 _ _ r0 (recC (rdC s) (.slice none 0 0) (.slice none 0 0)) (whB s) rfl rfl SR.out Try.underlying32 info_rec) rfl ((PO.out _ _).2 ⟨_, _, rfl, IN.out, BX.out⟩)
  by_cases h3 : K = 3
  · have rm := RM.out
    have rt := RT.out
    have rb := RB.out
    rw [if_neg h2, if_pos h3] at rm rt rb
    rw [decide_eq_false h2] at p1
    rw [decide_eq_true h3] at p2
    rw [decide_eq_false (by omega)] at p3
    rw [decide_eq_false (by omega)] at p4
    subst p1 p2 p3 p4
    have RM := Lib.hid rm
    have RT := Lib.hid rt
    have RB := Lib.hid rb
    clear rm rt rb
    have PB := Lib.hid P1.out.box
    clear P1
    go_wp2_with fail
    refine (N8.out _ _ _ L2.out.st Q.out.2.2).mono ?_
    rintro e w6 ⟨rfl, T6⟩
    have PBn := Lib.hid (T6.kept PB.out (block_ne PB.out L2.out.st.pos (by decide)) (block_ne PB.out L2.out.st.whole (by decide)))
    clear PB
    have PB := Lib.hid PBn.out
    clear PBn
    have L3 := Lib.hid (L2.out.tk T6)
    clear T6 L2
    clear b0 b1 b2 b3 b4 b5 b6
    obtain ⟨b0, b1, b2, b3, b4, b5, b6⟩ := pt_cells PB.out
    simp only at b0 b1 b2 b3 b4 b5 b6
    generalize tkN s (q3 s) 8 = pg at *
    obtain ⟨a0, a1, a2, a3, a4, a5, a6, a7, a8, a9, a10, a11⟩ := L3.out.cells
    have f3 := L3.out.fz 5
    have L6 := Lib.hid (L3.out.part (r' := { rdH s with next := pg }) 5 (.int .u64 (pg : Int)) rfl rfl rfl rfl rfl)
    have PB6 := Lib.hid ((heap_setCell_other _ ⟨g, 5, none⟩ _ (.int .u64 (pg : Int)) (block_ne PB.out L3.out.box (by decide))).trans PB.out)
    rw [← RM.out, ← RT.out, ← RB.out] at L6
    clear PB L3 RM RT RB
    have PB := Lib.hid PB6.out
    clear PB6 b0 b1 b2 b3 b4 b5 b6
    obtain ⟨b0, b1, b2, b3, b4, b5, b6⟩ := pt_cells PB.out
    simp only at b0 b1 b2 b3 b4 b5 b6
    go_upto_region 14 with fail
    have L := Lib.hid L6.out
    clear L6 PB b0 b1 b2 b3 b4 b5 b6 a0 a1 a2 a3 a4 a5 a6 a7 a8 a9 a10 a11 f3
    have ST := Lib.hid L.out.st
    have KT := Lib.hid (take_any L.out.st (s.size - mT s) HS.out (mT_le s) (by have := HS.out; omega))
    have hsub : IntKind.i64.wrap ((s.size : Int) - (mT s : Int)) = ((s.size - mT s : Nat) : Int) := by have := HS.out; have := mT_le s; rw [IntKind.wrap_i64]; omega
    have hsub2 : (s.size : Int) - (mT s : Int) = ((s.size - mT s : Nat) : Int) := by have := mT_le s; omega
    have RC := Lib.hid (show rdC s = { rdM s with body := tkS s (mT s) (s.size - mT s) } from rfl)
    have WB := Lib.hid (show whB s = (mB s && tkB s (mT s) (s.size - mT s)) from rfl)
    rw [← WB.out] at KT
    have hz := tkS_le s (mT s) (s.size - mT s) HS.out
    obtain ⟨e0, e1, e2, e3, f1, f2⟩ := ST.out.cells
    unfold takeF at e3
    generalize s.size - mT s = rest at *
    generalize tkS s (mT s) rest = bd at *
    generalize tkT s (mT s) rest = tz at *
    generalize mT s = mt at *
    generalize rdM s = M at *
    have HSZ := HS.out
    go_wp2_with fail
    refine KT.out.mono ?_
    rintro e wz ⟨rfl, TZ⟩
    have LZ := Lib.hid (L.out.tk TZ)
    clear KT TZ L ST e0 e1 e2 e3 f1 f2 hsub hsub2
    obtain ⟨a0, a1, a2, a3, a4, a5, a6, a7, a8, a9, a10, a11⟩ := LZ.out.cells
    have f6 := LZ.out.fz 7
    have LY := Lib.hid (LZ.out.part (r' := rdC s) 7 (.string bd) (by rw [RC.out]; rfl) (by rw [RC.out]) (by rw [RC.out]) rfl rfl)
    go_upto_region 15 with fail
    clear LZ a0 a1 a2 a3 a4 a5 a6 a7 a8 a9 a10 a11 f6
    generalize World.setCell _ _ _ = WY at *
    have L5 := Lib.hid (LY.out.later ((Below.refl _ _).drew))
    have SG := Lib.hid (fun (W' : World) (h1 : W'.heap[g]? = some (.cells (recC (rdC s) (.slice none 0 0) (.slice none 0 0)) 32 (0, 0))) => rec_cells h1)
    have SH := Lib.hid (fun (W' : World) (h1 : W'.heap[h]? = some (.cells #[.bool (whB s)] 4 (0, 0))) => (show W'.cell? ⟨h, 0, none⟩ = some (.bool (whB s)) by rw [cell_of_row _ _ _ _ _ _ h1]; rfl))
    have NG := Lib.hid (show g ≠ r0 from fun e => L5.out.ne e.symm)
    have NH := Lib.hid (show h ≠ r0 from fun e => block_ne L5.out.res L5.out.st.whole (by decide) e.symm)
    refine wp_region_noPanic ?_
    refine wp_region_held_drew (S := fun w' => w'.heap[g]? = some (.cells (recC (rdC s) (.slice none 0 0) (.slice none 0 0)) 32 (0, 0)) ∧ w'.heap[h]? = some (.cells #[.bool (whB s)] 4 (0, 0))) (by kernel_rfl) ⟨L5.out.box, L5.out.st.whole⟩ (fun hHeld => ?_)
    refine wpAnyH_take (i := 0) (v := recV (rdC s) (.slice none 0 0) (.slice none 0 0)) rfl (by kernel_rfl) (by kernel_rfl) (by kernel_rfl) (fun _ _ _ h => h) (Or.inl ⟨by rfl, by intro w hw; obtain ⟨z0, z1, z2, z3, z4, z5, z6, z7, z8, z9, z10, z11⟩ := SG.out w hw.1; clear hw; unfold recV recC; go_simp⟩) hHeld ?_
    refine wpAnyH_take (i := 1) (v := .bool (whB s)) rfl (by kernel_rfl) (by kernel_rfl) (by kernel_rfl) (fun _ _ _ h => h) (Or.inl ⟨by rfl, by intro w hw; have z0 := SH.out w hw.2; clear hw; go_simp⟩) hHeld ?_
    simp only [List.getElem_toArray, List.getElem_cons_succ, List.getElem_cons_zero, Act.put, List.setIfInBounds_toArray, List.set_cons_zero, List.set_cons_succ]
    refine wpAnyH_ready (rs := [2]) (by kernel_rfl) (by simp) (AllReadyH.cons rfl (fun K hK => ?_) AllReadyH.nil)
    rw [if_pos (by rfl)]
    refine wp_store_row _ _ _ rfl r0 (recC (rdC s) (.slice none 0 0) (.slice none 0 0)) rfl rfl 32 zeroC L5.out.res info_rec rfl (rec_one _ L5.out.od.is.one L5.out.oa.is.one) ?_
    refine hK.out _ _ ⟨(setRow_other _ _ _ _ NG.out).trans hHeld.1, (setRow_other _ _ _ _ NH.out).trans hHeld.2⟩ (fun hHeld2 => ?_)
    clear hK K
    try simp only [Act.put, List.setIfInBounds_toArray]
    refine wpAnyH_ready (rs := [3]) (by kernel_rfl) (by simp) (AllReadyH.cons rfl (fun K hK => ?_) AllReadyH.nil)
    rw [if_pos (by rfl)]
    go_simp
    refine hK.out _ _ hHeld2 (fun _ => ?_)
    clear hK K
    try simp only [Act.put, List.setIfInBounds_toArray]
    refine wpAnyH_done (by kernel_rfl) ?_ _
    refine NoPanic.normal ?_
    have BX := Lib.hid (below_setRow L5.out.st.below L5.out.hr (recC (rdC s) (.slice none 0 0) (.slice none 0 0)))
    have IN := Lib.hid (show OwnR w (World.setRow _ r0 (recC (rdC s) (.slice none 0 0) (.slice none 0 0))) (rdC s) (.slice none 0 0) (.slice none 0 0) from ⟨WF.out, L5.out.od.setRow L5.out.res (by decide) _, L5.out.oa.setRow L5.out.res (by decide) _⟩)
    have SR := Lib.hid (setRow_heap _ _ _ (recC (rdC s) (.slice none 0 0) (.slice none 0 0)) _ _ L5.out.res)
    go_wp2_with fail
    exact bodyPost_ret (v := .tuple #[recV (rdC s) (.slice none 0 0) (.slice none 0 0), .bool (whB s)]) (results_bool Try.results31 _ _ r0 (recC (rdC s) (.slice none 0 0) (.slice none 0 0)) (whB s) rfl rfl SR.out Try.underlying32 info_rec) rfl ((PO.out _ _).2 ⟨_, _, rfl, IN.out, BX.out⟩)
  by_cases h4 : K = 4
  · have rm := RM.out
    have rt := RT.out
    have rb := RB.out
    rw [if_neg h2, if_neg h3, if_pos h4] at rm rt rb
    rw [decide_eq_false h2] at p1
    rw [decide_eq_false h3] at p2
    rw [decide_eq_true h4] at p3
    rw [decide_eq_false (by omega)] at p4
    subst p1 p2 p3 p4
    have RM := Lib.hid rm
    have RT := Lib.hid rt
    have RB := Lib.hid rb
    clear rm rt rb
    have PB := Lib.hid P1.out.box
    clear P1
    go_wp2_with fail
    refine (N8.out _ _ _ L2.out.st Q.out.2.2).mono ?_
    rintro e w6 ⟨rfl, T6⟩
    have PBn := Lib.hid (T6.kept PB.out (block_ne PB.out L2.out.st.pos (by decide)) (block_ne PB.out L2.out.st.whole (by decide)))
    clear PB
    have PB := Lib.hid PBn.out
    clear PBn
    have L3 := Lib.hid (L2.out.tk T6)
    clear T6 L2
    clear b0 b1 b2 b3 b4 b5 b6
    obtain ⟨b0, b1, b2, b3, b4, b5, b6⟩ := pt_cells PB.out
    simp only at b0 b1 b2 b3 b4 b5 b6
    generalize tkN s (q3 s) 8 = pg at *
    obtain ⟨a0, a1, a2, a3, a4, a5, a6, a7, a8, a9, a10, a11⟩ := L3.out.cells
    have f3 := L3.out.fz 6
    have L6 := Lib.hid (L3.out.part (r' := { rdH s with number := pg }) 6 (.int .u64 (pg : Int)) rfl rfl rfl rfl rfl)
    have PB6 := Lib.hid ((heap_setCell_other _ ⟨g, 6, none⟩ _ (.int .u64 (pg : Int)) (block_ne PB.out L3.out.box (by decide))).trans PB.out)
    rw [← RM.out, ← RT.out, ← RB.out] at L6
    clear PB L3 RM RT RB
    have PB := Lib.hid PB6.out
    clear PB6 b0 b1 b2 b3 b4 b5 b6
    obtain ⟨b0, b1, b2, b3, b4, b5, b6⟩ := pt_cells PB.out
    simp only at b0 b1 b2 b3 b4 b5 b6
    go_upto_region 14 with fail
    have L := Lib.hid L6.out
    clear L6 PB b0 b1 b2 b3 b4 b5 b6 a0 a1 a2 a3 a4 a5 a6 a7 a8 a9 a10 a11 f3
    have ST := Lib.hid L.out.st
    have KT := Lib.hid (take_any L.out.st (s.size - mT s) HS.out (mT_le s) (by have := HS.out; omega))
    have hsub : IntKind.i64.wrap ((s.size : Int) - (mT s : Int)) = ((s.size - mT s : Nat) : Int) := by have := HS.out; have := mT_le s; rw [IntKind.wrap_i64]; omega
    have hsub2 : (s.size : Int) - (mT s : Int) = ((s.size - mT s : Nat) : Int) := by have := mT_le s; omega
    have RC := Lib.hid (show rdC s = { rdM s with body := tkS s (mT s) (s.size - mT s) } from rfl)
    have WB := Lib.hid (show whB s = (mB s && tkB s (mT s) (s.size - mT s)) from rfl)
    rw [← WB.out] at KT
    have hz := tkS_le s (mT s) (s.size - mT s) HS.out
    obtain ⟨e0, e1, e2, e3, f1, f2⟩ := ST.out.cells
    unfold takeF at e3
    generalize s.size - mT s = rest at *
    generalize tkS s (mT s) rest = bd at *
    generalize tkT s (mT s) rest = tz at *
    generalize mT s = mt at *
    generalize rdM s = M at *
    have HSZ := HS.out
    go_wp2_with fail
    refine KT.out.mono ?_
    rintro e wz ⟨rfl, TZ⟩
    have LZ := Lib.hid (L.out.tk TZ)
    clear KT TZ L ST e0 e1 e2 e3 f1 f2 hsub hsub2
    obtain ⟨a0, a1, a2, a3, a4, a5, a6, a7, a8, a9, a10, a11⟩ := LZ.out.cells
    have f6 := LZ.out.fz 7
    have LY := Lib.hid (LZ.out.part (r' := rdC s) 7 (.string bd) (by rw [RC.out]; rfl) (by rw [RC.out]) (by rw [RC.out]) rfl rfl)
    go_upto_region 15 with fail
    clear LZ a0 a1 a2 a3 a4 a5 a6 a7 a8 a9 a10 a11 f6
    generalize World.setCell _ _ _ = WY at *
    have L5 := Lib.hid (LY.out.later ((Below.refl _ _).drew))
    have SG := Lib.hid (fun (W' : World) (h1 : W'.heap[g]? = some (.cells (recC (rdC s) (.slice none 0 0) (.slice none 0 0)) 32 (0, 0))) => rec_cells h1)
    have SH := Lib.hid (fun (W' : World) (h1 : W'.heap[h]? = some (.cells #[.bool (whB s)] 4 (0, 0))) => (show W'.cell? ⟨h, 0, none⟩ = some (.bool (whB s)) by rw [cell_of_row _ _ _ _ _ _ h1]; rfl))
    have NG := Lib.hid (show g ≠ r0 from fun e => L5.out.ne e.symm)
    have NH := Lib.hid (show h ≠ r0 from fun e => block_ne L5.out.res L5.out.st.whole (by decide) e.symm)
    refine wp_region_noPanic ?_
    refine wp_region_held_drew (S := fun w' => w'.heap[g]? = some (.cells (recC (rdC s) (.slice none 0 0) (.slice none 0 0)) 32 (0, 0)) ∧ w'.heap[h]? = some (.cells #[.bool (whB s)] 4 (0, 0))) (by kernel_rfl) ⟨L5.out.box, L5.out.st.whole⟩ (fun hHeld => ?_)
    refine wpAnyH_take (i := 0) (v := recV (rdC s) (.slice none 0 0) (.slice none 0 0)) rfl (by kernel_rfl) (by kernel_rfl) (by kernel_rfl) (fun _ _ _ h => h) (Or.inl ⟨by rfl, by intro w hw; obtain ⟨z0, z1, z2, z3, z4, z5, z6, z7, z8, z9, z10, z11⟩ := SG.out w hw.1; clear hw; unfold recV recC; go_simp⟩) hHeld ?_
    refine wpAnyH_take (i := 1) (v := .bool (whB s)) rfl (by kernel_rfl) (by kernel_rfl) (by kernel_rfl) (fun _ _ _ h => h) (Or.inl ⟨by rfl, by intro w hw; have z0 := SH.out w hw.2; clear hw; go_simp⟩) hHeld ?_
    simp only [List.getElem_toArray, List.getElem_cons_succ, List.getElem_cons_zero, Act.put, List.setIfInBounds_toArray, List.set_cons_zero, List.set_cons_succ]
    refine wpAnyH_ready (rs := [2]) (by kernel_rfl) (by simp) (AllReadyH.cons rfl (fun K hK => ?_) AllReadyH.nil)
    rw [if_pos (by rfl)]
    refine wp_store_row _ _ _ rfl r0 (recC (rdC s) (.slice none 0 0) (.slice none 0 0)) rfl rfl 32 zeroC L5.out.res info_rec rfl (rec_one _ L5.out.od.is.one L5.out.oa.is.one) ?_
    refine hK.out _ _ ⟨(setRow_other _ _ _ _ NG.out).trans hHeld.1, (setRow_other _ _ _ _ NH.out).trans hHeld.2⟩ (fun hHeld2 => ?_)
    clear hK K
    try simp only [Act.put, List.setIfInBounds_toArray]
    refine wpAnyH_ready (rs := [3]) (by kernel_rfl) (by simp) (AllReadyH.cons rfl (fun K hK => ?_) AllReadyH.nil)
    rw [if_pos (by rfl)]
    go_simp
    refine hK.out _ _ hHeld2 (fun _ => ?_)
    clear hK K
    try simp only [Act.put, List.setIfInBounds_toArray]
    refine wpAnyH_done (by kernel_rfl) ?_ _
    refine NoPanic.normal ?_
    have BX := Lib.hid (below_setRow L5.out.st.below L5.out.hr (recC (rdC s) (.slice none 0 0) (.slice none 0 0)))
    have IN := Lib.hid (show OwnR w (World.setRow _ r0 (recC (rdC s) (.slice none 0 0) (.slice none 0 0))) (rdC s) (.slice none 0 0) (.slice none 0 0) from ⟨WF.out, L5.out.od.setRow L5.out.res (by decide) _, L5.out.oa.setRow L5.out.res (by decide) _⟩)
    have SR := Lib.hid (setRow_heap _ _ _ (recC (rdC s) (.slice none 0 0) (.slice none 0 0)) _ _ L5.out.res)
    go_wp2_with fail
    exact bodyPost_ret (v := .tuple #[recV (rdC s) (.slice none 0 0) (.slice none 0 0), .bool (whB s)]) (results_bool Try.results31 _ _ r0 (recC (rdC s) (.slice none 0 0) (.slice none 0 0)) (whB s) rfl rfl SR.out Try.underlying32 info_rec) rfl ((PO.out _ _).2 ⟨_, _, rfl, IN.out, BX.out⟩)
  by_cases h8 : K = 8
  · have rm := RM.out
    have rt := RT.out
    have rb := RB.out
    rw [if_neg h2, if_neg h3, if_neg h4, if_pos h8] at rm rt rb
    rw [decide_eq_false h2] at p1
    rw [decide_eq_false h3] at p2
    rw [decide_eq_false h4] at p3
    rw [decide_eq_true h8] at p4
    subst p1 p2 p3 p4
    have RM := Lib.hid rm
    have RT := Lib.hid rt
    have RB := Lib.hid rb
    clear rm rt rb
    have PB := Lib.hid P1.out.box
    clear P1
    go_wp2_with fail
    refine (tabs_any L2.out.st HS.out Q.out.2.2).mono ?_
    rintro e w6 ⟨d, u, rfl, od, oa, T6⟩
    have LB := Lib.hid L2.out.st.below.size
    have OD := Lib.hid (od.base LB.out)
    have OA := Lib.hid (oa.base LB.out)
    have L3 := Lib.hid (L2.out.tk T6)
    clear T6 L2 od oa PB b0 b1 b2 b3 b4 b5 b6 LB
    obtain ⟨ad, nn, cap, rfl⟩ := OD.out.shape3
    obtain ⟨ad2, nn2, cap2, rfl⟩ := OA.out.shape3
    obtain ⟨a0, a1, a2, a3, a4, a5, a6, a7, a8, a9, a10, a11⟩ := L3.out.cells
    have f8 := L3.out.fz 8
    have f9 := L3.out.fz 9
    have f10 := L3.out.fz 10
    have f11 := L3.out.fz 11
    have L6 := Lib.hid (L3.out.tabs OD.out OA.out)
    rw [← RM.out, ← RT.out, ← RB.out] at L6
    clear L3 RM RT RB OD OA
    unfold tabV tabC
    go_upto_region 14 with fail
    have L := Lib.hid L6.out
    clear L6 a0 a1 a2 a3 a4 a5 a6 a7 a8 a9 a10 a11 f8 f9 f10 f11
    have ST := Lib.hid L.out.st
    have KT := Lib.hid (take_any L.out.st (s.size - mT s) HS.out (mT_le s) (by have := HS.out; omega))
    have hsub : IntKind.i64.wrap ((s.size : Int) - (mT s : Int)) = ((s.size - mT s : Nat) : Int) := by have := HS.out; have := mT_le s; rw [IntKind.wrap_i64]; omega
    have hsub2 : (s.size : Int) - (mT s : Int) = ((s.size - mT s : Nat) : Int) := by have := mT_le s; omega
    have RC := Lib.hid (show rdC s = { rdM s with body := tkS s (mT s) (s.size - mT s) } from rfl)
    have WB := Lib.hid (show whB s = (mB s && tkB s (mT s) (s.size - mT s)) from rfl)
    rw [← WB.out] at KT
    have hz := tkS_le s (mT s) (s.size - mT s) HS.out
    obtain ⟨e0, e1, e2, e3, f1, f2⟩ := ST.out.cells
    unfold takeF at e3
    generalize s.size - mT s = rest at *
    generalize tkS s (mT s) rest = bd at *
    generalize tkT s (mT s) rest = tz at *
    generalize mT s = mt at *
    generalize rdM s = M at *
    have HSZ := HS.out
    go_wp2_with fail
    refine KT.out.mono ?_
    rintro e wz ⟨rfl, TZ⟩
    have LZ := Lib.hid (L.out.tk TZ)
    clear KT TZ L ST e0 e1 e2 e3 f1 f2 hsub hsub2
    obtain ⟨a0, a1, a2, a3, a4, a5, a6, a7, a8, a9, a10, a11⟩ := LZ.out.cells
    have f6 := LZ.out.fz 7
    have LY := Lib.hid (LZ.out.part (r' := rdC s) 7 (.string bd) (by rw [RC.out]; rfl) (by rw [RC.out]) (by rw [RC.out]) rfl rfl)
    go_upto_region 15 with fail
    clear LZ a0 a1 a2 a3 a4 a5 a6 a7 a8 a9 a10 a11 f6
    generalize World.setCell _ _ _ = WY at *
    have L5 := Lib.hid (LY.out.later ((Below.refl _ _).drew))
    have SG := Lib.hid (fun (W' : World) (h1 : W'.heap[g]? = some (.cells (recC (rdC s) (.slice ad nn cap) (.slice ad2 nn2 cap2)) 32 (0, 0))) => rec_cells h1)
    have SH := Lib.hid (fun (W' : World) (h1 : W'.heap[h]? = some (.cells #[.bool (whB s)] 4 (0, 0))) => (show W'.cell? ⟨h, 0, none⟩ = some (.bool (whB s)) by rw [cell_of_row _ _ _ _ _ _ h1]; rfl))
    have NG := Lib.hid (show g ≠ r0 from fun e => L5.out.ne e.symm)
    have NH := Lib.hid (show h ≠ r0 from fun e => block_ne L5.out.res L5.out.st.whole (by decide) e.symm)
    refine wp_region_noPanic ?_
    refine wp_region_held_drew (S := fun w' => w'.heap[g]? = some (.cells (recC (rdC s) (.slice ad nn cap) (.slice ad2 nn2 cap2)) 32 (0, 0)) ∧ w'.heap[h]? = some (.cells #[.bool (whB s)] 4 (0, 0))) (by kernel_rfl) ⟨L5.out.box, L5.out.st.whole⟩ (fun hHeld => ?_)
    refine wpAnyH_take (i := 0) (v := recV (rdC s) (.slice ad nn cap) (.slice ad2 nn2 cap2)) rfl (by kernel_rfl) (by kernel_rfl) (by kernel_rfl) (fun _ _ _ h => h) (Or.inl ⟨by rfl, by intro w hw; obtain ⟨z0, z1, z2, z3, z4, z5, z6, z7, z8, z9, z10, z11⟩ := SG.out w hw.1; clear hw; unfold recV recC; go_simp⟩) hHeld ?_
    refine wpAnyH_take (i := 1) (v := .bool (whB s)) rfl (by kernel_rfl) (by kernel_rfl) (by kernel_rfl) (fun _ _ _ h => h) (Or.inl ⟨by rfl, by intro w hw; have z0 := SH.out w hw.2; clear hw; go_simp⟩) hHeld ?_
    simp only [List.getElem_toArray, List.getElem_cons_succ, List.getElem_cons_zero, Act.put, List.setIfInBounds_toArray, List.set_cons_zero, List.set_cons_succ]
    refine wpAnyH_ready (rs := [2]) (by kernel_rfl) (by simp) (AllReadyH.cons rfl (fun K hK => ?_) AllReadyH.nil)
    rw [if_pos (by rfl)]
    refine wp_store_row _ _ _ rfl r0 (recC (rdC s) (.slice ad nn cap) (.slice ad2 nn2 cap2)) rfl rfl 32 zeroC L5.out.res info_rec rfl (rec_one _ L5.out.od.is.one L5.out.oa.is.one) ?_
    refine hK.out _ _ ⟨(setRow_other _ _ _ _ NG.out).trans hHeld.1, (setRow_other _ _ _ _ NH.out).trans hHeld.2⟩ (fun hHeld2 => ?_)
    clear hK K
    try simp only [Act.put, List.setIfInBounds_toArray]
    refine wpAnyH_ready (rs := [3]) (by kernel_rfl) (by simp) (AllReadyH.cons rfl (fun K hK => ?_) AllReadyH.nil)
    rw [if_pos (by rfl)]
    go_simp
    refine hK.out _ _ hHeld2 (fun _ => ?_)
    clear hK K
    try simp only [Act.put, List.setIfInBounds_toArray]
    refine wpAnyH_done (by kernel_rfl) ?_ _
    refine NoPanic.normal ?_
    have BX := Lib.hid (below_setRow L5.out.st.below L5.out.hr (recC (rdC s) (.slice ad nn cap) (.slice ad2 nn2 cap2)))
    have IN := Lib.hid (show OwnR w (World.setRow _ r0 (recC (rdC s) (.slice ad nn cap) (.slice ad2 nn2 cap2))) (rdC s) (.slice ad nn cap) (.slice ad2 nn2 cap2) from ⟨WF.out, L5.out.od.setRow L5.out.res (by decide) _, L5.out.oa.setRow L5.out.res (by decide) _⟩)
    have SR := Lib.hid (setRow_heap _ _ _ (recC (rdC s) (.slice ad nn cap) (.slice ad2 nn2 cap2)) _ _ L5.out.res)
    go_wp2_with fail
    exact bodyPost_ret (v := .tuple #[recV (rdC s) (.slice ad nn cap) (.slice ad2 nn2 cap2), .bool (whB s)]) (results_bool Try.results31 _ _ r0 (recC (rdC s) (.slice ad nn cap) (.slice ad2 nn2 cap2)) (whB s) rfl rfl SR.out Try.underlying32 info_rec) rfl ((PO.out _ _).2 ⟨_, _, rfl, IN.out, BX.out⟩)
  · have rm := RM.out
    have rt := RT.out
    have rb := RB.out
    rw [if_neg h2, if_neg h3, if_neg h4, if_neg h8] at rm rt rb
    rw [decide_eq_false h2] at p1
    rw [decide_eq_false h3] at p2
    rw [decide_eq_false h4] at p3
    rw [decide_eq_false h8] at p4
    subst p1 p2 p3 p4
    have RM := Lib.hid rm
    have RT := Lib.hid rt
    have RB := Lib.hid rb
    clear rm rt rb
    have PB := Lib.hid P1.out.box
    clear P1
    have L6 := Lib.hid L2.out
    rw [← RM.out, ← RT.out, ← RB.out] at L6
    clear L2 RM RT RB
    go_upto_region 14 with fail
    have L := Lib.hid L6.out
    clear L6 PB b0 b1 b2 b3 b4 b5 b6
    have ST := Lib.hid L.out.st
    have KT := Lib.hid (take_any L.out.st (s.size - mT s) HS.out (mT_le s) (by have := HS.out; omega))
    have hsub : IntKind.i64.wrap ((s.size : Int) - (mT s : Int)) = ((s.size - mT s : Nat) : Int) := by have := HS.out; have := mT_le s; rw [IntKind.wrap_i64]; omega
    have hsub2 : (s.size : Int) - (mT s : Int) = ((s.size - mT s : Nat) : Int) := by have := mT_le s; omega
    have RC := Lib.hid (show rdC s = { rdM s with body := tkS s (mT s) (s.size - mT s) } from rfl)
    have WB := Lib.hid (show whB s = (mB s && tkB s (mT s) (s.size - mT s)) from rfl)
    rw [← WB.out] at KT
    have hz := tkS_le s (mT s) (s.size - mT s) HS.out
    obtain ⟨e0, e1, e2, e3, f1, f2⟩ := ST.out.cells
    unfold takeF at e3
    generalize s.size - mT s = rest at *
    generalize tkS s (mT s) rest = bd at *
    generalize tkT s (mT s) rest = tz at *
    generalize mT s = mt at *
    generalize rdM s = M at *
    have HSZ := HS.out
    go_wp2_with fail
    refine KT.out.mono ?_
    rintro e wz ⟨rfl, TZ⟩
    have LZ := Lib.hid (L.out.tk TZ)
    clear KT TZ L ST e0 e1 e2 e3 f1 f2 hsub hsub2
    obtain ⟨a0, a1, a2, a3, a4, a5, a6, a7, a8, a9, a10, a11⟩ := LZ.out.cells
    have f6 := LZ.out.fz 7
    have LY := Lib.hid (LZ.out.part (r' := rdC s) 7 (.string bd) (by rw [RC.out]; rfl) (by rw [RC.out]) (by rw [RC.out]) rfl rfl)
    go_upto_region 15 with fail
    clear LZ a0 a1 a2 a3 a4 a5 a6 a7 a8 a9 a10 a11 f6
    generalize World.setCell _ _ _ = WY at *
    have L5 := Lib.hid (LY.out.later ((Below.refl _ _).drew))
    have SG := Lib.hid (fun (W' : World) (h1 : W'.heap[g]? = some (.cells (recC (rdC s) (.slice none 0 0) (.slice none 0 0)) 32 (0, 0))) => rec_cells h1)
    have SH := Lib.hid (fun (W' : World) (h1 : W'.heap[h]? = some (.cells #[.bool (whB s)] 4 (0, 0))) => (show W'.cell? ⟨h, 0, none⟩ = some (.bool (whB s)) by rw [cell_of_row _ _ _ _ _ _ h1]; rfl))
    have NG := Lib.hid (show g ≠ r0 from fun e => L5.out.ne e.symm)
    have NH := Lib.hid (show h ≠ r0 from fun e => block_ne L5.out.res L5.out.st.whole (by decide) e.symm)
    refine wp_region_noPanic ?_
    refine wp_region_held_drew (S := fun w' => w'.heap[g]? = some (.cells (recC (rdC s) (.slice none 0 0) (.slice none 0 0)) 32 (0, 0)) ∧ w'.heap[h]? = some (.cells #[.bool (whB s)] 4 (0, 0))) (by kernel_rfl) ⟨L5.out.box, L5.out.st.whole⟩ (fun hHeld => ?_)
    refine wpAnyH_take (i := 0) (v := recV (rdC s) (.slice none 0 0) (.slice none 0 0)) rfl (by kernel_rfl) (by kernel_rfl) (by kernel_rfl) (fun _ _ _ h => h) (Or.inl ⟨by rfl, by intro w hw; obtain ⟨z0, z1, z2, z3, z4, z5, z6, z7, z8, z9, z10, z11⟩ := SG.out w hw.1; clear hw; unfold recV recC; go_simp⟩) hHeld ?_
    refine wpAnyH_take (i := 1) (v := .bool (whB s)) rfl (by kernel_rfl) (by kernel_rfl) (by kernel_rfl) (fun _ _ _ h => h) (Or.inl ⟨by rfl, by intro w hw; have z0 := SH.out w hw.2; clear hw; go_simp⟩) hHeld ?_
    simp only [List.getElem_toArray, List.getElem_cons_succ, List.getElem_cons_zero, Act.put, List.setIfInBounds_toArray, List.set_cons_zero, List.set_cons_succ]
    refine wpAnyH_ready (rs := [2]) (by kernel_rfl) (by simp) (AllReadyH.cons rfl (fun K hK => ?_) AllReadyH.nil)
    rw [if_pos (by rfl)]
    refine wp_store_row _ _ _ rfl r0 (recC (rdC s) (.slice none 0 0) (.slice none 0 0)) rfl rfl 32 zeroC L5.out.res info_rec rfl (rec_one _ L5.out.od.is.one L5.out.oa.is.one) ?_
    refine hK.out _ _ ⟨(setRow_other _ _ _ _ NG.out).trans hHeld.1, (setRow_other _ _ _ _ NH.out).trans hHeld.2⟩ (fun hHeld2 => ?_)
    clear hK K
    try simp only [Act.put, List.setIfInBounds_toArray]
    refine wpAnyH_ready (rs := [3]) (by kernel_rfl) (by simp) (AllReadyH.cons rfl (fun K hK => ?_) AllReadyH.nil)
    rw [if_pos (by rfl)]
    go_simp
    refine hK.out _ _ hHeld2 (fun _ => ?_)
    clear hK K
    try simp only [Act.put, List.setIfInBounds_toArray]
    refine wpAnyH_done (by kernel_rfl) ?_ _
    refine NoPanic.normal ?_
    have BX := Lib.hid (below_setRow L5.out.st.below L5.out.hr (recC (rdC s) (.slice none 0 0) (.slice none 0 0)))
    have IN := Lib.hid (show OwnR w (World.setRow _ r0 (recC (rdC s) (.slice none 0 0) (.slice none 0 0))) (rdC s) (.slice none 0 0) (.slice none 0 0) from ⟨WF.out, L5.out.od.setRow L5.out.res (by decide) _, L5.out.oa.setRow L5.out.res (by decide) _⟩)
    have SR := Lib.hid (setRow_heap _ _ _ (recC (rdC s) (.slice none 0 0) (.slice none 0 0)) _ _ L5.out.res)
    go_wp2_with fail
    exact bodyPost_ret (v := .tuple #[recV (rdC s) (.slice none 0 0) (.slice none 0 0), .bool (whB s)]) (results_bool Try.results31 _ _ r0 (recC (rdC s) (.slice none 0 0) (.slice none 0 0)) (whB s) rfl rfl SR.out Try.underlying32 info_rec) rfl ((PO.out _ _).2 ⟨_, _, rfl, IN.out, BX.out⟩)

end Go.Proofs.Ytadhophiannigaa.Rec
