/-
  Memory: pages, lists of lists, that a law makes.
  Memory: a page that a call hands back is laid into a new box.
-/
import Derived.Test.YticnbicnefnhbaaZ16
import Derived.Test.YticnbicnefnhbaaZ17
import Derived.Test.YticnbicnefnhbaaZ4
import Derived.Test.YticnbicnefnhbaaZ3
namespace Go.Proofs.Yticnbicnefnhbaa.Op
open Go.RowKit
open Go.Proofs.Yticnbicnefnhbaa.Seq (strS Is Own Shp one_src)
open Go.Proofs.Yticnbicnefnhbaa.Page (Pg pgV used)
open Go.Proofs.Yticnbicnefnhbaa.By

set_option maxRecDepth 100000 in
/-- pages, in a slice -/
def pgS : Shp Try.prog (Pg × Sl) where
  t := 60
  e := 45
  k := 6
  zero := .agg #[.int .u8 0, .int .u8 0, .int .u32 0, .int .u64 0, .int .u32 0, .slice none 0 0]
  bytes := 48
  cells := fun x => [.int .u8 (x.1.kind : Int), .int .u8 (x.1.level : Int), .int .u32 (x.1.id : Int), .int .u64 (x.1.lsn : Int), .int .u32 (x.1.next : Int), x.2.1]
  under := Try.underlying60
  info := by kernel_rfl
  zk := rfl
  kpos := by decide
  len := fun _ => rfl
  one := fun x u hu => by
    simp only [List.mem_cons, List.not_mem_nil, or_false] at hu
    rcases hu with rfl | rfl | rfl | rfl | rfl | rfl
    all_goals first | rfl | exact x.2.2
  small := by decide
  elem := by kernel_rfl
  size := fun _ => by kernel_rfl

/-- rows that came in, or lie in a block of texts -/
structure Rin (w0 w : World) (v : Value) (l : List ByteArray) : Prop where
  r : Page.Rows w v l
  o : l ≠ [] → ∀ b, v.ownBlock = some b → b < w0.heap.size ∨ ∃ cs f, w.heap[b]? = some (.cells cs 9 f)
  cap : Page.CapOk v
section
variable {w0 w w' : World} {v : Value} {l : List ByteArray}
theorem Rin.far (h : Rin w0 w v l) (hs : w.heap.size ≤ w'.heap.size) (hb : l ≠ [] → ∀ b, v.ownBlock = some b → w'.heap[b]? = w.heap[b]?) : Rin w0 w' v l := by
  refine ⟨?_, fun hl b e => (h.o hl b e).imp id fun ⟨cs, f, h1⟩ => ⟨cs, f, (hb hl b e).trans h1⟩, h.cap⟩
  obtain ⟨ad, c, rfl, h1⟩ := h.r
  refine ⟨ad, c, rfl, ?_⟩
  by_cases hl : l = []
  · exact .inl hl
  · rcases h1 with h1 | ⟨b, o, rfl, h2, h3⟩
    · exact absurd h1 hl
    · exact .inr ⟨b, o, rfl, Nat.lt_of_lt_of_le h2 hs, fun j hj => (World.cell?_of_block (hb hl b rfl)).trans (h3 j hj)⟩
theorem Rin.lt (h : Rin w0 w v l) (hl : l ≠ []) : ∀ b, v.ownBlock = some b → b < w.heap.size := by
  obtain ⟨ad, c, rfl, h1⟩ := h.r
  intro b e
  rcases h1 with h1 | ⟨b', o, rfl, h2, _⟩
  · exact absurd h1 hl
  · simp only [Value.ownBlock, Option.some.injEq] at e
    omega
theorem Rin.later (h : Rin w0 w v l) (t : Below w.heap.size w w') : Rin w0 w' v l := h.far t.size fun hl b e => t.block b (h.lt hl b e)
theorem Rin.came (h : Page.Rows w0 v l) (hc : Page.CapOk v) : Rin w0 w0 v l := by
  refine ⟨h, fun hl b e => .inl ?_, hc⟩
  obtain ⟨ad, c, rfl, h1⟩ := h
  rcases h1 with h1 | ⟨b', o, rfl, h2, _⟩
  · exact absurd h1 hl
  · simp only [Value.ownBlock, Option.some.injEq] at e
    omega
theorem Rin.got (h : Rin w0 w v l) (b : Below w.heap.size w w') {v' : Value} {l' : List ByteArray} (hr : Page.Rows w' v' l') (ho : Str w' v' ∨ v' = v) (hl : v' = v → l' ≠ [] → l ≠ []) : Rin w0 w' v' l' := by
  refine ⟨hr, fun h1 x e => ?_, ho.elim (fun s => s.cap) (fun e => e ▸ h.cap)⟩
  rcases ho with ho | rfl
  · exact .inr (ho.own x e)
  · exact (h.later b).o (hl rfl h1) x e
theorem Rin.grown (h : Rin w0 w v l) {α : Type} {S : Shp Try.prog α} {vv : Value} {q : List α} (O : Own S w0 w vv q) (hne : (9 : TypeId) ≠ S.e) (g : w.grownBy w' vv.ownBlock) : Rin w0 w' v l := by
  refine h.far g.size fun hl b e => g.block b (h.lt hl b e) fun e2 => ?_
  rcases h.o hl b e with h1 | ⟨cs, f, h1⟩
  · have := (O.lt b e2.symm).1
    omega
  · exact O.ne h1 hne b e2.symm rfl
end
theorem rows_nil_of {w w' : World} {v : Value} {l l' : List ByteArray} (h : Page.Rows w v l) (h' : Page.Rows w' v l') : l' ≠ [] → l ≠ [] := by
  rintro h1 rfl
  obtain ⟨ad, c, rfl, _⟩ := h
  obtain ⟨ad', c', e, _⟩ := h'
  simp only [Value.slice.injEq, List.length_nil] at e
  exact h1 (List.eq_nil_of_length_eq_zero e.2.1.symm)

/-- versions of a page, in a slice of the law's own -/
def VsM (w0 w : World) (vv : Value) (vs : List Pg) : Prop := ∃ q : List (Pg × Sl), q.map (·.1) = vs ∧ Own pgS w0 w vv q ∧ ∀ x ∈ q, Rin w0 w x.2.1 x.1.rows
/-- lists that were done, in a slice of the law's own -/
def DsM (w0 w : World) (dv : Value) (ds : List (List O)) : Prop := ∃ q : List Sl, q.length = ds.length ∧ Own lstS w0 w dv q ∧ (∀ i (hi : i < q.length) (hj : i < ds.length), Ops w0 q[i].1 ds[i]) ∧ ∀ L ∈ ds, L.length ≤ 1000000
section
variable {w0 w w' : World} {vv dv : Value} {vs : List Pg} {ds : List (List O)}
theorem VsM.later (h : VsM w0 w vv vs) (t : Below w.heap.size w w') : VsM w0 w' vv vs := by
  obtain ⟨q, h1, h2, h3⟩ := h
  exact ⟨q, h1, h2.later t, fun x hx => (h3 x hx).later t⟩
theorem DsM.later (h : DsM w0 w dv ds) (t : Below w.heap.size w w') : DsM w0 w' dv ds := by
  obtain ⟨q, h1, h2, h3⟩ := h
  exact ⟨q, h1, h2.later t, h3⟩
theorem DsM.small (h : DsM w0 w dv ds) : ∀ L ∈ ds, L.length ≤ 1000000 := by
  obtain ⟨q, _, _, _, h4⟩ := h
  exact h4
theorem VsM.shape (h : VsM w0 w vv vs) : ∃ ad cap, vv = .slice ad vs.length cap := by
  obtain ⟨q, rfl, h2, _⟩ := h
  obtain ⟨ad, cap, hv⟩ := h2.shape
  exact ⟨ad, cap, by rw [hv, List.length_map]⟩
theorem DsM.shape (h : DsM w0 w dv ds) : ∃ ad cap, dv = .slice ad ds.length cap := by
  obtain ⟨q, h1, h2, _⟩ := h
  obtain ⟨ad, cap, hv⟩ := h2.shape
  exact ⟨ad, cap, by rw [hv, h1]⟩
/-- version i, cell by cell -/
theorem VsM.at {ad : Option Addr} {n cap : Nat} (h : VsM w0 w (.slice ad n cap) vs) {i : Nat} (hi : i < vs.length) :
    ∃ u b o, ad = some ⟨b, o, none⟩ ∧ b < w.heap.size ∧ u.oneCell' = true ∧ Rin w0 w u vs[i].rows ∧ w.cell? ⟨b, o + i * 6, none⟩ = some (.int .u8 (vs[i].kind : Int)) ∧ w.cell? ⟨b, o + i * 6 + 1, none⟩ = some (.int .u8 (vs[i].level : Int)) ∧ w.cell? ⟨b, o + i * 6 + 2, none⟩ = some (.int .u32 (vs[i].id : Int)) ∧ w.cell? ⟨b, o + i * 6 + 3, none⟩ = some (.int .u64 (vs[i].lsn : Int)) ∧ w.cell? ⟨b, o + i * 6 + 4, none⟩ = some (.int .u32 (vs[i].next : Int)) ∧ w.cell? ⟨b, o + i * 6 + 5, none⟩ = some u := by
  obtain ⟨q, rfl, h2, h3⟩ := h
  rw [List.length_map] at hi
  obtain ⟨b, o, h4, h5, h6⟩ := h2.is.at (List.getElem?_eq_getElem hi)
  have e : ∀ j u, (pgS.cells q[i])[j]? = some u → w.cell? ⟨b, o + i * 6 + j, none⟩ = some u := fun j u hu => by
    have := h6 j u hu
    rw [show pgS.k = 6 from rfl, ← Nat.add_assoc] at this
    exact this
  rw [List.getElem_map]
  exact ⟨q[i].2.1, b, o, h4, h5, q[i].2.2, h3 _ (List.getElem_mem hi), e 0 _ rfl, e 1 _ rfl, e 2 _ rfl, e 3 _ rfl, e 4 _ rfl, e 5 _ rfl⟩
theorem DsM.at {ad : Option Addr} {n cap : Nat} (h : DsM w0 w (.slice ad n cap) ds) {i : Nat} (hi : i < ds.length) :
    ∃ u b o, ad = some ⟨b, o, none⟩ ∧ b < w.heap.size ∧ Ops w0 u ds[i] ∧ w.cell? ⟨b, o + i, none⟩ = some u := by
  obtain ⟨q, h1, h2, h3⟩ := h
  have hq : i < q.length := by omega
  obtain ⟨b, o, h4, h5, h6⟩ := h2.is.at (List.getElem?_eq_getElem hq)
  have := h6 0 _ rfl
  rw [show lstS.k = 1 from rfl, Nat.mul_one, Nat.add_zero] at this
  exact ⟨q[i].1, b, o, h4, h5, h3.1 i hq hi, this⟩
end

end Go.Proofs.Yticnbicnefnhbaa.Op

namespace Go.Proofs.Yticnbicnefnhbaa.Op
open Go.RowKit
open Go.Proofs.Yticnbicnefnhbaa.Page (Pg pgV pgC zeroP info_page)

/-- a page's box -/
structure PBx (w : World) (g : Nat) (p : Pg) (u : Value) : Prop where
  box : w.heap[g]? = some (.cells (pgC p u) 45 (0, 0))
theorem PBx.later {w w' : World} {g : Nat} {p : Pg} {u : Value} (h : PBx w g p u) (t : Below w.heap.size w w') : PBx w' g p u := ⟨(t.block g (Array.getElem?_eq_some_iff.1 h.box).1).trans h.box⟩
theorem PBx.six {w : World} {g : Nat} {p : Pg} {u : Value} (h : PBx w g p u) : w.cell? ⟨g, 0, none⟩ = some (.int .u8 (p.kind : Int)) ∧ w.cell? ⟨g, 1, none⟩ = some (.int .u8 (p.level : Int)) ∧ w.cell? ⟨g, 2, none⟩ = some (.int .u32 (p.id : Int)) ∧ w.cell? ⟨g, 3, none⟩ = some (.int .u64 (p.lsn : Int)) ∧ w.cell? ⟨g, 4, none⟩ = some (.int .u32 (p.next : Int)) ∧ w.cell? ⟨g, 5, none⟩ = some u := by
  refine ⟨?_, ?_, ?_, ?_, ?_, ?_⟩ <;> (rw [cell_of_row _ _ _ _ _ _ h.box]; rfl)
theorem PBx.new (w : World) (p : Pg) (u : Value) : PBx (w.alloc (.cells (pgC p u) 45)) w.heap.size p u := ⟨heap_alloc_new w _⟩

/-- a page that was handed back, in its box -/
structure Got (w0 V W : World) (x : Nat) (q : Pg) (v : Value) : Prop where
  box : W.heap[x]? = some (.cells (pgC q v) 45 (0, 0))
  far : V.heap.size ≤ x
  below : Below V.heap.size V W
  rows : Rin w0 W v q.rows
theorem pgC_one (p : Pg) (a : Option Addr) (m c : Nat) : (pgC p (.slice a m c)).all (·.oneCell') = true := Array.all_eq_true_iff_forall_mem.2 (by
  intro v hv
  simp [pgC] at hv
  rcases hv with rfl | rfl | rfl | rfl | rfl | rfl <;> rfl)
theorem setRow_oth (w : World) (g h : Nat) (cs : Array Value) (hne : h ≠ g) : (w.setRow g cs).heap[h]? = w.heap[h]? := by
  exact setRow_other w g h cs hne
theorem Rin.beside {w0 W : World} {v : Value} {l : List ByteArray} (h : Rin w0 W v l) {x : Nat} {old : Array Value} (hx : W.heap[x]? = some (.cells old 45 (0, 0))) (hf : w0.heap.size ≤ x) (cs : Array Value) : Rin w0 (W.setRow x cs) v l := by
  refine h.far (by simp [World.setRow]) fun hl b e => setRow_oth _ _ _ _ ?_
  rintro rfl
  rcases h.o hl b e with h1 | ⟨c2, f, h1⟩
  · omega
  · rw [hx] at h1
    simp only [Option.some.injEq, Obj.cells.injEq] at h1
    exact absurd h1.2.1 (by decide)
/-- it is laid into the box -/
theorem Got.put {w0 V W : World} {x : Nat} {q : Pg} {v : Value} {old : Array Value} (hx : W.heap[x]? = some (.cells old 45 (0, 0))) (h0 : w0.heap.size ≤ V.heap.size) (hf : V.heap.size ≤ x) (hb : Below V.heap.size V W) (hr : Rin w0 W v q.rows) : Got w0 V (W.setRow x (pgC q v)) x q v :=
  ⟨setRow_heap _ _ _ _ _ _ hx, hf, below_setRow hb hf _, hr.beside hx (Nat.le_trans h0 hf) _⟩
set_option maxRecDepth 100000 in
theorem alloc_pg (W : World) : (Instr.alloc 45 true (.tuple #[])).run Try.prog W = .ok (.pointer (some ⟨W.heap.size, 0, none⟩)) (W.alloc (.cells zeroP 45)) := by
  kernel_rfl
section
variable {ops : Array Oper} {o : Oper} {act : Act} {Q : Exit → Act → World → Prop} {K : Act → World → Prop} {E : Prop} {W : World}
theorem want_if (hgd : o.guard = none) (h : Oper.wp Try.prog o act W K Q) : if Region.wanted o (yielded ops act.tmps) = true then Oper.wp Try.prog o act W K Q else E := by
  have hw : Region.wanted o (yielded ops act.tmps) = true := by simp [Region.wanted, hgd]
  rw [if_pos hw]
  exact h
theorem step_al (t : Option Tmp) (hdst : o.dst = t) (hgd : o.guard = none) (ho : o.op = .alloc 45) (h : K (act.put t (.pointer (some ⟨W.heap.size, 0, none⟩))) (W.alloc (.cells zeroP 45))) : if Region.wanted o (yielded ops act.tmps) = true then Oper.wp Try.prog o act W K Q else E := by
  subst hdst
  refine want_if hgd ?_
  unfold Oper.wp execOp
  simp only [ho, Sem.run_bind, alloc_pg, Result.andThen_ok]
  exact h
theorem step_st (t : Option Tmp) (hdst : o.dst = t) (hgd : o.guard = none) (p q : Operand) (ho : o.op = .store 45 p q) {x : Nat} {X : Pg} {a : Option Addr} {n c : Nat} (hp : act.eval p = .pointer (some ⟨x, 0, none⟩)) (hq : act.eval q = .agg (pgC X (.slice a n c))) {old : Array Value} (hx : W.heap[x]? = some (.cells old 45 (0, 0))) (hs : old.size = 6) (h : K (act.put t undef) (W.setRow x (pgC X (.slice a n c)))) : if Region.wanted o (yielded ops act.tmps) = true then Oper.wp Try.prog o act W K Q else E := by
  subst hdst
  refine want_if hgd ?_
  exact wp_store_row 45 p q ho x (pgC X (.slice a n c)) hp hq 45 old hx info_page (by rw [hs]; rfl) (pgC_one X a n c) h
end
end Go.Proofs.Yticnbicnefnhbaa.Op
