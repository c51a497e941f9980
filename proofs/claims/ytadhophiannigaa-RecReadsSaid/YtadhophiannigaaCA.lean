/- Memory: lists of pages, of others, of the call's own: append. -/
import Derived.Test.YtadhophiannigaaCW3
import Derived.Laws.OwnMore
import Derived.Laws.AppendOwnNone
import Derived.Maps.AppendAt
import Derived.Deep.RegionLaw
import Derived.Deep.MidRow
namespace Go.Proofs.Ytadhophiannigaa.Rec
open Go.RowKit

theorem below_grown {w w1 w' : World} {v : Value} (hb : Below w.heap.size w w1) (h : ∀ x, v.ownBlock = some x → w.heap.size ≤ x) (g : w1.grownBy w' v.ownBlock) : Below w.heap.size w w' := hb.grown g hb.size h

/-! ### Di -/
def diV (d : Di) : Value := .agg #[.int .u32 (d.page : Int), .int .u64 (d.lsn : Int)]
def diL (d : Di) : List Value := [.int .u32 (d.page : Int), .int .u64 (d.lsn : Int)]
def diC (l : List Di) : List Value := l.flatMap diL
theorem diC_cons (x : Di) (l : List Di) : diC (x :: l) = diL x ++ diC l := by simp [diC]
theorem diC_app (l m : List Di) : diC (l ++ m) = diC l ++ diC m := by simp [diC]
theorem diC_len (l : List Di) : (diC l).length = l.length * 2 := by
  induction l with
  | nil => rfl
  | cons x l ih => rw [diC_cons, List.length_append, ih]; simp [diL]; omega
theorem diC_one (l : List Di) : ∀ u ∈ diC l, u.oneCell' = true := by
  intro u hu
  unfold diC at hu
  obtain ⟨d, _, hd⟩ := List.mem_flatMap.1 hu
  simp only [diL, List.mem_cons, List.not_mem_nil, or_false] at hd
  rcases hd with rfl | rfl <;> rfl
theorem diC_at (l : List Di) (i : Nat) (d : Di) (h : l[i]? = some d) (k : Nat) (hk : k < 2) : (diC l)[i * 2 + k]? = (diL d)[k]? := by
  induction l generalizing i with
  | nil => simp at h
  | cons x l ih =>
    rw [diC_cons]
    cases i with
    | zero =>
      simp only [List.getElem?_cons_zero, Option.some.injEq] at h
      subst h
      rw [List.getElem?_append_left (by simp [diL]; omega)]
      congr 1
      omega
    | succ i =>
      rw [List.getElem?_cons_succ] at h
      rw [List.getElem?_append_right (by simp [diL]; omega), ← ih i h]
      congr 1
      simp [diL]
      omega
/-- what append's second argument yields -/
def SrcDi (w : World) (x : Value) (l : List Di) : Prop :=
  (x = .slice none 0 0 ∧ l = []) ∨ ∃ a c, x = .slice (some a) l.length c ∧ ∀ j u, (diC l)[j]? = some u → w.cell? (a.add j) = some u
/-- v is a list in a block that was made since W0 -/
structure OwnDi (W0 w : World) (v : Value) (l : List Di) : Prop where
  own : w.ownsRow W0.heap.size 55 2 v l.length (diC l)
  size : W0.heap.size ≤ w.heap.size
set_option maxRecDepth 100000 in
theorem infoDi : (Try.prog.info? 55).map (fun i => (i.zero, i.size, i.bytes)) = some (some (.agg #[.int .u32 0, .int .u64 0]), 2, 16) := by kernel_rfl
theorem di_cell {w : World} {x o : Nat} {l : List Di} {i : Nat} {d : Di} (h : l[i]? = some d) (hc : ∀ i d, l[i]? = some d → DiAt w x (o + i * 2) d) (k : Nat) (hk : k < 2) : w.cell? ⟨x, o + (i * 2 + k), none⟩ = (diL d)[k]? := by
  have hd := hc i d h
  match k, hk with
  | 0, _ => exact (by have := hd.c0; skip; exact this)
  | 1, _ => exact (by have := hd.c1; rw [Nat.add_assoc] at this; exact this)
section
variable {W0 w : World} {v : Value} {l : List Di}
theorem IsDi.src (h : IsDi w v l) : SrcDi w v l := by
  obtain ⟨a, cap, rfl, hn, hc⟩ := h
  cases a with
  | none =>
    obtain rfl := hn rfl
    have hl : l = [] := by
      cases l with
      | nil => rfl
      | cons d l =>
        obtain ⟨x, o, h, _⟩ := hc 0 d rfl
        cases h
    subst hl
    exact .inl ⟨rfl, rfl⟩
  | some a =>
    refine .inr ⟨a, cap, rfl, fun j u hj => ?_⟩
    have hjl : j < l.length * 2 := by
      have := (List.getElem?_eq_some_iff.1 hj).1
      rwa [diC_len] at this
    have hi : j / 2 < l.length := by omega
    have ej : j = j / 2 * 2 + j % 2 := by omega
    obtain ⟨x, o, ha, _⟩ := hc (j / 2) l[j / 2] (List.getElem?_eq_getElem hi)
    simp only [Option.some.injEq] at ha
    subst ha
    have hc2 : ∀ i d, l[i]? = some d → DiAt w x (o + i * 2) d := fun i d hd => by
      obtain ⟨x2, o2, e, h2⟩ := hc i d hd
      simp only [Option.some.injEq, Addr.mk.injEq, and_true] at e
      obtain ⟨rfl, rfl⟩ := e
      exact h2
    have h1 := di_cell (List.getElem?_eq_getElem hi) hc2 (j % 2) (by omega)
    rw [← ej] at h1
    have h2 := diC_at l (j / 2) l[j / 2] (List.getElem?_eq_getElem hi) (j % 2) (by omega)
    rw [← ej, hj] at h2
    rw [Addr.add_mid, h1, ← h2]
theorem OwnDi.form (h : OwnDi W0 w v l) : (v = .slice none 0 0 ∧ l = []) ∨ ∃ g cap cur, v = .slice (some ⟨g, 0, none⟩) l.length cap ∧ W0.heap.size ≤ g ∧ w.heap[g]? = some (.cells cur 55 (0, 0)) ∧ cur.toList.take (l.length * 2) = diC l := by
  rcases h.own.2 with ⟨h1, h2⟩ | ⟨g, cap, cur, h1, h2, h3, h4, h5, h6, h7⟩
  · exact .inl ⟨h1, List.eq_nil_of_length_eq_zero h2⟩
  · exact .inr ⟨g, cap, cur, h1, h2, h3, h7⟩
theorem OwnDi.is (h : OwnDi W0 w v l) : IsDi w v l := by
  rcases h.form with ⟨rfl, rfl⟩ | ⟨g, cap, cur, rfl, h2, h3, h4⟩
  · exact IsDi.nil w
  · refine ⟨some ⟨g, 0, none⟩, cap, rfl, (fun h => by cases h), fun i d hd => ⟨g, 0, rfl, ?_⟩⟩
    have hi := (List.getElem?_eq_some_iff.1 hd).1
    have e : ∀ k, k < 2 → w.cell? ⟨g, 0 + i * 2 + k, none⟩ = (diL d)[k]? := fun k hk => by
      rw [cell_of_row w g _ cur _ _ h3, ← diC_at l i d hd k hk, ← h4, List.getElem?_take, if_pos (by omega), ← Array.getElem?_toList]
      congr 1
      omega
    exact ⟨(by have := e 0 (by decide); exact this), (by have := e 1 (by decide); exact this)⟩
theorem OwnDi.nil (W0 : World) {w : World} (hs : W0.heap.size ≤ w.heap.size) : OwnDi W0 w (.slice none 0 0) [] := ⟨World.ownsRow_nil _ _ _ _, hs⟩
theorem OwnDi.far {w' : World} (h : OwnDi W0 w v l) (hs : w.heap.size ≤ w'.heap.size) (hk : ∀ x, v.ownBlock = some x → w'.heap[x]? = w.heap[x]?) : OwnDi W0 w' v l := by
  refine ⟨⟨h.own.1, ?_⟩, Nat.le_trans h.size hs⟩
  rcases h.own.2 with ⟨h1, h2⟩ | ⟨g, cap, cur, rfl, h2, h3, h4⟩
  · exact .inl ⟨h1, h2⟩
  · exact .inr ⟨g, cap, cur, rfl, h2, (hk g rfl).trans h3, h4⟩
theorem OwnDi.lt (h : OwnDi W0 w v l) : ∀ x, v.ownBlock = some x → W0.heap.size ≤ x ∧ x < w.heap.size := fun x hx => h.own.lt x hx
theorem OwnDi.later {w' : World} (h : OwnDi W0 w v l) (t : Below w.heap.size w w') : OwnDi W0 w' v l := h.far t.size fun x hx => t.block x (h.lt x hx).2
theorem OwnDi.shape (h : OwnDi W0 w v l) : ∃ ad cap, v = .slice ad l.length cap := h.is.form
theorem OwnDi.shape3 (h : OwnDi W0 w v l) : ∃ ad n cap, v = .slice ad n cap := by
  obtain ⟨ad, cap, rfl⟩ := h.shape
  exact ⟨ad, _, cap, rfl⟩
/-- another block than one of another type -/
theorem OwnDi.ne (h : OwnDi W0 w v l) {b : Nat} {cs : Array Value} {t : TypeId} (hb : w.heap[b]? = some (.cells cs t (0, 0))) (ht : t ≠ 55) : ∀ x, v.ownBlock = some x → x ≠ b := by
  rcases h.form with ⟨rfl, rfl⟩ | ⟨g, cap, cur, rfl, h2, h3, h4⟩
  · intro x hx; simp [Value.ownBlock] at hx
  · intro x hx e
    simp [Value.ownBlock] at hx
    subst hx e
    rw [h3] at hb
    simp only [Option.some.injEq, Obj.cells.injEq] at hb
    exact ht hb.2.1.symm

/-! #### append -/
set_option maxRecDepth 100000 in
theorem run_appDi {x : Value} {m : List Di} (ty : TypeId) (h : OwnDi W0 w v l) (hs : SrcDi w x m) (hn : l.length + m.length ≤ 1000000) :
    ∃ v' w', (Builtin.append_ #[27, 27] ty #[v, x]).run Try.prog w = .ok v' w' ∧ OwnDi W0 w' v' (l ++ m) ∧ w.grownBy w' v.ownBlock := by
  obtain ⟨i0, hi, hz0, hz1, hz2⟩ := info_parts infoDi
  rcases hs with ⟨rfl, rfl⟩ | ⟨a, c, rfl, h2⟩
  · exact ⟨v, w, run_append_owned_none (P := Try.prog) (w := w) W0.heap.size 27 ty 55 i0 2 Try.underlying27 hi v l.length _ h.own, by rw [List.append_nil]; exact h, ⟨rfl, rfl, rfl, Nat.le_refl _, fun _ _ _ => rfl⟩⟩
  · obtain ⟨v', w', hr, h4, h5, _, h6⟩ := run_append_own_at (P := Try.prog) w W0.heap.size 27 ty 55 i0 (.agg #[.int .u32 0, .int .u64 0]) 2 16 Try.underlying27 hi hz0 hz1 hz2 rfl (by decide) v l.length _ h.own a m.length c (diC m) (diC_len m) h2 (diC_one m) (by unfold maxLen; omega) (by omega) h.size
    refine ⟨v', w', hr, ⟨?_, Nat.le_trans h.size h5.size⟩, h5⟩
    rw [List.length_append, diC_app]
    exact h4
section
variable {ops : Array Oper} {rest : List Oper} {o : Oper} {a : Act} {Q : Exit → Act → World → Prop} {K : Act → World → Prop} {E : Prop}
theorem wp_appDi {x : Value} {m : List Di} (s d : Operand) (ho : o.op = .call { callee := .builtin .append, args := #[s, d], argTypes := #[27, 27] }) (h : OwnDi W0 w v l) (hs : SrcDi w x m) (hn : l.length + m.length ≤ 1000000)
    (h1 : a.eval s = v) (h2 : a.eval d = x) {Q : Exit → Act → World → Prop} (hk : ∀ v' w', OwnDi W0 w' v' (l ++ m) → w.grownBy w' v.ownBlock → K (a.put o.dst v') w') : o.wp Try.prog a w K Q := by
  obtain ⟨v', w', hr, k1, k2⟩ := run_appDi (ty := o.type) h hs hn
  unfold Oper.wp execOp
  simp only [ho, resolve, invoke, builtin, Sem.run_bind, Sem.run_pure, Result.andThen_ok, List.map_toArray, List.map_cons, List.map_nil, h1, h2, hr]
  exact hk v' w' k1 k2
theorem wpList_appDi {x : Value} {m : List Di} (hgd : o.guard = none) (s d : Operand) (ho : o.op = .call { callee := .builtin .append, args := #[s, d], argTypes := #[27, 27] }) (h : OwnDi W0 w v l) (hs : SrcDi w x m) (hn : l.length + m.length ≤ 1000000)
    (h1 : a.eval s = v) (h2 : a.eval d = x) (hk : ∀ v' w', OwnDi W0 w' v' (l ++ m) → w.grownBy w' v.ownBlock → wpList Try.prog ops Q rest (a.put o.dst v') w') : wpList Try.prog ops Q (o :: rest) a w :=
  wpList_plain hgd fun _ hK => wp_appDi s d ho h hs hn h1 h2 fun v' w' k1 k2 => hK _ _ (hk v' w' k1 k2)
theorem step_appDi {x : Value} {m : List Di} (hgd : o.guard = none) (s d : Operand) (ho : o.op = .call { callee := .builtin .append, args := #[s, d], argTypes := #[27, 27] }) (h : OwnDi W0 w v l) (hs : SrcDi w x m) (hn : l.length + m.length ≤ 1000000)
    (h1 : a.eval s = v) (h2 : a.eval d = x) (hk : ∀ v' w', OwnDi W0 w' v' (l ++ m) → w.grownBy w' v.ownBlock → K (a.put o.dst v') w') : if Region.wanted o (yielded ops a.tmps) = true then Oper.wp Try.prog o a w K Q else E := by
  have hw : Region.wanted o (yielded ops a.tmps) = true := by simp [Region.wanted, hgd]
  rw [if_pos hw]
  exact wp_appDi s d ho h hs hn h1 h2 hk
end
end
/-- one that was just made, as append's second argument -/
theorem di_one_src (w : World) (d : Di) : SrcDi (w.alloc (.cells #[.int .u32 (d.page : Int), .int .u64 (d.lsn : Int)] 55)) (.slice (some ⟨w.heap.size, 0, none⟩) 1 1) [d] := by
  refine .inr ⟨⟨w.heap.size, 0, none⟩, 1, rfl, fun j u hj => ?_⟩
  rw [Addr.add_mid, Nat.zero_add, cell_of_row _ _ _ _ _ _ (heap_alloc_new w _)]
  have : diC [d] = [.int .u32 (d.page : Int), .int .u64 (d.lsn : Int)] := by simp [diC, diL]
  rw [this] at hj
  rw [← hj, ← Array.getElem?_toList]

/-! ### Ac -/
def acV (d : Ac) : Value := .agg #[.int .u64 (d.tx : Int), .int .u64 (d.first : Int), .int .u64 (d.last : Int), .int .u64 (d.next : Int)]
def acL (d : Ac) : List Value := [.int .u64 (d.tx : Int), .int .u64 (d.first : Int), .int .u64 (d.last : Int), .int .u64 (d.next : Int)]
def acC (l : List Ac) : List Value := l.flatMap acL
theorem acC_cons (x : Ac) (l : List Ac) : acC (x :: l) = acL x ++ acC l := by simp [acC]
theorem acC_app (l m : List Ac) : acC (l ++ m) = acC l ++ acC m := by simp [acC]
theorem acC_len (l : List Ac) : (acC l).length = l.length * 4 := by
  induction l with
  | nil => rfl
  | cons x l ih => rw [acC_cons, List.length_append, ih]; simp [acL]; omega
theorem acC_one (l : List Ac) : ∀ u ∈ acC l, u.oneCell' = true := by
  intro u hu
  unfold acC at hu
  obtain ⟨d, _, hd⟩ := List.mem_flatMap.1 hu
  simp only [acL, List.mem_cons, List.not_mem_nil, or_false] at hd
  rcases hd with rfl | rfl | rfl | rfl <;> rfl
theorem acC_at (l : List Ac) (i : Nat) (d : Ac) (h : l[i]? = some d) (k : Nat) (hk : k < 4) : (acC l)[i * 4 + k]? = (acL d)[k]? := by
  induction l generalizing i with
  | nil => simp at h
  | cons x l ih =>
    rw [acC_cons]
    cases i with
    | zero =>
      simp only [List.getElem?_cons_zero, Option.some.injEq] at h
      subst h
      rw [List.getElem?_append_left (by simp [acL]; omega)]
      congr 1
      omega
    | succ i =>
      rw [List.getElem?_cons_succ] at h
      rw [List.getElem?_append_right (by simp [acL]; omega), ← ih i h]
      congr 1
      simp [acL]
      omega
/-- what append's second argument yields -/
def SrcAc (w : World) (x : Value) (l : List Ac) : Prop :=
  (x = .slice none 0 0 ∧ l = []) ∨ ∃ a c, x = .slice (some a) l.length c ∧ ∀ j u, (acC l)[j]? = some u → w.cell? (a.add j) = some u
/-- v is a list in a block that was made since W0 -/
structure OwnAc (W0 w : World) (v : Value) (l : List Ac) : Prop where
  own : w.ownsRow W0.heap.size 57 4 v l.length (acC l)
  size : W0.heap.size ≤ w.heap.size
set_option maxRecDepth 100000 in
theorem infoAc : (Try.prog.info? 57).map (fun i => (i.zero, i.size, i.bytes)) = some (some (.agg #[.int .u64 0, .int .u64 0, .int .u64 0, .int .u64 0]), 4, 32) := by kernel_rfl
theorem ac_cell {w : World} {x o : Nat} {l : List Ac} {i : Nat} {d : Ac} (h : l[i]? = some d) (hc : ∀ i d, l[i]? = some d → AcAt w x (o + i * 4) d) (k : Nat) (hk : k < 4) : w.cell? ⟨x, o + (i * 4 + k), none⟩ = (acL d)[k]? := by
  have hd := hc i d h
  match k, hk with
  | 0, _ => exact (by have := hd.c0; skip; exact this)
  | 1, _ => exact (by have := hd.c1; rw [Nat.add_assoc] at this; exact this)
  | 2, _ => exact (by have := hd.c2; rw [Nat.add_assoc] at this; exact this)
  | 3, _ => exact (by have := hd.c3; rw [Nat.add_assoc] at this; exact this)
section
variable {W0 w : World} {v : Value} {l : List Ac}
theorem IsAc.src (h : IsAc w v l) : SrcAc w v l := by
  obtain ⟨a, cap, rfl, hn, hc⟩ := h
  cases a with
  | none =>
    obtain rfl := hn rfl
    have hl : l = [] := by
      cases l with
      | nil => rfl
      | cons d l =>
        obtain ⟨x, o, h, _⟩ := hc 0 d rfl
        cases h
    subst hl
    exact .inl ⟨rfl, rfl⟩
  | some a =>
    refine .inr ⟨a, cap, rfl, fun j u hj => ?_⟩
    have hjl : j < l.length * 4 := by
      have := (List.getElem?_eq_some_iff.1 hj).1
      rwa [acC_len] at this
    have hi : j / 4 < l.length := by omega
    have ej : j = j / 4 * 4 + j % 4 := by omega
    obtain ⟨x, o, ha, _⟩ := hc (j / 4) l[j / 4] (List.getElem?_eq_getElem hi)
    simp only [Option.some.injEq] at ha
    subst ha
    have hc2 : ∀ i d, l[i]? = some d → AcAt w x (o + i * 4) d := fun i d hd => by
      obtain ⟨x2, o2, e, h2⟩ := hc i d hd
      simp only [Option.some.injEq, Addr.mk.injEq, and_true] at e
      obtain ⟨rfl, rfl⟩ := e
      exact h2
    have h1 := ac_cell (List.getElem?_eq_getElem hi) hc2 (j % 4) (by omega)
    rw [← ej] at h1
    have h2 := acC_at l (j / 4) l[j / 4] (List.getElem?_eq_getElem hi) (j % 4) (by omega)
    rw [← ej, hj] at h2
    rw [Addr.add_mid, h1, ← h2]
theorem OwnAc.form (h : OwnAc W0 w v l) : (v = .slice none 0 0 ∧ l = []) ∨ ∃ g cap cur, v = .slice (some ⟨g, 0, none⟩) l.length cap ∧ W0.heap.size ≤ g ∧ w.heap[g]? = some (.cells cur 57 (0, 0)) ∧ cur.toList.take (l.length * 4) = acC l := by
  rcases h.own.2 with ⟨h1, h2⟩ | ⟨g, cap, cur, h1, h2, h3, h4, h5, h6, h7⟩
  · exact .inl ⟨h1, List.eq_nil_of_length_eq_zero h2⟩
  · exact .inr ⟨g, cap, cur, h1, h2, h3, h7⟩
theorem OwnAc.is (h : OwnAc W0 w v l) : IsAc w v l := by
  rcases h.form with ⟨rfl, rfl⟩ | ⟨g, cap, cur, rfl, h2, h3, h4⟩
  · exact IsAc.nil w
  · refine ⟨some ⟨g, 0, none⟩, cap, rfl, (fun h => by cases h), fun i d hd => ⟨g, 0, rfl, ?_⟩⟩
    have hi := (List.getElem?_eq_some_iff.1 hd).1
    have e : ∀ k, k < 4 → w.cell? ⟨g, 0 + i * 4 + k, none⟩ = (acL d)[k]? := fun k hk => by
      rw [cell_of_row w g _ cur _ _ h3, ← acC_at l i d hd k hk, ← h4, List.getElem?_take, if_pos (by omega), ← Array.getElem?_toList]
      congr 1
      omega
    exact ⟨(by have := e 0 (by decide); exact this), (by have := e 1 (by decide); exact this), (by have := e 2 (by decide); exact this), (by have := e 3 (by decide); exact this)⟩
theorem OwnAc.nil (W0 : World) {w : World} (hs : W0.heap.size ≤ w.heap.size) : OwnAc W0 w (.slice none 0 0) [] := ⟨World.ownsRow_nil _ _ _ _, hs⟩
theorem OwnAc.far {w' : World} (h : OwnAc W0 w v l) (hs : w.heap.size ≤ w'.heap.size) (hk : ∀ x, v.ownBlock = some x → w'.heap[x]? = w.heap[x]?) : OwnAc W0 w' v l := by
  refine ⟨⟨h.own.1, ?_⟩, Nat.le_trans h.size hs⟩
  rcases h.own.2 with ⟨h1, h2⟩ | ⟨g, cap, cur, rfl, h2, h3, h4⟩
  · exact .inl ⟨h1, h2⟩
  · exact .inr ⟨g, cap, cur, rfl, h2, (hk g rfl).trans h3, h4⟩
theorem OwnAc.lt (h : OwnAc W0 w v l) : ∀ x, v.ownBlock = some x → W0.heap.size ≤ x ∧ x < w.heap.size := fun x hx => h.own.lt x hx
theorem OwnAc.later {w' : World} (h : OwnAc W0 w v l) (t : Below w.heap.size w w') : OwnAc W0 w' v l := h.far t.size fun x hx => t.block x (h.lt x hx).2
theorem OwnAc.shape (h : OwnAc W0 w v l) : ∃ ad cap, v = .slice ad l.length cap := h.is.form
theorem OwnAc.shape3 (h : OwnAc W0 w v l) : ∃ ad n cap, v = .slice ad n cap := by
  obtain ⟨ad, cap, rfl⟩ := h.shape
  exact ⟨ad, _, cap, rfl⟩
/-- another block than one of another type -/
theorem OwnAc.ne (h : OwnAc W0 w v l) {b : Nat} {cs : Array Value} {t : TypeId} (hb : w.heap[b]? = some (.cells cs t (0, 0))) (ht : t ≠ 57) : ∀ x, v.ownBlock = some x → x ≠ b := by
  rcases h.form with ⟨rfl, rfl⟩ | ⟨g, cap, cur, rfl, h2, h3, h4⟩
  · intro x hx; simp [Value.ownBlock] at hx
  · intro x hx e
    simp [Value.ownBlock] at hx
    subst hx e
    rw [h3] at hb
    simp only [Option.some.injEq, Obj.cells.injEq] at hb
    exact ht hb.2.1.symm

/-! #### append -/
set_option maxRecDepth 100000 in
theorem run_appAc {x : Value} {m : List Ac} (ty : TypeId) (h : OwnAc W0 w v l) (hs : SrcAc w x m) (hn : l.length + m.length ≤ 1000000) :
    ∃ v' w', (Builtin.append_ #[28, 28] ty #[v, x]).run Try.prog w = .ok v' w' ∧ OwnAc W0 w' v' (l ++ m) ∧ w.grownBy w' v.ownBlock := by
  obtain ⟨i0, hi, hz0, hz1, hz2⟩ := info_parts infoAc
  rcases hs with ⟨rfl, rfl⟩ | ⟨a, c, rfl, h2⟩
  · exact ⟨v, w, run_append_owned_none (P := Try.prog) (w := w) W0.heap.size 28 ty 57 i0 4 Try.underlying28 hi v l.length _ h.own, by rw [List.append_nil]; exact h, ⟨rfl, rfl, rfl, Nat.le_refl _, fun _ _ _ => rfl⟩⟩
  · obtain ⟨v', w', hr, h4, h5, _, h6⟩ := run_append_own_at (P := Try.prog) w W0.heap.size 28 ty 57 i0 (.agg #[.int .u64 0, .int .u64 0, .int .u64 0, .int .u64 0]) 4 32 Try.underlying28 hi hz0 hz1 hz2 rfl (by decide) v l.length _ h.own a m.length c (acC m) (acC_len m) h2 (acC_one m) (by unfold maxLen; omega) (by omega) h.size
    refine ⟨v', w', hr, ⟨?_, Nat.le_trans h.size h5.size⟩, h5⟩
    rw [List.length_append, acC_app]
    exact h4
section
variable {ops : Array Oper} {rest : List Oper} {o : Oper} {a : Act} {Q : Exit → Act → World → Prop} {K : Act → World → Prop} {E : Prop}
theorem wp_appAc {x : Value} {m : List Ac} (s d : Operand) (ho : o.op = .call { callee := .builtin .append, args := #[s, d], argTypes := #[28, 28] }) (h : OwnAc W0 w v l) (hs : SrcAc w x m) (hn : l.length + m.length ≤ 1000000)
    (h1 : a.eval s = v) (h2 : a.eval d = x) {Q : Exit → Act → World → Prop} (hk : ∀ v' w', OwnAc W0 w' v' (l ++ m) → w.grownBy w' v.ownBlock → K (a.put o.dst v') w') : o.wp Try.prog a w K Q := by
  obtain ⟨v', w', hr, k1, k2⟩ := run_appAc (ty := o.type) h hs hn
  unfold Oper.wp execOp
  simp only [ho, resolve, invoke, builtin, Sem.run_bind, Sem.run_pure, Result.andThen_ok, List.map_toArray, List.map_cons, List.map_nil, h1, h2, hr]
  exact hk v' w' k1 k2
theorem wpList_appAc {x : Value} {m : List Ac} (hgd : o.guard = none) (s d : Operand) (ho : o.op = .call { callee := .builtin .append, args := #[s, d], argTypes := #[28, 28] }) (h : OwnAc W0 w v l) (hs : SrcAc w x m) (hn : l.length + m.length ≤ 1000000)
    (h1 : a.eval s = v) (h2 : a.eval d = x) (hk : ∀ v' w', OwnAc W0 w' v' (l ++ m) → w.grownBy w' v.ownBlock → wpList Try.prog ops Q rest (a.put o.dst v') w') : wpList Try.prog ops Q (o :: rest) a w :=
  wpList_plain hgd fun _ hK => wp_appAc s d ho h hs hn h1 h2 fun v' w' k1 k2 => hK _ _ (hk v' w' k1 k2)
theorem step_appAc {x : Value} {m : List Ac} (hgd : o.guard = none) (s d : Operand) (ho : o.op = .call { callee := .builtin .append, args := #[s, d], argTypes := #[28, 28] }) (h : OwnAc W0 w v l) (hs : SrcAc w x m) (hn : l.length + m.length ≤ 1000000)
    (h1 : a.eval s = v) (h2 : a.eval d = x) (hk : ∀ v' w', OwnAc W0 w' v' (l ++ m) → w.grownBy w' v.ownBlock → K (a.put o.dst v') w') : if Region.wanted o (yielded ops a.tmps) = true then Oper.wp Try.prog o a w K Q else E := by
  have hw : Region.wanted o (yielded ops a.tmps) = true := by simp [Region.wanted, hgd]
  rw [if_pos hw]
  exact wp_appAc s d ho h hs hn h1 h2 hk
end
end
/-- one that was just made, as append's second argument -/
theorem ac_one_src (w : World) (d : Ac) : SrcAc (w.alloc (.cells #[.int .u64 (d.tx : Int), .int .u64 (d.first : Int), .int .u64 (d.last : Int), .int .u64 (d.next : Int)] 57)) (.slice (some ⟨w.heap.size, 0, none⟩) 1 1) [d] := by
  refine .inr ⟨⟨w.heap.size, 0, none⟩, 1, rfl, fun j u hj => ?_⟩
  rw [Addr.add_mid, Nat.zero_add, cell_of_row _ _ _ _ _ _ (heap_alloc_new w _)]
  have : acC [d] = [.int .u64 (d.tx : Int), .int .u64 (d.first : Int), .int .u64 (d.last : Int), .int .u64 (d.next : Int)] := by simp [acC, acL]
  rw [this] at hj
  rw [← hj, ← Array.getElem?_toList]

end Go.Proofs.Ytadhophiannigaa.Rec
