/-
  Memory: a slice of texts of the call's own: append, slices, a store.
-/
import Derived.Laws.OwnMore
import Derived.Laws.AppendOwnNone
import Derived.Maps.AppendAt
import Derived.Test.YtgohpompgiljiaaZ44
namespace Go.Proofs.Ytgohpompgiljiaa.Slot
open Go.RowKit

/-- what append's second argument yields -/
def SrcOf (w : World) (x : Value) (m : Nat) (news : List Value) : Prop :=
  (x = .slice none 0 0 ∧ m = 0 ∧ news = []) ∨ ∃ a c, x = .slice (some a) m c ∧ news.length = m ∧ (∀ j u, news[j]? = some u → w.cell? (a.add j) = some u) ∧ (∀ u ∈ news, u.oneCell' = true) ∧ a.block < w.heap.size
/-- v is a slice of these texts, in a block that was made since W0 -/
structure Tx (W0 w : World) (v : Value) (l : List ByteArray) : Prop where
  own : w.ownsRow W0.heap.size 9 1 v l.length (l.map Value.string)
  size : W0.heap.size ≤ w.heap.size

theorem str_one (l : List ByteArray) : ∀ u ∈ l.map Value.string, u.oneCell' = true := by
  intro u hu
  obtain ⟨s, _, rfl⟩ := List.mem_map.1 hu
  rfl
set_option maxRecDepth 100000 in
theorem Word.infoS : (Try.prog.info? 9).map (fun i => (i.zero, i.size, i.bytes)) = some (some (.string ⟨#[]⟩), 1, 16) := by kernel_rfl

section
variable {W0 w : World} {v : Value} {l : List ByteArray}
theorem Tx.form (h : Tx W0 w v l) : (v = .slice none 0 0 ∧ l = []) ∨ ∃ g cap cur, v = .slice (some ⟨g, 0, none⟩) l.length cap ∧ W0.heap.size ≤ g ∧ w.heap[g]? = some (.cells cur 9 (0, 0)) ∧ l.length ≤ cap ∧ cur.toList.take l.length = l.map Value.string := by
  rcases h.own.2 with ⟨h1, h2⟩ | ⟨g, cap, cur, h1, h2, h3, h4, h5, h6, h7⟩
  · exact .inl ⟨h1, List.eq_nil_of_length_eq_zero h2⟩
  · exact .inr ⟨g, cap, cur, h1, h2, h3, h4, by rw [Nat.mul_one] at h7; exact h7⟩
theorem Tx.shape (h : Tx W0 w v l) : ∃ ad cap, v = .slice ad l.length cap := by
  rcases h.form with ⟨rfl, rfl⟩ | ⟨g, cap, cur, h1, _⟩
  · exact ⟨none, 0, rfl⟩
  · exact ⟨_, cap, h1⟩
theorem Tx.nil (W0 : World) {w : World} (hs : W0.heap.size ≤ w.heap.size) : Tx W0 w (.slice none 0 0) [] := ⟨World.ownsRow_nil _ _ _ _, hs⟩
theorem Tx.far {w' : World} (h : Tx W0 w v l) (hs : w.heap.size ≤ w'.heap.size) (hk : ∀ x, v.ownBlock = some x → w'.heap[x]? = w.heap[x]?) : Tx W0 w' v l := by
  refine ⟨⟨h.own.1, ?_⟩, Nat.le_trans h.size hs⟩
  rcases h.own.2 with ⟨h1, h2⟩ | ⟨g, cap, cur, rfl, h2, h3, h4⟩
  · exact .inl ⟨h1, h2⟩
  · exact .inr ⟨g, cap, cur, rfl, h2, (hk g rfl).trans h3, h4⟩
theorem Tx.lt (h : Tx W0 w v l) : ∀ x, v.ownBlock = some x → x < w.heap.size := fun x hx => (h.own.lt x hx).2
theorem Tx.later {w' : World} (h : Tx W0 w v l) (t : Below w.heap.size w w') : Tx W0 w' v l := h.far t.size fun x hx => t.block x (h.lt x hx)
/-! ### slices of it -/
set_option maxRecDepth 100000 in
theorem elem_strs : Try.prog.underlying 34 = some (.slice (Try.prog.elem 34)) := by kernel_rfl
set_option maxRecDepth 100000 in
theorem size_str (w : World) : (sizeOf (Try.prog.elem 34)).run Try.prog w = .ok 1 w := by kernel_rfl
theorem Tx.head (h : Tx W0 w v l) {k : Nat} (hk : k ≤ l.length) : ∃ x, (∀ W : World, (Instr.sliceAt 34 v none (some (.int .i64 (k : Int))) none).run Try.prog W = .ok x W) ∧ SrcOf w x k ((l.take k).map Value.string) := by
  rcases h.form with ⟨rfl, rfl⟩ | ⟨g, cap, cur, rfl, h2, h3, h4, h5⟩
  · have hk0 : k = 0 := by simpa using hk
    subst hk0
    refine ⟨.slice none 0 0, fun W => ?_, .inl ⟨rfl, rfl, rfl⟩⟩
    rw [run_sliceAt_slice (P := Try.prog) W 34 _ _ _ _ elem_strs, run_slice_h (P := Try.prog) W 34 _ _ _ elem_strs .i64 ((0 : Nat) : Int) (by omega) (by omega), size_str]
    rfl
  · refine ⟨.slice (some ⟨g, 0, none⟩) k cap, fun W => ?_, .inr ⟨⟨g, 0, none⟩, cap, rfl, by rw [List.length_map, List.length_take]; omega, fun j u hj => ?_, str_one _, (Array.getElem?_eq_some_iff.1 h3).1⟩⟩
    · rw [run_sliceAt_slice (P := Try.prog) W 34 _ _ _ _ elem_strs, run_slice_h (P := Try.prog) W 34 _ _ _ elem_strs .i64 (k : Int) (by omega) (by omega), size_str]
      simp only [Result.andThen, sliced, Int.toNat_natCast]
      congr 2
      · split <;> simp [Addr.add]
    · have e : (⟨g, 0, none⟩ : Addr).add j = ⟨g, j, none⟩ := by simp [Addr.add]; omega
      rw [e, cell_of_row w g j cur _ _ h3]
      rw [List.map_take, ← h5, List.take_take, List.getElem?_take] at hj
      split at hj
      · rw [← Array.getElem?_toList]; exact hj
      · cases hj
theorem Tx.tail (h : Tx W0 w v l) {k : Nat} (hk : k ≤ l.length) : ∃ x, (∀ W : World, (Instr.sliceAt 34 v (some (.int .i64 (k : Int))) none none).run Try.prog W = .ok x W) ∧ SrcOf w x (l.length - k) ((l.drop k).map Value.string) := by
  rcases h.form with ⟨rfl, rfl⟩ | ⟨g, cap, cur, rfl, h2, h3, h4, h5⟩
  · have hk0 : k = 0 := by simpa using hk
    subst hk0
    refine ⟨.slice none 0 0, fun W => ?_, .inl ⟨rfl, rfl, rfl⟩⟩
    rw [run_sliceAt_slice (P := Try.prog) W 34 _ _ _ _ elem_strs, run_slice_l (P := Try.prog) W 34 _ _ _ elem_strs .i64 ((0 : Nat) : Int) (by omega) (by simp), size_str]
    rfl
  · obtain ⟨o, ho⟩ := base_any g k cap
    refine ⟨.slice (base g k cap) (l.length - k) (cap - k), fun W => ?_, .inr ⟨⟨g, o, none⟩, cap - k, by rw [ho], by rw [List.length_map, List.length_drop], fun j u hj => ?_, str_one _, (Array.getElem?_eq_some_iff.1 h3).1⟩⟩
    · rw [run_sliceAt_slice (P := Try.prog) W 34 _ _ _ _ elem_strs, run_slice_l (P := Try.prog) W 34 _ _ _ elem_strs .i64 (k : Int) (by omega) (by omega), size_str]
      simp only [Result.andThen, sliced, Int.toNat_natCast, base, Option.map_some, Nat.mul_one]
      congr 2
      split <;> simp [Addr.add] <;> omega
    · have hjl : j < l.length - k := by
        have := (List.getElem?_eq_some_iff.1 hj).1
        rwa [List.length_map, List.length_drop] at this
      rw [base_lt (by omega)] at ho
      have e2 : o = k := by simp at ho; exact ho.symm
      subst e2
      have e : (⟨g, o, none⟩ : Addr).add j = ⟨g, o + j, none⟩ := by simp [Addr.add]
      rw [e, cell_of_row w g _ cur _ _ h3]
      rw [List.map_drop, ← h5, List.getElem?_drop, List.getElem?_take, if_pos (by omega)] at hj
      rw [← Array.getElem?_toList]; exact hj
theorem Tx.all (h : Tx W0 w v l) : SrcOf w v l.length (l.map Value.string) := by
  rcases h.form with ⟨rfl, rfl⟩ | ⟨g, cap, cur, rfl, h2, h3, h4, h5⟩
  · exact .inl ⟨rfl, rfl, rfl⟩
  · refine .inr ⟨⟨g, 0, none⟩, cap, rfl, by rw [List.length_map], fun j u hj => ?_, str_one _, (Array.getElem?_eq_some_iff.1 h3).1⟩
    have e : (⟨g, 0, none⟩ : Addr).add j = ⟨g, j, none⟩ := by simp [Addr.add]; omega
    rw [e, cell_of_row w g j cur _ _ h3]
    rw [← h5, List.getElem?_take] at hj
    split at hj
    · rw [← Array.getElem?_toList]; exact hj
    · cases hj
theorem SrcOf.later {w' : World} {x : Value} {m : Nat} {news : List Value} (h : SrcOf w x m news) (t : Below w.heap.size w w') : SrcOf w' x m news := by
  rcases h with h | ⟨a, c, rfl, h1, h2, h3, h4⟩
  · exact .inl h
  · refine .inr ⟨a, c, rfl, h1, fun j u hj => ?_, h3, Nat.lt_of_lt_of_le h4 t.size⟩
    have e : (a.add j).block = a.block := by unfold Addr.add; split <;> rfl
    have hb : w'.heap[(a.add j).block]? = w.heap[(a.add j).block]? := by rw [e]; exact t.block a.block h4
    exact (World.cell?_of_block hb).trans (h2 j u hj)
/-- what has grown since -/
theorem below_grown {w1 w' : World} {v : Value} (hb : Below w.heap.size w w1) (h : ∀ x, v.ownBlock = some x → w.heap.size ≤ x) (g : w1.grownBy w' v.ownBlock) : Below w.heap.size w w' := hb.grown g hb.size h

/-! ### append -/
set_option maxRecDepth 100000 in
theorem run_app {x : Value} {news : List ByteArray} (ty : TypeId) (h : Tx W0 w v l) (hs : SrcOf w x news.length (news.map Value.string)) (hn : l.length + news.length ≤ 1000000) :
    ∃ v' w', (Builtin.append_ #[34, 34] ty #[v, x]).run Try.prog w = .ok v' w' ∧ Tx W0 w' v' (l ++ news) ∧ w.grownBy w' v.ownBlock := by
  obtain ⟨i0, hi, hz0, hz1, hz2⟩ := info_parts Word.infoS
  rcases hs with ⟨rfl, h2, h3⟩ | ⟨a, c, rfl, h1, h2, h3, _⟩
  · have hnews : news = [] := List.eq_nil_of_length_eq_zero h2
    subst hnews
    exact ⟨v, w, run_append_owned_none (P := Try.prog) (w := w) W0.heap.size 34 ty 9 i0 1 Try.underlying34 hi v l.length _ h.own, by rw [List.append_nil]; exact h, ⟨rfl, rfl, rfl, Nat.le_refl _, fun _ _ _ => rfl⟩⟩
  · obtain ⟨v', w', hr, h4, h5, _⟩ := run_append_own (P := Try.prog) w W0.heap.size 34 ty 9 i0 (.string ⟨#[]⟩) 1 16 Try.underlying34 hi hz0 hz1 hz2 rfl (by decide) v l.length _ h.own a news.length c (news.map Value.string) (by rw [List.length_map, Nat.mul_one]) h2 h3 (by unfold maxLen; omega) (by omega) h.size
    refine ⟨v', w', hr, ⟨?_, Nat.le_trans h.size h5.size⟩, h5⟩
    rw [List.length_append, List.map_append]
    exact h4
section
variable {ops : Array Oper} {rest : List Oper} {o : Oper} {a : Act} {Q : Exit → Act → World → Prop} {K : Act → World → Prop} {E : Prop}
theorem wp_app {x : Value} {news : List ByteArray} (s d : Operand) (ho : o.op = .call { callee := .builtin .append, args := #[s, d], argTypes := #[34, 34] }) (h : Tx W0 w v l) (hs : SrcOf w x news.length (news.map Value.string)) (hn : l.length + news.length ≤ 1000000)
    (h1 : a.eval s = v) (h2 : a.eval d = x) {Q : Exit → Act → World → Prop} (hk : ∀ v' w', Tx W0 w' v' (l ++ news) → w.grownBy w' v.ownBlock → K (a.put o.dst v') w') : o.wp Try.prog a w K Q := by
  obtain ⟨v', w', hr, k1, k2⟩ := run_app (ty := o.type) h hs hn
  unfold Oper.wp execOp
  simp only [ho, resolve, invoke, builtin, Sem.run_bind, Sem.run_pure, Result.andThen_ok, List.map_toArray, List.map_cons, List.map_nil, h1, h2, hr]
  exact hk v' w' k1 k2
theorem wpList_app {x : Value} {news : List ByteArray} (hgd : o.guard = none) (s d : Operand) (ho : o.op = .call { callee := .builtin .append, args := #[s, d], argTypes := #[34, 34] }) (h : Tx W0 w v l) (hs : SrcOf w x news.length (news.map Value.string)) (hn : l.length + news.length ≤ 1000000)
    (h1 : a.eval s = v) (h2 : a.eval d = x) (hk : ∀ v' w', Tx W0 w' v' (l ++ news) → w.grownBy w' v.ownBlock → wpList Try.prog ops Q rest (a.put o.dst v') w') : wpList Try.prog ops Q (o :: rest) a w :=
  wpList_plain hgd fun _ hK => wp_app s d ho h hs hn h1 h2 fun v' w' k1 k2 => hK _ _ (hk v' w' k1 k2)
theorem step_app {x : Value} {news : List ByteArray} (hgd : o.guard = none) (s d : Operand) (ho : o.op = .call { callee := .builtin .append, args := #[s, d], argTypes := #[34, 34] }) (h : Tx W0 w v l) (hs : SrcOf w x news.length (news.map Value.string)) (hn : l.length + news.length ≤ 1000000)
    (h1 : a.eval s = v) (h2 : a.eval d = x) (hk : ∀ v' w', Tx W0 w' v' (l ++ news) → w.grownBy w' v.ownBlock → K (a.put o.dst v') w') : if Region.wanted o (yielded ops a.tmps) = true then Oper.wp Try.prog o a w K Q else E := by
  have hw : Region.wanted o (yielded ops a.tmps) = true := by simp [Region.wanted, hgd]
  rw [if_pos hw]
  exact wp_app s d ho h hs hn h1 h2 hk
end
/-- a new slice of texts -/
theorem Tx.made (W0 : World) {w : World} (l : List ByteArray) (hs : W0.heap.size ≤ w.heap.size) (hl : l.length ≤ 1000000) : Tx W0 (w.alloc (.cells (l.map Value.string).toArray 9)) (.slice (some ⟨w.heap.size, 0, none⟩) l.length l.length) l := by
  refine ⟨?_, by simp; omega⟩
  have := World.ownsRow_lit (base := W0.heap.size) (e := 9) (size := 1) w (l.map Value.string).toArray l.length hs (by unfold maxLen; omega) (by simp)
  simpa using this
/-- a store -/
theorem Tx.store {ad : Option Addr} {cap k : Nat} (h : Tx W0 w (.slice ad l.length cap) l) (hk : k < l.length) (t : ByteArray) :
    ∃ g, ad = some ⟨g, 0, none⟩ ∧ w.cell? ⟨g, k, none⟩ = some (.string (l.getD k ⟨#[]⟩)) ∧ w.frozen? ⟨g, k, none⟩ = false ∧ Tx W0 (w.setCell ⟨g, k, none⟩ (.string t)) (.slice ad l.length cap) (l.set k t) ∧ w.grownBy (w.setCell ⟨g, k, none⟩ (.string t)) (some g) := by
  rcases h.form with ⟨h1, rfl⟩ | ⟨g, cap', cur, h1, h2, h3, h4, h5⟩
  · simp at hk
  · simp only [Value.slice.injEq] at h1
    obtain ⟨rfl, _, rfl⟩ := h1
    have hst := h.own.stored k (.string t)
    refine ⟨g, rfl, ?_, frozen_of_row w g k _ _ h3, ⟨?_, by simpa using h.size⟩, hst.2⟩
    · rw [cell_of_row w g k cur _ _ h3]
      have : (cur.toList.take l.length)[k]? = (l.map Value.string)[k]? := by rw [h5]
      rw [List.getElem?_take, if_pos hk] at this
      rw [← Array.getElem?_toList, this, List.getElem?_map, List.getD_eq_getElem?_getD, List.getElem?_eq_getElem hk]
      rfl
    · rw [List.length_set, List.map_set]
      exact hst.1
theorem Tx.at {ad : Option Addr} {cap k : Nat} (h : Tx W0 w (.slice ad l.length cap) l) (hk : k < l.length) :
    ∃ g, ad = some ⟨g, 0, none⟩ ∧ w.cell? ⟨g, k, none⟩ = some (.string (l.getD k ⟨#[]⟩)) := by
  obtain ⟨g, h1, h2, _⟩ := h.store hk ⟨#[]⟩
  exact ⟨g, h1, h2⟩
end

end Go.Proofs.Ytgohpompgiljiaa.Slot
