/- Memory: a slice of ints of the call's own: append, a cell (any stage). -/
import Derived.Test.YtbcifefldmmaeaaSTX0
namespace Go.Proofs.Ytbcifefldmmaeaa.Ints
open Go.RowKit
open Go.Proofs.Ytbcifefldmmaeaa.Slot (SrcOf)

def iv (n : Nat) : Value := .int .i64 (n : Int)
/-- v is a slice of these ints, in a block that was made since W0 -/
structure In (W0 w : World) (v : Value) (l : List Nat) : Prop where
  own : w.ownsRow W0.heap.size 3 1 v l.length (l.map iv)
  size : W0.heap.size ≤ w.heap.size

theorem int_one (l : List Nat) : ∀ u ∈ l.map iv, u.oneCell' = true := by
  intro u hu
  obtain ⟨s, _, rfl⟩ := List.mem_map.1 hu
  rfl
set_option maxRecDepth 100000 in
theorem infoI : (Try.prog.info? 3).map (fun i => (i.zero, i.size, i.bytes)) = some (some (.int .i64 0), 1, 8) := by kernel_rfl

section
variable {W0 w : World} {v : Value} {l : List Nat}
theorem In.form (h : In W0 w v l) : (v = .slice none 0 0 ∧ l = []) ∨ ∃ g cap cur, v = .slice (some ⟨g, 0, none⟩) l.length cap ∧ W0.heap.size ≤ g ∧ w.heap[g]? = some (.cells cur 3 (0, 0)) ∧ l.length ≤ cap ∧ cur.toList.take l.length = l.map iv := by
  rcases h.own.2 with ⟨h1, h2⟩ | ⟨g, cap, cur, h1, h2, h3, h4, h5, h6, h7⟩
  · exact .inl ⟨h1, List.eq_nil_of_length_eq_zero h2⟩
  · exact .inr ⟨g, cap, cur, h1, h2, h3, h4, by rw [Nat.mul_one] at h7; exact h7⟩
theorem In.shape (h : In W0 w v l) : ∃ ad cap, v = .slice ad l.length cap := by
  rcases h.form with ⟨rfl, rfl⟩ | ⟨g, cap, cur, h1, _⟩
  · exact ⟨none, 0, rfl⟩
  · exact ⟨_, cap, h1⟩
theorem In.nil (W0 : World) {w : World} (hs : W0.heap.size ≤ w.heap.size) : In W0 w (.slice none 0 0) [] := ⟨World.ownsRow_nil _ _ _ _, hs⟩
theorem In.far {w' : World} (h : In W0 w v l) (hs : w.heap.size ≤ w'.heap.size) (hk : ∀ x, v.ownBlock = some x → w'.heap[x]? = w.heap[x]?) : In W0 w' v l := by
  refine ⟨⟨h.own.1, ?_⟩, Nat.le_trans h.size hs⟩
  rcases h.own.2 with ⟨h1, h2⟩ | ⟨g, cap, cur, rfl, h2, h3, h4⟩
  · exact .inl ⟨h1, h2⟩
  · exact .inr ⟨g, cap, cur, rfl, h2, (hk g rfl).trans h3, h4⟩
theorem In.lt (h : In W0 w v l) : ∀ x, v.ownBlock = some x → x < w.heap.size := fun x hx => (h.own.lt x hx).2
theorem In.later {w' : World} (h : In W0 w v l) (t : Below w.heap.size w w') : In W0 w' v l := h.far t.size fun x hx => t.block x (h.lt x hx)
theorem In.all (h : In W0 w v l) : SrcOf w v l.length (l.map iv) := by
  rcases h.form with ⟨rfl, rfl⟩ | ⟨g, cap, cur, rfl, h2, h3, h4, h5⟩
  · exact .inl ⟨rfl, rfl, rfl⟩
  · refine .inr ⟨⟨g, 0, none⟩, cap, rfl, by rw [List.length_map], fun j u hj => ?_, int_one _, (Array.getElem?_eq_some_iff.1 h3).1⟩
    have e : (⟨g, 0, none⟩ : Addr).add j = ⟨g, j, none⟩ := by simp [Addr.add]; omega
    rw [e, cell_of_row w g j cur _ _ h3]
    rw [← h5, List.getElem?_take] at hj
    split at hj
    · rw [← Array.getElem?_toList]; exact hj
    · cases hj
/-! ### append -/
set_option maxRecDepth 100000 in
theorem run_app {x : Value} {news : List Nat} (ty : TypeId) (h : In W0 w v l) (hs : SrcOf w x news.length (news.map iv)) (hn : l.length + news.length ≤ 1000000) :
    ∃ v' w', (Builtin.append_ #[39, 39] ty #[v, x]).run Try.prog w = .ok v' w' ∧ In W0 w' v' (l ++ news) ∧ w.grownBy w' v.ownBlock := by
  obtain ⟨i0, hi, hz0, hz1, hz2⟩ := info_parts infoI
  rcases hs with ⟨rfl, h2, h3⟩ | ⟨a, c, rfl, h1, h2, h3, _⟩
  · have hnews : news = [] := List.eq_nil_of_length_eq_zero h2
    subst hnews
    exact ⟨v, w, run_append_owned_none (P := Try.prog) (w := w) W0.heap.size 39 ty 3 i0 1 Try.underlying39 hi v l.length _ h.own, by rw [List.append_nil]; exact h, ⟨rfl, rfl, rfl, Nat.le_refl _, fun _ _ _ => rfl⟩⟩
  · obtain ⟨v', w', hr, h4, h5, _⟩ := run_append_own (P := Try.prog) w W0.heap.size 39 ty 3 i0 (.int .i64 0) 1 8 Try.underlying39 hi hz0 hz1 hz2 rfl (by decide) v l.length _ h.own a news.length c (news.map iv) (by rw [List.length_map, Nat.mul_one]) h2 h3 (by unfold maxLen; omega) (by omega) h.size
    refine ⟨v', w', hr, ⟨?_, Nat.le_trans h.size h5.size⟩, h5⟩
    rw [List.length_append, List.map_append]
    exact h4
section
variable {ops : Array Oper} {rest : List Oper} {o : Oper} {a : Act} {Q : Exit → Act → World → Prop} {K : Act → World → Prop} {E : Prop}
theorem wp_app {x : Value} {news : List Nat} (s d : Operand) (ho : o.op = .call { callee := .builtin .append, args := #[s, d], argTypes := #[39, 39] }) (h : In W0 w v l) (hs : SrcOf w x news.length (news.map iv)) (hn : l.length + news.length ≤ 1000000)
    (h1 : a.eval s = v) (h2 : a.eval d = x) {Q : Exit → Act → World → Prop} (hk : ∀ v' w', In W0 w' v' (l ++ news) → w.grownBy w' v.ownBlock → K (a.put o.dst v') w') : o.wp Try.prog a w K Q := by
  obtain ⟨v', w', hr, k1, k2⟩ := run_app (ty := o.type) h hs hn
  unfold Oper.wp execOp
  simp only [ho, resolve, invoke, builtin, Sem.run_bind, Sem.run_pure, Result.andThen_ok, List.map_toArray, List.map_cons, List.map_nil, h1, h2, hr]
  exact hk v' w' k1 k2
theorem wpList_app {x : Value} {news : List Nat} (hgd : o.guard = none) (s d : Operand) (ho : o.op = .call { callee := .builtin .append, args := #[s, d], argTypes := #[39, 39] }) (h : In W0 w v l) (hs : SrcOf w x news.length (news.map iv)) (hn : l.length + news.length ≤ 1000000)
    (h1 : a.eval s = v) (h2 : a.eval d = x) (hk : ∀ v' w', In W0 w' v' (l ++ news) → w.grownBy w' v.ownBlock → wpList Try.prog ops Q rest (a.put o.dst v') w') : wpList Try.prog ops Q (o :: rest) a w :=
  wpList_plain hgd fun _ hK => wp_app s d ho h hs hn h1 h2 fun v' w' k1 k2 => hK _ _ (hk v' w' k1 k2)
theorem step_app {x : Value} {news : List Nat} (hgd : o.guard = none) (s d : Operand) (ho : o.op = .call { callee := .builtin .append, args := #[s, d], argTypes := #[39, 39] }) (h : In W0 w v l) (hs : SrcOf w x news.length (news.map iv)) (hn : l.length + news.length ≤ 1000000)
    (h1 : a.eval s = v) (h2 : a.eval d = x) (hk : ∀ v' w', In W0 w' v' (l ++ news) → w.grownBy w' v.ownBlock → K (a.put o.dst v') w') : if Region.wanted o (yielded ops a.tmps) = true then Oper.wp Try.prog o a w K Q else E := by
  have hw : Region.wanted o (yielded ops a.tmps) = true := by simp [Region.wanted, hgd]
  rw [if_pos hw]
  exact wp_app s d ho h hs hn h1 h2 hk
end
/-- a new slice of ints -/
theorem In.made (W0 : World) {w : World} (l : List Nat) (hs : W0.heap.size ≤ w.heap.size) (hl : l.length ≤ 1000000) : In W0 (w.alloc (.cells (l.map iv).toArray 3)) (.slice (some ⟨w.heap.size, 0, none⟩) l.length l.length) l := by
  refine ⟨?_, by simp; omega⟩
  have := World.ownsRow_lit (base := W0.heap.size) (e := 3) (size := 1) w (l.map iv).toArray l.length hs (by unfold maxLen; omega) (by simp)
  simpa using this
theorem In.cell {v : Value} {l : List Nat} (h : In W0 w v l) {k : Nat} (hk : k < l.length) : ∃ g cap, v = .slice (some ⟨g, 0, none⟩) l.length cap ∧ w.cell? ⟨g, k, none⟩ = some (iv (l.getD k 0)) := by
  rcases h.form with ⟨h1, rfl⟩ | ⟨g, cap, cur, h1, h2, h3, h4, h5⟩
  · simp at hk
  · refine ⟨g, cap, h1, ?_⟩
    rw [cell_of_row w g k cur _ _ h3]
    have : (cur.toList.take l.length)[k]? = (l.map iv)[k]? := by rw [h5]
    rw [List.getElem?_take, if_pos hk] at this
    rw [← Array.getElem?_toList, this, List.getElem?_map, List.getD_eq_getElem?_getD, List.getElem?_eq_getElem hk]
    rfl
theorem In.at {ad : Option Addr} {n cap : Nat} {l : List Nat} (h : In W0 w (.slice ad n cap) l) {k : Nat} (hk : k < l.length) : ∃ g, ad = some ⟨g, 0, none⟩ ∧ w.cell? ⟨g, k, none⟩ = some (iv (l.getD k 0)) := by
  obtain ⟨g, c, h1, h2⟩ := h.cell hk
  simp only [Value.slice.injEq] at h1
  exact ⟨g, h1.1, h2⟩
theorem one_src {W : World} (n : Nat) : SrcOf (W.alloc (.cells #[.int .i64 (n : Int)] 3)) (.slice (some ⟨W.heap.size, 0, none⟩) 1 1) 1 ([n].map iv) :=
  (In.made W (w := W) [n] (Nat.le_refl _) (by simp)).all
end

end Go.Proofs.Ytbcifefldmmaeaa.Ints
