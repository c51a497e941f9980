/-
  Memory: slices of elements of any shape: that are read, or are the call's own: append, a store, a reslice (any program, any stage).
-/
import Derived.WalkKit
import Derived.WalkSpells
import Derived.WalkLawsBesides
import Derived.Lib.Hide
import Derived.Laws.Rows
import Derived.Laws.CopyOwn
import Derived.Laws.MakeOwn
import Derived.Laws.OwnMore
import Derived.Laws.AppendOwnNone
import Derived.Maps.AppendAt
import Derived.Deep.RegionLaw
import Derived.Deep.MidRow
namespace Go.Proofs.Ytgohpompgiljiaa.Seq
open Go.RowKit

/-- how elements lie: the slice's type, the element's, how many cells, of which zero, how many bytes, which cells -/
structure Shp (P : Program) (α : Type) where
  t : TypeId
  e : TypeId
  k : Nat
  zero : Value
  bytes : Nat
  cells : α → List Value
  under : P.underlying t = some (.slice e)
  info : (P.info? e).map (fun i => (i.zero, i.size, i.bytes)) = some (some zero, k, bytes)
  zk : zero.cells.size = k
  kpos : 0 < k
  len : ∀ x, (cells x).length = k
  one : ∀ x, ∀ u ∈ cells x, u.oneCell' = true
  small : bytes ≤ 1000
  elem : P.underlying t = some (.slice (P.elem t))
  size : ∀ w, (sizeOf (P.elem t)).run P w = .ok k w

variable {P : Program} {α : Type} (S : Shp P α)
/-- the cells of a list -/
def all (l : List α) : List Value := l.flatMap S.cells
theorem all_nil : all S [] = [] := rfl
theorem all_cons (x : α) (l : List α) : all S (x :: l) = S.cells x ++ all S l := by simp [all]
theorem all_app (l m : List α) : all S (l ++ m) = all S l ++ all S m := by simp [all]
theorem all_len (l : List α) : (all S l).length = l.length * S.k := by
  induction l with
  | nil => simp [all]
  | cons x l ih => rw [all_cons, List.length_append, ih, S.len, List.length_cons, Nat.succ_mul]; omega
theorem all_one (l : List α) : ∀ u ∈ all S l, u.oneCell' = true := by
  intro u hu
  obtain ⟨x, _, hx⟩ := List.mem_flatMap.1 hu
  exact S.one x u hx
theorem all_at (l : List α) (i : Nat) (x : α) (h : l[i]? = some x) (j : Nat) (hj : j < S.k) : (all S l)[i * S.k + j]? = (S.cells x)[j]? := by
  induction l generalizing i with
  | nil => simp at h
  | cons y l ih =>
    rw [all_cons]
    cases i with
    | zero =>
      simp only [List.getElem?_cons_zero, Option.some.injEq] at h
      subst h
      rw [Nat.zero_mul, Nat.zero_add, List.getElem?_append_left (by rw [S.len]; exact hj)]
    | succ i =>
      rw [List.getElem?_cons_succ] at h
      have e : (i + 1) * S.k = i * S.k + S.k := Nat.succ_mul ..
      rw [List.getElem?_append_right (by rw [S.len, e]; omega), ← ih i h, S.len]
      congr 1
      rw [e]; omega
/-- v reads as this list, in world w -/
def Is (w : World) (v : Value) (l : List α) : Prop :=
  ∃ a cap, v = .slice a l.length cap ∧ l.length ≤ cap ∧ (a = none → cap = 0) ∧ (l = [] ∨ ∃ x o, a = some ⟨x, o, none⟩ ∧ x < w.heap.size ∧ ∀ j u, (all S l)[j]? = some u → w.cell? ⟨x, o + j, none⟩ = some u)
variable {S}
section
variable {w w' : World} {v : Value} {l : List α}
theorem Is.nil (w : World) : Is S w (.slice none 0 0) ([] : List α) := ⟨none, 0, rfl, Nat.le_refl _, fun _ => rfl, .inl rfl⟩
theorem Is.later (h : Is S w v l) (t : Below w.heap.size w w') : Is S w' v l := by
  obtain ⟨a, cap, hv, h1, h2, hc⟩ := h
  refine ⟨a, cap, hv, h1, h2, hc.imp id ?_⟩
  rintro ⟨x, o, ha, hx, hj⟩
  exact ⟨x, o, ha, Nat.lt_of_lt_of_le hx t.size, fun j u hu => (World.cell?_of_block (t.block x hx)).trans (hj j u hu)⟩
theorem Is.shape (h : Is S w v l) : ∃ a cap, v = .slice a l.length cap := by
  obtain ⟨a, cap, hv, _⟩ := h
  exact ⟨a, cap, hv⟩
/-- element i, cell by cell -/
theorem Is.at {a : Option Addr} {n cap : Nat} (h : Is S w (.slice a n cap) l) {i : Nat} {x : α} (hx : l[i]? = some x) : ∃ b o, a = some ⟨b, o, none⟩ ∧ b < w.heap.size ∧ ∀ j u, (S.cells x)[j]? = some u → w.cell? ⟨b, o + (i * S.k + j), none⟩ = some u := by
  obtain ⟨a', cap', hv, _, _, hc⟩ := h
  simp only [Value.slice.injEq] at hv
  obtain ⟨rfl, _, rfl⟩ := hv
  rcases hc with rfl | ⟨b, o, ha, hb, hj⟩
  · simp at hx
  · refine ⟨b, o, ha, hb, fun j u hu => hj _ u ?_⟩
    have hjk : j < S.k := by have := (List.getElem?_eq_some_iff.1 hu).1; rwa [S.len] at this
    rw [all_at S l i x hx j hjk, hu]
end
/-- the first ones -/
theorem Is.head {w : World} {v : Value} {l : List α} (h : Is S w v l) {k : Nat} (hk : k ≤ l.length) :
    ∃ x, (∀ W : World, (Instr.sliceAt S.t v none (some (.int .i64 (k : Int))) none).run P W = .ok x W) ∧ Is S w x (l.take k) := by
  obtain ⟨ad, c, rfl, g1, g2, h1⟩ := h
  have hd := congrArg (List.take (k * S.k)) (all_app S (l.take k) (l.drop k))
  rw [List.take_append_drop, List.take_left' (by rw [all_len, List.length_take]; congr 1; omega)] at hd
  refine ⟨sliced ad 0 k c S.k, fun W => ?_, ?_⟩
  · rw [run_sliceAt_slice (P := P) W S.t _ _ _ _ S.elem, run_slice_h (P := P) W S.t _ _ _ S.elem .i64 (k : Int) (by omega) (by omega), S.size]
    rfl
  · unfold sliced
    refine ⟨_, _, by rw [List.length_take, Nat.min_eq_left hk, Nat.sub_zero], by rw [List.length_take]; omega, fun e => ?_, ?_⟩
    · split at e
      · omega
      · have := g2 (Option.map_eq_none_iff.1 e); omega
    · rcases h1 with rfl | ⟨b, o, rfl, hb, hcell⟩
      · exact .inl (by rw [List.take_nil])
      · refine .inr ⟨b, o, ?_, hb, fun j u hj => hcell j u ?_⟩
        · split
          · rfl
          · rw [Option.map_some, Addr.add_mid]; simp
        · rw [← hd, List.getElem?_take] at hj
          split at hj
          · exact hj
          · cases hj
/-- the other ones -/
theorem Is.tail {w : World} {v : Value} {l : List α} (h : Is S w v l) {k : Nat} (hk : k ≤ l.length) :
    ∃ x, (∀ W : World, (Instr.sliceAt S.t v (some (.int .i64 (k : Int))) none none).run P W = .ok x W) ∧ Is S w x (l.drop k) := by
  obtain ⟨ad, c, rfl, g1, g2, h1⟩ := h
  have hd := congrArg (List.drop (k * S.k)) (all_app S (l.take k) (l.drop k))
  rw [List.take_append_drop, List.drop_left' (by rw [all_len, List.length_take]; congr 1; omega)] at hd
  refine ⟨sliced ad k l.length c S.k, fun W => ?_, ?_⟩
  · rw [run_sliceAt_slice (P := P) W S.t _ _ _ _ S.elem, run_slice_l (P := P) W S.t _ _ _ S.elem .i64 (k : Int) (by omega) (by omega), S.size]
    rfl
  · unfold sliced
    refine ⟨_, _, by rw [List.length_drop], by rw [List.length_drop]; omega, fun e => ?_, ?_⟩
    · split at e
      · omega
      · have := g2 (Option.map_eq_none_iff.1 e); omega
    · by_cases hkl : k = l.length
      · exact .inl (by rw [hkl]; exact List.drop_length ..)
      rcases h1 with rfl | ⟨b, o, rfl, hb, hcell⟩
      · exact .inl (by rw [List.drop_nil])
      · refine .inr ⟨b, o + k * S.k, ?_, hb, fun j u hj => ?_⟩
        · rw [if_neg (by omega), Option.map_some, Addr.add_mid]
        · rw [← hd, List.getElem?_drop] at hj
          rw [Nat.add_assoc]
          exact hcell _ u hj
/-- what append's second argument yields -/
def Src (S : Shp P α) (w : World) (x : Value) (l : List α) : Prop :=
  (x = .slice none 0 0 ∧ l = []) ∨ ∃ a c, x = .slice (some a) l.length c ∧ ∀ j u, (all S l)[j]? = some u → w.cell? (a.add j) = some u
/-- v is this list, in a block that was made since W0 -/
structure Own (S : Shp P α) (W0 w : World) (v : Value) (l : List α) : Prop where
  own : w.ownsRow W0.heap.size S.e S.k v l.length (all S l)
  size : W0.heap.size ≤ w.heap.size
section
variable {W0 w w' : World} {v : Value} {l : List α}
theorem Own.form (h : Own S W0 w v l) : (v = .slice none 0 0 ∧ l = []) ∨ ∃ g cap cur, v = .slice (some ⟨g, 0, none⟩) l.length cap ∧ W0.heap.size ≤ g ∧ w.heap[g]? = some (.cells cur S.e (0, 0)) ∧ l.length ≤ cap ∧ cur.toList.take (l.length * S.k) = all S l := by
  rcases h.own.2 with ⟨h1, h2⟩ | ⟨g, cap, cur, h1, h2, h3, h4, h5, h6, h7⟩
  · exact .inl ⟨h1, List.eq_nil_of_length_eq_zero h2⟩
  · exact .inr ⟨g, cap, cur, h1, h2, h3, h4, h7⟩
theorem Own.is (h : Own S W0 w v l) : Is S w v l := by
  rcases h.form with ⟨rfl, rfl⟩ | ⟨g, cap, cur, rfl, h2, h3, h4, h5⟩
  · exact Is.nil w
  · refine ⟨some ⟨g, 0, none⟩, cap, rfl, h4, (fun h => by cases h), .inr ⟨g, 0, rfl, (Array.getElem?_eq_some_iff.1 h3).1, fun j u hu => ?_⟩⟩
    have hj := (List.getElem?_eq_some_iff.1 hu).1
    rw [all_len] at hj
    rw [Nat.zero_add, cell_of_row w g _ cur _ _ h3, ← Array.getElem?_toList, ← hu, ← h5, List.getElem?_take, if_pos hj]
theorem Own.nil (S : Shp P α) (W0 : World) {w : World} (hs : W0.heap.size ≤ w.heap.size) : Own S W0 w (.slice none 0 0) [] := ⟨World.ownsRow_nil _ _ _ _, hs⟩
theorem Own.far (h : Own S W0 w v l) (hs : w.heap.size ≤ w'.heap.size) (hk : ∀ x, v.ownBlock = some x → w'.heap[x]? = w.heap[x]?) : Own S W0 w' v l := by
  refine ⟨⟨h.own.1, ?_⟩, Nat.le_trans h.size hs⟩
  rcases h.own.2 with ⟨h1, h2⟩ | ⟨g, cap, cur, rfl, h2, h3, h4⟩
  · exact .inl ⟨h1, h2⟩
  · exact .inr ⟨g, cap, cur, rfl, h2, (hk g rfl).trans h3, h4⟩
theorem Own.lt (h : Own S W0 w v l) : ∀ x, v.ownBlock = some x → W0.heap.size ≤ x ∧ x < w.heap.size := fun x hx => h.own.lt x hx
theorem Own.later (h : Own S W0 w v l) (t : Below w.heap.size w w') : Own S W0 w' v l := h.far t.size fun x hx => t.block x (h.lt x hx).2
theorem Own.shape (h : Own S W0 w v l) : ∃ ad cap, v = .slice ad l.length cap := h.is.shape
/-- another block than one of another type -/
theorem Own.ne (h : Own S W0 w v l) {b : Nat} {cs : Array Value} {t : TypeId} {f : Nat × Nat} (hb : w.heap[b]? = some (.cells cs t f)) (ht : t ≠ S.e) : ∀ x, v.ownBlock = some x → x ≠ b := by
  rcases h.form with ⟨rfl, rfl⟩ | ⟨g, cap, cur, rfl, h2, h3, h4⟩
  · intro x hx; simp [Value.ownBlock] at hx
  · intro x hx e
    simp [Value.ownBlock] at hx
    subst hx e
    rw [h3] at hb
    simp only [Option.some.injEq, Obj.cells.injEq] at hb
    exact ht hb.2.1.symm
/-- lists of the call's own, of unlike types, lie in unlike blocks -/
theorem Own.apart {β : Type} {S' : Shp P β} {v' : Value} {m : List β} (h : Own S W0 w v l) (k : Own S' W0 w v' m) (hne : S.e ≠ S'.e) : ∀ x, v.ownBlock = some x → some x ≠ v'.ownBlock := by
  intro x hx e
  rcases h.form with ⟨rfl, rfl⟩ | ⟨g, cap, cur, rfl, _, h3, _⟩
  · simp [Value.ownBlock] at hx
  · exact k.ne h3 hne x e.symm (by simpa [Value.ownBlock] using hx.symm)
theorem Own.grown {β : Type} {S' : Shp P β} {v' : Value} {m : List β} (h : Own S W0 w v l) (k : Own S' W0 w v' m) (hne : S.e ≠ S'.e) (g : w.grownBy w' v'.ownBlock) : Own S W0 w' v l :=
  h.far g.size fun x hx => g.block x (h.lt x hx).2 (h.apart k hne x hx)
theorem below_own (hb : Below W0.heap.size W0 w) (h : Own S W0 w v l) (g : w.grownBy w' v.ownBlock) : Below W0.heap.size W0 w' := hb.grown g hb.size fun x hx => (h.lt x hx).1
/-- a new list -/
theorem Own.made (S : Shp P α) (W0 : World) {w : World} (l : List α) (hs : W0.heap.size ≤ w.heap.size) (hl : l.length ≤ 1000000) : Own S W0 (w.alloc (.cells (all S l).toArray S.e)) (.slice (some ⟨w.heap.size, 0, none⟩) l.length l.length) l := by
  refine ⟨?_, by simp; omega⟩
  have := World.ownsRow_lit (base := W0.heap.size) (e := S.e) (size := S.k) w (all S l).toArray l.length hs (by unfold maxLen; omega) (by rw [List.size_toArray, all_len])
  simpa using this
theorem Own.src (h : Own S W0 w v l) : Src S w v l := by
  rcases h.form with ⟨rfl, rfl⟩ | ⟨g, cap, cur, rfl, h2, h3, h4, h5⟩
  · exact .inl ⟨rfl, rfl⟩
  · refine .inr ⟨⟨g, 0, none⟩, cap, rfl, fun j u hu => ?_⟩
    have hj := (List.getElem?_eq_some_iff.1 hu).1
    rw [all_len] at hj
    rw [Addr.add_mid, Nat.zero_add, cell_of_row w g _ cur _ _ h3, ← Array.getElem?_toList, ← hu, ← h5, List.getElem?_take, if_pos hj]
theorem Is.src (h : Is S w v l) : Src S w v l ∨ l = [] := by
  obtain ⟨a, cap, rfl, h1, h2, hc⟩ := h
  rcases hc with rfl | ⟨x, o, rfl, hx, hj⟩
  · exact .inr rfl
  · exact .inl (.inr ⟨⟨x, o, none⟩, cap, rfl, fun j u hu => by rw [Addr.add_mid]; exact hj j u hu⟩)
/-- one that was just made, as append's second argument -/
theorem one_src (S : Shp P α) {W : World} (x : α) : Src S (W.alloc (.cells (S.cells x).toArray S.e)) (.slice (some ⟨W.heap.size, 0, none⟩) 1 1) [x] := by
  have h := (Own.made S W (w := W) [x] (Nat.le_refl _) (by simp)).src
  have e : all S [x] = S.cells x := by simp [all]
  rw [e] at h
  exact h
theorem Src.later {x : Value} {m : List α} (h : Src S w x m) (hb : ∀ a n c, x = .slice (some a) n c → a.block < w.heap.size) (t : Below w.heap.size w w') : Src S w' x m := by
  rcases h with h | ⟨a, c, rfl, h2⟩
  · exact .inl h
  · refine .inr ⟨a, c, rfl, fun j u hj => ?_⟩
    have e : (a.add j).block = a.block := by unfold Addr.add; split <;> rfl
    have hb2 : w'.heap[(a.add j).block]? = w.heap[(a.add j).block]? := by rw [e]; exact t.block a.block (hb a _ c rfl)
    exact (World.cell?_of_block hb2).trans (h2 j u hj)
/-! ### append -/
theorem run_app {x : Value} {m : List α} (ty : TypeId) (h : Own S W0 w v l) (hs : Src S w x m) (hn : l.length + m.length ≤ 1000000) :
    ∃ v' w', (Builtin.append_ #[S.t, S.t] ty #[v, x]).run P w = .ok v' w' ∧ Own S W0 w' v' (l ++ m) ∧ w.grownBy w' v.ownBlock := by
  obtain ⟨i0, hi, hz0, hz1, hz2⟩ := info_parts S.info
  rcases hs with ⟨rfl, rfl⟩ | ⟨a, c, rfl, h2⟩
  · exact ⟨v, w, run_append_owned_none (P := P) (w := w) W0.heap.size S.t ty S.e i0 S.k S.under hi v l.length _ h.own, by rw [List.append_nil]; exact h, ⟨rfl, rfl, rfl, Nat.le_refl _, fun _ _ _ => rfl⟩⟩
  · have hb : (l.length + m.length) * S.bytes ≤ 140737488355328 := Nat.le_trans (Nat.mul_le_mul hn S.small) (by decide)
    obtain ⟨v', w', hr, h4, h5, _, _⟩ := run_append_own_at (P := P) w W0.heap.size S.t ty S.e i0 S.zero S.k S.bytes S.under hi hz0 hz1 hz2 S.zk S.kpos v l.length _ h.own a m.length c (all S m) (all_len S m) h2 (all_one S m) (by unfold maxLen; omega) hb h.size
    refine ⟨v', w', hr, ⟨?_, Nat.le_trans h.size h5.size⟩, h5⟩
    rw [List.length_append, all_app]
    exact h4
section
variable {ops : Array Oper} {rest : List Oper} {o : Oper} {a : Act} {Q : Exit → Act → World → Prop} {K : Act → World → Prop} {E : Prop}
theorem wp_app {x : Value} {m : List α} (s d : Operand) (ho : o.op = .call { callee := .builtin .append, args := #[s, d], argTypes := #[S.t, S.t] }) (h : Own S W0 w v l) (hs : Src S w x m) (hn : l.length + m.length ≤ 1000000)
    (h1 : a.eval s = v) (h2 : a.eval d = x) {Q : Exit → Act → World → Prop} (hk : ∀ v' w', Own S W0 w' v' (l ++ m) → w.grownBy w' v.ownBlock → K (a.put o.dst v') w') : o.wp P a w K Q := by
  obtain ⟨v', w', hr, k1, k2⟩ := run_app (ty := o.type) h hs hn
  unfold Oper.wp execOp
  simp only [ho, resolve, invoke, builtin, Sem.run_bind, Sem.run_pure, Result.andThen_ok, List.map_toArray, List.map_cons, List.map_nil, h1, h2, hr]
  exact hk v' w' k1 k2
theorem wpList_app {x : Value} {m : List α} (hgd : o.guard = none) (s d : Operand) (ho : o.op = .call { callee := .builtin .append, args := #[s, d], argTypes := #[S.t, S.t] }) (h : Own S W0 w v l) (hs : Src S w x m) (hn : l.length + m.length ≤ 1000000)
    (h1 : a.eval s = v) (h2 : a.eval d = x) (hk : ∀ v' w', Own S W0 w' v' (l ++ m) → w.grownBy w' v.ownBlock → wpList P ops Q rest (a.put o.dst v') w') : wpList P ops Q (o :: rest) a w :=
  wpList_plain hgd fun _ hK => wp_app s d ho h hs hn h1 h2 fun v' w' k1 k2 => hK _ _ (hk v' w' k1 k2)
theorem step_app {x : Value} {m : List α} (hgd : o.guard = none) (s d : Operand) (ho : o.op = .call { callee := .builtin .append, args := #[s, d], argTypes := #[S.t, S.t] }) (h : Own S W0 w v l) (hs : Src S w x m) (hn : l.length + m.length ≤ 1000000)
    (h1 : a.eval s = v) (h2 : a.eval d = x) (hk : ∀ v' w', Own S W0 w' v' (l ++ m) → w.grownBy w' v.ownBlock → K (a.put o.dst v') w') : if Region.wanted o (yielded ops a.tmps) = true then Oper.wp P o a w K Q else E := by
  have hw : Region.wanted o (yielded ops a.tmps) = true := by simp [Region.wanted, hgd]
  rw [if_pos hw]
  exact wp_app s d ho h hs hn h1 h2 hk
end
end

end Go.Proofs.Ytgohpompgiljiaa.Seq
