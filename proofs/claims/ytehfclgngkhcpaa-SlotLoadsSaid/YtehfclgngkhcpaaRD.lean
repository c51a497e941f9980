/- Memory: slices of places: append, slices. -/
import Derived.Test.YtehfclgngkhcpaaRW2
import Derived.Deep.RegionLaw
namespace Go.Proofs.Ytehfclgngkhcpaa.Slot
open Go.RowKit

def SrcD (w : World) (x : Value) (l : List (Nat × Nat)) : Prop :=
  (x = .slice none 0 0 ∧ l = []) ∨ ∃ a c, x = .slice (some a) l.length c ∧ (∀ j u, (dirC l)[j]? = some u → w.cell? (a.add j) = some u) ∧ a.block < w.heap.size
theorem SrcD.later {w w' : World} {x : Value} {l : List (Nat × Nat)} (h : SrcD w x l) (t : Below w.heap.size w w') : SrcD w' x l := by
  rcases h with h | ⟨a, c, rfl, h2, h4⟩
  · exact .inl h
  · refine .inr ⟨a, c, rfl, fun j u hj => ?_, Nat.lt_of_lt_of_le h4 t.size⟩
    have e : (a.add j).block = a.block := by unfold Addr.add; split <;> rfl
    have hb : w'.heap[(a.add j).block]? = w.heap[(a.add j).block]? := by rw [e]; exact t.block a.block h4
    exact (World.cell?_of_block hb).trans (h2 j u hj)
theorem Dl.later {w w' : World} {v : Value} {l : List (Nat × Nat)} (h : Dl w v l) (t : Below w.heap.size w w') : Dl w' v l := ownsRow_far h fun b hb => t.block b (h.lt b hb).2

set_option maxRecDepth 100000 in
theorem elem_pls : Try.prog.underlying 102 = some (.slice (Try.prog.elem 102)) := by kernel_rfl
set_option maxRecDepth 100000 in
theorem size_pl (w : World) : (sizeOf (Try.prog.elem 102)).run Try.prog w = .ok 2 w := by kernel_rfl
set_option maxRecDepth 100000 in
theorem Word.infoP : (Try.prog.info? 110).map (fun i => (i.zero, i.size, i.bytes)) = some (some (.agg #[.int .i64 0, .int .i64 0]), 2, 16) := by kernel_rfl

section
variable {w : World} {v : Value} {l : List (Nat × Nat)}
theorem Dl.head (h : Dl w v l) {k : Nat} (hk : k ≤ l.length) : ∃ x, (∀ W : World, (Instr.sliceAt 102 v none (some (.int .i64 (k : Int))) none).run Try.prog W = .ok x W) ∧ SrcD w x (l.take k) := by
  have hkl : (l.take k).length = k := by rw [List.length_take]; omega
  rcases h.form with ⟨rfl, rfl⟩ | ⟨g, cap, cur, rfl, h3, h4, h5⟩
  · have hk0 : k = 0 := by simpa using hk
    subst hk0
    refine ⟨.slice none 0 0, fun W => ?_, .inl ⟨rfl, rfl⟩⟩
    rw [run_sliceAt_slice (P := Try.prog) W 102 _ _ _ _ elem_pls, run_slice_h (P := Try.prog) W 102 _ _ _ elem_pls .i64 ((0 : Nat) : Int) (by omega) (by omega), size_pl]
    rfl
  · refine ⟨.slice (some ⟨g, 0, none⟩) k cap, fun W => ?_, .inr ⟨⟨g, 0, none⟩, cap, by rw [hkl], fun j u hj => ?_, (Array.getElem?_eq_some_iff.1 h3).1⟩⟩
    · rw [run_sliceAt_slice (P := Try.prog) W 102 _ _ _ _ elem_pls, run_slice_h (P := Try.prog) W 102 _ _ _ elem_pls .i64 (k : Int) (by omega) (by omega), size_pl]
      simp only [Result.andThen, sliced, Int.toNat_natCast]
      congr 2
      · split <;> simp [Addr.add]
    · have e : (⟨g, 0, none⟩ : Addr).add j = ⟨g, j, none⟩ := by simp [Addr.add]; omega
      rw [e, cell_of_row w g j cur _ _ h3]
      rw [← dirC_take l k hk, ← h5, List.take_take, List.getElem?_take] at hj
      split at hj
      · rw [← Array.getElem?_toList]; exact hj
      · cases hj
theorem Dl.tail (h : Dl w v l) {k : Nat} (hk : k ≤ l.length) : ∃ x, (∀ W : World, (Instr.sliceAt 102 v (some (.int .i64 (k : Int))) none none).run Try.prog W = .ok x W) ∧ SrcD w x (l.drop k) := by
  have hkl : (l.drop k).length = l.length - k := by rw [List.length_drop]
  rcases h.form with ⟨rfl, rfl⟩ | ⟨g, cap, cur, rfl, h3, h4, h5⟩
  · have hk0 : k = 0 := by simpa using hk
    subst hk0
    refine ⟨.slice none 0 0, fun W => ?_, .inl ⟨rfl, rfl⟩⟩
    rw [run_sliceAt_slice (P := Try.prog) W 102 _ _ _ _ elem_pls, run_slice_l (P := Try.prog) W 102 _ _ _ elem_pls .i64 ((0 : Nat) : Int) (by omega) (by simp), size_pl]
    rfl
  · obtain ⟨o, ho⟩ : ∃ o, (if cap = k then (some ⟨g, 0, none⟩ : Option Addr) else some ⟨g, k * 2, none⟩) = some ⟨g, o, none⟩ := by
      split
      · exact ⟨0, rfl⟩
      · exact ⟨k * 2, rfl⟩
    refine ⟨.slice (if cap = k then (some ⟨g, 0, none⟩ : Option Addr) else some ⟨g, k * 2, none⟩) (l.length - k) (cap - k), fun W => ?_, .inr ⟨⟨g, o, none⟩, cap - k, by rw [ho, hkl], fun j u hj => ?_, (Array.getElem?_eq_some_iff.1 h3).1⟩⟩
    · rw [run_sliceAt_slice (P := Try.prog) W 102 _ _ _ _ elem_pls, run_slice_l (P := Try.prog) W 102 _ _ _ elem_pls .i64 (k : Int) (by omega) (by omega), size_pl]
      simp only [Result.andThen, sliced, Int.toNat_natCast, Option.map_some]
      congr 2
      split <;> simp [Addr.add] <;> omega
    · have hjl : j < (l.length - k) * 2 := by
        have := (List.getElem?_eq_some_iff.1 hj).1
        rwa [dirC_len, hkl] at this
      rw [if_neg (by omega)] at ho
      have e2 : o = k * 2 := by simp at ho; exact ho.symm
      subst e2
      have e : (⟨g, k * 2, none⟩ : Addr).add j = ⟨g, k * 2 + j, none⟩ := by simp [Addr.add]
      rw [e, cell_of_row w g _ cur _ _ h3]
      rw [← dirC_drop l k hk, ← h5, List.getElem?_drop, List.getElem?_take, if_pos (by omega)] at hj
      rw [← Array.getElem?_toList]; exact hj

set_option maxRecDepth 100000 in
theorem run_appD {x : Value} {m : List (Nat × Nat)} (B : Nat) (ty : TypeId) (h : Dl w v l) (hs : SrcD w x m) (hn : l.length + m.length ≤ 1000000) (hB : ∀ b, v.ownBlock = some b → B ≤ b) (hBs : B ≤ w.heap.size) :
    ∃ v' w', (Builtin.append_ #[102, 102] ty #[v, x]).run Try.prog w = .ok v' w' ∧ Dl w' v' (l ++ m) ∧ w.grownBy w' v.ownBlock ∧ ∀ b, v'.ownBlock = some b → B ≤ b := by
  obtain ⟨i0, hi, hz0, hz1, hz2⟩ := info_parts Word.infoP
  rcases hs with ⟨rfl, rfl⟩ | ⟨a, c, rfl, h2, h3⟩
  · exact ⟨v, w, run_append_owned_none (P := Try.prog) (w := w) 0 102 ty 110 i0 2 Try.underlying102 hi v l.length _ h, by rw [List.append_nil]; exact h, ⟨rfl, rfl, rfl, Nat.le_refl _, fun _ _ _ => rfl⟩, hB⟩
  · obtain ⟨v', w', hr, h4, h5, _, h6⟩ := run_append_own_at (P := Try.prog) w 0 102 ty 110 i0 (.agg #[.int .i64 0, .int .i64 0]) 2 16 Try.underlying102 hi hz0 hz1 hz2 rfl (by decide) v l.length _ h a m.length c (dirC m) (dirC_len m) h2 (dirC_one m) (by unfold maxLen; omega) (by omega) (Nat.zero_le _)
    refine ⟨v', w', hr, ?_, h5, fun b hb => ?_⟩
    · unfold Dl
      rw [List.length_append, dirC_app]
      exact h4
    · rcases h6 with h6 | h6
      · exact hB b (by rw [← h6]; exact hb)
      · rw [h6] at hb
        simp at hb
        omega
section
variable {ops : Array Oper} {rest : List Oper} {o : Oper} {a : Act} {Q : Exit → Act → World → Prop} {K : Act → World → Prop} {E : Prop}
theorem wp_appD {x : Value} {m : List (Nat × Nat)} (B : Nat) (s d : Operand) (ho : o.op = .call { callee := .builtin .append, args := #[s, d], argTypes := #[102, 102] }) (h : Dl w v l) (hs : SrcD w x m) (hn : l.length + m.length ≤ 1000000) (hB : ∀ b, v.ownBlock = some b → B ≤ b) (hBs : B ≤ w.heap.size)
    (h1 : a.eval s = v) (h2 : a.eval d = x) {Q : Exit → Act → World → Prop} (hk : ∀ v' w', Dl w' v' (l ++ m) → w.grownBy w' v.ownBlock → (∀ b, v'.ownBlock = some b → B ≤ b) → K (a.put o.dst v') w') : o.wp Try.prog a w K Q := by
  obtain ⟨v', w', hr, k1, k2, k3⟩ := run_appD B (ty := o.type) h hs hn hB hBs
  unfold Oper.wp execOp
  simp only [ho, resolve, invoke, builtin, Sem.run_bind, Sem.run_pure, Result.andThen_ok, List.map_toArray, List.map_cons, List.map_nil, h1, h2, hr]
  exact hk v' w' k1 k2 k3
theorem wpList_appD {x : Value} {m : List (Nat × Nat)} (B : Nat) (hgd : o.guard = none) (s d : Operand) (ho : o.op = .call { callee := .builtin .append, args := #[s, d], argTypes := #[102, 102] }) (h : Dl w v l) (hs : SrcD w x m) (hn : l.length + m.length ≤ 1000000) (hB : ∀ b, v.ownBlock = some b → B ≤ b) (hBs : B ≤ w.heap.size)
    (h1 : a.eval s = v) (h2 : a.eval d = x) (hk : ∀ v' w', Dl w' v' (l ++ m) → w.grownBy w' v.ownBlock → (∀ b, v'.ownBlock = some b → B ≤ b) → wpList Try.prog ops Q rest (a.put o.dst v') w') : wpList Try.prog ops Q (o :: rest) a w :=
  wpList_plain hgd fun _ hK => wp_appD B s d ho h hs hn hB hBs h1 h2 fun v' w' k1 k2 k3 => hK _ _ (hk v' w' k1 k2 k3)
theorem step_appD {x : Value} {m : List (Nat × Nat)} (B : Nat) (hgd : o.guard = none) (s d : Operand) (ho : o.op = .call { callee := .builtin .append, args := #[s, d], argTypes := #[102, 102] }) (h : Dl w v l) (hs : SrcD w x m) (hn : l.length + m.length ≤ 1000000) (hB : ∀ b, v.ownBlock = some b → B ≤ b) (hBs : B ≤ w.heap.size)
    (h1 : a.eval s = v) (h2 : a.eval d = x) (hk : ∀ v' w', Dl w' v' (l ++ m) → w.grownBy w' v.ownBlock → (∀ b, v'.ownBlock = some b → B ≤ b) → K (a.put o.dst v') w') : if Region.wanted o (yielded ops a.tmps) = true then Oper.wp Try.prog o a w K Q else E := by
  have hw : Region.wanted o (yielded ops a.tmps) = true := by simp [Region.wanted, hgd]
  rw [if_pos hw]
  exact wp_appD B s d ho h hs hn hB hBs h1 h2 hk
end
/-- a new slice of places -/
theorem Dl.made {w : World} (l : List (Nat × Nat)) (hl : l.length ≤ 1000000) : Dl (w.alloc (.cells (dirC l).toArray 110)) (.slice (some ⟨w.heap.size, 0, none⟩) l.length l.length) l := by
  have := World.ownsRow_lit (base := 0) (e := 110) (size := 2) w (dirC l).toArray l.length (Nat.zero_le _) (by unfold maxLen; omega) (by simp [dirC_len])
  simpa [Dl] using this
theorem Dl.srcD (h : Dl w v l) : SrcD w v l := by
  rcases h.form with ⟨rfl, rfl⟩ | ⟨g, cap, cur, rfl, h3, h4, h5⟩
  · exact .inl ⟨rfl, rfl⟩
  · refine .inr ⟨⟨g, 0, none⟩, cap, rfl, fun j u hj => ?_, (Array.getElem?_eq_some_iff.1 h3).1⟩
    have e : (⟨g, 0, none⟩ : Addr).add j = ⟨g, j, none⟩ := by simp [Addr.add]; omega
    rw [e, cell_of_row w g j cur _ _ h3]
    rw [← h5, List.getElem?_take] at hj
    split at hj
    · rw [← Array.getElem?_toList]; exact hj
    · cases hj
end

end Go.Proofs.Ytehfclgngkhcpaa.Slot
