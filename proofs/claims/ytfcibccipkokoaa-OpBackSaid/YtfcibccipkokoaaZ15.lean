/-
  Walks: an op, done to a page.
  Walks: an op, done to a page: the walk.
  Walks: a page with a list and rows of its own.
-/
import Derived.Test.YtfcibccipkokoaaZ27
import Derived.Test.YtfcibccipkokoaaZ12
namespace Go.Proofs.Ytfcibccipkokoaa.Op
open Go.RowKit
open Go.Proofs.Ytfcibccipkokoaa.Page (Pg pgV pgC used nth mayP zeroP info_page results_page)
attribute [local go_sem ↓] Go.wp_at_zero Go.wp_at_succ

theorem set_is {l : List ByteArray} {k : Nat} (h : k < l.length) (t : ByteArray) : l.take k ++ ([t] ++ l.drop (k + 1)) = l.set k t := by
  rw [List.set_eq_take_append_cons_drop, if_pos h]
  rfl
theorem used_put (l r : List ByteArray) (f t : Nat) : used (l.take f ++ (r ++ l.drop t)) ≤ used l + used r + used l := by
  rw [Page.used_app, Page.used_app]
  have := Page.used_take_le l f
  have := used_drop_le l t
  omega
theorem used_one (t : ByteArray) : used [t] = t.size + 4 := by
  have := total_used [t]
  simp [total] at this
  omega
theorem patch_le (r : ByteArray) (f : Nat) (t : ByteArray) : (patch r f t).size ≤ r.size + t.size + r.size := by
  unfold patch
  rw [By.T_size, List.length_append, List.length_append, List.length_take, List.length_drop, By.L_len, By.L_len]
  omega
/-- an op that may be, done to a page that it may be done to -/
theorem deed_all {w : World} {g : Nat} {p : Pg} {v u : Value} {o : O} (X : Gx w g p v) (hi : In w o u) (hm : May o) (hp : o.kind = 1 ∨ (mayP p = true ∧ p.id = o.page)) :
    ∃ q, Calls Try.prog (deedF o.kind) #[.pointer (some ⟨g, 0, none⟩), oV o u] w (DeedP w g v (wrong p o) q) ∧ (wrong p o = 0 → ∀ lsn, { q with lsn := lsn } = done p o lsn) ∧ used q.rows ≤ 10000 := by
  obtain ⟨k, hk⟩ : ∃ k : Nat, o.at' = (k : Int) := ⟨o.at'.toNat, (Int.toNat_of_nonneg hm.a0).symm⟩
  obtain ⟨f, hf⟩ : ∃ f : Nat, o.off = (f : Int) := ⟨o.off.toNat, (Int.toNat_of_nonneg hm.o0).symm⟩
  have hk2 : k ≤ 488 := by have := hm.a1; omega
  have hf2 : f ≤ 488 := by have := hm.o1; omega
  have htt := hm.tt
  have ht : o.text.size ≤ 488 := by omega
  have hkn : o.at'.toNat = k := by omega
  have hfn : o.off.toNat = f := by omega
  by_cases h1 : o.kind = 1
  · have e : wrong p o = 0 := not_wrong hm (.inl h1) (.inl h1) (fun h => by omega)
    refine ⟨⟨o.pkind, o.level, o.page, 0, o.next, []⟩, ?_, ?_, by simp [used]⟩
    · rw [e]
      have := d_format_any (u := u) (o := o) X
      unfold deedF
      rw [if_pos h1]
      exact this
    · intro _ lsn
      unfold done
      simp only
      rw [if_pos h1]
  obtain ⟨hmp, hid⟩ := hp.resolve_left h1
  have hl := rows_len hmp
  have hu := (may_rows hmp).2.2.2.2
  have hw1 : ¬ (¬ May o ∨ (o.kind ≠ 1 ∧ (mayP p = false ∨ p.id ≠ o.page))) := by
    rintro (h | ⟨_, h | h⟩)
    · exact h hm
    · rw [hmp] at h; cases h
    · exact h hid
  have E0 : wrong p o = if (p.rows.length < k ∨ (k = p.rows.length ∧ (o.kind = 3 ∨ o.kind = 4 ∨ o.kind = 8))) then 3 else if o.kind = 8 ∧ (nth p.rows k).size < f + o.text.size then 2 else 0 := by
    unfold wrong
    rw [if_neg hw1, hkn, hfn, hk]
    have c1 : (o.kind ≠ 1 ∧ ((p.rows.length : Int) < (k : Int) ∨ ((k : Int) = (p.rows.length : Int) ∧ (o.kind = 3 ∨ o.kind = 4 ∨ o.kind = 8)))) ↔ (p.rows.length < k ∨ (k = p.rows.length ∧ (o.kind = 3 ∨ o.kind = 4 ∨ o.kind = 8))) := by omega
    simp only [c1]
  have D0 : ∀ lsn, done p o lsn = (if o.kind = 2 then { p with rows := p.rows.take k ++ (o.text :: p.rows.drop k), lsn := lsn }
      else if o.kind = 3 then { p with rows := p.rows.set k o.text, lsn := lsn }
      else if o.kind = 4 then { p with rows := p.rows.take k ++ p.rows.drop (k + 1), lsn := lsn }
      else if o.kind = 5 then { p with rows := p.rows.take k, lsn := lsn }
      else if o.kind = 6 then { p with rows := p.rows ++ o.rows, lsn := lsn }
      else if o.kind = 7 then { p with next := o.next, lsn := lsn }
      else { p with rows := p.rows.set k (patch (nth p.rows k) f o.text), lsn := lsn }) := fun lsn => by
    unfold done
    simp only
    rw [if_neg h1, hkn, hfn]
  have k1 := hm.k1
  have k8 := hm.k8
  rcases (show o.kind = 2 ∨ o.kind = 3 ∨ o.kind = 4 ∨ o.kind = 5 ∨ o.kind = 6 ∨ o.kind = 7 ∨ o.kind = 8 by omega) with h | h | h | h | h | h | h
  · have e : wrong p o = if p.rows.length < k then 3 else 0 := by
      rw [E0]
      by_cases hc : p.rows.length < k
      · rw [if_pos (by omega), if_pos hc]
      · rw [if_neg (by omega), if_neg hc, if_neg (by omega)]
    refine ⟨{ p with rows := p.rows.take k ++ ([o.text] ++ p.rows.drop k) }, ?_, ?_, ?_⟩
    · rw [e]
      have := d_put_any (u := u) X hk hk2 (by omega)
      unfold deedF
      rw [if_neg h1, if_pos h]
      exact this
    · intro hx lsn
      rw [D0, if_pos h]
      all_goals rfl
    · have := used_put p.rows [o.text] k k
      have := used_one o.text
      show used (p.rows.take k ++ ([o.text] ++ p.rows.drop k)) ≤ _
      omega
  · have e : wrong p o = if p.rows.length < k + 1 then 3 else 0 := by
      rw [E0]
      by_cases hc : p.rows.length < k + 1
      · rw [if_pos (by omega), if_pos hc]
      · rw [if_neg (by omega), if_neg hc, if_neg (by omega)]
    refine ⟨{ p with rows := p.rows.take k ++ ([o.text] ++ p.rows.drop (k + 1)) }, ?_, ?_, ?_⟩
    · rw [e]
      have := d_set_any (u := u) X hk hk2 (by omega)
      unfold deedF
      rw [if_neg h1, if_neg (show ¬ o.kind = 2 by omega), if_pos h]
      exact this
    · intro hx lsn
      rw [D0, if_neg (show ¬ o.kind = 2 by omega), if_pos h]
      have hc : ¬ p.rows.length < k + 1 := fun hc => by rw [e, if_pos hc] at hx; cases hx
      rw [set_is (by omega)]
    · have := used_put p.rows [o.text] k (k + 1)
      have := used_one o.text
      show used (p.rows.take k ++ ([o.text] ++ p.rows.drop (k + 1))) ≤ _
      omega
  · have e : wrong p o = if p.rows.length < k + 1 then 3 else 0 := by
      rw [E0]
      by_cases hc : p.rows.length < k + 1
      · rw [if_pos (by omega), if_pos hc]
      · rw [if_neg (by omega), if_neg hc, if_neg (by omega)]
    refine ⟨{ p with rows := p.rows.take k ++ ([] ++ p.rows.drop (k + 1)) }, ?_, ?_, ?_⟩
    · rw [e]
      have := d_drop_any (u := u) X hk hk2 (by omega)
      unfold deedF
      rw [if_neg h1, if_neg (show ¬ o.kind = 2 by omega), if_neg (show ¬ o.kind = 3 by omega), if_pos h]
      exact this
    · intro hx lsn
      rw [D0, if_neg (show ¬ o.kind = 2 by omega), if_neg (show ¬ o.kind = 3 by omega), if_pos h]
      all_goals rfl
    · have := used_put p.rows [] k (k + 1)
      have e0 : used [] = 0 := rfl
      show used (p.rows.take k ++ ([] ++ p.rows.drop (k + 1))) ≤ _
      omega
  · have e : wrong p o = if p.rows.length < k then 3 else 0 := by
      rw [E0]
      by_cases hc : p.rows.length < k
      · rw [if_pos (by omega), if_pos hc]
      · rw [if_neg (by omega), if_neg hc, if_neg (by omega)]
    refine ⟨{ p with rows := p.rows.take k }, ?_, ?_, ?_⟩
    · rw [e]
      have := d_cut_any (u := u) X hk hk2 (by omega)
      unfold deedF
      rw [if_neg h1, if_neg (show ¬ o.kind = 2 by omega), if_neg (show ¬ o.kind = 3 by omega), if_neg (show ¬ o.kind = 4 by omega), if_pos h]
      exact this
    · intro hx lsn
      rw [D0, if_neg (show ¬ o.kind = 2 by omega), if_neg (show ¬ o.kind = 3 by omega), if_neg (show ¬ o.kind = 4 by omega), if_pos h]
      all_goals rfl
    · have := Page.used_take_le p.rows k
      show used (p.rows.take k) ≤ _
      omega
  · have ka : k = 0 := by
      have := congrArg O.at' hm.on
      rw [hk] at this
      unfold only at this
      rw [if_neg (by omega), if_neg (by omega), if_neg (by omega), if_pos h] at this
      have h0 : (0 : Int) = (k : Int) := this
      omega
    have e : wrong p o = 0 := by
      rw [E0, if_neg (by omega), if_neg (by omega)]
    refine ⟨{ p with rows := p.rows ++ o.rows }, ?_, ?_, ?_⟩
    · rw [e]
      have := d_fill_any (u := u) X hi hm.rl (by omega)
      unfold deedF
      rw [if_neg h1, if_neg (show ¬ o.kind = 2 by omega), if_neg (show ¬ o.kind = 3 by omega), if_neg (show ¬ o.kind = 4 by omega), if_neg (show ¬ o.kind = 5 by omega), if_pos h]
      exact this
    · intro hx lsn
      rw [D0, if_neg (show ¬ o.kind = 2 by omega), if_neg (show ¬ o.kind = 3 by omega), if_neg (show ¬ o.kind = 4 by omega), if_neg (show ¬ o.kind = 5 by omega), if_pos h]
      all_goals rfl
    · have h3 := total_used o.rows
      have h4 := hm.rl
      show used (p.rows ++ o.rows) ≤ _
      rw [Page.used_app]
      omega
  · have ka : k = 0 := by
      have := congrArg O.at' hm.on
      rw [hk] at this
      unfold only at this
      rw [if_neg (by omega), if_neg (by omega), if_neg (by omega), if_neg (by omega), if_pos h] at this
      have h0 : (0 : Int) = (k : Int) := this
      omega
    have e : wrong p o = 0 := by
      rw [E0, if_neg (by omega), if_neg (by omega)]
    refine ⟨{ p with next := o.next }, ?_, ?_, ?_⟩
    · rw [e]
      have := d_next_any (u := u) (o := o) X
      unfold deedF
      rw [if_neg h1, if_neg (show ¬ o.kind = 2 by omega), if_neg (show ¬ o.kind = 3 by omega), if_neg (show ¬ o.kind = 4 by omega), if_neg (show ¬ o.kind = 5 by omega), if_neg (show ¬ o.kind = 6 by omega), if_pos h]
      exact this
    · intro hx lsn
      rw [D0, if_neg (show ¬ o.kind = 2 by omega), if_neg (show ¬ o.kind = 3 by omega), if_neg (show ¬ o.kind = 4 by omega), if_neg (show ¬ o.kind = 5 by omega), if_neg (show ¬ o.kind = 6 by omega), if_pos h]
      all_goals rfl
    · show used p.rows ≤ _
      omega
  · have hz : ∀ j, j < p.rows.length → (nth p.rows j).size ≤ 484 := fun j hj => by have := Page.nth_size hj; omega
    have e : wrong p o = if p.rows.length < k + 1 then 3 else if (nth p.rows k).size < f + o.text.size then 2 else 0 := by
      rw [E0]
      by_cases hc : p.rows.length < k + 1
      · rw [if_pos (by omega), if_pos hc]
      · rw [if_neg (by omega), if_neg hc]
        simp only [h, true_and]
    refine ⟨{ p with rows := p.rows.take k ++ ([patch (nth p.rows k) f o.text] ++ p.rows.drop (k + 1)) }, ?_, ?_, ?_⟩
    · rw [e]
      have := d_patch_any (u := u) X hk hf hk2 hf2 ht (by omega) (fun j hj => by have := hz j hj; omega)
      unfold deedF
      rw [if_neg h1, if_neg (show ¬ o.kind = 2 by omega), if_neg (show ¬ o.kind = 3 by omega), if_neg (show ¬ o.kind = 4 by omega), if_neg (show ¬ o.kind = 5 by omega), if_neg (show ¬ o.kind = 6 by omega), if_neg (show ¬ o.kind = 7 by omega)]
      exact this
    · intro hx lsn
      rw [D0, if_neg (show ¬ o.kind = 2 by omega), if_neg (show ¬ o.kind = 3 by omega), if_neg (show ¬ o.kind = 4 by omega), if_neg (show ¬ o.kind = 5 by omega), if_neg (show ¬ o.kind = 6 by omega), if_neg (show ¬ o.kind = 7 by omega)]
      have hc : ¬ p.rows.length < k + 1 := fun hc => by rw [e, if_pos hc] at hx; cases hx
      rw [set_is (by omega)]
    · have h3 := used_put p.rows [patch (nth p.rows k) f o.text] k (k + 1)
      have h4 := used_one (patch (nth p.rows k) f o.text)
      have h5 : (nth p.rows k).size ≤ 484 := by
        by_cases hc : k < p.rows.length
        · exact hz k hc
        · have : nth p.rows k = ⟨#[]⟩ := by unfold nth; rw [List.getD_eq_getElem?_getD, List.getElem?_eq_none (by omega)]; rfl
          rw [this]; exact Nat.zero_le _
      have h6 := patch_le (nth p.rows k) f o.text
      show used (p.rows.take k ++ ([patch (nth p.rows k) f o.text] ++ p.rows.drop (k + 1))) ≤ _
      omega


/-- while an op is done: the page's box, the op's, the result's -/
structure Dn (w W : World) (g h r : Nat) (p : Pg) (v : Value) (o : O) (u : Value) : Prop where
  gx : Gx W g p v
  ob : W.heap[h]? = some (.cells (oC o u) 36 (0, 0))
  rb : W.heap[r]? = some (.cells zeroP 64 (0, 0))
  below : Below w.heap.size w W
  hg : w.heap.size ≤ g
  hr : w.heap.size ≤ r
  nh : h ≠ g
  nr : r ≠ g
  nn : r ≠ h
section
variable {w W W' : World} {g h r : Nat} {p q : Pg} {v v' : Value} {o : O} {u : Value}
theorem Dn.later (D : Dn w W g h r p v o u) (t : Below W.heap.size W W') : Dn w W' g h r p v o u :=
  ⟨D.gx.later t, (t.block _ (Array.getElem?_eq_some_iff.1 D.ob).1).trans D.ob, (t.block _ (Array.getElem?_eq_some_iff.1 D.rb).1).trans D.rb, D.below.trans (t.mono D.below.size), D.hg, D.hr, D.nh, D.nr, D.nn⟩
theorem Dn.turn (D : Dn w W g h r p v o u) (t : Touch (fun x => x = g) W W') (X : Gx W' g q v') : Dn w W' g h r q v' o u :=
  ⟨X, (t.block _ (Array.getElem?_eq_some_iff.1 D.ob).1 D.nh).trans D.ob, (t.block _ (Array.getElem?_eq_some_iff.1 D.rb).1 D.nr).trans D.rb, D.below.trans (t.below D.below.size fun _x hx => hx ▸ D.hg), D.hg, D.hr, D.nh, D.nr, D.nn⟩
theorem Dn.lsn (D : Dn w W g h r p v o u) (hv : ∀ s, v ≠ .string s) (n : Nat) : Dn w (W.setCell ⟨g, 3, none⟩ (.int .u64 (n : Int))) g h r { p with lsn := n } v o u :=
  D.turn (touch_set (Below.refl _ _) 3 _) ⟨by rw [heap_setCell_same _ _ _ _ _ _ D.gx.box]; rfl, rows_beside (_cs := #[]) D.gx.rows hv D.gx.box 3 _, D.gx.cap⟩
theorem Dn.onine (D : Dn w W g h r p v o u) : (W.cell? ⟨h, 0, none⟩ = some (.int .u8 (o.kind : Int)) ∧ W.cell? ⟨h, 1, none⟩ = some (.int .u32 (o.page : Int)) ∧ W.cell? ⟨h, 2, none⟩ = some (.int .i64 o.at') ∧ W.cell? ⟨h, 3, none⟩ = some (.int .i64 o.off) ∧ W.cell? ⟨h, 4, none⟩ = some (.string o.text) ∧ W.cell? ⟨h, 5, none⟩ = some (u) ∧ W.cell? ⟨h, 6, none⟩ = some (.int .u8 (o.pkind : Int)) ∧ W.cell? ⟨h, 7, none⟩ = some (.int .u8 (o.level : Int)) ∧ W.cell? ⟨h, 8, none⟩ = some (.int .u32 (o.next : Int))) := by
  refine ⟨?_, ?_, ?_, ?_, ?_, ?_, ?_, ?_, ?_⟩ <;> (rw [cell_of_row _ _ _ _ _ _ D.ob]; rfl)
theorem Dn.start (hr : Page.Rows w v p.rows) (hc : Page.CapOk v) : Dn w (((w.alloc (.cells (pgC p v) 64)).alloc (.cells (oC o u) 36)).alloc (.cells zeroP 64)) w.heap.size (w.heap.size + 1) (w.heap.size + 1 + 1) p v o u := by
  have b1 := below_new w (.cells (pgC p v) 64)
  have n1 := heap_alloc_new w (.cells (pgC p v) 64)
  have z1 : (w.alloc (.cells (pgC p v) 64)).heap.size = w.heap.size + 1 := by simp
  generalize w.alloc _ = w1 at *
  have b2 := below_new w1 (.cells (oC o u) 36)
  have n2 := heap_alloc_new w1 (.cells (oC o u) 36)
  have z2 : (w1.alloc (.cells (oC o u) 36)).heap.size = w.heap.size + 1 + 1 := by simp [z1]
  generalize w1.alloc _ = w2 at *
  have b3 := below_new w2 (.cells zeroP 64)
  have n3 := heap_alloc_new w2 (.cells zeroP 64)
  generalize w2.alloc _ = w3 at *
  rw [z1] at n2
  rw [z2] at n3
  have b12 := b1.trans (b2.mono b1.size)
  have b13 := b12.trans (b3.mono b12.size)
  refine ⟨⟨?_, hr.later b13, hc⟩, ?_, n3, b13, by omega, by omega, by omega, by omega, by omega⟩
  · exact (b3.block _ (by omega)).trans ((b2.block _ (by omega)).trans n1)
  · exact (b3.block _ (by omega)).trans n2
/-- the result is laid -/
theorem Dn.fin (D : Dn w W g h r p v o u) (cs : Array Value) : Below w.heap.size w (W.setRow r cs) := below_setRow D.below D.hr cs
theorem rows_setRow {l : List ByteArray} (h : Page.Rows W v l) (hb : W.heap[r]? = some (.cells zeroP 64 (0, 0))) (cs : Array Value) : Page.Rows (W.setRow r cs) v l := by
  obtain ⟨ad, c, rfl, h1⟩ := h
  refine ⟨ad, c, rfl, h1.imp id ?_⟩
  rintro ⟨b, x, rfl, hlt, hc⟩
  refine ⟨b, x, rfl, by simpa [World.setRow] using hlt, fun k hk => ?_⟩
  have hne : b ≠ r := by
    rintro rfl
    have := hc k hk
    rw [cell_of_row _ _ _ _ _ _ hb] at this
    rcases (show x + k = 0 ∨ x + k = 1 ∨ x + k = 2 ∨ x + k = 3 ∨ x + k = 4 ∨ x + k = 5 ∨ 6 ≤ x + k by omega) with e | e | e | e | e | e | e
    all_goals first | (rw [e] at this; simp [zeroP] at this; done) | (rw [Array.getElem?_eq_none (by show 6 ≤ x + k; exact e)] at this; cases this)
  exact (World.cell?_of_block (a := ⟨b, x + k, none⟩) (setRow_other _ _ _ _ hne)).trans (hc k hk)
theorem str_setRow (s : Str W v') (hb : W.heap[r]? = some (.cells zeroP 64 (0, 0))) (cs : Array Value) : Str (W.setRow r cs) v' := by
  refine ⟨fun b hb2 => ?_, s.cap⟩
  obtain ⟨c2, f, h1⟩ := s.own b hb2
  have hne : b ≠ r := by
    rintro rfl
    rw [hb] at h1
    simp at h1
  exact ⟨c2, f, (setRow_other _ _ _ _ hne).trans h1⟩
end
theorem str_set {w : World} {v : Value} {g : Nat} {cs : Array Value} (s : Str w v) (hb : w.heap[g]? = some (.cells cs 64 (0, 0))) (j : Nat) (z : Value) : Str (w.setCell ⟨g, j, none⟩ z) v := by
  refine ⟨fun b hb2 => ?_, s.cap⟩
  obtain ⟨c2, f, h1⟩ := s.own b hb2
  have hne : b ≠ g := by
    rintro rfl
    rw [hb] at h1
    simp at h1
  exact ⟨c2, f, by rw [heap_setCell_other _ _ _ _ hne]; exact h1⟩
theorem Str.later {w w' : World} {v : Value} (s : Str w v) (t : Below w.heap.size w w') : Str w' v :=
  ⟨fun b hb => by obtain ⟨c, f, h⟩ := s.own b hb; exact ⟨c, f, (t.block b (Array.getElem?_eq_some_iff.1 h).1).trans h⟩, s.cap⟩
theorem pg_slice {w : World} {v : Value} {l : List ByteArray} (h : Page.Rows w v l) : ∀ s, v ≠ .string s := by obtain ⟨ad, c, e, _⟩ := h; rw [e]; intro s hs; cases hs
theorem deed_fn {k : Nat} (h1 : 1 ≤ k) (h8 : k ≤ 8) : ∃ fn, Try.prog.funcs[deedF k]? = some fn ∧ fn.body.isNone = false ∧ (fn.name == "runtime.NumGoroutine") = false := by
  rcases (show k = 1 ∨ k = 2 ∨ k = 3 ∨ k = 4 ∨ k = 5 ∨ k = 6 ∨ k = 7 ∨ k = 8 by omega) with rfl | rfl | rfl | rfl | rfl | rfl | rfl | rfl
  · exact ⟨_, Try.func104, by kernel_rfl, by kernel_rfl⟩
  · exact ⟨_, Try.func105, by kernel_rfl, by kernel_rfl⟩
  · exact ⟨_, Try.func106, by kernel_rfl, by kernel_rfl⟩
  · exact ⟨_, Try.func107, by kernel_rfl, by kernel_rfl⟩
  · exact ⟨_, Try.func108, by kernel_rfl, by kernel_rfl⟩
  · exact ⟨_, Try.func109, by kernel_rfl, by kernel_rfl⟩
  · exact ⟨_, Try.func110, by kernel_rfl, by kernel_rfl⟩
  · exact ⟨_, Try.func111, by kernel_rfl, by kernel_rfl⟩
/-- what a call that does an op hands back: an error and no page, or the page -/
theorem PgOut.err {w W : World} {vin : Value} {p : Pg} {o : O} {lsn : Nat} {e : Nat} (he : appE p o lsn = e) (h0 : e ≠ 0) (b : Below w.heap.size w W) : PgOut w vin (appP p o lsn) (appE p o lsn) (.returned (.tuple #[pgV Pg.zero (.slice none 0 0), .int .i64 (e : Int)])) W := by
  have : appP p o lsn = Pg.zero := by unfold appP; rw [if_neg (by omega)]
  rw [this, he]
  exact ⟨_, rfl, Page.Rows.nil W none 0, .inl (str_none W), b⟩


end Go.Proofs.Ytfcibccipkokoaa.Op

namespace Go.Proofs.Ytfcibccipkokoaa.Op
open Go.RowKit
open Go.Proofs.Ytfcibccipkokoaa.Page (Pg pgV pgC used nth mayP zeroP info_page results_page)
attribute [local go_sem ↓] Go.wp_at_zero Go.wp_at_succ

theorem zeroV : Value.agg zeroP = pgV Pg.zero (.slice none 0 0) := rfl
set_option maxRecDepth 100000 in
set_option maxHeartbeats 4000000 in
theorem done_any {w : World} {p : Pg} {v : Value} {o : O} {u : Value} {lsn : Nat} (hp : Page.Rows w v p.rows) (hc : Page.CapOk v) (hu : used p.rows ≤ 1000000) (ho : In w o u) (_hl : lsn < 18446744073709551616) :
    Calls Try.prog 54 #[pgV p v, oV o u, .int .u64 (lsn : Int)] w (PgOut w v (appP p o lsn) (appE p o lsn)) := by
  obtain ⟨ad, c, hv, _⟩ := id hp
  obtain ⟨n, hn⟩ : ∃ n, n = p.rows.length := ⟨_, rfl⟩
  rw [← hn] at hv
  subst hv
  obtain ⟨ua, uc, hu2⟩ := ho.rows.shape
  obtain ⟨un, hun⟩ : ∃ un, un = o.rows.length := ⟨_, rfl⟩
  rw [← hun] at hu2
  subst hu2
  clear hn hun
  have D0 := Lib.hid (Dn.start (o := o) (u := .slice ua un uc) hp hc)
  have HO := Lib.hid ho
  have HU := Lib.hid hu
  obtain ⟨PO, hPO⟩ : ∃ PO, PO = PgOut w (.slice ad n c) (appP p o lsn) (appE p o lsn) := ⟨_, rfl⟩
  have ER := Lib.hid (fun (e : Nat) (W : World) (he : appE p o lsn = e) (h0 : e ≠ 0) (b : Below w.heap.size w W) => (show PO (.returned (.tuple #[.agg zeroP, .int .i64 (e : Int)])) W by rw [hPO, zeroV]; exact PgOut.err he h0 b))
  have OK := Lib.hid (fun (v' : Value) (W : World) (he : appE p o lsn = 0) (hr : Page.Rows W v' (done p o lsn).rows) (hs : Str W v' ∨ v' = .slice ad n c) (b : Below w.heap.size w W) => (show PO (.returned (.tuple #[pgV (done p o lsn) v', .int .i64 0])) W by
    rw [hPO]
    have : appP p o lsn = done p o lsn := by unfold appP; rw [if_pos he]
    rw [this, he]
    exact ⟨v', rfl, hr, hs, b⟩))
  rw [← hPO]
  have W2 := Lib.hid (show (¬ May o ∨ (o.kind ≠ 1 ∧ (mayP p = false ∨ p.id ≠ o.page))) → appE p o lsn = 2 from fun h => by
    have : wrong p o = 2 := by unfold wrong; rw [if_pos h]
    unfold appE
    rw [this, if_pos (by decide)])
  have KM := Lib.hid (fun (W : World) (t : Below w.heap.size w W) => cmay_all (ho.later t))
  have KP := Lib.hid (fun (W : World) (q : Pg) (vq : Value) (hr : Page.Rows W vq q.rows) (hq : used q.rows ≤ 1000000) => Page.may_any q hr hq)
  clear hp hc hu ho hPO
  unfold pgV pgC at *
  unfold oV oC at *
  go_enter Try.func54, Try.ntmps54
  go_upto_region 1 with fail
  unfold zeroP at D0
  generalize ((w.alloc _).alloc _).alloc _ = W0 at *
  generalize w.heap.size + 1 + 1 = r at *
  generalize w.heap.size + 1 = h at *
  obtain ⟨x0, x1, x2, x3, x4, x5⟩ := D0.out.gx.six
  obtain ⟨y0, y1, y2, y3, y4, y5, y6, y7, y8⟩ := D0.out.onine
  have K1 := Lib.hid (KM.out W0 D0.out.below)
  clear KM
  by_cases hm : May o
  rotate_left
  · have EW := Lib.hid (W2.out (.inl hm))
    rw [decide_eq_false hm] at K1
    clear hm W2 KP OK
    go_wp2_with fail
    refine K1.out.mono ?_
    rintro e W1 ⟨rfl, b1⟩
    have D1 := Lib.hid (D0.out.later b1)
    clear b1 x0 x1 x2 x3 x4 x5 y0 y1 y2 y3 y4 y5 y6 y7 y8 K1
    go_upto_region 2 with fail
    go_wp2_with (refine wpList_store_row rfl 64 (.tmp 6) (.tmp 29) rfl r zeroP rfl rfl 64 zeroP D1.out.rb info_page rfl Page.zero_one ?_)
    exact bodyPost_ret (v := .tuple #[.agg zeroP, .int .i64 2]) (results_page Try.results54 _ _ r zeroP 2 rfl rfl (setRow_heap _ _ _ _ _ _ D1.out.rb) info_page) rfl (ER.out 2 _ EW.out (by decide) (D1.out.fin _))
  rw [decide_eq_true hm] at K1
  have HM := Lib.hid hm
  by_cases hg : o.kind = 1 ∨ (mayP p = true ∧ p.id = o.page)
  rotate_left
  · have hk : o.kind ≠ 1 := fun e => hg (.inl e)
    have EW := Lib.hid (W2.out (.inr ⟨hk, by
      by_cases h : mayP p = true
      · exact .inr fun e => hg (.inr ⟨h, e⟩)
      · exact .inl (by simpa using h)⟩))
    have kne : ((o.kind : Int) != 1) = true := by rw [bne_iff_ne]; omega
    have hw : mayP p = false ∨ (mayP p = true ∧ ((p.id : Int) != (o.page : Int)) = true) := by
      by_cases h : mayP p = true
      · exact .inr ⟨h, by rw [bne_iff_ne]; intro e; exact hg (.inr ⟨h, by omega⟩)⟩
      · exact .inl (by simpa using h)
    clear hm W2 OK hg hk
    go_wp2_with fail
    refine K1.out.mono ?_
    rintro e W1 ⟨rfl, b1⟩
    have D1 := Lib.hid (D0.out.later b1)
    clear b1 x0 x1 x2 x3 x4 x5 y0 y1 y2 y3 y4 y5 y6 y7 y8 K1
    obtain ⟨x0, x1, x2, x3, x4, x5⟩ := D1.out.gx.six
    obtain ⟨y0, y1, y2, y3, y4, y5, y6, y7, y8⟩ := D1.out.onine
    have K2 := Lib.hid (KP.out W1 p _ D1.out.gx.rows HU.out)
    rcases hw with hw | ⟨hw, hid⟩
    all_goals
      rw [hw] at K2
      clear hw KP
      go_wp2_with fail
      refine K2.out.mono ?_
      rintro e W2 ⟨rfl, b2⟩
      have D2 := Lib.hid (D1.out.later b2)
      clear b2 x0 x1 x2 x3 x4 x5 y0 y1 y2 y3 y4 y5 y6 y7 y8 K2
      obtain ⟨x0, x1, x2, x3, x4, x5⟩ := D2.out.gx.six
      obtain ⟨y0, y1, y2, y3, y4, y5, y6, y7, y8⟩ := D2.out.onine
      go_upto_region 2 with fail
      go_wp2_with (refine wpList_store_row rfl 64 (.tmp 6) (.tmp 29) rfl r zeroP rfl rfl 64 zeroP D2.out.rb info_page rfl Page.zero_one ?_)
      exact bodyPost_ret (v := .tuple #[.agg zeroP, .int .i64 2]) (results_page Try.results54 _ _ r zeroP 2 rfl rfl (setRow_heap _ _ _ _ _ _ D2.out.rb) info_page) rfl (ER.out 2 _ EW.out (by decide) (D2.out.fin _))
  -- it is done
  have HG := Lib.hid hg
  have k1 := hm.k1
  have k8 := hm.k8
  have K18 := Lib.hid (And.intro k1 k8)
  clear W2 hm k1 k8

  rcases (show o.kind = 1 ∨ (o.kind ≠ 1 ∧ mayP p = true ∧ p.id = o.page) by
    by_cases hk : o.kind = 1
    · exact .inl hk
    · exact .inr ⟨hk, hg.resolve_left hk⟩) with hk | ⟨hk, hmp, hid⟩
  have kne : ((o.kind : Int) != 1) = false := by rw [hk]; rfl
  clear hk hg
  go_wp2_with fail
  refine K1.out.mono ?_
  rintro e W3 ⟨rfl, b3⟩
  have D3 := Lib.hid (D0.out.later b3)
  clear b3 x0 x1 x2 x3 x4 x5 y0 y1 y2 y3 y4 y5 y6 y7 y8 K1 D0
  obtain ⟨x0, x1, x2, x3, x4, x5⟩ := D3.out.gx.six
  obtain ⟨y0, y1, y2, y3, y4, y5, y6, y7, y8⟩ := D3.out.onine
  go_upto_region 3 with fail
  clear kne
  rotate_left
  have kne : ((o.kind : Int) != 1) = true := by rw [bne_iff_ne]; omega
  have ine : ((p.id : Int) != (o.page : Int)) = false := by rw [hid]; simp
  clear hk hg hid
  go_wp2_with fail
  refine K1.out.mono ?_
  rintro e W1 ⟨rfl, b1⟩
  have D1 := Lib.hid (D0.out.later b1)
  clear b1 x0 x1 x2 x3 x4 x5 y0 y1 y2 y3 y4 y5 y6 y7 y8 K1 D0
  obtain ⟨x0, x1, x2, x3, x4, x5⟩ := D1.out.gx.six
  obtain ⟨y0, y1, y2, y3, y4, y5, y6, y7, y8⟩ := D1.out.onine
  have K2 := Lib.hid (KP.out W1 p _ D1.out.gx.rows HU.out)
  rw [hmp] at K2
  clear hmp
  go_wp2_with fail
  refine K2.out.mono ?_
  rintro e W3 ⟨rfl, b3⟩
  have D3 := Lib.hid (D1.out.later b3)
  clear b3 x0 x1 x2 x3 x4 x5 y0 y1 y2 y3 y4 y5 y6 y7 y8 K2 D1
  obtain ⟨x0, x1, x2, x3, x4, x5⟩ := D3.out.gx.six
  obtain ⟨y0, y1, y2, y3, y4, y5, y6, y7, y8⟩ := D3.out.onine
  go_upto_region 3 with fail
  clear kne ine
  all_goals
    have D4 := Lib.hid (D3.out.later (Below.refl _ _).drew)
    have kd := deed_fn K18.out.1 K18.out.2
    obtain ⟨fn, g1, g2, g3⟩ := kd
    have G1 := Lib.hid g1; have G2 := Lib.hid g2; have G3 := Lib.hid g3
    clear g1 g2 g3 x0 x1 x2 x3 x4 x5 y0 y1 y2 y3 y4 y5 y6 y7 y8
    refine wp_region_noPanic ?_
    refine wp_region_held_drew (S := fun W => (W.cell? ⟨h, 0, none⟩ = some (.int .u8 (o.kind : Int)) ∧ W.cell? ⟨h, 1, none⟩ = some (.int .u32 (o.page : Int)) ∧ W.cell? ⟨h, 2, none⟩ = some (.int .i64 o.at') ∧ W.cell? ⟨h, 3, none⟩ = some (.int .i64 o.off) ∧ W.cell? ⟨h, 4, none⟩ = some (.string o.text) ∧ W.cell? ⟨h, 5, none⟩ = some ((.slice ua un uc)) ∧ W.cell? ⟨h, 6, none⟩ = some (.int .u8 (o.pkind : Int)) ∧ W.cell? ⟨h, 7, none⟩ = some (.int .u8 (o.level : Int)) ∧ W.cell? ⟨h, 8, none⟩ = some (.int .u32 (o.next : Int)))) (by kernel_rfl) (by exact D4.out.onine) (fun hHeld => ?_)
    refine wpAnyH_take (i := 1) (v := ?_) rfl (by kernel_rfl) (by kernel_rfl) (by kernel_rfl) (fun _ _ _ h => h) (Or.inl ⟨by rfl, ?_⟩) hHeld ?_
    rotate_left
    · (intro W hSw; (try dsimp only at hSw); go_simp; (try with_reducible rfl))
    simp only [List.getElem_toArray, List.getElem_cons_succ, List.getElem_cons_zero, Act.put, List.setIfInBounds_toArray, List.set_cons_zero, List.set_cons_succ]
    refine wpAnyH_take (i := 2) (v := ?_) rfl (by kernel_rfl) (by kernel_rfl) (by kernel_rfl) (fun _ _ _ h => h) (Or.inl ⟨by rfl, ?_⟩) hHeld ?_
    rotate_left
    · (intro W hSw; (try dsimp only at hSw); go_simp; (try with_reducible rfl))
    simp only [List.getElem_toArray, List.getElem_cons_succ, List.getElem_cons_zero, Act.put, List.setIfInBounds_toArray, List.set_cons_zero, List.set_cons_succ]
    refine wpAnyH_take (i := 4) (v := ?_) rfl (by kernel_rfl) (by kernel_rfl) (by kernel_rfl) (fun _ _ _ h => h) (Or.inl ⟨by rfl, ?_⟩) hHeld ?_
    rotate_left
    · (intro W hSw; (try dsimp only at hSw); go_simp; (try with_reducible rfl))
    simp only [List.getElem_toArray, List.getElem_cons_succ, List.getElem_cons_zero, Act.put, List.setIfInBounds_toArray, List.set_cons_zero, List.set_cons_succ]
    refine wpAnyH_ready (rs := [0]) (by kernel_rfl) (by simp) (AllReadyH.cons rfl (fun K2 hK => ?_) AllReadyH.nil)
    refine step_fn (by rfl) (.func 76) [] _ rfl 76 [] (by simp [Act.eval]) _ Try.func76 (by kernel_rfl) (by kernel_rfl) (deeds_any _) (by rfl) ?_
    rintro e w5 ⟨bm, rfl, dm, b5⟩
    refine ⟨_, rfl, ?_⟩
    have D5 := Lib.hid (D4.out.later b5)
    have LK := dm.look K18.out.1 K18.out.2
    unfold fv at LK
    refine hK.out _ _ D5.out.onine (fun hHeld => ?_)
    clear hK K2 b5 dm D4 D3
    simp only [List.getElem_toArray, List.getElem_cons_zero, Act.put, List.setIfInBounds_toArray, List.set_cons_zero, List.set_cons_succ]
    refine wpAnyH_ready (rs := [3]) (by kernel_rfl) (by simp) (AllReadyH.cons rfl (fun K2 hK => ?_) AllReadyH.nil)
    rw [if_pos (by rfl)]
    unfold Oper.wp execOp
    go_simp
    refine hK.out _ _ hHeld (fun hHeld => ?_)
    clear hK K2 LK
    try simp only [List.getElem_toArray, List.getElem_cons_succ, List.getElem_cons_zero, Act.put, List.setIfInBounds_toArray, List.set_cons_zero, List.set_cons_succ]
    obtain ⟨q, kd, dq, uq⟩ := deed_all D5.out.gx (HO.out.later D5.out.below) HM.out HG.out
    have KD := Lib.hid kd
    have DQ := Lib.hid dq
    have UQ := Lib.hid uq
    clear kd dq uq
    unfold oV oC at KD
    refine wpAnyH_ready (rs := [5]) (by kernel_rfl) (by simp) (AllReadyH.cons rfl (fun K2 hK => ?_) AllReadyH.nil)
    refine step_fn (by rfl) (.tmp 33) [.tmp 3, .tmp 34] _ rfl (deedF o.kind) [] (by rfl) fn G1.out G2.out G3.out KD.out (by rfl) ?_
    rintro e w6 ⟨rfl, hq, t6⟩
    refine ⟨_, rfl, ?_⟩
    have HQ := Lib.hid hq
    have T6 := Lib.hid t6
    have O6 := Lib.hid ((t6.block _ (Array.getElem?_eq_some_iff.1 D5.out.ob).1 D5.out.nh).trans D5.out.ob)
    have R6 := Lib.hid ((t6.block _ (Array.getElem?_eq_some_iff.1 D5.out.rb).1 D5.out.nr).trans D5.out.rb)
    have B6 := Lib.hid (D5.out.below.trans (t6.below D5.out.below.size fun x hx => hx ▸ Nat.le_refl _))
    refine hK.out _ _ (by refine ⟨?_, ?_, ?_, ?_, ?_, ?_, ?_, ?_, ?_⟩ <;> (rw [cell_of_row _ _ _ _ _ _ O6.out]; rfl)) (fun hHeld => ?_)
    clear hK K2 hq t6 KD
    simp only [List.getElem_toArray, List.getElem_cons_succ, List.getElem_cons_zero, Act.put, List.setIfInBounds_toArray, List.set_cons_zero, List.set_cons_succ]
    refine wpAnyH_take (i := 6) (v := ?_) rfl (by kernel_rfl) (by kernel_rfl) (by kernel_rfl) (fun _ _ _ h => h) (Or.inl ⟨by rfl, ?_⟩) hHeld ?_
    rotate_left
    · (intro W hSw; (try dsimp only at hSw); go_simp; (try with_reducible rfl))
    simp only [List.getElem_toArray, List.getElem_cons_succ, List.getElem_cons_zero, Act.put, List.setIfInBounds_toArray, List.set_cons_zero, List.set_cons_succ]
    refine wpAnyH_done (by kernel_rfl) ?_ _
    refine NoPanic.normal ?_
    clear hHeld
    by_cases hw : wrong p o = 0
    rotate_left
    · have EW := Lib.hid (show appE p o lsn = wrong p o by unfold appE; rw [if_pos hw])
      have wne : ((wrong p o : Int) != 0) = true := by rw [bne_iff_ne]; omega
      have HW := Lib.hid hw
      clear hw HQ DQ
      generalize wrong p o = c0 at *
      go_upto_region 5 with fail
      go_wp2_with (refine wpList_store_row rfl 64 (.tmp 6) (.tmp 38) rfl r zeroP rfl rfl 64 zeroP R6.out info_page rfl Page.zero_one ?_)
      exact bodyPost_ret (v := .tuple #[.agg zeroP, .int .i64 (c0 : Int)]) (results_page Try.results54 _ _ r zeroP (c0 : Int) rfl rfl (setRow_heap _ _ _ _ _ _ R6.out) info_page) rfl (ER.out c0 _ EW.out HW.out (below_setRow B6.out D5.out.hr _))
    · obtain ⟨v6, x6, s6⟩ := HQ.out hw
      have DN := Lib.hid (DQ.out hw lsn)
      have D6 := Lib.hid (D5.out.turn T6.out x6)
      have S6 := Lib.hid s6
      have HV := Lib.hid (pg_slice x6.rows)
      have EW := Lib.hid (show appE p o lsn = if mayP (done p o lsn) then 0 else 4 by unfold appE; rw [if_neg (by omega)])
      obtain ⟨a6, c6, hv6, _⟩ := id x6.rows
      obtain ⟨n6, hn6⟩ : ∃ n6, n6 = q.rows.length := ⟨_, rfl⟩
      rw [← hn6] at hv6
      subst hv6
      rw [hw]
      clear hn6 x6 s6 HQ hw DQ R6 O6 B6 T6 D5
      have z3 := D6.out.gx.free 3
      obtain ⟨x0, x1, x2, x3, x4, x5⟩ := D6.out.gx.six
      have D7 := Lib.hid (D6.out.lsn HV.out lsn)
      rw [DN.out] at D7
      have S7 := Lib.hid (S6.out.imp (fun s => str_set s D6.out.gx.box 3 (.int .u64 (lsn : Int))) id)
      have rq : (done p o lsn).rows = q.rows := by rw [← DN.out]
      have KQ := Lib.hid (KP.out _ (done p o lsn) _ D7.out.gx.rows (by rw [rq]; have := UQ.out; omega))
      clear x0 x1 x2 x4 x5 rq
      go_upto_region 7 with fail
      generalize World.setCell w6 _ _ = w7 at *
      clear x3 z3
      obtain ⟨x0, x1, x2, x3, x4, x5⟩ := D7.out.gx.six
      cases hmq : mayP (done p o lsn)
      · rw [hmq] at KQ EW
        clear hmq
        go_wp2_with fail
        refine KQ.out.mono ?_
        rintro e w8 ⟨rfl, b8⟩
        have D8 := Lib.hid (D7.out.later b8)
        clear b8 x0 x1 x2 x3 x4 x5 KQ
        go_upto_region 8 with fail
        go_wp2_with (refine wpList_store_row rfl 64 (.tmp 6) (.tmp 45) rfl r zeroP rfl rfl 64 zeroP D8.out.rb info_page rfl Page.zero_one ?_)
        exact bodyPost_ret (v := .tuple #[.agg zeroP, .int .i64 4]) (results_page Try.results54 _ _ r zeroP 4 rfl rfl (setRow_heap _ _ _ _ _ _ D8.out.rb) info_page) rfl (ER.out 4 _ EW.out (by decide) (D8.out.fin _))
      · rw [hmq] at KQ EW
        clear hmq
        go_wp2_with fail
        refine KQ.out.mono ?_
        rintro e w8 ⟨rfl, b8⟩
        have D8 := Lib.hid (D7.out.later b8)
        have S8 := Lib.hid (S7.out.imp (fun s => s.later b8) id)
        clear b8 x0 x1 x2 x3 x4 x5 KQ
        obtain ⟨x0, x1, x2, x3, x4, x5⟩ := D8.out.gx.six
        go_upto_region 9 with fail
        go_wp2_with (refine wpList_store_row rfl 64 (.tmp 6) (.tmp 46) rfl r (pgC (done p o lsn) (.slice a6 n6 c6)) rfl rfl 64 zeroP D8.out.rb info_page rfl (pgC_one' _ _ _ _) ?_)
        exact bodyPost_ret (v := .tuple #[.agg (pgC (done p o lsn) (.slice a6 n6 c6)), .int .i64 0]) (results_page Try.results54 _ _ r (pgC (done p o lsn) (.slice a6 n6 c6)) 0 rfl rfl (setRow_heap _ _ _ _ _ _ D8.out.rb) info_page) rfl (OK.out _ _ EW.out (rows_setRow D8.out.gx.rows D8.out.rb _) (S8.out.imp (fun s => str_setRow s D8.out.rb _) id) (D8.out.fin _))

end Go.Proofs.Ytfcibccipkokoaa.Op

namespace Go.Proofs.Ytfcibccipkokoaa.Op
open Go.RowKit
open Go.Proofs.Ytfcibccipkokoaa.Seq (strS Is Own one_src wpList_app)
open Go.Proofs.Ytfcibccipkokoaa.Page (Pg pgV pgC used nth mayP zeroP info_page)
attribute [local go_sem ↓] Go.wp_at_zero Go.wp_at_succ

theorem results_p1 {fn : Func} {p : Tmp} (h : fn.results = #[.cell p 64]) (tmps : Array Value) (w : World) (g : Nat) (cs : Array Value) (hp : tmps.getD p undef = .pointer (some ⟨g, 0, none⟩)) (hg : w.heap[g]? = some (.cells cs 64 (0, 0)))
    (hi : (Try.prog.info? 64).map (·.size) = some cs.size) : (results fn tmps).run Try.prog w = .ok (.agg cs) w := by
  have hp' : tmps[p]?.getD undef = .pointer (some ⟨g, 0, none⟩) := by simpa using hp
  simp [results, h, hp', asAddr, run_loadVar_row w g 64 64 cs (0, 0) _ hg Try.underlying64 rfl hi]
theorem own_cap {W0 w : World} {v : Value} {l : List ByteArray} (h : Own strS W0 w v l) : Page.CapOk v := by
  rcases h.own.2 with ⟨rfl, h2⟩ | ⟨g, cap, cur, rfl, h2, h3, h4, h5, h6, h7⟩
  · exact Page.cap_none
  · intro ad n c e
    simp only [Value.slice.injEq] at e
    obtain ⟨rfl, rfl, rfl⟩ := e
    exact ⟨h4, fun e => by cases e⟩
theorem own_str {W0 w : World} {v : Value} {l : List ByteArray} (h : Own strS W0 w v l) : Str w v := by
  refine ⟨fun b hb => ?_, own_cap h⟩
  rcases h.form with ⟨rfl, _⟩ | ⟨g, cap, cur, rfl, _, h3, _⟩
  · simp [Value.ownBlock] at hb
  · simp only [Value.ownBlock, Option.some.injEq] at hb
    subst hb
    exact ⟨cur, (0, 0), h3⟩
/-- while a page's rows are copied -/
structure Cw (w W : World) (g r : Nat) (p : Pg) (v lv : Value) (k : Nat) : Prop where
  box : W.heap[g]? = some (.cells (pgC p v) 64 (0, 0))
  rb : W.heap[r]? = some (.cells zeroP 64 (0, 0))
  rows : Page.Rows w v p.rows
  own : Own strS w W lv (p.rows.take k)
  below : Below w.heap.size w W
  hg : w.heap.size ≤ g
  hr : w.heap.size ≤ r
  nr : r ≠ g
section
variable {w W W' : World} {g r : Nat} {p : Pg} {v lv lv' : Value} {k : Nat}
theorem Cw.later (D : Cw w W g r p v lv k) (t : Below W.heap.size W W') : Cw w W' g r p v lv k :=
  ⟨(t.block _ (Array.getElem?_eq_some_iff.1 D.box).1).trans D.box, (t.block _ (Array.getElem?_eq_some_iff.1 D.rb).1).trans D.rb, D.rows, D.own.later t, D.below.trans (t.mono D.below.size), D.hg, D.hr, D.nr⟩
theorem Cw.grown (D : Cw w W g r p v lv k) {j : Nat} (o : Own strS w W' lv' (p.rows.take j)) (gw : W.grownBy W' lv.ownBlock) : Cw w W' g r p v lv' j := by
  have e : (64 : TypeId) ≠ strS.e := by decide
  exact ⟨(gw.block g (Array.getElem?_eq_some_iff.1 D.box).1 fun e2 => D.own.ne D.box e g e2.symm rfl).trans D.box, (gw.block r (Array.getElem?_eq_some_iff.1 D.rb).1 fun e2 => D.own.ne D.rb e r e2.symm rfl).trans D.rb, D.rows, o, Seq.below_own D.below D.own gw, D.hg, D.hr, D.nr⟩
theorem Cw.start (hr : Page.Rows w v p.rows) : Cw w ((w.alloc (.cells (pgC p v) 64)).alloc (.cells zeroP 64)) w.heap.size (w.heap.size + 1) p v (.slice none 0 0) 0 := by
  have b1 := below_new w (.cells (pgC p v) 64)
  have n1 := heap_alloc_new w (.cells (pgC p v) 64)
  have z1 : (w.alloc (.cells (pgC p v) 64)).heap.size = w.heap.size + 1 := by simp
  generalize w.alloc _ = w1 at *
  have b2 := below_new w1 (.cells zeroP 64)
  have n2 := heap_alloc_new w1 (.cells zeroP 64)
  generalize w1.alloc _ = w2 at *
  rw [z1] at n2
  have b12 := b1.trans (b2.mono b1.size)
  exact ⟨(b2.block _ (by omega)).trans n1, n2, hr, Own.nil strS w b12.size, b12, by omega, by omega, by omega⟩
end
/-- a page whose rows are its own -/
def OwnP (w : World) (p : Pg) : Ending → World → Prop := fun e w' => ∃ v, e = .returned (pgV p v) ∧ Page.Rows w' v p.rows ∧ Str w' v ∧ Below w.heap.size w w'
theorem OwnP.fin {w W : World} {g r : Nat} {p : Pg} {v lv : Value} {k : Nat} (D : Cw w W g r p v lv k) (hk : ¬ k < p.rows.length) : OwnP w p (.returned (pgV p lv)) ((W.setCell ⟨g, 5, none⟩ lv).setRow r (pgC p lv)) := by
  have e : p.rows.take k = p.rows := List.take_of_length_le (by omega)
  have o := D.own
  rw [e] at o
  have e1 : (64 : TypeId) ≠ strS.e := by decide
  have o1 : Own strS w ((W.setCell ⟨g, 5, none⟩ lv).setRow r (pgC p lv)) lv p.rows := o.far (by simp [World.setRow]) fun x hx => by
    have n1 := o.ne D.box e1 x hx
    have n2 := o.ne D.rb e1 x hx
    rw [setRow_other _ _ _ _ n2, heap_setCell_other _ _ _ _ n1]
  exact ⟨lv, rfl, is_rows2 o1.is, own_str o1, below_setRow (D.below.setCell (p := ⟨g, 5, none⟩) D.hg _) D.hr _⟩

set_option maxRecDepth 100000 in
set_option maxHeartbeats 4000000 in
theorem own_any {w : World} {p : Pg} {v : Value} (hp : Page.Rows w v p.rows) (hu : used p.rows ≤ 1000000) : Calls Try.prog 55 #[pgV p v] w (OwnP w p) := by
  have C0 := Lib.hid (Cw.start hp)
  obtain ⟨ad, c, hv, _⟩ := id hp
  obtain ⟨n, hn⟩ : ∃ n, n = p.rows.length := ⟨_, rfl⟩
  have n2 : n ≤ 250000 := by have := Page.used_len p.rows; omega
  rw [← hn] at hv
  subst hv
  have HN := Lib.hid hn
  have HU := Lib.hid hu
  have FIN := Lib.hid (fun (W : World) (g r : Nat) (lv : Value) (k : Nat) (D : Cw w W g r p (.slice ad n c) lv k) (hk : ¬ k < n) => OwnP.fin D (by rw [← hn]; exact hk))
  have HP := Lib.hid hp
  have CL := Lib.hid (fun (s : ByteArray) (W : World) (hs : s.size ≤ 1000000) => clone_any s W (by omega))
  clear hp hu hn
  unfold pgV pgC zeroP at *
  go_enter Try.func55, Try.ntmps55
  go_upto_region 1 with fail
  generalize (w.alloc _).alloc _ = W0 at *
  generalize w.heap.size + 1 = r at *
  obtain ⟨g, hg⟩ : ∃ g, g = w.heap.size := ⟨_, rfl⟩
  rw [← hg] at C0 ⊢
  clear hg
  have c5 : W0.cell? ⟨g, 5, none⟩ = some (.slice ad n c) := by rw [cell_of_row _ _ _ _ _ _ C0.out.box]; rfl
  go_wp2_with fail
  clear c5
  obtain ⟨wz, hwz⟩ : ∃ wz, wz = W0 := ⟨_, rfl⟩
  rw [← hwz] at C0 ⊢
  clear hwz
  go_loopw [3, 9] (fun l i wr => ∃ (k : Nat) (lv : Value), l = lv ∧ i = .int .i64 (k : Int) ∧ k ≤ n ∧ Cw w wr g r p (.slice ad n c) lv k) (fun _ i _ => n - (intOf i).toNat)
  case atStart => exact ⟨0, _, rfl, rfl, Nat.zero_le _, C0.out⟩
  case round =>
    obtain ⟨k, lv, hlv, rfl, hk, hc⟩ := hrel
    have CW := Lib.hid hc
    clear hc C0
    by_cases hlt : k < n
    · have hkl : k < p.rows.length := by rw [← HN.out]; exact hlt
      obtain ⟨b, o, rfl, hb, hcell⟩ := (show Page.Rows wr (.slice ad p.rows.length c) p.rows by rw [← HN.out]; exact HP.out.later CW.out.below).at hkl
      have hz : (nth p.rows k).size ≤ 1000000 := by have := Page.nth_size hkl; have := HU.out; omega
      have TK := Lib.hid (show p.rows.take k ++ [nth p.rows k] = p.rows.take (k + 1) from (Page.nth_take hkl).symm)
      generalize nth p.rows k = t at *
      have HZ := Lib.hid hz
      have i1 : (0 : Int) ≤ (k : Int) := by omega
      have i2 : (k : Int) < (n : Int) := by omega
      clear hz hb
      subst hlv
      go_wp2_with fail
      refine (CL.out t _ HZ.out).mono ?_
      rintro e w2 ⟨rfl, b2⟩
      have C2 := Lib.hid ((CW.out.later b2).later (below_new w2 (.cells #[.string t] 9)))
      have SR := Lib.hid (one_src strS (W := w2) t)
      have HL := Lib.hid (show (p.rows.take k).length + [t].length ≤ 1000000 by rw [List.length_take]; simp; omega)
      clear b2 hcell CW
      go_wp2_with (at_builtin; refine wpList_app (S := strS) (W0 := w) (l := p.rows.take k) (m := [t]) rfl _ _ rfl C2.out.own SR.out HL.out rfl rfl ?_; intro v8 w8 o8 g8)
      rw [TK.out] at o8
      have C8 := Lib.hid (C2.out.grown o8 g8)
      clear o8 g8
      go_roundw
      case rel => exact ⟨k + 1, _, rfl, by go_num, by omega, C8.out⟩
      case measure => simp [intOf]; omega
    · obtain ⟨la, ln, lc, hl2⟩ : ∃ a m c, lv = .slice a m c := by obtain ⟨a, c, e⟩ := CW.out.own.shape; exact ⟨a, _, c, e⟩
      subst hl2
      subst hlv
      have F := Lib.hid (FIN.out _ _ _ _ _ CW.out hlt)
      have z5 : wr.frozen? ⟨g, 5, none⟩ = false := frozen_of_row _ _ _ _ _ CW.out.box
      have c5 : wr.cell? ⟨g, 5, none⟩ = some (.slice ad n c) := by rw [cell_of_row _ _ _ _ _ _ CW.out.box]; rfl
      have X5 := Lib.hid (show (wr.setCell ⟨g, 5, none⟩ (.slice la ln lc)).heap[g]? = some (.cells (pgC p (.slice la ln lc)) 64 (0, 0)) by rw [heap_setCell_same _ _ _ _ _ _ CW.out.box]; rfl)
      have R5 := Lib.hid (show (wr.setCell ⟨g, 5, none⟩ (.slice la ln lc)).heap[r]? = some (.cells zeroP 64 (0, 0)) by rw [heap_setCell_other _ _ _ _ CW.out.nr]; exact CW.out.rb)
      go_upto_region 8 with fail
      generalize World.setCell wr _ _ = w5 at *
      clear z5 c5
      have six : w5.cell? ⟨g, 0, none⟩ = some (.int .u8 (p.kind : Int)) ∧ w5.cell? ⟨g, 1, none⟩ = some (.int .u8 (p.level : Int)) ∧ w5.cell? ⟨g, 2, none⟩ = some (.int .u32 (p.id : Int)) ∧ w5.cell? ⟨g, 3, none⟩ = some (.int .u64 (p.lsn : Int)) ∧ w5.cell? ⟨g, 4, none⟩ = some (.int .u32 (p.next : Int)) ∧ w5.cell? ⟨g, 5, none⟩ = some (.slice la ln lc) := by
        refine ⟨?_, ?_, ?_, ?_, ?_, ?_⟩ <;> (rw [cell_of_row _ _ _ _ _ _ X5.out]; rfl)
      obtain ⟨x0, x1, x2, x3, x4, x5⟩ := six
      go_wp2_with (refine wpList_store_row rfl 64 (.tmp 2) (.tmp 21) rfl r (pgC p (.slice la ln lc)) rfl rfl 64 zeroP R5.out info_page rfl (pgC_one' _ _ _ _) ?_)
      exact bodyPost_ret (v := .agg (pgC p (.slice la ln lc))) (results_p1 Try.results55 _ _ r (pgC p (.slice la ln lc)) rfl (setRow_heap _ _ _ _ _ _ R5.out) info_page) rfl F.out

end Go.Proofs.Ytfcibccipkokoaa.Op
