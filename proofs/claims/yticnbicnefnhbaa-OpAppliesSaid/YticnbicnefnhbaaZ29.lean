/-
  Memory: an op, done to a page by the document.
-/
import Derived.Test.YticnbicnefnhbaaZ15
import Derived.Test.YticnbicnefnhbaaZ3
import Derived.Test.YticnbicnefnhbaaZ14
import Derived.Test.YticnbicnefnhbaaZ20
namespace Go.Proofs.Yticnbicnefnhbaa.Op
open Go.RowKit
open Go.Proofs.Yticnbicnefnhbaa.Page (Pg pgV pgC used nth mayP zeroP)

section
variable {w W W' : World} {g h r : Nat} {p q : Pg} {v x : Value} {o : O} {u : Value} {l : List ByteArray}
theorem tx_ne (T : Slot.Tx w W x l) {b : Nat} {cs : Array Value} {t : TypeId} {f : Nat × Nat} (hb : W.heap[b]? = some (.cells cs t f)) (ht : t ≠ 9) : ∀ y, x.ownBlock = some y → y ≠ b := by
  rintro y hy rfl
  rcases T.form with ⟨rfl, _⟩ | ⟨g', cap, cur, rfl, _, h3, _⟩
  · simp [Value.ownBlock] at hy
  · simp only [Value.ownBlock, Option.some.injEq] at hy
    subst hy
    rw [hb] at h3
    simp only [Option.some.injEq, Obj.cells.injEq] at h3
    exact ht h3.2.1
theorem Dn.grown (D : Dn w W g h r p v o u) (hp : Page.Rows w v p.rows) (T : Slot.Tx w W x l) (gw : W.grownBy W' x.ownBlock) : Dn w W' g h r p v o u := by
  have B : Below w.heap.size w W' := Slot.below_grown D.below (fun y hy => (T.own.lt y hy).1) gw
  have k : ∀ {b : Nat} {cs : Array Value} {t : TypeId}, t ≠ 9 → W.heap[b]? = some (.cells cs t (0, 0)) → W'.heap[b]? = some (.cells cs t (0, 0)) := fun ht hb =>
    (gw.block _ (Array.getElem?_eq_some_iff.1 hb).1 (fun e => tx_ne T hb ht _ e.symm rfl)).trans hb
  exact ⟨⟨k (by decide) D.gx.box, hp.later B, D.gx.cap⟩, k (by decide) D.ob, k (by decide) D.rb, B, D.hg, D.hr, D.nh, D.nr, D.nn⟩
theorem tx_str (T : Slot.Tx w W x l) : Str W x := by
  refine ⟨fun b hb => ?_, Page.cap_tx T⟩
  rcases T.form with ⟨rfl, _⟩ | ⟨g', cap, cur, rfl, _, h3, _⟩
  · simp [Value.ownBlock] at hb
  · simp only [Value.ownBlock, Option.some.injEq] at hb
    subst hb
    exact ⟨cur, (0, 0), h3⟩
set_option maxRecDepth 100000 in
/-- the first ones of its own -/
theorem tx_head (T : Slot.Tx w W x l) {k : Nat} (hk : k ≤ l.length) :
    ∃ y, (∀ W : World, (Instr.sliceAt 24 x none (some (.int .i64 (k : Int))) none).run Try.prog W = .ok y W) ∧ Page.Rows W y (l.take k) ∧ Str W y := by
  obtain ⟨y, h1, h2, h3⟩ := Page.rows_head (Page.rows_tx T) (Page.cap_tx T) hk
  refine ⟨y, h1, h2, ⟨fun b hb => ?_, h3⟩⟩
  obtain ⟨ad, c, hx⟩ := T.shape
  have hc := (Page.cap_tx T) _ _ _ hx
  have e : y = sliced ad 0 k c 1 := by
    have := h1 W
    rw [hx, run_sliceAt_slice (P := Try.prog) W 24 _ _ _ _ Slot.elem_strs, run_slice_h (P := Try.prog) W 24 _ _ _ Slot.elem_strs .i64 (k : Int) (by omega) (by omega), Slot.size_str] at this
    injection this with e _
    exact e.symm
  rcases T.form with ⟨rfl, rfl⟩ | ⟨g', cap, cur, hx2, _, h4, _⟩
  · simp only [Value.slice.injEq] at hx
    obtain ⟨rfl, _, rfl⟩ := hx
    rw [e] at hb
    simp [sliced, Value.ownBlock] at hb
  · rw [hx2] at hx
    simp only [Value.slice.injEq] at hx
    obtain ⟨rfl, _, rfl⟩ := hx
    rw [e] at hb
    have : b = g' := by
      unfold sliced at hb
      split at hb <;> simp [Value.ownBlock, Addr.add_mid] at hb <;> exact hb.symm
    rw [this]
    exact ⟨cur, (0, 0), h4⟩
/-- rows are laid into the page's box -/
theorem Dn.put (D : Dn w W g h r p v o u) (hr : Page.Rows W x l) (s : Str W x) : Dn w (W.setCell ⟨g, 5, none⟩ x) g h r { p with rows := l } x o u ∧ Str (W.setCell ⟨g, 5, none⟩ x) x := by
  refine ⟨D.turn (touch_set (Below.refl _ _) 5 _) ⟨by rw [heap_setCell_same _ _ _ _ _ _ D.gx.box]; rfl, rows_beside (_cs := #[]) hr (pg_slice D.gx.rows) D.gx.box 5 x, s.cap⟩, ⟨fun b hb => ?_, s.cap⟩⟩
  obtain ⟨cs, f, h1⟩ := s.own b hb
  have hne : b ≠ g := by
    rintro rfl
    rw [D.gx.box] at h1
    simp at h1
  exact ⟨cs, f, by rw [heap_setCell_other _ _ _ _ hne]; exact h1⟩
/-- a block of one text -/
theorem one_rows {s : Nat} {t : ByteArray} (hs : W.heap[s]? = some (.cells #[.string t] 9 (0, 0))) : Page.Rows W (.slice (some ⟨s, 0, none⟩) 1 1) [t] :=
  ⟨_, _, rfl, .inr ⟨s, 0, rfl, (Array.getElem?_eq_some_iff.1 hs).1, fun k hk => by
    obtain rfl : k = 0 := by simpa using hk
    rw [cell_of_row _ _ _ _ _ _ hs]
    rfl⟩⟩
end
theorem wrong_head {p : Pg} {o : O} (hm : May o) (hg : o.kind = 1 ∨ (mayP p = true ∧ p.id = o.page)) : ¬ (¬ May o ∨ (o.kind ≠ 1 ∧ (mayP p = false ∨ p.id ≠ o.page))) := by
  rintro (h | ⟨h1, h | h⟩)
  · exact h hm
  · rw [(hg.resolve_left h1).1] at h; cases h
  · exact h (hg.resolve_left h1).2
theorem wrong_place {p : Pg} {o : O} {k n : Nat} (hm : May o) (hg : o.kind = 1 ∨ (mayP p = true ∧ p.id = o.page)) (hk : o.at' = (k : Int)) (hn : n = p.rows.length) :
    wrong p o = if (o.kind ≠ 1 ∧ (n < k ∨ (k = n ∧ (o.kind = 3 ∨ o.kind = 4 ∨ o.kind = 8)))) then 3 else if o.kind = 8 ∧ (nth p.rows k).size < o.off.toNat + o.text.size then 2 else 0 := by
  subst hn
  unfold wrong
  have hkn : o.at'.toNat = k := by omega
  rw [if_neg (wrong_head hm hg), hkn, hk]
  have c1 : (o.kind ≠ 1 ∧ ((p.rows.length : Int) < (k : Int) ∨ ((k : Int) = (p.rows.length : Int) ∧ (o.kind = 3 ∨ o.kind = 4 ∨ o.kind = 8)))) ↔ (o.kind ≠ 1 ∧ (p.rows.length < k ∨ (k = p.rows.length ∧ (o.kind = 3 ∨ o.kind = 4 ∨ o.kind = 8)))) := by omega
  simp only [c1]
theorem done_is {p : Pg} {o : O} {k lsn : Nat} (hk : o.at' = (k : Int)) : done p o lsn = (if o.kind = 1 then ⟨o.pkind, o.level, o.page, lsn, o.next, []⟩
    else if o.kind = 2 then { p with rows := p.rows.take k ++ (o.text :: p.rows.drop k), lsn := lsn }
    else if o.kind = 3 then { p with rows := p.rows.set k o.text, lsn := lsn }
    else if o.kind = 4 then { p with rows := p.rows.take k ++ p.rows.drop (k + 1), lsn := lsn }
    else if o.kind = 5 then { p with rows := p.rows.take k, lsn := lsn }
    else if o.kind = 6 then { p with rows := p.rows ++ o.rows, lsn := lsn }
    else if o.kind = 7 then { p with next := o.next, lsn := lsn }
    else { p with rows := p.rows.set k (patch (nth p.rows k) o.off.toNat o.text), lsn := lsn }) := by
  unfold done
  simp only
  rw [show o.at'.toNat = k by omega]
theorem used_set (l : List ByteArray) (k : Nat) (t : ByteArray) : used (l.set k t) ≤ used l + used [t] + used l := by
  by_cases h : k < l.length
  · rw [← set_is h]
    exact used_put l [t] k (k + 1)
  · rw [List.set_eq_of_length_le (by omega)]
    omega
theorem done_used {p : Pg} {o : O} {lsn : Nat} (hm : May o) (hg : o.kind = 1 ∨ (mayP p = true ∧ p.id = o.page)) : used (done p o lsn).rows ≤ 10000 := by
  by_cases h1 : o.kind = 1
  · unfold done
    simp only
    rw [if_pos h1]
    simp [used]
  obtain ⟨hmp, _⟩ := hg.resolve_left h1
  have hu := (may_rows hmp).2.2.2.2
  have ht := hm.tt
  have hr := total_used o.rows
  have hl := hm.rl
  have o1 := used_one o.text
  have hz : (nth p.rows o.at'.toNat).size ≤ 484 := by
    by_cases hc : o.at'.toNat < p.rows.length
    · have := Page.nth_size hc; omega
    · have : nth p.rows o.at'.toNat = ⟨#[]⟩ := by unfold nth; rw [List.getD_eq_getElem?_getD, List.getElem?_eq_none (by omega)]; rfl
      rw [this]; exact Nat.zero_le _
  unfold done
  simp only
  rw [if_neg h1]
  repeat' split
  · show used (p.rows.take o.at'.toNat ++ ([o.text] ++ p.rows.drop o.at'.toNat)) ≤ _
    have := used_put p.rows [o.text] o.at'.toNat o.at'.toNat
    omega
  · show used (p.rows.set _ _) ≤ _
    have := used_set p.rows o.at'.toNat o.text
    omega
  · show used (p.rows.take o.at'.toNat ++ ([] ++ p.rows.drop (o.at'.toNat + 1))) ≤ _
    have := used_put p.rows [] o.at'.toNat (o.at'.toNat + 1)
    have e0 : used [] = 0 := rfl
    omega
  · have := Page.used_take_le p.rows o.at'.toNat
    show used (p.rows.take _) ≤ _
    omega
  · show used (p.rows ++ o.rows) ≤ _
    rw [Page.used_app]
    omega
  · show used p.rows ≤ _
    omega
  · show used (p.rows.set _ _) ≤ _
    have := used_set p.rows o.at'.toNat (patch (nth p.rows o.at'.toNat) o.off.toNat o.text)
    have h4 := used_one (patch (nth p.rows o.at'.toNat) o.off.toNat o.text)
    have h6 := patch_le (nth p.rows o.at'.toNat) o.off.toNat o.text
    omega
/-- another cell of the page's box is written: a slice of its own stays -/
theorem tx_box {w W : World} {x : Value} {l : List ByteArray} {g : Nat} {cs : Array Value} (T : Slot.Tx w W x l) (hb : W.heap[g]? = some (.cells cs 45 (0, 0))) (j : Nat) (z : Value) : Slot.Tx w (W.setCell ⟨g, j, none⟩ z) x l :=
  T.far (by simp) fun y hy => heap_setCell_other _ _ _ _ (tx_ne T hb (by decide) y hy)

end Go.Proofs.Yticnbicnefnhbaa.Op
