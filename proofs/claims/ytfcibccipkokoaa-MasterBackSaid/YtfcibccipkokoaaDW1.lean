/- Walks: what a disk asks of itself. -/
import Derived.Test.YtfcibccipkokoaaDR
import Derived.Deep.RegionHeld3
import Derived.Deep.DrawnRows
import Derived.Deep.AppendLies
import Derived.Laws.Pointers
namespace Go.Proofs.Ytfcibccipkokoaa.Disk
open Go.RowKit

theorem ret_int {k : IntKind} {a b : Int} (h : a = b) : Ending.returned (.int k a) = .returned (.int k b) := by rw [h]
theorem ret_bool {a b : Bool} (h : a = b) : Ending.returned (.bool a) = .returned (.bool b) := by rw [h]
set_option maxRecDepth 100000 in
theorem made_any {w : World} {p : Nat} {d : D} {F : Nat → Prop} (h : Rep w p d F) :
    Calls Try.prog 51 #[.pointer (some ⟨p, 0, none⟩)] w fun e w' => e = .returned (.bool true) ∧ w = w' := by
  obtain ⟨gs, sc, lv, mv, L, _⟩ := h.lay
  have c0 := L.cell0
  have h1 : decide (0 < d.sure.length) = true := by have := h.ok.one; exact decide_eq_true this
  clear L h
  go_enter Try.func51, Try.ntmps51
  go_wp2
  go_ret
  exact ⟨rfl, rfl⟩
set_option maxRecDepth 100000 in
theorem made_nil (w : World) :
    Calls Try.prog 51 #[.pointer none] w fun e w' => e = .returned (.bool false) ∧ w = w' := by
  go_enter Try.func51, Try.ntmps51
  go_wp2
  go_ret
  exact ⟨rfl, rfl⟩

set_option maxRecDepth 100000 in
theorem goes_down {w : World} {p : Nat} {d : D} {F : Nat → Prop} (h : Rep w p d F) (hf : d.fuse = 0) :
    Calls Try.prog 44 #[.pointer (some ⟨p, 0, none⟩)] w fun e w' => e = .returned (.int .i64 40) ∧ w = w' := by
  have m := made_any h
  obtain ⟨gs, sc, lv, mv, L, _⟩ := h.lay
  have c3 := L.cell3
  rw [hf] at c3
  clear L h hf
  go_enter Try.func44, Try.ntmps44
  go_wp2_with (go_at_call 51; refine m.mono ?_; rintro e w' ⟨rfl, rfl⟩)
  go_ret
  exact ⟨rfl, rfl⟩
set_option maxRecDepth 100000 in
theorem goes_on {w : World} {p : Nat} {d : D} {F : Nat → Prop} (h : Rep w p d F) (hf : d.fuse ≠ 0) :
    Calls Try.prog 44 #[.pointer (some ⟨p, 0, none⟩)] w fun e w' => e = .returned (.int .i64 0) ∧ w = w' := by
  have m := made_any h
  obtain ⟨gs, sc, lv, mv, L, _⟩ := h.lay
  have c3 := L.cell3
  have hf2 : (d.fuse == 0) = false := by simpa using hf
  clear L h hf
  go_enter Try.func44, Try.ntmps44
  go_wp2_with (go_at_call 51; refine m.mono ?_; rintro e w' ⟨rfl, rfl⟩)
  go_ret
  exact ⟨rfl, rfl⟩
set_option maxRecDepth 100000 in
theorem goes_nil (w : World) :
    Calls Try.prog 44 #[.pointer none] w fun e w' => e = .returned (.int .i64 1) ∧ w = w' := by
  have m := made_nil w
  go_enter Try.func44, Try.ntmps44
  go_wp2_with (go_at_call 51; refine m.mono ?_; rintro e w' ⟨rfl, rfl⟩)
  go_ret
  exact ⟨rfl, rfl⟩

/-- is there the sector? -/
def hasB (n : Nat) (k : Int) : Bool := decide (0 ≤ k ∧ k < n)
set_option maxRecDepth 100000 in
theorem has_any {w : World} {p : Nat} {d : D} {F : Nat → Prop} (h : Rep w p d F) (k : Int) :
    Calls Try.prog 45 #[.pointer (some ⟨p, 0, none⟩), .int .i64 k] w fun e w' => e = .returned (.bool (hasB d.sure.length k)) ∧ w = w' := by
  obtain ⟨gs, sc, lv, mv, L, _⟩ := h.lay
  have c0 := L.cell0
  clear L h
  by_cases h0 : 0 ≤ k
  · by_cases h1 : k < d.sure.length
    · have e1 : decide (0 ≤ k) = true := decide_eq_true h0
      have e2 : decide (k < (d.sure.length : Int)) = true := decide_eq_true h1
      have R := Lib.hid (show true = hasB d.sure.length k by unfold hasB; exact (decide_eq_true ⟨h0, h1⟩).symm)
      clear h0 h1
      go_enter Try.func45, Try.ntmps45
      go_wp2
      go_ret
      exact ⟨ret_bool R.out, rfl⟩
    · have e1 : decide (0 ≤ k) = true := decide_eq_true h0
      have e2 : decide (k < (d.sure.length : Int)) = false := decide_eq_false h1
      have R := Lib.hid (show false = hasB d.sure.length k by unfold hasB; exact (decide_eq_false (fun h => h1 h.2)).symm)
      clear h0 h1
      go_enter Try.func45, Try.ntmps45
      go_wp2
      go_ret
      exact ⟨ret_bool R.out, rfl⟩
  · have e1 : decide (0 ≤ k) = false := decide_eq_false h0
    have R := Lib.hid (show false = hasB d.sure.length k by unfold hasB; exact (decide_eq_false (fun h => h0 h.1)).symm)
    clear h0
    go_enter Try.func45, Try.ntmps45
    go_wp2
    go_ret
    exact ⟨ret_bool R.out, rfl⟩

/-- the fuse is another one -/
theorem Rep.setFuse {w : World} {p : Nat} {d : D} {F : Nat → Prop} (h : Rep w p d F) {n : Int} (h1 : -1 ≤ n) (h2 : n ≤ 9223372036854775807) :
    Rep (w.setCell ⟨p, 3, none⟩ (.int .i64 n)) p (d.setFuse n) F ∧ Touch F w (w.setCell ⟨p, 3, none⟩ (.int .i64 n)) := by
  have ht : ∀ u, F p → Touch F w (w.setCell ⟨p, 3, none⟩ u) := fun u hp => (Touch.refl F w).setCell (x := ⟨p, 3, none⟩) hp u
  obtain ⟨gs, sc, lv, mv, L, f1, f2, f3, f4⟩ := h.lay
  refine ⟨⟨h.ok.setFuse h1 h2, ⟨gs, sc, lv, mv, ⟨?_, ?_, ?_, ?_⟩, f1, f2, f3, f4⟩, fun b hb => by simpa using h.below b hb⟩, ht _ f1⟩
  · rw [heap_setCell_same w p 3 _ _ _ L.head]; rfl
  · exact ownsRow_far L.sure fun b hb => heap_setCell_other _ _ _ _ (by simp [Value.ownBlock] at hb; subst hb; exact fun e => L.ne e.symm)
  · exact ownsRow_far L.loose fun b hb => heap_setCell_other _ _ _ _ ((L.ne1 hb).1)
  · exact L.newest.far fun b hb => heap_setCell_other _ _ _ _ ((L.ne2 hb).1)

set_option maxRecDepth 100000 in
theorem burn_any {w : World} {p : Nat} {d : D} {F : Nat → Prop} (h : Rep w p d F) :
    Calls Try.prog 46 #[.pointer (some ⟨p, 0, none⟩)] w fun e w' => e = .returned (.tuple #[]) ∧ (Rep w' p (d.setFuse (burnt d.fuse)) F ∧ Touch F w w') := by
  have hf1 := h.ok.low
  have hf2 := h.ok.high
  have hs := Lib.hid (h.setFuse (burnt_low hf1) (burnt_high hf2))
  have hr := Lib.hid h
  obtain ⟨gs, sc, lv, mv, L, _⟩ := h.lay
  have c3 := L.cell3
  have fr := L.free 3
  clear L h
  by_cases h0 : 0 < d.fuse
  · have e : burnt d.fuse = d.fuse - 1 := by unfold burnt; rw [if_pos h0]
    rw [e] at hs ⊢
    clear e
    have e1 : decide (0 < d.fuse) = true := by simpa using h0
    go_enter Try.func46, Try.ntmps46
    go_wp2
    go_end0
    exact ⟨rfl, hs.out⟩
  · have e : burnt d.fuse = d.fuse := by unfold burnt; rw [if_neg h0]
    rw [e] at hs ⊢
    clear e
    have e1 : decide (0 < d.fuse) = false := by simpa using h0
    go_enter Try.func46, Try.ntmps46
    go_wp2
    go_end0
    exact ⟨rfl, hr.out, Touch.refl _ _⟩

/-- nothing is loose -/
theorem Rep.forget {w : World} {p : Nat} {d : D} {F : Nat → Prop} (h : Rep w p d F) :
    Rep ((w.setCell ⟨p, 1, none⟩ (.slice none 0 0)).setCell ⟨p, 2, none⟩ (.map none)) p ⟨d.sure, [], d.fuse⟩ F ∧ Touch F w ((w.setCell ⟨p, 1, none⟩ (.slice none 0 0)).setCell ⟨p, 2, none⟩ (.map none)) := by
  have ht : F p → Touch F w ((w.setCell ⟨p, 1, none⟩ (.slice none 0 0)).setCell ⟨p, 2, none⟩ (.map none)) := fun hp => ((Touch.refl F w).setCell (x := ⟨p, 1, none⟩) hp _).setCell (x := ⟨p, 2, none⟩) hp _
  obtain ⟨gs, sc, lv, mv, L, f1, f2, f3, f4⟩ := h.lay
  refine ⟨⟨⟨h.ok.one, h.ok.most, h.ok.each, by simp, h.ok.low, h.ok.high⟩, ⟨gs, sc, .slice none 0 0, .map none, ⟨?_, ?_, ?_, ?_⟩, f1, f2, by simp [Value.ownBlock], by simp⟩, fun b hb => by simpa using h.below b hb⟩, ht f1⟩
  · have h1 := heap_setCell_same w p 1 _ _ (.slice none 0 0) L.head
    rw [heap_setCell_same _ p 2 _ _ _ h1]; rfl
  · exact ownsRow_far L.sure fun b hb => by
      have : b ≠ p := by simp [Value.ownBlock] at hb; subst hb; exact fun e => L.ne e.symm
      rw [heap_setCell_other _ _ _ _ this, heap_setCell_other _ _ _ _ this]
  · exact World.ownsRow_nil _ _ _ _
  · exact .inl ⟨rfl, rfl⟩
set_option maxRecDepth 100000 in
theorem forget_any {w : World} {p : Nat} {d : D} {F : Nat → Prop} (h : Rep w p d F) :
    Calls Try.prog 53 #[.pointer (some ⟨p, 0, none⟩)] w fun e w' => e = .returned (.tuple #[]) ∧ (Rep w' p ⟨d.sure, [], d.fuse⟩ F ∧ Touch F w w') := by
  have hs := Lib.hid h.forget
  obtain ⟨gs, sc, lv, mv, L, _⟩ := h.lay
  have c1 := L.cell1
  have c2 := L.cell2
  have fr1 := L.free 1
  have fr2 := L.free 2
  clear L h
  go_enter Try.func53, Try.ntmps53
  go_wp2
  go_end0
  exact ⟨rfl, hs.out⟩

end Go.Proofs.Ytfcibccipkokoaa.Disk
