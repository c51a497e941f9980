/-
  Walks: what a disk asks of itself.
  Walks: a loose write is made sure.
-/
import Derived.Deep.RegionHeld3
import Derived.Deep.DrawnRows
import Derived.Deep.AppendLies
import Derived.Laws.Pointers
import Derived.Test.YtgohpompgiljiaaZ15
namespace Go.Proofs.Ytgohpompgiljiaa.Disk
open Go.RowKit

theorem ret_int {k : IntKind} {a b : Int} (h : a = b) : Ending.returned (.int k a) = .returned (.int k b) := by rw [h]
theorem ret_bool {a b : Bool} (h : a = b) : Ending.returned (.bool a) = .returned (.bool b) := by rw [h]
set_option maxRecDepth 100000 in
theorem made_any {w : World} {p : Nat} {d : D} {F : Nat → Prop} (h : Rep w p d F) :
    Calls Try.prog 39 #[.pointer (some ⟨p, 0, none⟩)] w fun e w' => e = .returned (.bool true) ∧ w = w' := by
  obtain ⟨gs, sc, lv, mv, L, _⟩ := h.lay
  have c0 := L.cell0
  have h1 : decide (0 < d.sure.length) = true := by have := h.ok.one; exact decide_eq_true this
  clear L h
  go_enter Try.func39, Try.ntmps39
  go_wp2
  go_ret
  exact ⟨rfl, rfl⟩
set_option maxRecDepth 100000 in
theorem made_nil (w : World) :
    Calls Try.prog 39 #[.pointer none] w fun e w' => e = .returned (.bool false) ∧ w = w' := by
  go_enter Try.func39, Try.ntmps39
  go_wp2
  go_ret
  exact ⟨rfl, rfl⟩

set_option maxRecDepth 100000 in
theorem goes_down {w : World} {p : Nat} {d : D} {F : Nat → Prop} (h : Rep w p d F) (hf : d.fuse = 0) :
    Calls Try.prog 48 #[.pointer (some ⟨p, 0, none⟩)] w fun e w' => e = .returned (.int .i64 40) ∧ w = w' := by
  have m := made_any h
  obtain ⟨gs, sc, lv, mv, L, _⟩ := h.lay
  have c3 := L.cell3
  rw [hf] at c3
  clear L h hf
  go_enter Try.func48, Try.ntmps48
  go_wp2_with (go_at_call 39; refine m.mono ?_; rintro e w' ⟨rfl, rfl⟩)
  go_ret
  exact ⟨rfl, rfl⟩
set_option maxRecDepth 100000 in
theorem goes_on {w : World} {p : Nat} {d : D} {F : Nat → Prop} (h : Rep w p d F) (hf : d.fuse ≠ 0) :
    Calls Try.prog 48 #[.pointer (some ⟨p, 0, none⟩)] w fun e w' => e = .returned (.int .i64 0) ∧ w = w' := by
  have m := made_any h
  obtain ⟨gs, sc, lv, mv, L, _⟩ := h.lay
  have c3 := L.cell3
  have hf2 : (d.fuse == 0) = false := by simpa using hf
  clear L h hf
  go_enter Try.func48, Try.ntmps48
  go_wp2_with (go_at_call 39; refine m.mono ?_; rintro e w' ⟨rfl, rfl⟩)
  go_ret
  exact ⟨rfl, rfl⟩
set_option maxRecDepth 100000 in
theorem goes_nil (w : World) :
    Calls Try.prog 48 #[.pointer none] w fun e w' => e = .returned (.int .i64 1) ∧ w = w' := by
  have m := made_nil w
  go_enter Try.func48, Try.ntmps48
  go_wp2_with (go_at_call 39; refine m.mono ?_; rintro e w' ⟨rfl, rfl⟩)
  go_ret
  exact ⟨rfl, rfl⟩

/-- is there the sector? -/
def hasB (n : Nat) (k : Int) : Bool := decide (0 ≤ k ∧ k < n)
set_option maxRecDepth 100000 in
theorem has_any {w : World} {p : Nat} {d : D} {F : Nat → Prop} (h : Rep w p d F) (k : Int) :
    Calls Try.prog 49 #[.pointer (some ⟨p, 0, none⟩), .int .i64 k] w fun e w' => e = .returned (.bool (hasB d.sure.length k)) ∧ w = w' := by
  obtain ⟨gs, sc, lv, mv, L, _⟩ := h.lay
  have c0 := L.cell0
  clear L h
  by_cases h0 : 0 ≤ k
  · by_cases h1 : k < d.sure.length
    · have e1 : decide (0 ≤ k) = true := decide_eq_true h0
      have e2 : decide (k < (d.sure.length : Int)) = true := decide_eq_true h1
      have R := Lib.hid (show true = hasB d.sure.length k by unfold hasB; exact (decide_eq_true ⟨h0, h1⟩).symm)
      clear h0 h1
      go_enter Try.func49, Try.ntmps49
      go_wp2
      go_ret
      exact ⟨ret_bool R.out, rfl⟩
    · have e1 : decide (0 ≤ k) = true := decide_eq_true h0
      have e2 : decide (k < (d.sure.length : Int)) = false := decide_eq_false h1
      have R := Lib.hid (show false = hasB d.sure.length k by unfold hasB; exact (decide_eq_false (fun h => h1 h.2)).symm)
      clear h0 h1
      go_enter Try.func49, Try.ntmps49
      go_wp2
      go_ret
      exact ⟨ret_bool R.out, rfl⟩
  · have e1 : decide (0 ≤ k) = false := decide_eq_false h0
    have R := Lib.hid (show false = hasB d.sure.length k by unfold hasB; exact (decide_eq_false (fun h => h0 h.1)).symm)
    clear h0
    go_enter Try.func49, Try.ntmps49
    go_wp2
    go_ret
    exact ⟨ret_bool R.out, rfl⟩

/-- the fuse is another one -/
theorem Rep.setFuse {w : World} {p : Nat} {d : D} {F : Nat → Prop} (h : Rep w p d F) {n : Int} (h1 : -1 ≤ n) (h2 : n ≤ 9223372036854775807) :
    Rep (w.setCell ⟨p, 3, none⟩ (.int .i64 n)) p (d.setFuse n) F ∧ Touch F w (w.setCell ⟨p, 3, none⟩ (.int .i64 n)) := by
  have ht : ∀ u, F p → Touch F w (w.setCell ⟨p, 3, none⟩ u) := fun u hp => (Touch.refl F w).setCell (x := ⟨p, 3, none⟩) hp u
  obtain ⟨gs, sc, lv, mv, L, f1, f2, f3, f4⟩ := h.lay
  refine ⟨⟨h.ok.setFuse h1 h2, ⟨gs, sc, lv, mv, ⟨?_, ?_, ?_, ?_⟩, f1, f2, f3, f4⟩, fun b hb => by simpa using h.below b hb⟩, ht _ f1⟩
  · rw [heap_setCell_same w p 3 _ _ _ L.head]; rfl
  · exact ownsRow_far L.sure fun b hb => heap_setCell_other _ _ _ _ (by simp [Value.ownBlock] at hb; subst hb; exact fun e => L.ne e.symm)
  · exact ownsRow_far L.loose fun b hb => heap_setCell_other _ _ _ _ ((L.ne1 hb).1)
  · exact L.newest.far fun b hb => heap_setCell_other _ _ _ _ ((L.ne2 hb).1)

set_option maxRecDepth 100000 in
theorem burn_any {w : World} {p : Nat} {d : D} {F : Nat → Prop} (h : Rep w p d F) :
    Calls Try.prog 57 #[.pointer (some ⟨p, 0, none⟩)] w fun e w' => e = .returned (.tuple #[]) ∧ (Rep w' p (d.setFuse (burnt d.fuse)) F ∧ Touch F w w') := by
  have hf1 := h.ok.low
  have hf2 := h.ok.high
  have hs := Lib.hid (h.setFuse (burnt_low hf1) (burnt_high hf2))
  have hr := Lib.hid h
  obtain ⟨gs, sc, lv, mv, L, _⟩ := h.lay
  have c3 := L.cell3
  have fr := L.free 3
  clear L h
  by_cases h0 : 0 < d.fuse
  · have e : burnt d.fuse = d.fuse - 1 := by unfold burnt; rw [if_pos h0]
    rw [e] at hs ⊢
    clear e
    have e1 : decide (0 < d.fuse) = true := by simpa using h0
    go_enter Try.func57, Try.ntmps57
    go_wp2
    go_end0
    exact ⟨rfl, hs.out⟩
  · have e : burnt d.fuse = d.fuse := by unfold burnt; rw [if_neg h0]
    rw [e] at hs ⊢
    clear e
    have e1 : decide (0 < d.fuse) = false := by simpa using h0
    go_enter Try.func57, Try.ntmps57
    go_wp2
    go_end0
    exact ⟨rfl, hr.out, Touch.refl _ _⟩

/-- nothing is loose -/
theorem Rep.forget {w : World} {p : Nat} {d : D} {F : Nat → Prop} (h : Rep w p d F) :
    Rep ((w.setCell ⟨p, 1, none⟩ (.slice none 0 0)).setCell ⟨p, 2, none⟩ (.map none)) p ⟨d.sure, [], d.fuse⟩ F ∧ Touch F w ((w.setCell ⟨p, 1, none⟩ (.slice none 0 0)).setCell ⟨p, 2, none⟩ (.map none)) := by
  have ht : F p → Touch F w ((w.setCell ⟨p, 1, none⟩ (.slice none 0 0)).setCell ⟨p, 2, none⟩ (.map none)) := fun hp => ((Touch.refl F w).setCell (x := ⟨p, 1, none⟩) hp _).setCell (x := ⟨p, 2, none⟩) hp _
  obtain ⟨gs, sc, lv, mv, L, f1, f2, f3, f4⟩ := h.lay
  refine ⟨⟨⟨h.ok.one, h.ok.most, h.ok.each, by simp, h.ok.low, h.ok.high⟩, ⟨gs, sc, .slice none 0 0, .map none, ⟨?_, ?_, ?_, ?_⟩, f1, f2, by simp [Value.ownBlock], by simp⟩, fun b hb => by simpa using h.below b hb⟩, ht f1⟩
  · have h1 := heap_setCell_same w p 1 _ _ (.slice none 0 0) L.head
    rw [heap_setCell_same _ p 2 _ _ _ h1]; rfl
  · exact ownsRow_far L.sure fun b hb => by
      have : b ≠ p := by simp [Value.ownBlock] at hb; subst hb; exact fun e => L.ne e.symm
      rw [heap_setCell_other _ _ _ _ this, heap_setCell_other _ _ _ _ this]
  · exact World.ownsRow_nil _ _ _ _
  · exact .inl ⟨rfl, rfl⟩
set_option maxRecDepth 100000 in
theorem forget_any {w : World} {p : Nat} {d : D} {F : Nat → Prop} (h : Rep w p d F) :
    Calls Try.prog 41 #[.pointer (some ⟨p, 0, none⟩)] w fun e w' => e = .returned (.tuple #[]) ∧ (Rep w' p ⟨d.sure, [], d.fuse⟩ F ∧ Touch F w w') := by
  have hs := Lib.hid h.forget
  obtain ⟨gs, sc, lv, mv, L, _⟩ := h.lay
  have c1 := L.cell1
  have c2 := L.cell2
  have fr1 := L.free 1
  have fr2 := L.free 2
  clear L h
  go_enter Try.func41, Try.ntmps41
  go_wp2
  go_end0
  exact ⟨rfl, hs.out⟩

end Go.Proofs.Ytgohpompgiljiaa.Disk

namespace Go.Proofs.Ytgohpompgiljiaa.Disk
open Go.RowKit
attribute [local go_sem ↓] Go.wp_at_zero Go.wp_at_succ

set_option maxRecDepth 100000 in
theorem infoSector : (Try.prog.info? 92).map (·.size) = some 128 := by kernel_rfl

/-- the i-th write is sure -/
theorem Rep.settled {w : World} {p : Nat} {d : D} {F : Nat → Prop} {gs sc : Nat} {lv mv : Value} (h : Rep w p d F) (L : Lay w p gs sc lv mv d) (f1 : F p) (f2 : F gs) (f3 : ∀ b, lv.ownBlock = some b → F b) (f4 : ∀ b, mv = .map (some b) → F b) {x : Nat × List UInt8} (hx : x ∈ d.loose) :
    Rep (w.setCells gs (x.1 * 128) (Lib.byteCells x.2)) p ⟨settle d.sure x, d.loose, d.fuse⟩ F ∧ Touch F w (w.setCells gs (x.1 * 128) (Lib.byteCells x.2)) := by
  obtain ⟨hk, hl⟩ := h.ok.there x hx
  have hc : (Lib.byteCells x.2).length = 128 := by rw [byteCells_len, hl]
  have ho : ∀ b, b ≠ gs → b < w.heap.size → (w.setCells gs (x.1 * 128) (Lib.byteCells x.2)).heap[b]? = w.heap[b]? := fun b hb hs => World.heap_setCells_other w gs _ _ hs hb
  have hown := ownsRow_setCells L.sure (x.1 * 128) (Lib.byteCells x.2) (by rw [hc]; have := Nat.mul_le_mul_right 128 hk; omega)
  rw [hc, flat_set h.ok.each hk] at hown
  have hsl : (settle d.sure x).length = d.sure.length := settle_len _ _
  have ht := Touch.setCells f2 (Lib.byteCells x.2) (x.1 * 128) (Touch.refl F w)
  refine ⟨⟨⟨by rw [hsl]; exact h.ok.one, by rw [hsl]; exact h.ok.most, settle_each h.ok.each hl, by rw [hsl]; exact h.ok.there, h.ok.low, h.ok.high⟩, ⟨gs, sc, lv, mv, ⟨?_, ?_, ?_, ?_⟩, f1, f2, f3, f4⟩, fun b hb => Nat.lt_of_lt_of_le (h.below b hb) ht.size⟩, ht⟩
  · rw [hsl, ho p L.ne (h.below p f1)]; exact L.head
  · rw [hsl]; exact hown
  · exact ownsRow_far L.loose fun b hb => ho b (L.ne1 hb).2 (h.below b (f3 b hb))
  · exact L.newest.far fun b hb => ho b (L.ne2 hb).2.1 (h.below b (f4 b hb))

theorem Rep.drew {w : World} {p : Nat} {d : D} {F : Nat → Prop} (h : Rep w p d F) : Rep w.drew p d F := h.later ((Below.refl _ w).drew)
theorem Lay.drew {w : World} {p gs sc : Nat} {lv mv : Value} {d : D} (L : Lay w p gs sc lv mv d) : Lay w.drew p gs sc lv mv d :=
  ⟨L.head, ownsRow_far L.sure fun _ _ => rfl, ownsRow_far L.loose fun _ _ => rfl, L.newest.far fun _ _ => rfl⟩

set_option maxRecDepth 100000 in
set_option maxHeartbeats 2000000 in
theorem settle_any {w : World} {p : Nat} {d : D} {F : Nat → Prop} (h : Rep w p d F) {i : Nat} {x : Nat × List UInt8} (hx : d.loose[i]? = some x) :
    Calls Try.prog 40 #[.pointer (some ⟨p, 0, none⟩), .int .i64 i] w fun e w' => e = .returned (.tuple #[]) ∧ (Rep w' p ⟨settle d.sure x, d.loose, d.fuse⟩ F ∧ Touch F w w') := by
  obtain ⟨gs, sc, lv, mv, L, f1, f2, f3, f4⟩ := h.lay
  have hm := List.mem_of_getElem? hx
  obtain ⟨hk, hl⟩ := h.ok.there x hm
  have hi : i < d.loose.length := (List.getElem?_eq_some_iff.1 hx).1
  have hs := Rep.settled h.drew L.drew f1 f2 f3 f4 hm
  have HS := Lib.hid (show Rep (w.drew.setCells gs (x.1 * 128) (Lib.byteCells x.2)) p ⟨settle d.sure x, d.loose, d.fuse⟩ F ∧ Touch F w (w.drew.setCells gs (x.1 * 128) (Lib.byteCells x.2)) from ⟨hs.1, (Touch.refl F w).drew.trans' hs.2⟩)
  clear hs
  obtain ⟨g, cap, hlv, _, hg⟩ := L.loose.form (by omega)
  subst hlv
  have hw2 : ∀ y ∈ d.loose, y.2.length = 128 := fun y hy => (h.ok.there y hy).2
  have r0 := ownsRow_range L.loose (i * 129) [Value.int .i64 (x.1 : Int)] (fun j v hv => by
    match j, hv with
    | 0, hv => simp at hv; subst hv; rw [flatW_get hw2 hx (by omega)]; rfl)
  have c4 : w.cell? ⟨g, i * 129, none⟩ = some (.int .i64 (x.1 : Int)) := r0 0 _ rfl
  have r1 := ownsRow_range L.loose (i * 129 + 1) (Lib.byteCells x.2) (fun j v hv => by
    have hj : j < (Lib.byteCells x.2).length := (List.getElem?_eq_some_iff.1 hv).1
    rw [byteCells_len, hl] at hj
    rw [Nat.add_assoc, flatW_get hw2 hx (by omega), ← hv, Nat.add_comm 1 j]; rfl)
  have t1 := ownsRow_there L.sure (x.1 * 128) 128 (by have := Nat.mul_le_mul_right 128 hk; omega)
  have c0 := L.cell0
  have c1 := L.cell1
  have ne : p ≠ gs := L.ne
  have ne1 : g ≠ gs := (L.ne1 rfl).2
  have hlen : (Lib.byteCells x.2).length = 128 := by rw [byteCells_len, hl]
  have h1 := byteCells_one x.2
  have hu := Try.underlying92
  have hi0 : (Try.prog.info? 92).map (·.size) = some (Lib.byteCells x.2).length := by rw [infoSector, hlen]
  have b0 : (0 : Int) ≤ (i : Int) := Int.natCast_nonneg _
  have b1 : (i : Int) < (d.loose.length : Int) := by omega
  have b2 : (0 : Int) ≤ (x.1 : Int) := Int.natCast_nonneg _
  have b3 : (x.1 : Int) < (d.sure.length : Int) := by omega
  generalize Lib.byteCells x.2 = cs at *
  generalize d.sure.length = ns at *
  generalize d.loose.length = nl at *
  generalize x.1 = k at *
  clear L h hx hm hk hl hw2 f3 f4 r0 hg
  go_enter Try.func40, Try.ntmps40
  go_wp2_with fail
  go_region_held3 (fun w' => w'.cell? ⟨p, 0, none⟩ = some (.slice (some ⟨gs, 0, none⟩) ns sc) ∧ w'.cell? ⟨g, i * 129, none⟩ = some (.int .i64 (k : Int)) ∧ w'.rangeAt g (i * 129 + 1) cs ∧ w'.there gs (k * 128) 128)
    (first | (refine ⟨by go_keep, by go_keep, ?_, ?_⟩ <;> simpa using ‹_›) | exact ⟨(World.cell?_setCells_out _ _ _ _ _ (fun hb _ => absurd hb ne)).trans (by simpa using c0), (World.cell?_setCells_out _ _ _ _ _ (fun hb _ => absurd hb ne1)).trans (by simpa using c4), World.rangeAt_setCells_apart (by simpa using r1) _ _ _ (Or.inl ne1), World.there_setCells (by simpa using t1) _ _ _⟩) (fail)
  go_end0
  exact ⟨rfl, HS.out⟩

end Go.Proofs.Ytgohpompgiljiaa.Disk
