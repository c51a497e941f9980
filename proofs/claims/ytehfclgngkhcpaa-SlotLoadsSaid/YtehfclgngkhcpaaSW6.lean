/- Walks: Compact. -/
import Derived.Test.YtehfclgngkhcpaaSW5
namespace Go.Proofs.Ytehfclgngkhcpaa.Slot
open Go.RowKit
attribute [local go_sem ↓] Go.wp_at_zero Go.wp_at_succ

theorem pointL_eq : pointL = pointB := rfl
theorem standL_eq : standL = standB := rfl
theorem spotAt_eq : spotAt = spotB := rfl

/-- what the region of a move reads -/
structure MvH (p q o n x y : Nat) (old : ByteArray) (w : World) : Prop where
  rq : w.heap[q]? = some (.cells #[.pointer (some ⟨p, 0, none⟩)] 50 (0, 0))
  ro : w.heap[o]? = some (.cells #[.string old] 9 (0, 0))
  rn : w.heap[n]? = some (.cells #[.int .i64 (x : Int), .int .i64 (y : Int)] 112 (0, 0))
def MvS (p q o n x y : Nat) (old : ByteArray) (w : World) : Prop := w.cell? ⟨q, 0, none⟩ = some (.pointer (some ⟨p, 0, none⟩)) ∧ w.cell? ⟨o, 0, none⟩ = some (.string old) ∧ w.cell? ⟨n, 0, none⟩ = some (.int .i64 (x : Int)) ∧ w.cell? ⟨n, 1, none⟩ = some (.int .i64 (y : Int))
theorem MvH.gives {p q o n x y : Nat} {old : ByteArray} {w : World} (h : MvH p q o n x y old w) : MvS p q o n x y old w :=
  ⟨by rw [cell_of_row _ _ _ _ _ _ h.rq]; rfl, by rw [cell_of_row _ _ _ _ _ _ h.ro]; rfl, by rw [cell_of_row _ _ _ _ _ _ h.rn]; rfl, by rw [cell_of_row _ _ _ _ _ _ h.rn]; rfl⟩
theorem MvH.later {p q o n x y : Nat} {old : ByteArray} {w w' : World} (h : MvH p q o n x y old w) (t : Below w.heap.size w w') : MvH p q o n x y old w' :=
  ⟨(t.block q (Array.getElem?_eq_some_iff.1 h.rq).1).trans h.rq, (t.block o (Array.getElem?_eq_some_iff.1 h.ro).1).trans h.ro, (t.block n (Array.getElem?_eq_some_iff.1 h.rn).1).trans h.rn⟩
theorem MvH.touch {p q o n x y : Nat} {old : ByteArray} {w w' : World} {G : Nat → Prop} (h : MvH p q o n x y old w) (t : Touch G w w') (hq : ¬ G q) (ho : ¬ G o) (hn : ¬ G n) : MvH p q o n x y old w' :=
  ⟨(t.block q (Array.getElem?_eq_some_iff.1 h.rq).1 hq).trans h.rq, (t.block o (Array.getElem?_eq_some_iff.1 h.ro).1 ho).trans h.ro, (t.block n (Array.getElem?_eq_some_iff.1 h.rn).1 hn).trans h.rn⟩

section
variable {w : World} {p g c : Nat} {b : List UInt8}
/-- what a text that is moved leaves -/
def moveB (b : List UInt8) (i : Nat) (t : List UInt8) : List UInt8 := pointB (standB b t) i (numL b 2 - t.length, t.length)
set_option maxRecDepth 100000 in
set_option maxHeartbeats 2000000 in
theorem move_any (h : Ar w p g c b) {q o : Nat} {old : ByteArray} (hq : w.heap[q]? = some (.cells #[.pointer (some ⟨p, 0, none⟩)] 50 (0, 0))) (ho : w.heap[o]? = some (.cells #[.string old] 9 (0, 0)))
    {i x y : Nat} (hi : 8 + 4 * i ≤ b.length) (hx : spotAt b i = (x, y)) (hxy : x + y ≤ old.size) (hos : old.size ≤ 4096) (hy : y ≤ numL b 2) (hl : numL b 2 ≤ b.length) {t : ByteArray} (ht : t = old.extract x (x + y)) (hts : t.size = y) (hi2 : 8 + 4 * i ≤ (standB b t.data.toList).length) :
    Calls Try.prog 83 #[.int .i64 (i : Int), .pointer (some ⟨q, 0, none⟩), .pointer (some ⟨o, 0, none⟩)] w fun e w' => e = .returned (.tuple #[]) ∧ (Ar w' p g c (moveB b i t.data.toList) ∧ Touch (both p g) w w') := by
  have hhi := h.hi
  have hlt := h.below
  have hqp : ¬ both p g q := by
    rintro (rfl | rfl)
    · have := h.head.symm.trans hq; simp at this
    · obtain ⟨cur, m, k1, k2, k3, k4⟩ := h.row
      have := k1.symm.trans hq
      simp at this
  have hop : ¬ both p g o := by
    rintro (rfl | rfl)
    · have := h.head.symm.trans ho; simp at this
    · obtain ⟨cur, m, k1, k2, k3, k4⟩ := h.row
      have := k1.symm.trans ho
      simp at this
  have hqs := (Array.getElem?_eq_some_iff.1 hq).1
  have hoz := (Array.getElem?_eq_some_iff.1 ho).1
  have q0 : w.cell? ⟨q, 0, none⟩ = some (.pointer (some ⟨p, 0, none⟩)) := by rw [cell_of_row _ _ _ _ _ _ hq]; rfl
  have sp := spot_any h i hi
  rw [hx] at sp
  unfold spotV at sp
  simp only at sp
  have SP := Lib.hid sp
  have se := fun W => spot_end x y W (by omega) (by omega)
  obtain ⟨z, hz⟩ : ∃ z : Int, z = ((x + y : Nat) : Int) := ⟨_, rfl⟩
  rw [← hz] at se
  have z0 : (0 : Int) ≤ z := by omega
  have z1 : z ≤ (old.size : Int) := by omega
  have z2 : (x : Int) ≤ z := by omega
  have hzt : z.toNat = x + y := by omega
  have SE := Lib.hid se
  have st := fun W (hh : Ar W p g c b) => stand_any hh t (by rw [hts]; exact hy) hl
  rw [hts] at st
  unfold spotV at st
  simp only at st
  have ST := Lib.hid st
  obtain ⟨v, hv⟩ : ∃ v, v = numL b 2 - y := ⟨_, rfl⟩
  rw [← hv] at ST
  have pt := fun W (hh : Ar W p g c (standL b t.data.toList)) => point_any hh i hi2 v y (by omega) (by omega)
  have hm : pointL (standL b t.data.toList) i (v, y) = moveB b i t.data.toList := by
    unfold moveB
    rw [hv, show t.data.toList.length = y from hts]
    rfl
  rw [hm] at pt
  have PT := Lib.hid pt
  have HA := Lib.hid h
  have HZ := Lib.hid hz
  have HZT := Lib.hid hzt
  have HT := Lib.hid ht
  have HQ := Lib.hid hq
  have HO := Lib.hid ho
  clear h hi hx hl ht hts hi2 sp se st hv pt hm hq ho hz hzt hy
  go_enter Try.func83, Try.ntmps83
  go_wp2_with fail
  refine SP.out.mono ?_
  rintro e w1 ⟨rfl, b1⟩
  go_wp2_with fail
  have b2 : Below w.heap.size w (w1.alloc (.cells #[.int .i64 (x : Int), .int .i64 (y : Int)] 112)) := b1.alloc b1.size _
  have A2 := HA.out.later b2
  have M2 : MvH p q o w1.heap.size x y old (w1.alloc (.cells #[.int .i64 (x : Int), .int .i64 (y : Int)] 112)) := ⟨(b2.block q hqs).trans HQ.out, (b2.block o hoz).trans HO.out, heap_alloc_new _ _⟩
  have hnp : ¬ both p g w1.heap.size := fun hh => by have := hlt _ hh; have := b1.size; omega
  have B2 := Lib.hid b2
  have HA2 := Lib.hid A2
  have HM2 := Lib.hid M2
  clear b1 b2 A2 M2 HA HQ HO SP q0 hqs hoz hlt
  generalize w1.alloc (.cells #[.int .i64 (x : Int), .int .i64 (y : Int)] 112) = W at *
  generalize w1.heap.size = n at *
  have hex : old.extract x z.toNat = t := by rw [HZT.out, HT.out]
  go_region_held3 (fun w' => w'.cell? ⟨q, 0, none⟩ = some (.pointer (some ⟨p, 0, none⟩)) ∧ w'.cell? ⟨o, 0, none⟩ = some (.string old) ∧ w'.cell? ⟨n, 0, none⟩ = some (.int .i64 (x : Int)) ∧ w'.cell? ⟨n, 1, none⟩ = some (.int .i64 (y : Int)))
    (first | exact (HM2.out.later ((Below.refl _ _).drew)).gives | exact ((HM2.out.later ((Below.refl _ _).drew)).later hb).gives | exact ((((HM2.out.later ((Below.refl _ _).drew)).later hb).touch hs.2 hqp hop hnp)).gives | exact ((((HM2.out.later ((Below.refl _ _).drew)).later hb).touch hs.2 hqp hop hnp).touch hp.2 hqp hop hnp).gives)
    (first | (go_at_call 84; refine Calls.mono (SE.out _) ?_; rintro e w' ⟨rfl, hb⟩) | (go_at_call 80; refine Calls.mono (ST.out _ ((HA2.out.later ((Below.refl _ _).drew)).later hb)) ?_; rintro e w' ⟨rfl, hs⟩) | (go_at_call 79; refine Calls.mono (PT.out _ hs.1) ?_; rintro e w' ⟨rfl, hp⟩))
  have HE := Lib.hid (show Touch (both p g) w _ from (((Touch.ofNew B2.out : Touch (both p g) w W).drew.trans' (Touch.ofNew hb)).trans' hs.2).trans' hp.2)
  have HP := Lib.hid hp.1
  clear hb hs hp
  go_end0
  exact ⟨rfl, HP.out, HE.out⟩
end

end Go.Proofs.Ytehfclgngkhcpaa.Slot
