/- Walks: the document's Set. -/
import Derived.Test.YtehfclgngkhcpaaRW6
namespace Go.Proofs.Ytehfclgngkhcpaa.Slot
open Go.RowKit
attribute [local go_sem ↓] Go.wp_at_zero Go.wp_at_succ

section
variable {w : World} {q : Nat} {a : A} {F : Nat → Prop}
set_option maxRecDepth 100000 in
theorem qset_no (H : Rf w q a F) (i : Int) (t : ByteArray) (hi : ¬ hasP a i) : Calls Try.prog 68 #[.pointer (some ⟨q, 0, none⟩), .int .i64 i, .string t] w fun e w' => e = .returned (.int .i64 3) ∧ w = w' := by
  obtain ⟨ad, cap, c2⟩ := H.len_cell
  unfold hasP at hi
  by_cases h0 : i < 0
  · have e1 : decide (i < 0) = true := decide_eq_true h0
    clear h0 hi H
    go_enter Try.func68, Try.ntmps68
    go_wp2_with fail
    go_ret
    exact ⟨rfl, rfl⟩
  · have e1 : decide (i < 0) = false := decide_eq_false h0
    have e2 : decide ((a.dir.length : Int) ≤ i) = true := decide_eq_true (by omega)
    clear h0 hi H
    go_enter Try.func68, Try.ntmps68
    go_wp2_with fail
    go_ret
    exact ⟨rfl, rfl⟩

/-- a place that was read, in a block of the call's own -/
structure PR (n x y : Nat) (w : World) : Prop where
  row : w.heap[n]? = some (.cells #[.int .i64 (x : Int), .int .i64 (y : Int)] 110 (0, 0))
theorem PR.g0 {n x y : Nat} {w : World} (h : PR n x y w) : w.cell? ⟨n, 0, none⟩ = some (.int .i64 (x : Int)) := by rw [cell_of_row _ _ _ _ _ _ h.row]; rfl
theorem PR.g1 {n x y : Nat} {w : World} (h : PR n x y w) : w.cell? ⟨n, 1, none⟩ = some (.int .i64 (y : Int)) := by rw [cell_of_row _ _ _ _ _ _ h.row]; rfl
theorem PR.fz {n x y : Nat} {w : World} (h : PR n x y w) (j : Nat) : w.frozen? ⟨n, j, none⟩ = false := frozen_of_row _ _ _ _ _ h.row
theorem PR.lt {n x y : Nat} {w : World} (h : PR n x y w) : n < w.heap.size := (Array.getElem?_eq_some_iff.1 h.row).1
theorem PR.touch {n x y : Nat} {w w' : World} {G : Nat → Prop} (h : PR n x y w) (t : Touch G w w') (hn : ¬ G n) : PR n x y w' := ⟨(t.block n h.lt hn).trans h.row⟩
theorem PR.later {n x y : Nat} {w w' : World} (h : PR n x y w) (t : Below w.heap.size w w') : PR n x y w' := ⟨(t.block n h.lt).trans h.row⟩
theorem PR.set1 {n x y : Nat} {w : World} (h : PR n x y w) (z : Nat) : PR n x z (w.setCell ⟨n, 1, none⟩ (.int .i64 (z : Int))) := ⟨by rw [heap_setCell_same w n 1 _ _ _ h.row]; rfl⟩
theorem Rf.setOut (H : Rf w q a F) {x : Addr} (hx : ¬ F x.block) (u : Value) : Rf (w.setCell x u) q a F := H.far (by simp) fun b hb => heap_setCell_other _ _ _ _ fun e => hx (e ▸ hb)

set_option maxRecDepth 100000 in
set_option maxHeartbeats 8000000 in
theorem qset_in (hk : a.ok) (H : Rf w q a F) (k : Nat) (t : ByteArray) (hi : k < a.dir.length) (hs : t.size ≤ (a.at k).2) :
    Calls Try.prog 68 #[.pointer (some ⟨q, 0, none⟩), .int .i64 (k : Int), .string t] w fun e w' => e = .returned (.int .i64 0) ∧ (Rf w' q (a.inPlace k t.data.toList) F ∧ Touch F w w') := by
  have hlt := H.below
  have he := hk.each k hi
  have hn40 := hk.hi
  have hfin := hk.fin
  have hlow := hk.low
  unfold A.fin at hfin
  have htl : t.data.toList.length = t.size := rfl
  obtain ⟨ad, cap, c2⟩ := H.len_cell
  obtain ⟨h, cB, c0⟩ := H.cell0
  obtain ⟨gd, rfl, d1, d2, d3, d4, dF, dq, _, _⟩ := H.dirAt c2 hi (0, 0)
  have hip : a.inPlace k t.data.toList = ⟨putL a.cells (a.at k).1 t.data.toList, a.low, a.dir.set k ((a.at k).1, t.size)⟩ := rfl
  obtain ⟨x, hx⟩ : ∃ x, x = (a.at k).1 := ⟨_, rfl⟩
  obtain ⟨y, hy⟩ : ∃ y, y = (a.at k).2 := ⟨_, rfl⟩
  rw [← hx] at d1 he hip
  rw [← hy] at d2 he hs
  obtain ⟨W, hW⟩ : ∃ W, W = w.alloc (.cells #[.int .i64 (x : Int), .int .i64 (y : Int)] 110) := ⟨_, rfl⟩
  have ba : Below w.heap.size w W := by rw [hW]; exact (Below.refl _ _).alloc (Nat.le_refl _) _
  have rn : PR w.heap.size x y W := ⟨by rw [hW]; exact heap_alloc_new _ _⟩
  have hnb : ¬ F w.heap.size := fun hh => by have := hlt _ hh; omega
  have HR1 := Lib.hid (H.later ba)
  have HT1 := Lib.hid (Touch.ofNew ba : Touch F w W)
  have RN := Lib.hid rn
  have HIP := Lib.hid hip
  have HNB := Lib.hid hnb
  have HW := Lib.hid hW
  have HX := Lib.hid (show x + t.size ≤ a.n by omega)
  have HI := Lib.hid hi
  have C01 := Lib.hid ((ba.cell (p := ⟨q, 0, none⟩) H.lt).trans c0)
  have e0 : decide ((k : Int) < 0) = false := decide_eq_false (by omega)
  have e1 : decide ((a.dir.length : Int) ≤ (k : Int)) = false := decide_eq_false (by omega)
  have e1' : decide (a.dir.length ≤ k) = false := decide_eq_false (by omega)
  have e2 : decide ((t.size : Int) ≤ (y : Int)) = true := decide_eq_true (by omega)
  have e3 : decide (t.size ≤ y) = true := decide_eq_true hs
  have k0 : (k : Int) ≤ 2000 := by omega
  have k1 : (0 : Int) ≤ (k : Int) := Int.natCast_nonneg _
  have k2 : (k : Int) < (a.dir.length : Int) := by omega
  have t0 : (t.size : Int) ≤ 5000 := by omega
  have t1 : (0 : Int) ≤ (t.size : Int) := Int.natCast_nonneg _
  have x0 : (0 : Int) ≤ (x : Int) := Int.natCast_nonneg _
  have x1 : (x : Int) + (t.size : Int) ≤ (a.n : Int) := by omega
  have x2 : (a.n : Int) ≤ 4096 := by omega
  have g0 := rn.g0
  have g1 := rn.g1
  clear hx hy he hn40 hfin hlow hip hW hnb rn hk H hlt htl ba hs d3 d4 dF c0
  go_enter Try.func68, Try.ntmps68
  go_wp2_with (rw [← HW.out])
  clear g0 g1 d1 d2 c2
  go_loopw [8] (fun i wr => ∃ j : Nat, j ≤ t.size ∧ i = .int .i64 j ∧ Rf wr q ⟨putL a.cells x (t.data.toList.take j), a.low, a.dir⟩ F ∧ Touch F w wr ∧ PR w.heap.size x y wr ∧ wr.cell? ⟨q, 0, none⟩ = some (.slice (some ⟨h, 0, none⟩) a.n cB)) (fun i _ => t.size - (intOf i).toNat)
  case atStart => exact ⟨0, by omega, by go_num, by rw [List.take_zero, putL_nil]; exact HR1.out, HT1.out, RN.out, C01.out⟩
  case round =>
    obtain ⟨j, hj, rfl, hR, hT, hr, hc0⟩ := hrel
    clear HR1 HT1 RN C01
    have jn : (t.data.toList.take j).length = j := by rw [List.length_take]; show min j t.size = j; omega
    have hxt := HX.out
    have nl : (putL a.cells x (t.data.toList.take j)).length = a.n := putL_len (by rw [jn]; show x + j ≤ a.n; omega)
    by_cases hlt : j < t.size
    · have bt := hR.drew'.byte (h := h) (cB := cB) (k := x + j) (by show wr.cell? _ = some (Value.slice _ (putL a.cells x (t.data.toList.take j)).length _); rw [nl]; exact hc0) (by show x + j < (putL a.cells x (t.data.toList.take j)).length; rw [nl]; omega) t[j]
      obtain ⟨y1, y2, y3, y4, y5⟩ := bt
      have ez := putL_step (c := a.cells) (k := x) (t := t.data.toList) (by show x + t.size ≤ a.n; exact hxt) (j := j) hlt
      rw [data_get t hlt] at ez
      have y3' : Rf (wr.drew.setCell ⟨h, x + j, none⟩ (.int .u8 (t[j].toNat : Int))) q ⟨putL a.cells x (t.data.toList.take (j + 1)), a.low, a.dir⟩ F := by rw [← ez]; exact y3
      have y5' : (wr.drew.setCell ⟨h, x + j, none⟩ (.int .u8 (t[j].toNat : Int))).cell? ⟨q, 0, none⟩ = some (.slice (some ⟨h, 0, none⟩) a.n cB) := by
        rw [y5]
        show some (Value.slice _ (putL a.cells x (t.data.toList.take j)).length _) = _
        rw [nl]
      have ci : wr.cell? ⟨h, x + j, none⟩ = _ := y1
      have fi : wr.frozen? ⟨h, x + j, none⟩ = false := y2
      have Y3 := Lib.hid y3'
      have Y4 := Lib.hid (hT.drew.trans' y4)
      have Y5 := Lib.hid y5'
      have RN3 := Lib.hid ((hr.later ((Below.refl _ _).drew)).touch y4 HNB.out)
      have g0 := hr.g0
      have g1 := hr.g1
      have j0 : (0 : Int) ≤ (j : Int) := Int.natCast_nonneg _
      have j1 : (j : Int) < (t.size : Int) := by omega
      clear y1 y2 y3 y4 y5 y3' y5' ez hR hT hr nl jn hxt
      go_wp2_with fail
      (refine wp_region_still_tail 12 (by kernel_rfl) (by kernel_rfl) (still_of_quiet _ _ ?_); simp only [List.take_succ_cons, List.take_zero, List.drop_succ_cons, List.drop_zero]; (repeat (first | go_big_quiet_skip | (go_big_quiet_want; go_big_quiet_op; first | go_big_quiet_on | (apply Exists.intro; refine ⟨?_, ?_⟩; (first | fail); go_big_quiet_on)))); refine wpQuiet_nil ?_)
      go_wp2_with fail
      go_roundw
      case rel => exact ⟨j + 1, by omega, by go_num, Y3.out, Y4.out, RN3.out, Y5.out⟩
      case measure => simp [intOf]; omega
    · obtain rfl : j = t.size := by omega
      rw [show t.data.toList.take t.size = t.data.toList from List.take_length] at hR
      have rn5 := hr.set1 t.size
      have hR5 := hR.setOut (x := ⟨w.heap.size, 1, none⟩) HNB.out (.int .i64 (t.size : Int))
      have hT5 := hT.setNew (x := ⟨w.heap.size, 1, none⟩) (Nat.le_refl _) (.int .i64 (t.size : Int))
      have g1 := hr.g1
      have fz1 := hr.fz 1
      obtain ⟨ad6, cap6, c26⟩ := hR5.len_cell
      obtain ⟨gd6, rfl, d1, d2, d3, d4, dF, dq6, dR, dT⟩ := hR5.drew'.dirAt (ad := ad6) (cap := cap6) c26 (k := k) HI.out (x, t.size)
      obtain ⟨W5, hW5⟩ : ∃ W5, W5 = wr.setCell ⟨w.heap.size, 1, none⟩ (.int .i64 (t.size : Int)) := ⟨_, rfl⟩
      rw [← hW5] at rn5 c26 d1 d2 d3 d4 dR dT hT5
      have HE := Lib.hid (show Rf _ q (a.inPlace k t.data.toList) F ∧ Touch F w _ from ⟨by rw [HIP.out]; exact dR, hT5.drew.trans' dT⟩)
      have h0 := rn5.g0
      have h1 := rn5.g1
      have c26' : W5.cell? ⟨q, 2, none⟩ = some (.slice (some ⟨gd6, 0, none⟩) a.dir.length cap6) := c26
      have d1' : W5.cell? ⟨gd6, k * 2, none⟩ = _ := d1
      have d2' : W5.cell? ⟨gd6, k * 2 + 1, none⟩ = _ := d2
      have d3' : W5.frozen? ⟨gd6, k * 2, none⟩ = false := d3
      have d4' : W5.frozen? ⟨gd6, k * 2 + 1, none⟩ = false := d4
      have HW5 := Lib.hid hW5
      clear hR hT hr nl jn rn5 hR5 hT5 c26 d1 d2 d3 d4 dR dT hW5 hc0 hxt
      go_wp2_with (rw [← HW5.out])
      (refine wp_region_still_tail 7 (by kernel_rfl) (by kernel_rfl) (still_of_quiet _ _ ?_); simp only [List.take_succ_cons, List.take_zero, List.drop_succ_cons, List.drop_zero]; (repeat (first | go_big_quiet_skip | (go_big_quiet_want; go_big_quiet_op; first | go_big_quiet_on | (apply Exists.intro; refine ⟨?_, ?_⟩; (first | fail); go_big_quiet_on)))); refine wpQuiet_nil ?_)
      go_wp2_with fail
      go_ret
      exact ⟨rfl, HE.out⟩

set_option maxRecDepth 100000 in
set_option maxHeartbeats 4000000 in
theorem qset_full (hk : a.ok) (H : Rf w q a F) (k : Nat) (t : ByteArray) (ht : t.size ≤ 281474976710656) (hi : k < a.dir.length) (hs : (a.at k).2 < t.size) (hf : a.free < t.size - (a.at k).2) :
    Calls Try.prog 68 #[.pointer (some ⟨q, 0, none⟩), .int .i64 (k : Int), .string t] w fun e w' => e = .returned (.int .i64 4) ∧ Below w.heap.size w w' := by
  have he := hk.each k hi
  have hn40 := hk.hi
  have hfin := hk.fin
  have hlow := hk.low
  unfold A.fin at hfin
  have fr := Lib.hid (fun W (tt : Below w.heap.size w W) => qfree_is hk (H.later tt))
  obtain ⟨ad, cap, c2⟩ := H.len_cell
  obtain ⟨gd, rfl, d1, d2, _⟩ := H.dirAt c2 hi (0, 0)
  obtain ⟨x, hx⟩ : ∃ x, x = (a.at k).1 := ⟨_, rfl⟩
  obtain ⟨y, hy⟩ : ∃ y, y = (a.at k).2 := ⟨_, rfl⟩
  rw [← hx] at d1 he
  rw [← hy] at d2 he hs hf
  obtain ⟨W, hW⟩ : ∃ W, W = w.alloc (.cells #[.int .i64 (x : Int), .int .i64 (y : Int)] 110) := ⟨_, rfl⟩
  have ba : Below w.heap.size w W := by rw [hW]; exact (Below.refl _ _).alloc (Nat.le_refl _) _
  have rn : PR w.heap.size x y W := ⟨by rw [hW]; exact heap_alloc_new _ _⟩
  have RN := Lib.hid rn
  have B2 := Lib.hid ba
  have HW := Lib.hid hW
  have g0 := rn.g0
  have g1 := rn.g1
  have e0 : decide ((k : Int) < 0) = false := decide_eq_false (by omega)
  have e1 : decide ((a.dir.length : Int) ≤ (k : Int)) = false := decide_eq_false (by omega)
  have e1' : decide (a.dir.length ≤ k) = false := decide_eq_false (by omega)
  have k0 : (k : Int) ≤ 2000 := by omega
  have k1 : (0 : Int) ≤ (k : Int) := Int.natCast_nonneg _
  have k2 : (k : Int) < (a.dir.length : Int) := by omega
  have ht4 : (t.size : Int) ≤ 281474976710656 := by omega
  have ht0 : (0 : Int) ≤ (t.size : Int) := Int.natCast_nonneg _
  have hy0 : (0 : Int) ≤ (y : Int) := Int.natCast_nonneg _
  have hy1 : (y : Int) ≤ 5000 := by omega
  have hd : decide ((t.size : Int) ≤ (y : Int)) = false := decide_eq_false (by omega)
  have hd2 : decide (t.size ≤ y) = false := decide_eq_false (by omega)
  have hd3 : decide ((a.free : Int) < (t.size : Int) - (y : Int)) = true := decide_eq_true (by omega)
  have hw := wrap_sub ht0 ht4 hy0 (by omega)
  clear hx hy he hn40 hfin hlow hW rn ba hk H hs hf hi
  go_enter Try.func68, Try.ntmps68
  go_wp2_with (rw [← HW.out])
  clear HW
  go_region_held3 (fun w' => w'.cell? ⟨w.heap.size, 1, none⟩ = some (.int .i64 (y : Int)))
    (first | exact (RN.out.later ((Below.refl _ _).drew)).g1 | exact ((RN.out.later ((Below.refl _ _).drew)).later hb).g1)
    (first | (go_at_call 73; refine Calls.mono (fr.out _ B2.out.drew) ?_; rintro e w' ⟨rfl, hb⟩))
  have HE := Lib.hid (B2.out.drew.trans (hb.mono B2.out.drew.size))
  clear hb B2 RN fr
  go_wp2_with fail
  go_ret
  exact ⟨rfl, HE.out⟩
end

end Go.Proofs.Ytehfclgngkhcpaa.Slot
