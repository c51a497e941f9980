/- Walks: the document's area: New, below. -/
import Derived.Test.YtehfclgngkhcpaaRW1
namespace Go.Proofs.Ytehfclgngkhcpaa.Slot
open Go.RowKit
attribute [local go_sem ↓] Go.wp_at_zero Go.wp_at_succ

theorem putL_step {c : List UInt8} {k j : Nat} {t : List UInt8} (h : k + t.length ≤ c.length) (hj : j < t.length) : putL (putL c k (t.take j)) (k + j) [t[j]] = putL c k (t.take (j + 1)) := by
  have h1 : (t.take j).length = j := by rw [List.length_take]; omega
  have h2 : (t.take (j + 1)).length = j + 1 := by rw [List.length_take]; omega
  have l1 : (putL c k (t.take j)).length = c.length := putL_len (by omega)
  apply List.ext_getElem?
  intro i
  rw [putL_at (by rw [l1]; simp; omega), putL_at (by omega), putL_at (by omega)]
  simp only [List.length_singleton, h1, h2]
  by_cases c1 : k ≤ i ∧ i < k + j
  · rw [if_neg (by omega), if_pos c1, if_pos (by omega), List.getElem?_take, List.getElem?_take, if_pos (by omega), if_pos (by omega)]
  · by_cases c2 : i = k + j
    · subst c2
      rw [if_pos (by omega), if_pos (by omega), List.getElem?_take, if_pos (by omega)]
      simp [List.getElem?_eq_getElem hj]
    · rw [if_neg (by omega), if_neg c1, if_neg (by omega)]
theorem data_get (t : ByteArray) {j : Nat} (h : j < t.size) : t.data.toList[j]'(by show j < t.data.size; exact h) = t[j] := rfl

section
variable {w : World} {q : Nat} {a : A} {F : Nat → Prop}
set_option maxRecDepth 100000 in
theorem qnew_no (n : Int) (w : World) (h : sizedB n = false) : Calls Try.prog 27 #[.int .i64 n] w fun e w' => e = .returned (.pointer none) ∧ w = w' := by
  have h' : ¬ (16 ≤ n ∧ n ≤ 4096) := of_decide_eq_false h
  by_cases h1 : n < 16
  · have e1 : decide (n < 16) = true := decide_eq_true h1
    clear h h' h1
    go_enter Try.func27, Try.ntmps27
    go_wp2_with fail
    go_ret
    exact ⟨rfl, rfl⟩
  · have e1 : decide (n < 16) = false := decide_eq_false h1
    have e2 : decide (4096 < n) = true := decide_eq_true (by omega)
    clear h h' h1
    go_enter Try.func27, Try.ntmps27
    go_wp2_with fail
    go_ret
    exact ⟨rfl, rfl⟩
/-- the new area of the document's -/
def newR (w w' : World) (n : Nat) : Prop := Rf w' (w.heap.size + 1) (A.new n) (fun b => w.heap.size ≤ b ∧ b < w'.heap.size) ∧ Below w.heap.size w w'
set_option maxRecDepth 100000 in
set_option maxHeartbeats 1000000 in
theorem qnew_any (n : Nat) (w : World) (h1 : 16 ≤ n) (h2 : n ≤ 4096) : Calls Try.prog 27 #[.int .i64 (n : Int)] w fun e w' => e = .returned (.pointer (some ⟨w.heap.size + 1, 0, none⟩)) ∧ newR w w' n := by
  have hmk := fun W => zeros_make W n (by omega)
  obtain ⟨M, hM⟩ : ∃ M, M = madeCells (Value.int .u8 0).cells n := ⟨_, rfl⟩
  rw [← hM] at hmk
  obtain ⟨W1, hW1⟩ : ∃ W1, W1 = w.alloc (.cells M 5) := ⟨_, rfl⟩
  have hs1 : W1.heap.size = w.heap.size + 1 := by rw [hW1]; simp
  obtain ⟨W2, hW2⟩ : ∃ W2, W2 = W1.alloc (.cells #[.slice (some ⟨w.heap.size, 0, none⟩) n n, .int .i64 (n : Int), .slice none 0 0] 104) := ⟨_, rfl⟩
  have b2 : Below w.heap.size w W2 := by rw [hW2, hW1]; exact ((Below.refl _ _).alloc (Nat.le_refl _) _).alloc (by simp) _
  have hs2 : W2.heap.size = w.heap.size + 2 := by rw [hW2]; simp; omega
  have hA : newR w W2 n := by
    refine ⟨⟨⟨w.heap.size, n, .slice none 0 0, ⟨?_, ?_, ?_, ?_⟩, ?_, ?_, ?_⟩, fun b hb => hb.2⟩, b2⟩
    · rw [hW2, ← hs1]
      show _ = some (Obj.cells #[.slice _ (A.new n).n n, _, _] _ _)
      rw [show (A.new n).n = n by simp [A.new, A.n]]
      exact heap_alloc_new _ _
    · rw [hW2, hW1, hM]
      exact (row_made w n).far (Below.heap_alloc _ _ _ (by simp))
    · rw [show (A.new n).n = n by simp [A.new, A.n]]; exact Nat.le_refl _
    · exact World.ownsRow_nil _ _ _ _
    · exact ⟨by omega, by omega⟩
    · exact ⟨by omega, by omega⟩
    · simp [Value.ownBlock]
  have HE := Lib.hid hA
  have HW1 := Lib.hid hW1
  have HW2 := Lib.hid hW2
  have HS1 := Lib.hid hs1
  have e1 : decide ((n : Int) < 16) = false := decide_eq_false (by omega)
  have e2 : decide (4096 < (n : Int)) = false := decide_eq_false (by omega)
  have e3 : decide (n < 16) = false := decide_eq_false (by omega)
  have e4 : decide (4096 < n) = false := decide_eq_false (by omega)
  clear hM hW1 hW2 hA b2 hs1 hs2
  go_enter Try.func27, Try.ntmps27
  go_wp2_with (first | rw [← HW1.out] | rw [HS1.out] | rw [← HW2.out])
  go_ret
  exact ⟨rfl, HE.out⟩

set_option maxRecDepth 100000 in
set_option maxHeartbeats 4000000 in
theorem qbelow_any (H : Rf w q a F) (t : ByteArray) (ht : t.size ≤ a.low) (hl : a.low ≤ a.n) (hn : a.n ≤ 100000) : Calls Try.prog 94 #[.pointer (some ⟨q, 0, none⟩), .string t] w fun e w' => e = .returned (.agg #[.int .i64 ((a.low - t.size : Nat) : Int), .int .i64 (t.size : Int)]) ∧ (Rf w' q ⟨a.lay t.data.toList, a.low - t.size, a.dir⟩ F ∧ Touch F w w') := by
  have hlt := H.below
  have ba := (Below.refl w.heap.size w).alloc (Nat.le_refl _) (.cells #[.int .i64 0, .int .i64 0] 110)
  obtain ⟨W, hW⟩ : ∃ W, W = w.alloc (.cells #[.int .i64 0, .int .i64 0] 110) := ⟨_, rfl⟩
  have rn : W.heap[w.heap.size]? = some (.cells #[.int .i64 0, .int .i64 0] 110 (0, 0)) := by rw [hW]; exact heap_alloc_new _ _
  rw [← hW] at ba
  have H1 := H.later ba
  have hF : F q := by obtain ⟨_, _, _, _, f1, _⟩ := H.lay; exact f1
  obtain ⟨h, cB, v, L, f1, f2, f3⟩ := H1.lay
  have c1 := L.cell1
  have fz := L.free 1
  have hnb : ¬ F w.heap.size := fun hh => by have := hlt _ hh; omega
  obtain ⟨lo, hlo⟩ : ∃ lo, lo = a.low - t.size := ⟨_, rfl⟩
  have H2 := H1.setLow lo
  have l1 : (a.low : Int) ≤ 100000 := by omega
  have l0 : (0 : Int) ≤ (a.low : Int) := Int.natCast_nonneg _
  have t1 : (t.size : Int) ≤ (a.low : Int) := by omega
  have t0 : (0 : Int) ≤ (t.size : Int) := Int.natCast_nonneg _
  have el : (a.low : Int) - (t.size : Int) = (lo : Int) := by omega
  have lo0 : (0 : Int) ≤ (lo : Int) := Int.natCast_nonneg _
  obtain ⟨W2, hW2⟩ : ∃ W2, W2 = W.setCell ⟨q, 1, none⟩ (.int .i64 (lo : Int)) := ⟨_, rfl⟩
  rw [← hW2] at H2
  have hqn : q ≠ w.heap.size := fun e => hnb (e ▸ hF)
  have rn2 : W2.heap[w.heap.size]? = some (.cells #[.int .i64 0, .int .i64 0] 110 (0, 0)) := (H2.2.block _ (by have := (Array.getElem?_eq_some_iff.1 rn).1; exact this) hnb).trans rn
  have T2 := Lib.hid ((Touch.ofNew ba : Touch F w W).trans' H2.2)
  have c0 : W2.cell? ⟨q, 0, none⟩ = some (.slice (some ⟨h, 0, none⟩) a.n cB) := by
    rw [hW2, World.cell?_setCell_other _ _ _ _ (by simp)]; exact L.cell0
  have hlon : lo + t.size ≤ a.n := by omega
  have H2' := Lib.hid H2.1
  have hno : a.cells.length = a.n := rfl
  have HW := Lib.hid hW
  have HW2 := Lib.hid hW2
  have HLO := Lib.hid hlo
  have HNB := Lib.hid hnb
  have RN2 := Lib.hid rn2
  have HC0 := Lib.hid c0
  have HNN := Lib.hid hn
  rw [← hlo]
  clear rn rn2 H H1 L f1 f2 f3 H2 hW hW2 ba hlo hlt c0 hn hl ht hno hF
  go_enter Try.func94, Try.ntmps94
  go_wp2_with (first | rw [← HW.out] | rw [← HW2.out])
  clear HW HW2 c1 fz el
  go_loopw [5] (fun i wr => ∃ j : Nat, j ≤ t.size ∧ i = .int .i64 j ∧ Rf wr q ⟨putL a.cells lo (t.data.toList.take j), lo, a.dir⟩ F ∧ Touch F w wr ∧ wr.heap[w.heap.size]? = some (.cells #[.int .i64 0, .int .i64 0] 110 (0, 0)) ∧ wr.cell? ⟨q, 0, none⟩ = some (.slice (some ⟨h, 0, none⟩) a.n cB)) (fun i _ => t.size - (intOf i).toNat)
  case atStart => exact ⟨0, by omega, by go_num, by rw [List.take_zero, putL_nil]; exact H2'.out, T2.out, RN2.out, HC0.out⟩
  case round =>
    obtain ⟨j, hj, rfl, hR, hT, hr, hc0⟩ := hrel
    clear H2' T2 RN2 HC0
    have jn : (t.data.toList.take j).length = j := by rw [List.length_take]; show min j t.size = j; omega
    have nl : (putL a.cells lo (t.data.toList.take j)).length = a.n := putL_len (by rw [jn]; show lo + j ≤ a.n; omega)
    by_cases hlt : j < t.size
    · have c1 : wr.cell? ⟨q, 1, none⟩ = some (.int .i64 (lo : Int)) := by obtain ⟨_, _, _, L, _⟩ := hR.lay; exact L.cell1
      have bt := hR.drew'.byte (h := h) (cB := cB) (k := lo + j) (by show wr.cell? _ = some (Value.slice _ (putL a.cells lo (t.data.toList.take j)).length _); rw [nl]; exact hc0) (by show lo + j < (putL a.cells lo (t.data.toList.take j)).length; rw [nl]; omega) t[j]
      obtain ⟨y1, y2, y3, y4, y5⟩ := bt
      have ez := putL_step (c := a.cells) (k := lo) (t := t.data.toList) (by show lo + t.size ≤ a.n; exact hlon) (j := j) hlt
      rw [data_get t hlt] at ez
      have y3' : Rf (wr.drew.setCell ⟨h, lo + j, none⟩ (.int .u8 (t[j].toNat : Int))) q ⟨putL a.cells lo (t.data.toList.take (j + 1)), lo, a.dir⟩ F := by rw [← ez]; exact y3
      have y5' : (wr.drew.setCell ⟨h, lo + j, none⟩ (.int .u8 (t[j].toNat : Int))).cell? ⟨q, 0, none⟩ = some (.slice (some ⟨h, 0, none⟩) a.n cB) := by
        rw [y5]
        show some (Value.slice _ (putL a.cells lo (t.data.toList.take j)).length _) = _
        rw [nl]
      have rn3 := (y4.block _ (by have := (Array.getElem?_eq_some_iff.1 hr).1; exact this) HNB.out).trans hr
      have ci : wr.cell? ⟨h, lo + j, none⟩ = _ := y1
      have fi : wr.frozen? ⟨h, lo + j, none⟩ = false := y2
      have Y3 := Lib.hid y3'
      have Y4 := Lib.hid (hT.drew.trans' y4)
      have Y5 := Lib.hid y5'
      have RN3 := Lib.hid rn3
      have j0 : (0 : Int) ≤ (j : Int) := Int.natCast_nonneg _
      have jl : (lo : Int) + (j : Int) < (a.n : Int) := by omega
      have jl2 : (lo : Int) + (j : Int) ≤ 100000 := by have := HNN.out; omega
      clear y1 y2 y3 y4 y5 y3' y5' ez rn3 hR hT hr nl jn
      go_wp2_with fail
      (refine wp_region_still_tail 14 (by kernel_rfl) (by kernel_rfl) (still_of_quiet _ _ ?_); simp only [List.take_succ_cons, List.take_zero, List.drop_succ_cons, List.drop_zero]; (repeat (first | go_big_quiet_skip | (go_big_quiet_want; go_big_quiet_op; first | go_big_quiet_on | (apply Exists.intro; refine ⟨?_, ?_⟩; (first | fail); go_big_quiet_on)))); refine wpQuiet_nil ?_)
      go_wp2_with fail
      go_roundw
      case rel => exact ⟨j + 1, by omega, by go_num, Y3.out, Y4.out, RN3.out, Y5.out⟩
      case measure => simp [intOf]; omega
    · obtain rfl : j = t.size := by omega
      have c1 : wr.cell? ⟨q, 1, none⟩ = some (.int .i64 (lo : Int)) := by obtain ⟨_, _, _, L, _⟩ := hR.lay; exact L.cell1
      have z0 : wr.cell? ⟨w.heap.size, 0, none⟩ = some (.int .i64 0) := by rw [cell_of_row _ _ _ _ _ _ hr]; rfl
      have z1 : wr.cell? ⟨w.heap.size, 1, none⟩ = some (.int .i64 0) := by rw [cell_of_row _ _ _ _ _ _ hr]; rfl
      have f0 := frozen_of_row wr w.heap.size 0 _ _ hr
      have f1 := frozen_of_row wr w.heap.size 1 _ _ hr
      have hsz := (Array.getElem?_eq_some_iff.1 hr).1
      have et : t.data.toList.take t.size = t.data.toList := List.take_length
      rw [et] at hR
      have hR2 : Rf wr q ⟨a.lay t.data.toList, lo, a.dir⟩ F := by
        unfold A.lay
        rw [show t.data.toList.length = t.size from rfl, ← HLO.out]
        exact hR
      have hT2 : Touch F w ((wr.setCell ⟨w.heap.size, 0, none⟩ (.int .i64 (lo : Int))).setCell ⟨w.heap.size, 1, none⟩ (.int .i64 (t.size : Int))) := (hT.setNew (Nat.le_refl _) _).setNew (Nat.le_refl _) _
      have hR3 : Rf ((wr.setCell ⟨w.heap.size, 0, none⟩ (.int .i64 (lo : Int))).setCell ⟨w.heap.size, 1, none⟩ (.int .i64 (t.size : Int))) q ⟨a.lay t.data.toList, lo, a.dir⟩ F :=
        hR2.far (by simp) fun b hb => by
          have hne : w.heap.size ≠ b := fun e => HNB.out (e ▸ hb)
          rw [heap_setCell_other _ _ _ _ (by exact fun e => hne e.symm), heap_setCell_other _ _ _ _ (by exact fun e => hne e.symm)]
      have HR := Lib.hid hR3
      have HT := Lib.hid hT2
      clear hR hT hr hR2 hT2 hR3 et hc0 nl jn
      go_wp2_with fail
      refine bodyPost_ret (v := .agg #[.int .i64 (lo : Int), .int .i64 (t.size : Int)]) ?_ rfl ⟨rfl, HR.out, HT.out⟩
      simp [results, Try.results94, go_sem, z0, z1]
end

end Go.Proofs.Ytehfclgngkhcpaa.Slot
