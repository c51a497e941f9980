/- Walks: a text stands ahead of the low place; Get; Free. -/
import Derived.Test.YtehfclgngkhcpaaSW2
namespace Go.Proofs.Ytehfclgngkhcpaa.Slot
open Go.RowKit
attribute [local go_sem ↓] Go.wp_at_zero Go.wp_at_succ

section
variable {w : World} {p g c : Nat} {b : List UInt8}
set_option maxRecDepth 100000 in
set_option maxHeartbeats 2000000 in
theorem stand_any (h : Ar w p g c b) (t : ByteArray) (ht : t.size ≤ numL b 2) (hlow : numL b 2 ≤ b.length) :
    Calls Try.prog 80 #[.pointer (some ⟨p, 0, none⟩), .string t] w fun e w' => e = .returned (spotV (numL b 2 - t.size, t.size)) ∧ (Ar w' p g c (standL b t.data.toList) ∧ Touch (both p g) w w') := by
  have hhi := h.hi
  have hlo := h.lo
  have hcap := h.cap
  have hlt := h.below
  have ht0 : t.data.toList.length = t.size := rfl
  have lw := fun W (tt : Below w.heap.size w W) => low_any (h.later tt)
  have LW := Lib.hid lw
  have HA := Lib.hid h
  have sl := fun W => slice_from W (g := g) (n := b.length) (c := c) (k := numL b 2 - t.size) (by omega)
  have hk : numL b 2 - t.size + t.size ≤ b.length := by omega
  have hput : (putL b (numL b 2 - t.size) t.data.toList).length = b.length := putL_len (by omega)
  have hsl : standL b t.data.toList = putL (putL b (numL b 2 - t.size) t.data.toList) 2 (two (numL b 2 - t.size)) := rfl
  have ly := fun W (hh : Ar W p g c (putL b (numL b 2 - t.size) t.data.toList)) => lay_any hh 2 (numL b 2 - t.size) (by omega) (by omega)
  rw [← hsl] at ly
  have LY := Lib.hid ly
  unfold spotV
  have ei : (numL b 2 : Int) - (t.size : Int) = ((numL b 2 - t.size : Nat) : Int) := by omega
  have cpy : ∀ W, Ar W p g c b → ∀ (ops : Array Oper) (rest : List Oper) (o : Oper) (a : Act) (Q : Exit → Act → World → Prop), True := fun _ _ _ _ _ _ _ => trivial
  clear lw ly h ht hsl cpy hput
  obtain ⟨low, hlw⟩ : ∃ low, low = numL b 2 := ⟨_, rfl⟩
  rw [← hlw] at LW sl hk LY hlow ei ⊢
  have hl1 : (low : Int) ≤ 4096 := by omega
  have hl0 : (0 : Int) ≤ (low : Int) := Int.natCast_nonneg _
  have ht1 : (t.size : Int) ≤ (low : Int) := by
    by_cases h : t.size ≤ low
    · omega
    · omega
  have ht2 : (0 : Int) ≤ (t.size : Int) := Int.natCast_nonneg _
  obtain ⟨at_, hat⟩ : ∃ a, a = low - t.size := ⟨_, rfl⟩
  rw [← hat] at sl hk LY ei ⊢
  have EI := Lib.hid ei
  have ha0 : (0 : Int) ≤ (at_ : Int) := Int.natCast_nonneg _
  have ha1 : (at_ : Int) ≤ (b.length : Int) := by omega
  obtain ⟨W2, hW2⟩ : ∃ W2, W2 = (w.alloc (.cells #[.int .i64 0, .int .i64 0] 112)).alloc (.cells #[.int .i64 (at_ : Int), .int .i64 (t.size : Int)] 112) := ⟨_, rfl⟩
  have b1 : Below w.heap.size w (w.alloc (.cells #[.int .i64 0, .int .i64 0] 112)) := (Below.refl _ _).alloc (Nat.le_refl _) _
  have b2 : Below w.heap.size w W2 := by rw [hW2]; exact b1.alloc (by simp) _
  have s1 : (w.alloc (.cells #[.int .i64 0, .int .i64 0] 112)).heap.size = w.heap.size + 1 := by simp
  have s2 : W2.heap.size = w.heap.size + 2 := by rw [hW2]; simp
  have g0 : W2.cell? ⟨w.heap.size + 1, 0, none⟩ = some (.int .i64 (at_ : Int)) := by rw [hW2, cell_of_row _ _ _ _ _ _ (by rw [← s1]; exact heap_alloc_new _ _)]; rfl
  have g1 : W2.cell? ⟨w.heap.size + 1, 1, none⟩ = some (.int .i64 (t.size : Int)) := by rw [hW2, cell_of_row _ _ _ _ _ _ (by rw [← s1]; exact heap_alloc_new _ _)]; rfl
  have A2 := HA.out.later b2
  have c0 := A2.cell0
  have hs2 : w.heap.size + 1 < W2.heap.size := by omega
  have hne : ¬ both p g (w.heap.size + 1) := fun hh => by have := hlt _ hh; omega
  have hne0 : ¬ both p g w.heap.size := fun hh => by have := hlt _ hh; omega
  have HA2 := Lib.hid A2
  have HW2 := Lib.hid hW2
  have B2 := Lib.hid b2
  have r0 : W2.heap[w.heap.size]? = some (.cells #[.int .i64 0, .int .i64 0] 112 (0, 0)) := by rw [hW2, Below.heap_alloc _ _ _ (by simp)]; exact heap_alloc_new _ _
  have r1 : W2.heap[w.heap.size + 1]? = some (.cells #[.int .i64 (at_ : Int), .int .i64 (t.size : Int)] 112 (0, 0)) := by rw [hW2, ← s1]; exact heap_alloc_new _ _
  clear hlw hat ei hW2 A2 b2 HA s1 s2
  go_enter Try.func80, Try.ntmps80
  go_wp2_with fail
  refine (LW.out _ b1).mono ?_
  rintro e w' ⟨rfl, rfl⟩
  clear LW b1
  go_wp2_with fail
  rw [EI.out, ← HW2.out]
  clear HW2 EI
  go_still_tail 8, (by kernel_rfl)
  refine wpList_copy_text (HA2.out.drew).row rfl _ _ rfl at_ t hk hcap rfl rfl ?_
  have p3 := (HA2.out.drew).put (k := at_) (t := t.data.toList) hk
  change wpList _ _ _ _ _ (W2.drew.setCells g at_ (Lib.byteCells t.data.toList))
  generalize W2.drew.setCells g at_ (Lib.byteCells t.data.toList) = W3 at *
  have q0 : W3.heap[w.heap.size]? = some (.cells #[.int .i64 0, .int .i64 0] 112 (0, 0)) := (p3.2.block _ (by show _ < W2.heap.size; omega) hne0).trans r0
  have q1 : W3.heap[w.heap.size + 1]? = some (.cells #[.int .i64 (at_ : Int), .int .i64 (t.size : Int)] 112 (0, 0)) := (p3.2.block _ (by show _ < W2.heap.size; omega) hne).trans r1
  have k0 : W3.cell? ⟨w.heap.size + 1, 0, none⟩ = some (.int .i64 (at_ : Int)) := by rw [cell_of_row _ _ _ _ _ _ q1]; rfl
  have c3 := Lib.hid (LY.out W3 p3.1)
  have T3 := Lib.hid ((Touch.ofNew B2.out : Touch (both p g) w W2).drew.trans' p3.2)
  have R0 := Lib.hid q0
  have R1 := Lib.hid q1
  have hs3 : w.heap.size + 1 < W3.heap.size := (Array.getElem?_eq_some_iff.1 q1).1
  clear p3 q0 q1 r0 r1 g0 g1 c0 HA2 LY B2 sl
  go_wp2_with fail
  refine c3.out.mono ?_
  rintro e W4 ⟨rfl, h4⟩
  have q0 := (h4.2.block _ (by omega) hne0).trans R0.out
  have q1 := (h4.2.block _ (by omega) hne).trans R1.out
  have k0 : W4.cell? ⟨w.heap.size + 1, 0, none⟩ = some (.int .i64 (at_ : Int)) := by rw [cell_of_row _ _ _ _ _ _ q1]; rfl
  have k1 : W4.cell? ⟨w.heap.size + 1, 1, none⟩ = some (.int .i64 (t.size : Int)) := by rw [cell_of_row _ _ _ _ _ _ q1]; rfl
  have z0 : W4.cell? ⟨w.heap.size, 0, none⟩ = some (.int .i64 0) := by rw [cell_of_row _ _ _ _ _ _ q0]; rfl
  have z1 : W4.cell? ⟨w.heap.size, 1, none⟩ = some (.int .i64 0) := by rw [cell_of_row _ _ _ _ _ _ q0]; rfl
  have f0 := frozen_of_row W4 w.heap.size 0 _ _ q0
  have f1 := frozen_of_row W4 w.heap.size 1 _ _ q0
  have H4 := Lib.hid h4
  have hs4 : w.heap.size < W4.heap.size := (Array.getElem?_eq_some_iff.1 q0).1
  clear c3 R0 R1 h4 q0 q1 hs3 hs2
  go_wp2_with fail
  refine bodyPost_ret (v := .agg #[.int .i64 (at_ : Int), .int .i64 (t.size : Int)]) ?_ rfl ⟨rfl, ?_⟩
  · simp [results, Try.results80, go_sem, z0, z1]
  · refine ⟨(H4.out.1.setNew hne0 _).setNew hne0 _, ((T3.out.trans' H4.out.2).setNew (Nat.le_refl _) _).setNew (Nat.le_refl _) _⟩
end

end Go.Proofs.Ytehfclgngkhcpaa.Slot
