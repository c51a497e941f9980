/- Walks: where texts stand; how many bytes are free; Get. -/
import Derived.Test.YtehfclgngkhcpaaSW1
namespace Go.Proofs.Ytehfclgngkhcpaa.Slot
open Go.RowKit
attribute [local go_sem ↓] Go.wp_at_zero Go.wp_at_succ

/-- what the directory tells -/
def spotAt (b : List UInt8) (i : Nat) : Nat × Nat := (numL b (4 + 4 * i), numL b (6 + 4 * i))
def spotV (x : Nat × Nat) : Value := .agg #[.int .i64 (x.1 : Int), .int .i64 (x.2 : Int)]
theorem num_bd (b : List UInt8) (k : Nat) : (0 : Int) ≤ (numL b k : Int) ∧ (numL b k : Int) ≤ 65535 := by
  have := num_lt b k
  omega

section
variable {w : World} {p g c : Nat} {b : List UInt8}
set_option maxRecDepth 100000 in
set_option maxHeartbeats 1000000 in
theorem spot_any (h : Ar w p g c b) (i : Nat) (hi : 8 + 4 * i ≤ b.length) :
    Calls Try.prog 78 #[.pointer (some ⟨p, 0, none⟩), .int .i64 (i : Int)] w fun e w' => e = .returned (spotV (spotAt b i)) ∧ Below w.heap.size w w' := by
  have hhi := h.hi
  have ba := (Below.refl w.heap.size w).alloc (Nat.le_refl _) (.cells #[.int .i64 0, .int .i64 0] 112)
  have hA := h.later ba
  have pl := Lib.hid (place_any i (w.alloc (.cells #[.int .i64 0, .int .i64 0] 112)) (by omega))
  have n1 := Lib.hid (number_any hA (4 + 4 * i) (by omega))
  have n2 := number_any hA (6 + 4 * i) (by omega)
  rw [show ((6 + 4 * i : Nat) : Int) = ((4 + 4 * i : Nat) : Int) + 2 by omega] at n2
  have N2 := Lib.hid n2
  have b0 : (0 : Int) ≤ ((4 + 4 * i : Nat) : Int) := Int.natCast_nonneg _
  have b1 : ((4 + 4 * i : Nat) : Int) ≤ 5000 := by omega
  unfold spotV spotAt
  clear h hA hi n2 ba
  generalize ((4 + 4 * i : Nat) : Int) = k at *
  obtain ⟨x, hx⟩ : ∃ x, x = numL b (4 + 4 * i) := ⟨_, rfl⟩
  obtain ⟨y, hy⟩ : ∃ y, y = numL b (6 + 4 * i) := ⟨_, rfl⟩
  rw [← hx] at n1 ⊢
  rw [← hy] at N2 ⊢
  clear hx hy
  go_enter Try.func78, Try.ntmps78
  go_wp2_with fail
  refine pl.out.mono ?_
  rintro e w' ⟨rfl, rfl⟩
  go_wp2_with fail
  refine n1.out.mono ?_
  rintro e w' ⟨rfl, rfl⟩
  go_wp2_with fail
  refine N2.out.mono ?_
  rintro e w' ⟨rfl, rfl⟩
  go_wp2_with fail
  exact bodyPost_ret (v := .agg #[.int .i64 (x : Int), .int .i64 (y : Int)]) (by simp [results, Try.results78, go_sem]) rfl ⟨rfl, by
    exact (Below.refl _ _).alloc (Nat.le_refl _) _⟩

set_option maxRecDepth 100000 in
theorem spot_end (x y : Nat) (w : World) (hx : x ≤ 1000000) (hy : y ≤ 1000000) : Calls Try.prog 84 #[.agg #[.int .i64 (x : Int), .int .i64 (y : Int)]] w fun e w' => e = .returned (.int .i64 ((x + y : Nat) : Int)) ∧ Below w.heap.size w w' := by
  go_enter Try.func84, Try.ntmps84
  go_wp2
  go_ret
  exact ⟨ret_int (by omega), (Below.refl _ _).alloc (Nat.le_refl _) _⟩

/-- what 'point' leaves -/
def pointL (b : List UInt8) (i : Nat) (x : Nat × Nat) : List UInt8 := putL (putL b (4 + 4 * i) (two x.1)) (6 + 4 * i) (two x.2)
theorem pointL_len {b : List UInt8} {i : Nat} {x : Nat × Nat} (hi : 8 + 4 * i ≤ b.length) : (pointL b i x).length = b.length := by
  unfold pointL
  have h1 : (putL b (4 + 4 * i) (two x.1)).length = b.length := putL_len (by rw [two_len]; omega)
  rw [putL_len (by rw [two_len, h1]; omega), h1]
set_option maxRecDepth 100000 in
set_option maxHeartbeats 1000000 in
theorem point_any (h : Ar w p g c b) (i : Nat) (hi : 8 + 4 * i ≤ b.length) (x y : Nat) (hx : x < 65536) (hy : y < 65536) :
    Calls Try.prog 79 #[.pointer (some ⟨p, 0, none⟩), .int .i64 (i : Int), .agg #[.int .i64 (x : Int), .int .i64 (y : Int)]] w fun e w' => e = .returned (.tuple #[]) ∧ (Ar w' p g c (pointL b i (x, y)) ∧ Touch (both p g) w w') := by
  have hhi := h.hi
  have hlt := h.below
  have ba := (Below.refl w.heap.size w).alloc (Nat.le_refl _) (.cells #[.int .i64 (x : Int), .int .i64 (y : Int)] 112)
  obtain ⟨W, hW⟩ : ∃ W, W = w.alloc (.cells #[.int .i64 (x : Int), .int .i64 (y : Int)] 112) := ⟨_, rfl⟩
  have g0 : W.cell? ⟨w.heap.size, 0, none⟩ = some (.int .i64 (x : Int)) := by rw [hW, cell_of_row _ _ _ _ _ _ (heap_alloc_new w _)]; rfl
  have g1 : W.cell? ⟨w.heap.size, 1, none⟩ = some (.int .i64 (y : Int)) := by rw [hW, cell_of_row _ _ _ _ _ _ (heap_alloc_new w _)]; rfl
  have hsz : w.heap.size < W.heap.size := by rw [hW]; simp
  rw [← hW] at ba
  have hA := h.later ba
  have pl := Lib.hid (place_any i W (by omega))
  have l1 := Lib.hid (lay_any hA (4 + 4 * i) x (by omega) hx)
  have hne : ¬ both p g w.heap.size := fun hh => by have := hlt _ hh; omega
  have BA := Lib.hid ba
  have e6 : ((6 + 4 * i : Nat) : Int) = ((4 + 4 * i : Nat) : Int) + 2 := by omega
  have b0 : (0 : Int) ≤ ((4 + 4 * i : Nat) : Int) := Int.natCast_nonneg _
  have b1 : ((4 + 4 * i : Nat) : Int) ≤ 5000 := by omega
  have l2 : ∀ W', Ar W' p g c (putL b (4 + 4 * i) (two x)) → Calls Try.prog 63 #[.pointer (some ⟨p, 0, none⟩), .int .i64 (((4 + 4 * i : Nat) : Int) + 2), .int .i64 (y : Int)] W' fun e w' => e = .returned (.tuple #[]) ∧ (Ar w' p g c (pointL b i (x, y)) ∧ Touch (both p g) W' w') := fun W' hh => by
    have := lay_any hh (6 + 4 * i) y (by rw [putL_len (by rw [two_len]; omega)]; omega) hy
    rw [e6] at this
    exact this
  have L2 := Lib.hid l2
  clear h hA hlt l2 hi ba e6
  generalize ((4 + 4 * i : Nat) : Int) = k at *
  generalize pointL b i (x, y) = b2 at *
  generalize putL b (4 + 4 * i) (two x) = bb at *
  go_enter Try.func79, Try.ntmps79
  go_wp2_with (rw [← hW])
  clear hW
  refine pl.out.mono ?_
  rintro e w' ⟨rfl, rfl⟩
  go_wp2_with fail
  refine l1.out.mono ?_
  rintro e w1 ⟨rfl, h1⟩
  have g2 : w1.cell? ⟨w.heap.size, 1, none⟩ = some (.int .i64 (y : Int)) := (World.cell?_of_block (h1.2.block _ hsz hne)).trans g1
  have L3 := Lib.hid (L2.out _ h1.1)
  have T := Lib.hid h1.2
  clear h1 L2 g0 g1 l1 pl
  go_wp2_with fail
  refine L3.out.mono ?_
  rintro e w2 ⟨rfl, h2⟩
  have HE := Lib.hid (show Ar w2 p g c b2 ∧ Touch (both p g) w w2 from ⟨h2.1, (Touch.ofNew BA.out).trans' (T.out.trans' h2.2)⟩)
  clear h2 L3 T
  go_wp2_with fail
  go_end0
  exact ⟨rfl, HE.out⟩

/-- what 'stand' leaves -/
def standL (b : List UInt8) (t : List UInt8) : List UInt8 := putL (putL b (numL b 2 - t.length) t) 2 (two (numL b 2 - t.length))
end

end Go.Proofs.Ytehfclgngkhcpaa.Slot
