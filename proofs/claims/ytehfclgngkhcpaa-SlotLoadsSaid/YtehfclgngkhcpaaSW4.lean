/- Walks: Get; Free. -/
import Derived.Test.YtehfclgngkhcpaaSW3
namespace Go.Proofs.Ytehfclgngkhcpaa.Slot
open Go.RowKit
attribute [local go_sem ↓] Go.wp_at_zero Go.wp_at_succ

/-- what the region of Get reads -/
def GetS (p g c n len : Nat) (x y : Nat) (s : ByteArray) (w : World) : Prop := w.cell? ⟨p, 0, none⟩ = some (.slice (some ⟨g, 0, none⟩) len c) ∧ w.cell? ⟨n, 0, none⟩ = some (.int .i64 (x : Int)) ∧ w.cell? ⟨n, 1, none⟩ = some (.int .i64 (y : Int)) ∧
  (convert 69 9 (.slice (base g x c) y (c - x))).run Try.prog w = .ok (.string s) w
structure GetH (p g c n : Nat) (b : List UInt8) (x y : Nat) (s : ByteArray) (w : World) : Prop where
  ar : Ar w p g c b
  row : w.heap[n]? = some (.cells #[.int .i64 (x : Int), .int .i64 (y : Int)] 112 (0, 0))
  fit : x + y ≤ b.length
  str : s = strB ((b.drop x).take y)
theorem GetH.gives {p g c n : Nat} {b : List UInt8} {x y : Nat} {s : ByteArray} {w : World} (h : GetH p g c n b x y s w) : GetS p g c n b.length x y s w := by
  have h1 := h.ar.row.str (c := c) (k := x) (m := x + y) (by omega) h.fit h.ar.cap
  rw [Nat.add_sub_cancel_left, ← h.str] at h1
  exact ⟨h.ar.cell0, by rw [cell_of_row _ _ _ _ _ _ h.row]; rfl, by rw [cell_of_row _ _ _ _ _ _ h.row]; rfl, h1⟩
theorem GetH.later {p g c n : Nat} {b : List UInt8} {x y : Nat} {s : ByteArray} {w w' : World} (h : GetH p g c n b x y s w) (t : Below w.heap.size w w') : GetH p g c n b x y s w' :=
  ⟨h.ar.later t, (t.block n (Array.getElem?_eq_some_iff.1 h.row).1).trans h.row, h.fit, h.str⟩

section
variable {w : World} {p g c : Nat} {b : List UInt8}
set_option maxRecDepth 100000 in
theorem get_no (h : Ar w p g c b) (i : Int) (hi : hasE b i = 3) :
    Calls Try.prog 38 #[.pointer (some ⟨p, 0, none⟩), .int .i64 i] w fun e w' => e = .returned (.tuple #[.string ⟨#[]⟩, .int .i64 3]) ∧ w = w' := by
  have m := has_any h i
  rw [hi] at m
  clear h hi
  go_enter Try.func38, Try.ntmps38
  go_wp2_with fail
  refine m.mono ?_
  rintro e w' ⟨rfl, rfl⟩
  clear m
  go_wp2_with fail
  go_ret2
  exact ⟨rfl, rfl⟩
set_option maxRecDepth 100000 in
theorem get_nil (w : World) (i : Int) : Calls Try.prog 38 #[.pointer none, .int .i64 i] w fun e w' => e = .returned (.tuple #[.string ⟨#[]⟩, .int .i64 1]) ∧ w = w' := by
  have m : Calls Try.prog 77 #[.pointer none, .int .i64 i] w fun e w' => e = .returned (.int .i64 1) ∧ w = w' := by
    have m := made_nil w
    go_enter Try.func77, Try.ntmps77
    go_wp2_with fail
    refine m.mono ?_
    rintro e w' ⟨rfl, rfl⟩
    clear m
    go_wp2_with fail
    go_ret
    exact ⟨rfl, rfl⟩
  go_enter Try.func38, Try.ntmps38
  go_wp2_with fail
  refine m.mono ?_
  rintro e w' ⟨rfl, rfl⟩
  clear m
  go_wp2_with fail
  go_ret2
  exact ⟨rfl, rfl⟩
set_option maxRecDepth 100000 in
set_option maxHeartbeats 2000000 in
theorem get_yes (h : Ar w p g c b) (i : Nat) (hi : i < numL b 0) (hf : 4 + 4 * numL b 0 ≤ b.length) (hx : numL b (4 + 4 * i) + numL b (6 + 4 * i) ≤ b.length) :
    Calls Try.prog 38 #[.pointer (some ⟨p, 0, none⟩), .int .i64 (i : Int)] w fun e w' => e = .returned (.tuple #[.string (strB (txt b (spotAt b i))), .int .i64 0]) ∧ Below w.heap.size w w' := by
  have m := has_any h (i : Int)
  have hhi := h.hi
  have hcap := h.cap
  rw [show hasE b (i : Int) = 0 from if_pos (by omega)] at m
  have sp := Lib.hid (spot_any h i (by omega))
  have HA := Lib.hid h
  unfold txt
  unfold spotAt spotV at *
  obtain ⟨x, ex⟩ : ∃ x, x = numL b (4 + 4 * i) := ⟨_, rfl⟩
  obtain ⟨y, ey⟩ : ∃ y, y = numL b (6 + 4 * i) := ⟨_, rfl⟩
  rw [← ex, ← ey] at sp hx ⊢
  simp only at sp ⊢
  obtain ⟨s, hs⟩ : ∃ s, s = strB ((b.drop x).take y) := ⟨_, rfl⟩
  rw [← hs]
  have HS := Lib.hid hs
  have sl := fun W => slice_part W (g := g) (n := b.length) (c := c) (k := x) (m := x + y) (by omega) (by omega)
  rw [Nat.add_sub_cancel_left] at sl
  have se := fun W => spot_end x y W (by omega) (by omega)
  have SE := Lib.hid se
  clear h hi hf ex ey hs se
  go_enter Try.func38, Try.ntmps38
  go_wp2_with fail
  refine m.mono ?_
  rintro e w' ⟨rfl, rfl⟩
  clear m
  go_wp2_with fail
  refine sp.out.mono ?_
  rintro e w1 ⟨rfl, b1⟩
  clear sp
  have b2 : Below w.heap.size w (w1.alloc (.cells #[.int .i64 (x : Int), .int .i64 (y : Int)] 112)) := b1.alloc b1.size _
  have GH : GetH p g c w1.heap.size b x y s (w1.alloc (.cells #[.int .i64 (x : Int), .int .i64 (y : Int)] 112)) := ⟨(HA.out.later b2), heap_alloc_new _ _, hx, HS.out⟩
  have hn : w1.heap.size < (w1.alloc (.cells #[.int .i64 (x : Int), .int .i64 (y : Int)] 112)).heap.size := by simp
  go_wp2_with fail
  have B2 := Lib.hid b2
  have G := Lib.hid GH
  clear b1 b2 GH HA HS
  generalize w1.alloc (.cells #[.int .i64 (x : Int), .int .i64 (y : Int)] 112) = W at *
  generalize w1.heap.size = n at *
  obtain ⟨B, hB⟩ : ∃ B, B = base g x c := ⟨_, rfl⟩
  obtain ⟨z, hz⟩ : ∃ z : Int, z = ((x + y : Nat) : Int) := ⟨_, rfl⟩
  have HB := Lib.hid hB
  rw [← hB] at sl
  rw [← hz] at sl
  have sE : ∀ W, Calls Try.prog 84 #[.agg #[.int .i64 (x : Int), .int .i64 (y : Int)]] W fun e w' => e = .returned (.int .i64 z) ∧ Below W.heap.size W w' := fun W => by rw [hz]; exact SE.out W
  have SE2 := Lib.hid sE
  clear hB hz sE SE
  go_region_held3 (fun w' => w'.cell? ⟨p, 0, none⟩ = some (.slice (some ⟨g, 0, none⟩) b.length c) ∧ w'.cell? ⟨n, 0, none⟩ = some (.int .i64 (x : Int)) ∧ w'.cell? ⟨n, 1, none⟩ = some (.int .i64 (y : Int)) ∧ (convert 69 9 (.slice B y (c - x))).run Try.prog w' = .ok (.string s) w')
    (first | (rw [HB.out]; exact (G.out.later ((Below.refl _ _).drew)).gives) | (rw [HB.out]; exact ((G.out.later ((Below.refl _ _).drew)).later hb).gives))
    (first | (go_at_call 84; refine Calls.mono (SE2.out _) ?_; rintro e w' ⟨rfl, hb⟩))
  have HE := Lib.hid ((B2.out.drew).trans (hb.mono B2.out.size))
  clear hb
  go_wp2_with fail
  go_ret2
  exact ⟨rfl, HE.out⟩

/-- the sizes of the first k texts -/
def sizes (b : List UInt8) (k : Nat) : Nat := ((List.range k).map fun i => numL b (6 + 4 * i)).sum
theorem sizes_succ (b : List UInt8) (k : Nat) : sizes b (k + 1) = sizes b k + numL b (6 + 4 * k) := by simp [sizes, List.range_succ]
theorem sizes_le (b : List UInt8) (k : Nat) : sizes b k ≤ 65535 * k := by
  induction k with
  | zero => simp [sizes]
  | succ k ih => rw [sizes_succ]; have := num_lt b (6 + 4 * k); omega
set_option maxRecDepth 100000 in
set_option maxHeartbeats 2000000 in
theorem free_any (h : Ar w p g c b) (hf : 4 + 4 * numL b 0 ≤ b.length) :
    Calls Try.prog 39 #[.pointer (some ⟨p, 0, none⟩)] w fun e w' => e = .returned (.int .i64 ((b.length : Int) - ((4 + 4 * numL b 0 : Nat) : Int) - (sizes b (numL b 0) : Int))) ∧ Below w.heap.size w w' := by
  have m := Lib.hid (made_any h)
  have hhi := h.hi
  have c0 := h.cell0
  have en := Lib.hid (fun W (t : Below w.heap.size w W) => end_any (h.later t))
  have ln := Lib.hid (fun W (t : Below w.heap.size w W) => len_any (h.later t))
  have sp := Lib.hid (fun W (t : Below w.heap.size w W) (i : Nat) (hi : 8 + 4 * i ≤ b.length) => spot_any (h.later t) i hi)
  obtain ⟨n, hn⟩ : ∃ n, n = numL b 0 := ⟨_, rfl⟩
  rw [← hn] at en ln hf ⊢
  obtain ⟨f, hfn⟩ : ∃ f, f = 4 + 4 * n := ⟨_, rfl⟩
  have hf1 : (f : Int) ≤ (b.length : Int) := by omega
  rw [← hfn] at en ⊢
  have hn1 : n ≤ 1100 := by omega
  have hfn2 : f ≤ 4 + 4 * n ∧ 4 + 4 * n ≤ f := by omega
  have hb0 : (b.length : Int) ≤ 4096 := by omega
  have hf0 : (0 : Int) ≤ (f : Int) := Int.natCast_nonneg _
  have hl0 : (0 : Int) ≤ (b.length : Int) := Int.natCast_nonneg _
  clear h hn hfn
  go_enter Try.func39, Try.ntmps39
  go_wp2_with fail
  refine m.out.mono ?_
  rintro e w' ⟨rfl, rfl⟩
  go_wp2_with fail
  go_quiet ((go_at_call 82; first | exact quiet_same (en.out _ (below_drewN (Below.refl _ _) _)) | exact quiet_same0 (en.out _ (Below.refl _ _))))
  have bq : Below w.heap.size w (w.drewN nq) := below_drewN (Below.refl _ _) _
  go_wp2_with fail
  refine (ln.out _ bq).mono ?_
  rintro e w' ⟨rfl, rfl⟩
  go_wp2_with fail
  have BQ := Lib.hid bq
  clear bq
  go_loopw [3, 18] (fun v i wr => ∃ k : Nat, k ≤ n ∧ i = .int .i64 k ∧ v = .int .i64 ((b.length : Int) - (f : Int) - (sizes b k : Int)) ∧ Below w.heap.size w wr) (fun _ i _ => n - (intOf i).toNat)
  case atStart => exact ⟨0, by omega, by go_num, by simp [sizes], BQ.out⟩
  case round =>
    obtain ⟨k, hk, rfl, rfl, hb⟩ := hrel
    clear BQ
    have hz := sizes_le b k
    have hz2 := num_lt b (6 + 4 * k)
    have hz3 := sizes_succ b k
    by_cases hlt : k < n
    · have sk := Lib.hid (sp.out _ hb k (by omega))
      unfold spotV spotAt at sk
      simp only at sk
      have HS := Lib.hid hz3
      have HB := Lib.hid hb
      obtain ⟨z, ez⟩ : ∃ z, z = sizes b k := ⟨_, rfl⟩
      rw [← ez] at HS hz ⊢
      obtain ⟨y, ey⟩ : ∃ y, y = numL b (6 + 4 * k) := ⟨_, rfl⟩
      rw [← ey] at HS hz2 sk
      clear hz3 ez ey hb
      have q0 : (0 : Int) ≤ (z : Int) := Int.natCast_nonneg _
      have q1 : (z : Int) ≤ 100000000 := by omega
      have q2 : (0 : Int) ≤ (y : Int) := Int.natCast_nonneg _
      have q3 : (y : Int) ≤ 65535 := by omega
      have hfd : ∀ (u v : Value) (W : World), (Instr.field 112 (.agg #[u, v]) 1).run Try.prog W = .ok v W := fun u v W => by kernel_rfl
      go_wp2_with fail
      refine sk.out.mono ?_
      rintro e w' ⟨rfl, hb2⟩
      have HB2 := Lib.hid (HB.out.trans (hb2.mono HB.out.size))
      clear hb2 sk HB
      go_wp2_with fail
      go_roundw
      case rel => exact ⟨k + 1, by omega, by go_num, by rw [HS.out]; congr 1; omega, HB2.out⟩
      case measure => simp [intOf]; omega
    · obtain rfl : k = n := by omega
      have HB := Lib.hid hb
      clear hb hz hz2 hz3
      go_wp2_with fail
      go_ret
      exact ⟨rfl, HB.out⟩
end

end Go.Proofs.Ytehfclgngkhcpaa.Slot
