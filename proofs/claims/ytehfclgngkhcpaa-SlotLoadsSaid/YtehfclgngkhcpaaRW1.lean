/- Walks: the document's area: end, Gap, Free, two, Text. -/
import Derived.Test.YtehfclgngkhcpaaRL
namespace Go.Proofs.Ytehfclgngkhcpaa.Slot
open Go.RowKit
attribute [local go_sem ↓] Go.wp_at_zero Go.wp_at_succ

section
variable {w : World} {q : Nat} {a : A} {F : Nat → Prop}
set_option maxRecDepth 100000 in
theorem qend_any (H : Rf w q a F) (hd : a.dir.length ≤ 100000) : Calls Try.prog 95 #[.pointer (some ⟨q, 0, none⟩)] w fun e w' => e = .returned (.int .i64 ((a.fin : Nat) : Int)) ∧ w = w' := by
  obtain ⟨h, cB, v, L, _⟩ := H.lay
  have c2 := L.cell2
  obtain ⟨ad, cap, rfl⟩ := L.dl.shape
  have hf : a.fin = 4 + 4 * a.dir.length := rfl
  obtain ⟨n, hn⟩ : ∃ n, n = a.dir.length := ⟨_, rfl⟩
  rw [← hn] at c2 hd hf
  obtain ⟨F', hF⟩ : ∃ F', F' = a.fin := ⟨_, rfl⟩
  rw [← hF] at hf ⊢
  have HF := Lib.hid hf
  clear L H hn hf hF
  go_enter Try.func95, Try.ntmps95
  go_wp2_with fail
  go_ret
  exact ⟨ret_int (by rw [HF.out]; omega), rfl⟩
set_option maxRecDepth 100000 in
set_option maxHeartbeats 1000000 in
theorem qgap_any (H : Rf w q a F) (hd : a.dir.length ≤ 100000) (hl : a.low ≤ 100000) : Calls Try.prog 74 #[.pointer (some ⟨q, 0, none⟩)] w fun e w' => e = .returned (.int .i64 ((a.low : Int) - (a.fin : Int))) ∧ Below w.heap.size w w' := by
  have en := Lib.hid (fun W (t : Below w.heap.size w W) => qend_any (H.later t) hd)
  obtain ⟨h, cB, v, L, _⟩ := H.lay
  have c1 := L.cell1
  have hf : a.fin ≤ 1000000 := by unfold A.fin; omega
  generalize a.fin = f at *
  generalize a.low = l at *
  clear L H
  go_enter Try.func74, Try.ntmps74
  go_wp2_with fail
  go_quiet ((go_at_call 95; first | exact quiet_same (en.out _ (below_drewN (Below.refl _ _) _)) | exact quiet_same0 (en.out _ (Below.refl _ _))))
  go_wp2_with fail
  go_ret
  exact ⟨ret_int (by first | rfl | omega), below_drewN (Below.refl _ _) _⟩
set_option maxRecDepth 100000 in
set_option maxHeartbeats 2000000 in
theorem qfree_any (H : Rf w q a F) (hd : a.dir.length ≤ 100000) (hn : a.n ≤ 100000) (ht : tot a.dir ≤ 100000) : Calls Try.prog 73 #[.pointer (some ⟨q, 0, none⟩)] w fun e w' => e = .returned (.int .i64 ((a.n : Int) - (a.fin : Int) - (tot a.dir : Int))) ∧ Below w.heap.size w w' := by
  have en := Lib.hid (fun W (t : Below w.heap.size w W) => qend_any (H.later t) hd)
  have HH := Lib.hid H
  obtain ⟨h, cB, v, L, _⟩ := H.lay
  have c0 := L.cell0
  obtain ⟨ad, cap, rfl⟩ := L.dl.shape
  have c2 := L.cell2
  have hf : a.fin ≤ 1000000 := by unfold A.fin; omega
  have HL := Lib.hid L
  obtain ⟨n, en'⟩ : ∃ n, n = a.dir.length := ⟨_, rfl⟩
  have HN := Lib.hid en'
  rw [← en'] at c2 hd
  generalize a.fin = f at *
  generalize a.n = m at *
  have f0 : (0 : Int) ≤ (f : Int) := Int.natCast_nonneg _
  have f1 : (f : Int) ≤ 1000000 := by omega
  have m0 : (0 : Int) ≤ (m : Int) := Int.natCast_nonneg _
  have m1 : (m : Int) ≤ 100000 := by omega
  have n1 : (n : Int) ≤ 100000 := by omega
  have HT := Lib.hid ht
  clear L H en' hf ht
  go_enter Try.func73, Try.ntmps73
  go_wp2_with fail
  go_quiet ((go_at_call 95; first | exact quiet_same (en.out _ (below_drewN (Below.refl _ _) _)) | exact quiet_same0 (en.out _ (Below.refl _ _))))
  go_wp2_with fail
  go_loop [3, 4] (fun v i => ∃ k : Nat, k ≤ n ∧ i = .int .i64 k ∧ v = .int .i64 ((m : Int) - (f : Int) - (tot (a.dir.take k) : Int))) (fun _ i => n - (intOf i).toNat)
  case atStart => exact ⟨0, by omega, by go_num, by simp [tot]⟩
  case round =>
    obtain ⟨k, hk, rfl, rfl⟩ := hrel
    have t1 := tot_take_le a.dir k
    by_cases hlt : k < n
    · obtain ⟨g, rfl, _, d2, _⟩ := HL.out.dl.at (k := k) (by rw [← HN.out]; exact hlt)
      have tk : tot (a.dir.take (k + 1)) = tot (a.dir.take k) + (a.dir.getD k (0, 0)).2 := tot_take (by rw [← HN.out]; exact hlt)
      have t2 := tot_take_le a.dir (k + 1)
      have HT2 := HT.out
      obtain ⟨T, eT⟩ : ∃ T, T = tot (a.dir.take k) := ⟨_, rfl⟩
      obtain ⟨y, ey⟩ : ∃ y, y = (a.dir.getD k (0, 0)).2 := ⟨_, rfl⟩
      rw [← ey] at d2 tk
      rw [← eT] at tk t1 ⊢
      have T0 : (0 : Int) ≤ (T : Int) := Int.natCast_nonneg _
      have T1 : (T : Int) ≤ 100000 := by omega
      have y0 : (0 : Int) ≤ (y : Int) := Int.natCast_nonneg _
      have y1 : (y : Int) ≤ 100000 := by omega
      have k0 : (0 : Int) ≤ (k : Int) := Int.natCast_nonneg _
      have k1 : (k : Int) < (n : Int) := by omega
      have TK := Lib.hid tk
      clear eT ey tk t1 t2 HT2
      go_wp2_with fail
      go_round
      case rel => exact ⟨k + 1, by omega, by go_num, by rw [TK.out]; congr 1; omega⟩
      case measure => simp [intOf]; omega
    · obtain rfl : k = n := by omega
      go_wp2_with fail
      go_ret
      exact ⟨by rw [HN.out, List.take_length]; rfl, below_drewN (Below.refl _ _) _⟩
set_option maxRecDepth 100000 in
theorem two_any (n : Nat) (w : World) (hn : n < 65536) : Calls Try.prog 96 #[.int .i64 (n : Int)] w fun e w' => e = .returned (.string (strB (two n))) ∧ Below w.heap.size w w' := by
  have pt := rput_yes (n : Int) 2 w (by omega) (by omega) ⟨by omega, by omega⟩ (by
    have e : (n : Int) / 2 ^ (8 * 2) = 0 := Int.ediv_eq_zero_of_lt (by omega) (by omega)
    rw [e]; rfl)
  rw [bytesOf_two] at pt
  have PT := Lib.hid pt
  clear pt
  go_enter Try.func96, Try.ntmps96
  go_wp2_with fail
  refine PT.out.mono ?_
  rintro e w' ⟨rfl, b⟩
  have B := Lib.hid b
  clear b PT
  go_wp2_with fail
  go_ret
  exact ⟨rfl, B.out⟩
set_option maxRecDepth 100000 in
set_option maxHeartbeats 4000000 in
theorem qtext_any (H : Rf w q a F) {k : Nat} (hk : k < a.dir.length) (hd : a.dir.length ≤ 100000) (hx : (a.at k).1 + (a.at k).2 ≤ a.n) (hn : a.n ≤ 100000) : Calls Try.prog 75 #[.pointer (some ⟨q, 0, none⟩), .int .i64 (k : Int)] w fun e w' => e = .returned (.string (strB (a.text k))) ∧ Below w.heap.size w w' := by
  obtain ⟨h, cB, v, L, _⟩ := H.lay
  have c0 := L.cell0
  obtain ⟨ad, cap, rfl⟩ := L.dl.shape
  have c2 := L.cell2
  obtain ⟨g, rfl, d1, d2, _⟩ := L.dl.at hk
  have hcap := L.cap
  have hat : a.dir.getD k (0, 0) = a.at k := rfl
  rw [hat] at d1 d2
  unfold A.text txt
  obtain ⟨x, ex⟩ : ∃ x, x = (a.at k).1 := ⟨_, rfl⟩
  obtain ⟨y, ey⟩ : ∃ y, y = (a.at k).2 := ⟨_, rfl⟩
  rw [← ex] at d1 hx ⊢
  rw [← ey] at d2 hx ⊢
  have sl := fun W => slice_part W (g := h) (n := a.n) (c := cB) (k := x) (m := x + y) (by omega) (by omega)
  rw [Nat.add_sub_cancel_left] at sl
  have hrow : ∀ m, Row (w.drewN m) h a.cells := fun m => L.row.far rfl
  have cv := fun m => (hrow m).str (c := cB) (k := x) (m := x + y) (by omega) hx hcap
  simp only [Nat.add_sub_cancel_left] at cv
  have x0 : (0 : Int) ≤ (x : Int) := Int.natCast_nonneg _
  have x1 : (x : Int) ≤ 100000 := by omega
  have y0 : (0 : Int) ≤ (y : Int) := Int.natCast_nonneg _
  have y1 : (y : Int) ≤ 100000 := by omega
  have k0 : (0 : Int) ≤ (k : Int) := Int.natCast_nonneg _
  have k1 : (k : Int) < (a.dir.length : Int) := by omega
  have e1 : ((x + y : Nat) : Int) = (x : Int) + (y : Int) := by omega
  rw [e1] at sl
  generalize strB ((a.cells.drop x).take y) = S at *
  obtain ⟨B, hB⟩ : ∃ B, B = base h x cB := ⟨_, rfl⟩
  rw [← hB] at sl cv
  obtain ⟨n, en'⟩ : ∃ n, n = a.dir.length := ⟨_, rfl⟩
  rw [← en'] at c2 k1
  generalize a.n = m at *
  clear L H ex ey hat hrow hB e1 en' hd hk hx hn
  go_enter Try.func75, Try.ntmps75
  go_wp2_with fail
  go_quiet (fail)
  go_wp2_with fail
  go_ret
  exact ⟨rfl, below_drewN (Below.refl _ _) _⟩
end

end Go.Proofs.Ytehfclgngkhcpaa.Slot
