/- Walks: Remove. -/
import Derived.Test.YtehfclgngkhcpaaSY
namespace Go.Proofs.Ytehfclgngkhcpaa.Slot
open Go.RowKit
attribute [local go_sem ↓] Go.wp_at_zero Go.wp_at_succ

section
variable {w : World} {p g c : Nat} {a : A}
set_option maxRecDepth 100000 in
theorem remove_no (h : Area w p g c a) (i : Int) (hi : ¬ hasP a i) :
    Calls Try.prog 34 #[.pointer (some ⟨p, 0, none⟩), .int .i64 i] w fun e w' => e = .returned (.int .i64 3) ∧ w = w' := by
  have m := has_is h i
  rw [if_neg hi] at m
  clear hi
  go_enter Try.func34, Try.ntmps34
  go_wp2_with fail
  refine m.mono ?_
  rintro e w' ⟨rfl, rfl⟩
  clear m
  go_wp2_with fail
  go_ret
  exact ⟨rfl, rfl⟩

set_option maxRecDepth 100000 in
set_option maxHeartbeats 4000000 in
theorem remove_yes (h : Area w p g c a) (k : Nat) (hi : k < a.dir.length) :
    Calls Try.prog 34 #[.pointer (some ⟨p, 0, none⟩), .int .i64 (k : Int)] w fun e w' => e = .returned (.int .i64 0) ∧ (Area w' p g c (a.del k) ∧ Touch (both p g) w w') := by
  have m := has_is h (k : Int)
  rw [if_pos (show hasP a (k : Int) from ⟨by omega, by omega⟩)] at m
  have l := len_is h
  obtain ⟨⟨b, A2, I2⟩, hk⟩ := h
  have hfin := hk.fin
  have hlow := hk.low
  have hn40 := hk.hi
  have hlen := I2.len
  have hcap := A2.cap
  have c2 := A2.cell0
  have hfd : a.fin = 4 + 4 * a.dir.length := rfl
  have sh := is_shut I2 hi (by omega) hn40
  obtain ⟨n, hn⟩ : ∃ n, n = a.dir.length - 1 := ⟨_, rfl⟩
  have hn1 : a.dir.length = n + 1 := by omega
  have en : ((a.dir.length : Nat) : Int) = (n : Int) + 1 := by omega
  rw [en] at l
  obtain ⟨P0, hP0⟩ : ∃ x, x = 4 + 4 * k := ⟨_, rfl⟩
  obtain ⟨P1, hP1⟩ : ∃ x, x = 4 + 4 * (k + 1) := ⟨_, rfl⟩
  obtain ⟨F, hF⟩ : ∃ x, x = 4 + 4 * a.dir.length := ⟨_, rfl⟩
  obtain ⟨F0, hF0⟩ : ∃ x, x = 4 + 4 * n := ⟨_, rfl⟩
  have q0 := place_any k w.drew (by omega)
  have q1 := place_any (k + 1) w.drew (by omega)
  rw [← hP0] at q0
  rw [← hP1, show ((k + 1 : Nat) : Int) = (k : Int) + 1 by omega] at q1
  have q2 := end_any A2.drew
  rw [I2.cnt, ← hF] at q2
  have q3 := fun W => place_any n W (by omega)
  have q4 := fun W => place_any (n + 1) W (by omega)
  rw [← hF0] at q3
  rw [show 4 + 4 * (n + 1) = F by omega, show ((n + 1 : Nat) : Int) = (n : Int) + 1 by omega] at q4
  have sl1 := fun W => slice_from W (g := g) (n := b.length) (c := c) (k := P0) (by omega)
  have sl2 := fun W => slice_part W (g := g) (n := b.length) (c := c) (k := P1) (m := F) (by omega) (by omega)
  have sl3 := fun W => slice_part W (g := g) (n := b.length) (c := c) (k := F0) (m := F) (by omega) (by omega)
  have RW := Lib.hid (show Row w.drew g b from A2.drew.row)
  have hPF : P1 ≤ F := by omega
  have hF0F : F0 ≤ F := by omega
  have hFb : F ≤ b.length := by omega
  have hP1b : P0 + (F - P1) ≤ b.length := by omega
  have hpl : ((b.drop P1).take (F - P1)).length = F - P1 := part_len (by omega)
  have w3 := A2.drew.put (k := P0) (t := (b.drop P1).take (F - P1)) (by rw [hpl]; omega)
  have B5l : (putL b P0 ((b.drop P1).take (F - P1))).length = b.length := putL_len (by rw [hpl]; omega)
  obtain ⟨W5, hW5⟩ : ∃ W5, W5 = w.drew.setCells g P0 (Lib.byteCells ((b.drop P1).take (F - P1))) := ⟨_, rfl⟩
  obtain ⟨B5, hB5⟩ : ∃ B5, B5 = putL b P0 ((b.drop P1).take (F - P1)) := ⟨_, rfl⟩
  rw [← hW5, ← hB5] at w3
  rw [← hB5] at B5l
  have c5 := w3.1.cell0
  have RW5 := Lib.hid (show Row W5.drew g B5 from w3.1.drew.row)
  have w4 := w3.1.drew.put (k := F0) (t := List.replicate (F - F0) 0) (by rw [List.length_replicate]; omega)
  obtain ⟨W6, hW6⟩ : ∃ W6, W6 = W5.drew.setCells g F0 (Lib.byteCells (List.replicate (F - F0) 0)) := ⟨_, rfl⟩
  obtain ⟨B6, hB6⟩ : ∃ B6, B6 = putL B5 F0 (List.replicate (F - F0) 0) := ⟨_, rfl⟩
  rw [← hW6, ← hB6] at w4
  have B6l : B6.length = b.length := by rw [hB6, putL_len (by rw [List.length_replicate]; omega)]; exact B5l
  have e7 : putL B6 0 (two n) = shut b k a.dir.length := by
    unfold shut
    rw [hB6, hB5, show F - F0 = 4 by omega, show F0 = 4 * a.dir.length by omega, show P1 = 8 + 4 * k by omega, show F - (8 + 4 * k) = 4 * (a.dir.length - 1 - k) by omega, hP0, hn]
    rfl
  have y5 := lay_any w4.1 0 n (by omega) (by omega)
  rw [e7] at y5
  have T6 : Touch (both p g) w W6 := ((Touch.refl _ w).drew.trans' w3.2).drew.trans' w4.2
  have y6 : Calls Try.prog 63 #[.pointer (some ⟨p, 0, none⟩), .int .i64 0, .int .i64 (n : Int)] W6 fun e w' => e = .returned (.tuple #[]) ∧ (Area w' p g c (a.del k) ∧ Touch (both p g) w w') := y5.mono fun _ _ ⟨x1, x2, x3⟩ => ⟨x1, ⟨⟨_, x2, sh⟩, del_ok hk hi⟩, T6.trans' x3⟩
  have Y5 := Lib.hid y6
  rw [B5l] at c5
  have hn0 : (0 : Int) ≤ (n : Int) := Int.natCast_nonneg _
  have hn2 : (n : Int) ≤ 2000 := by omega
  have k0 : (k : Int) ≤ 2000 := by omega
  have k1 : (0 : Int) ≤ (k : Int) := Int.natCast_nonneg _
  have L := Lib.hid l
  have M := Lib.hid m
  have Q0 := Lib.hid q0
  have Q1 := Lib.hid q1
  have Q2 := Lib.hid q2
  have Q3 := Lib.hid q3
  have Q4 := Lib.hid q4
  have HW5 := Lib.hid hW5
  have HW6 := Lib.hid hW6
  have H5l := Lib.hid B5l
  clear l m q0 q1 q2 q3 q4 hW5 hW6 y5 y6 e7 w4 w3 hB5 hB6 hpl hP0 hP1 hF hF0 en hn hfd hlen hfin hlow hn40 I2 A2 hk sh T6 hi B5l B6l hn1
  go_enter Try.func34, Try.ntmps34
  go_wp2_with fail
  refine M.out.mono ?_
  rintro e w' ⟨rfl, rfl⟩
  go_wp2_with fail
  refine L.out.mono ?_
  rintro e w' ⟨rfl, rfl⟩
  clear L M
  go_wp2_with fail
  (refine wp_region_still_tail 17 (by kernel_rfl) (by kernel_rfl) (still_of_quiet _ _ ?_); simp only [List.take_succ_cons, List.take_zero, List.drop_succ_cons, List.drop_zero]; (repeat (first | go_big_quiet_skip | (go_big_quiet_want; go_big_quiet_op; first | go_big_quiet_on | (apply Exists.intro; refine ⟨?_, ?_⟩; (first | (go_at_call 81; exact quiet_one Q0.out) | (go_at_call 81; exact quiet_one Q1.out) | (go_at_call 82; exact quiet_one Q2.out)); go_big_quiet_on)))); refine wpQuiet_nil ?_)
  change wpList _ _ _ _ _ w.drew
  refine wpList_copy_move RW.out rfl _ _ rfl P0 P1 F hPF hFb hP1b hcap rfl rfl ?_
  rw [← HW5.out]
  clear Q0 Q1 Q2 RW HW5 sl1 sl2 c2
  go_wp2_with fail
  simp only [Act.put, List.setIfInBounds_toArray, List.set_cons_zero, List.set_cons_succ]
  (refine wp_region_still_tail 10 (by kernel_rfl) (by kernel_rfl) (still_of_quiet _ _ ?_); simp only [List.take_succ_cons, List.take_zero, List.drop_succ_cons, List.drop_zero]; (repeat (first | go_big_quiet_skip | (go_big_quiet_want; go_big_quiet_op; first | go_big_quiet_on | (apply Exists.intro; refine ⟨?_, ?_⟩; (first | (go_at_call 81; exact quiet_one (Q3.out _)) | (go_at_call 81; exact quiet_one (Q4.out _))); go_big_quiet_on)))); refine wpQuiet_nil ?_)
  change wpList _ _ _ _ _ W5.drew
  have hFb5 : F ≤ B5.length := by rw [H5l.out]; exact hFb
  have hcap5 : B5.length ≤ c := by rw [H5l.out]; exact hcap
  refine wpList_clear RW5.out rfl _ rfl F0 F hF0F hFb5 hcap5 rfl ?_
  rw [← HW6.out]
  clear Q3 Q4 RW5 HW6 sl3 c5 hFb5 hcap5
  go_wp2_with fail
  refine Y5.out.mono ?_
  rintro e w7 ⟨rfl, h7⟩
  have HE := Lib.hid h7
  clear h7 Y5
  go_wp2_with fail
  go_ret
  exact ⟨rfl, HE.out⟩
theorem remove_is (h : Area w p g c a) (i : Int) :
    Calls Try.prog 34 #[.pointer (some ⟨p, 0, none⟩), .int .i64 i] w fun e w' => e = .returned (.int .i64 (remE a i)) ∧ (Area w' p g c (remA a i) ∧ Touch (both p g) w w') := by
  unfold remA remE
  by_cases h1 : hasP a i
  · rw [if_pos h1, if_pos h1]
    have h1' := h1
    unfold hasP at h1'
    obtain ⟨k, rfl⟩ : ∃ k : Nat, i = k := ⟨i.toNat, by omega⟩
    exact remove_yes h k (by omega)
  · rw [if_neg h1, if_neg h1]
    exact (remove_no h i h1).mono fun _ _ ⟨x1, x2⟩ => ⟨x1, x2 ▸ h, x2 ▸ Touch.refl _ _⟩
end

end Go.Proofs.Ytehfclgngkhcpaa.Slot
