/- Walks: Put. -/
import Derived.Test.YtehfclgngkhcpaaSW8
import Derived.Test.YtehfclgngkhcpaaSQ
namespace Go.Proofs.Ytehfclgngkhcpaa.Slot
open Go.RowKit
attribute [local go_sem ↓] Go.wp_at_zero Go.wp_at_succ

section
variable {w : World} {p g c : Nat} {a : A}
theorem made_is (h : Area w p g c a) : Calls Try.prog 67 #[.pointer (some ⟨p, 0, none⟩)] w fun e w' => e = .returned (.bool true) ∧ w = w' := by
  obtain ⟨⟨b, h1, h2⟩, h3⟩ := h
  exact made_any h1
set_option maxRecDepth 100000 in
theorem put_arg (h : Area w p g c a) (i : Int) (t : ByteArray) (ht : t.size ≤ 281474976710656) (hi : i < 0 ∨ (a.dir.length : Int) < i) :
    Calls Try.prog 36 #[.pointer (some ⟨p, 0, none⟩), .int .i64 i, .string t] w fun e w' => e = .returned (.int .i64 2) ∧ w = w' := by
  have m := Lib.hid (made_is h)
  have l := Lib.hid (len_is h)
  by_cases h0 : i < 0
  · have e0 : decide (i < 0) = true := decide_eq_true h0
    clear h0 hi
    go_enter Try.func36, Try.ntmps36
    go_wp2_with fail
    refine m.out.mono ?_
    rintro e w' ⟨rfl, rfl⟩
    go_wp2_with fail
    go_ret
    exact ⟨rfl, rfl⟩
  · have e0 : decide (i < 0) = false := decide_eq_false h0
    have e1 : decide ((a.dir.length : Int) < i) = true := decide_eq_true (by omega)
    clear h0 hi
    go_enter Try.func36, Try.ntmps36
    go_wp2_with fail
    refine m.out.mono ?_
    rintro e w' ⟨rfl, rfl⟩
    go_wp2_with fail
    refine l.out.mono ?_
    rintro e w' ⟨rfl, rfl⟩
    go_wp2_with fail
    go_ret
    exact ⟨rfl, rfl⟩
set_option maxRecDepth 100000 in
theorem put_full (h : Area w p g c a) (i : Int) (t : ByteArray) (ht : t.size ≤ 281474976710656) (hi : 0 ≤ i ∧ i ≤ (a.dir.length : Int)) (hf : a.free < t.size + 4) :
    Calls Try.prog 36 #[.pointer (some ⟨p, 0, none⟩), .int .i64 i, .string t] w fun e w' => e = .returned (.int .i64 4) ∧ Below w.heap.size w w' := by
  have m := Lib.hid (made_is h)
  have l := Lib.hid (len_is h)
  have f := Lib.hid (free_is h)
  have e0 : decide (i < 0) = false := decide_eq_false (by omega)
  have e1 : decide ((a.dir.length : Int) < i) = false := decide_eq_false (by omega)
  have e2 : decide ((a.free : Int) < (t.size : Int) + 4) = true := decide_eq_true (by omega)
  have e3 : decide (a.free < t.size + 4) = true := decide_eq_true hf
  clear hi hf
  go_enter Try.func36, Try.ntmps36
  go_wp2_with fail
  refine m.out.mono ?_
  rintro e w' ⟨rfl, rfl⟩
  go_wp2_with fail
  refine l.out.mono ?_
  rintro e w' ⟨rfl, rfl⟩
  go_wp2_with fail
  refine f.out.mono ?_
  rintro e w' ⟨rfl, hb⟩
  have HB := Lib.hid hb
  clear hb
  go_wp2_with fail
  go_ret
  exact ⟨rfl, HB.out⟩

set_option maxRecDepth 100000 in
set_option maxHeartbeats 4000000 in
theorem put_room (h : Area w p g c a) (k : Nat) (t : ByteArray) (hi : k ≤ a.dir.length) (hf : t.size + 4 ≤ a.free) :
    Calls Try.prog 36 #[.pointer (some ⟨p, 0, none⟩), .int .i64 (k : Int), .string t] w fun e w' => e = .returned (.int .i64 0) ∧ (Area w' p g c ((room a (t.size + 4)).putAt k t.data.toList) ∧ Touch (both p g) w w') := by
  have hk := h.ok
  have hlt := h.below
  have m := Lib.hid (made_is h)
  have l := Lib.hid (len_is h)
  have f := Lib.hid (free_is h)
  have hfr : a.free ≤ 4096 := by have := hk.hi; unfold A.free; omega
  have hdl : a.dir.length ≤ 2000 := by have := hk.hi; have := hk.fin; have := hk.low; unfold A.fin at *; omega
  have ht5 : t.size ≤ 5000 := by omega
  have ga := Lib.hid (fun W (t : Below w.heap.size w W) => gap_is (h.later t))
  have co := Lib.hid (fun W (t : Below w.heap.size w W) => compact_any (h.later t))
  have e1 : decide ((a.dir.length : Int) < (k : Int)) = false := decide_eq_false (by omega)
  have e1' : decide (a.dir.length < k) = false := decide_eq_false (by omega)
  have e2 : decide ((a.free : Int) < (t.size : Int) + 4) = false := decide_eq_false (by omega)
  have e3 : decide (a.free < t.size + 4) = false := decide_eq_false (by omega)
  have RM := Lib.hid (room_all hk (t.size + 4))
  have HF := Lib.hid hf
  have HI := Lib.hid hi
  have H := Lib.hid h
  have k0 : (k : Int) ≤ 2000 := by omega
  have k1 : (0 : Int) ≤ (k : Int) := Int.natCast_nonneg _
  have t0 : (t.size : Int) ≤ 5000 := by omega
  have t1 : (0 : Int) ≤ (t.size : Int) := Int.natCast_nonneg _
  clear hi hf h
  obtain ⟨a1, ha1⟩ : ∃ a1, a1 = room a (t.size + 4) := ⟨_, rfl⟩
  have HA1 := Lib.hid ha1
  rw [← ha1] at RM ⊢
  unfold room at ha1
  have hz : ∃ z : Bool, decide ((a.gap : Int) < (t.size : Int) + 4) = z ∧ decide (a.gap < t.size + 4) = z := ⟨_, rfl, by rw [decide_eq_decide]; omega⟩
  obtain ⟨z, e4, e5⟩ := hz
  have hc : (z = true ∧ a1 = a.compact) ∨ (z = false ∧ a1 = a) := by
    rw [ha1, ← e5]
    by_cases hg : a.gap < t.size + 4
    · rw [if_pos hg]; simp [hg]
    · rw [if_neg hg]; simp [hg]
  clear ha1 HA1
  have HC := Lib.hid hc
  clear hc
  go_enter Try.func36, Try.ntmps36
  go_wp2_with fail
  refine m.out.mono ?_
  rintro e w' ⟨rfl, rfl⟩
  go_wp2_with fail
  refine l.out.mono ?_
  rintro e w' ⟨rfl, rfl⟩
  go_wp2_with fail
  refine f.out.mono ?_
  rintro e w1 ⟨rfl, hb⟩
  have HB := Lib.hid hb
  clear hb m l f
  go_wp2_with fail
  refine (ga.out _ HB.out).mono ?_
  rintro e w' ⟨rfl, rfl⟩
  go_upto_if 32 with fail
  go_cut [] (fun wx => Area wx p g c a1 ∧ Touch (both p g) w wx)
  case first =>
    rcases HC.out with ⟨rfl, hc⟩ | ⟨rfl, hc⟩
    · have HC2 := Lib.hid hc
      clear hc
      go_wp2_with fail
      refine (co.out _ HB.out).mono ?_
      rintro e w2 ⟨rfl, h2⟩
      rw [← HC2.out] at h2
      have H2 := Lib.hid (show Area w2 p g c a1 ∧ Touch (both p g) w w2 from ⟨h2.1, (Touch.ofNew HB.out).trans' h2.2⟩)
      clear h2
      go_wp2_with fail
      go_meet
      exact H2.out
    · have H2 := Lib.hid (show Area w1 p g c a1 ∧ Touch (both p g) w w1 from ⟨by rw [hc]; exact H.out.later HB.out, Touch.ofNew HB.out⟩)
      clear hc
      go_wp2_with fail
      go_meet
      exact H2.out
  case rest =>
    obtain ⟨hA2, hT2⟩ := hcut
    obtain ⟨⟨b, A2, I2⟩, hk1⟩ := hA2
    obtain ⟨r1, r2, r3, r4, r5, r6⟩ := RM.out
    have r7 := r5 (by have := HF.out; omega)
    have hi := HI.out
    have hfin := hk1.fin
    have hlow := hk1.low
    have hn40 := hk1.hi
    have hlen := I2.len
    have hcap := A2.cap
    have c2 := A2.cell0
    have htl : t.data.toList.length = t.size := rfl
    obtain ⟨p1, p2, p3, p4⟩ := put_all I2 hk1 (i := k) (by omega) (t := t.data.toList) (by rw [htl]; omega)
    have hfd : a1.fin = 4 + 4 * a1.dir.length := rfl
    obtain ⟨P0, hP0⟩ : ∃ x, x = 4 + 4 * k := ⟨_, rfl⟩
    obtain ⟨P1, hP1⟩ : ∃ x, x = 4 + 4 * (k + 1) := ⟨_, rfl⟩
    obtain ⟨F, hF⟩ : ∃ x, x = 4 + 4 * a1.dir.length := ⟨_, rfl⟩
    have q0 := place_any k wc.drew (by omega)
    have q1 := place_any (k + 1) wc.drew (by omega)
    rw [← hP0] at q0
    rw [← hP1, show ((k + 1 : Nat) : Int) = (k : Int) + 1 by omega] at q1
    have q2 := end_any A2.drew
    rw [I2.cnt, ← hF] at q2
    have Q0 := Lib.hid q0
    have Q1 := Lib.hid q1
    have Q2 := Lib.hid q2
    have sl1 := fun W => slice_from W (g := g) (n := b.length) (c := c) (k := P1) (by omega)
    have sl2 := fun W => slice_part W (g := g) (n := b.length) (c := c) (k := P0) (m := F) (by omega) (by omega)
    have RW := Lib.hid (show Row wc.drew g b from A2.drew.row)
    have hPF : P0 ≤ F := by omega
    have hFb : F ≤ b.length := by omega
    have hP1b : P1 + (F - P0) ≤ b.length := by omega
    have e6 : putL (putL b P1 ((b.drop P0).take (F - P0))) 0 (two (a1.dir.length + 1)) = opened b k a1.dir.length := by
      unfold opened
      rw [show P1 = 8 + 4 * k by omega, show F - P0 = 4 * (a1.dir.length - k) by omega, hP0]
    have hpl : ((b.drop P0).take (F - P0)).length = F - P0 := part_len (by omega)
    have B5l : (putL b P1 ((b.drop P0).take (F - P0))).length = b.length := putL_len (by rw [hpl]; omega)
    have B50 : numL (putL b P1 ((b.drop P0).take (F - P0))) 0 = a1.dir.length := by
      rw [num_far (by rw [hpl]; omega) (by omega)]; exact I2.cnt
    have w3 := A2.drew.put (k := P1) (t := (b.drop P0).take (F - P0)) (by rw [hpl]; omega)
    obtain ⟨n, hn⟩ : ∃ n, n = a1.dir.length := ⟨_, rfl⟩
    have hn1 : (n : Int) ≤ 2000 := by omega
    have hn0 : (0 : Int) ≤ (n : Int) := Int.natCast_nonneg _
    obtain ⟨W5, hW5⟩ : ∃ W5, W5 = wc.drew.setCells g P1 (Lib.byteCells ((b.drop P0).take (F - P0))) := ⟨_, rfl⟩
    obtain ⟨B6, hB6⟩ : ∃ B6, B6 = opened b k a1.dir.length := ⟨_, rfl⟩
    rw [← hB6] at e6 p1 p2 p3 p4
    rw [← hn] at B50 e6
    rw [← hW5] at w3
    have l5 := len_any w3.1
    rw [B50] at l5
    have y5 := lay_any w3.1 0 (n + 1) (by omega) (by omega)
    rw [e6, show ((n + 1 : Nat) : Int) = (n : Int) + 1 by omega] at y5
    have L5 := Lib.hid l5
    have Y5 := Lib.hid y5
    have T5 := Lib.hid (hT2.drew.trans' w3.2)
    have P5 := Lib.hid (show ∀ W, Ar W p g c B6 → Calls Try.prog 80 #[.pointer (some ⟨p, 0, none⟩), .string t] W fun e w' => e = .returned (.agg #[.int .i64 ((a1.low - t.size : Nat) : Int), .int .i64 (t.size : Int)]) ∧ (Ar w' p g c (standB B6 t.data.toList) ∧ Touch (both p g) W w') from fun W hh => by
      have := stand_any hh t (by omega) (by omega)
      rw [p2] at this
      exact this)
    have P6 := Lib.hid (show ∀ W, Ar W p g c (standB B6 t.data.toList) → Calls Try.prog 79 #[.pointer (some ⟨p, 0, none⟩), .int .i64 (k : Int), .agg #[.int .i64 ((a1.low - t.size : Nat) : Int), .int .i64 (t.size : Int)]] W fun e w' => e = .returned (.tuple #[]) ∧ (Area w' p g c (a1.putAt k t.data.toList) ∧ Touch (both p g) W w') from fun W hh => by
      have := point_any hh k (by omega) (a1.low - t.size) t.size (by omega) (by omega)
      exact this.mono fun _ _ ⟨x1, x2, x3⟩ => ⟨x1, ⟨⟨_, x2, p1⟩, putAt_ok hk1 (by omega) (by rw [htl]; omega)⟩, x3⟩)
    have HW5 := Lib.hid hW5
    clear p1 p2 p3 p4 e6 hpl B5l B50 w3 hn hB6 l5 y5 hT2 I2 hk1 r1 r2 r3 r4 r5 r6 r7 hi hfin hlow hn40 hlen htl hfd hP0 hP1 hF q0 q1 q2 A2 hW5
    generalize ((a1.low - t.size : Nat) : Int) = z1 at *
    go_wp2_with fail
    (refine wp_region_still_tail 17 (by kernel_rfl) (by kernel_rfl) (still_of_quiet _ _ ?_); simp only [List.take_succ_cons, List.take_zero, List.drop_succ_cons, List.drop_zero]; (repeat (first | go_big_quiet_skip | (go_big_quiet_want; go_big_quiet_op; first | go_big_quiet_on | (apply Exists.intro; refine ⟨?_, ?_⟩; (first | (go_at_call 81; exact quiet_one Q0.out) | (go_at_call 81; exact quiet_one Q1.out) | (go_at_call 82; exact quiet_one Q2.out)); go_big_quiet_on)))); refine wpQuiet_nil ?_)
    change wpList _ _ _ _ _ wc.drew
    refine wpList_copy_move RW.out rfl _ _ rfl P1 P0 F hPF hFb hP1b hcap rfl rfl ?_
    rw [← HW5.out]
    clear Q0 Q1 Q2 RW HW5 sl1 sl2
    go_wp2_with fail
    refine L5.out.mono ?_
    rintro e w' ⟨rfl, rfl⟩
    go_wp2_with fail
    refine Y5.out.mono ?_
    rintro e w6 ⟨rfl, h6⟩
    have P7 := Lib.hid (P5.out w6 h6.1)
    have T6 := Lib.hid (T5.out.trans' h6.2)
    clear h6 T5 Y5 L5 P5
    go_wp2_with fail
    refine P7.out.mono ?_
    rintro e w7 ⟨rfl, h7⟩
    have P8 := Lib.hid (P6.out w7 h7.1)
    have T7 := Lib.hid (T6.out.trans' h7.2)
    clear h7 T6 P7 P6
    go_wp2_with fail
    refine P8.out.mono ?_
    rintro e w8 ⟨rfl, h8⟩
    have T8 := Lib.hid (T7.out.trans' h8.2)
    have A8 := Lib.hid h8.1
    clear h8 T7 P8
    go_wp2_with fail
    go_ret
    exact ⟨rfl, A8.out, T8.out⟩
end

end Go.Proofs.Ytehfclgngkhcpaa.Slot
