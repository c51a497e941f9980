/-
  Walks: the code's frames: what bytes are.
-/
import Derived.Test.YtgohpompgiljiaaZ36
namespace Go.Proofs.Ytgohpompgiljiaa.Frame
open Go.RowKit
open Go.Proofs.Ytgohpompgiljiaa.Sum (sumOf clone_any)
attribute [local go_sem ↓] Go.wp_at_zero Go.wp_at_succ

set_option maxRecDepth 100000 in
set_option maxHeartbeats 1000000 in
theorem fdecode_any (s : ByteArray) (lsn : Nat) (w : World) (hl : lsn < 18446744073709551616) (hs : s.size ≤ 140737488351232) :
    Calls Try.prog 77 #[.string s, .int .u64 (lsn : Int)] w fun e w' => e = .returned (.tuple #[.string (decS s lsn), .int .i64 (decU s lsn : Int), .int .i64 (decE s lsn : Int)]) ∧ Below w.heap.size w w' := by
  by_cases h1 : s.size < 14
  · have e : decE s lsn = 6 := by unfold decE; rw [if_pos h1]
    rw [(dec_err e (by decide)).1, (dec_err e (by decide)).2, e]
    clear e hl
    go_enter Try.func77, Try.ntmps77
    go_wp2_with fail
    go_ret3
    exact ⟨rfl, Below.refl _ _⟩
  have G1 := Lib.hid (fun W => (show Calls Try.prog 69 #[.string s, .int .i64 0, .int .i64 2] W fun e w' => e = .returned (.tuple #[.int .u64 (nF s : Int), .bool (getB s 0 2)]) ∧ W = w' from by have := get_any s 0 2 W (by omega) (by omega); rw [(get_F (by omega)).1] at this; exact this))
  have G2 := Lib.hid (fun W => (show Calls Try.prog 69 #[.string s, .int .i64 2, .int .i64 8] W fun e w' => e = .returned (.tuple #[.int .u64 (aF s : Int), .bool (getB s 2 8)]) ∧ W = w' from by have := get_any s 2 8 W (by omega) (by omega); rw [(get_F (by omega)).2] at this; exact this))
  have hn := nF_lt s
  have ha := aF_lt s
  have wn : IntKind.i64.wrap (nF s : Int) = (nF s : Int) := by rw [IntKind.wrap_i64]; omega
  generalize getB s 0 2 = q1 at *
  generalize getB s 2 8 = q2 at *
  by_cases h0 : nF s = 0 ∨ 4096 < nF s
  · have e : decE s lsn = 7 := by unfold decE; rw [if_neg h1, if_pos (by omega)]
    rw [(dec_err e (by decide)).1, (dec_err e (by decide)).2, e]
    have KZ := Lib.hid (fun W => fsize_any (nF s : Int) W (by omega))
    rw [show sizeI (nF s : Int) = 0 from by unfold sizeI; rw [if_neg (by omega)]] at KZ
    clear e hl h0
    generalize nF s = n at *
    generalize aF s = a at *
    go_enter Try.func77, Try.ntmps77
    go_wp2_with fail
    refine (G1.out _).mono ?_
    rintro e w1 ⟨rfl, rfl⟩
    go_wp2_with fail
    refine (G2.out _).mono ?_
    rintro e w1 ⟨rfl, rfl⟩
    go_wp2_with fail
    refine (KZ.out _).mono ?_
    rintro e w1 ⟨rfl, rfl⟩
    go_wp2_with fail
    go_ret3
    exact ⟨rfl, Below.refl _ _⟩
  have KZ := Lib.hid (fun W => fsize_any (nF s : Int) W (by omega))
  rw [show sizeI (nF s : Int) = 14 + (nF s : Int) from by unfold sizeI; rw [if_pos (by omega)]; omega] at KZ
  have z1 : ((14 + (nF s : Int)) == 0) = false := by rw [beq_eq_false_iff_ne]; omega
  by_cases h2 : aF s ≠ lsn ∨ lsn = 0
  · have e : decE s lsn = 7 := by unfold decE; rw [if_neg h1, if_pos (by omega)]
    rw [(dec_err e (by decide)).1, (dec_err e (by decide)).2, e]
    have h3 : ((aF s : Int) != lsn) = true ∨ (((aF s : Int) != lsn) = false ∧ ((lsn : Int) == 0) = true) := by
      by_cases h : aF s = lsn
      · refine .inr ⟨by rw [h]; simp, ?_⟩
        rw [show lsn = 0 from by omega]; rfl
      · exact .inl (by rw [bne_iff_ne]; omega)
    clear e h2 h0 hl
    generalize nF s = n at *
    generalize aF s = a at *
    rcases h3 with h3 | ⟨h3, h4⟩
    all_goals
      go_enter Try.func77, Try.ntmps77
      go_wp2_with fail
      refine (G1.out _).mono ?_
      rintro e w1 ⟨rfl, rfl⟩
      go_wp2_with fail
      refine (G2.out _).mono ?_
      rintro e w1 ⟨rfl, rfl⟩
      go_wp2_with fail
      refine (KZ.out _).mono ?_
      rintro e w1 ⟨rfl, rfl⟩
      go_wp2_with fail
      go_ret3
      exact ⟨rfl, Below.refl _ _⟩
  have z2 : ((aF s : Int) != lsn) = false := by rw [show aF s = lsn by omega]; simp
  have z3 : ((lsn : Int) == 0) = false := by rw [beq_eq_false_iff_ne]; omega
  by_cases h3 : s.size < 14 + nF s
  · have e : decE s lsn = 6 := by unfold decE; rw [if_neg h1, if_neg (by omega), if_pos h3]
    rw [(dec_err e (by decide)).1, (dec_err e (by decide)).2, e]
    have h3' : decide ((s.size : Int) < 14 + (nF s : Int)) = true := by rw [decide_eq_true_iff]; omega
    clear e h2 h0 hl
    generalize nF s = n at *
    generalize aF s = a at *
    go_enter Try.func77, Try.ntmps77
    go_wp2_with fail
    refine (G1.out _).mono ?_
    rintro e w1 ⟨rfl, rfl⟩
    go_wp2_with fail
    refine (G2.out _).mono ?_
    rintro e w1 ⟨rfl, rfl⟩
    go_wp2_with fail
    refine (KZ.out _).mono ?_
    rintro e w1 ⟨rfl, rfl⟩
    go_wp2_with fail
    go_ret3
    exact ⟨rfl, Below.refl _ _⟩
  have h3' : decide ((s.size : Int) < 14 + (nF s : Int)) = false := by rw [decide_eq_false_iff_not]; omega
  have ET := Lib.hid (fun W => fencode_any lsn (s.extract 14 (14 + nF s)) W hl (by rw [ByteArray.size_extract]; omega))
  have CL := Lib.hid (fun W => clone_any (s.extract 14 (14 + nF s)) W (by rw [ByteArray.size_extract]; omega))
  have EQ := Lib.hid (show ((encF lsn (s.extract 14 (14 + nF s))).toList == (s.extract 0 (14 + nF s)).toList) = okF s from by
    rw [ne_of_list]; exact whole_iff (by omega) (by omega) (by omega) (by omega) (by omega))
  have E4 := Lib.hid (show decE s lsn = if okF s then 0 else 100 by unfold decE; rw [if_neg h1, if_neg (by omega), if_neg h3])
  have E5 := Lib.hid (fun h => dec_ok (s := s) (lsn := lsn) h)
  have E6 := Lib.hid (fun h => dec_err (s := s) (lsn := lsn) (e := 100) h (by decide))
  have b2 : (14 : Int) ≤ s.size := by omega
  have b3 : (14 : Int) ≤ 14 + (nF s : Int) := by omega
  have b4 : 14 + (nF s : Int) ≤ (s.size : Int) := by omega
  clear hl h2 h0
  generalize encF lsn _ = c at *
  generalize encE lsn _ = er at *
  generalize decE s lsn = E at *
  generalize decS s lsn = X at *
  generalize decU s lsn = U at *
  generalize okF s = K at *
  generalize nF s = n at *
  generalize aF s = a at *
  cases K with
  | false =>
    have f1 := EQ.out
    have e0 : E = 100 := E4.out
    have R6 := Lib.hid (show X = _ ∧ U = _ ∧ E = _ from ⟨(E6.out e0).1, (E6.out e0).2, e0⟩)
    clear EQ E4 E5 E6 e0
    go_enter Try.func77, Try.ntmps77
    go_wp2_with fail
    refine (G1.out _).mono ?_
    rintro e w1 ⟨rfl, rfl⟩
    go_wp2_with fail
    refine (G2.out _).mono ?_
    rintro e w1 ⟨rfl, rfl⟩
    go_wp2_with fail
    refine (KZ.out _).mono ?_
    rintro e w1 ⟨rfl, rfl⟩
    go_wp2_with fail
    refine (ET.out _).mono ?_
    rintro e w2 ⟨rfl, b2⟩
    have B2 := Lib.hid b2
    clear b2 ET
    go_wp2_with fail
    go_ret3
    exact ⟨by rw [R6.out.1, R6.out.2.1, R6.out.2.2]; rfl, B2.out⟩
  | true =>
    have f1 := EQ.out
    have e0 : E = 0 := E4.out
    have R5 := Lib.hid (show X = _ ∧ U = _ ∧ E = _ from ⟨(E5.out e0).1, (E5.out e0).2, e0⟩)
    clear EQ E4 E5 E6 e0
    go_enter Try.func77, Try.ntmps77
    go_wp2_with fail
    refine (G1.out _).mono ?_
    rintro e w1 ⟨rfl, rfl⟩
    go_wp2_with fail
    refine (G2.out _).mono ?_
    rintro e w1 ⟨rfl, rfl⟩
    go_wp2_with fail
    refine (KZ.out _).mono ?_
    rintro e w1 ⟨rfl, rfl⟩
    go_wp2_with fail
    refine (ET.out _).mono ?_
    rintro e w2 ⟨rfl, b2⟩
    have B2 := Lib.hid b2
    clear b2 ET
    go_wp2_with fail
    refine (CL.out _).mono ?_
    rintro e w3 ⟨rfl, b3⟩
    have B3 := Lib.hid (B2.out.trans (b3.mono B2.out.size))
    clear b3 CL B2
    go_wp2_with fail
    go_ret3
    exact ⟨by rw [R5.out.1, R5.out.2.1, R5.out.2.2]; rfl, B3.out⟩

end Go.Proofs.Ytgohpompgiljiaa.Frame
