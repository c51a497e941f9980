/- Walks: the document's frame. -/
import Derived.Test.YtbcifefldmmaeaaFR1
namespace Go.Proofs.Ytbcifefldmmaeaa.Frame
open Go.RowKit
open Go.Proofs.Ytbcifefldmmaeaa.Sum (sumOf)
attribute [local go_sem ↓] Go.wp_at_zero Go.wp_at_succ

theorem mayF_no {lsn : Nat} {s : ByteArray} (h : s.size < 1 ∨ 4096 < s.size ∨ lsn = 0) : encF lsn s = ⟨#[]⟩ ∧ encE lsn s = 2 := by
  have hb : mayF lsn s = false := by unfold mayF; rw [decide_eq_false_iff_not]; omega
  unfold encF encE
  rw [if_neg (by rw [hb]; decide), if_neg (by rw [hb]; decide)]
  exact ⟨rfl, rfl⟩
theorem mayF_yes {lsn : Nat} {s : ByteArray} (h1 : ¬ s.size < 1) (h2 : ¬ 4096 < s.size) (h3 : 0 < lsn) : mayF lsn s = true ∧ encF lsn s = bodF lsn s ∧ encE lsn s = 0 := by
  have hb : mayF lsn s = true := by unfold mayF; rw [decide_eq_true_iff]; omega
  unfold encF encE
  rw [if_pos hb, if_pos hb]
  exact ⟨hb, rfl, rfl⟩

set_option maxRecDepth 100000 in
set_option maxHeartbeats 1000000 in
theorem rencode_any (lsn : Nat) (s : ByteArray) (w : World) (hl : lsn < 18446744073709551616) (hs : s.size ≤ 140737488351232) :
    Calls Try.prog 9 #[.int .u64 (lsn : Int), .string s] w fun e w' => e = .returned (.string (encF lsn s)) ∧ Below w.heap.size w w' := by
  by_cases h1 : s.size < 1
  · have E := Lib.hid (mayF_no (lsn := lsn) (.inl h1)).1
    clear hl
    go_enter Try.func9, Try.ntmps9
    go_wp2_with fail
    go_ret
    exact ⟨by rw [E.out]; rfl, Below.refl _ _⟩
  by_cases h2 : 4096 < s.size
  · have E := Lib.hid (mayF_no (lsn := lsn) (.inr (.inl h2))).1
    clear hl
    go_enter Try.func9, Try.ntmps9
    go_wp2_with fail
    go_ret
    exact ⟨by rw [E.out]; rfl, Below.refl _ _⟩
  by_cases h3 : lsn = 0
  · have E := Lib.hid (mayF_no (s := s) (.inr (.inr h3))).1
    have hz : ((lsn : Int) == 0) = true := by rw [h3]; rfl
    clear hl h3
    go_enter Try.func9, Try.ntmps9
    go_wp2_with fail
    go_ret
    exact ⟨by rw [E.out]; rfl, Below.refl _ _⟩
  have hz : ((lsn : Int) == 0) = false := by rw [beq_eq_false_iff_ne]; omega
  have E := Lib.hid (mayF_yes h1 h2 (Nat.pos_of_ne_zero h3)).2.1
  have K2 := Lib.hid (fun W => (show Calls Try.prog 18 #[.int .u64 (s.size : Int), .int .i64 2] W fun e w' => e = .returned (.string (nb 2 s.size)) ∧ Below W.heap.size W w' from rput2_any s.size 2 W (by decide) (by decide) (by omega)))
  have K8 := Lib.hid (fun W => (show Calls Try.prog 18 #[.int .u64 (lsn : Int), .int .i64 8] W fun e w' => e = .returned (.string (nb 8 lsn)) ∧ Below W.heap.size W w' from rput2_any lsn 8 W (by decide) (by decide) (by omega)))
  have KS := Lib.hid (fun W => rsum_any (hdF lsn s ++ s) W (by rw [ByteArray.size_append, hd_size]; omega))
  have wz : IntKind.u64.wrap (s.size : Int) = (s.size : Int) := by rw [IntKind.wrap_u64]; omega
  have z2 : (nb 2 s.size).size ≤ 2 := by rw [nb_size]; omega
  have z8 : (nb 8 lsn).size ≤ 8 := by rw [nb_size]; omega
  have z4 := sb_size (sumOf (L (hdF lsn s ++ s)))
  have z4' : (sb (sumOf (L (hdF lsn s ++ s)))).size ≤ 4 := by omega
  unfold bodF at E
  unfold hdF at *
  clear hl z4 h3
  generalize nb 2 s.size = a at *
  generalize nb 8 lsn = b at *
  generalize sb _ = c at *
  have za : (a ++ b).size ≤ 10 := by rw [ByteArray.size_append]; omega
  go_enter Try.func9, Try.ntmps9
  go_wp2_with fail
  refine (K2.out _).mono ?_
  rintro e w1 ⟨rfl, b1⟩
  have B1 := Lib.hid b1
  clear b1 K2
  go_wp2_with fail
  refine (K8.out _).mono ?_
  rintro e w2 ⟨rfl, b2⟩
  have B2 := Lib.hid (B1.out.trans (b2.mono B1.out.size))
  clear b2 K8 B1
  go_wp2_with fail
  refine (KS.out _).mono ?_
  rintro e w3 ⟨rfl, b3⟩
  have B3 := Lib.hid (B2.out.trans (b3.mono B2.out.size))
  clear b3 KS B2
  go_wp2_with fail
  go_ret
  exact ⟨by rw [E.out]; rfl, B3.out⟩

end Go.Proofs.Ytbcifefldmmaeaa.Frame
