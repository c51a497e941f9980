/-
  Walks: the code's frames: how long, what is written, what bytes are.
-/
import Derived.Test.YtgohpompgiljiaaZ23
import Derived.Test.YtgohpompgiljiaaZ12
import Derived.Test.YtgohpompgiljiaaZ35
namespace Go.Proofs.Ytgohpompgiljiaa.Frame
open Go.RowKit
open Go.Proofs.Ytgohpompgiljiaa.Sum (le4 sumOf sealL seal_any clone_any)
attribute [local go_sem ↓] Go.wp_at_zero Go.wp_at_succ

def sizeI (n : Int) : Int := if 1 ≤ n ∧ n ≤ 4096 then n + 14 else 0
set_option maxRecDepth 100000 in
theorem fsize_any (n : Int) (w : World) (h : -9223372036854775808 ≤ n ∧ n ≤ 9223372036854775807) : Calls Try.prog 50 #[.int .i64 n] w fun e w' => e = .returned (.int .i64 (sizeI n)) ∧ w = w' := by
  by_cases h1 : n < 1
  · have e : sizeI n = 0 := by unfold sizeI; rw [if_neg (by omega)]
    rw [e]
    go_enter Try.func50, Try.ntmps50
    go_wp2_with fail
    go_ret
    exact ⟨rfl, rfl⟩
  by_cases h2 : 4096 < n
  · have e : sizeI n = 0 := by unfold sizeI; rw [if_neg (by omega)]
    rw [e]
    go_enter Try.func50, Try.ntmps50
    go_wp2_with fail
    go_ret
    exact ⟨rfl, rfl⟩
  have e : sizeI n = 14 + n := by unfold sizeI; rw [if_pos (by omega)]; omega
  rw [e]
  go_enter Try.func50, Try.ntmps50
  go_wp2_with fail
  go_ret
  exact ⟨rfl, rfl⟩

set_option maxRecDepth 100000 in
theorem behind_any (lsn u : Nat) (w : World) (hl : lsn < 18446744073709551616) (hu : u ≤ 100000) : Calls Try.prog 78 #[.int .u64 (lsn : Int), .int .i64 (u : Int)] w fun e w' => e = .returned (.int .u64 (beh lsn u : Int)) ∧ w = w' := by
  have w1 : IntKind.u64.wrap (u : Int) = (u : Int) := by rw [IntKind.wrap_u64]; omega
  have w2 : IntKind.u64.wrap ((lsn : Int) + (u : Int)) = (up lsn u : Int) := by rw [IntKind.wrap_u64]; unfold up; omega
  by_cases h : lsn + u < 18446744073709551616
  · rw [beh_of h]
    have f1 : ¬ up lsn u < lsn := by rw [up_of h]; omega
    generalize up lsn u = v at *
    go_enter Try.func78, Try.ntmps78
    go_wp2_with fail
    go_ret
    exact ⟨rfl, rfl⟩
  · have e : beh lsn u = 0 := by unfold beh; rw [if_neg h]
    rw [e]
    have f1 : up lsn u < lsn := by unfold up; omega
    generalize up lsn u = v at *
    go_enter Try.func78, Try.ntmps78
    go_wp2_with fail
    go_ret
    exact ⟨rfl, rfl⟩

/-- what Put is, of a number that has room -/
theorem fput_any (n m : Nat) (w : World) (h1 : 1 ≤ m) (h8 : m ≤ 8) (hn : n < 256 ^ m) :
    Calls Try.prog 51 #[.int .u64 (n : Int), .int .i64 (m : Int)] w fun e w' => e = .returned (.tuple #[.string (nb m n), .bool (putB (n : Int) (m : Int))]) ∧ Below w.heap.size w w' := by
  have K := put_any (n : Int) (m : Int) w (u64_of h8 hn)
  rw [putS_nb h1 h8 hn] at K
  exact K
/-- a sealed text -/
def sealT (s : ByteArray) : ByteArray := s ++ sb (sumOf (L s))
theorem fseal_any (s : ByteArray) (w : World) (hs : s.size ≤ 281474976710) :
    Calls Try.prog 52 #[.string s] w fun e w' => e = .returned (.string (sealT s)) ∧ Below w.heap.size w w' := by
  have e : (⟨(sealL s.data.toList).toArray⟩ : ByteArray) = sealT s := by
    apply L_ext
    unfold sealT sealL
    rw [L_app, L_sb]
  have := seal_any s w hs
  rw [e] at this
  exact this
theorem seal_size (s : ByteArray) : (sealT s).size = s.size + 4 := by unfold sealT; rw [ByteArray.size_append, sb_size]
theorem seal_cut (s : ByteArray) : (sealT s).extract s.size (sealT s).size = sb (sumOf (L s)) := by
  apply L_ext
  rw [L_cut, seal_size]
  unfold sealT
  rw [L_app, List.drop_left' (L_len s), List.take_of_length_le (by rw [L_sb]; show 4 ≤ _; omega)]

set_option maxRecDepth 100000 in
set_option maxHeartbeats 1000000 in
theorem fencode_any (lsn : Nat) (s : ByteArray) (w : World) (hl : lsn < 18446744073709551616) (hs : s.size ≤ 140737488351232) :
    Calls Try.prog 28 #[.int .u64 (lsn : Int), .string s] w fun e w' => e = .returned (.tuple #[.string (encF lsn s), .int .i64 (encE lsn s : Int)]) ∧ Below w.heap.size w w' := by
  have KZ := Lib.hid (fun W => fsize_any (s.size : Int) W (by omega))
  by_cases h1 : s.size < 1 ∨ 4096 < s.size
  · have E := Lib.hid (mayF_no (lsn := lsn) (s := s) (by omega))
    have e : sizeI (s.size : Int) = 0 := by unfold sizeI; rw [if_neg (by omega)]
    rw [e] at KZ
    clear hl h1 e
    go_enter Try.func28, Try.ntmps28
    go_wp2_with fail
    refine (KZ.out _).mono ?_
    rintro e w1 ⟨rfl, rfl⟩
    go_wp2_with fail
    go_ret2
    exact ⟨by rw [E.out.1, E.out.2]; rfl, Below.refl _ _⟩
  have e : sizeI (s.size : Int) = 14 + (s.size : Int) := by unfold sizeI; rw [if_pos (by omega)]; omega
  have e0 : ((14 + (s.size : Int)) == 0) = false := by rw [beq_eq_false_iff_ne]; omega
  rw [e] at KZ
  clear e
  by_cases h3 : lsn = 0
  · have E := Lib.hid (mayF_no (lsn := lsn) (s := s) (by omega))
    have hz : ((lsn : Int) == 0) = true := by rw [h3]; rfl
    clear hl h1 h3
    go_enter Try.func28, Try.ntmps28
    go_wp2_with fail
    refine (KZ.out _).mono ?_
    rintro e w1 ⟨rfl, rfl⟩
    go_wp2_with fail
    go_ret2
    exact ⟨by rw [E.out.1, E.out.2]; rfl, Below.refl _ _⟩
  have hz : ((lsn : Int) == 0) = false := by rw [beq_eq_false_iff_ne]; omega
  have E := Lib.hid (mayF_yes (lsn := lsn) (s := s) (by omega) (by omega) (Nat.pos_of_ne_zero h3)).2
  have K2 := Lib.hid (fun W => (show Calls Try.prog 51 #[.int .u64 (s.size : Int), .int .i64 2] W fun e w' => e = .returned (.tuple #[.string (nb 2 s.size), .bool (putB (s.size : Int) ((2 : Nat) : Int))]) ∧ Below W.heap.size W w' from fput_any s.size 2 W (by decide) (by decide) (by omega)))
  have K8 := Lib.hid (fun W => (show Calls Try.prog 51 #[.int .u64 (lsn : Int), .int .i64 8] W fun e w' => e = .returned (.tuple #[.string (nb 8 lsn), .bool (putB (lsn : Int) ((8 : Nat) : Int))]) ∧ Below W.heap.size W w' from fput_any lsn 8 W (by decide) (by decide) (by omega)))
  have KS := Lib.hid (fun W => fseal_any (hdF lsn s ++ s) W (by rw [ByteArray.size_append, hd_size]; omega))
  have wz : IntKind.u64.wrap (s.size : Int) = (s.size : Int) := by rw [IntKind.wrap_u64]; omega
  have z2 : (nb 2 s.size).size ≤ 2 := by rw [nb_size]; omega
  have z8 : (nb 8 lsn).size ≤ 8 := by rw [nb_size]; omega
  have zl : (nb 2 s.size ++ nb 8 lsn).size = 10 := by rw [ByteArray.size_append, nb_size, nb_size]
  have z4 := sb_size (sumOf (L (hdF lsn s ++ s)))
  have z4' : (sb (sumOf (L (hdF lsn s ++ s)))).size ≤ 4 := by omega
  have zs := seal_size (hdF lsn s ++ s)
  have cs := seal_cut (hdF lsn s ++ s)
  unfold bodF at E
  unfold hdF at *
  clear hl z4 h3
  generalize nb 2 s.size = a at *
  generalize nb 8 lsn = b at *
  generalize sealT _ = T at *
  generalize sb _ = c at *
  generalize putB _ _ = q1 at *
  generalize putB _ _ = q2 at *
  have zw : IntKind.i64.wrap (((a ++ b).size : Int) + (s.size : Int)) = ((a ++ b ++ s).size : Int) := by rw [IntKind.wrap_i64, ByteArray.size_append (a := a ++ b)]; omega
  have zT : (a ++ b ++ s).size ≤ T.size := by omega
  have CE := Lib.hid (show T.extract (10 + s.size) (10 + s.size + 4) = c from by
    rw [show (a ++ b ++ s).size = 10 + s.size from by rw [ByteArray.size_append, zl]] at cs zs
    rw [zs] at cs
    exact cs)
  clear cs
  go_enter Try.func28, Try.ntmps28
  go_wp2_with fail
  refine (KZ.out _).mono ?_
  rintro e w1 ⟨rfl, rfl⟩
  go_wp2_with fail
  refine (K2.out _).mono ?_
  rintro e w1 ⟨rfl, b1⟩
  have B1 := Lib.hid b1
  clear b1 K2
  go_wp2_with fail
  refine (K8.out _).mono ?_
  rintro e w2 ⟨rfl, b2⟩
  have B2 := Lib.hid (B1.out.trans (b2.mono B1.out.size))
  clear b2 K8 B1
  go_wp2_with fail
  refine (KS.out _).mono ?_
  rintro e w3 ⟨rfl, b3⟩
  have B3 := Lib.hid (B2.out.trans (b3.mono B2.out.size))
  clear b3 KS B2
  go_wp2_with fail
  go_ret2
  exact ⟨by rw [E.out.1, E.out.2, ← CE.out]; rfl, B3.out⟩

end Go.Proofs.Ytgohpompgiljiaa.Frame
