/-
  Walks: ops' bytes (the document).
  Walks: OpFill's bytes (the document).
-/
import Derived.Test.YtfcibccipkokoaaZ6
import Derived.Test.YtfcibccipkokoaaZ2
import Derived.Test.YtfcibccipkokoaaZ1
namespace Go.Proofs.Ytfcibccipkokoaa.Op
open Go.RowKit
open Go.Proofs.Ytfcibccipkokoaa.Seq (strS Is)
open Go.Proofs.Ytfcibccipkokoaa.By
attribute [local go_sem ↓] Go.wp_at_zero Go.wp_at_succ

theorem putS_nb {n m : Nat} (h1 : 1 ≤ m) (h8 : m ≤ 8) (hn : n < 256 ^ m) : putS (n : Int) (m : Int) = nb m n := by
  have h : (n : Int) / 2 ^ (8 * m) = 0 := by
    have : n / 2 ^ (8 * m) = 0 := Nat.div_eq_of_lt (by rw [pow256]; exact hn)
    have e : ((n / 2 ^ (8 * m) : Nat) : Int) = 0 := by rw [this]; rfl
    rw [← e]; simp
  have hb : putB (n : Int) (m : Int) = true := by
    unfold putB
    rw [Int.toNat_natCast, h]
    exact decide_eq_true ⟨by omega, by omega, rfl⟩
  unfold putS
  rw [if_pos hb]
  unfold bytesOf nb
  rw [Int.toNat_natCast, Int.toNat_natCast]
theorem small {x y : Nat} (h : x + y ≤ 9223372036854775807) : (9223372036854775807 < x + y) = False := by simp only [eq_iff_iff, iff_false]; omega
/-- GEN -/
theorem gen_mark : True := trivial
end Go.Proofs.Ytfcibccipkokoaa.Op

namespace Go.Proofs.Ytfcibccipkokoaa.Op
open Go.RowKit
open Go.Proofs.Ytfcibccipkokoaa.Seq (strS Is)
open Go.Proofs.Ytfcibccipkokoaa.By
attribute [local go_sem ↓] Go.wp_at_zero Go.wp_at_succ

theorem tb_len (l : List ByteArray) : (l.flatMap tb).length = 2 * l.length + total l := by
  induction l with
  | nil => rfl
  | cons x l ih =>
    have e : (tb x).length = 2 + x.size := by unfold tb; rw [List.length_append, be_length, L_len]
    rw [List.flatMap_cons, List.length_append, ih, e, List.length_cons, total_cons]
    omega
end Go.Proofs.Ytfcibccipkokoaa.Op
