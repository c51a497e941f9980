/-
  Walks: which ops may be, what lists' bytes are, which list bytes are.
-/
import Derived.Deep.RegionLaw
import Derived.Test.YtfcibccipkokoaaZ16
import Derived.Test.YtfcibccipkokoaaZ17
import Derived.Test.YtfcibccipkokoaaZ18
import Derived.Test.YtfcibccipkokoaaZ4
namespace Go.Proofs.Ytfcibccipkokoaa.Op
open Go.RowKit
open Go.Proofs.Ytfcibccipkokoaa.Seq (strS Is)
open Go.Proofs.Ytfcibccipkokoaa.By
attribute [local go_sem ↓] Go.wp_at_zero Go.wp_at_succ

theorem decR_len (s : ByteArray) : (decR s).length ≤ 32 := by
  unfold decR
  cases h : decL s with
  | none => exact Nat.zero_le _
  | some l =>
    have := (enc_dec h).1
    exact (enc_ok this).1

end Go.Proofs.Ytfcibccipkokoaa.Op
