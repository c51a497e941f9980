/-
  Walks: an op that is read (the document): drops, cuts, nexts, patches, none.
-/
import Derived.Test.YtfcibccipkokoaaZ10
namespace Go.Proofs.Ytfcibccipkokoaa.Op
open Go.RowKit
open Go.Proofs.Ytfcibccipkokoaa.Seq (strS Is Own)
open Go.Proofs.Ytfcibccipkokoaa.By
attribute [local go_sem ↓] Go.wp_at_zero Go.wp_at_succ

end Go.Proofs.Ytfcibccipkokoaa.Op
