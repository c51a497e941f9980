/-
  What the laws lean on.
-/
import Derived.Test.YtbdbnpcbbebelaaDoorZ24
import Derived.Test.YtbdbnpcbbebelaaDoorZ3
namespace Go.Proofs.YtbdbnpcbbebelaaDoor.Node
open Go.RowKit
open Go.Proofs.YtbdbnpcbbebelaaDoor.Page (Pg nth used pgV pgC CapOk zeroP InPg heavyB sameB)

theorem light_used {l : List ByteArray} (h : heavyB l = false) : used l ≤ 20000 := by
  have h1 := Page.used_wt l
  unfold Page.heavyB at h
  have h2 := of_decide_eq_false h
  omega

theorem same_self (p : Pg) : sameB p p = true := by unfold Page.sameB; simp
theorem wt_each {l : List ByteArray} (h : heavyB l = false) : l.length ≤ 4096 := by
  have h1 := Page.used_len l
  have h2 := Page.used_wt l
  unfold Page.heavyB at h
  have h3 := of_decide_eq_false h
  omega

end Go.Proofs.YtbdbnpcbbebelaaDoor.Node
