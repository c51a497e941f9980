/- Walks: which rows, and entries, are the same. -/
import Derived.Test.YtobnenjhmkbdoaaDoorOA
namespace Go.Proofs.YtobnenjhmkbdoaaDoor.Row
open Go.RowKit
attribute [local go_sem ↓] Go.wp_at_zero Go.wp_at_succ

theorem list_inj {a b : ByteArray} (h : a.toList = b.toList) : a = b := by
  rw [Lib.toList_data, Lib.toList_data] at h
  exact ByteArray.ext (Array.toList_inj.1 h)
theorem beq_yes (s : ByteArray) : (s.toList == s.toList) = true := by simp
theorem beq_no {s t : ByteArray} (h : s ≠ t) : (s.toList == t.toList) = false := by
  rw [beq_eq_false_iff_ne]
  exact fun e => h (list_inj e)

set_option maxRecDepth 100000 in
set_option maxHeartbeats 1000000 in
theorem ent_ne {a b : En} (h : a ≠ b) (W : World) : (binOp .eql 42 (enV a) (enV b)).run Tryd.prog W = .ok (.bool false) W := by
  unfold enV enC
  go_simp
  intro h1 h2
  refine h ?_
  obtain ⟨k, c⟩ := a
  obtain ⟨k2, c2⟩ := b
  simp only at h1 h2
  rw [list_inj h1, show c = c2 by omega]

set_option maxRecDepth 100000 in
set_option maxHeartbeats 1000000 in
theorem ent_same (a : En) (W : World) : (binOp .eql 42 (enV a) (enV a)).run Tryd.prog W = .ok (.bool true) W := by
  unfold enV enC
  go_simp
set_option maxRecDepth 100000 in
set_option maxHeartbeats 1000000 in
theorem row_same (a : Rw) (W : World) : (binOp .eql 28 (rwV a) (rwV a)).run Tryd.prog W = .ok (.bool true) W := by
  unfold rwV rwC
  go_simp

set_option maxRecDepth 100000 in
set_option maxHeartbeats 2000000 in
theorem row_ne {a b : Rw} (h : a ≠ b) (W : World) : (binOp .eql 28 (rwV a) (rwV b)).run Tryd.prog W = .ok (.bool false) W := by
  unfold rwV rwC
  go_simp
  intro h1 h2 h3 h4 h5 h6 h7
  refine h ?_
  obtain ⟨k, m, t, p, s, v, d⟩ := a
  obtain ⟨k2, m2, t2, p2, s2, v2, d2⟩ := b
  simp only at h1 h2 h3 h4 h5 h6 h7
  rw [list_inj h1, h2, show t = t2 by omega, show p = p2 by omega, show s = s2 by omega, list_inj h6, h7]

end Go.Proofs.YtobnenjhmkbdoaaDoor.Row
