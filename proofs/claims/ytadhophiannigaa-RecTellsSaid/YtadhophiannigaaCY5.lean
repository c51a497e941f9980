/- Walks: which records may be, in the document; what stands where; the bytes of small records. -/
import Derived.Test.YtadhophiannigaaCY4
import Derived.Test.YtadhophiannigaaCM5
import Derived.Test.YtadhophiannigaaCW8
namespace Go.Proofs.Ytadhophiannigaa.Rec
open Go.RowKit
attribute [local go_sem ↓] Go.wp_at_zero Go.wp_at_succ

set_option maxRecDepth 100000 in
set_option maxHeartbeats 4000000 in
theorem rmay0 {w : World} {r : Rc} {d t : Value} (h : InR w r d t) (h1 : r.kind ≠ 1) (h5 : r.kind ≠ 5) (h7 : r.kind ≠ 7) (h2 : r.kind ≠ 2) (h6 : r.kind ≠ 6) (h3 : r.kind ≠ 3) (h4 : r.kind ≠ 4) (h8 : r.kind ≠ 8) :
    Calls Try.prog 12 #[recV r d t] w fun e w' => e = .returned (.bool (rmayC r)) ∧ Below w.heap.size w w' := by
  obtain ⟨ad, c, rfl⟩ := h.di.form
  obtain ⟨ad2, c2, rfl⟩ := h.ac.form
  clear h
  have T0 := Lib.hid (Rm.start w r (.slice ad r.dirty.length c) (.slice ad2 r.txns.length c2))
  have e : rmayC r = false := by unfold rmayC hasC; simp [h1, h2, h3, h4, h5, h6, h7, h8]
  rw [e]
  clear e
  have f1 : ((r.kind : Int) == 1) = false := num_no h1
  have f2 : ((r.kind : Int) == 2) = false := num_no h2
  have f3 : ((r.kind : Int) == 3) = false := num_no h3
  have f4 : ((r.kind : Int) == 4) = false := num_no h4
  have f5 : ((r.kind : Int) == 5) = false := num_no h5
  have f6 : ((r.kind : Int) == 6) = false := num_no h6
  have f7 : ((r.kind : Int) == 7) = false := num_no h7
  have f8 : ((r.kind : Int) == 8) = false := num_no h8
  obtain ⟨a0, a1, a2, a3, a4, a5, a6, a7, a8, a9, a10, a11⟩ := T0.out.a.all
  unfold recV recC at *
  go_enter Try.func12, Try.ntmps12
  go_wp2_with fail
  go_ret
  exact ⟨rfl, T0.out.a.below⟩
theorem rmay_any {w : World} {r : Rc} {d t : Value} (h : InR w r d t) :
    Calls Try.prog 12 #[recV r d t] w fun e w' => e = .returned (.bool (mayC r)) ∧ Below w.heap.size w w' := by
  rw [← may_eq]
  by_cases h1 : r.kind = 1
  · obtain ⟨kind, tx, prev, page, slot, next, number, body, dirty, txns, ttx, tnum⟩ := r
    simp only at h1
    subst h1
    exact rmay1 h
  by_cases h5 : r.kind = 5
  · obtain ⟨kind, tx, prev, page, slot, next, number, body, dirty, txns, ttx, tnum⟩ := r
    simp only at h5
    subst h5
    exact rmay5 h
  by_cases h7 : r.kind = 7
  · obtain ⟨kind, tx, prev, page, slot, next, number, body, dirty, txns, ttx, tnum⟩ := r
    simp only at h7
    subst h7
    exact rmay7 h
  by_cases h2 : r.kind = 2
  · obtain ⟨kind, tx, prev, page, slot, next, number, body, dirty, txns, ttx, tnum⟩ := r
    simp only at h2
    subst h2
    exact rmay2 h
  by_cases h6 : r.kind = 6
  · obtain ⟨kind, tx, prev, page, slot, next, number, body, dirty, txns, ttx, tnum⟩ := r
    simp only at h6
    subst h6
    exact rmay6 h
  by_cases h3 : r.kind = 3
  · obtain ⟨kind, tx, prev, page, slot, next, number, body, dirty, txns, ttx, tnum⟩ := r
    simp only at h3
    subst h3
    exact rmay3 h
  by_cases h4 : r.kind = 4
  · obtain ⟨kind, tx, prev, page, slot, next, number, body, dirty, txns, ttx, tnum⟩ := r
    simp only at h4
    subst h4
    exact rmay4 h
  by_cases h8 : r.kind = 8
  · obtain ⟨kind, tx, prev, page, slot, next, number, body, dirty, txns, ttx, tnum⟩ := r
    simp only at h8
    subst h8
    exact rmay8 h
  exact rmay0 h h1 h5 h7 h2 h6 h3 h4 h8

set_option maxRecDepth 100000 in
set_option maxHeartbeats 1000000 in
theorem rget2_any (s : ByteArray) (a n : Nat) (w : World) (hs : s.size ≤ 140737488351232) (ha : a ≤ 140737488351232) (h1 : 1 ≤ n) (h8 : n ≤ 8) :
    Calls Try.prog 32 #[.string s, .int .i64 (a : Int), .int .i64 (n : Int)] w fun e w' => e = .returned (.int .u64 (tkN s a n : Int)) ∧ w = w' := by
  have e : getN s (a : Int) (n : Int) = (tkN s a n : Int) := by
    unfold getN getB hasB mayB tkN
    by_cases h : a + n ≤ s.size
    · rw [if_pos h, if_pos]
      · rfl
      · simp only [Bool.and_eq_true, decide_eq_true_eq]; omega
    · rw [if_neg h, if_neg]
      · rfl
      · simp only [Bool.and_eq_true, decide_eq_true_eq]; omega
  have K := rget_any s (a : Int) (n : Int) w (by omega) (by omega) (by omega)
  rw [e] at K
  have KK := Lib.hid K
  clear K e hs ha h1 h8
  generalize getB s (a : Int) (n : Int) = b at *
  generalize tkN s a n = v at *
  go_enter Try.func32, Try.ntmps32
  go_wp2_with fail
  refine KK.out.mono ?_
  rintro e w1 ⟨rfl, rfl⟩
  go_wp2_with fail
  go_ret
  exact ⟨rfl, rfl⟩

theorem cut_high (s : ByteArray) (i : Nat) (h : i ≤ s.size) (W : World) : (Instr.sliceAt 9 (.string s) (some (.int .i64 (i : Int))) none none).run Try.prog W = .ok (.string (s.extract i s.size)) W := by
  rw [run_sliceAt_string (P := Try.prog) W 9 _ _ _ _ Try.underlying9, run_slice_string_l (P := Try.prog) W 9 s Try.underlying9 .i64 _ (by omega) (by omega), Int.toNat_natCast]
set_option maxRecDepth 100000 in
set_option maxHeartbeats 1000000 in
theorem rest_any (s : ByteArray) (a : Nat) (w : World) (_hs : s.size ≤ 140737488351232) (_ha : a ≤ 140737488351232) :
    Calls Try.prog 33 #[.string s, .int .i64 (a : Int)] w fun e w' => e = .returned (.string (restS s a)) ∧ w = w' := by
  by_cases h : a ≤ s.size
  · have e : restS s a = s.extract a s.size := if_pos h
    have hc := fun W => cut_high s a h W
    rw [e]
    clear e
    generalize s.extract a s.size = y at *
    go_enter Try.func33, Try.ntmps33
    go_wp2_with fail
    go_ret
    exact ⟨rfl, rfl⟩
  · have e : restS s a = ⟨#[]⟩ := if_neg h
    rw [e]
    clear e
    go_enter Try.func33, Try.ntmps33
    go_wp2_with fail
    go_ret
    exact ⟨rfl, rfl⟩

end Go.Proofs.Ytadhophiannigaa.Rec
