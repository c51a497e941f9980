/-
  Walks: an op that is read (the document): formats, puts, sets.
-/
import Derived.Test.YticnbicnefnhbaaZ10
namespace Go.Proofs.Yticnbicnefnhbaa.Op
open Go.RowKit
open Go.Proofs.Yticnbicnefnhbaa.Seq (strS Is Own)
open Go.Proofs.Yticnbicnefnhbaa.By
attribute [local go_sem ↓] Go.wp_at_zero Go.wp_at_succ

set_option maxRecDepth 100000 in
set_option maxHeartbeats 4000000 in
theorem gone1 {W0 w : World} {g B : Nat} {s : ByteArray} {r : Rd} (G : Gt W0 w g B s r) (hs : s.size ≤ 100000) (hB : s.size ≤ B ∧ B ≤ 800000000) (hkk : (nV 1 r).1 = 1) :
    Calls Try.prog 36 #[.pointer (some ⟨g, 0, none⟩)] w (OneP W0 w g B s r) := by
  have hz : oC O.zero nilV = #[.int .u8 0, .int .u32 0, .int .i64 0, .int .i64 0, .string ⟨#[]⟩, .slice none 0 0, .int .u8 0, .int .u8 0, .int .u32 0] := rfl
  have F0 := Lib.hid (show Gt W0 (w.alloc (.cells #[.int .u8 0, .int .u32 0, .int .i64 0, .int .i64 0, .string ⟨#[]⟩, .slice none 0 0, .int .u8 0, .int .u8 0, .int .u32 0] 26)) g B s r from G.later (below_new w _))
  have R0 := Lib.hid (show (w.alloc (.cells #[.int .u8 0, .int .u32 0, .int .i64 0, .int .i64 0, .string ⟨#[]⟩, .slice none 0 0, .int .u8 0, .int .u8 0, .int .u32 0] 26)).heap[w.heap.size]? = some (.cells (oC O.zero nilV) 26 (0, 0)) from by rw [hz]; exact heap_alloc_new w _)
  obtain ⟨k, r1, hk⟩ : ∃ k r1, nV 1 r = (k, r1) := ⟨_, _, rfl⟩
  obtain ⟨p, r2, hp⟩ : ∃ p r2, nV 4 r1 = (p, r2) := ⟨_, _, rfl⟩
  have hk8 := nx1 hk
  have hp4 := nx4 hp
  rw [hk] at hkk
  simp only at hkk
  have HE : opV r = tailV k p r2 := by unfold opV; rw [hk, hp]
  have E0 := Lib.hid HE
  have K1 := Lib.hid (gn1 F0.out hs (by omega) hk)
  have gb := G.base
  have HP := Lib.hid hp
  clear hk hp HE
  have wk : IntKind.u8.wrap (k : Int) = (k : Int) := by rw [IntKind.wrap_u8]; omega
  have HKK := Lib.hid hkk
  clear hz hkk
  go_enter Try.func36, Try.ntmps36
  go_upto_region 2 with (go_at_call 35; (with_reducible refine K1.out.mono ?_); rintro e w1 ⟨rfl, G1, U1⟩)
  have G2 := Lib.hid (show Gt W0 (w1.alloc (.cells #[.int .u8 (k : Int), .int .u32 0, .int .i64 0, .int .i64 0, .string ⟨#[]⟩, .slice none 0 0, .int .u8 0, .int .u8 0, .int .u32 0] 26)) g (B + 8) s r1 from G1.later (below_new w1 _))
  have S1 := Lib.hid (show Op.G1 w (w1.alloc (.cells #[.int .u8 (k : Int), .int .u32 0, .int .i64 0, .int .i64 0, .string ⟨#[]⟩, .slice none 0 0, .int .u8 0, .int .u8 0, .int .u32 0] 26)) g w.heap.size w1.heap.size { O.zero with kind := k } nilV from by
    have z1 : (w.alloc (.cells #[.int .u8 0, .int .u32 0, .int .i64 0, .int .i64 0, .string ⟨#[]⟩, .slice none 0 0, .int .u8 0, .int .u8 0, .int .u32 0] 26)).heap.size = w.heap.size + 1 := by simp
    have z2 := U1.size
    have b2 := below_new w1 (.cells #[.int .u8 (k : Int), .int .u32 0, .int .i64 0, .int .i64 0, .string ⟨#[]⟩, .slice none 0 0, .int .u8 0, .int .u8 0, .int .u32 0] 26)
    refine ⟨(b2.block _ (by omega)).trans ((U1.block _ (by omega) (by omega)).trans R0.out), heap_alloc_new w1 _, ?_, by omega, by omega, Nat.le_refl _⟩
    exact ((Touch.ofNew (below_new w _)).trans' U1).trans' (Touch.ofNew b2))
  have hW : W0.heap.size ≤ w.heap.size := gb.2.2.size
  have K4 := Lib.hid (gn4 G2.out hs (by omega) HP.out)
  clear R0 G1 U1 K1 F0 gb wk
  have hh : Hid (∃ h, h = w.heap.size) := Lib.hid ⟨_, rfl⟩
  generalize w1.heap.size = n at *
  generalize w1.alloc _ = V at *
  have wp : IntKind.u32.wrap (p : Int) = (p : Int) := by rw [IntKind.wrap_u32]; omega
  obtain ⟨x0, x1, x2, x3, x4, x5, x6, x7, x8⟩ := S1.out.nine
  have gn := S1.out.gn
  have hnn : W0.heap.size ≤ n := by have := S1.out.hge; have := S1.out.hn; omega
  go_upto_region 3 with (go_at_call 35; (with_reducible refine K4.out.mono ?_); rintro e w2 ⟨rfl, G3, U3⟩; have f1 := (S1.out.read U3).free 1; clear x0 x1 x2 x3 x4 x5 x6 x7 x8; obtain ⟨x0, x1, x2, x3, x4, x5, x6, x7, x8⟩ := (S1.out.read U3).nine)
  have S0 := Lib.hid ((S1.out.read U3).part (q' := { O.zero with kind := k, page := p }) (v' := nilV) 1 (.int .u32 (p : Int)) rfl)
  have G0 := Lib.hid (G3.set (j := 1) (z := .int .u32 (p : Int)) hnn gn)
  clear S1 U3 G3 K4 f1 x0 x1 x2 x3 x4 x5 x6 x7 x8 G2 wp hh
  generalize w2.setCell ⟨n, 1, none⟩ (.int .u32 (p : Int)) = W at *
  obtain ⟨h, hh⟩ : ∃ h, h = w.heap.size := ⟨_, rfl⟩
  rw [← hh] at S0
  have HH := Lib.hid hh
  rw [← hh]
  clear hh
  have k1 : ((k : Int) == 1) = true := by rw [HKK.out]; rfl
  have k2 : ((k : Int) == 2) = false := by rw [HKK.out]; rfl
  have k3 : ((k : Int) == 3) = false := by rw [HKK.out]; rfl
  have k4 : ((k : Int) == 4) = false := by rw [HKK.out]; rfl
  have k5 : ((k : Int) == 5) = false := by rw [HKK.out]; rfl
  have k6 : ((k : Int) == 6) = false := by rw [HKK.out]; rfl
  have k7 : ((k : Int) == 7) = false := by rw [HKK.out]; rfl
  have k8 : ((k : Int) == 8) = false := by rw [HKK.out]; rfl
  obtain ⟨a0, q0, d0⟩ : ∃ a b, nV 1 r2 = (a, b) := ⟨_, _, rfl⟩
  have D0 := Lib.hid d0
  have b0 := nx1 d0
  have w0 : IntKind.u8.wrap (a0 : Int) = (a0 : Int) := by rw [IntKind.wrap_u8]; omega
  clear d0
  obtain ⟨a1, q1, d1⟩ : ∃ a b, nV 1 q0 = (a, b) := ⟨_, _, rfl⟩
  have D1 := Lib.hid d1
  have b1 := nx1 d1
  have w1 : IntKind.u8.wrap (a1 : Int) = (a1 : Int) := by rw [IntKind.wrap_u8]; omega
  clear d1
  obtain ⟨a2, q2, d2⟩ : ∃ a b, nV 4 q1 = (a, b) := ⟨_, _, rfl⟩
  have D2 := Lib.hid d2
  have b2 := nx4 d2
  have w2 : IntKind.u32.wrap (a2 : Int) = (a2 : Int) := by rw [IntKind.wrap_u32]; omega
  clear d2
  obtain ⟨x0, x1, x2, x3, x4, x5, x6, x7, x8⟩ := S0.out.nine
  simp only [O.zero] at x0 x1 x2 x3 x4 x5 x6 x7 x8
  go_upto_region 27 with (first | (go_at_call 35; (with_reducible refine (gn1 G0.out hs (by omega) D0.out).mono ?_); rintro e v0 ⟨rfl, J0, U0⟩; have T0 := Lib.hid ((S0.out.read U0).part (q' := ({ kind := k, page := p, at' := 0, off := 0, text := ⟨#[]⟩, rows := [], pkind := a0, level := 0, next := 0 } : O)) (v' := nilV) 6 (.int .u8 (a0 : Int)) rfl); have H0 := Lib.hid (J0.set (j := 6) (z := (.int .u8 (a0 : Int))) hnn gn); have f0 := (S0.out.read U0).free 6; clear x0 x1 x2 x3 x4 x5 x6 x7 x8; obtain ⟨x0, x1, x2, x3, x4, x5, x6, x7, x8⟩ := (S0.out.read U0).nine; clear J0 U0) | (go_at_call 35; (with_reducible refine (gn1 H0.out hs (by omega) D1.out).mono ?_); rintro e v1 ⟨rfl, J1, U1⟩; have T1 := Lib.hid ((T0.out.read U1).part (q' := ({ kind := k, page := p, at' := 0, off := 0, text := ⟨#[]⟩, rows := [], pkind := a0, level := a1, next := 0 } : O)) (v' := nilV) 7 (.int .u8 (a1 : Int)) rfl); have H1 := Lib.hid (J1.set (j := 7) (z := (.int .u8 (a1 : Int))) hnn gn); have f1 := (T0.out.read U1).free 7; clear x0 x1 x2 x3 x4 x5 x6 x7 x8; obtain ⟨x0, x1, x2, x3, x4, x5, x6, x7, x8⟩ := (T0.out.read U1).nine; clear J1 U1) | (go_at_call 35; (with_reducible refine (gn4 H1.out hs (by omega) D2.out).mono ?_); rintro e v2 ⟨rfl, J2, U2⟩; have T2 := Lib.hid ((T1.out.read U2).part (q' := ({ kind := k, page := p, at' := 0, off := 0, text := ⟨#[]⟩, rows := [], pkind := a0, level := a1, next := a2 } : O)) (v' := nilV) 8 (.int .u32 (a2 : Int)) rfl); have H2 := Lib.hid (J2.set (j := 8) (z := (.int .u32 (a2 : Int))) hnn gn); have f2 := (T1.out.read U2).free 8; clear x0 x1 x2 x3 x4 x5 x6 x7 x8; obtain ⟨x0, x1, x2, x3, x4, x5, x6, x7, x8⟩ := (T1.out.read U2).nine; clear J2 U2))
  have TT := T2
  have HG := H2
  clear x0 x1 x2 x3 x4 x5 x6 x7 x8 k1 k2 k3 k4 k5 k6 k7 k8 T0 H0 f0 T1 H1 f1 T2 H2 f2 S0 G0
  generalize v2.setCell ⟨n, 8, none⟩ (.int .u32 (a2 : Int)) = WE at *
  obtain ⟨x0, x1, x2, x3, x4, x5, x6, x7, x8⟩ := TT.out.nine
  simp only at x0 x1 x2 x3 x4 x5 x6 x7 x8
  go_wp2_with (refine wpList_store_row rfl 26 _ _ rfl h (oC ({ kind := k, page := p, at' := 0, off := 0, text := ⟨#[]⟩, rows := [], pkind := a0, level := a1, next := a2 } : O) nilV) rfl rfl 26 (oC O.zero nilV) TT.out.res info_op rfl (op_one _ rfl) ?_)
  have hw : (({ kind := k, page := p, at' := 0, off := 0, text := ⟨#[]⟩, rows := [], pkind := a0, level := a1, next := a2 } : O)).wf := ⟨hk8, hp4, b0, b1, b2⟩
  have hi : In (WE.setRow h (oC ({ kind := k, page := p, at' := 0, off := 0, text := ⟨#[]⟩, rows := [], pkind := a0, level := a1, next := a2 } : O) nilV)) ({ kind := k, page := p, at' := 0, off := 0, text := ⟨#[]⟩, rows := [], pkind := a0, level := a1, next := a2 } : O) nilV := in_plain hw (by show (0 : Int) ≤ 0 ∧ (0 : Int) ≤ 65536; decide) (by show (0 : Int) ≤ 0 ∧ (0 : Int) ≤ 65536; decide) (by show 0 ≤ 65536; omega) rfl
  have he : opV r = (({ kind := k, page := p, at' := 0, off := 0, text := ⟨#[]⟩, rows := [], pkind := a0, level := a1, next := a2 } : O), q2) := by
    have hk := HKK.out
    rw [E0.out]
    unfold tailV
    simp [hk, D0.out, D1.out, D2.out, O.zero]
  have OE := one_end (B := B) TT.out HG.out (by omega) hW hi (Own.nil strS w (TT.out.fin _).size) (.inl he)
  exact bodyPost_ret (v := oV ({ kind := k, page := p, at' := 0, off := 0, text := ⟨#[]⟩, rows := [], pkind := a0, level := a1, next := a2 } : O) nilV) (results_one Try.results36 _ _ h (oC ({ kind := k, page := p, at' := 0, off := 0, text := ⟨#[]⟩, rows := [], pkind := a0, level := a1, next := a2 } : O) nilV) rfl (setRow_heap _ _ _ _ _ _ TT.out.res) Try.underlying26 info_op) rfl OE

set_option maxRecDepth 100000 in
set_option maxHeartbeats 4000000 in
theorem gone2 {W0 w : World} {g B : Nat} {s : ByteArray} {r : Rd} (G : Gt W0 w g B s r) (hs : s.size ≤ 100000) (hB : s.size ≤ B ∧ B ≤ 800000000) (hkk : (nV 1 r).1 = 2) :
    Calls Try.prog 36 #[.pointer (some ⟨g, 0, none⟩)] w (OneP W0 w g B s r) := by
  have hz : oC O.zero nilV = #[.int .u8 0, .int .u32 0, .int .i64 0, .int .i64 0, .string ⟨#[]⟩, .slice none 0 0, .int .u8 0, .int .u8 0, .int .u32 0] := rfl
  have F0 := Lib.hid (show Gt W0 (w.alloc (.cells #[.int .u8 0, .int .u32 0, .int .i64 0, .int .i64 0, .string ⟨#[]⟩, .slice none 0 0, .int .u8 0, .int .u8 0, .int .u32 0] 26)) g B s r from G.later (below_new w _))
  have R0 := Lib.hid (show (w.alloc (.cells #[.int .u8 0, .int .u32 0, .int .i64 0, .int .i64 0, .string ⟨#[]⟩, .slice none 0 0, .int .u8 0, .int .u8 0, .int .u32 0] 26)).heap[w.heap.size]? = some (.cells (oC O.zero nilV) 26 (0, 0)) from by rw [hz]; exact heap_alloc_new w _)
  obtain ⟨k, r1, hk⟩ : ∃ k r1, nV 1 r = (k, r1) := ⟨_, _, rfl⟩
  obtain ⟨p, r2, hp⟩ : ∃ p r2, nV 4 r1 = (p, r2) := ⟨_, _, rfl⟩
  have hk8 := nx1 hk
  have hp4 := nx4 hp
  rw [hk] at hkk
  simp only at hkk
  have HE : opV r = tailV k p r2 := by unfold opV; rw [hk, hp]
  have E0 := Lib.hid HE
  have K1 := Lib.hid (gn1 F0.out hs (by omega) hk)
  have gb := G.base
  have HP := Lib.hid hp
  clear hk hp HE
  have wk : IntKind.u8.wrap (k : Int) = (k : Int) := by rw [IntKind.wrap_u8]; omega
  have HKK := Lib.hid hkk
  clear hz hkk
  go_enter Try.func36, Try.ntmps36
  go_upto_region 2 with (go_at_call 35; (with_reducible refine K1.out.mono ?_); rintro e w1 ⟨rfl, G1, U1⟩)
  have G2 := Lib.hid (show Gt W0 (w1.alloc (.cells #[.int .u8 (k : Int), .int .u32 0, .int .i64 0, .int .i64 0, .string ⟨#[]⟩, .slice none 0 0, .int .u8 0, .int .u8 0, .int .u32 0] 26)) g (B + 8) s r1 from G1.later (below_new w1 _))
  have S1 := Lib.hid (show Op.G1 w (w1.alloc (.cells #[.int .u8 (k : Int), .int .u32 0, .int .i64 0, .int .i64 0, .string ⟨#[]⟩, .slice none 0 0, .int .u8 0, .int .u8 0, .int .u32 0] 26)) g w.heap.size w1.heap.size { O.zero with kind := k } nilV from by
    have z1 : (w.alloc (.cells #[.int .u8 0, .int .u32 0, .int .i64 0, .int .i64 0, .string ⟨#[]⟩, .slice none 0 0, .int .u8 0, .int .u8 0, .int .u32 0] 26)).heap.size = w.heap.size + 1 := by simp
    have z2 := U1.size
    have b2 := below_new w1 (.cells #[.int .u8 (k : Int), .int .u32 0, .int .i64 0, .int .i64 0, .string ⟨#[]⟩, .slice none 0 0, .int .u8 0, .int .u8 0, .int .u32 0] 26)
    refine ⟨(b2.block _ (by omega)).trans ((U1.block _ (by omega) (by omega)).trans R0.out), heap_alloc_new w1 _, ?_, by omega, by omega, Nat.le_refl _⟩
    exact ((Touch.ofNew (below_new w _)).trans' U1).trans' (Touch.ofNew b2))
  have hW : W0.heap.size ≤ w.heap.size := gb.2.2.size
  have K4 := Lib.hid (gn4 G2.out hs (by omega) HP.out)
  clear R0 G1 U1 K1 F0 gb wk
  have hh : Hid (∃ h, h = w.heap.size) := Lib.hid ⟨_, rfl⟩
  generalize w1.heap.size = n at *
  generalize w1.alloc _ = V at *
  have wp : IntKind.u32.wrap (p : Int) = (p : Int) := by rw [IntKind.wrap_u32]; omega
  obtain ⟨x0, x1, x2, x3, x4, x5, x6, x7, x8⟩ := S1.out.nine
  have gn := S1.out.gn
  have hnn : W0.heap.size ≤ n := by have := S1.out.hge; have := S1.out.hn; omega
  go_upto_region 3 with (go_at_call 35; (with_reducible refine K4.out.mono ?_); rintro e w2 ⟨rfl, G3, U3⟩; have f1 := (S1.out.read U3).free 1; clear x0 x1 x2 x3 x4 x5 x6 x7 x8; obtain ⟨x0, x1, x2, x3, x4, x5, x6, x7, x8⟩ := (S1.out.read U3).nine)
  have S0 := Lib.hid ((S1.out.read U3).part (q' := { O.zero with kind := k, page := p }) (v' := nilV) 1 (.int .u32 (p : Int)) rfl)
  have G0 := Lib.hid (G3.set (j := 1) (z := .int .u32 (p : Int)) hnn gn)
  clear S1 U3 G3 K4 f1 x0 x1 x2 x3 x4 x5 x6 x7 x8 G2 wp hh
  generalize w2.setCell ⟨n, 1, none⟩ (.int .u32 (p : Int)) = W at *
  obtain ⟨h, hh⟩ : ∃ h, h = w.heap.size := ⟨_, rfl⟩
  rw [← hh] at S0
  have HH := Lib.hid hh
  rw [← hh]
  clear hh
  have k1 : ((k : Int) == 1) = false := by rw [HKK.out]; rfl
  have k2 : ((k : Int) == 2) = true := by rw [HKK.out]; rfl
  have k3 : ((k : Int) == 3) = false := by rw [HKK.out]; rfl
  have k4 : ((k : Int) == 4) = false := by rw [HKK.out]; rfl
  have k5 : ((k : Int) == 5) = false := by rw [HKK.out]; rfl
  have k6 : ((k : Int) == 6) = false := by rw [HKK.out]; rfl
  have k7 : ((k : Int) == 7) = false := by rw [HKK.out]; rfl
  have k8 : ((k : Int) == 8) = false := by rw [HKK.out]; rfl
  obtain ⟨a0, q0, d0⟩ : ∃ a b, nV 2 r2 = (a, b) := ⟨_, _, rfl⟩
  have D0 := Lib.hid d0
  have b0 := nx2 d0
  clear d0
  obtain ⟨a1, q1, d1⟩ : ∃ a b, tV q0 = (a, b) := ⟨_, _, rfl⟩
  have D1 := Lib.hid d1
  have b1 : a1.size < 65536 := by have := tV_le q0; rw [d1] at this; exact this
  clear d1
  obtain ⟨x0, x1, x2, x3, x4, x5, x6, x7, x8⟩ := S0.out.nine
  simp only [O.zero] at x0 x1 x2 x3 x4 x5 x6 x7 x8
  go_upto_region 27 with (first | (go_at_call 35; (with_reducible refine (gn2 G0.out hs (by omega) D0.out).mono ?_); rintro e v0 ⟨rfl, J0, U0⟩; have T0 := Lib.hid ((S0.out.read U0).part (q' := ({ kind := k, page := p, at' := (a0 : Int), off := 0, text := ⟨#[]⟩, rows := [], pkind := 0, level := 0, next := 0 } : O)) (v' := nilV) 2 (.int .i64 (a0 : Int)) rfl); have H0 := Lib.hid (J0.set (j := 2) (z := (.int .i64 (a0 : Int))) hnn gn); have f0 := (S0.out.read U0).free 2; clear x0 x1 x2 x3 x4 x5 x6 x7 x8; obtain ⟨x0, x1, x2, x3, x4, x5, x6, x7, x8⟩ := (S0.out.read U0).nine; clear J0 U0) | (go_at_call 56; (with_reducible refine (gtx H0.out hs (by omega) D1.out).mono ?_); rintro e v1 ⟨rfl, J1, U1⟩; have T1 := Lib.hid ((T0.out.read U1).part (q' := ({ kind := k, page := p, at' := (a0 : Int), off := 0, text := a1, rows := [], pkind := 0, level := 0, next := 0 } : O)) (v' := nilV) 4 (.string a1) rfl); have H1 := Lib.hid (J1.set (j := 4) (z := (.string a1)) hnn gn); have f1 := (T0.out.read U1).free 4; clear x0 x1 x2 x3 x4 x5 x6 x7 x8; obtain ⟨x0, x1, x2, x3, x4, x5, x6, x7, x8⟩ := (T0.out.read U1).nine; clear J1 U1))
  have TT := T1
  have HG := H1
  clear x0 x1 x2 x3 x4 x5 x6 x7 x8 k1 k2 k3 k4 k5 k6 k7 k8 T0 H0 f0 T1 H1 f1 S0 G0
  generalize v1.setCell ⟨n, 4, none⟩ (.string a1) = WE at *
  obtain ⟨x0, x1, x2, x3, x4, x5, x6, x7, x8⟩ := TT.out.nine
  simp only at x0 x1 x2 x3 x4 x5 x6 x7 x8
  go_wp2_with (refine wpList_store_row rfl 26 _ _ rfl h (oC ({ kind := k, page := p, at' := (a0 : Int), off := 0, text := a1, rows := [], pkind := 0, level := 0, next := 0 } : O) nilV) rfl rfl 26 (oC O.zero nilV) TT.out.res info_op rfl (op_one _ rfl) ?_)
  have hw : (({ kind := k, page := p, at' := (a0 : Int), off := 0, text := a1, rows := [], pkind := 0, level := 0, next := 0 } : O)).wf := ⟨hk8, hp4, (by show 0 < 256; decide), (by show 0 < 256; decide), (by show 0 < 4294967296; decide)⟩
  have hi : In (WE.setRow h (oC ({ kind := k, page := p, at' := (a0 : Int), off := 0, text := a1, rows := [], pkind := 0, level := 0, next := 0 } : O) nilV)) ({ kind := k, page := p, at' := (a0 : Int), off := 0, text := a1, rows := [], pkind := 0, level := 0, next := 0 } : O) nilV := in_plain hw (by show 0 ≤ (a0 : Int) ∧ (a0 : Int) ≤ 65536; omega) (by show (0 : Int) ≤ 0 ∧ (0 : Int) ≤ 65536; decide) (by show a1.size ≤ 65536; omega) rfl
  have he : opV r = (({ kind := k, page := p, at' := (a0 : Int), off := 0, text := a1, rows := [], pkind := 0, level := 0, next := 0 } : O), q1) := by
    have hk := HKK.out
    rw [E0.out]
    unfold tailV
    simp [hk, D0.out, D1.out, O.zero]
  have OE := one_end (B := B) TT.out HG.out (by omega) hW hi (Own.nil strS w (TT.out.fin _).size) (.inl he)
  exact bodyPost_ret (v := oV ({ kind := k, page := p, at' := (a0 : Int), off := 0, text := a1, rows := [], pkind := 0, level := 0, next := 0 } : O) nilV) (results_one Try.results36 _ _ h (oC ({ kind := k, page := p, at' := (a0 : Int), off := 0, text := a1, rows := [], pkind := 0, level := 0, next := 0 } : O) nilV) rfl (setRow_heap _ _ _ _ _ _ TT.out.res) Try.underlying26 info_op) rfl OE

set_option maxRecDepth 100000 in
set_option maxHeartbeats 4000000 in
theorem gone3 {W0 w : World} {g B : Nat} {s : ByteArray} {r : Rd} (G : Gt W0 w g B s r) (hs : s.size ≤ 100000) (hB : s.size ≤ B ∧ B ≤ 800000000) (hkk : (nV 1 r).1 = 3) :
    Calls Try.prog 36 #[.pointer (some ⟨g, 0, none⟩)] w (OneP W0 w g B s r) := by
  have hz : oC O.zero nilV = #[.int .u8 0, .int .u32 0, .int .i64 0, .int .i64 0, .string ⟨#[]⟩, .slice none 0 0, .int .u8 0, .int .u8 0, .int .u32 0] := rfl
  have F0 := Lib.hid (show Gt W0 (w.alloc (.cells #[.int .u8 0, .int .u32 0, .int .i64 0, .int .i64 0, .string ⟨#[]⟩, .slice none 0 0, .int .u8 0, .int .u8 0, .int .u32 0] 26)) g B s r from G.later (below_new w _))
  have R0 := Lib.hid (show (w.alloc (.cells #[.int .u8 0, .int .u32 0, .int .i64 0, .int .i64 0, .string ⟨#[]⟩, .slice none 0 0, .int .u8 0, .int .u8 0, .int .u32 0] 26)).heap[w.heap.size]? = some (.cells (oC O.zero nilV) 26 (0, 0)) from by rw [hz]; exact heap_alloc_new w _)
  obtain ⟨k, r1, hk⟩ : ∃ k r1, nV 1 r = (k, r1) := ⟨_, _, rfl⟩
  obtain ⟨p, r2, hp⟩ : ∃ p r2, nV 4 r1 = (p, r2) := ⟨_, _, rfl⟩
  have hk8 := nx1 hk
  have hp4 := nx4 hp
  rw [hk] at hkk
  simp only at hkk
  have HE : opV r = tailV k p r2 := by unfold opV; rw [hk, hp]
  have E0 := Lib.hid HE
  have K1 := Lib.hid (gn1 F0.out hs (by omega) hk)
  have gb := G.base
  have HP := Lib.hid hp
  clear hk hp HE
  have wk : IntKind.u8.wrap (k : Int) = (k : Int) := by rw [IntKind.wrap_u8]; omega
  have HKK := Lib.hid hkk
  clear hz hkk
  go_enter Try.func36, Try.ntmps36
  go_upto_region 2 with (go_at_call 35; (with_reducible refine K1.out.mono ?_); rintro e w1 ⟨rfl, G1, U1⟩)
  have G2 := Lib.hid (show Gt W0 (w1.alloc (.cells #[.int .u8 (k : Int), .int .u32 0, .int .i64 0, .int .i64 0, .string ⟨#[]⟩, .slice none 0 0, .int .u8 0, .int .u8 0, .int .u32 0] 26)) g (B + 8) s r1 from G1.later (below_new w1 _))
  have S1 := Lib.hid (show Op.G1 w (w1.alloc (.cells #[.int .u8 (k : Int), .int .u32 0, .int .i64 0, .int .i64 0, .string ⟨#[]⟩, .slice none 0 0, .int .u8 0, .int .u8 0, .int .u32 0] 26)) g w.heap.size w1.heap.size { O.zero with kind := k } nilV from by
    have z1 : (w.alloc (.cells #[.int .u8 0, .int .u32 0, .int .i64 0, .int .i64 0, .string ⟨#[]⟩, .slice none 0 0, .int .u8 0, .int .u8 0, .int .u32 0] 26)).heap.size = w.heap.size + 1 := by simp
    have z2 := U1.size
    have b2 := below_new w1 (.cells #[.int .u8 (k : Int), .int .u32 0, .int .i64 0, .int .i64 0, .string ⟨#[]⟩, .slice none 0 0, .int .u8 0, .int .u8 0, .int .u32 0] 26)
    refine ⟨(b2.block _ (by omega)).trans ((U1.block _ (by omega) (by omega)).trans R0.out), heap_alloc_new w1 _, ?_, by omega, by omega, Nat.le_refl _⟩
    exact ((Touch.ofNew (below_new w _)).trans' U1).trans' (Touch.ofNew b2))
  have hW : W0.heap.size ≤ w.heap.size := gb.2.2.size
  have K4 := Lib.hid (gn4 G2.out hs (by omega) HP.out)
  clear R0 G1 U1 K1 F0 gb wk
  have hh : Hid (∃ h, h = w.heap.size) := Lib.hid ⟨_, rfl⟩
  generalize w1.heap.size = n at *
  generalize w1.alloc _ = V at *
  have wp : IntKind.u32.wrap (p : Int) = (p : Int) := by rw [IntKind.wrap_u32]; omega
  obtain ⟨x0, x1, x2, x3, x4, x5, x6, x7, x8⟩ := S1.out.nine
  have gn := S1.out.gn
  have hnn : W0.heap.size ≤ n := by have := S1.out.hge; have := S1.out.hn; omega
  go_upto_region 3 with (go_at_call 35; (with_reducible refine K4.out.mono ?_); rintro e w2 ⟨rfl, G3, U3⟩; have f1 := (S1.out.read U3).free 1; clear x0 x1 x2 x3 x4 x5 x6 x7 x8; obtain ⟨x0, x1, x2, x3, x4, x5, x6, x7, x8⟩ := (S1.out.read U3).nine)
  have S0 := Lib.hid ((S1.out.read U3).part (q' := { O.zero with kind := k, page := p }) (v' := nilV) 1 (.int .u32 (p : Int)) rfl)
  have G0 := Lib.hid (G3.set (j := 1) (z := .int .u32 (p : Int)) hnn gn)
  clear S1 U3 G3 K4 f1 x0 x1 x2 x3 x4 x5 x6 x7 x8 G2 wp hh
  generalize w2.setCell ⟨n, 1, none⟩ (.int .u32 (p : Int)) = W at *
  obtain ⟨h, hh⟩ : ∃ h, h = w.heap.size := ⟨_, rfl⟩
  rw [← hh] at S0
  have HH := Lib.hid hh
  rw [← hh]
  clear hh
  have k1 : ((k : Int) == 1) = false := by rw [HKK.out]; rfl
  have k2 : ((k : Int) == 2) = false := by rw [HKK.out]; rfl
  have k3 : ((k : Int) == 3) = true := by rw [HKK.out]; rfl
  have k4 : ((k : Int) == 4) = false := by rw [HKK.out]; rfl
  have k5 : ((k : Int) == 5) = false := by rw [HKK.out]; rfl
  have k6 : ((k : Int) == 6) = false := by rw [HKK.out]; rfl
  have k7 : ((k : Int) == 7) = false := by rw [HKK.out]; rfl
  have k8 : ((k : Int) == 8) = false := by rw [HKK.out]; rfl
  obtain ⟨a0, q0, d0⟩ : ∃ a b, nV 2 r2 = (a, b) := ⟨_, _, rfl⟩
  have D0 := Lib.hid d0
  have b0 := nx2 d0
  clear d0
  obtain ⟨a1, q1, d1⟩ : ∃ a b, tV q0 = (a, b) := ⟨_, _, rfl⟩
  have D1 := Lib.hid d1
  have b1 : a1.size < 65536 := by have := tV_le q0; rw [d1] at this; exact this
  clear d1
  obtain ⟨x0, x1, x2, x3, x4, x5, x6, x7, x8⟩ := S0.out.nine
  simp only [O.zero] at x0 x1 x2 x3 x4 x5 x6 x7 x8
  go_upto_region 27 with (first | (go_at_call 35; (with_reducible refine (gn2 G0.out hs (by omega) D0.out).mono ?_); rintro e v0 ⟨rfl, J0, U0⟩; have T0 := Lib.hid ((S0.out.read U0).part (q' := ({ kind := k, page := p, at' := (a0 : Int), off := 0, text := ⟨#[]⟩, rows := [], pkind := 0, level := 0, next := 0 } : O)) (v' := nilV) 2 (.int .i64 (a0 : Int)) rfl); have H0 := Lib.hid (J0.set (j := 2) (z := (.int .i64 (a0 : Int))) hnn gn); have f0 := (S0.out.read U0).free 2; clear x0 x1 x2 x3 x4 x5 x6 x7 x8; obtain ⟨x0, x1, x2, x3, x4, x5, x6, x7, x8⟩ := (S0.out.read U0).nine; clear J0 U0) | (go_at_call 56; (with_reducible refine (gtx H0.out hs (by omega) D1.out).mono ?_); rintro e v1 ⟨rfl, J1, U1⟩; have T1 := Lib.hid ((T0.out.read U1).part (q' := ({ kind := k, page := p, at' := (a0 : Int), off := 0, text := a1, rows := [], pkind := 0, level := 0, next := 0 } : O)) (v' := nilV) 4 (.string a1) rfl); have H1 := Lib.hid (J1.set (j := 4) (z := (.string a1)) hnn gn); have f1 := (T0.out.read U1).free 4; clear x0 x1 x2 x3 x4 x5 x6 x7 x8; obtain ⟨x0, x1, x2, x3, x4, x5, x6, x7, x8⟩ := (T0.out.read U1).nine; clear J1 U1))
  have TT := T1
  have HG := H1
  clear x0 x1 x2 x3 x4 x5 x6 x7 x8 k1 k2 k3 k4 k5 k6 k7 k8 T0 H0 f0 T1 H1 f1 S0 G0
  generalize v1.setCell ⟨n, 4, none⟩ (.string a1) = WE at *
  obtain ⟨x0, x1, x2, x3, x4, x5, x6, x7, x8⟩ := TT.out.nine
  simp only at x0 x1 x2 x3 x4 x5 x6 x7 x8
  go_wp2_with (refine wpList_store_row rfl 26 _ _ rfl h (oC ({ kind := k, page := p, at' := (a0 : Int), off := 0, text := a1, rows := [], pkind := 0, level := 0, next := 0 } : O) nilV) rfl rfl 26 (oC O.zero nilV) TT.out.res info_op rfl (op_one _ rfl) ?_)
  have hw : (({ kind := k, page := p, at' := (a0 : Int), off := 0, text := a1, rows := [], pkind := 0, level := 0, next := 0 } : O)).wf := ⟨hk8, hp4, (by show 0 < 256; decide), (by show 0 < 256; decide), (by show 0 < 4294967296; decide)⟩
  have hi : In (WE.setRow h (oC ({ kind := k, page := p, at' := (a0 : Int), off := 0, text := a1, rows := [], pkind := 0, level := 0, next := 0 } : O) nilV)) ({ kind := k, page := p, at' := (a0 : Int), off := 0, text := a1, rows := [], pkind := 0, level := 0, next := 0 } : O) nilV := in_plain hw (by show 0 ≤ (a0 : Int) ∧ (a0 : Int) ≤ 65536; omega) (by show (0 : Int) ≤ 0 ∧ (0 : Int) ≤ 65536; decide) (by show a1.size ≤ 65536; omega) rfl
  have he : opV r = (({ kind := k, page := p, at' := (a0 : Int), off := 0, text := a1, rows := [], pkind := 0, level := 0, next := 0 } : O), q1) := by
    have hk := HKK.out
    rw [E0.out]
    unfold tailV
    simp [hk, D0.out, D1.out, O.zero]
  have OE := one_end (B := B) TT.out HG.out (by omega) hW hi (Own.nil strS w (TT.out.fin _).size) (.inl he)
  exact bodyPost_ret (v := oV ({ kind := k, page := p, at' := (a0 : Int), off := 0, text := a1, rows := [], pkind := 0, level := 0, next := 0 } : O) nilV) (results_one Try.results36 _ _ h (oC ({ kind := k, page := p, at' := (a0 : Int), off := 0, text := a1, rows := [], pkind := 0, level := 0, next := 0 } : O) nilV) rfl (setRow_heap _ _ _ _ _ _ TT.out.res) Try.underlying26 info_op) rfl OE

end Go.Proofs.Yticnbicnefnhbaa.Op
