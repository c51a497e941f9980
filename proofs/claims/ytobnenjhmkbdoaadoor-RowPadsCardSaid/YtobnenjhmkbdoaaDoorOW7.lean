/- Walks: a row is read from its place. -/
import Derived.Test.YtobnenjhmkbdoaaDoorOW6
namespace Go.Proofs.YtobnenjhmkbdoaaDoor.Row
open Go.RowKit
attribute [local go_sem ↓] Go.wp_at_zero Go.wp_at_succ

/-- the closures stand, nothing is taken -/
def W4 (w : World) (f : Nat) : World := (((w.alloc (.cells #[.pointer (some ⟨f, 0, none⟩)] 82)).alloc (.cells #[.bool true] 4)).alloc (.cells #[takeF w.heap.size (w.heap.size + 1)] 84)).alloc (.cells #[numF (w.heap.size + 1 + 1)] 85)
theorem St.start {w : World} {f : Nat} {s : ByteArray} (F : Fd w f s 0 Rw.zero) : St w (W4 w f) f w.heap.size (w.heap.size + 1) (w.heap.size + 1 + 1) (w.heap.size + 1 + 1 + 1) s 0 Rw.zero true := by
  unfold W4
  obtain ⟨w1, h1⟩ : ∃ x, x = w.alloc (.cells #[.pointer (some ⟨f, 0, none⟩)] 82) := ⟨_, rfl⟩
  obtain ⟨w2, h2⟩ : ∃ x, x = w1.alloc (.cells #[.bool true] 4) := ⟨_, rfl⟩
  obtain ⟨w3, h3⟩ : ∃ x, x = w2.alloc (.cells #[takeF w.heap.size (w.heap.size + 1)] 84) := ⟨_, rfl⟩
  obtain ⟨w4, h4⟩ : ∃ x, x = w3.alloc (.cells #[numF (w.heap.size + 1 + 1)] 85) := ⟨_, rfl⟩
  rw [← h1, ← h2, ← h3, ← h4]
  have z1 : w1.heap.size = w.heap.size + 1 := by rw [h1]; simp
  have z2 : w2.heap.size = w.heap.size + 1 + 1 := by rw [h2]; simp [z1]
  have z3 : w3.heap.size = w.heap.size + 1 + 1 + 1 := by rw [h3]; simp [z2]
  have b1 : Below w.heap.size w w1 := by rw [h1]; exact below_new _ _
  have b2 : Below w1.heap.size w1 w2 := by rw [h2]; exact below_new _ _
  have b3 : Below w2.heap.size w2 w3 := by rw [h3]; exact below_new _ _
  have b4 : Below w3.heap.size w3 w4 := by rw [h4]; exact below_new _ _
  have n1 : w1.heap[w.heap.size]? = some (.cells #[.pointer (some ⟨f, 0, none⟩)] 82 (0, 0)) := by rw [h1]; exact heap_alloc_new _ _
  have n2 : w2.heap[w.heap.size + 1]? = some (.cells #[.bool true] 4 (0, 0)) := by rw [h2, ← z1]; exact heap_alloc_new _ _
  have n3 : w3.heap[w.heap.size + 1 + 1]? = some (.cells #[takeF w.heap.size (w.heap.size + 1)] 84 (0, 0)) := by rw [h3, ← z2]; exact heap_alloc_new _ _
  have n4 : w4.heap[w.heap.size + 1 + 1 + 1]? = some (.cells #[numF (w.heap.size + 1 + 1)] 85 (0, 0)) := by rw [h4, ← z3]; exact heap_alloc_new _ _
  have b : Below w.heap.size w w4 := ((b1.trans (b2.mono b1.size)).trans (b3.mono (by omega))).trans (b4.mono (by omega))
  refine ⟨F.later b, ?_, ?_, ?_, n4, Touch.ofNew b, by omega⟩
  · exact (b4.block _ (by omega)).trans ((b3.block _ (by omega)).trans ((b2.block _ (by omega)).trans n1))
  · exact (b4.block _ (by omega)).trans ((b3.block _ (by omega)).trans n2)
  · exact (b4.block _ (by omega)).trans n3

/-- what stands where, as loads and stores ask it -/
theorem St.six {W0 w : World} {f p h k m : Nat} {s : ByteArray} {t : Nat} {r : Rw} {b : Bool} (S : St W0 w f p h k m s t r b) :
    w.cell? ⟨p, 0, none⟩ = some (.pointer (some ⟨f, 0, none⟩)) ∧ w.cell? ⟨m, 0, none⟩ = some (.func (.func 45) #[] #[.pointer (some ⟨k, 0, none⟩)]) := ⟨S.boxC, S.numC⟩
theorem St.row {W0 w : World} {f p h k m : Nat} {s : ByteArray} {t : Nat} {r : Rw} {b : Bool} (S : St W0 w f p h k m s t r b) (j : Nat) (hj : j < 9) : (∃ v, w.cell? ⟨f, j, none⟩ = some v) ∧ w.frozen? ⟨f, j, none⟩ = false := by
  refine ⟨?_, frozen_of_row _ _ _ _ _ S.fd⟩
  rw [cell_of_row _ _ _ _ _ _ S.fd]
  have hn : j < (fdC s t r).size := hj
  exact ⟨_, Array.getElem?_eq_getElem hn⟩

theorem St.cell {W0 w : World} {f p h k m : Nat} {s : ByteArray} {t : Nat} {r : Rw} {b : Bool} (S : St W0 w f p h k m s t r b) (j : Nat) (v : Value) (hv : (fdC s t r)[j]? = some v) : w.cell? ⟨f, j, none⟩ = some v := by
  rw [cell_of_row _ _ _ _ _ _ S.fd, hv]
theorem whole_fold {a b c d e f g h : Bool} : ((((((((true && a) && b) && c) && d) && e) && f) && g) && h) = (a && b && c && d && e && f && g && h) := by simp
theorem mark_eq (n : Nat) : ((n : Int) == 1) = decide (n = 1) := by rw [Bool.eq_iff_iff]; simp only [beq_iff_eq, decide_eq_true_eq]; omega

set_option maxRecDepth 100000 in
set_option maxHeartbeats 4000000 in
theorem read_any {w : World} {f : Nat} {s : ByteArray} (h : Fd w f s 0 Rw.zero) (hs : s.size ≤ 140737488351232) :
    Calls Tryd.prog 29 #[.pointer (some ⟨f, 0, none⟩)] w fun e w' => e = .returned (.bool (whB s && decide (tkN s 0 1 ≤ 1))) ∧ Fd w' f s (q8 s) (rdR s) ∧ Touch (fun x => x = f) w w' := by
  have S0 := Lib.hid (St.start h)
  have hsf1 := fun (a : Addr) (c : Array Value) (w : World) => run_store Tryd.prog w a (.func (.func 43) #[] c) .plain rfl
  have hsf2 := fun (a : Addr) (c : Array Value) (w : World) => run_store Tryd.prog w a (.func (.func 45) #[] c) .plain rfl
  have HS := Lib.hid hs
  clear h hs
  go_enter Tryd.func29, Tryd.ntmps29
  go_wp2_with fail
  clear hsf1 hsf2
  change Calls _ _ _ (W4 w f) _
  generalize W4 w f = W at *
  generalize w.heap.size + 1 + 1 + 1 = m at *
  generalize w.heap.size + 1 + 1 = k at *
  generalize w.heap.size + 1 = h at *
  generalize w.heap.size = p at *
  have Q := Lib.hid (q_le s)
  have N1 := Lib.hid (fun (W : World) (t : Nat) (r : Rw) (b : Bool) (S : St w W f p h k m s t r b) (ht : t ≤ s.size) => (show Calls Tryd.prog 45 #[.int .i64 1, .pointer (some ⟨k, 0, none⟩)] W fun e w' => e = .returned (.int .u64 (tkN s t 1 : Int)) ∧ St w w' f p h k m s (tkT s t 1) r (b && tkB s t 1) from num_any S 1 HS.out ht (by decide) (by decide)))
  have N8 := Lib.hid (fun (W : World) (t : Nat) (r : Rw) (b : Bool) (S : St w W f p h k m s t r b) (ht : t ≤ s.size) => (show Calls Tryd.prog 45 #[.int .i64 8, .pointer (some ⟨k, 0, none⟩)] W fun e w' => e = .returned (.int .u64 (tkN s t 8 : Int)) ∧ St w w' f p h k m s (tkT s t 8) r (b && tkB s t 8) from num_any S 8 HS.out ht (by decide) (by decide)))
  have N4 := Lib.hid (fun (W : World) (t : Nat) (r : Rw) (b : Bool) (S : St w W f p h k m s t r b) (ht : t ≤ s.size) => (show Calls Tryd.prog 45 #[.int .i64 4, .pointer (some ⟨k, 0, none⟩)] W fun e w' => e = .returned (.int .u64 (tkN s t 4 : Int)) ∧ St w w' f p h k m s (tkT s t 4) r (b && tkB s t 4) from num_any S 4 HS.out ht (by decide) (by decide)))
  have N2 := Lib.hid (fun (W : World) (t : Nat) (r : Rw) (b : Bool) (S : St w W f p h k m s t r b) (ht : t ≤ s.size) => (show Calls Tryd.prog 45 #[.int .i64 2, .pointer (some ⟨k, 0, none⟩)] W fun e w' => e = .returned (.int .u64 (tkN s t 2 : Int)) ∧ St w w' f p h k m s (tkT s t 2) r (b && tkB s t 2) from num_any S 2 HS.out ht (by decide) (by decide)))
  have NL := Lib.hid (fun (W : World) (t : Nat) (r : Rw) (b : Bool) (S : St w W f p h k m s t r b) (ht : t ≤ s.size) => left_any S.fd HS.out ht)
  refine (N1.out _ _ _ _ S0.out (Nat.zero_le _)).mono ?_
  rintro e w1 ⟨rfl, h1⟩
  obtain ⟨b1, hb1⟩ : ∃ b, b = (true && tkB s 0 1) := ⟨_, rfl⟩
  rw [← hb1] at h1
  have B1 := Lib.hid hb1
  obtain ⟨mk, hmk⟩ : ∃ x : Bool, x = ((tkN s 0 1 : Int) == 1) := ⟨_, rfl⟩
  have HMK := Lib.hid hmk
  obtain ⟨mn, hmn⟩ : ∃ x : Nat, x = tkN s 0 1 := ⟨_, rfl⟩
  rw [← hmn] at hmk ⊢
  have HMN := Lib.hid hmn
  have S1 : Hid (St w w1 f p h k m s (q1 s) Rw.zero b1) := Lib.hid h1
  obtain ⟨c0, c1⟩ := h1.six
  have d0 := h1.cell 3 (.bool false) rfl
  have fz := (h1.row 3 (by decide)).2
  clear h1 S0 hb1 hmn N1
  go_wp2_with fail
  rw [← hmk]
  have S2 := Lib.hid ((S1.out.part (r' := ⟨⟨#[]⟩, mk, 0, 0, 0, ⟨#[]⟩, 0⟩) 3 (.bool mk) rfl).later ((Below.refl _ _).drew))
  clear c0 c1 d0 fz S1 hmk
  generalize w1.setCell _ _ = W2 at *
  obtain ⟨tx, htx⟩ : ∃ x : Nat, x = tkN s (q1 s) 8 := ⟨_, rfl⟩
  obtain ⟨pg, hpg⟩ : ∃ x : Nat, x = tkN s (q2 s) 4 := ⟨_, rfl⟩
  obtain ⟨sl, hsl⟩ : ∃ x : Nat, x = tkN s (q3 s) 2 := ⟨_, rfl⟩
  obtain ⟨ke, hke⟩ : ∃ x : ByteArray, x = tkS s (q5 s) (nK s) := ⟨_, rfl⟩
  obtain ⟨va, hva⟩ : ∃ x : ByteArray, x = tkS s (q7 s) (nV s) := ⟨_, rfl⟩
  have wpg : IntKind.u32.wrap (pg : Int) = (pg : Int) := by have := tkN_lt s (q2 s) 4; rw [IntKind.wrap_u32]; omega
  have wsl : IntKind.u16.wrap (sl : Int) = (sl : Int) := by have := tkN_lt s (q3 s) 2; rw [IntKind.wrap_u16]; omega
  have HTX := Lib.hid htx
  have HPG := Lib.hid hpg
  have HSL := Lib.hid hsl
  have HKE := Lib.hid hke
  have HVA := Lib.hid hva
  have NT5 := Lib.hid (fun (W : World) (r : Rw) (b : Bool) (S : St w W f p h k m s (q4 s) r b) => (show Calls Tryd.prog 46 #[.pointer (some ⟨k, 0, none⟩), .pointer (some ⟨m, 0, none⟩)] W fun e w' => e = .returned (.string ke) ∧ St w w' f p h k m s (q6 s) r (b && tkB s (q4 s) 1 && tkB s (q5 s) (nK s)) from by rw [hke]; exact txt_any S HS.out Q.out.2.2.2.1))
  have NT6 := Lib.hid (fun (W : World) (r : Rw) (b : Bool) (S : St w W f p h k m s (q6 s) r b) => (show Calls Tryd.prog 46 #[.pointer (some ⟨k, 0, none⟩), .pointer (some ⟨m, 0, none⟩)] W fun e w' => e = .returned (.string va) ∧ St w w' f p h k m s (q8 s) r (b && tkB s (q6 s) 1 && tkB s (q7 s) (nV s)) from by rw [hva]; exact txt_any S HS.out Q.out.2.2.2.2.2.1))
  clear htx hpg hsl hke hva
  go_region_held3 (fun w' => w'.cell? ⟨p, 0, none⟩ = some (.pointer (some ⟨f, 0, none⟩)) ∧ w'.cell? ⟨m, 0, none⟩ = some (.func (.func 45) #[] #[.pointer (some ⟨k, 0, none⟩)])) (first | exact S2.out.six | exact T2.six | exact (T2.part (r' := ⟨⟨#[]⟩, mk, tx, 0, 0, ⟨#[]⟩, 0⟩) 4 (.int .u64 (tx : Int)) rfl).six)
    (first | (go_at_call 45; refine (N8.out _ _ _ _ S2.out Q.out.1).mono ?_; rintro e x2 ⟨rfl, T20⟩; rw [← HTX.out]; obtain ⟨b2, hb2⟩ : ∃ b, b = (b1 && tkB s (q1 s) 8) := ⟨_, rfl⟩; rw [← hb2] at T20; have B2 := Lib.hid hb2; have T2 : St w x2 f p h k m s (q2 s) ⟨⟨#[]⟩, mk, 0, 0, 0, ⟨#[]⟩, 0⟩ b2 := T20; clear hb2 T20; have c4 := T2.cell 4 (.int .u64 0) rfl; have fz := (T2.row 4 (by decide)).2))
  have S3 := Lib.hid ((T2.part (r' := ⟨⟨#[]⟩, mk, tx, 0, 0, ⟨#[]⟩, 0⟩) 4 (.int .u64 (tx : Int)) rfl).later ((Below.refl _ _).drew))
  clear c4 fz T2 S2
  generalize World.setCell _ _ _ = W3 at *
  go_wp2_with fail
  go_region_held3 (fun w' => w'.cell? ⟨p, 0, none⟩ = some (.pointer (some ⟨f, 0, none⟩)) ∧ w'.cell? ⟨m, 0, none⟩ = some (.func (.func 45) #[] #[.pointer (some ⟨k, 0, none⟩)])) (first | exact S3.out.six | exact T3.six | exact (T3.part (r' := ⟨⟨#[]⟩, mk, tx, pg, 0, ⟨#[]⟩, 0⟩) 5 (.int .u32 (pg : Int)) rfl).six)
    (first | (go_at_call 45; refine (N4.out _ _ _ _ S3.out Q.out.2.1).mono ?_; rintro e x3 ⟨rfl, T30⟩; rw [← HPG.out]; obtain ⟨b3, hb3⟩ : ∃ b, b = (b2 && tkB s (q2 s) 4) := ⟨_, rfl⟩; rw [← hb3] at T30; have B3 := Lib.hid hb3; have T3 : St w x3 f p h k m s (q3 s) ⟨⟨#[]⟩, mk, tx, 0, 0, ⟨#[]⟩, 0⟩ b3 := T30; clear hb3 T30; have c4 := T3.cell 5 (.int .u32 0) rfl; have fz := (T3.row 5 (by decide)).2))
  have S4 := Lib.hid ((T3.part (r' := ⟨⟨#[]⟩, mk, tx, pg, 0, ⟨#[]⟩, 0⟩) 5 (.int .u32 (pg : Int)) rfl).later ((Below.refl _ _).drew))
  clear c4 fz T3 S3
  generalize World.setCell _ _ _ = W4 at *
  go_wp2_with fail
  go_region_held3 (fun w' => w'.cell? ⟨p, 0, none⟩ = some (.pointer (some ⟨f, 0, none⟩)) ∧ w'.cell? ⟨m, 0, none⟩ = some (.func (.func 45) #[] #[.pointer (some ⟨k, 0, none⟩)])) (first | exact S4.out.six | exact T4.six | exact (T4.part (r' := ⟨⟨#[]⟩, mk, tx, pg, sl, ⟨#[]⟩, 0⟩) 6 (.int .u16 (sl : Int)) rfl).six)
    (first | (go_at_call 45; refine (N2.out _ _ _ _ S4.out Q.out.2.2.1).mono ?_; rintro e x4 ⟨rfl, T40⟩; rw [← HSL.out]; obtain ⟨b4, hb4⟩ : ∃ b, b = (b3 && tkB s (q3 s) 2) := ⟨_, rfl⟩; rw [← hb4] at T40; have B4 := Lib.hid hb4; have T4 : St w x4 f p h k m s (q4 s) ⟨⟨#[]⟩, mk, tx, pg, 0, ⟨#[]⟩, 0⟩ b4 := T40; clear hb4 T40; have c4 := T4.cell 6 (.int .u16 0) rfl; have fz := (T4.row 6 (by decide)).2))
  have S5 := Lib.hid ((T4.part (r' := ⟨⟨#[]⟩, mk, tx, pg, sl, ⟨#[]⟩, 0⟩) 6 (.int .u16 (sl : Int)) rfl).later ((Below.refl _ _).drew))
  clear c4 fz T4 S4
  generalize World.setCell _ _ _ = W5 at *
  go_wp2_with fail
  go_region_held3 (fun w' => w'.cell? ⟨p, 0, none⟩ = some (.pointer (some ⟨f, 0, none⟩)) ∧ w'.cell? ⟨m, 0, none⟩ = some (.func (.func 45) #[] #[.pointer (some ⟨k, 0, none⟩)])) (first | exact S5.out.six | exact T5.six | exact (T5.part (r' := ⟨ke, mk, tx, pg, sl, ⟨#[]⟩, 0⟩) 2 (.string ke) rfl).six)
    (first | (go_at_call 46; refine (NT5.out _ _ _ S5.out).mono ?_; rintro e x5 ⟨rfl, T50⟩; obtain ⟨b5, hb5⟩ : ∃ b, b = (b4 && tkB s (q4 s) 1 && tkB s (q5 s) (nK s)) := ⟨_, rfl⟩; rw [← hb5] at T50; have B5 := Lib.hid hb5; have T5 := T50; clear hb5 T50; have c4 := T5.cell 2 (.string ⟨#[]⟩) rfl; have fz := (T5.row 2 (by decide)).2))
  have S6 := Lib.hid ((T5.part (r' := ⟨ke, mk, tx, pg, sl, ⟨#[]⟩, 0⟩) 2 (.string ke) rfl).later ((Below.refl _ _).drew))
  clear c4 fz T5 S5
  generalize World.setCell _ _ _ = W6 at *
  go_wp2_with fail
  go_region_held3 (fun w' => w'.cell? ⟨p, 0, none⟩ = some (.pointer (some ⟨f, 0, none⟩)) ∧ w'.cell? ⟨m, 0, none⟩ = some (.func (.func 45) #[] #[.pointer (some ⟨k, 0, none⟩)])) (first | exact S6.out.six | exact T6.six | exact (T6.part (r' := ⟨ke, mk, tx, pg, sl, va, 0⟩) 7 (.string va) rfl).six)
    (first | (go_at_call 46; refine (NT6.out _ _ _ S6.out).mono ?_; rintro e x6 ⟨rfl, T60⟩; obtain ⟨b6, hb6⟩ : ∃ b, b = (b5 && tkB s (q6 s) 1 && tkB s (q7 s) (nV s)) := ⟨_, rfl⟩; rw [← hb6] at T60; have B6 := Lib.hid hb6; have T6 := T60; clear hb6 T60; have c4 := T6.cell 7 (.string ⟨#[]⟩) rfl; have fz := (T6.row 7 (by decide)).2))
  have S7 := Lib.hid ((T6.part (r' := ⟨ke, mk, tx, pg, sl, va, 0⟩) 7 (.string va) rfl).later ((Below.refl _ _).drew))
  clear c4 fz T6 S6
  generalize World.setCell _ _ _ = W7 at *
  go_wp2_with fail
  obtain ⟨pd, hpd⟩ : ∃ x : Int, x = (s.size : Int) - (q8 s : Int) := ⟨_, rfl⟩
  have HPD := Lib.hid hpd
  have L7 := Lib.hid (left_any S7.out.fd HS.out Q.out.2.2.2.2.2.2.2)
  rw [← hpd] at L7
  clear hpd
  go_region_held3 (fun w' => w'.cell? ⟨p, 0, none⟩ = some (.pointer (some ⟨f, 0, none⟩)) ∧ w'.cell? ⟨m, 0, none⟩ = some (.func (.func 45) #[] #[.pointer (some ⟨k, 0, none⟩)])) (first | exact S7.out.six | exact T7.six | exact (T7.part (r' := ⟨ke, mk, tx, pg, sl, va, pd⟩) 8 (.int .i64 pd) rfl).six)
    (first | (go_at_call 47; refine L7.out.mono ?_; rintro e x7 ⟨rfl, bl⟩; have T7 := S7.out.later bl; clear bl; have c4 := T7.cell 8 (.int .i64 0) rfl; have fz := (T7.row 8 (by decide)).2))
  have S8 := Lib.hid (T7.part (r' := ⟨ke, mk, tx, pg, sl, va, pd⟩) 8 (.int .i64 pd) rfl)
  clear c4 fz T7 S7 L7
  generalize World.setCell _ _ _ = W8 at *
  obtain ⟨c0, c1⟩ := S8.out.wholeC
  have HR : Hid (rdR s = ⟨ke, mk, tx, pg, sl, va, pd⟩) := Lib.hid (by rw [HKE.out, HMK.out, mark_eq, HTX.out, HPG.out, HSL.out, HVA.out, HPD.out]; rfl)
  have HW : Hid (whB s = b6) := Lib.hid (by rw [B6.out, B5.out, B4.out, B3.out, B2.out, B1.out]; unfold whB; simp [Bool.and_assoc])
  have S9 := Lib.hid S8.out.fd
  have T9 := Lib.hid S8.out.touch
  clear S8
  cases b6 with
  | false =>
    go_wp2_with fail
    go_ret
    exact ⟨ret_bool (by rw [HW.out]; rfl), by rw [HR.out]; exact S9.out, T9.out⟩
  | true =>
    go_wp2_with fail
    go_ret
    exact ⟨ret_bool (by rw [HW.out, ← HMN.out, Bool.true_and, decide_eq_decide]; omega), by rw [HR.out]; exact S9.out, T9.out⟩

end Go.Proofs.YtobnenjhmkbdoaaDoor.Row
