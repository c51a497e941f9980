/-
  Walks: ops' bytes (the document).
  Walks: OpFill's bytes (the document).
-/
import Derived.Test.YticnbicnefnhbaaZ6
import Derived.Test.YticnbicnefnhbaaZ2
import Derived.Test.YticnbicnefnhbaaZ1
namespace Go.Proofs.Yticnbicnefnhbaa.Op
open Go.RowKit
open Go.Proofs.Yticnbicnefnhbaa.Seq (strS Is)
open Go.Proofs.Yticnbicnefnhbaa.By
attribute [local go_sem ↓] Go.wp_at_zero Go.wp_at_succ

theorem putS_nb {n m : Nat} (h1 : 1 ≤ m) (h8 : m ≤ 8) (hn : n < 256 ^ m) : putS (n : Int) (m : Int) = nb m n := by
  have h : (n : Int) / 2 ^ (8 * m) = 0 := by
    have : n / 2 ^ (8 * m) = 0 := Nat.div_eq_of_lt (by rw [pow256]; exact hn)
    have e : ((n / 2 ^ (8 * m) : Nat) : Int) = 0 := by rw [this]; rfl
    rw [← e]; simp
  have hb : putB (n : Int) (m : Int) = true := by
    unfold putB
    rw [Int.toNat_natCast, h]
    exact decide_eq_true ⟨by omega, by omega, rfl⟩
  unfold putS
  rw [if_pos hb]
  unfold bytesOf nb
  rw [Int.toNat_natCast, Int.toNat_natCast]
set_option maxRecDepth 100000 in
theorem rnum_any (n m : Nat) (w : World) (h1 : 1 ≤ m) (h4 : m ≤ 4) (hn : n < 256 ^ m) :
    Calls Try.prog 32 #[.int .i64 (n : Int), .int .i64 (m : Int)] w fun e w' => e = .returned (.string (nb m n)) ∧ Below w.heap.size w w' := by
  have hb : n < 4294967296 := by
    have : 256 ^ m ≤ 256 ^ 4 := Nat.pow_le_pow_right (by omega) h4
    have e : (256 : Nat) ^ 4 = 4294967296 := by decide
    omega
  have hu : U64 (n : Int) := by unfold U64; omega
  have K := Lib.hid (rput_any (n : Int) (m : Int) w hu)
  rw [putS_nb h1 (by omega) hn] at K
  have wz : IntKind.u64.wrap (n : Int) = (n : Int) := by rw [IntKind.wrap_u64]; omega
  clear h1 h4 hn hu
  generalize nb m n = x at *
  generalize putB _ _ = b at *
  go_enter Try.func32, Try.ntmps32
  go_wp2_with fail
  refine K.out.mono ?_
  rintro e w1 ⟨rfl, hb⟩
  go_wp2_with fail
  go_ret
  exact ⟨rfl, hb⟩
theorem rnum1 (n : Nat) (w : World) (h : n < 256) : Calls Try.prog 32 #[.int .i64 (n : Int), .int .i64 1] w fun e w' => e = .returned (.string (nb 1 n)) ∧ Below w.heap.size w w' := rnum_any n 1 w (by decide) (by decide) h
theorem rnum2 (n : Nat) (w : World) (h : n < 65536) : Calls Try.prog 32 #[.int .i64 (n : Int), .int .i64 2] w fun e w' => e = .returned (.string (nb 2 n)) ∧ Below w.heap.size w w' := rnum_any n 2 w (by decide) (by decide) h
theorem rnum4 (n : Nat) (w : World) (h : n < 4294967296) : Calls Try.prog 32 #[.int .i64 (n : Int), .int .i64 4] w fun e w' => e = .returned (.string (nb 4 n)) ∧ Below w.heap.size w w' := rnum_any n 4 w (by decide) (by decide) h
theorem small {x y : Nat} (h : x + y ≤ 9223372036854775807) : (9223372036854775807 < x + y) = False := by simp only [eq_iff_iff, iff_false]; omega
/-- GEN -/
theorem gen_mark : True := trivial
set_option maxRecDepth 100000 in
set_option maxHeartbeats 4000000 in
theorem rbytes1 {w : World} {page a f : Nat} {text : ByteArray} {rows : List ByteArray} {pkind level next : Nat} {u : Value} (h : In w ⟨1, page, (a : Int), (f : Int), text, rows, pkind, level, next⟩ u) (hm : May ⟨1, page, (a : Int), (f : Int), text, rows, pkind, level, next⟩) :
    Calls Try.prog 33 #[oV ⟨1, page, (a : Int), (f : Int), text, rows, pkind, level, next⟩ u] w fun e w' => e = .returned (.string (T (bytes ⟨1, page, (a : Int), (f : Int), text, rows, pkind, level, next⟩))) ∧ Below w.heap.size w w' := by
  have T0 := Lib.hid (Bx.start w ⟨1, page, (a : Int), (f : Int), text, rows, pkind, level, next⟩ u)
  obtain ⟨ad, c, rfl⟩ := h.rows.shape
  have b1 := h.wf.page; have b2 := h.wf.pkind; have b3 := h.wf.level; have b4 := h.wf.next; have b5 := hm.a1; have b6 := hm.o1; have b7 := hm.tt; have b8 := hm.rl
  simp only at b1 b2 b3 b4 b5 b6 b7 b8
  have C0 := Lib.hid (fun W => (show Calls Try.prog 32 #[.int .i64 1, .int .i64 1] W fun e w' => e = .returned (.string (nb 1 1)) ∧ Below W.heap.size W w' from rnum1 1 W (by decide)))
  have C1 := Lib.hid (fun W => rnum4 page W b1)
  have D0 := Lib.hid (fun W => rnum1 pkind W (by omega))
  have D1 := Lib.hid (fun W => rnum1 level W (by omega))
  have D2 := Lib.hid (fun W => rnum4 next W (by omega))
  have E := Lib.hid (show T (bytes ⟨1, page, (a : Int), (f : Int), text, rows, pkind, level, next⟩) = nb 1 1 ++ nb 4 page ++ nb 1 pkind ++ nb 1 level ++ nb 4 next from L_ext (by simp [bytes, tail, L_nb]))
  have wk : IntKind.i64.wrap 1 = 1 := by decide
  have wp : IntKind.i64.wrap (page : Int) = (page : Int) := by rw [IntKind.wrap_i64]; omega
  have wq : IntKind.i64.wrap (pkind : Int) = (pkind : Int) := by rw [IntKind.wrap_i64]; omega
  have wl : IntKind.i64.wrap (level : Int) = (level : Int) := by rw [IntKind.wrap_i64]; omega
  have wn : IntKind.i64.wrap (next : Int) = (next : Int) := by rw [IntKind.wrap_i64]; omega
  have z0 : (nb 1 1).size = 1 := nb_size _ _
  have z1 : (nb 4 page).size = 4 := nb_size _ _
  have z2 : (nb 1 pkind).size = 1 := nb_size _ _
  have z3 : (nb 1 level).size = 1 := nb_size _ _
  have z4 : (nb 4 next).size = 4 := nb_size _ _
  generalize hx0 : nb 1 1 = x0 at *
  generalize hx1 : nb 4 page = x1 at *
  generalize hx2 : nb 1 pkind = x2 at *
  generalize hx3 : nb 1 level = x3 at *
  generalize hx4 : nb 4 next = x4 at *
  clear hx0 hx1 hx2 hx3 hx4
  have s0 := small (x := x0.size) (y := x1.size) (by omega)
  have s1 := small (x := (x0 ++ x1).size) (y := x2.size) (by simp only [ByteArray.size_append]; omega)
  have s2 := small (x := (x0 ++ x1 ++ x2).size) (y := x3.size) (by simp only [ByteArray.size_append]; omega)
  have s3 := small (x := (x0 ++ x1 ++ x2 ++ x3).size) (y := x4.size) (by simp only [ByteArray.size_append]; omega)
  have g1 := T0.out.below
  unfold oV oC at *
  simp only at T0
  clear h hm g1
  go_enter Try.func33, Try.ntmps33
  go_upto_region 1 with fail
  generalize w.alloc _ = W1 at *
  have T1 := Lib.hid (T0.out.later (Below.refl _ _).drew)
  go_region_held3 (fun w' => w'.cell? ⟨w.heap.size, 0, none⟩ = some (.int .u8 1) ∧ w'.cell? ⟨w.heap.size, 1, none⟩ = some (.int .u32 (page : Int)) ∧ w'.cell? ⟨w.heap.size, 2, none⟩ = some (.int .i64 (a : Int)) ∧ w'.cell? ⟨w.heap.size, 3, none⟩ = some (.int .i64 (f : Int)) ∧ w'.cell? ⟨w.heap.size, 4, none⟩ = some (.string text) ∧ w'.cell? ⟨w.heap.size, 5, none⟩ = some (.slice ad rows.length c) ∧ w'.cell? ⟨w.heap.size, 6, none⟩ = some (.int .u8 (pkind : Int)) ∧ w'.cell? ⟨w.heap.size, 7, none⟩ = some (.int .u8 (level : Int)) ∧ w'.cell? ⟨w.heap.size, 8, none⟩ = some (.int .u32 (next : Int))) (first | exact T1.out.nine | exact T2.nine | exact T3.nine)
    (first
      | (go_at_call 32; (with_reducible refine (C0.out _).mono ?_); rintro e w2 ⟨rfl, c2⟩; have T2 := T1.out.later c2)
      | (go_at_call 32; (with_reducible refine (C1.out _).mono ?_); rintro e w3 ⟨rfl, c3⟩; have T3 := T2.later c3))
  have T4 := Lib.hid T3
  clear T0 T1 T2 T3 c2 c3 C0 C1
  obtain ⟨a0, a1, a2, a3, a4, a5, a6, a7, a8⟩ := T4.out.nine
  simp only at a0 a1 a2 a3 a4 a5 a6 a7 a8
  go_upto_region 4 with fail
  clear a0 a1 a2 a3 a4 a5 a6 a7 a8
  have U0 := Lib.hid (T4.out.later (Below.refl _ _).drew)
  go_region_held3 (fun w' => w'.cell? ⟨w.heap.size, 0, none⟩ = some (.int .u8 1) ∧ w'.cell? ⟨w.heap.size, 1, none⟩ = some (.int .u32 (page : Int)) ∧ w'.cell? ⟨w.heap.size, 2, none⟩ = some (.int .i64 (a : Int)) ∧ w'.cell? ⟨w.heap.size, 3, none⟩ = some (.int .i64 (f : Int)) ∧ w'.cell? ⟨w.heap.size, 4, none⟩ = some (.string text) ∧ w'.cell? ⟨w.heap.size, 5, none⟩ = some (.slice ad rows.length c) ∧ w'.cell? ⟨w.heap.size, 6, none⟩ = some (.int .u8 (pkind : Int)) ∧ w'.cell? ⟨w.heap.size, 7, none⟩ = some (.int .u8 (level : Int)) ∧ w'.cell? ⟨w.heap.size, 8, none⟩ = some (.int .u32 (next : Int))) (first | exact U0.out.nine | exact U1.nine | exact U2.nine | exact U3.nine)
    (first
      | (go_at_call 32; (with_reducible refine (D0.out _).mono ?_); rintro e v1 ⟨rfl, d1⟩; have U1 := U0.out.later d1)
      | (go_at_call 32; (with_reducible refine (D1.out _).mono ?_); rintro e v2 ⟨rfl, d2⟩; have U2 := U1.later d2)
      | (go_at_call 32; (with_reducible refine (D2.out _).mono ?_); rintro e v3 ⟨rfl, d3⟩; have U3 := U2.later d3))
  have BB := Lib.hid U3.below
  clear T4 U0 U1 d1 D0 U2 d2 D1 U3 d3 D2
  go_wp2_with fail
  go_ret
  exact ⟨by rw [E.out]; rfl, BB.out⟩
set_option maxRecDepth 100000 in
set_option maxHeartbeats 4000000 in
theorem rbytes2 {w : World} {page a f : Nat} {text : ByteArray} {rows : List ByteArray} {pkind level next : Nat} {u : Value} (h : In w ⟨2, page, (a : Int), (f : Int), text, rows, pkind, level, next⟩ u) (hm : May ⟨2, page, (a : Int), (f : Int), text, rows, pkind, level, next⟩) :
    Calls Try.prog 33 #[oV ⟨2, page, (a : Int), (f : Int), text, rows, pkind, level, next⟩ u] w fun e w' => e = .returned (.string (T (bytes ⟨2, page, (a : Int), (f : Int), text, rows, pkind, level, next⟩))) ∧ Below w.heap.size w w' := by
  have T0 := Lib.hid (Bx.start w ⟨2, page, (a : Int), (f : Int), text, rows, pkind, level, next⟩ u)
  obtain ⟨ad, c, rfl⟩ := h.rows.shape
  have b1 := h.wf.page; have b2 := h.wf.pkind; have b3 := h.wf.level; have b4 := h.wf.next; have b5 := hm.a1; have b6 := hm.o1; have b7 := hm.tt; have b8 := hm.rl
  simp only at b1 b2 b3 b4 b5 b6 b7 b8
  have C0 := Lib.hid (fun W => (show Calls Try.prog 32 #[.int .i64 2, .int .i64 1] W fun e w' => e = .returned (.string (nb 1 2)) ∧ Below W.heap.size W w' from rnum1 2 W (by decide)))
  have C1 := Lib.hid (fun W => rnum4 page W b1)
  have D0 := Lib.hid (fun W => rnum2 a W (by omega))
  have D1 := Lib.hid (fun W => rnum2 text.size W (by omega))
  have E := Lib.hid (show T (bytes ⟨2, page, (a : Int), (f : Int), text, rows, pkind, level, next⟩) = nb 1 2 ++ nb 4 page ++ nb 2 a ++ nb 2 text.size ++ text from L_ext (by simp [bytes, tail, tb, L_nb]))
  have wk : IntKind.i64.wrap 2 = 2 := by decide
  have wp : IntKind.i64.wrap (page : Int) = (page : Int) := by rw [IntKind.wrap_i64]; omega
  have wq : IntKind.i64.wrap (pkind : Int) = (pkind : Int) := by rw [IntKind.wrap_i64]; omega
  have wl : IntKind.i64.wrap (level : Int) = (level : Int) := by rw [IntKind.wrap_i64]; omega
  have wn : IntKind.i64.wrap (next : Int) = (next : Int) := by rw [IntKind.wrap_i64]; omega
  have z0 : (nb 1 2).size = 1 := nb_size _ _
  have z1 : (nb 4 page).size = 4 := nb_size _ _
  have z2 : (nb 2 a).size = 2 := nb_size _ _
  have z3 : (nb 2 text.size).size = 2 := nb_size _ _
  generalize hx0 : nb 1 2 = x0 at *
  generalize hx1 : nb 4 page = x1 at *
  generalize hx2 : nb 2 a = x2 at *
  generalize hx3 : nb 2 text.size = x3 at *
  clear hx0 hx1 hx2 hx3
  have s0 := small (x := x0.size) (y := x1.size) (by omega)
  have s1 := small (x := (x0 ++ x1).size) (y := x2.size) (by simp only [ByteArray.size_append]; omega)
  have s2 := small (x := (x0 ++ x1 ++ x2).size) (y := x3.size) (by simp only [ByteArray.size_append]; omega)
  have s3 := small (x := (x0 ++ x1 ++ x2 ++ x3).size) (y := text.size) (by simp only [ByteArray.size_append]; omega)
  have sT := small (x := 9) (y := text.size) (by omega)
  have bT : text.size ≤ 488 := by omega
  have g1 := T0.out.below
  unfold oV oC at *
  simp only at T0
  clear h hm g1
  go_enter Try.func33, Try.ntmps33
  go_upto_region 1 with fail
  generalize w.alloc _ = W1 at *
  have T1 := Lib.hid (T0.out.later (Below.refl _ _).drew)
  go_region_held3 (fun w' => w'.cell? ⟨w.heap.size, 0, none⟩ = some (.int .u8 2) ∧ w'.cell? ⟨w.heap.size, 1, none⟩ = some (.int .u32 (page : Int)) ∧ w'.cell? ⟨w.heap.size, 2, none⟩ = some (.int .i64 (a : Int)) ∧ w'.cell? ⟨w.heap.size, 3, none⟩ = some (.int .i64 (f : Int)) ∧ w'.cell? ⟨w.heap.size, 4, none⟩ = some (.string text) ∧ w'.cell? ⟨w.heap.size, 5, none⟩ = some (.slice ad rows.length c) ∧ w'.cell? ⟨w.heap.size, 6, none⟩ = some (.int .u8 (pkind : Int)) ∧ w'.cell? ⟨w.heap.size, 7, none⟩ = some (.int .u8 (level : Int)) ∧ w'.cell? ⟨w.heap.size, 8, none⟩ = some (.int .u32 (next : Int))) (first | exact T1.out.nine | exact T2.nine | exact T3.nine)
    (first
      | (go_at_call 32; (with_reducible refine (C0.out _).mono ?_); rintro e w2 ⟨rfl, c2⟩; have T2 := T1.out.later c2)
      | (go_at_call 32; (with_reducible refine (C1.out _).mono ?_); rintro e w3 ⟨rfl, c3⟩; have T3 := T2.later c3))
  have T4 := Lib.hid T3
  clear T0 T1 T2 T3 c2 c3 C0 C1
  obtain ⟨a0, a1, a2, a3, a4, a5, a6, a7, a8⟩ := T4.out.nine
  simp only at a0 a1 a2 a3 a4 a5 a6 a7 a8
  go_upto_region 7 with fail
  clear a0 a1 a2 a3 a4 a5 a6 a7 a8
  have U0 := Lib.hid (T4.out.later (Below.refl _ _).drew)
  go_region_held3 (fun w' => w'.cell? ⟨w.heap.size, 0, none⟩ = some (.int .u8 2) ∧ w'.cell? ⟨w.heap.size, 1, none⟩ = some (.int .u32 (page : Int)) ∧ w'.cell? ⟨w.heap.size, 2, none⟩ = some (.int .i64 (a : Int)) ∧ w'.cell? ⟨w.heap.size, 3, none⟩ = some (.int .i64 (f : Int)) ∧ w'.cell? ⟨w.heap.size, 4, none⟩ = some (.string text) ∧ w'.cell? ⟨w.heap.size, 5, none⟩ = some (.slice ad rows.length c) ∧ w'.cell? ⟨w.heap.size, 6, none⟩ = some (.int .u8 (pkind : Int)) ∧ w'.cell? ⟨w.heap.size, 7, none⟩ = some (.int .u8 (level : Int)) ∧ w'.cell? ⟨w.heap.size, 8, none⟩ = some (.int .u32 (next : Int))) (first | exact U0.out.nine | exact U1.nine | exact U2.nine)
    (first
      | (go_at_call 32; (with_reducible refine (D0.out _).mono ?_); rintro e v1 ⟨rfl, d1⟩; have U1 := U0.out.later d1)
      | (go_at_call 32; (with_reducible refine (D1.out _).mono ?_); rintro e v2 ⟨rfl, d2⟩; have U2 := U1.later d2))
  have BB := Lib.hid U2.below
  clear T4 U0 U1 d1 D0 U2 d2 D1
  go_wp2_with fail
  go_ret
  exact ⟨by rw [E.out]; rfl, BB.out⟩
set_option maxRecDepth 100000 in
set_option maxHeartbeats 4000000 in
theorem rbytes3 {w : World} {page a f : Nat} {text : ByteArray} {rows : List ByteArray} {pkind level next : Nat} {u : Value} (h : In w ⟨3, page, (a : Int), (f : Int), text, rows, pkind, level, next⟩ u) (hm : May ⟨3, page, (a : Int), (f : Int), text, rows, pkind, level, next⟩) :
    Calls Try.prog 33 #[oV ⟨3, page, (a : Int), (f : Int), text, rows, pkind, level, next⟩ u] w fun e w' => e = .returned (.string (T (bytes ⟨3, page, (a : Int), (f : Int), text, rows, pkind, level, next⟩))) ∧ Below w.heap.size w w' := by
  have T0 := Lib.hid (Bx.start w ⟨3, page, (a : Int), (f : Int), text, rows, pkind, level, next⟩ u)
  obtain ⟨ad, c, rfl⟩ := h.rows.shape
  have b1 := h.wf.page; have b2 := h.wf.pkind; have b3 := h.wf.level; have b4 := h.wf.next; have b5 := hm.a1; have b6 := hm.o1; have b7 := hm.tt; have b8 := hm.rl
  simp only at b1 b2 b3 b4 b5 b6 b7 b8
  have C0 := Lib.hid (fun W => (show Calls Try.prog 32 #[.int .i64 3, .int .i64 1] W fun e w' => e = .returned (.string (nb 1 3)) ∧ Below W.heap.size W w' from rnum1 3 W (by decide)))
  have C1 := Lib.hid (fun W => rnum4 page W b1)
  have D0 := Lib.hid (fun W => rnum2 a W (by omega))
  have D1 := Lib.hid (fun W => rnum2 text.size W (by omega))
  have E := Lib.hid (show T (bytes ⟨3, page, (a : Int), (f : Int), text, rows, pkind, level, next⟩) = nb 1 3 ++ nb 4 page ++ nb 2 a ++ nb 2 text.size ++ text from L_ext (by simp [bytes, tail, tb, L_nb]))
  have wk : IntKind.i64.wrap 3 = 3 := by decide
  have wp : IntKind.i64.wrap (page : Int) = (page : Int) := by rw [IntKind.wrap_i64]; omega
  have wq : IntKind.i64.wrap (pkind : Int) = (pkind : Int) := by rw [IntKind.wrap_i64]; omega
  have wl : IntKind.i64.wrap (level : Int) = (level : Int) := by rw [IntKind.wrap_i64]; omega
  have wn : IntKind.i64.wrap (next : Int) = (next : Int) := by rw [IntKind.wrap_i64]; omega
  have z0 : (nb 1 3).size = 1 := nb_size _ _
  have z1 : (nb 4 page).size = 4 := nb_size _ _
  have z2 : (nb 2 a).size = 2 := nb_size _ _
  have z3 : (nb 2 text.size).size = 2 := nb_size _ _
  generalize hx0 : nb 1 3 = x0 at *
  generalize hx1 : nb 4 page = x1 at *
  generalize hx2 : nb 2 a = x2 at *
  generalize hx3 : nb 2 text.size = x3 at *
  clear hx0 hx1 hx2 hx3
  have s0 := small (x := x0.size) (y := x1.size) (by omega)
  have s1 := small (x := (x0 ++ x1).size) (y := x2.size) (by simp only [ByteArray.size_append]; omega)
  have s2 := small (x := (x0 ++ x1 ++ x2).size) (y := x3.size) (by simp only [ByteArray.size_append]; omega)
  have s3 := small (x := (x0 ++ x1 ++ x2 ++ x3).size) (y := text.size) (by simp only [ByteArray.size_append]; omega)
  have sT := small (x := 9) (y := text.size) (by omega)
  have bT : text.size ≤ 488 := by omega
  have g1 := T0.out.below
  unfold oV oC at *
  simp only at T0
  clear h hm g1
  go_enter Try.func33, Try.ntmps33
  go_upto_region 1 with fail
  generalize w.alloc _ = W1 at *
  have T1 := Lib.hid (T0.out.later (Below.refl _ _).drew)
  go_region_held3 (fun w' => w'.cell? ⟨w.heap.size, 0, none⟩ = some (.int .u8 3) ∧ w'.cell? ⟨w.heap.size, 1, none⟩ = some (.int .u32 (page : Int)) ∧ w'.cell? ⟨w.heap.size, 2, none⟩ = some (.int .i64 (a : Int)) ∧ w'.cell? ⟨w.heap.size, 3, none⟩ = some (.int .i64 (f : Int)) ∧ w'.cell? ⟨w.heap.size, 4, none⟩ = some (.string text) ∧ w'.cell? ⟨w.heap.size, 5, none⟩ = some (.slice ad rows.length c) ∧ w'.cell? ⟨w.heap.size, 6, none⟩ = some (.int .u8 (pkind : Int)) ∧ w'.cell? ⟨w.heap.size, 7, none⟩ = some (.int .u8 (level : Int)) ∧ w'.cell? ⟨w.heap.size, 8, none⟩ = some (.int .u32 (next : Int))) (first | exact T1.out.nine | exact T2.nine | exact T3.nine)
    (first
      | (go_at_call 32; (with_reducible refine (C0.out _).mono ?_); rintro e w2 ⟨rfl, c2⟩; have T2 := T1.out.later c2)
      | (go_at_call 32; (with_reducible refine (C1.out _).mono ?_); rintro e w3 ⟨rfl, c3⟩; have T3 := T2.later c3))
  have T4 := Lib.hid T3
  clear T0 T1 T2 T3 c2 c3 C0 C1
  obtain ⟨a0, a1, a2, a3, a4, a5, a6, a7, a8⟩ := T4.out.nine
  simp only at a0 a1 a2 a3 a4 a5 a6 a7 a8
  go_upto_region 7 with fail
  clear a0 a1 a2 a3 a4 a5 a6 a7 a8
  have U0 := Lib.hid (T4.out.later (Below.refl _ _).drew)
  go_region_held3 (fun w' => w'.cell? ⟨w.heap.size, 0, none⟩ = some (.int .u8 3) ∧ w'.cell? ⟨w.heap.size, 1, none⟩ = some (.int .u32 (page : Int)) ∧ w'.cell? ⟨w.heap.size, 2, none⟩ = some (.int .i64 (a : Int)) ∧ w'.cell? ⟨w.heap.size, 3, none⟩ = some (.int .i64 (f : Int)) ∧ w'.cell? ⟨w.heap.size, 4, none⟩ = some (.string text) ∧ w'.cell? ⟨w.heap.size, 5, none⟩ = some (.slice ad rows.length c) ∧ w'.cell? ⟨w.heap.size, 6, none⟩ = some (.int .u8 (pkind : Int)) ∧ w'.cell? ⟨w.heap.size, 7, none⟩ = some (.int .u8 (level : Int)) ∧ w'.cell? ⟨w.heap.size, 8, none⟩ = some (.int .u32 (next : Int))) (first | exact U0.out.nine | exact U1.nine | exact U2.nine)
    (first
      | (go_at_call 32; (with_reducible refine (D0.out _).mono ?_); rintro e v1 ⟨rfl, d1⟩; have U1 := U0.out.later d1)
      | (go_at_call 32; (with_reducible refine (D1.out _).mono ?_); rintro e v2 ⟨rfl, d2⟩; have U2 := U1.later d2))
  have BB := Lib.hid U2.below
  clear T4 U0 U1 d1 D0 U2 d2 D1
  go_wp2_with fail
  go_ret
  exact ⟨by rw [E.out]; rfl, BB.out⟩
set_option maxRecDepth 100000 in
set_option maxHeartbeats 4000000 in
theorem rbytes8 {w : World} {page a f : Nat} {text : ByteArray} {rows : List ByteArray} {pkind level next : Nat} {u : Value} (h : In w ⟨8, page, (a : Int), (f : Int), text, rows, pkind, level, next⟩ u) (hm : May ⟨8, page, (a : Int), (f : Int), text, rows, pkind, level, next⟩) :
    Calls Try.prog 33 #[oV ⟨8, page, (a : Int), (f : Int), text, rows, pkind, level, next⟩ u] w fun e w' => e = .returned (.string (T (bytes ⟨8, page, (a : Int), (f : Int), text, rows, pkind, level, next⟩))) ∧ Below w.heap.size w w' := by
  have T0 := Lib.hid (Bx.start w ⟨8, page, (a : Int), (f : Int), text, rows, pkind, level, next⟩ u)
  obtain ⟨ad, c, rfl⟩ := h.rows.shape
  have b1 := h.wf.page; have b2 := h.wf.pkind; have b3 := h.wf.level; have b4 := h.wf.next; have b5 := hm.a1; have b6 := hm.o1; have b7 := hm.tt; have b8 := hm.rl
  simp only at b1 b2 b3 b4 b5 b6 b7 b8
  have C0 := Lib.hid (fun W => (show Calls Try.prog 32 #[.int .i64 8, .int .i64 1] W fun e w' => e = .returned (.string (nb 1 8)) ∧ Below W.heap.size W w' from rnum1 8 W (by decide)))
  have C1 := Lib.hid (fun W => rnum4 page W b1)
  have D0 := Lib.hid (fun W => rnum2 a W (by omega))
  have D1 := Lib.hid (fun W => rnum2 f W (by omega))
  have D2 := Lib.hid (fun W => rnum2 text.size W (by omega))
  have E := Lib.hid (show T (bytes ⟨8, page, (a : Int), (f : Int), text, rows, pkind, level, next⟩) = nb 1 8 ++ nb 4 page ++ nb 2 a ++ nb 2 f ++ nb 2 text.size ++ text from L_ext (by simp [bytes, tail, tb, L_nb]))
  have wk : IntKind.i64.wrap 8 = 8 := by decide
  have wp : IntKind.i64.wrap (page : Int) = (page : Int) := by rw [IntKind.wrap_i64]; omega
  have wq : IntKind.i64.wrap (pkind : Int) = (pkind : Int) := by rw [IntKind.wrap_i64]; omega
  have wl : IntKind.i64.wrap (level : Int) = (level : Int) := by rw [IntKind.wrap_i64]; omega
  have wn : IntKind.i64.wrap (next : Int) = (next : Int) := by rw [IntKind.wrap_i64]; omega
  have z0 : (nb 1 8).size = 1 := nb_size _ _
  have z1 : (nb 4 page).size = 4 := nb_size _ _
  have z2 : (nb 2 a).size = 2 := nb_size _ _
  have z3 : (nb 2 f).size = 2 := nb_size _ _
  have z4 : (nb 2 text.size).size = 2 := nb_size _ _
  generalize hx0 : nb 1 8 = x0 at *
  generalize hx1 : nb 4 page = x1 at *
  generalize hx2 : nb 2 a = x2 at *
  generalize hx3 : nb 2 f = x3 at *
  generalize hx4 : nb 2 text.size = x4 at *
  clear hx0 hx1 hx2 hx3 hx4
  have s0 := small (x := x0.size) (y := x1.size) (by omega)
  have s1 := small (x := (x0 ++ x1).size) (y := x2.size) (by simp only [ByteArray.size_append]; omega)
  have s2 := small (x := (x0 ++ x1 ++ x2).size) (y := x3.size) (by simp only [ByteArray.size_append]; omega)
  have s3 := small (x := (x0 ++ x1 ++ x2 ++ x3).size) (y := x4.size) (by simp only [ByteArray.size_append]; omega)
  have s4 := small (x := (x0 ++ x1 ++ x2 ++ x3 ++ x4).size) (y := text.size) (by simp only [ByteArray.size_append]; omega)
  have sT := small (x := 11) (y := text.size) (by omega)
  have bT : text.size ≤ 488 := by omega
  have g1 := T0.out.below
  unfold oV oC at *
  simp only at T0
  clear h hm g1
  go_enter Try.func33, Try.ntmps33
  go_upto_region 1 with fail
  generalize w.alloc _ = W1 at *
  have T1 := Lib.hid (T0.out.later (Below.refl _ _).drew)
  go_region_held3 (fun w' => w'.cell? ⟨w.heap.size, 0, none⟩ = some (.int .u8 8) ∧ w'.cell? ⟨w.heap.size, 1, none⟩ = some (.int .u32 (page : Int)) ∧ w'.cell? ⟨w.heap.size, 2, none⟩ = some (.int .i64 (a : Int)) ∧ w'.cell? ⟨w.heap.size, 3, none⟩ = some (.int .i64 (f : Int)) ∧ w'.cell? ⟨w.heap.size, 4, none⟩ = some (.string text) ∧ w'.cell? ⟨w.heap.size, 5, none⟩ = some (.slice ad rows.length c) ∧ w'.cell? ⟨w.heap.size, 6, none⟩ = some (.int .u8 (pkind : Int)) ∧ w'.cell? ⟨w.heap.size, 7, none⟩ = some (.int .u8 (level : Int)) ∧ w'.cell? ⟨w.heap.size, 8, none⟩ = some (.int .u32 (next : Int))) (first | exact T1.out.nine | exact T2.nine | exact T3.nine)
    (first
      | (go_at_call 32; (with_reducible refine (C0.out _).mono ?_); rintro e w2 ⟨rfl, c2⟩; have T2 := T1.out.later c2)
      | (go_at_call 32; (with_reducible refine (C1.out _).mono ?_); rintro e w3 ⟨rfl, c3⟩; have T3 := T2.later c3))
  have T4 := Lib.hid T3
  clear T0 T1 T2 T3 c2 c3 C0 C1
  obtain ⟨a0, a1, a2, a3, a4, a5, a6, a7, a8⟩ := T4.out.nine
  simp only at a0 a1 a2 a3 a4 a5 a6 a7 a8
  go_upto_region 14 with fail
  clear a0 a1 a2 a3 a4 a5 a6 a7 a8
  have U0 := Lib.hid (T4.out.later (Below.refl _ _).drew)
  go_region_held3 (fun w' => w'.cell? ⟨w.heap.size, 0, none⟩ = some (.int .u8 8) ∧ w'.cell? ⟨w.heap.size, 1, none⟩ = some (.int .u32 (page : Int)) ∧ w'.cell? ⟨w.heap.size, 2, none⟩ = some (.int .i64 (a : Int)) ∧ w'.cell? ⟨w.heap.size, 3, none⟩ = some (.int .i64 (f : Int)) ∧ w'.cell? ⟨w.heap.size, 4, none⟩ = some (.string text) ∧ w'.cell? ⟨w.heap.size, 5, none⟩ = some (.slice ad rows.length c) ∧ w'.cell? ⟨w.heap.size, 6, none⟩ = some (.int .u8 (pkind : Int)) ∧ w'.cell? ⟨w.heap.size, 7, none⟩ = some (.int .u8 (level : Int)) ∧ w'.cell? ⟨w.heap.size, 8, none⟩ = some (.int .u32 (next : Int))) (first | exact U0.out.nine | exact U1.nine | exact U2.nine | exact U3.nine)
    (first
      | (go_at_call 32; (with_reducible refine (D0.out _).mono ?_); rintro e v1 ⟨rfl, d1⟩; have U1 := U0.out.later d1)
      | (go_at_call 32; (with_reducible refine (D1.out _).mono ?_); rintro e v2 ⟨rfl, d2⟩; have U2 := U1.later d2)
      | (go_at_call 32; (with_reducible refine (D2.out _).mono ?_); rintro e v3 ⟨rfl, d3⟩; have U3 := U2.later d3))
  have BB := Lib.hid U3.below
  clear T4 U0 U1 d1 D0 U2 d2 D1 U3 d3 D2
  go_wp2_with fail
  go_ret
  exact ⟨by rw [E.out]; rfl, BB.out⟩
set_option maxRecDepth 100000 in
set_option maxHeartbeats 4000000 in
theorem rbytes4 {w : World} {page a f : Nat} {text : ByteArray} {rows : List ByteArray} {pkind level next : Nat} {u : Value} (h : In w ⟨4, page, (a : Int), (f : Int), text, rows, pkind, level, next⟩ u) (hm : May ⟨4, page, (a : Int), (f : Int), text, rows, pkind, level, next⟩) :
    Calls Try.prog 33 #[oV ⟨4, page, (a : Int), (f : Int), text, rows, pkind, level, next⟩ u] w fun e w' => e = .returned (.string (T (bytes ⟨4, page, (a : Int), (f : Int), text, rows, pkind, level, next⟩))) ∧ Below w.heap.size w w' := by
  have T0 := Lib.hid (Bx.start w ⟨4, page, (a : Int), (f : Int), text, rows, pkind, level, next⟩ u)
  obtain ⟨ad, c, rfl⟩ := h.rows.shape
  have b1 := h.wf.page; have b2 := h.wf.pkind; have b3 := h.wf.level; have b4 := h.wf.next; have b5 := hm.a1; have b6 := hm.o1; have b7 := hm.tt; have b8 := hm.rl
  simp only at b1 b2 b3 b4 b5 b6 b7 b8
  have C0 := Lib.hid (fun W => (show Calls Try.prog 32 #[.int .i64 4, .int .i64 1] W fun e w' => e = .returned (.string (nb 1 4)) ∧ Below W.heap.size W w' from rnum1 4 W (by decide)))
  have C1 := Lib.hid (fun W => rnum4 page W b1)
  have D0 := Lib.hid (fun W => rnum2 a W (by omega))
  have E := Lib.hid (show T (bytes ⟨4, page, (a : Int), (f : Int), text, rows, pkind, level, next⟩) = nb 1 4 ++ nb 4 page ++ nb 2 a from L_ext (by simp [bytes, tail, L_nb]))
  have wk : IntKind.i64.wrap 4 = 4 := by decide
  have wp : IntKind.i64.wrap (page : Int) = (page : Int) := by rw [IntKind.wrap_i64]; omega
  have wq : IntKind.i64.wrap (pkind : Int) = (pkind : Int) := by rw [IntKind.wrap_i64]; omega
  have wl : IntKind.i64.wrap (level : Int) = (level : Int) := by rw [IntKind.wrap_i64]; omega
  have wn : IntKind.i64.wrap (next : Int) = (next : Int) := by rw [IntKind.wrap_i64]; omega
  have z0 : (nb 1 4).size = 1 := nb_size _ _
  have z1 : (nb 4 page).size = 4 := nb_size _ _
  have z2 : (nb 2 a).size = 2 := nb_size _ _
  generalize hx0 : nb 1 4 = x0 at *
  generalize hx1 : nb 4 page = x1 at *
  generalize hx2 : nb 2 a = x2 at *
  clear hx0 hx1 hx2
  have s0 := small (x := x0.size) (y := x1.size) (by omega)
  have s1 := small (x := (x0 ++ x1).size) (y := x2.size) (by simp only [ByteArray.size_append]; omega)
  have g1 := T0.out.below
  unfold oV oC at *
  simp only at T0
  clear h hm g1
  go_enter Try.func33, Try.ntmps33
  go_upto_region 1 with fail
  generalize w.alloc _ = W1 at *
  have T1 := Lib.hid (T0.out.later (Below.refl _ _).drew)
  go_region_held3 (fun w' => w'.cell? ⟨w.heap.size, 0, none⟩ = some (.int .u8 4) ∧ w'.cell? ⟨w.heap.size, 1, none⟩ = some (.int .u32 (page : Int)) ∧ w'.cell? ⟨w.heap.size, 2, none⟩ = some (.int .i64 (a : Int)) ∧ w'.cell? ⟨w.heap.size, 3, none⟩ = some (.int .i64 (f : Int)) ∧ w'.cell? ⟨w.heap.size, 4, none⟩ = some (.string text) ∧ w'.cell? ⟨w.heap.size, 5, none⟩ = some (.slice ad rows.length c) ∧ w'.cell? ⟨w.heap.size, 6, none⟩ = some (.int .u8 (pkind : Int)) ∧ w'.cell? ⟨w.heap.size, 7, none⟩ = some (.int .u8 (level : Int)) ∧ w'.cell? ⟨w.heap.size, 8, none⟩ = some (.int .u32 (next : Int))) (first | exact T1.out.nine | exact T2.nine | exact T3.nine)
    (first
      | (go_at_call 32; (with_reducible refine (C0.out _).mono ?_); rintro e w2 ⟨rfl, c2⟩; have T2 := T1.out.later c2)
      | (go_at_call 32; (with_reducible refine (C1.out _).mono ?_); rintro e w3 ⟨rfl, c3⟩; have T3 := T2.later c3))
  have T4 := Lib.hid T3
  clear T0 T1 T2 T3 c2 c3 C0 C1
  obtain ⟨a0, a1, a2, a3, a4, a5, a6, a7, a8⟩ := T4.out.nine
  simp only at a0 a1 a2 a3 a4 a5 a6 a7 a8
  go_wp2_with fail
  refine (D0.out _).mono ?_
  rintro e w4 ⟨rfl, d4⟩
  have BB := Lib.hid (T4.out.later d4).below
  clear d4 T4 D0 a0 a1 a2 a3 a4 a5 a6 a7 a8
  go_wp2_with fail
  go_ret
  exact ⟨by rw [E.out]; rfl, BB.out⟩
set_option maxRecDepth 100000 in
set_option maxHeartbeats 4000000 in
theorem rbytes5 {w : World} {page a f : Nat} {text : ByteArray} {rows : List ByteArray} {pkind level next : Nat} {u : Value} (h : In w ⟨5, page, (a : Int), (f : Int), text, rows, pkind, level, next⟩ u) (hm : May ⟨5, page, (a : Int), (f : Int), text, rows, pkind, level, next⟩) :
    Calls Try.prog 33 #[oV ⟨5, page, (a : Int), (f : Int), text, rows, pkind, level, next⟩ u] w fun e w' => e = .returned (.string (T (bytes ⟨5, page, (a : Int), (f : Int), text, rows, pkind, level, next⟩))) ∧ Below w.heap.size w w' := by
  have T0 := Lib.hid (Bx.start w ⟨5, page, (a : Int), (f : Int), text, rows, pkind, level, next⟩ u)
  obtain ⟨ad, c, rfl⟩ := h.rows.shape
  have b1 := h.wf.page; have b2 := h.wf.pkind; have b3 := h.wf.level; have b4 := h.wf.next; have b5 := hm.a1; have b6 := hm.o1; have b7 := hm.tt; have b8 := hm.rl
  simp only at b1 b2 b3 b4 b5 b6 b7 b8
  have C0 := Lib.hid (fun W => (show Calls Try.prog 32 #[.int .i64 5, .int .i64 1] W fun e w' => e = .returned (.string (nb 1 5)) ∧ Below W.heap.size W w' from rnum1 5 W (by decide)))
  have C1 := Lib.hid (fun W => rnum4 page W b1)
  have D0 := Lib.hid (fun W => rnum2 a W (by omega))
  have E := Lib.hid (show T (bytes ⟨5, page, (a : Int), (f : Int), text, rows, pkind, level, next⟩) = nb 1 5 ++ nb 4 page ++ nb 2 a from L_ext (by simp [bytes, tail, L_nb]))
  have wk : IntKind.i64.wrap 5 = 5 := by decide
  have wp : IntKind.i64.wrap (page : Int) = (page : Int) := by rw [IntKind.wrap_i64]; omega
  have wq : IntKind.i64.wrap (pkind : Int) = (pkind : Int) := by rw [IntKind.wrap_i64]; omega
  have wl : IntKind.i64.wrap (level : Int) = (level : Int) := by rw [IntKind.wrap_i64]; omega
  have wn : IntKind.i64.wrap (next : Int) = (next : Int) := by rw [IntKind.wrap_i64]; omega
  have z0 : (nb 1 5).size = 1 := nb_size _ _
  have z1 : (nb 4 page).size = 4 := nb_size _ _
  have z2 : (nb 2 a).size = 2 := nb_size _ _
  generalize hx0 : nb 1 5 = x0 at *
  generalize hx1 : nb 4 page = x1 at *
  generalize hx2 : nb 2 a = x2 at *
  clear hx0 hx1 hx2
  have s0 := small (x := x0.size) (y := x1.size) (by omega)
  have s1 := small (x := (x0 ++ x1).size) (y := x2.size) (by simp only [ByteArray.size_append]; omega)
  have g1 := T0.out.below
  unfold oV oC at *
  simp only at T0
  clear h hm g1
  go_enter Try.func33, Try.ntmps33
  go_upto_region 1 with fail
  generalize w.alloc _ = W1 at *
  have T1 := Lib.hid (T0.out.later (Below.refl _ _).drew)
  go_region_held3 (fun w' => w'.cell? ⟨w.heap.size, 0, none⟩ = some (.int .u8 5) ∧ w'.cell? ⟨w.heap.size, 1, none⟩ = some (.int .u32 (page : Int)) ∧ w'.cell? ⟨w.heap.size, 2, none⟩ = some (.int .i64 (a : Int)) ∧ w'.cell? ⟨w.heap.size, 3, none⟩ = some (.int .i64 (f : Int)) ∧ w'.cell? ⟨w.heap.size, 4, none⟩ = some (.string text) ∧ w'.cell? ⟨w.heap.size, 5, none⟩ = some (.slice ad rows.length c) ∧ w'.cell? ⟨w.heap.size, 6, none⟩ = some (.int .u8 (pkind : Int)) ∧ w'.cell? ⟨w.heap.size, 7, none⟩ = some (.int .u8 (level : Int)) ∧ w'.cell? ⟨w.heap.size, 8, none⟩ = some (.int .u32 (next : Int))) (first | exact T1.out.nine | exact T2.nine | exact T3.nine)
    (first
      | (go_at_call 32; (with_reducible refine (C0.out _).mono ?_); rintro e w2 ⟨rfl, c2⟩; have T2 := T1.out.later c2)
      | (go_at_call 32; (with_reducible refine (C1.out _).mono ?_); rintro e w3 ⟨rfl, c3⟩; have T3 := T2.later c3))
  have T4 := Lib.hid T3
  clear T0 T1 T2 T3 c2 c3 C0 C1
  obtain ⟨a0, a1, a2, a3, a4, a5, a6, a7, a8⟩ := T4.out.nine
  simp only at a0 a1 a2 a3 a4 a5 a6 a7 a8
  go_wp2_with fail
  refine (D0.out _).mono ?_
  rintro e w4 ⟨rfl, d4⟩
  have BB := Lib.hid (T4.out.later d4).below
  clear d4 T4 D0 a0 a1 a2 a3 a4 a5 a6 a7 a8
  go_wp2_with fail
  go_ret
  exact ⟨by rw [E.out]; rfl, BB.out⟩
set_option maxRecDepth 100000 in
set_option maxHeartbeats 4000000 in
theorem rbytes7 {w : World} {page a f : Nat} {text : ByteArray} {rows : List ByteArray} {pkind level next : Nat} {u : Value} (h : In w ⟨7, page, (a : Int), (f : Int), text, rows, pkind, level, next⟩ u) (hm : May ⟨7, page, (a : Int), (f : Int), text, rows, pkind, level, next⟩) :
    Calls Try.prog 33 #[oV ⟨7, page, (a : Int), (f : Int), text, rows, pkind, level, next⟩ u] w fun e w' => e = .returned (.string (T (bytes ⟨7, page, (a : Int), (f : Int), text, rows, pkind, level, next⟩))) ∧ Below w.heap.size w w' := by
  have T0 := Lib.hid (Bx.start w ⟨7, page, (a : Int), (f : Int), text, rows, pkind, level, next⟩ u)
  obtain ⟨ad, c, rfl⟩ := h.rows.shape
  have b1 := h.wf.page; have b2 := h.wf.pkind; have b3 := h.wf.level; have b4 := h.wf.next; have b5 := hm.a1; have b6 := hm.o1; have b7 := hm.tt; have b8 := hm.rl
  simp only at b1 b2 b3 b4 b5 b6 b7 b8
  have C0 := Lib.hid (fun W => (show Calls Try.prog 32 #[.int .i64 7, .int .i64 1] W fun e w' => e = .returned (.string (nb 1 7)) ∧ Below W.heap.size W w' from rnum1 7 W (by decide)))
  have C1 := Lib.hid (fun W => rnum4 page W b1)
  have D0 := Lib.hid (fun W => rnum4 next W (by omega))
  have E := Lib.hid (show T (bytes ⟨7, page, (a : Int), (f : Int), text, rows, pkind, level, next⟩) = nb 1 7 ++ nb 4 page ++ nb 4 next from L_ext (by simp [bytes, tail, L_nb]))
  have wk : IntKind.i64.wrap 7 = 7 := by decide
  have wp : IntKind.i64.wrap (page : Int) = (page : Int) := by rw [IntKind.wrap_i64]; omega
  have wq : IntKind.i64.wrap (pkind : Int) = (pkind : Int) := by rw [IntKind.wrap_i64]; omega
  have wl : IntKind.i64.wrap (level : Int) = (level : Int) := by rw [IntKind.wrap_i64]; omega
  have wn : IntKind.i64.wrap (next : Int) = (next : Int) := by rw [IntKind.wrap_i64]; omega
  have z0 : (nb 1 7).size = 1 := nb_size _ _
  have z1 : (nb 4 page).size = 4 := nb_size _ _
  have z2 : (nb 4 next).size = 4 := nb_size _ _
  generalize hx0 : nb 1 7 = x0 at *
  generalize hx1 : nb 4 page = x1 at *
  generalize hx2 : nb 4 next = x2 at *
  clear hx0 hx1 hx2
  have s0 := small (x := x0.size) (y := x1.size) (by omega)
  have s1 := small (x := (x0 ++ x1).size) (y := x2.size) (by simp only [ByteArray.size_append]; omega)
  have g1 := T0.out.below
  unfold oV oC at *
  simp only at T0
  clear h hm g1
  go_enter Try.func33, Try.ntmps33
  go_upto_region 1 with fail
  generalize w.alloc _ = W1 at *
  have T1 := Lib.hid (T0.out.later (Below.refl _ _).drew)
  go_region_held3 (fun w' => w'.cell? ⟨w.heap.size, 0, none⟩ = some (.int .u8 7) ∧ w'.cell? ⟨w.heap.size, 1, none⟩ = some (.int .u32 (page : Int)) ∧ w'.cell? ⟨w.heap.size, 2, none⟩ = some (.int .i64 (a : Int)) ∧ w'.cell? ⟨w.heap.size, 3, none⟩ = some (.int .i64 (f : Int)) ∧ w'.cell? ⟨w.heap.size, 4, none⟩ = some (.string text) ∧ w'.cell? ⟨w.heap.size, 5, none⟩ = some (.slice ad rows.length c) ∧ w'.cell? ⟨w.heap.size, 6, none⟩ = some (.int .u8 (pkind : Int)) ∧ w'.cell? ⟨w.heap.size, 7, none⟩ = some (.int .u8 (level : Int)) ∧ w'.cell? ⟨w.heap.size, 8, none⟩ = some (.int .u32 (next : Int))) (first | exact T1.out.nine | exact T2.nine | exact T3.nine)
    (first
      | (go_at_call 32; (with_reducible refine (C0.out _).mono ?_); rintro e w2 ⟨rfl, c2⟩; have T2 := T1.out.later c2)
      | (go_at_call 32; (with_reducible refine (C1.out _).mono ?_); rintro e w3 ⟨rfl, c3⟩; have T3 := T2.later c3))
  have T4 := Lib.hid T3
  clear T0 T1 T2 T3 c2 c3 C0 C1
  obtain ⟨a0, a1, a2, a3, a4, a5, a6, a7, a8⟩ := T4.out.nine
  simp only at a0 a1 a2 a3 a4 a5 a6 a7 a8
  go_wp2_with fail
  refine (D0.out _).mono ?_
  rintro e w4 ⟨rfl, d4⟩
  have BB := Lib.hid (T4.out.later d4).below
  clear d4 T4 D0 a0 a1 a2 a3 a4 a5 a6 a7 a8
  go_wp2_with fail
  go_ret
  exact ⟨by rw [E.out]; rfl, BB.out⟩

end Go.Proofs.Yticnbicnefnhbaa.Op

namespace Go.Proofs.Yticnbicnefnhbaa.Op
open Go.RowKit
open Go.Proofs.Yticnbicnefnhbaa.Seq (strS Is)
open Go.Proofs.Yticnbicnefnhbaa.By
attribute [local go_sem ↓] Go.wp_at_zero Go.wp_at_succ

theorem tb_len (l : List ByteArray) : (l.flatMap tb).length = 2 * l.length + total l := by
  induction l with
  | nil => rfl
  | cons x l ih =>
    have e : (tb x).length = 2 + x.size := by unfold tb; rw [List.length_append, be_length, L_len]
    rw [List.flatMap_cons, List.length_append, ih, e, List.length_cons, total_cons]
    omega
set_option maxRecDepth 100000 in
set_option maxHeartbeats 4000000 in
theorem rbytes6 {w : World} {page a f : Nat} {text : ByteArray} {rows : List ByteArray} {pkind level next : Nat} {u : Value} (h : In w ⟨6, page, (a : Int), (f : Int), text, rows, pkind, level, next⟩ u) (hm : May ⟨6, page, (a : Int), (f : Int), text, rows, pkind, level, next⟩) :
    Calls Try.prog 33 #[oV ⟨6, page, (a : Int), (f : Int), text, rows, pkind, level, next⟩ u] w fun e w' => e = .returned (.string (T (bytes ⟨6, page, (a : Int), (f : Int), text, rows, pkind, level, next⟩))) ∧ Below w.heap.size w w' := by
  have T0 := Lib.hid (Bx.start w ⟨6, page, (a : Int), (f : Int), text, rows, pkind, level, next⟩ u)
  obtain ⟨ad, c, rfl⟩ := h.rows.shape
  have b1 := h.wf.page; have b2 := h.wf.pkind; have b3 := h.wf.level; have b4 := h.wf.next; have b5 := hm.a1; have b6 := hm.o1; have b7 := hm.tt; have b8 := hm.rl
  simp only at b1 b2 b3 b4 b5 b6 b7 b8
  have C0 := Lib.hid (fun W => (show Calls Try.prog 32 #[.int .i64 6, .int .i64 1] W fun e w' => e = .returned (.string (nb 1 6)) ∧ Below W.heap.size W w' from rnum1 6 W (by decide)))
  have C1 := Lib.hid (fun W => rnum4 page W b1)
  have D0 := Lib.hid (fun W => rnum2 rows.length W (by omega))
  have DR := Lib.hid (fun k (hk : k < rows.length) W => rnum2 rows[k].size W (by have := total_le (List.getElem_mem hk); omega))
  have E := Lib.hid (show T (bytes ⟨6, page, (a : Int), (f : Int), text, rows, pkind, level, next⟩) = nb 1 6 ++ nb 4 page ++ nb 2 rows.length ++ T (rows.flatMap tb) from L_ext (by simp [bytes, tail, L_nb]))
  have RH := Lib.hid h.rows
  have TT := Lib.hid b7
  have wk : IntKind.i64.wrap 6 = 6 := by decide
  have wp : IntKind.i64.wrap (page : Int) = (page : Int) := by rw [IntKind.wrap_i64]; omega
  have wq : IntKind.i64.wrap (pkind : Int) = (pkind : Int) := by rw [IntKind.wrap_i64]; omega
  have wl : IntKind.i64.wrap (level : Int) = (level : Int) := by rw [IntKind.wrap_i64]; omega
  have wn : IntKind.i64.wrap (next : Int) = (next : Int) := by rw [IntKind.wrap_i64]; omega
  have z2 : (nb 2 rows.length).size = 2 := nb_size _ _
  have z0 : (nb 1 6).size = 1 := nb_size _ _
  have z1 : (nb 4 page).size = 4 := nb_size _ _
  generalize hx2 : nb 2 rows.length = x2 at *
  generalize hx0 : nb 1 6 = x0 at *
  generalize hx1 : nb 4 page = x1 at *
  clear hx0 hx1 hx2
  have s0 := small (x := x0.size) (y := x1.size) (by omega)
  have g1 := T0.out.below
  unfold oV oC at *
  simp only at T0
  clear h hm g1
  go_enter Try.func33, Try.ntmps33
  go_upto_region 1 with fail
  generalize w.alloc _ = W1 at *
  have T1 := Lib.hid (T0.out.later (Below.refl _ _).drew)
  go_region_held3 (fun w' => w'.cell? ⟨w.heap.size, 0, none⟩ = some (.int .u8 6) ∧ w'.cell? ⟨w.heap.size, 1, none⟩ = some (.int .u32 (page : Int)) ∧ w'.cell? ⟨w.heap.size, 2, none⟩ = some (.int .i64 (a : Int)) ∧ w'.cell? ⟨w.heap.size, 3, none⟩ = some (.int .i64 (f : Int)) ∧ w'.cell? ⟨w.heap.size, 4, none⟩ = some (.string text) ∧ w'.cell? ⟨w.heap.size, 5, none⟩ = some (.slice ad rows.length c) ∧ w'.cell? ⟨w.heap.size, 6, none⟩ = some (.int .u8 (pkind : Int)) ∧ w'.cell? ⟨w.heap.size, 7, none⟩ = some (.int .u8 (level : Int)) ∧ w'.cell? ⟨w.heap.size, 8, none⟩ = some (.int .u32 (next : Int))) (first | exact T1.out.nine | exact T2.nine | exact T3.nine)
    (first
      | (go_at_call 32; (with_reducible refine (C0.out _).mono ?_); rintro e w2 ⟨rfl, c2⟩; have T2 := T1.out.later c2)
      | (go_at_call 32; (with_reducible refine (C1.out _).mono ?_); rintro e w3 ⟨rfl, c3⟩; have T3 := T2.later c3))
  have T4 := Lib.hid T3
  clear T0 T1 T2 T3 c2 c3 C0 C1
  obtain ⟨a0, a1, a2, a3, a4, a5, a6, a7, a8⟩ := T4.out.nine
  simp only at a0 a1 a2 a3 a4 a5 a6 a7 a8
  have s1 := small (x := (x0 ++ x1).size) (y := x2.size) (by simp only [ByteArray.size_append]; omega)
  go_wp2_with fail
  refine (D0.out _).mono ?_
  rintro e w4 ⟨rfl, d4⟩
  have U0 := Lib.hid (T4.out.later d4)
  clear d4 T4 D0 a0 a1 a2 a3 a4 a5 a6 a7 a8
  obtain ⟨a0, a1, a2, a3, a4, a5, a6, a7, a8⟩ := U0.out.nine
  simp only at a0 a1 a2 a3 a4 a5 a6 a7 a8
  go_wp2_with fail
  clear s0 s1
  obtain ⟨P, hP⟩ : ∃ P, P = x0 ++ x1 ++ x2 := ⟨_, rfl⟩
  rw [← hP] at E ⊢
  have zP : P.size = 7 := by rw [hP, ByteArray.size_append, ByteArray.size_append]; omega
  clear hP
  go_loopw [3, 4] (fun x i wr => ∃ k : Nat, k ≤ rows.length ∧ i = .int .i64 k ∧ x = .string (P ++ T ((rows.take k).flatMap tb)) ∧ Bx w wr w.heap.size ⟨6, page, (a : Int), (f : Int), text, rows, pkind, level, next⟩ (.slice ad rows.length c)) (fun _ i _ => rows.length - (intOf i).toNat)
  case atStart => exact ⟨0, by omega, by go_num, by rw [List.take_zero]; exact congrArg Value.string (L_ext (by simp)), U0.out⟩
  case round =>
    obtain ⟨k, hk, rfl, rfl, hb⟩ := hrel
    have U1 := Lib.hid hb
    clear hb a0 a1 a2 a3 a4 a5 a6 a7 a8
    obtain ⟨a0, a1, a2, a3, a4, a5, a6, a7, a8⟩ := U1.out.nine
    simp only at a0 a1 a2 a3 a4 a5 a6 a7 a8
    by_cases hlt : k < rows.length
    · have DD := Lib.hid (fun W => DR.out k hlt W)
      obtain ⟨x, y, rfl, hx, d⟩ := Seq.str_at (RH.out.later U1.out.below) hlt
      have hz : rows[k].size ≤ 488 := by have := total_le (List.getElem_mem hlt); have := TT.out; omega
      have hq : (P ++ T ((rows.take k).flatMap tb)).size ≤ 2000 := by
        have e3 : (T ((rows.take k).flatMap tb)).size = ((rows.take k).flatMap tb).length := rfl
        rw [ByteArray.size_append, e3]
        have e1 := tb_len (rows.take k)
        have e2 := total_take_le rows k
        have := TT.out
        rw [List.length_take] at e1
        omega
      have NX := Lib.hid (show P ++ T ((rows.take k).flatMap tb) ++ nb 2 rows[k].size ++ rows[k] = P ++ T ((rows.take (k + 1)).flatMap tb) from L_ext (by rw [List.take_succ_eq_append_getElem hlt, List.flatMap_append]; simp only [L_app, L_nb, L_T, tb, List.flatMap_cons, List.flatMap_nil, List.append_nil, List.append_assoc]))
      obtain ⟨z, hze⟩ : ∃ z, z = rows[k] := ⟨_, rfl⟩
      rw [← hze] at DD NX d hz
      have zy : (nb 2 z.size).size = 2 := nb_size _ _
      clear hze RH
      generalize (P ++ T ((rows.take k).flatMap tb)) = Q at *
      generalize nb 2 z.size = v at *
      have s1 := small (x := Q.size) (y := v.size) (by omega)
      have s2 := small (x := (Q ++ v).size) (y := z.size) (by rw [ByteArray.size_append]; omega)
      have s3 := small (x := Q.size + 2) (y := z.size) (by omega)
      have s4 := small (x := Q.size) (y := 2) (by omega)
      have i1 : (0 : Int) ≤ (k : Int) := by omega
      have i2 : (k : Int) < (rows.length : Int) := by omega
      have wz : IntKind.i64.wrap (z.size : Int) = (z.size : Int) := by rw [IntKind.wrap_i64]; omega
      clear hq
      go_wp2_with fail
      have V0 := Lib.hid (U1.out.later (Below.refl _ _).drew)
      have dd := Lib.hid (show wr.drew.cell? ⟨x, y + k, none⟩ = some (.string z) from d)
      go_region_held3 (fun w' => w'.cell? ⟨w.heap.size, 5, none⟩ = some (.slice (some ⟨x, y, none⟩) rows.length c) ∧ w'.cell? ⟨x, y + k, none⟩ = some (.string z)) (first | exact ⟨V0.out.nine.2.2.2.2.2.1, dd.out⟩ | exact ⟨V1.nine.2.2.2.2.2.1, d1⟩)
        ((go_at_call 32; (with_reducible refine (DD.out _).mono ?_); rintro e w5 ⟨rfl, c5⟩; have V1 := V0.out.later c5; have d1 : w5.cell? ⟨x, y + k, none⟩ = some (.string z) := (c5.cell (p := ⟨x, y + k, none⟩) (World.block_lt_of_cell? _ _ dd.out)).trans dd.out))
      have V2 := Lib.hid V1
      clear V1 V0 d1 dd c5 d s1 s2 s3 s4
      go_wp2_with fail
      go_roundw
      case rel => exact ⟨k + 1, by omega, by go_num, by rw [← NX.out], V2.out⟩
      case measure => simp [intOf]; omega
    · have hkk : k = rows.length := by omega
      rw [hkk, List.take_length]
      have BB := Lib.hid U1.out.below
      go_wp2_with fail
      go_ret
      exact ⟨by rw [E.out]; rfl, BB.out⟩

theorem rbytes_any {w : World} {o : O} {u : Value} (h : In w o u) (hm : May o) :
    Calls Try.prog 33 #[oV o u] w fun e w' => e = .returned (.string (T (bytes o))) ∧ Below w.heap.size w w' := by
  have k1 := hm.k1
  have k8 := hm.k8
  have ha := hm.a0
  have ho := hm.o0
  obtain ⟨kind, page, at', off, text, rows, pkind, level, next⟩ := o
  simp only at k1 k8 ha ho
  obtain ⟨a, rfl⟩ : ∃ a : Nat, at' = (a : Int) := ⟨at'.toNat, by omega⟩
  obtain ⟨f, rfl⟩ : ∃ f : Nat, off = (f : Int) := ⟨off.toNat, by omega⟩
  rcases kinds k1 k8 with rfl | rfl | rfl | rfl | rfl | rfl | rfl | rfl
  · exact rbytes1 h hm
  · exact rbytes2 h hm
  · exact rbytes3 h hm
  · exact rbytes4 h hm
  · exact rbytes5 h hm
  · exact rbytes6 h hm
  · exact rbytes7 h hm
  · exact rbytes8 h hm

end Go.Proofs.Yticnbicnefnhbaa.Op
