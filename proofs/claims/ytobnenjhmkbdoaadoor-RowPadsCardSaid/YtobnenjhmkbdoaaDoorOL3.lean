/- Walks: a shorter value, a longer pad. -/
import Derived.Test.YtobnenjhmkbdoaaDoorOA
namespace Go.Proofs.YtobnenjhmkbdoaaDoor.Row
open Go.RowKit
attribute [local go_sem ↓] Go.wp_at_zero Go.wp_at_succ

def shortR (r : Rw) (m : Nat) : Rw := ⟨r.key, r.mark, r.tx, r.page, r.slot, r.value.extract 0 (r.value.size - m), r.pad + m⟩
def lessR (r : Rw) (m : Nat) : Rw := ⟨r.key, r.mark, r.tx, r.page, r.slot, r.value.extract 0 (r.value.size - m), r.pad⟩
theorem may_all {r : Rw} : mayR r = true ↔ 1 ≤ r.key.size ∧ r.key.size ≤ 48 ∧ 0 ≤ r.pad ∧ r.pad + r.value.size ≤ 96 ∧ r.page ≤ 1024 ∧ (0 < r.page ∨ r.slot = 0) := by
  simp [mayR, mayK, mayP, mayL, and_assoc]
theorem short_may {r : Rw} {m : Nat} (h : mayR r = true) (hm : m ≤ r.value.size) : mayR (shortR r m) = true ∧ mayR (lessR r m) = true := by
  obtain ⟨p1, p2, p3, p4, p5, p6⟩ := may_parts h
  have z : (r.value.extract 0 (r.value.size - m)).size = r.value.size - m := by rw [ByteArray.size_extract]; omega
  refine ⟨may_all.2 ⟨p1, p2, ?_, ?_, p5, p6⟩, may_all.2 ⟨p1, p2, p3, ?_, p5, p6⟩⟩
  · show 0 ≤ r.pad + m
    omega
  · show r.pad + m + ((r.value.extract 0 (r.value.size - m)).size : Int) ≤ 96
    rw [z]; omega
  · show r.pad + ((r.value.extract 0 (r.value.size - m)).size : Int) ≤ 96
    rw [z]; omega
theorem short_size {r : Rw} {m : Nat} (h : mayR r = true) (hm : m ≤ r.value.size) :
    sizeR r = 17 + (r.key.size : Int) + r.value.size + r.pad ∧ sizeR (shortR r m) = 17 + (r.key.size : Int) + r.value.size + r.pad ∧ sizeR (lessR r m) = 17 + (r.key.size : Int) + r.value.size + r.pad - m := by
  obtain ⟨m1, m2⟩ := short_may h hm
  have z : (r.value.extract 0 (r.value.size - m)).size = r.value.size - m := by rw [ByteArray.size_extract]; omega
  unfold sizeR
  rw [if_pos h, if_pos m1, if_pos m2]
  refine ⟨rfl, ?_, ?_⟩
  · show 17 + (r.key.size : Int) + ((r.value.extract 0 (r.value.size - m)).size : Int) + (r.pad + m) = _
    rw [z]; omega
  · show 17 + (r.key.size : Int) + ((r.value.extract 0 (r.value.size - m)).size : Int) + r.pad = _
    rw [z]; omega
theorem short_wf {r : Rw} {m : Nat} (hr : r.wf) (h : mayR r = true) (hm : m ≤ r.value.size) : (shortR r m).wf ∧ (lessR r m).wf := by
  obtain ⟨p1, p2, p3, p4, p5, p6⟩ := may_parts h
  have z : (r.value.extract 0 (r.value.size - m)).size ≤ 140737488351232 := by rw [ByteArray.size_extract]; omega
  exact ⟨⟨hr.tx, hr.page, hr.slot, (by show -9223372036854775808 ≤ r.pad + (m : Int) ∧ r.pad + (m : Int) ≤ 9223372036854775807; omega), hr.key, z⟩, ⟨hr.tx, hr.page, hr.slot, hr.pad, hr.key, z⟩⟩

theorem cut_low (s : ByteArray) (i : Nat) (h : i ≤ s.size) (W : World) : (Instr.sliceAt 9 (.string s) none (some (.int .i64 (i : Int))) none).run Tryd.prog W = .ok (.string (s.extract 0 i)) W := by
  rw [run_sliceAt_string (P := Tryd.prog) W 9 _ _ _ _ Tryd.underlying9, run_slice_string_h (P := Tryd.prog) W 9 s Tryd.underlying9 .i64 (i : Int) (by omega) (by omega), Int.toNat_natCast]

/-- three rows of the call's own -/
structure Tri (w W : World) (g g2 g3 : Nat) (r q p : Rw) : Prop where
  a : Bx w W g r
  b : Bx w W g2 q
  c : Bx w W g3 p
theorem Tri.later {w W W' : World} {g g2 g3 : Nat} {r q p : Rw} (t : Tri w W g g2 g3 r q p) (b : Below W.heap.size W W') : Tri w W' g g2 g3 r q p := ⟨t.a.later b, t.b.later b, t.c.later b⟩
theorem Tri.start {w w2 : World} {g : Nat} {r : Rw} (q p : Rw) (h : Bx w w2 g r) : Tri w ((w2.alloc (.cells (rwC q) 28)).alloc (.cells (rwC p) 28)) g w2.heap.size (w2.heap.size + 1) r q p := by
  have b1 := below_new w2 (.cells (rwC q) 28)
  have t1 := Bx.make q h.below
  have t2 := h.later b1
  have z : (w2.alloc (.cells (rwC q) 28)).heap.size = w2.heap.size + 1 := by simp
  have t3 := Bx.make (w := w2.alloc (.cells (rwC q) 28)) p t1.below
  rw [z] at t3
  have b2 := below_new (w2.alloc (.cells (rwC q) 28)) (.cells (rwC p) 28)
  exact ⟨t2.later b2, t1.later b2, t3⟩
theorem Tri.all {w W : World} {g g2 g3 : Nat} {r q p : Rw} (t : Tri w W g g2 g3 r q p) : BxA W g r ∧ BxA W g2 q ∧ BxA W g3 p := ⟨t.a.all, t.b.all, t.c.all⟩

set_option maxRecDepth 100000 in
set_option maxHeartbeats 4000000 in
theorem pads_walk {w : World} {r : Rw} {d : Int} (hr : r.wf) (hd : 0 ≤ d ∧ d ≤ 255) : Calls Tryd.prog 6 #[rwV r, .int .u8 d] w fun e w' => e = .returned (.bool true) ∧ Below w.heap.size w w' := by
  have T0 := Lib.hid (Bx.start w r)
  have KL := Lib.hid (fun W => long_any r W hr)
  have KM := Lib.hid (fun W => may_any r W hr)
  obtain ⟨a0, a1, a2, a3, a4, a5, a6⟩ := T0.out.all
  have HR := Lib.hid hr
  clear hr
  have ev : rwV r = .agg #[.string r.key, .bool r.mark, .int .u64 (r.tx : Int), .int .u32 (r.page : Int), .int .u16 (r.slot : Int), .string r.value, .int .i64 r.pad] := rfl
  rw [ev] at KL KM ⊢
  have EV := Lib.hid ev
  clear ev
  unfold rwC at T0
  go_enter Tryd.func6, Tryd.ntmps6
  go_wp2_with fail
  refine (KL.out _).mono ?_
  rintro e w1 ⟨rfl, b1⟩
  have T1 := Lib.hid (T0.out.later b1)
  clear b1 T0 KL a0 a1 a2 a3 a4 a5 a6
  cases longB r with
  | true =>
    clear KM
    go_wp2_with fail
    refine (alive_any w1).mono ?_
    rintro e w2 ⟨rfl, b2⟩
    have E := Lib.hid (T1.out.later b2).below
    clear b2 T1
    go_wp2_with fail
    go_ret
    exact ⟨rfl, E.out⟩
  | false =>
    obtain ⟨a0, a1, a2, a3, a4, a5, a6⟩ := T1.out.all
    go_wp2_with fail
    refine (KM.out _).mono ?_
    rintro e w2 ⟨rfl, b2⟩
    have T2 := Lib.hid (T1.out.later b2)
    clear b2 T1 a0 a1 a2 a3 a4 a5 a6
    cases hmay : mayR r with
    | false =>
      go_wp2_with fail
      refine (alive_any w2).mono ?_
      rintro e w3 ⟨rfl, b2⟩
      have E := Lib.hid (T2.out.later b2).below
      clear b2 T2
      go_wp2_with fail
      go_ret
      exact ⟨rfl, E.out⟩
    | true =>
      obtain ⟨dn, rfl⟩ : ∃ dn : Nat, d = dn := ⟨d.toNat, by omega⟩
      obtain ⟨m, hm⟩ : ∃ m, m = dn % (r.value.size + 1) := ⟨_, rfl⟩
      have hmv : m ≤ r.value.size := by rw [hm]; have := Nat.mod_lt dn (show 0 < r.value.size + 1 by omega); omega
      obtain ⟨p1, p2, p3, p4, p5, p6⟩ := may_parts hmay
      obtain ⟨mq, _⟩ := short_may hmay hmv
      obtain ⟨z1, z2, z3⟩ := short_size hmay hmv
      obtain ⟨f1, f2⟩ := short_wf HR.out hmay hmv
      have hrem : ((dn : Int)).tmod ((r.value.size : Int) + 1) = (m : Int) := by rw [hm]; rfl
      have hsl : ∀ W : World, (Instr.sliceAt 9 (.string r.value) none (some (.int .i64 ((r.value.size : Int) - (m : Int)))) none).run Tryd.prog W = .ok (.string (r.value.extract 0 (r.value.size - m))) W := fun W => by
        have := cut_low r.value (r.value.size - m) (by omega) W
        rw [show ((r.value.size - m : Nat) : Int) = (r.value.size : Int) - (m : Int) by omega] at this
        exact this
      have KQ := Lib.hid (fun W => may_any (shortR r m) W f1)
      have K1 := Lib.hid (fun W => size_any r W HR.out)
      have K2 := Lib.hid (fun W => size_any (shortR r m) W f1)
      have K3 := Lib.hid (fun W => size_any (lessR r m) W f2)
      rw [mq] at KQ
      rw [z1] at K1
      rw [z2] at K2
      rw [z3] at K3
      clear z1 z2 z3 mq hm f1 f2
      obtain ⟨a0, a1, a2, a3, a4, a5, a6⟩ := T2.out.all
      have A1 := fun o => (T2.out.later (below_new w2 o)).all
      have A2 := fun o o2 => ((T2.out.later (below_new w2 o)).later (below_new (w2.alloc o) o2)).all
      have x0 := fun o => (A1 o).1
      have x1 := fun o => (A1 o).2.1
      have x2 := fun o => (A1 o).2.2.1
      have x3 := fun o => (A1 o).2.2.2.1
      have x4 := fun o => (A1 o).2.2.2.2.1
      have x5 := fun o => (A1 o).2.2.2.2.2.1
      have x6 := fun o => (A1 o).2.2.2.2.2.2
      have y6 := fun o o2 => (A2 o o2).2.2.2.2.2.2
      clear A1 A2
      go_wp2_with fail
      have ws1 : IntKind.i64.wrap (17 + (r.key.size : Int)) = 17 + (r.key.size : Int) := by rw [IntKind.wrap_i64]; omega
      have ws2 : IntKind.i64.wrap (17 + (r.key.size : Int) + (r.value.size : Int)) = 17 + (r.key.size : Int) + (r.value.size : Int) := by rw [IntKind.wrap_i64]; omega
      have ws3 : IntKind.i64.wrap (17 + (r.key.size : Int) + (r.value.size : Int) + r.pad) = 17 + (r.key.size : Int) + (r.value.size : Int) + r.pad := by rw [IntKind.wrap_i64]; omega
      have ws4 : IntKind.i64.wrap (17 + (r.key.size : Int) + (r.value.size : Int) + r.pad - (m : Int)) = 17 + (r.key.size : Int) + (r.value.size : Int) + r.pad - (m : Int) := by rw [IntKind.wrap_i64]; omega
      have V3 := Lib.hid ((Tri.start (shortR r m) (lessR r m) T2.out).later ((Below.refl _ _).drew))
      change Code.wp _ _ _ _ ((w2.alloc (.cells (rwC (shortR r m)) 28)).alloc (.cells (rwC (lessR r m)) 28))
      clear a0 a1 a2 a3 a4 a5 a6 x0 x1 x2 x3 x4 x5 x6 y6 hsl hrem T2 hmay p1 p2 p3 p4 p5 p6 hd HR
      generalize (w2.alloc (.cells (rwC (shortR r m)) 28)).alloc (.cells (rwC (lessR r m)) 28) = W at *
      generalize w2.heap.size + 1 = g3 at *
      generalize w2.heap.size = g2 at *
      generalize w.heap.size = g at *
      generalize shortR r m = q at *
      generalize lessR r m = p at *
      unfold rwV rwC at *
      clear KM
      go_region_held3 (fun w' => ((w'.cell? ⟨g, 0, none⟩ = some (.string r.key) ∧ w'.cell? ⟨g, 1, none⟩ = some (.bool r.mark) ∧ w'.cell? ⟨g, 2, none⟩ = some (.int .u64 (r.tx : Int)) ∧ w'.cell? ⟨g, 3, none⟩ = some (.int .u32 (r.page : Int)) ∧ w'.cell? ⟨g, 4, none⟩ = some (.int .u16 (r.slot : Int)) ∧ w'.cell? ⟨g, 5, none⟩ = some (.string r.value) ∧ w'.cell? ⟨g, 6, none⟩ = some (.int .i64 r.pad)) ∧ (w'.cell? ⟨g2, 0, none⟩ = some (.string q.key) ∧ w'.cell? ⟨g2, 1, none⟩ = some (.bool q.mark) ∧ w'.cell? ⟨g2, 2, none⟩ = some (.int .u64 (q.tx : Int)) ∧ w'.cell? ⟨g2, 3, none⟩ = some (.int .u32 (q.page : Int)) ∧ w'.cell? ⟨g2, 4, none⟩ = some (.int .u16 (q.slot : Int)) ∧ w'.cell? ⟨g2, 5, none⟩ = some (.string q.value) ∧ w'.cell? ⟨g2, 6, none⟩ = some (.int .i64 q.pad)) ∧ (w'.cell? ⟨g3, 0, none⟩ = some (.string p.key) ∧ w'.cell? ⟨g3, 1, none⟩ = some (.bool p.mark) ∧ w'.cell? ⟨g3, 2, none⟩ = some (.int .u64 (p.tx : Int)) ∧ w'.cell? ⟨g3, 3, none⟩ = some (.int .u32 (p.page : Int)) ∧ w'.cell? ⟨g3, 4, none⟩ = some (.int .u16 (p.slot : Int)) ∧ w'.cell? ⟨g3, 5, none⟩ = some (.string p.value) ∧ w'.cell? ⟨g3, 6, none⟩ = some (.int .i64 p.pad)))) (first | exact V3.out.all | exact V4.all | exact V5.all | exact V6.all | exact V7.all | exact V8.all | exact V9.all | exact V10.all)
        (first
          | (go_at_call 12; (with_reducible refine (KQ.out _).mono ?_); rintro e y4 ⟨rfl, c4⟩; have V4 := V3.out.later c4; clear c4)
          | (go_at_call 14; (with_reducible refine (K2.out _).mono ?_); rintro e y5 ⟨rfl, c5⟩; have V5 := V4.later c5; clear c5)
          | (go_at_call 14; (with_reducible refine (K1.out _).mono ?_); rintro e y6 ⟨rfl, c6⟩; have V6 := V5.later c6; clear c6)
          | (go_at_call 14; (with_reducible refine (K3.out _).mono ?_); rintro e y7 ⟨rfl, c7⟩; have V7 := V6.later c7; clear c7)
          | (go_at_call 14; (with_reducible refine (K1.out _).mono ?_); rintro e y8 ⟨rfl, c8⟩; have V8 := V7.later c8; clear c8)
          | (go_at_call 14; (with_reducible refine (K1.out _).mono ?_); rintro e y9 ⟨rfl, c9⟩; have V9 := V8.later c9; clear c9)
          | (go_at_call 9; (with_reducible refine (alive_any _).mono ?_); rintro e y10 ⟨rfl, c10⟩; have V10 := V9.later c10; clear c10))
      have E := Lib.hid V10.a.below
      clear V3 V4 V5 V6 V7 V8 V9 V10 K1 K2 K3 KQ ws1 ws2 ws3 ws4
      go_wp2_with fail
      go_ret
      exact ⟨rfl, E.out⟩

end Go.Proofs.YtobnenjhmkbdoaaDoor.Row
