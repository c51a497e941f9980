/- Walks: a row is written. -/
import Derived.Test.YtobnenjhmkbdoaaDoorOW2
import Derived.Deep.RegionHeld3
namespace Go.Proofs.YtobnenjhmkbdoaaDoor.Row
open Go.RowKit
attribute [local go_sem ↓] Go.wp_at_zero Go.wp_at_succ

theorem zero_char : (⟨#[(0 : UInt8)]⟩ : ByteArray).data.toList = [0] := rfl
theorem repeat_zero : ∀ n, Lib.repeatL [(0 : UInt8)] n = List.replicate n 0
  | 0 => rfl
  | n + 1 => by rw [Lib.repeatL, repeat_zero n]; rfl
theorem zeros_any (n : Nat) (w : World) (hn : n ≤ 96) :
    Calls Tryd.prog 24 #[.string ⟨#[0]⟩, .int .i64 (n : Int)] w fun e w' => e = .returned (.string (zerS n)) ∧ Below w.heap.size w w' := by
  have h := Tryd.strings_Repeat ⟨#[0]⟩ n w (by omega) (by show 1 * n ≤ _; omega)
  rw [zero_char, repeat_zero] at h
  exact h

set_option maxRecDepth 100000 in
set_option maxHeartbeats 1000000 in
theorem encode_no (r : Rw) (w : World) (hr : r.wf) (hm : mayR r = false) :
    Calls Tryd.prog 10 #[rwV r] w fun e w' => e = .returned (.tuple #[.string ⟨#[]⟩, .int .i64 2]) ∧ Below w.heap.size w w' := by
  have K := may_any r (w.alloc (.cells (rwC r) 28)) hr
  rw [hm] at K
  have KK := Lib.hid K
  have B := Lib.hid (below_new w (.cells (rwC r) 28))
  clear K hm hr
  unfold rwV rwC at *
  go_enter Tryd.func10, Tryd.ntmps10
  go_wp2_with fail
  refine KK.out.mono ?_
  rintro e w1 ⟨rfl, b1⟩
  have B1 := Lib.hid (B.out.trans (b1.mono B.out.size))
  clear b1 B
  go_wp2_with fail
  go_ret2
  exact ⟨rfl, B1.out⟩

set_option maxRecDepth 100000 in
set_option maxHeartbeats 4000000 in
theorem encode_yes (r : Rw) (w : World) (hr : r.wf) (hm : mayR r = true) :
    Calls Tryd.prog 10 #[rwV r] w fun e w' => e = .returned (.tuple #[.string (encS r), .int .i64 0]) ∧ Below w.heap.size w w' := by
  have hp := may_parts hm
  have T0 := Lib.hid (Bx.start w r)
  have KM := Lib.hid (fun W => may_any r W hr)
  have K0 := Lib.hid (fun W => mark_any r W)
  have K1 := Lib.hid (fun W => (show Calls Tryd.prog 22 #[.int .u64 (r.tx : Int), .int .i64 8] W fun e w' => e = .returned (.string (nb 8 r.tx)) ∧ Below W.heap.size W w' from number_any r.tx 8 W (by decide) (by decide) (by have := hr.tx; omega)))
  have K2 := Lib.hid (fun W => (show Calls Tryd.prog 22 #[.int .u64 (r.page : Int), .int .i64 4] W fun e w' => e = .returned (.string (nb 4 r.page)) ∧ Below W.heap.size W w' from number_any r.page 4 W (by decide) (by decide) (by have := hr.page; omega)))
  have K3 := Lib.hid (fun W => (show Calls Tryd.prog 22 #[.int .u64 (r.slot : Int), .int .i64 2] W fun e w' => e = .returned (.string (nb 2 r.slot)) ∧ Below W.heap.size W w' from number_any r.slot 2 W (by decide) (by decide) (by have := hr.slot; omega)))
  have K4 := Lib.hid (fun W => text_any r.key W (by omega))
  have K5 := Lib.hid (fun W => text_any r.value W (by omega))
  have e6 : r.pad = (r.pad.toNat : Int) := by omega
  have K6 := Lib.hid (fun W => zeros_any r.pad.toNat W (by omega))
  rw [hm] at KM
  have e : encS r = nb 1 (markN r) ++ nb 8 r.tx ++ nb 4 r.page ++ nb 2 r.slot ++ tx1 r.key ++ tx1 r.value ++ zerS r.pad.toNat := by unfold encS; rw [if_pos hm]; rfl
  rw [← e6] at K6
  have z0 := nb_size 1 (markN r)
  have z1 := nb_size 8 r.tx
  have z2 := nb_size 4 r.page
  have z3 := nb_size 2 r.slot
  have z4 : (tx1 r.key).size ≤ 49 := by rw [tx1_size]; omega
  have z5 : (tx1 r.value).size ≤ 97 := by rw [tx1_size]; omega
  have z6 : (zerS r.pad.toNat).size ≤ 96 := by rw [zerS_size]; omega
  have q2 : IntKind.u64.wrap (r.page : Int) = r.page := by have := hr.page; rw [IntKind.wrap_u64]; omega
  have q3 : IntKind.u64.wrap (r.slot : Int) = r.slot := by have := hr.slot; rw [IntKind.wrap_u64]; omega
  clear hp e6 hr hm
  obtain ⟨a0, a1, a2, a3, a4, a5, a6⟩ := T0.out.all
  unfold rwV rwC at *
  generalize encS r = S at *
  generalize markN r = mk at *
  generalize nb 1 mk = A0 at *
  generalize nb 8 r.tx = A1 at *
  generalize nb 4 r.page = A2 at *
  generalize nb 2 r.slot = A3 at *
  generalize tx1 r.key = A4 at *
  generalize tx1 r.value = A5 at *
  generalize zerS r.pad.toNat = A6 at *
  have E := Lib.hid e
  have s1 : (9223372036854775807 < A0.size + A1.size) = False := by simp only [eq_iff_iff, iff_false]; omega
  have s2 : (9223372036854775807 < A0.size + A1.size + A2.size) = False := by simp only [eq_iff_iff, iff_false]; omega
  have s3 : (9223372036854775807 < A0.size + A1.size + A2.size + A3.size) = False := by simp only [eq_iff_iff, iff_false]; omega
  have s4 : (9223372036854775807 < A0.size + A1.size + A2.size + A3.size + A4.size) = False := by simp only [eq_iff_iff, iff_false]; omega
  have s5 : (9223372036854775807 < A0.size + A1.size + A2.size + A3.size + A4.size + A5.size) = False := by simp only [eq_iff_iff, iff_false]; omega
  have s6 : (9223372036854775807 < A0.size + A1.size + A2.size + A3.size + A4.size + A5.size + A6.size) = False := by simp only [eq_iff_iff, iff_false]; omega
  clear e z0 z1 z2 z3 z4 z5 z6
  go_enter Tryd.func10, Tryd.ntmps10
  go_wp2_with fail
  refine (KM.out _).mono ?_
  rintro e w1 ⟨rfl, b1⟩
  have T1 := Lib.hid ((T0.out.later b1).later ((Below.refl _ _).drew))
  clear b1 T0 KM a0 a1 a2 a3 a4 a5 a6
  generalize w.heap.size = g at *
  go_wp2_with fail
  go_region_held3 (fun w' => (w'.cell? ⟨g, 0, none⟩ = some (.string r.key) ∧ w'.cell? ⟨g, 1, none⟩ = some (.bool r.mark) ∧ w'.cell? ⟨g, 2, none⟩ = some (.int .u64 (r.tx : Int)) ∧ w'.cell? ⟨g, 3, none⟩ = some (.int .u32 (r.page : Int)) ∧ w'.cell? ⟨g, 4, none⟩ = some (.int .u16 (r.slot : Int)) ∧ w'.cell? ⟨g, 5, none⟩ = some (.string r.value) ∧ w'.cell? ⟨g, 6, none⟩ = some (.int .i64 r.pad))) (first | exact T1.out.all | exact T2.all | exact T3.all | exact T4.all | exact T5.all | exact T6.all | exact T7.all | exact T8.all)
    (first
      | (go_at_call 21; refine (K0.out _).mono ?_; rintro e w2 ⟨rfl, b2⟩; have T2 := T1.out.later b2; clear b2)
      | (go_at_call 22; (with_reducible refine (K1.out _).mono ?_); rintro e w3 ⟨rfl, b2⟩; have T3 := T2.later b2; clear b2)
      | (go_at_call 22; (with_reducible refine (K2.out _).mono ?_); rintro e w4 ⟨rfl, b2⟩; have T4 := T3.later b2; clear b2)
      | (go_at_call 22; (with_reducible refine (K3.out _).mono ?_); rintro e w5 ⟨rfl, b2⟩; have T5 := T4.later b2; clear b2)
      | (go_at_call 23; (with_reducible refine (K4.out _).mono ?_); rintro e w6 ⟨rfl, b2⟩; have T6 := T5.later b2; clear b2)
      | (go_at_call 23; (with_reducible refine (K5.out _).mono ?_); rintro e w7 ⟨rfl, b2⟩; have T7 := T6.later b2; clear b2)
      | (go_at_call 24; (with_reducible refine (K6.out _).mono ?_); rintro e w8 ⟨rfl, b2⟩; have T8 := T7.later b2; clear b2))
  have HE := Lib.hid T8.below
  clear T1 T2 T3 T4 T5 T6 T7 T8
  go_wp2_with fail
  go_ret2
  exact ⟨by rw [E.out]; rfl, HE.out⟩

theorem encode_any (r : Rw) (w : World) (hr : r.wf) :
    Calls Tryd.prog 10 #[rwV r] w fun e w' => e = .returned (.tuple #[.string (encS r), .int .i64 (encE r)]) ∧ Below w.heap.size w w' := by
  cases hm : mayR r with
  | true =>
    have e : encE r = 0 := by unfold encE; rw [if_pos hm]
    rw [e]
    exact encode_yes r w hr hm
  | false =>
    have e : encE r = 2 := by unfold encE; rw [if_neg (by rw [hm]; decide)]
    have e2 : encS r = ⟨#[]⟩ := by unfold encS; rw [if_neg (by rw [hm]; decide)]
    rw [e, e2]
    exact encode_no r w hr hm

end Go.Proofs.YtobnenjhmkbdoaaDoor.Row
