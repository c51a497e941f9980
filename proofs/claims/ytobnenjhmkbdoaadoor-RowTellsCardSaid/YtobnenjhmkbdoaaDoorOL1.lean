/- Walks: which rows may be, and what their bytes are. -/
import Derived.Test.YtobnenjhmkbdoaaDoorOA
namespace Go.Proofs.YtobnenjhmkbdoaaDoor.Row
open Go.RowKit
attribute [local go_sem ↓] Go.wp_at_zero Go.wp_at_succ

set_option maxRecDepth 100000 in
set_option maxHeartbeats 4000000 in
theorem tells_walk {w : World} {r : Rw} (hr : r.wf) : Calls Tryd.prog 3 #[rwV r] w fun e w' => e = .returned (.bool true) ∧ Below w.heap.size w w' := by
  have T0 := Lib.hid (Bx.start w r)
  have KL := Lib.hid (fun W => long_any r W hr)
  have K1 := Lib.hid (fun W => encode_any r W hr)
  have K2 := Lib.hid (fun W => rencode_any r W hr)
  have K3 := Lib.hid (fun W => may_any r W hr)
  have K4 := Lib.hid (fun W => rmay_any r W hr)
  have K5 := fun W => size_any r W hr
  rw [← enc_size] at K5
  have K6 := Lib.hid K5
  clear hr K5
  generalize encS r = S at *
  generalize encE r = E at *
  generalize mayR r = M at *
  obtain ⟨a0, a1, a2, a3, a4, a5, a6⟩ := T0.out.all
  unfold rwV rwC at *
  go_enter Tryd.func3, Tryd.ntmps3
  go_wp2_with fail
  refine (KL.out _).mono ?_
  rintro e w1 ⟨rfl, b1⟩
  have T1 := Lib.hid (T0.out.later b1)
  clear b1 T0 KL a0 a1 a2 a3 a4 a5 a6
  cases longB r with
  | true =>
    clear K1 K2 K3 K4 K6
    go_wp2_with fail
    refine (alive_any w1).mono ?_
    rintro e w2 ⟨rfl, b2⟩
    have E := Lib.hid (T1.out.later b2).below
    clear b2 T1
    go_wp2_with fail
    go_ret
    exact ⟨rfl, E.out⟩
  | false =>
    obtain ⟨a0, a1, a2, a3, a4, a5, a6⟩ := T1.out.all
    go_wp2_with fail
    refine (K1.out _).mono ?_
    rintro e w2 ⟨rfl, b2⟩
    have T2 := Lib.hid (T1.out.later b2)
    clear b2 T1 a0 a1 a2 a3 a4 a5 a6 K1
    obtain ⟨a0, a1, a2, a3, a4, a5, a6⟩ := T2.out.all
    go_wp2_with fail
    refine (K2.out _).mono ?_
    rintro e w3 ⟨rfl, b3⟩
    have T3 := Lib.hid ((T2.out.later b3).later ((Below.refl _ _).drew))
    clear b3 T2 a0 a1 a2 a3 a4 a5 a6 K2
    generalize w.heap.size = g at *
    go_wp2_with fail
    go_region_held3 (fun w' => (w'.cell? ⟨g, 0, none⟩ = some (.string r.key) ∧ w'.cell? ⟨g, 1, none⟩ = some (.bool r.mark) ∧ w'.cell? ⟨g, 2, none⟩ = some (.int .u64 (r.tx : Int)) ∧ w'.cell? ⟨g, 3, none⟩ = some (.int .u32 (r.page : Int)) ∧ w'.cell? ⟨g, 4, none⟩ = some (.int .u16 (r.slot : Int)) ∧ w'.cell? ⟨g, 5, none⟩ = some (.string r.value) ∧ w'.cell? ⟨g, 6, none⟩ = some (.int .i64 r.pad))) (first | exact T3.out.all | exact T4.all | exact T5.all | exact T6.all | exact T7.all)
      (first
        | (go_at_call 12; (with_reducible refine (K3.out _).mono ?_); rintro e x4 ⟨rfl, c4⟩; have T4 := T3.out.later c4; clear c4)
        | (go_at_call 13; (with_reducible refine (K4.out _).mono ?_); rintro e x5 ⟨rfl, c5⟩; have T5 := T4.later c5; clear c5)
        | (go_at_call 14; (with_reducible refine (K6.out _).mono ?_); rintro e x6 ⟨rfl, c6⟩; have T6 := T5.later c6; clear c6)
        | (go_at_call 9; (with_reducible refine (alive_any _).mono ?_); rintro e x7 ⟨rfl, c7⟩; have T7 := T6.later c7; clear c7))
    have E := Lib.hid T7.below
    clear T3 T4 T5 T6 T7 K3 K4 K6
    go_wp2_with fail
    go_ret
    exact ⟨rfl, E.out⟩

end Go.Proofs.YtobnenjhmkbdoaaDoor.Row
