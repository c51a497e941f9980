/-
  PageTells holds for every input: which pages may be, what their bytes are, how much room they have, which are the same. No condition besides those of the statement.
-/
import Derived.Test.YtmandeohbiagfaaRows
import Derived.WalkKit
import Derived.ProofKit
import Derived.OpenShut
import Derived.ShutString
import Derived.ChangeOld
import Derived.Below
import Derived.Carry
import Derived.SizedLaws
import Derived.Deep.RegionHeld3
import Derived.Deep.DrawnRows
import Derived.Test.YtmandeohbiagfaaZ7
namespace Go.Proofs.Ytmandeohbiagfaa.Page
open Go.RowKit Slot
attribute [local go_sem ↓] Go.wp_at_zero Go.wp_at_succ

set_option maxRecDepth 100000 in
set_option maxHeartbeats 4000000 in
theorem tells_walk {w : World} {P Q : Pg} {u v : Value} (hp : InPg w P u) (hq : InPg w Q v) : Calls Try.prog 3 #[pgV P u, pgV Q v] w fun e w' => e = .returned (.bool true) ∧ Below w.heap.size w w' := by
  have T0 := Lib.hid (Two.start hp.rows hq.rows)
  obtain ⟨ad, c, rfl, _⟩ := id hp.rows
  obtain ⟨ad2, c2, rfl, _⟩ := id hq.rows
  have HV := Lib.hid (fun (W : World) (g h : Nat) (t : Two w W g h P Q (.slice ad P.rows.length c) (.slice ad2 Q.rows.length c2)) => heavy_any P t.a.rows hp.len hp.each)
  have HV2 := Lib.hid (fun (W : World) (g h : Nat) (t : Two w W g h P Q (.slice ad P.rows.length c) (.slice ad2 Q.rows.length c2)) => heavy_any Q t.b.rows hq.len hq.each)
  have PWF := Lib.hid hp.wf
  clear hp hq
  obtain ⟨n, hn⟩ : ∃ n, n = P.rows.length := ⟨_, rfl⟩
  obtain ⟨n2, hn2⟩ : ∃ n, n = Q.rows.length := ⟨_, rfl⟩
  have N := Lib.hid hn
  have N2 := Lib.hid hn2
  rw [← hn, ← hn2] at T0 HV HV2 ⊢
  clear hn hn2
  unfold pgV pgC at *
  obtain ⟨⟨a0, a1, a2, a3, a4, a5⟩, ⟨b0, b1, b2, b3, b4, b5⟩⟩ := And.intro T0.out.a.six T0.out.b.six
  go_enter Try.func3, Try.ntmps3
  go_wp2_with fail
  obtain ⟨g, hg⟩ : ∃ g, g = w.heap.size := ⟨_, rfl⟩
  obtain ⟨h, hh⟩ : ∃ h, h = w.heap.size + 1 := ⟨_, rfl⟩
  clear a0 a1 a2 a3 a4 a5 b0 b1 b2 b3 b4 b5
  have B := Lib.hid (Below.refl w.heap.size w)
  rw [← hh, ← hg] at T0 ⊢
  refine (HV.out _ _ _ T0.out).mono ?_
  rintro e w1 ⟨rfl, b1⟩
  have T1 := Lib.hid (T0.out.later b1)
  clear b1 T0 B hg hh
  cases hb : heavyB P.rows with
  | true =>
    clear HV HV2 hb
    go_wp2_with fail
    refine (alive_any w1).mono ?_
    rintro e w2 ⟨rfl, b2⟩
    have E := Lib.hid (T1.out.later b2).a.below
    clear b2 T1
    go_wp2_with fail
    go_ret
    exact ⟨rfl, E.out⟩
  | false =>
    have L1 := Lib.hid (light hb)
    obtain ⟨b0, b1, b2, b3, b4, b5⟩ := T1.out.b.six
    clear hb HV
    go_wp2_with fail
    refine (HV2.out _ _ _ T1.out).mono ?_
    rintro e w2 ⟨rfl, c3⟩
    have T2 := Lib.hid (T1.out.later c3)
    clear c3 T1 b0 b1 b2 b3 b4 b5 HV2
    cases hb : heavyB Q.rows with
    | true =>
      clear hb
      go_wp2_with fail
      refine (alive_any w2).mono ?_
      rintro e w3 ⟨rfl, b2⟩
      have E := Lib.hid (T2.out.later b2).a.below
      clear b2 T2
      go_wp2_with fail
      go_ret
      exact ⟨rfl, E.out⟩
    | false =>
      have L2 := Lib.hid (light hb)
      clear hb
      have K10 := Lib.hid (fun (W : World) (t : Two w W g h P Q (.slice ad n c) (.slice ad2 n2 c2)) => encode_any P PWF.out t.a.rows (by have := L1.out.1; omega))
      have K11 := Lib.hid (fun (W : World) (t : Two w W g h P Q (.slice ad n c) (.slice ad2 n2 c2)) => rencode_any P PWF.out t.a.rows (by have := L1.out.1; omega))
      have K12 := Lib.hid (fun (W : World) (t : Two w W g h P Q (.slice ad n c) (.slice ad2 n2 c2)) => may_any P t.a.rows (by have := L1.out.1; omega))
      have K13 := Lib.hid (fun (W : World) (t : Two w W g h P Q (.slice ad n c) (.slice ad2 n2 c2)) => rmay_any P t.a.rows (by have := L1.out.1; omega))
      have K14 := Lib.hid (fun (W : World) (t : Two w W g h P Q (.slice ad n c) (.slice ad2 n2 c2)) => room_any P t.a.rows (by have := L1.out.1; omega))
      have K15 := Lib.hid (fun (W : World) (t : Two w W g h P Q (.slice ad n c) (.slice ad2 n2 c2)) => rroom_any P t.a.rows (by have := L1.out.1; omega))
      have K16 := Lib.hid (fun (W : World) (t : Two w W g h P Q (.slice ad n c) (.slice ad2 n2 c2)) => same_any P Q t.a.rows t.b.rows (by have := L1.out.2; omega) (by have := L2.out.2; omega))
      have K17 := Lib.hid (fun (W : World) (t : Two w W g h P Q (.slice ad n c) (.slice ad2 n2 c2)) => rsame_any P Q t.a.rows t.b.rows (by have := L1.out.2; omega))
      unfold pgV at K10 K11 K12 K13 K14 K15 K16 K17
      generalize encS P = S0 at *
      generalize encE P = E0 at *
      generalize mayP P = M0 at *
      generalize roomI P.rows = R0 at *
      generalize sameB P Q = Z0 at *
      clear L1 L2 PWF N N2
      obtain ⟨a0, a1, a2, a3, a4, a5⟩ := T2.out.a.six
      go_wp2_with fail
      refine (K10.out _ T2.out).mono ?_
      rintro e w3 ⟨rfl, c3⟩
      have T3 := Lib.hid (T2.out.later c3)
      clear c3 T2 a0 a1 a2 a3 a4 a5 K10
      obtain ⟨a0, a1, a2, a3, a4, a5⟩ := T3.out.a.six
      go_wp2_with fail
      refine (K11.out _ T3.out).mono ?_
      rintro e w4 ⟨rfl, c3⟩
      have T4 := Lib.hid ((T3.out.later c3).later ((Below.refl _ _).drew))
      clear c3 T3 a0 a1 a2 a3 a4 a5 K11
      go_wp2_with fail
      go_region_held3 (fun w' => (w'.cell? ⟨g, 0, none⟩ = some (.int .u8 (P.kind : Int)) ∧ w'.cell? ⟨g, 1, none⟩ = some (.int .u8 (P.level : Int)) ∧ w'.cell? ⟨g, 2, none⟩ = some (.int .u32 (P.id : Int)) ∧ w'.cell? ⟨g, 3, none⟩ = some (.int .u64 (P.lsn : Int)) ∧ w'.cell? ⟨g, 4, none⟩ = some (.int .u32 (P.next : Int)) ∧ w'.cell? ⟨g, 5, none⟩ = some (.slice ad n c)) ∧ (w'.cell? ⟨h, 0, none⟩ = some (.int .u8 (Q.kind : Int)) ∧ w'.cell? ⟨h, 1, none⟩ = some (.int .u8 (Q.level : Int)) ∧ w'.cell? ⟨h, 2, none⟩ = some (.int .u32 (Q.id : Int)) ∧ w'.cell? ⟨h, 3, none⟩ = some (.int .u64 (Q.lsn : Int)) ∧ w'.cell? ⟨h, 4, none⟩ = some (.int .u32 (Q.next : Int)) ∧ w'.cell? ⟨h, 5, none⟩ = some (.slice ad2 n2 c2)))
        (first | exact ⟨T4.out.a.six, T4.out.b.six⟩ | exact ⟨T5.a.six, T5.b.six⟩ | exact ⟨T6.a.six, T6.b.six⟩ | exact ⟨T7.a.six, T7.b.six⟩ | exact ⟨T8.a.six, T8.b.six⟩ | exact ⟨T9.a.six, T9.b.six⟩ | exact ⟨T10.a.six, T10.b.six⟩ | exact ⟨T11.a.six, T11.b.six⟩)
        (first | (go_at_call 12; (with_reducible refine (K12.out _ T4.out).mono ?_); rintro e x5 ⟨rfl, c5⟩; have T5 := T4.out.later c5; clear c5) | (go_at_call 13; (with_reducible refine (K13.out _ T5).mono ?_); rintro e x6 ⟨rfl, c6⟩; have T6 := T5.later c6; clear c6) | (go_at_call 14; (with_reducible refine (K14.out _ T6).mono ?_); rintro e x7 ⟨rfl, c7⟩; have T7 := T6.later c7; clear c7) | (go_at_call 15; (with_reducible refine (K15.out _ T7).mono ?_); rintro e x8 ⟨rfl, c8⟩; have T8 := T7.later c8; clear c8) | (go_at_call 16; (with_reducible refine (K16.out _ T8).mono ?_); rintro e x9 ⟨rfl, c9⟩; have T9 := T8.later c9; clear c9) | (go_at_call 17; (with_reducible refine (K17.out _ T9).mono ?_); rintro e x10 ⟨rfl, c10⟩; have T10 := T9.later c10; clear c10) | (go_at_call 9; (with_reducible refine (alive_any _).mono ?_); rintro e x11 ⟨rfl, c11⟩; have T11 := T10.later c11; clear c11))
      have E := Lib.hid T11.a.below
      clear T4 T5 T6 T7 T8 T9 T10 T11 K12 K13 K14 K15 K16 K17
      go_wp2_with fail
      go_ret
      exact ⟨rfl, E.out⟩

end Go.Proofs.Ytmandeohbiagfaa.Page

namespace Go.Proofs.Ytmandeohbiagfaa.pageTells
open Go.ChangeShapes Go.WideShapes Go.ChangeAt Go.RowKit
open Go.ChangeMaps (open_string shut_string)

theorem own : ownKnob Try.prog.godebug = none := by kernel_rfl
theorem laidOut : laidOutB Try.prog = true := by kernel_rfl

set_option maxRecDepth 100000 in
theorem lifted (os : Os) (started : os.Started) (H : Type) (enc : TypeId × Value → H) :
    ReturnsInHanded {} Try.checked os 3 .any (Rows.pageTellsSpec.pre6 enc Try.prog Try.f3 Rows.pageTellsRow.domain false) (Rows.pageTellsSpec.post enc Try.prog Try.f3 false true false false) := by
  refine returnsInHanded_of_change_sized (C := Try.checked) own started (by kernel_rfl) Try.func3
    (ChangeSpec.witness6 (enc := enc) (C := Try.checked) false ⟨#[], #[.agg #[.int .u8 0, .int .u8 0, .int .u32 0, .int .u64 0, .int .u32 0, .slice none 0 0], .agg #[.int .u8 0, .int .u8 0, .int .u32 0, .int .u64 0, .int .u32 0, .slice none 0 0]], []⟩ 8 (by kernel_rfl) (by kernel_rfl) (by kernel_rfl) (by kernel_rfl)) ?_
  intro W base args ds gs before hval0 hW hcnd hsz0 _
  have hsz : (DataW.weightsEach Try.prog (Try.f3.params.toList ++ Rows.pageTellsSpec.plain.varTypes Try.prog) (ds ++ gs)).all (· ≤ reachBytes) = true := hsz0
  have hval : ∀ (j : Nat) t v, Try.f3.params[j]? = some t → args[j]? = some v → Value.okWide Try.prog W .any base t v := hval0
  have hW' := hW
  obtain ⟨p, q, hA0, hV, rfl, hfz, hnd⟩ := hW
  have hA : DataW.TrodAll enc Try.prog W 0 (fun _ => true) true Try.f3.params.toList args.toList ds p := hA0
  have hlt := DataW.TrodAll.lt hA0
  rw [Try.params3] at hA hval hsz
  obtain ⟨v0, vs0, d0, ds0, p0, q0, hargs, rfl, rfl, h0, r0⟩ := trodAll_cons hA
  obtain ⟨v1, vs1, d1, ds1, p1, q1, rfl, rfl, rfl, h1, r1⟩ := trodAll_cons r0
  obtain ⟨rfl, rfl, rfl⟩ := trodAll_nil r1
  obtain rfl : args = #[v0, v1] := by cases args; simp_all
  obtain ⟨rfl, rfl⟩ := trodVars_none hV
  have z0 : ∀ n ∈ d0.weights Try.prog 26, n ≤ 140737488351232 := fun n hn => by
    have := List.all_eq_true.1 hsz _ (DataW.weights_mem_each (j := 0) rfl rfl n hn)
    exact of_decide_eq_true this
  obtain ⟨P0, u0, rfl, hp0⟩ := Page.page_of (hval 0 26 v0 rfl rfl) h0 z0
  have z1 : ∀ n ∈ d1.weights Try.prog 26, n ≤ 140737488351232 := fun n hn => by
    have := List.all_eq_true.1 hsz _ (DataW.weights_mem_each (j := 1) rfl rfl n hn)
    exact of_decide_eq_true this
  obtain ⟨P1, u1, rfl, hp1⟩ := Page.page_of (hval 1 26 v1 rfl rfl) h1 z1
  clear hA0 hval0
  simp only [List.append_nil] at hW' hlt
  refine (Page.tells_walk hp0 hp1).mono fun e W' ⟨he, hg⟩ => ?_
  subst he
  exact ⟨_, rfl, _, _, _, [], _, [], hW', (trodAll_cons_mk (shut_bool Try.underlying4 _) trodAll_mk0), (trodAll_cons_mk (Below.trod laidOut (by kernel_rfl) (of_decide_eq_true (by kernel_rfl)) h0 hg (fun x hx => hlt x (by simp [hx]))) (trodAll_cons_mk (Below.trod laidOut (by kernel_rfl) (of_decide_eq_true (by kernel_rfl)) h1 hg (fun x hx => hlt x (by simp [hx]))) trodAll_mk0)), rfl, hg.frame _, fun h => by cases h⟩

theorem over : Rows.pageTellsRow.holds Try.pinned (OpenSpec.ofChange Rows.pageTellsSpec) :=
  OpenClaim.holds_of_wide 3 Try.f3 rfl rfl rfl rfl rfl rfl rfl ⟨rfl, rfl, rfl, rfl, rfl⟩ rfl rfl rfl rfl rfl (by kernel_rfl) Try.func3 (by kernel_rfl)
    (of_decide_eq_true (by kernel_rfl)) (by unfold Func.isWrapper; first | (rw [if_pos (by decide +kernel)]; kernel_rfl) | (rw [if_neg (by decide +kernel)]; exact ⟨rfl, rfl⟩))
    (fun os started H enc _ => lifted os started H enc)

theorem proved : Rows.PageTellsSaid :=
  over
end Go.Proofs.Ytmandeohbiagfaa.pageTells
