/-
  PageTorn holds for every input: what is torn between a page and itself is that; what it is read as, if it is one at all, is written as just these bytes. No condition besides those of the statement.
-/
import Derived.Test.YtmandeohbiagfaaRows
import Derived.WalkKit
import Derived.ProofKit
import Derived.OpenShut
import Derived.ShutString
import Derived.ChangeOld
import Derived.Below
import Derived.Carry
import Derived.SizedLaws
import Derived.Test.YtmandeohbiagfaaZ7
namespace Go.Proofs.Ytmandeohbiagfaa.Page
open Go.RowKit Slot
attribute [local go_sem ↓] Go.wp_at_zero Go.wp_at_succ

theorem enc_no {P : Pg} (h : mayP P = false) : encE P = 2 := by unfold encE; rw [if_neg (by rw [h]; decide)]
theorem enc_yes {P : Pg} (h : mayP P = true) : encE P = 0 := by unfold encE; rw [if_pos h]

set_option maxRecDepth 100000 in
set_option maxHeartbeats 4000000 in
theorem ptorn_walk {w : World} {P Q : Pg} {u v x : Value} {l : List Bool} (hp : InPg w P u) (hq : InPg w Q v) (hc : NilOk x) (ht : Tru w x l) (hl : l.length ≤ 140737488351232) :
    Calls Try.prog 6 #[pgV P u, pgV Q v, x] w fun e w' => e = .returned (.bool true) ∧ Below w.heap.size w w' := by
  have T0 := Lib.hid (Two.start hp.rows hq.rows)
  have R0 := Lib.hid (ht.later (((Below.refl w.heap.size w).alloc (Nat.le_refl _) (.cells (pgC P u) 26)).alloc (by simp) (.cells (pgC Q v) 26)))
  have NIL := Lib.hid hc
  obtain ⟨ad, c, rfl, _⟩ := id hp.rows
  obtain ⟨ad2, c2, rfl, _⟩ := id hq.rows
  obtain ⟨ad3, c3, rfl, _⟩ := id ht
  have HV := Lib.hid (fun (W : World) (g h : Nat) (t : Two w W g h P Q (.slice ad P.rows.length c) (.slice ad2 Q.rows.length c2)) => heavy_any P t.a.rows hp.len hp.each)
  have HV2 := Lib.hid (fun (W : World) (g h : Nat) (t : Two w W g h P Q (.slice ad P.rows.length c) (.slice ad2 Q.rows.length c2)) => heavy_any Q t.b.rows hq.len hq.each)
  have PWF := Lib.hid hp.wf
  have QWF := Lib.hid hq.wf
  have l0 : (0 : Int) ≤ (l.length : Int) := Int.natCast_nonneg _
  have l1 : (l.length : Int) ≤ 140737488351232 := by omega
  have LL := Lib.hid hl
  clear hp hq hc ht hl
  obtain ⟨n, hn⟩ : ∃ n, n = P.rows.length := ⟨_, rfl⟩
  obtain ⟨n2, hn2⟩ : ∃ n, n = Q.rows.length := ⟨_, rfl⟩
  have N := Lib.hid hn
  have N2 := Lib.hid hn2
  unfold pgV pgC at *
  rw [← hn, ← hn2] at T0 R0 HV HV2 ⊢
  clear hn hn2
  obtain ⟨⟨a0, a1, a2, a3, a4, a5⟩, ⟨b0, b1, b2, b3, b4, b5⟩⟩ := And.intro T0.out.a.six T0.out.b.six
  go_enter Try.func6, Try.ntmps6
  go_wp2_with fail
  obtain ⟨g, hg⟩ : ∃ g, g = w.heap.size := ⟨_, rfl⟩
  obtain ⟨h, hh⟩ : ∃ h, h = w.heap.size + 1 := ⟨_, rfl⟩
  clear a0 a1 a2 a3 a4 a5 b0 b1 b2 b3 b4 b5
  rw [← hh, ← hg] at T0 ⊢
  refine (HV.out _ _ _ T0.out).mono ?_
  rintro e w1 ⟨rfl, b1⟩
  have T1 := Lib.hid (T0.out.later b1)
  have R1 := Lib.hid (R0.out.later b1)
  clear b1 T0 R0 hg hh
  cases hb : heavyB P.rows with
  | true =>
    clear HV HV2 hb
    go_wp2_with fail
    refine (alive_any _).mono ?_
    rintro e wz ⟨rfl, bz⟩
    have E := Lib.hid (T1.out.a.below.trans (bz.mono T1.out.a.below.size))
    clear bz T1 R1
    go_wp2_with fail
    go_ret
    exact ⟨rfl, E.out⟩
  | false =>
    have L1 := Lib.hid (light hb)
    obtain ⟨b0, b1, b2, b3, b4, b5⟩ := T1.out.b.six
    clear hb HV
    go_wp2_with fail
    refine (HV2.out _ _ _ T1.out).mono ?_
    rintro e w2 ⟨rfl, k3⟩
    have T2 := Lib.hid (T1.out.later k3)
    have R2 := Lib.hid (R1.out.later k3)
    clear k3 T1 R1 b0 b1 b2 b3 b4 b5 HV2
    cases hb : heavyB Q.rows with
    | true =>
      clear hb
      go_wp2_with fail
      refine (alive_any _).mono ?_
      rintro e wz ⟨rfl, bz⟩
      have E := Lib.hid (T2.out.a.below.trans (bz.mono T2.out.a.below.size))
      clear bz T2 R2
      go_wp2_with fail
      go_ret
      exact ⟨rfl, E.out⟩
    | false =>
      have L2 := Lib.hid (light hb)
      clear hb
      by_cases D : 20 < l.length
      · have d1 : decide (20 < (l.length : Int)) = true := decide_eq_true (by omega)
        have d2 : decide (20 < l.length) = true := decide_eq_true (by omega)
        clear D
        go_wp2_with fail
        refine (alive_any _).mono ?_
        rintro e wz ⟨rfl, bz⟩
        have E := Lib.hid (T2.out.a.below.trans (bz.mono T2.out.a.below.size))
        clear bz T2 R2
        go_wp2_with fail
        go_ret
        exact ⟨rfl, E.out⟩
      · have d1 : decide (20 < (l.length : Int)) = false := decide_eq_false (by omega)
        have d2 : decide (20 < l.length) = false := decide_eq_false (by omega)
        have LEN := Lib.hid (show l.length ≤ 1000000 by omega)
        have K10 := Lib.hid (fun (W : World) (t : Two w W g h P Q (.slice ad n c) (.slice ad2 n2 c2)) => encode_any P PWF.out t.a.rows (by have := L1.out.1; omega))
        have K11 := Lib.hid (fun (W : World) (t : Two w W g h P Q (.slice ad n c) (.slice ad2 n2 c2)) => encode_any Q QWF.out t.b.rows (by have := L2.out.1; omega))
        have S1 := Lib.hid (fun hm => enc_size (p := P) hm)
        have S2 := Lib.hid (fun hm => enc_size (p := Q) hm)
        have Y1 := Lib.hid (fun hm => enc_yes (P := P) hm)
        have Y2 := Lib.hid (fun hm => enc_yes (P := Q) hm)
        have X1 := Lib.hid (fun hm => enc_no (P := P) hm)
        have X2 := Lib.hid (fun hm => enc_no (P := Q) hm)
        unfold pgV at K10 K11
        generalize encS P = S at *
        generalize encS Q = T at *
        generalize encE P = E1 at *
        generalize encE Q = E2 at *
        clear L1 L2 PWF QWF N N2 D LL
        obtain ⟨a0, a1, a2, a3, a4, a5⟩ := T2.out.a.six
        go_wp2_with fail
        refine (K10.out _ T2.out).mono ?_
        rintro e w3 ⟨rfl, k3⟩
        have T3 := Lib.hid (T2.out.later k3)
        have R3 := Lib.hid (R2.out.later k3)
        clear k3 T2 R2 a0 a1 a2 a3 a4 a5 K10
        obtain ⟨a0, a1, a2, a3, a4, a5⟩ := T3.out.b.six
        go_wp2_with fail
        refine (K11.out _ T3.out).mono ?_
        rintro e w4 ⟨rfl, k3⟩
        have B4 := Lib.hid (T3.out.later k3).a.below
        have R4 := Lib.hid (R3.out.later k3)
        clear k3 T3 R3 a0 a1 a2 a3 a4 a5 K11
        cases hm : mayP P with
        | false =>
          obtain rfl := X1.out hm
          clear X1 X2 Y1 Y2 S1 S2 hm
          go_wp2_with fail
          refine (alive_any _).mono ?_
          rintro e wz ⟨rfl, bz⟩
          have E := Lib.hid (B4.out.trans (bz.mono B4.out.size))
          clear bz B4 R4
          go_wp2_with fail
          go_ret
          exact ⟨rfl, E.out⟩
        | true =>
          cases hm2 : mayP Q with
          | false =>
            obtain rfl := X2.out hm2
            obtain rfl := Y1.out hm
            clear X1 X2 Y1 Y2 S1 S2 hm hm2
            go_wp2_with fail
            refine (alive_any _).mono ?_
            rintro e wz ⟨rfl, bz⟩
            have E := Lib.hid (B4.out.trans (bz.mono B4.out.size))
            clear bz B4 R4
            go_wp2_with fail
            go_ret
            exact ⟨rfl, E.out⟩
          | true =>
            obtain rfl := Y2.out hm2
            obtain rfl := Y1.out hm
            have z1 := S1.out hm
            have z2 := S2.out hm2
            have K20 := Lib.hid (fun W v (k : Tru W v l) => torn_any S T (by omega) (by omega) k LEN.out)
            have K21 := Lib.hid (fun W v (k : Tru W v l) => torn_any S S (by omega) (by omega) k LEN.out)
            have K22 := Lib.hid (fun W => torn_any S T (by omega) (by omega) (tru_four W) (by decide))
            have K23 := Lib.hid (fun W => torn_any S T (by omega) (by omega) (tru_nil W) (by decide))
            rw [tornE_ok z1 z2] at K20
            rw [tornE_ok z1 z1, torn_self l z1] at K21
            rw [tornE_ok z1 z2, torn_all z1 z2] at K22
            rw [tornE_ok z1 z2, torn_none z1 z2] at K23
            have XS := Lib.hid (torn_size (s := S) (t := T) l)
            clear X1 X2 Y1 Y2 S1 S2 hm hm2 z1 z2
            generalize tornS S T l = X at *
            have eb1 := beq_yes S
            have eb2 := beq_yes T
            go_wp2_with (refine wpList_app_bools rfl _ _ rfl R4.out NIL.out LEN.out rfl rfl ?_; intro v5 w5 t5 b5; have T5 := Lib.hid t5; have B5 := Lib.hid (B4.out.trans (b5.mono B4.out.size)); have R5 := Lib.hid (R4.out.later b5); clear t5 b5)
            refine (K20.out _ _ T5.out).mono ?_
            rintro e w6 ⟨rfl, k6⟩
            have B6 := Lib.hid (B5.out.trans (k6.mono B5.out.size))
            have R6 := Lib.hid (R5.out.later k6)
            clear k6 R4 B4 T5 B5 R5 K20
            go_wp2_with (refine wpList_app_bools rfl _ _ rfl R6.out NIL.out LEN.out rfl rfl ?_; intro v7 w7 t7 b7; have T7 := Lib.hid t7; have B7 := Lib.hid (B6.out.trans (b7.mono B6.out.size)); clear t7 b7)
            refine (K21.out _ _ T7.out).mono ?_
            rintro e w8 ⟨rfl, k8⟩
            have B8 := Lib.hid (B7.out.trans (k8.mono B7.out.size))
            have B8A := Lib.hid (B8.out.alloc B8.out.size (.cells #[.bool true, .bool true, .bool true, .bool true] 4))
            clear k8 R6 B6 T7 B7 K21
            go_wp2_with fail
            refine (K22.out _).mono ?_
            rintro e w9 ⟨rfl, k9⟩
            have B9 := Lib.hid (B8A.out.trans (k9.mono B8A.out.size))
            clear k9 B8 B8A K22
            go_wp2_with fail
            refine (K23.out _).mono ?_
            rintro e w10 ⟨rfl, k10⟩
            have B10 := Lib.hid (B9.out.trans (k10.mono B9.out.size))
            clear k10 B9 K23
            obtain ⟨q, cc, hq⟩ := dec_ex X
            have K18 := Lib.hid (fun W => decode_any X W (by have := XS.out; omega) hq)
            have QU := Lib.hid (dec_used hq)
            have DQ := Lib.hid hq
            clear hq
            go_wp2_with fail
            refine (K18.out _).mono ?_
            rintro e w11 ⟨k11, v11, rfl, r11⟩
            obtain ⟨ad4, c4, rfl, _⟩ := id r11
            have A11 : Hid (Bx w (w11.alloc (.cells #[.int .u8 (q.kind : Int), .int .u8 (q.level : Int), .int .u32 (q.id : Int), .int .u64 (q.lsn : Int), .int .u32 (q.next : Int), .slice ad4 q.rows.length c4] 26)) w11.heap.size q (.slice ad4 q.rows.length c4)) := Lib.hid (Bx.make r11 (B10.out.trans (k11.mono B10.out.size)))
            clear k11 r11 B10 K18
            unfold pgV
            rcases DQ.out with ⟨hp, hq, rfl⟩ | ⟨hp, hq, rfl⟩
            · have K30 := encode_any (w := w11.alloc (.cells #[.int .u8 (q.kind : Int), .int .u8 (q.level : Int), .int .u32 (q.id : Int), .int .u64 (q.lsn : Int), .int .u32 (q.next : Int), .slice ad4 q.rows.length c4] 26)) q QU.out.1 A11.out.rows QU.out.2
              rw [hq] at K30
              rw [enc_yes hp.may, hp.bytes, ← hq] at K30
              have K31 := Lib.hid K30
              obtain ⟨a0, a1, a2, a3, a4, a5⟩ := A11.out.six
              have eb3 := beq_yes X
              clear K30 hp hq DQ QU
              go_wp2_with fail
              change Calls Try.prog _ #[pgV q (.slice ad4 q.rows.length c4)] (w11.alloc (.cells #[.int .u8 (q.kind : Int), .int .u8 (q.level : Int), .int .u32 (q.id : Int), .int .u64 (q.lsn : Int), .int .u32 (q.next : Int), .slice ad4 q.rows.length c4] 26)) _
              refine K31.out.mono ?_
              rintro e w12 ⟨rfl, k12⟩
              have B12 := Lib.hid (A11.out.below.trans (k12.mono A11.out.below.size))
              clear k12 A11 K31 a0 a1 a2 a3 a4 a5
              go_wp2_with fail
              refine (alive_any _).mono ?_
              rintro e wz ⟨rfl, bz⟩
              have E := Lib.hid (B12.out.trans (bz.mono B12.out.size))
              clear bz B12
              go_wp2_with fail
              go_ret
              exact ⟨rfl, E.out⟩
            · clear DQ QU hp hq
              have B11 := Lib.hid A11.out.below
              clear A11
              go_wp2_with fail
              refine (alive_any _).mono ?_
              rintro e wz ⟨rfl, bz⟩
              have E := Lib.hid (B11.out.trans (bz.mono B11.out.size))
              clear bz B11
              go_wp2_with fail
              go_ret
              exact ⟨rfl, E.out⟩

end Go.Proofs.Ytmandeohbiagfaa.Page

namespace Go.Proofs.Ytmandeohbiagfaa.pageTorn
open Go.ChangeShapes Go.WideShapes Go.ChangeAt Go.RowKit
open Go.ChangeMaps (open_string shut_string)

theorem own : ownKnob Try.prog.godebug = none := by kernel_rfl
theorem laidOut : laidOutB Try.prog = true := by kernel_rfl

set_option maxRecDepth 100000 in
theorem lifted (os : Os) (started : os.Started) (H : Type) (enc : TypeId × Value → H) :
    ReturnsInHanded {} Try.checked os 6 .any (Rows.pageTornSpec.pre6 enc Try.prog Try.f6 Rows.pageTornRow.domain false) (Rows.pageTornSpec.post enc Try.prog Try.f6 false true false false) := by
  refine returnsInHanded_of_change_sized (C := Try.checked) own started (by kernel_rfl) Try.func6
    (ChangeSpec.witness6 (enc := enc) (C := Try.checked) false ⟨#[], #[.agg #[.int .u8 0, .int .u8 0, .int .u32 0, .int .u64 0, .int .u32 0, .slice none 0 0], .agg #[.int .u8 0, .int .u8 0, .int .u32 0, .int .u64 0, .int .u32 0, .slice none 0 0], .slice none 0 0], []⟩ 8 (by kernel_rfl) (by kernel_rfl) (by kernel_rfl) (by kernel_rfl)) ?_
  intro W base args ds gs before hval0 hW hcnd hsz0 _
  have hsz : (DataW.weightsEach Try.prog (Try.f6.params.toList ++ Rows.pageTornSpec.plain.varTypes Try.prog) (ds ++ gs)).all (· ≤ reachBytes) = true := hsz0
  have hval : ∀ (j : Nat) t v, Try.f6.params[j]? = some t → args[j]? = some v → Value.okWide Try.prog W .any base t v := hval0
  have hW' := hW
  obtain ⟨p, q, hA0, hV, rfl, hfz, hnd⟩ := hW
  have hA : DataW.TrodAll enc Try.prog W 0 (fun _ => true) true Try.f6.params.toList args.toList ds p := hA0
  have hlt := DataW.TrodAll.lt hA0
  rw [Try.params6] at hA hval hsz
  obtain ⟨v0, vs0, d0, ds0, p0, q0, hargs, rfl, rfl, h0, r0⟩ := trodAll_cons hA
  obtain ⟨v1, vs1, d1, ds1, p1, q1, rfl, rfl, rfl, h1, r1⟩ := trodAll_cons r0
  obtain ⟨v2, vs2, d2, ds2, p2, q2, rfl, rfl, rfl, h2, r2⟩ := trodAll_cons r1
  obtain ⟨rfl, rfl, rfl⟩ := trodAll_nil r2
  obtain rfl : args = #[v0, v1, v2] := by cases args; simp_all
  obtain ⟨rfl, rfl⟩ := trodVars_none hV
  have z0 : ∀ n ∈ d0.weights Try.prog 26, n ≤ 140737488351232 := fun n hn => by
    have := List.all_eq_true.1 hsz _ (DataW.weights_mem_each (j := 0) rfl rfl n hn)
    exact of_decide_eq_true this
  obtain ⟨P0, u0, rfl, hp0⟩ := Page.page_of (hval 0 26 v0 rfl rfl) h0 z0
  have z1 : ∀ n ∈ d1.weights Try.prog 26, n ≤ 140737488351232 := fun n hn => by
    have := List.all_eq_true.1 hsz _ (DataW.weights_mem_each (j := 1) rfl rfl n hn)
    exact of_decide_eq_true this
  obtain ⟨P1, u1, rfl, hp1⟩ := Page.page_of (hval 1 26 v1 rfl rfl) h1 z1
  have z2 : ∀ n ∈ d2.weights Try.prog 36, n ≤ 140737488351232 := fun n hn => by
    have := List.all_eq_true.1 hsz _ (DataW.weights_mem_each (j := 2) rfl rfl n hn)
    exact of_decide_eq_true this
  obtain ⟨l2, hc2, hl2⟩ := Page.bools_arg (hval 2 36 v2 rfl rfl) h2 z2
  clear hA0 hval0
  simp only [List.append_nil] at hW' hlt
  refine (Page.ptorn_walk hp0 hp1 hc2 hl2.1 hl2.2).mono fun e W' ⟨he, hg⟩ => ?_
  subst he
  exact ⟨_, rfl, _, _, _, [], _, [], hW', (trodAll_cons_mk (shut_bool Try.underlying4 _) trodAll_mk0), (trodAll_cons_mk (Below.trod laidOut (by kernel_rfl) (of_decide_eq_true (by kernel_rfl)) h0 hg (fun x hx => hlt x (by simp [hx]))) (trodAll_cons_mk (Below.trod laidOut (by kernel_rfl) (of_decide_eq_true (by kernel_rfl)) h1 hg (fun x hx => hlt x (by simp [hx]))) (trodAll_cons_mk (Below.trod laidOut (by kernel_rfl) (of_decide_eq_true (by kernel_rfl)) h2 hg (fun x hx => hlt x (by simp [hx]))) trodAll_mk0))), rfl, hg.frame _, fun h => by cases h⟩

theorem over : Rows.pageTornRow.holds Try.pinned (OpenSpec.ofChange Rows.pageTornSpec) :=
  OpenClaim.holds_of_wide 6 Try.f6 rfl rfl rfl rfl rfl rfl rfl ⟨rfl, rfl, rfl, rfl, rfl⟩ rfl rfl rfl rfl rfl (by kernel_rfl) Try.func6 (by kernel_rfl)
    (of_decide_eq_true (by kernel_rfl)) (by unfold Func.isWrapper; first | (rw [if_pos (by decide +kernel)]; kernel_rfl) | (rw [if_neg (by decide +kernel)]; exact ⟨rfl, rfl⟩))
    (fun os started H enc _ => lifted os started H enc)

theorem proved : Rows.PageTornSaid :=
  over
end Go.Proofs.Ytmandeohbiagfaa.pageTorn
