/- Walks: which records may be, what their bytes are, and which are the same. -/
import Derived.Test.YtadhophiannigaaCL0
import Derived.Test.YtadhophiannigaaST
import Derived.Test.YtadhophiannigaaCY6
namespace Go.Proofs.Ytadhophiannigaa.Rec
open Go.RowKit
attribute [local go_sem ↓] Go.wp_at_zero Go.wp_at_succ

set_option linter.unusedSimpArgs false in
set_option maxRecDepth 100000 in
set_option maxHeartbeats 4000000 in
theorem tells_walk {w : World} {a b : Rc} {d t d' t' : Value} (ha : InR w a d t) (hb : InR w b d' t') :
    Calls Try.prog 3 #[recV a d t, recV b d' t'] w fun e w' => e = .returned (.bool true) ∧ Below w.heap.size w w' := by
  have T0 := Lib.hid (R2.start w a b d t d' t')
  have KH1 := Lib.hid (fun W (B : Below w.heap.size w W) => heavy_any (ha.later B))
  have KH2 := Lib.hid (fun W (B : Below w.heap.size w W) => heavy_any (hb.later B))
  have KC1 := Lib.hid (fun (h : heavyC a = false) W (B : Below w.heap.size w W) => (show Calls Try.prog 10 #[recV a d t] W fun e w' => ∃ d t, e = .returned (recV a d t) ∧ InR w' a d t ∧ Below W.heap.size W w' from copied_any (ha.later B) (by have := heavy_no h; omega) (by have := heavy_no h; omega)))
  have KC2 := Lib.hid (fun (h : heavyC b = false) W (B : Below w.heap.size w W) => (show Calls Try.prog 10 #[recV b d' t'] W fun e w' => ∃ d t, e = .returned (recV b d t) ∧ InR w' b d t ∧ Below W.heap.size W w' from copied_any (hb.later B) (by have := heavy_no h; omega) (by have := heavy_no h; omega)))
  have KE := Lib.hid (fun W d t (h : InR W a d t) => encode_any h)
  have KRE := Lib.hid (fun W (B : Below w.heap.size w W) => rencode_any (ha.later B))
  have KM := Lib.hid (fun W d t (h : InR W a d t) => may_any h)
  have KRM := Lib.hid (fun W (B : Below w.heap.size w W) => rmay_any (ha.later B))
  have KS := Lib.hid (fun W d t d' t' (h : InR W a d t) (k : InR W b d' t') => same_any h k)
  have KRS := Lib.hid (fun W (B : Below w.heap.size w W) => rsame_any (ha.later B) (hb.later B))
  have KSS := Lib.hid (fun W d' t' (B : Below w.heap.size w W) (k : InR W a d' t') => (show Calls Try.prog 14 #[recV a d t, recV a d' t'] W fun e w' => e = .returned (.bool true) ∧ Below W.heap.size W w' from by have := same_any (ha.later B) k; rw [same_self] at this; exact this))
  have KU := Lib.hid (fun W => undone_any a d t W)
  have EU := Lib.hid (show undoneC a = (decide (a.kind = 2) && decide (0 < a.page)) from rfl)
  have EE := Lib.hid (show encE a = if mayC a then 0 else 2 from rfl)
  clear ha hb
  generalize encS a = S at *
  generalize encE a = E at *
  generalize hM : mayC a = M at *
  generalize sameC a b = SC at *
  generalize undoneC a = U at *
  have BB := Lib.hid T0.out.a.below
  obtain ⟨a0, a1, a2, a3, a4, a5, a6, a7, a8, a9, a10, a11⟩ := T0.out.a.all
  obtain ⟨b0, b1, b2, b3, b4, b5, b6, b7, b8, b9, b10, b11⟩ := T0.out.b.all
  unfold recV recC at *
  go_enter Try.func3, Try.ntmps3
  go_wp2_with fail
  refine (KH1.out _ BB.out).mono ?_
  rintro e w1 ⟨rfl, c1⟩
  have T1 := Lib.hid (T0.out.later c1)
  clear c1 T0 BB KH1 a0 a1 a2 a3 a4 a5 a6 a7 a8 a9 a10 a11 b0 b1 b2 b3 b4 b5 b6 b7 b8 b9 b10 b11
  generalize w.heap.size + 1 = q at *
  obtain ⟨a0, a1, a2, a3, a4, a5, a6, a7, a8, a9, a10, a11⟩ := T1.out.a.all
  obtain ⟨b0, b1, b2, b3, b4, b5, b6, b7, b8, b9, b10, b11⟩ := T1.out.b.all
  cases hA : heavyC a with
  | true =>
    clear KH2 KC1 KC2 KE KRE KM KRM KS KRS KSS KU EU EE
    go_wp2_with fail
    refine (works_any _).mono ?_
    rintro e w2 ⟨rfl, c2⟩
    have B2 := Lib.hid (T1.out.later c2).a.below
    clear c2 T1 a0 a1 a2 a3 a4 a5 a6 a7 a8 a9 a10 a11 b0 b1 b2 b3 b4 b5 b6 b7 b8 b9 b10 b11
    go_wp2_with fail
    go_ret
    exact ⟨rfl, B2.out⟩
  | false =>
  go_wp2_with fail
  refine (KH2.out _ T1.out.a.below).mono ?_
  rintro e w2 ⟨rfl, c2⟩
  have T2 := Lib.hid (T1.out.later c2)
  clear c2 T1 KH2 a0 a1 a2 a3 a4 a5 a6 a7 a8 a9 a10 a11 b0 b1 b2 b3 b4 b5 b6 b7 b8 b9 b10 b11
  obtain ⟨a0, a1, a2, a3, a4, a5, a6, a7, a8, a9, a10, a11⟩ := T2.out.a.all
  obtain ⟨b0, b1, b2, b3, b4, b5, b6, b7, b8, b9, b10, b11⟩ := T2.out.b.all
  cases hB : heavyC b with
  | true =>
    clear KC1 KC2 KE KRE KM KRM KS KRS KSS KU EU EE
    go_wp2_with fail
    refine (works_any _).mono ?_
    rintro e w3 ⟨rfl, c2⟩
    have B2 := Lib.hid (T2.out.later c2).a.below
    clear c2 T2 a0 a1 a2 a3 a4 a5 a6 a7 a8 a9 a10 a11 b0 b1 b2 b3 b4 b5 b6 b7 b8 b9 b10 b11
    go_wp2_with fail
    go_ret
    exact ⟨rfl, B2.out⟩
  | false =>
  have KC1 := Lib.hid (KC1.out hA)
  have KC2 := Lib.hid (KC2.out hB)
  clear hA hB
  go_wp2_with fail
  refine (KC1.out _ T2.out.a.below).mono ?_
  rintro e w3 ⟨d1, t1, rfl, i1, c3⟩
  have T3 := T2.out.later c3
  go_wp2_with fail
  refine (KE.out _ _ _ i1).mono ?_
  rintro e w4 ⟨rfl, c4⟩
  have T4 := Lib.hid (T3.later c4)
  clear c3 c4 i1 T3 T2 KE a0 a1 a2 a3 a4 a5 a6 a7 a8 a9 a10 a11 b0 b1 b2 b3 b4 b5 b6 b7 b8 b9 b10 b11
  obtain ⟨a0, a1, a2, a3, a4, a5, a6, a7, a8, a9, a10, a11⟩ := T4.out.a.all
  go_wp2_with fail
  refine (KRE.out _ T4.out.a.below).mono ?_
  rintro e w5 ⟨rfl, c5⟩
  have T5 := Lib.hid (T4.out.later c5)
  clear c5 T4 KRE a0 a1 a2 a3 a4 a5 a6 a7 a8 a9 a10 a11
  obtain ⟨a0, a1, a2, a3, a4, a5, a6, a7, a8, a9, a10, a11⟩ := T5.out.a.all
  go_wp2_with fail
  refine (KRM.out _ T5.out.a.below).mono ?_
  rintro e w6 ⟨rfl, c6⟩
  have T6 := Lib.hid (T5.out.later c6)
  clear c6 T5 KRM a0 a1 a2 a3 a4 a5 a6 a7 a8 a9 a10 a11
  obtain ⟨a0, a1, a2, a3, a4, a5, a6, a7, a8, a9, a10, a11⟩ := T6.out.a.all
  go_upto_region 6 with fail
  go_cut [49] (fun c wx => c = .bool false ∧ R2 w wx w.heap.size q a b d t d' t')
  case first =>
    clear KC2 KS KRS KSS KU EU
    go_wp2_with fail
    refine (KC1.out _ T6.out.a.below).mono ?_
    rintro e w7 ⟨d2, t2, rfl, i2, c7⟩
    have T7 := T6.out.later c7
    go_wp2_with fail
    refine (KM.out _ _ _ i2).mono ?_
    rintro e w8 ⟨rfl, c8⟩
    have T8 := Lib.hid (T7.later c8)
    clear c7 c8 i2 T7 T6 KM a0 a1 a2 a3 a4 a5 a6 a7 a8 a9 a10 a11
    have eE := EE.out
    clear EE hM
    cases M with
    | false =>
      have eE2 : E = 2 := by rw [eE]; rfl
      subst eE2
      clear eE
      go_wp2_with fail
      go_meet
      exact ⟨rfl, T8.out⟩
    | true =>
      have eE2 : E = 0 := by rw [eE]; rfl
      subst eE2
      clear eE
      go_wp2_with fail
      go_meet
      exact ⟨rfl, T8.out⟩
  case rest =>
    obtain ⟨rfl, T7⟩ := hcut
    have T8 := Lib.hid T7
    clear T6 T7 KM EE hM a0 a1 a2 a3 a4 a5 a6 a7 a8 a9 a10 a11
    go_upto_region 8 with fail
    have T9 := Lib.hid (T8.out.later ((Below.refl _ _).drew))
    clear T8
    by_cases hk : a.kind = 2
    · have fk : ((a.kind : Int) == 2) = true := by rw [hk]; rfl
      have eU : U = decide (0 < a.page) := by rw [EU.out, decide_eq_true hk, Bool.true_and]
      subst eU
      clear hk EU
      go_region_held3 (fun w' => (w'.cell? ⟨w.heap.size, 0, none⟩ = some (.int .u8 (a.kind : Int)) ∧ w'.cell? ⟨w.heap.size, 1, none⟩ = some (.int .u64 (a.tx : Int)) ∧ w'.cell? ⟨w.heap.size, 2, none⟩ = some (.int .u64 (a.prev : Int)) ∧ w'.cell? ⟨w.heap.size, 3, none⟩ = some (.int .u32 (a.page : Int)) ∧ w'.cell? ⟨w.heap.size, 4, none⟩ = some (.int .u16 (a.slot : Int)) ∧ w'.cell? ⟨w.heap.size, 5, none⟩ = some (.int .u64 (a.next : Int)) ∧ w'.cell? ⟨w.heap.size, 6, none⟩ = some (.int .u64 (a.number : Int)) ∧ w'.cell? ⟨w.heap.size, 7, none⟩ = some (.string a.body) ∧ w'.cell? ⟨w.heap.size, 8, none⟩ = some (d) ∧ w'.cell? ⟨w.heap.size, 9, none⟩ = some (t) ∧ w'.cell? ⟨w.heap.size, 10, none⟩ = some (.int .u64 (a.ttx : Int)) ∧ w'.cell? ⟨w.heap.size, 11, none⟩ = some (.int .u64 (a.tnum : Int))) ∧ (w'.cell? ⟨q, 0, none⟩ = some (.int .u8 (b.kind : Int)) ∧ w'.cell? ⟨q, 1, none⟩ = some (.int .u64 (b.tx : Int)) ∧ w'.cell? ⟨q, 2, none⟩ = some (.int .u64 (b.prev : Int)) ∧ w'.cell? ⟨q, 3, none⟩ = some (.int .u32 (b.page : Int)) ∧ w'.cell? ⟨q, 4, none⟩ = some (.int .u16 (b.slot : Int)) ∧ w'.cell? ⟨q, 5, none⟩ = some (.int .u64 (b.next : Int)) ∧ w'.cell? ⟨q, 6, none⟩ = some (.int .u64 (b.number : Int)) ∧ w'.cell? ⟨q, 7, none⟩ = some (.string b.body) ∧ w'.cell? ⟨q, 8, none⟩ = some (d') ∧ w'.cell? ⟨q, 9, none⟩ = some (t') ∧ w'.cell? ⟨q, 10, none⟩ = some (.int .u64 (b.ttx : Int)) ∧ w'.cell? ⟨q, 11, none⟩ = some (.int .u64 (b.tnum : Int)))) (first | exact ⟨T9.out.a.all, T9.out.b.all⟩ | exact ⟨T10.a.all, T10.b.all⟩ | exact ⟨T11.a.all, T11.b.all⟩ | exact ⟨T12.a.all, T12.b.all⟩ | exact ⟨T13.a.all, T13.b.all⟩ | exact ⟨T14.a.all, T14.b.all⟩ | exact ⟨T15.a.all, T15.b.all⟩ | exact ⟨T16.a.all, T16.b.all⟩ | exact ⟨T17.a.all, T17.b.all⟩)
        (first
          | (go_at_call 10; (with_reducible refine (KC1.out _ T13.a.below).mono ?_); rintro e w14 ⟨d5, t5, rfl, i5, c14⟩; have T14 := T13.later c14; clear c14)
          | (go_at_call 10; (with_reducible refine (KC1.out _ T9.out.a.below).mono ?_); rintro e w10 ⟨d3, t3, rfl, i3, c10⟩; have T10 := T9.out.later c10; clear c10)
          | (go_at_call 10; (with_reducible refine (KC2.out _ T10.a.below).mono ?_); rintro e w11 ⟨d4, t4, rfl, i4, c11⟩; have T11 := T10.later c11; have i6 := i3.later c11; clear c11 i3)
          | (go_at_call 14; (with_reducible refine (KS.out _ _ _ _ _ i6 i4).mono ?_); rintro e w12 ⟨rfl, c12⟩; have T12 := T11.later c12; clear c12 i6 i4)
          | (go_at_call 15; (with_reducible refine (KRS.out _ T12.a.below).mono ?_); rintro e w13 ⟨rfl, c13⟩; have T13 := T12.later c13; clear c13)
          | (go_at_call 14; (with_reducible refine (KSS.out _ _ _ T14.a.below i5).mono ?_); rintro e w15 ⟨rfl, c15⟩; have T15 := T14.later c15; clear c15 i5)
          | (go_at_call 16; (with_reducible refine (KU.out _).mono ?_); rintro e w16 ⟨rfl, c16⟩; have T16 := T15.later c16; clear c16)
          | (go_at_call 8; (with_reducible refine (works_any _).mono ?_); rintro e w17 ⟨rfl, c17⟩; have T17 := T16.later c17; clear c17))
      all_goals
        have BF := Lib.hid T17.a.below
        clear T9 T10 T11 T12 T13 T14 T15 T16 T17
        go_wp2_with fail
        go_ret
        exact ⟨rfl, BF.out⟩
    · have fk : ((a.kind : Int) == 2) = false := num_no hk
      have eU : U = false := by rw [EU.out, decide_eq_false hk, Bool.false_and]
      subst eU
      clear hk EU
      refine wp_region_noPanic ?_
      refine wp_region_held_drew (S := fun w' => (w'.cell? ⟨w.heap.size, 0, none⟩ = some (.int .u8 (a.kind : Int)) ∧ w'.cell? ⟨w.heap.size, 1, none⟩ = some (.int .u64 (a.tx : Int)) ∧ w'.cell? ⟨w.heap.size, 2, none⟩ = some (.int .u64 (a.prev : Int)) ∧ w'.cell? ⟨w.heap.size, 3, none⟩ = some (.int .u32 (a.page : Int)) ∧ w'.cell? ⟨w.heap.size, 4, none⟩ = some (.int .u16 (a.slot : Int)) ∧ w'.cell? ⟨w.heap.size, 5, none⟩ = some (.int .u64 (a.next : Int)) ∧ w'.cell? ⟨w.heap.size, 6, none⟩ = some (.int .u64 (a.number : Int)) ∧ w'.cell? ⟨w.heap.size, 7, none⟩ = some (.string a.body) ∧ w'.cell? ⟨w.heap.size, 8, none⟩ = some (d) ∧ w'.cell? ⟨w.heap.size, 9, none⟩ = some (t) ∧ w'.cell? ⟨w.heap.size, 10, none⟩ = some (.int .u64 (a.ttx : Int)) ∧ w'.cell? ⟨w.heap.size, 11, none⟩ = some (.int .u64 (a.tnum : Int))) ∧ (w'.cell? ⟨q, 0, none⟩ = some (.int .u8 (b.kind : Int)) ∧ w'.cell? ⟨q, 1, none⟩ = some (.int .u64 (b.tx : Int)) ∧ w'.cell? ⟨q, 2, none⟩ = some (.int .u64 (b.prev : Int)) ∧ w'.cell? ⟨q, 3, none⟩ = some (.int .u32 (b.page : Int)) ∧ w'.cell? ⟨q, 4, none⟩ = some (.int .u16 (b.slot : Int)) ∧ w'.cell? ⟨q, 5, none⟩ = some (.int .u64 (b.next : Int)) ∧ w'.cell? ⟨q, 6, none⟩ = some (.int .u64 (b.number : Int)) ∧ w'.cell? ⟨q, 7, none⟩ = some (.string b.body) ∧ w'.cell? ⟨q, 8, none⟩ = some (d') ∧ w'.cell? ⟨q, 9, none⟩ = some (t') ∧ w'.cell? ⟨q, 10, none⟩ = some (.int .u64 (b.ttx : Int)) ∧ w'.cell? ⟨q, 11, none⟩ = some (.int .u64 (b.tnum : Int)))) (by kernel_rfl) ⟨T9.out.a.all, T9.out.b.all⟩ (fun hHeld => ?_)
      refine wpAnyH_take (i := 0) (v := ?_) rfl (by kernel_rfl) (by kernel_rfl) (by kernel_rfl) (fun _ _ _ h => h) (Or.inl ⟨by rfl, ?_⟩) hHeld ?_
      rotate_left
      · (intro w hSw; (try dsimp only at hSw); go_simp; (try with_reducible rfl))
      simp only [List.getElem_toArray, List.getElem_cons_succ, List.getElem_cons_zero, Act.put, List.setIfInBounds_toArray, List.set_cons_zero, List.set_cons_succ]
      refine wpAnyH_take (i := 2) (v := ?_) rfl (by kernel_rfl) (by kernel_rfl) (by kernel_rfl) (fun _ _ _ h => h) (Or.inl ⟨by rfl, ?_⟩) hHeld ?_
      rotate_left
      · (intro w hSw; (try dsimp only at hSw); go_simp; (try with_reducible rfl))
      simp only [List.getElem_toArray, List.getElem_cons_succ, List.getElem_cons_zero, Act.put, List.setIfInBounds_toArray, List.set_cons_zero, List.set_cons_succ]
      refine wpAnyH_take (i := 5) (v := ?_) rfl (by kernel_rfl) (by kernel_rfl) (by kernel_rfl) (fun _ _ _ h => h) (Or.inl ⟨by rfl, ?_⟩) hHeld ?_
      rotate_left
      · (intro w hSw; (try dsimp only at hSw); go_simp; (try with_reducible rfl))
      simp only [List.getElem_toArray, List.getElem_cons_succ, List.getElem_cons_zero, Act.put, List.setIfInBounds_toArray, List.set_cons_zero, List.set_cons_succ]
      refine wpAnyH_take (i := 6) (v := ?_) rfl (by kernel_rfl) (by kernel_rfl) (by kernel_rfl) (fun _ _ _ h => h) (Or.inl ⟨by rfl, ?_⟩) hHeld ?_
      rotate_left
      · (intro w hSw; (try dsimp only at hSw); go_simp; (try with_reducible rfl))
      simp only [List.getElem_toArray, List.getElem_cons_succ, List.getElem_cons_zero, Act.put, List.setIfInBounds_toArray, List.set_cons_zero, List.set_cons_succ]
      refine wpAnyH_ready (rs := [1]) (by kernel_rfl) (by simp) (AllReadyH.cons rfl (fun K hK => ?_) AllReadyH.nil)
      refine step_fnW (by rfl) _ _ _ rfl 10 [] rfl _ Try.func10 (by kernel_rfl) (by kernel_rfl) (KC1.out _ T9.out.a.below) (by rfl) ?_
      rintro e w10 ⟨d3, t3, rfl, i3, c10⟩
      refine ⟨_, rfl, ?_⟩
      have T10 := T9.out.later c10; clear c10
      refine hK.out _ _ ⟨T10.a.all, T10.b.all⟩ (fun hHeld => ?_)
      clear hK K
      simp only [List.getElem_toArray, List.getElem_cons_succ, List.getElem_cons_zero, Act.put, List.setIfInBounds_toArray, List.set_cons_zero, List.set_cons_succ]
      refine wpAnyH_ready (rs := [3]) (by kernel_rfl) (by simp) (AllReadyH.cons rfl (fun K hK => ?_) AllReadyH.nil)
      refine step_fnW (by rfl) _ _ _ rfl 10 [] rfl _ Try.func10 (by kernel_rfl) (by kernel_rfl) (KC2.out _ T10.a.below) (by rfl) ?_
      rintro e w11 ⟨d4, t4, rfl, i4, c11⟩
      refine ⟨_, rfl, ?_⟩
      have T11 := T10.later c11; have i6 := i3.later c11; clear c11 i3
      refine hK.out _ _ ⟨T11.a.all, T11.b.all⟩ (fun hHeld => ?_)
      clear hK K
      simp only [List.getElem_toArray, List.getElem_cons_succ, List.getElem_cons_zero, Act.put, List.setIfInBounds_toArray, List.set_cons_zero, List.set_cons_succ]
      refine wpAnyH_ready (rs := [4]) (by kernel_rfl) (by simp) (AllReadyH.cons rfl (fun K hK => ?_) AllReadyH.nil)
      refine step_fnW (by rfl) _ _ _ rfl 14 [] rfl _ Try.func14 (by kernel_rfl) (by kernel_rfl) (KS.out _ _ _ _ _ i6 i4) (by rfl) ?_
      rintro e w12 ⟨rfl, c12⟩
      refine ⟨_, rfl, ?_⟩
      have T12 := T11.later c12; clear c12 i6 i4
      refine hK.out _ _ ⟨T12.a.all, T12.b.all⟩ (fun hHeld => ?_)
      clear hK K
      simp only [List.getElem_toArray, List.getElem_cons_succ, List.getElem_cons_zero, Act.put, List.setIfInBounds_toArray, List.set_cons_zero, List.set_cons_succ]
      refine wpAnyH_ready (rs := [7]) (by kernel_rfl) (by simp) (AllReadyH.cons rfl (fun K hK => ?_) AllReadyH.nil)
      refine step_fnW (by rfl) _ _ _ rfl 15 [] rfl _ Try.func15 (by kernel_rfl) (by kernel_rfl) (KRS.out _ T12.a.below) (by rfl) ?_
      rintro e w13 ⟨rfl, c13⟩
      refine ⟨_, rfl, ?_⟩
      have T13 := T12.later c13; clear c13
      refine hK.out _ _ ⟨T13.a.all, T13.b.all⟩ (fun hHeld => ?_)
      clear hK K
      simp only [List.getElem_toArray, List.getElem_cons_succ, List.getElem_cons_zero, Act.put, List.setIfInBounds_toArray, List.set_cons_zero, List.set_cons_succ]
      refine wpAnyH_take (i := 8) (v := ?_) rfl (by kernel_rfl) (by kernel_rfl) (by kernel_rfl) (fun _ _ _ h => h) (Or.inl ⟨by rfl, ?_⟩) hHeld ?_
      rotate_left
      · (intro w hSw; (try dsimp only at hSw); go_simp; (try with_reducible rfl))
      simp only [List.getElem_toArray, List.getElem_cons_succ, List.getElem_cons_zero, Act.put, List.setIfInBounds_toArray, List.set_cons_zero, List.set_cons_succ]
      refine wpAnyH_take (i := 9) (v := ?_) rfl (by kernel_rfl) (by kernel_rfl) (by kernel_rfl) (fun _ _ _ h => h) (Or.inl ⟨by rfl, ?_⟩) hHeld ?_
      rotate_left
      · (intro w hSw; (try dsimp only at hSw); go_simp; (try with_reducible rfl))
      simp only [List.getElem_toArray, List.getElem_cons_succ, List.getElem_cons_zero, Act.put, List.setIfInBounds_toArray, List.set_cons_zero, List.set_cons_succ]
      refine wpAnyH_take (i := 10) (v := ?_) rfl (by kernel_rfl) (by kernel_rfl) (by kernel_rfl) (fun _ _ _ h => h) (Or.inl ⟨by rfl, ?_⟩) hHeld ?_
      rotate_left
      · (intro w hSw; (try dsimp only at hSw); go_simp; (try with_reducible rfl))
      simp only [List.getElem_toArray, List.getElem_cons_succ, List.getElem_cons_zero, Act.put, List.setIfInBounds_toArray, List.set_cons_zero, List.set_cons_succ]
      refine wpAnyH_take (i := 11) (v := ?_) rfl (by kernel_rfl) (by kernel_rfl) (by kernel_rfl) (fun _ _ _ h => h) (Or.inl ⟨by rfl, ?_⟩) hHeld ?_
      rotate_left
      · (intro w hSw; (try dsimp only at hSw); go_simp; (try with_reducible rfl))
      simp only [List.getElem_toArray, List.getElem_cons_succ, List.getElem_cons_zero, Act.put, List.setIfInBounds_toArray, List.set_cons_zero, List.set_cons_succ]
      refine wpAnyH_ready (rs := [12]) (by kernel_rfl) (by simp) (AllReadyH.cons rfl (fun K hK => ?_) AllReadyH.nil)
      refine step_fnW (by rfl) _ _ _ rfl 10 [] rfl _ Try.func10 (by kernel_rfl) (by kernel_rfl) (KC1.out _ T13.a.below) (by rfl) ?_
      rintro e w14 ⟨d5, t5, rfl, i5, c14⟩
      refine ⟨_, rfl, ?_⟩
      have T14 := T13.later c14; clear c14
      refine hK.out _ _ ⟨T14.a.all, T14.b.all⟩ (fun hHeld => ?_)
      clear hK K
      simp only [List.getElem_toArray, List.getElem_cons_succ, List.getElem_cons_zero, Act.put, List.setIfInBounds_toArray, List.set_cons_zero, List.set_cons_succ]
      refine wpAnyH_ready (rs := [13]) (by kernel_rfl) (by simp) (AllReadyH.cons rfl (fun K hK => ?_) AllReadyH.nil)
      refine step_fnW (by rfl) _ _ _ rfl 14 [] rfl _ Try.func14 (by kernel_rfl) (by kernel_rfl) (KSS.out _ _ _ T14.a.below i5) (by rfl) ?_
      rintro e w15 ⟨rfl, c15⟩
      refine ⟨_, rfl, ?_⟩
      have T15 := T14.later c15; clear c15 i5
      refine hK.out _ _ ⟨T15.a.all, T15.b.all⟩ (fun hHeld => ?_)
      clear hK K
      simp only [List.getElem_toArray, List.getElem_cons_succ, List.getElem_cons_zero, Act.put, List.setIfInBounds_toArray, List.set_cons_zero, List.set_cons_succ]
      refine wpAnyH_take (i := 14) (v := ?_) rfl (by kernel_rfl) (by kernel_rfl) (by kernel_rfl) (fun _ _ _ h => h) (Or.inl ⟨by rfl, ?_⟩) hHeld ?_
      rotate_left
      · (intro w hSw; (try dsimp only at hSw); go_simp; (try with_reducible rfl))
      simp only [List.getElem_toArray, List.getElem_cons_succ, List.getElem_cons_zero, Act.put, List.setIfInBounds_toArray, List.set_cons_zero, List.set_cons_succ]
      refine wpAnyH_take (i := 15) (v := ?_) rfl (by kernel_rfl) (by kernel_rfl) (by kernel_rfl) (fun _ _ _ h => h) (Or.inl ⟨by rfl, ?_⟩) hHeld ?_
      rotate_left
      · (intro w hSw; (try dsimp only at hSw); go_simp; (try with_reducible rfl))
      simp only [List.getElem_toArray, List.getElem_cons_succ, List.getElem_cons_zero, Act.put, List.setIfInBounds_toArray, List.set_cons_zero, List.set_cons_succ]
      refine wpAnyH_take (i := 16) (v := ?_) rfl (by kernel_rfl) (by kernel_rfl) (by kernel_rfl) (fun _ _ _ h => h) (Or.inl ⟨by rfl, ?_⟩) hHeld ?_
      rotate_left
      · (intro w hSw; (try dsimp only at hSw); go_simp; (try with_reducible rfl))
      simp only [List.getElem_toArray, List.getElem_cons_succ, List.getElem_cons_zero, Act.put, List.setIfInBounds_toArray, List.set_cons_zero, List.set_cons_succ]
      refine wpAnyH_take (i := 18) (v := ?_) rfl (by kernel_rfl) (by kernel_rfl) (by kernel_rfl) (fun _ _ _ h => h) (Or.inl ⟨by rfl, ?_⟩) hHeld ?_
      rotate_left
      · (intro w hSw; (try dsimp only at hSw); go_simp; (try with_reducible rfl))
      simp only [List.getElem_toArray, List.getElem_cons_succ, List.getElem_cons_zero, Act.put, List.setIfInBounds_toArray, List.set_cons_zero, List.set_cons_succ]
      refine wpAnyH_take (i := 19) (v := ?_) rfl (by kernel_rfl) (by kernel_rfl) (by kernel_rfl) (fun _ _ _ h => h) (Or.inl ⟨by rfl, ?_⟩) hHeld ?_
      rotate_left
      · (intro w hSw; (try dsimp only at hSw); go_simp; (try with_reducible rfl))
      simp only [List.getElem_toArray, List.getElem_cons_succ, List.getElem_cons_zero, Act.put, List.setIfInBounds_toArray, List.set_cons_zero, List.set_cons_succ]
      refine wpAnyH_take (i := 20) (v := ?_) rfl (by kernel_rfl) (by kernel_rfl) (by kernel_rfl) (fun _ _ _ h => h) (Or.inl ⟨by rfl, ?_⟩) hHeld ?_
      rotate_left
      · (intro w hSw; (try dsimp only at hSw); go_simp; (try with_reducible rfl))
      simp only [List.getElem_toArray, List.getElem_cons_succ, List.getElem_cons_zero, Act.put, List.setIfInBounds_toArray, List.set_cons_zero, List.set_cons_succ]
      refine wpAnyH_ready (rs := [17]) (by kernel_rfl) (by simp) (AllReadyH.cons rfl (fun K hK => ?_) AllReadyH.nil)
      refine step_fnW (by rfl) _ _ _ rfl 16 [] rfl _ Try.func16 (by kernel_rfl) (by kernel_rfl) (KU.out _) (by rfl) ?_
      rintro e w16 ⟨rfl, c16⟩
      refine ⟨_, rfl, ?_⟩
      have T16 := T15.later c16; clear c16
      refine hK.out _ _ ⟨T16.a.all, T16.b.all⟩ (fun hHeld => ?_)
      clear hK K
      simp only [List.getElem_toArray, List.getElem_cons_succ, List.getElem_cons_zero, Act.put, List.setIfInBounds_toArray, List.set_cons_zero, List.set_cons_succ]
      refine wpAnyH_take (i := 21) (v := ?_) rfl (by kernel_rfl) (by kernel_rfl) (by kernel_rfl) (fun _ _ _ h => h) (Or.inl ⟨by rfl, ?_⟩) hHeld ?_
      rotate_left
      · (intro w hSw; (try dsimp only at hSw); go_simp; (try with_reducible rfl))
      simp only [List.getElem_toArray, List.getElem_cons_succ, List.getElem_cons_zero, Act.put, List.setIfInBounds_toArray, List.set_cons_zero, List.set_cons_succ]
      refine wpAnyH_ready (rs := [22]) (by kernel_rfl) (by simp) (AllReadyH.cons rfl (fun K hK => ?_) AllReadyH.nil)
      refine step_skip (by rfl) ?_
      refine hK.out _ _ ⟨T16.a.all, T16.b.all⟩ (fun hHeld => ?_)
      clear hK K
      simp only [List.getElem_toArray, List.getElem_cons_succ, List.getElem_cons_zero, Act.put, List.setIfInBounds_toArray, List.set_cons_zero, List.set_cons_succ]
      refine wpAnyH_ready (rs := [23]) (by kernel_rfl) (by simp) (AllReadyH.cons rfl (fun K hK => ?_) AllReadyH.nil)
      refine step_skip (by rfl) ?_
      refine hK.out _ _ ⟨T16.a.all, T16.b.all⟩ (fun hHeld => ?_)
      clear hK K
      simp only [List.getElem_toArray, List.getElem_cons_succ, List.getElem_cons_zero, Act.put, List.setIfInBounds_toArray, List.set_cons_zero, List.set_cons_succ]
      refine wpAnyH_ready (rs := [24]) (by kernel_rfl) (by simp) (AllReadyH.cons rfl (fun K hK => ?_) AllReadyH.nil)
      refine step_skip (by rfl) ?_
      refine hK.out _ _ ⟨T16.a.all, T16.b.all⟩ (fun hHeld => ?_)
      clear hK K
      simp only [List.getElem_toArray, List.getElem_cons_succ, List.getElem_cons_zero, Act.put, List.setIfInBounds_toArray, List.set_cons_zero, List.set_cons_succ]
      refine wpAnyH_ready (rs := [25]) (by kernel_rfl) (by simp) (AllReadyH.cons rfl (fun K hK => ?_) AllReadyH.nil)
      refine step_skip (by rfl) ?_
      refine hK.out _ _ ⟨T16.a.all, T16.b.all⟩ (fun hHeld => ?_)
      clear hK K
      simp only [List.getElem_toArray, List.getElem_cons_succ, List.getElem_cons_zero, Act.put, List.setIfInBounds_toArray, List.set_cons_zero, List.set_cons_succ]
      refine wpAnyH_take (i := 26) (v := ?_) rfl (by kernel_rfl) (by kernel_rfl) (by kernel_rfl) (fun _ _ _ h => h) (Or.inl ⟨by rfl, ?_⟩) hHeld ?_
      rotate_left
      · (intro w hSw; (try dsimp only at hSw); go_simp; (try with_reducible rfl))
      simp only [List.getElem_toArray, List.getElem_cons_succ, List.getElem_cons_zero, Act.put, List.setIfInBounds_toArray, List.set_cons_zero, List.set_cons_succ]
      refine wpAnyH_take (i := 27) (v := ?_) rfl (by kernel_rfl) (by kernel_rfl) (by kernel_rfl) (fun _ _ _ h => h) (Or.inl ⟨by rfl, ?_⟩) hHeld ?_
      rotate_left
      · (intro w hSw; (try dsimp only at hSw); go_simp; (try with_reducible rfl))
      simp only [List.getElem_toArray, List.getElem_cons_succ, List.getElem_cons_zero, Act.put, List.setIfInBounds_toArray, List.set_cons_zero, List.set_cons_succ]
      refine wpAnyH_take (i := 28) (v := ?_) rfl (by kernel_rfl) (by kernel_rfl) (by kernel_rfl) (fun _ _ _ h => h) (Or.inl ⟨by rfl, ?_⟩) hHeld ?_
      rotate_left
      · (intro w hSw; (try dsimp only at hSw); go_simp; (try with_reducible rfl))
      simp only [List.getElem_toArray, List.getElem_cons_succ, List.getElem_cons_zero, Act.put, List.setIfInBounds_toArray, List.set_cons_zero, List.set_cons_succ]
      refine wpAnyH_take (i := 29) (v := ?_) rfl (by kernel_rfl) (by kernel_rfl) (by kernel_rfl) (fun _ _ _ h => h) (Or.inl ⟨by rfl, ?_⟩) hHeld ?_
      rotate_left
      · (intro w hSw; (try dsimp only at hSw); go_simp; (try with_reducible rfl))
      simp only [List.getElem_toArray, List.getElem_cons_succ, List.getElem_cons_zero, Act.put, List.setIfInBounds_toArray, List.set_cons_zero, List.set_cons_succ]
      refine wpAnyH_ready (rs := [30]) (by kernel_rfl) (by simp) (AllReadyH.cons rfl (fun K hK => ?_) AllReadyH.nil)
      refine step_fnW (by rfl) _ _ _ rfl 8 [] rfl _ Try.func8 (by kernel_rfl) (by kernel_rfl) (works_any _) (by rfl) ?_
      rintro e w17 ⟨rfl, c17⟩
      refine ⟨_, rfl, ?_⟩
      have T17 := T16.later c17; clear c17
      refine hK.out _ _ ⟨T17.a.all, T17.b.all⟩ (fun hHeld => ?_)
      clear hK K
      simp only [List.getElem_toArray, List.getElem_cons_succ, List.getElem_cons_zero, Act.put, List.setIfInBounds_toArray, List.set_cons_zero, List.set_cons_succ]
      refine wpAnyH_take (i := 31) (v := ?_) rfl (by kernel_rfl) (by kernel_rfl) (by kernel_rfl) (fun _ _ _ h => h) (Or.inl ⟨by rfl, ?_⟩) hHeld ?_
      rotate_left
      · (intro w hSw; (try dsimp only at hSw); go_simp; (try with_reducible rfl))
      simp only [List.getElem_toArray, List.getElem_cons_succ, List.getElem_cons_zero, Act.put, List.setIfInBounds_toArray, List.set_cons_zero, List.set_cons_succ]
      refine wpAnyH_take (i := 32) (v := ?_) rfl (by kernel_rfl) (by kernel_rfl) (by kernel_rfl) (fun _ _ _ h => h) (Or.inl ⟨by rfl, ?_⟩) hHeld ?_
      rotate_left
      · (intro w hSw; (try dsimp only at hSw); go_simp; (try with_reducible rfl))
      simp only [List.getElem_toArray, List.getElem_cons_succ, List.getElem_cons_zero, Act.put, List.setIfInBounds_toArray, List.set_cons_zero, List.set_cons_succ]
      refine wpAnyH_done (by kernel_rfl) ?_ _
      refine NoPanic.normal ?_
      all_goals
        have BF := Lib.hid T17.a.below
        clear T9 T10 T11 T12 T13 T14 T15 T16 T17
        go_wp2_with fail
        go_ret
        exact ⟨rfl, BF.out⟩

end Go.Proofs.Ytadhophiannigaa.Rec
