/- Walks: a record's bytes. -/
import Derived.Test.YtadhophiannigaaCW7
namespace Go.Proofs.Ytadhophiannigaa.Rec
open Go.RowKit
attribute [local go_sem ↓] Go.wp_at_zero Go.wp_at_succ

/-- what a kind's record has ahead of its body -/
theorem pt_pats (r : Rc) : (ptOf r.kind).roll = decide (r.kind = 2) ∧ (ptOf r.kind).next = decide (r.kind = 3) ∧ (ptOf r.kind).number = decide (r.kind = 4) ∧ (ptOf r.kind).tables = decide (r.kind = 8) := by
  unfold ptOf
  by_cases h1 : r.kind = 1
  · rw [if_pos h1]; simp [h1]
  rw [if_neg h1]
  by_cases h5 : r.kind = 5
  · rw [if_pos h5]; simp [h5]
  rw [if_neg h5]
  by_cases h2 : r.kind = 2
  · rw [if_pos h2]; simp [h2]
  rw [if_neg h2]
  by_cases h3 : r.kind = 3
  · rw [if_pos h3]; simp [h3]
  rw [if_neg h3]
  by_cases h4 : r.kind = 4
  · rw [if_pos h4]; simp [h4]
  rw [if_neg h4]
  by_cases h6 : r.kind = 6
  · rw [if_pos h6]; simp [h6]
  rw [if_neg h6]
  by_cases h7 : r.kind = 7
  · rw [if_pos h7]; simp [h7]
  rw [if_neg h7]
  by_cases h8 : r.kind = 8
  · rw [if_pos h8]; simp [h8]
  rw [if_neg h8]
  simp [h2, h3, h4, h8]

set_option maxRecDepth 100000 in
set_option maxHeartbeats 1000000 in
theorem encode_no {w : World} {r : Rc} {d t : Value} (h : InR w r d t) (hm : mayC r = false) :
    Calls Try.prog 9 #[recV r d t] w fun e w' => e = .returned (.tuple #[.string ⟨#[]⟩, .int .i64 2]) ∧ Below w.heap.size w w' := by
  have T0 := Lib.hid (Bx.start w r d t)
  have K := Lib.hid (by have := may_any (h.later T0.out.below); rw [hm] at this; exact this)
  clear h hm
  obtain ⟨a0, a1, a2, a3, a4, a5, a6, a7, a8, a9, a10, a11⟩ := T0.out.all
  unfold recV recC at *
  go_enter Try.func9, Try.ntmps9
  go_wp2_with fail
  refine K.out.mono ?_
  rintro e w1 ⟨rfl, b⟩
  have B1 := Lib.hid (T0.out.later b).below
  clear b T0 K a0 a1 a2 a3 a4 a5 a6 a7 a8 a9 a10 a11
  go_wp2_with fail
  go_ret2
  exact ⟨rfl, B1.out⟩

set_option maxRecDepth 100000 in
set_option maxHeartbeats 4000000 in
theorem encode_yes {w : World} {r : Rc} {d t : Value} (h : InR w r d t) (hm : mayC r = true) :
    Calls Try.prog 9 #[recV r d t] w fun e w' => e = .returned (.tuple #[.string (encS r), .int .i64 0]) ∧ Below w.heap.size w w' := by
  obtain ⟨l1, l2, l3⟩ := may_lens hm
  have PP := Lib.hid (pt_pats r)
  have T0 := Lib.hid (Bx.start w r d t)
  have K := Lib.hid (by have := may_any (h.later T0.out.below); rw [hm] at this; exact this)
  have KP := Lib.hid (fun W => parts_any r.kind W h.wf.kind)
  have K1 := Lib.hid (fun W => (show Calls Try.prog 20 #[.int .u64 (r.kind : Int), .int .i64 1] W fun e w' => e = .returned (.string (nb 1 r.kind)) ∧ Below W.heap.size W w' from number_any r.kind 1 W (by decide) (by decide) (by have := h.wf.kind; omega)))
  have K2 := Lib.hid (wide2_any r.tx r.prev h.wf.tx h.wf.prev)
  have K3 := Lib.hid (fun W => (show Calls Try.prog 20 #[.int .u64 (r.page : Int), .int .i64 4] W fun e w' => e = .returned (.string (nb 4 r.page)) ∧ Below W.heap.size W w' from number_any r.page 4 W (by decide) (by decide) (by have := h.wf.page; omega)))
  have K4 := Lib.hid (fun W => (show Calls Try.prog 20 #[.int .u64 (r.slot : Int), .int .i64 2] W fun e w' => e = .returned (.string (nb 2 r.slot)) ∧ Below W.heap.size W w' from number_any r.slot 2 W (by decide) (by decide) (by have := h.wf.slot; omega)))
  have K5 := Lib.hid (wide1_any r.next h.wf.next)
  have K6 := Lib.hid (wide1_any r.number h.wf.number)
  have K7 := Lib.hid (fun W (b : Below w.heap.size w W) => tab_any (h.later b) (by omega) (by omega))
  have e : encS r = nb 1 r.kind ++ (nb 8 r.tx ++ nb 8 r.prev) ++ midS r ++ r.body := by unfold encS; rw [if_pos hm]; rfl
  have em : midS r = if r.kind = 2 then nb 4 r.page ++ nb 2 r.slot else if r.kind = 3 then nb 8 r.next else if r.kind = 4 then nb 8 r.number else if r.kind = 8 then tabS r else ⟨#[]⟩ := rfl
  have qk : IntKind.u64.wrap (r.kind : Int) = r.kind := by have := h.wf.kind; rw [IntKind.wrap_u64]; omega
  have qp : IntKind.u64.wrap (r.page : Int) = r.page := by have := h.wf.page; rw [IntKind.wrap_u64]; omega
  have qs : IntKind.u64.wrap (r.slot : Int) = r.slot := by have := h.wf.slot; rw [IntKind.wrap_u64]; omega
  have z1 := nb_size 1 r.kind
  have z2 : (nb 8 r.tx ++ nb 8 r.prev).size = 16 := by rw [ByteArray.size_append, nb_size, nb_size]
  have z3 := nb_size 4 r.page
  have z4 := nb_size 2 r.slot
  have z5 := nb_size 8 r.next
  have z6 := nb_size 8 r.number
  have z7 : (tabS r).size ≤ 3000 := by rw [tab_size]; omega
  clear h hm l1 l2
  obtain ⟨a0, a1, a2, a3, a4, a5, a6, a7, a8, a9, a10, a11⟩ := T0.out.all
  generalize encS r = res at *
  generalize midS r = mid at *
  generalize nb 1 r.kind = A1 at *
  generalize nb 8 r.tx ++ nb 8 r.prev = A2 at *
  generalize nb 4 r.page = A3 at *
  generalize nb 2 r.slot = A4 at *
  generalize nb 8 r.next = A5 at *
  generalize nb 8 r.number = A6 at *
  generalize tabS r = A7 at *
  generalize ptOf r.kind = p at *
  have E := Lib.hid e
  have EM := Lib.hid em
  have s1 := small (x := A1.size) (y := A2.size) (by omega)
  obtain ⟨H, hH⟩ : ∃ H, H = A1 ++ A2 := ⟨_, rfl⟩
  have zh : H.size = 17 := by rw [hH, ByteArray.size_append]; omega
  have s2 := small (x := A3.size) (y := A4.size) (by omega)
  have s3 := small (x := H.size) (y := A3.size + A4.size) (by omega)
  have s4 := small (x := H.size) (y := A5.size) (by omega)
  have s5 := small (x := H.size) (y := A6.size) (by omega)
  have s6 := small (x := H.size) (y := A7.size) (by omega)
  have t3 := small (x := H.size + (A3.size + A4.size)) (y := r.body.size) (by omega)
  have t4 := small (x := H.size + A5.size) (y := r.body.size) (by omega)
  have t5 := small (x := H.size + A6.size) (y := r.body.size) (by omega)
  have t6 := small (x := H.size + A7.size) (y := r.body.size) (by omega)
  have t7 := small (x := H.size) (y := r.body.size) (by omega)
  clear e em z1 z2 z3 z4 z5 z6 z7 zh l3
  unfold recV recC tabV tabC ptV ptC at *
  go_enter Try.func9, Try.ntmps9
  go_wp2_with fail
  refine K.out.mono ?_
  rintro e w1 ⟨rfl, b⟩
  have T1 := Lib.hid (T0.out.later b)
  clear b T0 K a0 a1 a2 a3 a4 a5 a6 a7 a8 a9 a10 a11
  obtain ⟨a0, a1, a2, a3, a4, a5, a6, a7, a8, a9, a10, a11⟩ := T1.out.all
  go_wp2_with fail
  refine (KP.out _).mono ?_
  rintro e w2 ⟨rfl, b⟩
  have T2 := Lib.hid (T1.out.later b)
  clear b T1 KP a0 a1 a2 a3 a4 a5 a6 a7 a8 a9 a10 a11
  obtain ⟨a0, a1, a2, a3, a4, a5, a6, a7, a8, a9, a10, a11⟩ := T2.out.all
  go_upto_region 4 with fail
  have T3 := Lib.hid (show Rp w (w2.alloc (.cells (ptC p) 49)) w.heap.size w2.heap.size r d t p from ⟨T2.out.later (below_new _ _), Px.make p T2.out.below⟩)
  unfold ptC at T3
  generalize hg : w.heap.size = g at *
  generalize hq : w2.heap.size = q at *
  clear T2 a0 a1 a2 a3 a4 a5 a6 a7 a8 a9 a10 a11 hq
  generalize w2.alloc _ = W2 at *
  go_cut [5] (fun s wx => s = .string H ∧ Rp w wx g q r d t p)
  case first =>
    have T4 := Lib.hid (T3.out.later ((Below.refl _ _).drew))
    clear T3
    go_region_held3 (fun w' => (w'.cell? ⟨g, 0, none⟩ = some (.int .u8 (r.kind : Int)) ∧ w'.cell? ⟨g, 1, none⟩ = some (.int .u64 (r.tx : Int)) ∧ w'.cell? ⟨g, 2, none⟩ = some (.int .u64 (r.prev : Int)) ∧ w'.cell? ⟨g, 3, none⟩ = some (.int .u32 (r.page : Int)) ∧ w'.cell? ⟨g, 4, none⟩ = some (.int .u16 (r.slot : Int)) ∧ w'.cell? ⟨g, 5, none⟩ = some (.int .u64 (r.next : Int)) ∧ w'.cell? ⟨g, 6, none⟩ = some (.int .u64 (r.number : Int)) ∧ w'.cell? ⟨g, 7, none⟩ = some (.string r.body) ∧ w'.cell? ⟨g, 8, none⟩ = some (d) ∧ w'.cell? ⟨g, 9, none⟩ = some (t) ∧ w'.cell? ⟨g, 10, none⟩ = some (.int .u64 (r.ttx : Int)) ∧ w'.cell? ⟨g, 11, none⟩ = some (.int .u64 (r.tnum : Int)))) (first | exact T4.out.a.all | exact T5.a.all | exact (T4.out.later (below_new _ _)).a.all | exact (T5.later (below_new _ _)).a.all | exact T6.a.all)
      (first
        | (go_at_call 20; refine (K1.out _).mono ?_; rintro e w3 ⟨rfl, b2⟩; (first | have T5 := T4.out.later b2 | have T5 := (T4.out.later (below_new _ _)).later b2))
        | (go_at_call 21; refine (K2.out _ _ ?_).mono ?_; (first | exact heap_alloc_new _ _ | exact new_drew _ _ | exact kept b2 | exact kept_drew b2); rintro e w4 ⟨rfl, b3⟩; (first | have T6 := T5.later b3 | have T6 := (T5.later (below_new _ _)).later b3)))
    all_goals
      go_wp2_with fail
      go_meet
      exact ⟨by rw [hH], T6⟩
  case rest =>
    obtain ⟨rfl, T4⟩ := hcut
    rename_i wx _
    have T5 := Lib.hid T4
    clear T3 T4 K1 K2
    obtain ⟨owned, nobodys, roll, pnext, pnumber, pbody, tables⟩ := p
    have e := E.out
    rw [← hH] at e
    have E2 := Lib.hid e
    clear e E hH s1
    obtain ⟨p1, p2, p3, p4⟩ := PP.out
    simp only at p1 p2 p3 p4
    obtain ⟨a0, a1, a2, a3, a4, a5, a6, a7, a8, a9, a10, a11⟩ := T5.out.a.all
    obtain ⟨b0, b1, b2, b3, b4, b5, b6⟩ := T5.out.b.all
    simp only at b0 b1 b2 b3 b4 b5 b6
    by_cases h2 : r.kind = 2
    · have e := EM.out
      rw [if_pos h2] at e
      subst e
      rw [decide_eq_true h2] at p1
      rw [decide_eq_false (by omega)] at p2 p3 p4
      subst p1 p2 p3 p4
      clear h2 EM PP K5 K6 K7
      go_wp2_with fail
      clear a0 a1 a2 a3 a4 a5 a6 a7 a8 a9 a10 a11 b0 b1 b2 b3 b4 b5 b6
      have T6 := Lib.hid (T5.out.later ((Below.refl _ _).drew))
      clear T5
      go_region_held3 (fun w' => (w'.cell? ⟨g, 0, none⟩ = some (.int .u8 (r.kind : Int)) ∧ w'.cell? ⟨g, 1, none⟩ = some (.int .u64 (r.tx : Int)) ∧ w'.cell? ⟨g, 2, none⟩ = some (.int .u64 (r.prev : Int)) ∧ w'.cell? ⟨g, 3, none⟩ = some (.int .u32 (r.page : Int)) ∧ w'.cell? ⟨g, 4, none⟩ = some (.int .u16 (r.slot : Int)) ∧ w'.cell? ⟨g, 5, none⟩ = some (.int .u64 (r.next : Int)) ∧ w'.cell? ⟨g, 6, none⟩ = some (.int .u64 (r.number : Int)) ∧ w'.cell? ⟨g, 7, none⟩ = some (.string r.body) ∧ w'.cell? ⟨g, 8, none⟩ = some (d) ∧ w'.cell? ⟨g, 9, none⟩ = some (t) ∧ w'.cell? ⟨g, 10, none⟩ = some (.int .u64 (r.ttx : Int)) ∧ w'.cell? ⟨g, 11, none⟩ = some (.int .u64 (r.tnum : Int)))) (first | exact T6.out.a.all | exact T7.a.all | exact T8.a.all)
        (first
          | (go_at_call 20; (with_reducible refine (K3.out _).mono ?_); rintro e w3 ⟨rfl, c1⟩; have T7 := T6.out.later c1; clear c1)
          | (go_at_call 20; (with_reducible refine (K4.out _).mono ?_); rintro e w4 ⟨rfl, c1⟩; have T8 := T7.later c1; clear c1))
      have T9 := Lib.hid T8
      clear T6 T7 T8 K3 K4
      obtain ⟨a0, a1, a2, a3, a4, a5, a6, a7, a8, a9, a10, a11⟩ := T9.out.a.all
      obtain ⟨b0, b1, b2, b3, b4, b5, b6⟩ := T9.out.b.all
      simp only at b0 b1 b2 b3 b4 b5 b6
      go_wp2_with fail
      go_ret2
      exact ⟨by rw [E2.out]; rfl, T9.out.a.below⟩
    by_cases h3 : r.kind = 3
    · have e := EM.out
      rw [if_neg h2, if_pos h3] at e
      subst e
      rw [decide_eq_true h3] at p2
      rw [decide_eq_false (by omega)] at p1 p3 p4
      subst p1 p2 p3 p4
      clear h2 h3 EM PP K3 K4 K6 K7
      go_wp2_with fail
      refine (K5.out _ _ ?_).mono ?_
      · first | exact heap_alloc_new _ _ | exact new_drew _ _
      rintro e w3 ⟨rfl, c1⟩
      have T6 := Lib.hid ((T5.out.later (below_new _ _)).later c1)
      clear a0 a1 a2 a3 a4 a5 a6 a7 a8 a9 a10 a11 b0 b1 b2 b3 b4 b5 b6 T5 c1 K5
      obtain ⟨a0, a1, a2, a3, a4, a5, a6, a7, a8, a9, a10, a11⟩ := T6.out.a.all
      obtain ⟨b0, b1, b2, b3, b4, b5, b6⟩ := T6.out.b.all
      simp only at b0 b1 b2 b3 b4 b5 b6
      go_wp2_with fail
      go_ret2
      exact ⟨by rw [E2.out]; rfl, T6.out.a.below⟩
    by_cases h4 : r.kind = 4
    · have e := EM.out
      rw [if_neg h2, if_neg h3, if_pos h4] at e
      subst e
      rw [decide_eq_true h4] at p3
      rw [decide_eq_false (by omega)] at p1 p2 p4
      subst p1 p2 p3 p4
      clear h2 h3 h4 EM PP K3 K4 K5 K7
      go_wp2_with fail
      refine (K6.out _ _ ?_).mono ?_
      · first | exact heap_alloc_new _ _ | exact new_drew _ _
      rintro e w3 ⟨rfl, c1⟩
      have T6 := Lib.hid ((T5.out.later (below_new _ _)).later c1)
      clear a0 a1 a2 a3 a4 a5 a6 a7 a8 a9 a10 a11 b0 b1 b2 b3 b4 b5 b6 T5 c1 K6
      obtain ⟨a0, a1, a2, a3, a4, a5, a6, a7, a8, a9, a10, a11⟩ := T6.out.a.all
      obtain ⟨b0, b1, b2, b3, b4, b5, b6⟩ := T6.out.b.all
      simp only at b0 b1 b2 b3 b4 b5 b6
      go_wp2_with fail
      go_ret2
      exact ⟨by rw [E2.out]; rfl, T6.out.a.below⟩
    by_cases h8 : r.kind = 8
    · have e := EM.out
      rw [if_neg h2, if_neg h3, if_neg h4, if_pos h8] at e
      subst e
      rw [decide_eq_true h8] at p4
      rw [decide_eq_false (by omega)] at p1 p2 p3
      subst p1 p2 p3 p4
      clear h2 h3 h4 h8 EM PP K3 K4 K5 K6
      go_wp2_with fail
      refine (K7.out _ (by have q := T5.out.a.below; rw [hg] at q; exact q)).mono ?_
      rintro e w3 ⟨rfl, c1⟩
      have T6 := Lib.hid (T5.out.later c1)
      clear a0 a1 a2 a3 a4 a5 a6 a7 a8 a9 a10 a11 b0 b1 b2 b3 b4 b5 b6 T5 c1 K7
      obtain ⟨a0, a1, a2, a3, a4, a5, a6, a7, a8, a9, a10, a11⟩ := T6.out.a.all
      go_wp2_with fail
      go_ret2
      exact ⟨by rw [E2.out]; rfl, T6.out.a.below⟩
    · have e := EM.out
      rw [if_neg h2, if_neg h3, if_neg h4, if_neg h8] at e
      rw [e, no_right] at E2
      clear e
      rw [decide_eq_false h2] at p1
      rw [decide_eq_false h3] at p2
      rw [decide_eq_false h4] at p3
      rw [decide_eq_false h8] at p4
      subst p1 p2 p3 p4
      clear h2 h3 h4 h8 EM PP K3 K4 K5 K6 K7
      go_wp2_with fail
      go_ret2
      exact ⟨by rw [E2.out]; rfl, T5.out.a.below⟩

theorem encode_any {w : World} {r : Rc} {d t : Value} (h : InR w r d t) :
    Calls Try.prog 9 #[recV r d t] w fun e w' => e = .returned (.tuple #[.string (encS r), .int .i64 (encE r)]) ∧ Below w.heap.size w w' := by
  cases hm : mayC r with
  | true =>
    have e : encE r = 0 := by unfold encE; rw [if_pos hm]
    rw [e]
    exact encode_yes h hm
  | false =>
    have e : encE r = 2 := by unfold encE; rw [if_neg (by rw [hm]; decide)]
    have e2 : encS r = ⟨#[]⟩ := by unfold encS; rw [if_neg (by rw [hm]; decide)]
    rw [e, e2]
    exact encode_no h hm

end Go.Proofs.Ytadhophiannigaa.Rec
