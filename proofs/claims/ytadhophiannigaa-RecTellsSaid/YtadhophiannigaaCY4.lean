/- Walks: which records may be, in the document. -/
import Derived.Test.YtadhophiannigaaCY3
namespace Go.Proofs.Ytadhophiannigaa.Rec
open Go.RowKit
attribute [local go_sem ↓] Go.wp_at_zero Go.wp_at_succ

/-- a record, and another one that is changed -/
structure Rm (W0 w : World) (g q : Nat) (a : Rc) (d t : Value) (b : Rc) (d' t' : Value) : Prop where
  a : Bx W0 w g a d t
  b : Bx W0 w q b d' t'
  ne : g ≠ q
  ge : W0.heap.size ≤ q
theorem Rm.later {W0 w w' : World} {g q : Nat} {a b : Rc} {d t d' t' : Value} (h : Rm W0 w g q a d t b d' t') (c : Below w.heap.size w w') : Rm W0 w' g q a d t b d' t' := ⟨h.a.later c, h.b.later c, h.ne, h.ge⟩
theorem Rm.part {W0 w : World} {g q : Nat} {a b b' : Rc} {d t d' t' d2 t2 : Value} (h : Rm W0 w g q a d t b d' t') (j : Nat) (v : Value) (e : (recC b d' t').setIfInBounds j v = recC b' d2 t2) : Rm W0 (w.setCell ⟨q, j, none⟩ v) g q a d t b' d2 t2 :=
  ⟨⟨(heap_setCell_other _ _ _ _ (show g ≠ q from h.ne)).trans h.a.box, h.a.below.setCell h.ge _⟩, h.b.part h.ge j v e, h.ne, h.ge⟩
theorem Rm.start (w : World) (r : Rc) (d t : Value) : Rm w ((w.alloc (.cells (recC r d t) 32)).alloc (.cells (recC r d t) 32)) w.heap.size (w.heap.size + 1) r d t r d t := by
  have h := R2.start w r r d t d t
  exact ⟨h.a, h.b, by omega, by omega⟩

set_option maxRecDepth 100000 in
set_option maxHeartbeats 4000000 in
theorem rmay1 {w : World} {tx prev page slot next number ttx tnum : Nat} {body : ByteArray} {dirty : List Di} {txns : List Ac} {d t : Value} (h : InR w ⟨1, tx, prev, page, slot, next, number, body, dirty, txns, ttx, tnum⟩ d t) :
    Calls Try.prog 12 #[recV ⟨1, tx, prev, page, slot, next, number, body, dirty, txns, ttx, tnum⟩ d t] w fun e w' => e = .returned (.bool (rmayC ⟨1, tx, prev, page, slot, next, number, body, dirty, txns, ttx, tnum⟩)) ∧ Below w.heap.size w w' := by
  have T0 := Lib.hid (Rm.start w ⟨1, tx, prev, page, slot, next, number, body, dirty, txns, ttx, tnum⟩ d t)
  have KB := Lib.hid (fun W => body_any body W h.wf.body)
  have KT := Lib.hid (fun W (B : Below w.heap.size w W) => (show Calls Try.prog 25 #[.agg #[d, t, .int .u64 (ttx : Int), .int .u64 (tnum : Int)]] W fun e w' => e = .returned (.bool (okTab ⟨1, tx, prev, page, slot, next, number, body, dirty, txns, ttx, tnum⟩)) ∧ Below W.heap.size W w' from rtables_any (h.later B)))
  have KP := Lib.hid (fun W (B : Below w.heap.size w W) => (show Calls Try.prog 26 #[recV ⟨1, tx, prev, page, slot, next, number, body, dirty, txns, ttx, tnum⟩ d t] W fun e w' => e = .returned (.bool (plainC ⟨1, tx, prev, page, slot, next, number, body, dirty, txns, ttx, tnum⟩)) ∧ Below W.heap.size W w' from plain_any (h.later B)))
  have e : rmayC ⟨1, tx, prev, page, slot, next, number, body, dirty, txns, ttx, tnum⟩ = (true && (plainC ⟨1, tx, prev, page, slot, next, number, body, dirty, txns, ttx, tnum⟩ && decide (0 < tx))) := rfl
  obtain ⟨ad, cc, ed⟩ := h.di.form
  obtain ⟨ad2, cc2, et⟩ := h.ac.form
  clear h
  subst ed et
  generalize rmayC _ = res at *
  generalize plainC _ = c1 at *
  have E := Lib.hid e
  clear e
  have E2 := Lib.hid (show res = (c1 && decide (0 < tx)) by rw [E.out, Bool.true_and])
  clear E KB KT
  obtain ⟨a0, a1, a2, a3, a4, a5, a6, a7, a8, a9, a10, a11⟩ := T0.out.a.all
  obtain ⟨b0, b1, b2, b3, b4, b5, b6, b7, b8, b9, b10, b11⟩ := T0.out.b.all
  simp only at a0 a1 a2 a3 a4 a5 a6 a7 a8 a9 a10 a11 b0 b1 b2 b3 b4 b5 b6 b7 b8 b9 b10 b11
  unfold recV recC at *
  simp only at KP
  generalize hg0 : w.heap.size + 1 = q at T0 a0 a1 a2 a3 a4 a5 a6 a7 a8 a9 a10 a11 b0 b1 b2 b3 b4 b5 b6 b7 b8 b9 b10 b11
  go_enter Try.func12, Try.ntmps12
  go_wp2_with fail
  refine (KP.out _ T0.out.b.below).mono ?_
  rintro e wp ⟨rfl, bp⟩
  have TP := Lib.hid (T0.out.later bp)
  have BW := Lib.hid TP.out.a.below
  clear bp T0 KP a0 a1 a2 a3 a4 a5 a6 a7 a8 a9 a10 a11 b0 b1 b2 b3 b4 b5 b6 b7 b8 b9 b10 b11
  obtain ⟨a0, a1, a2, a3, a4, a5, a6, a7, a8, a9, a10, a11⟩ := TP.out.a.all
  obtain ⟨b0, b1, b2, b3, b4, b5, b6, b7, b8, b9, b10, b11⟩ := TP.out.b.all
  simp only at a0 a1 a2 a3 a4 a5 a6 a7 a8 a9 a10 a11 b0 b1 b2 b3 b4 b5 b6 b7 b8 b9 b10 b11
  cases c1 with
  | false =>
    have EE := Lib.hid (show res = false by rw [E2.out]; simp)
    clear E2
    go_wp2_with fail
    all_goals
      go_ret
      exact ⟨ret_bool (by rw [EE.out]; try (rw [Bool.eq_iff_iff]; first | rfl | (simp; done) | (simp; omega))), BW.out⟩
  | true =>
    have EE := Lib.hid (show res = (decide (0 < tx)) by rw [E2.out]; simp)
    clear E2
    go_wp2_with fail
    all_goals
      go_ret
      exact ⟨ret_bool (by rw [EE.out]; try (rw [Bool.eq_iff_iff]; first | rfl | (simp; done) | (simp; omega))), BW.out⟩


set_option maxRecDepth 100000 in
set_option maxHeartbeats 4000000 in
theorem rmay5 {w : World} {tx prev page slot next number ttx tnum : Nat} {body : ByteArray} {dirty : List Di} {txns : List Ac} {d t : Value} (h : InR w ⟨5, tx, prev, page, slot, next, number, body, dirty, txns, ttx, tnum⟩ d t) :
    Calls Try.prog 12 #[recV ⟨5, tx, prev, page, slot, next, number, body, dirty, txns, ttx, tnum⟩ d t] w fun e w' => e = .returned (.bool (rmayC ⟨5, tx, prev, page, slot, next, number, body, dirty, txns, ttx, tnum⟩)) ∧ Below w.heap.size w w' := by
  have T0 := Lib.hid (Rm.start w ⟨5, tx, prev, page, slot, next, number, body, dirty, txns, ttx, tnum⟩ d t)
  have KB := Lib.hid (fun W => body_any body W h.wf.body)
  have KT := Lib.hid (fun W (B : Below w.heap.size w W) => (show Calls Try.prog 25 #[.agg #[d, t, .int .u64 (ttx : Int), .int .u64 (tnum : Int)]] W fun e w' => e = .returned (.bool (okTab ⟨5, tx, prev, page, slot, next, number, body, dirty, txns, ttx, tnum⟩)) ∧ Below W.heap.size W w' from rtables_any (h.later B)))
  have KP := Lib.hid (fun W (B : Below w.heap.size w W) => (show Calls Try.prog 26 #[recV ⟨5, tx, prev, page, slot, next, number, body, dirty, txns, ttx, tnum⟩ d t] W fun e w' => e = .returned (.bool (plainC ⟨5, tx, prev, page, slot, next, number, body, dirty, txns, ttx, tnum⟩)) ∧ Below W.heap.size W w' from plain_any (h.later B)))
  have e : rmayC ⟨5, tx, prev, page, slot, next, number, body, dirty, txns, ttx, tnum⟩ = (true && (plainC ⟨5, tx, prev, page, slot, next, number, body, dirty, txns, ttx, tnum⟩ && decide (0 < tx))) := rfl
  obtain ⟨ad, cc, ed⟩ := h.di.form
  obtain ⟨ad2, cc2, et⟩ := h.ac.form
  clear h
  subst ed et
  generalize rmayC _ = res at *
  generalize plainC _ = c1 at *
  have E := Lib.hid e
  clear e
  have E2 := Lib.hid (show res = (c1 && decide (0 < tx)) by rw [E.out, Bool.true_and])
  clear E KB KT
  obtain ⟨a0, a1, a2, a3, a4, a5, a6, a7, a8, a9, a10, a11⟩ := T0.out.a.all
  obtain ⟨b0, b1, b2, b3, b4, b5, b6, b7, b8, b9, b10, b11⟩ := T0.out.b.all
  simp only at a0 a1 a2 a3 a4 a5 a6 a7 a8 a9 a10 a11 b0 b1 b2 b3 b4 b5 b6 b7 b8 b9 b10 b11
  unfold recV recC at *
  simp only at KP
  generalize hg0 : w.heap.size + 1 = q at T0 a0 a1 a2 a3 a4 a5 a6 a7 a8 a9 a10 a11 b0 b1 b2 b3 b4 b5 b6 b7 b8 b9 b10 b11
  go_enter Try.func12, Try.ntmps12
  go_wp2_with fail
  refine (KP.out _ T0.out.b.below).mono ?_
  rintro e wp ⟨rfl, bp⟩
  have TP := Lib.hid (T0.out.later bp)
  have BW := Lib.hid TP.out.a.below
  clear bp T0 KP a0 a1 a2 a3 a4 a5 a6 a7 a8 a9 a10 a11 b0 b1 b2 b3 b4 b5 b6 b7 b8 b9 b10 b11
  obtain ⟨a0, a1, a2, a3, a4, a5, a6, a7, a8, a9, a10, a11⟩ := TP.out.a.all
  obtain ⟨b0, b1, b2, b3, b4, b5, b6, b7, b8, b9, b10, b11⟩ := TP.out.b.all
  simp only at a0 a1 a2 a3 a4 a5 a6 a7 a8 a9 a10 a11 b0 b1 b2 b3 b4 b5 b6 b7 b8 b9 b10 b11
  cases c1 with
  | false =>
    have EE := Lib.hid (show res = false by rw [E2.out]; simp)
    clear E2
    go_wp2_with fail
    all_goals
      go_ret
      exact ⟨ret_bool (by rw [EE.out]; try (rw [Bool.eq_iff_iff]; first | rfl | (simp; done) | (simp; omega))), BW.out⟩
  | true =>
    have EE := Lib.hid (show res = (decide (0 < tx)) by rw [E2.out]; simp)
    clear E2
    go_wp2_with fail
    all_goals
      go_ret
      exact ⟨ret_bool (by rw [EE.out]; try (rw [Bool.eq_iff_iff]; first | rfl | (simp; done) | (simp; omega))), BW.out⟩


set_option maxRecDepth 100000 in
set_option maxHeartbeats 4000000 in
theorem rmay7 {w : World} {tx prev page slot next number ttx tnum : Nat} {body : ByteArray} {dirty : List Di} {txns : List Ac} {d t : Value} (h : InR w ⟨7, tx, prev, page, slot, next, number, body, dirty, txns, ttx, tnum⟩ d t) :
    Calls Try.prog 12 #[recV ⟨7, tx, prev, page, slot, next, number, body, dirty, txns, ttx, tnum⟩ d t] w fun e w' => e = .returned (.bool (rmayC ⟨7, tx, prev, page, slot, next, number, body, dirty, txns, ttx, tnum⟩)) ∧ Below w.heap.size w w' := by
  have T0 := Lib.hid (Rm.start w ⟨7, tx, prev, page, slot, next, number, body, dirty, txns, ttx, tnum⟩ d t)
  have KB := Lib.hid (fun W => body_any body W h.wf.body)
  have KT := Lib.hid (fun W (B : Below w.heap.size w W) => (show Calls Try.prog 25 #[.agg #[d, t, .int .u64 (ttx : Int), .int .u64 (tnum : Int)]] W fun e w' => e = .returned (.bool (okTab ⟨7, tx, prev, page, slot, next, number, body, dirty, txns, ttx, tnum⟩)) ∧ Below W.heap.size W w' from rtables_any (h.later B)))
  have KP := Lib.hid (fun W (B : Below w.heap.size w W) => (show Calls Try.prog 26 #[recV ⟨7, tx, prev, page, slot, next, number, body, dirty, txns, ttx, tnum⟩ d t] W fun e w' => e = .returned (.bool (plainC ⟨7, tx, prev, page, slot, next, number, body, dirty, txns, ttx, tnum⟩)) ∧ Below W.heap.size W w' from plain_any (h.later B)))
  have e : rmayC ⟨7, tx, prev, page, slot, next, number, body, dirty, txns, ttx, tnum⟩ = (true && (plainC ⟨7, tx, prev, page, slot, next, number, body, dirty, txns, ttx, tnum⟩ && (decide (tx = 0) && decide (prev = 0)))) := rfl
  obtain ⟨ad, cc, ed⟩ := h.di.form
  obtain ⟨ad2, cc2, et⟩ := h.ac.form
  clear h
  subst ed et
  generalize rmayC _ = res at *
  generalize plainC _ = c1 at *
  have E := Lib.hid e
  clear e
  have E2 := Lib.hid (show res = (c1 && (decide (tx = 0) && decide (prev = 0))) by rw [E.out, Bool.true_and])
  clear E KB KT
  obtain ⟨a0, a1, a2, a3, a4, a5, a6, a7, a8, a9, a10, a11⟩ := T0.out.a.all
  obtain ⟨b0, b1, b2, b3, b4, b5, b6, b7, b8, b9, b10, b11⟩ := T0.out.b.all
  simp only at a0 a1 a2 a3 a4 a5 a6 a7 a8 a9 a10 a11 b0 b1 b2 b3 b4 b5 b6 b7 b8 b9 b10 b11
  unfold recV recC at *
  simp only at KP
  generalize hg0 : w.heap.size + 1 = q at T0 a0 a1 a2 a3 a4 a5 a6 a7 a8 a9 a10 a11 b0 b1 b2 b3 b4 b5 b6 b7 b8 b9 b10 b11
  go_enter Try.func12, Try.ntmps12
  go_wp2_with fail
  refine (KP.out _ T0.out.b.below).mono ?_
  rintro e wp ⟨rfl, bp⟩
  have TP := Lib.hid (T0.out.later bp)
  have BW := Lib.hid TP.out.a.below
  clear bp T0 KP a0 a1 a2 a3 a4 a5 a6 a7 a8 a9 a10 a11 b0 b1 b2 b3 b4 b5 b6 b7 b8 b9 b10 b11
  obtain ⟨a0, a1, a2, a3, a4, a5, a6, a7, a8, a9, a10, a11⟩ := TP.out.a.all
  obtain ⟨b0, b1, b2, b3, b4, b5, b6, b7, b8, b9, b10, b11⟩ := TP.out.b.all
  simp only at a0 a1 a2 a3 a4 a5 a6 a7 a8 a9 a10 a11 b0 b1 b2 b3 b4 b5 b6 b7 b8 b9 b10 b11
  cases c1 with
  | false =>
    have EE := Lib.hid (show res = false by rw [E2.out]; simp)
    clear E2
    go_wp2_with fail
    all_goals
      go_ret
      exact ⟨ret_bool (by rw [EE.out]; try (rw [Bool.eq_iff_iff]; first | rfl | (simp; done) | (simp; omega))), BW.out⟩
  | true =>
    have EE := Lib.hid (show res = (decide (tx = 0) && decide (prev = 0)) by rw [E2.out]; simp)
    clear E2
    go_wp2_with fail
    all_goals
      go_ret
      exact ⟨ret_bool (by rw [EE.out]; try (rw [Bool.eq_iff_iff]; first | rfl | (simp; done) | (simp; omega))), BW.out⟩


set_option maxRecDepth 100000 in
set_option maxHeartbeats 4000000 in
theorem rmay6 {w : World} {tx prev page slot next number ttx tnum : Nat} {body : ByteArray} {dirty : List Di} {txns : List Ac} {d t : Value} (h : InR w ⟨6, tx, prev, page, slot, next, number, body, dirty, txns, ttx, tnum⟩ d t) :
    Calls Try.prog 12 #[recV ⟨6, tx, prev, page, slot, next, number, body, dirty, txns, ttx, tnum⟩ d t] w fun e w' => e = .returned (.bool (rmayC ⟨6, tx, prev, page, slot, next, number, body, dirty, txns, ttx, tnum⟩)) ∧ Below w.heap.size w w' := by
  have T0 := Lib.hid (Rm.start w ⟨6, tx, prev, page, slot, next, number, body, dirty, txns, ttx, tnum⟩ d t)
  have KB := Lib.hid (fun W => body_any body W h.wf.body)
  have KT := Lib.hid (fun W (B : Below w.heap.size w W) => (show Calls Try.prog 25 #[.agg #[d, t, .int .u64 (ttx : Int), .int .u64 (tnum : Int)]] W fun e w' => e = .returned (.bool (okTab ⟨6, tx, prev, page, slot, next, number, body, dirty, txns, ttx, tnum⟩)) ∧ Below W.heap.size W w' from rtables_any (h.later B)))
  have KP := Lib.hid (fun W (B : Below w.heap.size w W) => (show Calls Try.prog 26 #[recV ⟨6, tx, prev, page, slot, next, number, ⟨#[]⟩, dirty, txns, ttx, tnum⟩ d t] W fun e w' => e = .returned (.bool (plainC ⟨6, tx, prev, page, slot, next, number, ⟨#[]⟩, dirty, txns, ttx, tnum⟩)) ∧ Below W.heap.size W w' from plain_any { wf := { (h.later B).wf with body := (by decide : (⟨#[]⟩ : ByteArray).size ≤ 140737488351232) }, di := (h.later B).di, ac := (h.later B).ac }))
  have e : rmayC ⟨6, tx, prev, page, slot, next, number, body, dirty, txns, ttx, tnum⟩ = ((bodyB body) && (plainC ⟨6, tx, prev, page, slot, next, number, ⟨#[]⟩, dirty, txns, ttx, tnum⟩ && (if tx = 0 then decide (prev = 0) else decide (0 < tx)))) := by
    by_cases h0 : tx = 0
    · simp [rmayC, hasC, lessC, whoseC, h0]
    · simp [rmayC, hasC, lessC, whoseC, h0]
  obtain ⟨ad, cc, ed⟩ := h.di.form
  obtain ⟨ad2, cc2, et⟩ := h.ac.form
  clear h
  subst ed et
  generalize rmayC _ = res at *
  generalize plainC _ = c1 at *
  have E := Lib.hid e
  clear e
  clear KT
  obtain ⟨a0, a1, a2, a3, a4, a5, a6, a7, a8, a9, a10, a11⟩ := T0.out.a.all
  obtain ⟨b0, b1, b2, b3, b4, b5, b6, b7, b8, b9, b10, b11⟩ := T0.out.b.all
  simp only at a0 a1 a2 a3 a4 a5 a6 a7 a8 a9 a10 a11 b0 b1 b2 b3 b4 b5 b6 b7 b8 b9 b10 b11
  unfold recV recC at *
  simp only at KP
  generalize hg0 : w.heap.size + 1 = q at T0 a0 a1 a2 a3 a4 a5 a6 a7 a8 a9 a10 a11 b0 b1 b2 b3 b4 b5 b6 b7 b8 b9 b10 b11
  go_enter Try.func12, Try.ntmps12
  go_wp2_with fail
  refine (KB.out _).mono ?_
  rintro e w1 ⟨rfl, rfl⟩
  generalize (w.alloc _).alloc _ = W0 at *
  have BW := Lib.hid T0.out.a.below
  cases hb : bodyB body with
  | false =>
    have EE := Lib.hid (show res = false by rw [E.out, hb]; rfl)
    clear E KP hb KB
    go_wp2_with fail
    all_goals
      go_ret
      exact ⟨ret_bool (by rw [EE.out]; try (rw [Bool.eq_iff_iff]; first | rfl | (simp; done) | (simp; omega))), BW.out⟩
  | true =>
    have E2 := Lib.hid (show res = (c1 && (if tx = 0 then decide (prev = 0) else decide (0 < tx))) by rw [E.out, hb, Bool.true_and])
    clear E hb KB BW
    have fz7 := T0.out.b.fz 7
    have S1 := Lib.hid (T0.out.part 7 (.string ⟨#[]⟩) (b' := ⟨6, tx, prev, page, slot, next, number, ⟨#[]⟩, dirty, txns, ttx, tnum⟩) (d2 := .slice ad dirty.length cc) (t2 := .slice ad2 txns.length cc2) rfl)
    by_cases ht : tx = 0
    · subst ht
      go_wp2_with fail
      refine (KP.out _ S1.out.b.below).mono ?_
      rintro e wp ⟨rfl, bp⟩
      have TP := Lib.hid (S1.out.later bp)
      have BW := Lib.hid TP.out.a.below
      clear bp S1 KP a0 a1 a2 a3 a4 a5 a6 a7 a8 a9 a10 a11 b0 b1 b2 b3 b4 b5 b6 b7 b8 b9 b10 b11
      obtain ⟨a0, a1, a2, a3, a4, a5, a6, a7, a8, a9, a10, a11⟩ := TP.out.a.all
      obtain ⟨b0, b1, b2, b3, b4, b5, b6, b7, b8, b9, b10, b11⟩ := TP.out.b.all
      simp only at a0 a1 a2 a3 a4 a5 a6 a7 a8 a9 a10 a11 b0 b1 b2 b3 b4 b5 b6 b7 b8 b9 b10 b11
      cases c1 with
      | false =>
        have EE := Lib.hid (show res = false by rw [E2.out]; simp)
        clear E2
        go_wp2_with fail
        all_goals
          go_ret
          exact ⟨ret_bool (by rw [EE.out]; try (rw [Bool.eq_iff_iff]; first | rfl | (simp; done) | (simp; omega))), BW.out⟩
      | true =>
        have EE := Lib.hid (show res = (decide (prev = 0)) by rw [E2.out]; simp)
        clear E2
        go_wp2_with fail
        all_goals
          go_ret
          exact ⟨ret_bool (by rw [EE.out]; try (rw [Bool.eq_iff_iff]; first | rfl | (simp; done) | (simp; omega))), BW.out⟩

    · have ft : ((tx : Int) == 0) = false := num_no ht
      have E3 := Lib.hid (show res = (c1 && decide (0 < tx)) by rw [E2.out, if_neg ht])
      clear E2
      have E2 := Lib.hid E3.out
      clear E3
      go_wp2_with fail
      refine (KP.out _ S1.out.b.below).mono ?_
      rintro e wp ⟨rfl, bp⟩
      have TP := Lib.hid (S1.out.later bp)
      have BW := Lib.hid TP.out.a.below
      clear bp S1 KP a0 a1 a2 a3 a4 a5 a6 a7 a8 a9 a10 a11 b0 b1 b2 b3 b4 b5 b6 b7 b8 b9 b10 b11
      obtain ⟨a0, a1, a2, a3, a4, a5, a6, a7, a8, a9, a10, a11⟩ := TP.out.a.all
      obtain ⟨b0, b1, b2, b3, b4, b5, b6, b7, b8, b9, b10, b11⟩ := TP.out.b.all
      simp only at a0 a1 a2 a3 a4 a5 a6 a7 a8 a9 a10 a11 b0 b1 b2 b3 b4 b5 b6 b7 b8 b9 b10 b11
      cases c1 with
      | false =>
        have EE := Lib.hid (show res = false by rw [E2.out]; simp)
        clear E2
        go_wp2_with fail
        all_goals
          go_ret
          exact ⟨ret_bool (by rw [EE.out]; try (rw [Bool.eq_iff_iff]; first | rfl | (simp; done) | (simp; omega))), BW.out⟩
      | true =>
        have EE := Lib.hid (show res = (decide (0 < tx)) by rw [E2.out]; simp)
        clear E2
        go_wp2_with fail
        all_goals
          go_ret
          exact ⟨ret_bool (by rw [EE.out]; try (rw [Bool.eq_iff_iff]; first | rfl | (simp; done) | (simp; omega))), BW.out⟩



set_option maxRecDepth 100000 in
set_option maxHeartbeats 4000000 in
theorem rmay3 {w : World} {tx prev page slot next number ttx tnum : Nat} {body : ByteArray} {dirty : List Di} {txns : List Ac} {d t : Value} (h : InR w ⟨3, tx, prev, page, slot, next, number, body, dirty, txns, ttx, tnum⟩ d t) :
    Calls Try.prog 12 #[recV ⟨3, tx, prev, page, slot, next, number, body, dirty, txns, ttx, tnum⟩ d t] w fun e w' => e = .returned (.bool (rmayC ⟨3, tx, prev, page, slot, next, number, body, dirty, txns, ttx, tnum⟩)) ∧ Below w.heap.size w w' := by
  have T0 := Lib.hid (Rm.start w ⟨3, tx, prev, page, slot, next, number, body, dirty, txns, ttx, tnum⟩ d t)
  have KB := Lib.hid (fun W => body_any body W h.wf.body)
  have KT := Lib.hid (fun W (B : Below w.heap.size w W) => (show Calls Try.prog 25 #[.agg #[d, t, .int .u64 (ttx : Int), .int .u64 (tnum : Int)]] W fun e w' => e = .returned (.bool (okTab ⟨3, tx, prev, page, slot, next, number, body, dirty, txns, ttx, tnum⟩)) ∧ Below W.heap.size W w' from rtables_any (h.later B)))
  have KP := Lib.hid (fun W (B : Below w.heap.size w W) => (show Calls Try.prog 26 #[recV ⟨3, tx, prev, page, slot, 0, number, ⟨#[]⟩, dirty, txns, ttx, tnum⟩ d t] W fun e w' => e = .returned (.bool (plainC ⟨3, tx, prev, page, slot, 0, number, ⟨#[]⟩, dirty, txns, ttx, tnum⟩)) ∧ Below W.heap.size W w' from plain_any { wf := { (h.later B).wf with body := (by decide : (⟨#[]⟩ : ByteArray).size ≤ 140737488351232), next := (by decide : 0 < 18446744073709551616) }, di := (h.later B).di, ac := (h.later B).ac }))
  have e : rmayC ⟨3, tx, prev, page, slot, next, number, body, dirty, txns, ttx, tnum⟩ = ((bodyB body) && (plainC ⟨3, tx, prev, page, slot, 0, number, ⟨#[]⟩, dirty, txns, ttx, tnum⟩ && decide (0 < tx))) := rfl
  obtain ⟨ad, cc, ed⟩ := h.di.form
  obtain ⟨ad2, cc2, et⟩ := h.ac.form
  clear h
  subst ed et
  generalize rmayC _ = res at *
  generalize plainC _ = c1 at *
  have E := Lib.hid e
  clear e
  clear KT
  obtain ⟨a0, a1, a2, a3, a4, a5, a6, a7, a8, a9, a10, a11⟩ := T0.out.a.all
  obtain ⟨b0, b1, b2, b3, b4, b5, b6, b7, b8, b9, b10, b11⟩ := T0.out.b.all
  simp only at a0 a1 a2 a3 a4 a5 a6 a7 a8 a9 a10 a11 b0 b1 b2 b3 b4 b5 b6 b7 b8 b9 b10 b11
  unfold recV recC at *
  simp only at KP
  generalize hg0 : w.heap.size + 1 = q at T0 a0 a1 a2 a3 a4 a5 a6 a7 a8 a9 a10 a11 b0 b1 b2 b3 b4 b5 b6 b7 b8 b9 b10 b11
  go_enter Try.func12, Try.ntmps12
  go_wp2_with fail
  refine (KB.out _).mono ?_
  rintro e w1 ⟨rfl, rfl⟩
  generalize (w.alloc _).alloc _ = W0 at *
  have BW := Lib.hid T0.out.a.below
  cases hb : bodyB body with
  | false =>
    have EE := Lib.hid (show res = false by rw [E.out, hb]; rfl)
    clear E KP hb KB
    go_wp2_with fail
    all_goals
      go_ret
      exact ⟨ret_bool (by rw [EE.out]; try (rw [Bool.eq_iff_iff]; first | rfl | (simp; done) | (simp; omega))), BW.out⟩
  | true =>
    have E2 := Lib.hid (show res = (c1 && decide (0 < tx)) by rw [E.out, hb, Bool.true_and])
    clear E hb KB BW
    have fz7 := T0.out.b.fz 7
    have fz5 := T0.out.b.fz 5
    have S1 := Lib.hid (T0.out.part 7 (.string ⟨#[]⟩) (b' := ⟨3, tx, prev, page, slot, next, number, ⟨#[]⟩, dirty, txns, ttx, tnum⟩) (d2 := .slice ad dirty.length cc) (t2 := .slice ad2 txns.length cc2) rfl)
    have S2 := Lib.hid (S1.out.part 5 (.int .u64 0) (b' := ⟨3, tx, prev, page, slot, 0, number, ⟨#[]⟩, dirty, txns, ttx, tnum⟩) (d2 := .slice ad dirty.length cc) (t2 := .slice ad2 txns.length cc2) rfl)
    go_wp2_with fail
    refine (KP.out _ S2.out.b.below).mono ?_
    rintro e wp ⟨rfl, bp⟩
    have TP := Lib.hid (S2.out.later bp)
    have BW := Lib.hid TP.out.a.below
    clear bp S2 KP a0 a1 a2 a3 a4 a5 a6 a7 a8 a9 a10 a11 b0 b1 b2 b3 b4 b5 b6 b7 b8 b9 b10 b11
    obtain ⟨a0, a1, a2, a3, a4, a5, a6, a7, a8, a9, a10, a11⟩ := TP.out.a.all
    obtain ⟨b0, b1, b2, b3, b4, b5, b6, b7, b8, b9, b10, b11⟩ := TP.out.b.all
    simp only at a0 a1 a2 a3 a4 a5 a6 a7 a8 a9 a10 a11 b0 b1 b2 b3 b4 b5 b6 b7 b8 b9 b10 b11
    cases c1 with
    | false =>
      have EE := Lib.hid (show res = false by rw [E2.out]; simp)
      clear E2
      go_wp2_with fail
      all_goals
        go_ret
        exact ⟨ret_bool (by rw [EE.out]; try (rw [Bool.eq_iff_iff]; first | rfl | (simp; done) | (simp; omega))), BW.out⟩
    | true =>
      have EE := Lib.hid (show res = (decide (0 < tx)) by rw [E2.out]; simp)
      clear E2
      go_wp2_with fail
      all_goals
        go_ret
        exact ⟨ret_bool (by rw [EE.out]; try (rw [Bool.eq_iff_iff]; first | rfl | (simp; done) | (simp; omega))), BW.out⟩


set_option maxRecDepth 100000 in
set_option maxHeartbeats 4000000 in
theorem rmay4 {w : World} {tx prev page slot next number ttx tnum : Nat} {body : ByteArray} {dirty : List Di} {txns : List Ac} {d t : Value} (h : InR w ⟨4, tx, prev, page, slot, next, number, body, dirty, txns, ttx, tnum⟩ d t) :
    Calls Try.prog 12 #[recV ⟨4, tx, prev, page, slot, next, number, body, dirty, txns, ttx, tnum⟩ d t] w fun e w' => e = .returned (.bool (rmayC ⟨4, tx, prev, page, slot, next, number, body, dirty, txns, ttx, tnum⟩)) ∧ Below w.heap.size w w' := by
  have T0 := Lib.hid (Rm.start w ⟨4, tx, prev, page, slot, next, number, body, dirty, txns, ttx, tnum⟩ d t)
  have KB := Lib.hid (fun W => body_any body W h.wf.body)
  have KT := Lib.hid (fun W (B : Below w.heap.size w W) => (show Calls Try.prog 25 #[.agg #[d, t, .int .u64 (ttx : Int), .int .u64 (tnum : Int)]] W fun e w' => e = .returned (.bool (okTab ⟨4, tx, prev, page, slot, next, number, body, dirty, txns, ttx, tnum⟩)) ∧ Below W.heap.size W w' from rtables_any (h.later B)))
  have KP := Lib.hid (fun W (B : Below w.heap.size w W) => (show Calls Try.prog 26 #[recV ⟨4, tx, prev, page, slot, next, 0, ⟨#[]⟩, dirty, txns, ttx, tnum⟩ d t] W fun e w' => e = .returned (.bool (plainC ⟨4, tx, prev, page, slot, next, 0, ⟨#[]⟩, dirty, txns, ttx, tnum⟩)) ∧ Below W.heap.size W w' from plain_any { wf := { (h.later B).wf with body := (by decide : (⟨#[]⟩ : ByteArray).size ≤ 140737488351232), number := (by decide : 0 < 18446744073709551616) }, di := (h.later B).di, ac := (h.later B).ac }))
  have e : rmayC ⟨4, tx, prev, page, slot, next, number, body, dirty, txns, ttx, tnum⟩ = ((bodyB body && !decide (number = 0)) && (plainC ⟨4, tx, prev, page, slot, next, 0, ⟨#[]⟩, dirty, txns, ttx, tnum⟩ && decide (0 < tx))) := rfl
  obtain ⟨ad, cc, ed⟩ := h.di.form
  obtain ⟨ad2, cc2, et⟩ := h.ac.form
  clear h
  subst ed et
  generalize rmayC _ = res at *
  generalize plainC _ = c1 at *
  have E := Lib.hid e
  clear e
  clear KT
  obtain ⟨a0, a1, a2, a3, a4, a5, a6, a7, a8, a9, a10, a11⟩ := T0.out.a.all
  obtain ⟨b0, b1, b2, b3, b4, b5, b6, b7, b8, b9, b10, b11⟩ := T0.out.b.all
  simp only at a0 a1 a2 a3 a4 a5 a6 a7 a8 a9 a10 a11 b0 b1 b2 b3 b4 b5 b6 b7 b8 b9 b10 b11
  unfold recV recC at *
  simp only at KP
  generalize hg0 : w.heap.size + 1 = q at T0 a0 a1 a2 a3 a4 a5 a6 a7 a8 a9 a10 a11 b0 b1 b2 b3 b4 b5 b6 b7 b8 b9 b10 b11
  go_enter Try.func12, Try.ntmps12
  go_wp2_with fail
  refine (KB.out _).mono ?_
  rintro e w1 ⟨rfl, rfl⟩
  generalize (w.alloc _).alloc _ = W0 at *
  have BW := Lib.hid T0.out.a.below
  cases hb : bodyB body with
  | false =>
    have EE := Lib.hid (show res = false by rw [E.out, hb]; rfl)
    clear E KP hb KB
    go_wp2_with fail
    all_goals
      go_ret
      exact ⟨ret_bool (by rw [EE.out]; try (rw [Bool.eq_iff_iff]; first | rfl | (simp; done) | (simp; omega))), BW.out⟩
  | true =>
    by_cases hn : number = 0
    · subst hn
      have EE := Lib.hid (show res = false by rw [E.out, hb]; simp)
      clear E KP hb KB
      go_wp2_with fail
      all_goals
        go_ret
        exact ⟨ret_bool (by rw [EE.out]; try (rw [Bool.eq_iff_iff]; first | rfl | (simp; done) | (simp; omega))), BW.out⟩
    have fn : ((number : Int) == 0) = false := num_no hn
    have E2 := Lib.hid (show res = (c1 && decide (0 < tx)) by rw [E.out, hb, decide_eq_false hn]; simp)
    clear E hb KB BW
    have fz7 := T0.out.b.fz 7
    have fz6 := T0.out.b.fz 6
    have S1 := Lib.hid (T0.out.part 7 (.string ⟨#[]⟩) (b' := ⟨4, tx, prev, page, slot, next, number, ⟨#[]⟩, dirty, txns, ttx, tnum⟩) (d2 := .slice ad dirty.length cc) (t2 := .slice ad2 txns.length cc2) rfl)
    have S2 := Lib.hid (S1.out.part 6 (.int .u64 0) (b' := ⟨4, tx, prev, page, slot, next, 0, ⟨#[]⟩, dirty, txns, ttx, tnum⟩) (d2 := .slice ad dirty.length cc) (t2 := .slice ad2 txns.length cc2) rfl)
    go_wp2_with fail
    refine (KP.out _ S2.out.b.below).mono ?_
    rintro e wp ⟨rfl, bp⟩
    have TP := Lib.hid (S2.out.later bp)
    have BW := Lib.hid TP.out.a.below
    clear bp S2 KP a0 a1 a2 a3 a4 a5 a6 a7 a8 a9 a10 a11 b0 b1 b2 b3 b4 b5 b6 b7 b8 b9 b10 b11
    obtain ⟨a0, a1, a2, a3, a4, a5, a6, a7, a8, a9, a10, a11⟩ := TP.out.a.all
    obtain ⟨b0, b1, b2, b3, b4, b5, b6, b7, b8, b9, b10, b11⟩ := TP.out.b.all
    simp only at a0 a1 a2 a3 a4 a5 a6 a7 a8 a9 a10 a11 b0 b1 b2 b3 b4 b5 b6 b7 b8 b9 b10 b11
    cases c1 with
    | false =>
      have EE := Lib.hid (show res = false by rw [E2.out]; simp)
      clear E2
      go_wp2_with fail
      all_goals
        go_ret
        exact ⟨ret_bool (by rw [EE.out]; try (rw [Bool.eq_iff_iff]; first | rfl | (simp; done) | (simp; omega))), BW.out⟩
    | true =>
      have EE := Lib.hid (show res = (decide (0 < tx)) by rw [E2.out]; simp)
      clear E2
      go_wp2_with fail
      all_goals
        go_ret
        exact ⟨ret_bool (by rw [EE.out]; try (rw [Bool.eq_iff_iff]; first | rfl | (simp; done) | (simp; omega))), BW.out⟩


set_option maxRecDepth 100000 in
set_option maxHeartbeats 4000000 in
theorem rmay2 {w : World} {tx prev page slot next number ttx tnum : Nat} {body : ByteArray} {dirty : List Di} {txns : List Ac} {d t : Value} (h : InR w ⟨2, tx, prev, page, slot, next, number, body, dirty, txns, ttx, tnum⟩ d t) :
    Calls Try.prog 12 #[recV ⟨2, tx, prev, page, slot, next, number, body, dirty, txns, ttx, tnum⟩ d t] w fun e w' => e = .returned (.bool (rmayC ⟨2, tx, prev, page, slot, next, number, body, dirty, txns, ttx, tnum⟩)) ∧ Below w.heap.size w w' := by
  have T0 := Lib.hid (Rm.start w ⟨2, tx, prev, page, slot, next, number, body, dirty, txns, ttx, tnum⟩ d t)
  have KB := Lib.hid (fun W => body_any body W h.wf.body)
  have KT := Lib.hid (fun W (B : Below w.heap.size w W) => (show Calls Try.prog 25 #[.agg #[d, t, .int .u64 (ttx : Int), .int .u64 (tnum : Int)]] W fun e w' => e = .returned (.bool (okTab ⟨2, tx, prev, page, slot, next, number, body, dirty, txns, ttx, tnum⟩)) ∧ Below W.heap.size W w' from rtables_any (h.later B)))
  have KP := Lib.hid (fun W (B : Below w.heap.size w W) => (show Calls Try.prog 26 #[recV ⟨2, tx, prev, 0, 0, next, number, ⟨#[]⟩, dirty, txns, ttx, tnum⟩ d t] W fun e w' => e = .returned (.bool (plainC ⟨2, tx, prev, 0, 0, next, number, ⟨#[]⟩, dirty, txns, ttx, tnum⟩)) ∧ Below W.heap.size W w' from plain_any { wf := { (h.later B).wf with body := (by decide : (⟨#[]⟩ : ByteArray).size ≤ 140737488351232), page := (by decide : 0 < 4294967296), slot := (by decide : 0 < 65536) }, di := (h.later B).di, ac := (h.later B).ac }))
  have e : rmayC ⟨2, tx, prev, page, slot, next, number, body, dirty, txns, ttx, tnum⟩ = ((bodyB body && !(decide (page = 0) && !decide (slot = 0))) && (plainC ⟨2, tx, prev, 0, 0, next, number, ⟨#[]⟩, dirty, txns, ttx, tnum⟩ && decide (0 < tx))) := rfl
  obtain ⟨ad, cc, ed⟩ := h.di.form
  obtain ⟨ad2, cc2, et⟩ := h.ac.form
  clear h
  subst ed et
  generalize rmayC _ = res at *
  generalize plainC _ = c1 at *
  have E := Lib.hid e
  clear e
  clear KT
  obtain ⟨a0, a1, a2, a3, a4, a5, a6, a7, a8, a9, a10, a11⟩ := T0.out.a.all
  obtain ⟨b0, b1, b2, b3, b4, b5, b6, b7, b8, b9, b10, b11⟩ := T0.out.b.all
  simp only at a0 a1 a2 a3 a4 a5 a6 a7 a8 a9 a10 a11 b0 b1 b2 b3 b4 b5 b6 b7 b8 b9 b10 b11
  unfold recV recC at *
  simp only at KP
  generalize hg0 : w.heap.size + 1 = q at T0 a0 a1 a2 a3 a4 a5 a6 a7 a8 a9 a10 a11 b0 b1 b2 b3 b4 b5 b6 b7 b8 b9 b10 b11
  go_enter Try.func12, Try.ntmps12
  go_wp2_with fail
  refine (KB.out _).mono ?_
  rintro e w1 ⟨rfl, rfl⟩
  generalize (w.alloc _).alloc _ = W0 at *
  have BW := Lib.hid T0.out.a.below
  cases hb : bodyB body with
  | false =>
    have EE := Lib.hid (show res = false by rw [E.out, hb]; rfl)
    clear E KP hb KB
    go_wp2_with fail
    all_goals
      go_ret
      exact ⟨ret_bool (by rw [EE.out]; try (rw [Bool.eq_iff_iff]; first | rfl | (simp; done) | (simp; omega))), BW.out⟩
  | true =>
    by_cases hp : page = 0
    · subst hp
      by_cases hsl : slot = 0
      · subst hsl
        have E2 := Lib.hid (show res = (c1 && decide (0 < tx)) by rw [E.out, hb]; simp [*])
        clear E hb KB BW
        have fz7 := T0.out.b.fz 7
        have fz3 := T0.out.b.fz 3
        have fz4 := T0.out.b.fz 4
        have S1 := Lib.hid (T0.out.part 7 (.string ⟨#[]⟩) (b' := ⟨2, tx, prev, 0, 0, next, number, ⟨#[]⟩, dirty, txns, ttx, tnum⟩) (d2 := .slice ad dirty.length cc) (t2 := .slice ad2 txns.length cc2) rfl)
        have S2 := Lib.hid (S1.out.part 3 (.int .u32 0) (b' := ⟨2, tx, prev, 0, 0, next, number, ⟨#[]⟩, dirty, txns, ttx, tnum⟩) (d2 := .slice ad dirty.length cc) (t2 := .slice ad2 txns.length cc2) rfl)
        have S3 := Lib.hid (S2.out.part 4 (.int .u16 0) (b' := ⟨2, tx, prev, 0, 0, next, number, ⟨#[]⟩, dirty, txns, ttx, tnum⟩) (d2 := .slice ad dirty.length cc) (t2 := .slice ad2 txns.length cc2) rfl)
        go_wp2_with fail
        refine (KP.out _ S3.out.b.below).mono ?_
        rintro e wp ⟨rfl, bp⟩
        have TP := Lib.hid (S3.out.later bp)
        have BW := Lib.hid TP.out.a.below
        clear bp S3 KP a0 a1 a2 a3 a4 a5 a6 a7 a8 a9 a10 a11 b0 b1 b2 b3 b4 b5 b6 b7 b8 b9 b10 b11
        obtain ⟨a0, a1, a2, a3, a4, a5, a6, a7, a8, a9, a10, a11⟩ := TP.out.a.all
        obtain ⟨b0, b1, b2, b3, b4, b5, b6, b7, b8, b9, b10, b11⟩ := TP.out.b.all
        simp only at a0 a1 a2 a3 a4 a5 a6 a7 a8 a9 a10 a11 b0 b1 b2 b3 b4 b5 b6 b7 b8 b9 b10 b11
        cases c1 with
        | false =>
          have EE := Lib.hid (show res = false by rw [E2.out]; simp)
          clear E2
          go_wp2_with fail
          all_goals
            go_ret
            exact ⟨ret_bool (by rw [EE.out]; try (rw [Bool.eq_iff_iff]; first | rfl | (simp; done) | (simp; omega))), BW.out⟩
        | true =>
          have EE := Lib.hid (show res = (decide (0 < tx)) by rw [E2.out]; simp)
          clear E2
          go_wp2_with fail
          all_goals
            go_ret
            exact ⟨ret_bool (by rw [EE.out]; try (rw [Bool.eq_iff_iff]; first | rfl | (simp; done) | (simp; omega))), BW.out⟩

      · have fs : ((slot : Int) != 0) = true := ne_no hsl
        have EE := Lib.hid (show res = false by rw [E.out, hb, decide_eq_false hsl]; simp)
        clear E KP hb KB
        go_wp2_with fail
        all_goals
          go_ret
          exact ⟨ret_bool (by rw [EE.out]; try (rw [Bool.eq_iff_iff]; first | rfl | (simp; done) | (simp; omega))), BW.out⟩
    · have fp : ((page : Int) == 0) = false := num_no hp
      have E2 := Lib.hid (show res = (c1 && decide (0 < tx)) by rw [E.out, hb]; simp [*])
      clear E hb KB BW
      have fz7 := T0.out.b.fz 7
      have fz3 := T0.out.b.fz 3
      have fz4 := T0.out.b.fz 4
      have S1 := Lib.hid (T0.out.part 7 (.string ⟨#[]⟩) (b' := ⟨2, tx, prev, page, slot, next, number, ⟨#[]⟩, dirty, txns, ttx, tnum⟩) (d2 := .slice ad dirty.length cc) (t2 := .slice ad2 txns.length cc2) rfl)
      have S2 := Lib.hid (S1.out.part 3 (.int .u32 0) (b' := ⟨2, tx, prev, 0, slot, next, number, ⟨#[]⟩, dirty, txns, ttx, tnum⟩) (d2 := .slice ad dirty.length cc) (t2 := .slice ad2 txns.length cc2) rfl)
      have S3 := Lib.hid (S2.out.part 4 (.int .u16 0) (b' := ⟨2, tx, prev, 0, 0, next, number, ⟨#[]⟩, dirty, txns, ttx, tnum⟩) (d2 := .slice ad dirty.length cc) (t2 := .slice ad2 txns.length cc2) rfl)
      go_wp2_with fail
      refine (KP.out _ S3.out.b.below).mono ?_
      rintro e wp ⟨rfl, bp⟩
      have TP := Lib.hid (S3.out.later bp)
      have BW := Lib.hid TP.out.a.below
      clear bp S3 KP a0 a1 a2 a3 a4 a5 a6 a7 a8 a9 a10 a11 b0 b1 b2 b3 b4 b5 b6 b7 b8 b9 b10 b11
      obtain ⟨a0, a1, a2, a3, a4, a5, a6, a7, a8, a9, a10, a11⟩ := TP.out.a.all
      obtain ⟨b0, b1, b2, b3, b4, b5, b6, b7, b8, b9, b10, b11⟩ := TP.out.b.all
      simp only at a0 a1 a2 a3 a4 a5 a6 a7 a8 a9 a10 a11 b0 b1 b2 b3 b4 b5 b6 b7 b8 b9 b10 b11
      cases c1 with
      | false =>
        have EE := Lib.hid (show res = false by rw [E2.out]; simp)
        clear E2
        go_wp2_with fail
        all_goals
          go_ret
          exact ⟨ret_bool (by rw [EE.out]; try (rw [Bool.eq_iff_iff]; first | rfl | (simp; done) | (simp; omega))), BW.out⟩
      | true =>
        have EE := Lib.hid (show res = (decide (0 < tx)) by rw [E2.out]; simp)
        clear E2
        go_wp2_with fail
        all_goals
          go_ret
          exact ⟨ret_bool (by rw [EE.out]; try (rw [Bool.eq_iff_iff]; first | rfl | (simp; done) | (simp; omega))), BW.out⟩


set_option maxRecDepth 100000 in
set_option maxHeartbeats 4000000 in
theorem rmay8 {w : World} {tx prev page slot next number ttx tnum : Nat} {body : ByteArray} {dirty : List Di} {txns : List Ac} {d t : Value} (h : InR w ⟨8, tx, prev, page, slot, next, number, body, dirty, txns, ttx, tnum⟩ d t) :
    Calls Try.prog 12 #[recV ⟨8, tx, prev, page, slot, next, number, body, dirty, txns, ttx, tnum⟩ d t] w fun e w' => e = .returned (.bool (rmayC ⟨8, tx, prev, page, slot, next, number, body, dirty, txns, ttx, tnum⟩)) ∧ Below w.heap.size w w' := by
  have T0 := Lib.hid (Rm.start w ⟨8, tx, prev, page, slot, next, number, body, dirty, txns, ttx, tnum⟩ d t)
  have KB := Lib.hid (fun W => body_any body W h.wf.body)
  have KT := Lib.hid (fun W (B : Below w.heap.size w W) => (show Calls Try.prog 25 #[.agg #[d, t, .int .u64 (ttx : Int), .int .u64 (tnum : Int)]] W fun e w' => e = .returned (.bool (okTab ⟨8, tx, prev, page, slot, next, number, body, dirty, txns, ttx, tnum⟩)) ∧ Below W.heap.size W w' from rtables_any (h.later B)))
  have KP := Lib.hid (fun W (B : Below w.heap.size w W) => (show Calls Try.prog 26 #[recV ⟨8, tx, prev, page, slot, next, number, body, [], [], 0, 0⟩ (.slice none 0 0) (.slice none 0 0)] W fun e w' => e = .returned (.bool (plainC ⟨8, tx, prev, page, slot, next, number, body, [], [], 0, 0⟩)) ∧ Below W.heap.size W w' from plain_any { wf := { (h.later B).wf with dirty := (by decide : 0 ≤ 140737488351232), txns := (by decide : 0 ≤ 140737488351232), ttx := (by decide : 0 < 18446744073709551616), tnum := (by decide : 0 < 18446744073709551616), each := (fun i d h => by simp at h), eacht := (fun i d h => by simp at h) }, di := IsDi.nil W, ac := IsAc.nil W }))
  have e : rmayC ⟨8, tx, prev, page, slot, next, number, body, dirty, txns, ttx, tnum⟩ = (okTab ⟨8, tx, prev, page, slot, next, number, body, dirty, txns, ttx, tnum⟩ && (plainC ⟨8, tx, prev, page, slot, next, number, body, [], [], 0, 0⟩ && (decide (tx = 0) && decide (prev = 0)))) := rfl
  obtain ⟨ad, cc, ed⟩ := h.di.form
  obtain ⟨ad2, cc2, et⟩ := h.ac.form
  clear h
  subst ed et
  generalize rmayC _ = res at *
  generalize plainC _ = c1 at *
  have E := Lib.hid e
  clear e
  clear KB
  generalize okTab _ = c0 at *
  obtain ⟨a0, a1, a2, a3, a4, a5, a6, a7, a8, a9, a10, a11⟩ := T0.out.a.all
  obtain ⟨b0, b1, b2, b3, b4, b5, b6, b7, b8, b9, b10, b11⟩ := T0.out.b.all
  simp only at a0 a1 a2 a3 a4 a5 a6 a7 a8 a9 a10 a11 b0 b1 b2 b3 b4 b5 b6 b7 b8 b9 b10 b11
  unfold recV recC at *
  simp only at KP
  generalize hg0 : w.heap.size + 1 = q at T0 a0 a1 a2 a3 a4 a5 a6 a7 a8 a9 a10 a11 b0 b1 b2 b3 b4 b5 b6 b7 b8 b9 b10 b11
  go_enter Try.func12, Try.ntmps12
  go_wp2_with fail
  refine (KT.out _ T0.out.b.below).mono ?_
  rintro e w1 ⟨rfl, bt⟩
  have T1 := Lib.hid (T0.out.later bt)
  have BW := Lib.hid T1.out.a.below
  clear bt T0 KT a0 a1 a2 a3 a4 a5 a6 a7 a8 a9 a10 a11 b0 b1 b2 b3 b4 b5 b6 b7 b8 b9 b10 b11
  obtain ⟨a0, a1, a2, a3, a4, a5, a6, a7, a8, a9, a10, a11⟩ := T1.out.a.all
  obtain ⟨b0, b1, b2, b3, b4, b5, b6, b7, b8, b9, b10, b11⟩ := T1.out.b.all
  simp only at a0 a1 a2 a3 a4 a5 a6 a7 a8 a9 a10 a11 b0 b1 b2 b3 b4 b5 b6 b7 b8 b9 b10 b11
  cases c0 with
  | false =>
    have EE := Lib.hid (show res = false by rw [E.out]; rfl)
    clear E KP
    go_wp2_with fail
    all_goals
      go_ret
      exact ⟨ret_bool (by rw [EE.out]; try (rw [Bool.eq_iff_iff]; first | rfl | (simp; done) | (simp; omega))), BW.out⟩
  | true =>
    have E2 := Lib.hid (show res = (c1 && (decide (tx = 0) && decide (prev = 0))) by rw [E.out, Bool.true_and])
    clear E BW
    have fz8 := T1.out.b.fz 8
    have fz9 := T1.out.b.fz 9
    have fz10 := T1.out.b.fz 10
    have fz11 := T1.out.b.fz 11
    have S1 := Lib.hid (T1.out.part 8 (.slice none 0 0) (b' := ⟨8, tx, prev, page, slot, next, number, body, [], txns, ttx, tnum⟩) (d2 := (.slice none 0 0)) (t2 := (.slice ad2 txns.length cc2)) rfl)
    have S2 := Lib.hid (S1.out.part 9 (.slice none 0 0) (b' := ⟨8, tx, prev, page, slot, next, number, body, [], [], ttx, tnum⟩) (d2 := (.slice none 0 0)) (t2 := (.slice none 0 0)) rfl)
    have S3 := Lib.hid (S2.out.part 10 (.int .u64 0) (b' := ⟨8, tx, prev, page, slot, next, number, body, [], [], 0, tnum⟩) (d2 := (.slice none 0 0)) (t2 := (.slice none 0 0)) rfl)
    have S4 := Lib.hid (S3.out.part 11 (.int .u64 0) (b' := ⟨8, tx, prev, page, slot, next, number, body, [], [], 0, 0⟩) (d2 := (.slice none 0 0)) (t2 := (.slice none 0 0)) rfl)
    go_wp2_with fail
    refine (KP.out _ S4.out.b.below).mono ?_
    rintro e wp ⟨rfl, bp⟩
    have TP := Lib.hid (S4.out.later bp)
    have BW := Lib.hid TP.out.a.below
    clear bp S4 KP a0 a1 a2 a3 a4 a5 a6 a7 a8 a9 a10 a11 b0 b1 b2 b3 b4 b5 b6 b7 b8 b9 b10 b11
    obtain ⟨a0, a1, a2, a3, a4, a5, a6, a7, a8, a9, a10, a11⟩ := TP.out.a.all
    obtain ⟨b0, b1, b2, b3, b4, b5, b6, b7, b8, b9, b10, b11⟩ := TP.out.b.all
    simp only at a0 a1 a2 a3 a4 a5 a6 a7 a8 a9 a10 a11 b0 b1 b2 b3 b4 b5 b6 b7 b8 b9 b10 b11
    cases c1 with
    | false =>
      have EE := Lib.hid (show res = false by rw [E2.out]; simp)
      clear E2
      go_wp2_with fail
      all_goals
        go_ret
        exact ⟨ret_bool (by rw [EE.out]; try (rw [Bool.eq_iff_iff]; first | rfl | (simp; done) | (simp; omega))), BW.out⟩
    | true =>
      have EE := Lib.hid (show res = (decide (tx = 0) && decide (prev = 0)) by rw [E2.out]; simp)
      clear E2
      go_wp2_with fail
      all_goals
        go_ret
        exact ⟨ret_bool (by rw [EE.out]; try (rw [Bool.eq_iff_iff]; first | rfl | (simp; done) | (simp; omega))), BW.out⟩



end Go.Proofs.Ytadhophiannigaa.Rec
