/- Walks: which records may be, are undone, are heavy. -/
import Derived.Test.YtadhophiannigaaCW4
namespace Go.Proofs.Ytadhophiannigaa.Rec
open Go.RowKit
attribute [local go_sem ↓] Go.wp_at_zero Go.wp_at_succ

theorem gt_yes {x : Nat} (h : 0 < x) : decide ((0 : Int) < (x : Int)) = true := decide_eq_true (by omega)
theorem nil_tab (r : Rc) : sameTab r Rc.zero = nilTab r := rfl

set_option maxRecDepth 100000 in
set_option maxHeartbeats 1000000 in
theorem maytab_any {w : World} {a : Rc} {d t : Value} (hd : IsDi w d a.dirty) (ht : IsAc w t a.txns) (l1 : a.dirty.length ≤ 140737488351232) (l2 : a.txns.length ≤ 140737488351232) (has : Bool) :
    Calls Try.prog 37 #[tabV a d t, .bool has] w fun e w' => e = .returned (.bool (mayTab a has)) ∧ Below w.heap.size w w' := by
  have T0 := Lib.hid (Tb.start w a d t)
  have K0 := Lib.hid (fun W (B : Below w.heap.size w W) => sametab_any (hd.later B) (ht.later B) (IsDi.nil W) (IsAc.nil W) l1 l2 (b := Rc.zero) (by decide) (by decide))
  have K1 := Lib.hid (fun W (B : Below w.heap.size w W) => dirty_any (hd.later B) l1)
  have K2 := Lib.hid (fun W (B : Below w.heap.size w W) => txns_any (ht.later B) l2)
  have e : mayTab a has = if has then (decide (0 < a.ttx) && (decide (0 < a.tnum) && (mayDi a.dirty && mayAc a.txns))) else sameTab a Rc.zero := rfl
  clear hd ht l1 l2
  generalize mayTab a has = res at *
  generalize sameTab a Rc.zero = c0 at *
  obtain ⟨akind, atx, aprev, apage, aslot, anext, anumber, abody, adirty, atxns, attx, atnum⟩ := a
  unfold tabV tabC Rc.zero at *
  simp only at *
  generalize mayDi adirty = c1 at *
  generalize mayAc atxns = c2 at *
  have E := Lib.hid e
  clear e
  have B := Lib.hid T0.out.below
  cases has with
  | false =>
    have e : res = c0 := E.out
    subst e
    clear E K1 K2
    go_enter Try.func37, Try.ntmps37
    go_wp2_with fail
    refine (K0.out _ T0.out.below).mono ?_
    rintro e w1 ⟨rfl, b⟩
    have B1 := Lib.hid (B.out.trans (b.mono B.out.size))
    clear T0 b K0
    go_wp2_with fail
    go_ret
    exact ⟨rfl, B1.out⟩
  | true =>
    obtain ⟨a0, a1, a2, a3⟩ := T0.out.all
    simp only at *
    rcases Nat.eq_zero_or_pos attx with h1 | h1
    · subst h1
      have e : res = false := by rw [E.out]; simp
      subst e
      clear E K0 K1 K2
      go_enter Try.func37, Try.ntmps37
      go_wp2_with fail
      go_ret
      exact ⟨rfl, B.out⟩
    · rcases Nat.eq_zero_or_pos atnum with h2 | h2
      · subst h2
        have e : res = false := by rw [E.out]; simp
        subst e
        have f1 := gt_yes h1
        clear E K0 K1 K2
        go_enter Try.func37, Try.ntmps37
        go_wp2_with fail
        go_ret
        exact ⟨rfl, B.out⟩
      · have e : res = (c1 && c2) := by rw [E.out, if_pos trivial, decide_eq_true h1, decide_eq_true h2, Bool.true_and, Bool.true_and]
        have EE := Lib.hid e
        have f1 := gt_yes h1
        have f2 := gt_yes h2
        clear E e K0
        go_enter Try.func37, Try.ntmps37
        go_wp2_with fail
        refine (K1.out _ T0.out.below).mono ?_
        rintro e w1 ⟨rfl, b⟩
        have T1 := Lib.hid (T0.out.later b)
        clear T0 b K1 a0 a1 a2 a3 B
        obtain ⟨a0, a1, a2, a3⟩ := T1.out.all
        simp only at *
        cases c1 with
        | false =>
          go_wp2_with fail
          go_ret
          exact ⟨ret_bool (by rw [EE.out]; rfl), T1.out.below⟩
        | true =>
          go_wp2_with fail
          refine (K2.out _ T1.out.below).mono ?_
          rintro e w2 ⟨rfl, b⟩
          have B2 := Lib.hid (T1.out.later b).below
          clear T1 b K2 a0 a1 a2 a3
          go_wp2_with fail
          go_ret
          exact ⟨ret_bool (by rw [EE.out]; rfl), B2.out⟩

theorem bool_eq (a b : Bool) : (a == b) = decide (a = b) := by cases a <;> cases b <;> rfl
theorem size_pos {s : ByteArray} (h : s ≠ ⟨#[]⟩) : 0 < s.size := by
  rcases Nat.eq_zero_or_pos s.size with e | e
  · exact absurd (ByteArray.ext (Array.eq_empty_of_size_eq_zero e)) h
  · exact e
theorem not_empty {s : ByteArray} (h : 0 < s.size) : s.toList.isEmpty = false := by
  rw [List.isEmpty_eq_false_iff]
  intro e
  have h2 := beq_no (s := s) (t := ⟨#[]⟩) (by rintro rfl; exact absurd h (by decide))
  rw [e] at h2
  simp at h2
theorem bne_no (s : ByteArray) (h : s.size = 0) : (s.toList != (⟨#[]⟩ : ByteArray).toList) = false := by
  have : s = ⟨#[]⟩ := ByteArray.ext (Array.eq_empty_of_size_eq_zero h)
  rw [this]; simp
theorem bne_yes (s : ByteArray) (h : 0 < s.size) : (s.toList != (⟨#[]⟩ : ByteArray).toList) = true := by
  have hn : s ≠ ⟨#[]⟩ := by rintro rfl; exact absurd h (by decide)
  simp only [bne, beq_no hn, Bool.not_false]

set_option maxRecDepth 100000 in
set_option maxHeartbeats 4000000 in
theorem maypt_any {w : World} {a : Rc} {d t : Value} (ha : InR w a d t) (p : Pt) :
    Calls Try.prog 28 #[recV a d t, ptV p] w fun e w' => e = .returned (.bool (mayPt a p)) ∧ Below w.heap.size w w' := by
  have T0 := Lib.hid (Rp.start w a d t p)
  have K0 := Lib.hid (fun W => roll_any a.page a.slot p.roll W)
  have K1 := Lib.hid (fun W (B : Below w.heap.size w W) => maytab_any (ha.di.later B) (ha.ac.later B) ha.wf.dirty ha.wf.txns p.tables)
  have hsz := ha.wf.body
  have e : mayPt a p = (mayRoll a.page a.slot p.roll && ((p.next || decide (a.next = 0)) && ((p.number == decide (0 < a.number)) && ((p.body == decide (0 < a.body.size)) && (decide (a.body.size ≤ 3072) && mayTab a p.tables))))) := rfl
  clear ha
  generalize mayPt a p = res at *
  generalize mayRoll a.page a.slot p.roll = c0 at *
  generalize mayTab a p.tables = c1 at *
  obtain ⟨akind, atx, aprev, apage, aslot, anext, anumber, abody, adirty, atxns, attx, atnum⟩ := a
  obtain ⟨owned, nobodys, roll, pnext, pnumber, pbody, tables⟩ := p
  unfold tabV tabC ptV ptC recV recC at *
  simp only at *
  have E := Lib.hid e
  clear e
  obtain ⟨a0, a1, a2, a3, a4, a5, a6, a7, a8, a9, a10, a11⟩ := T0.out.a.all
  obtain ⟨b0, b1, b2, b3, b4, b5, b6⟩ := T0.out.b.all
  simp only at *
  go_enter Try.func28, Try.ntmps28
  go_wp2_with fail
  refine (K0.out _).mono ?_
  rintro e w1 ⟨rfl, b⟩
  have T1 := Lib.hid (T0.out.later b)
  clear T0 b K0 a0 a1 a2 a3 a4 a5 a6 a7 a8 a9 a10 a11 b0 b1 b2 b3 b4 b5 b6
  obtain ⟨a0, a1, a2, a3, a4, a5, a6, a7, a8, a9, a10, a11⟩ := T1.out.a.all
  obtain ⟨b0, b1, b2, b3, b4, b5, b6⟩ := T1.out.b.all
  simp only at *
  have B := Lib.hid T1.out.a.below
  cases c0 with
  | false =>
    have e : res = false := by rw [E.out]; rfl
    subst e
    clear E K1
    go_wp2_with fail
    go_ret
    exact ⟨rfl, B.out⟩
  | true =>
  by_cases h1 : pnext = false ∧ anext ≠ 0
  · obtain ⟨rfl, h1⟩ := h1
    have e : res = false := by rw [E.out, decide_eq_false h1]; rfl
    subst e
    have f := num_no h1
    have f2 : ((anext : Int) == 0) = false := f
    clear E K1 h1 f
    go_wp2_with fail
    go_ret
    exact ⟨rfl, B.out⟩
  have e : res = ((pnumber == decide (0 < anumber)) && ((pbody == decide (0 < abody.size)) && (decide (abody.size ≤ 3072) && c1))) := by
    rw [E.out]
    cases pnext with
    | true => rfl
    | false =>
      have h2 : anext = 0 := by
        rcases Nat.eq_zero_or_pos anext with h | h
        · exact h
        · exact absurd ⟨rfl, by omega⟩ h1
      rw [decide_eq_true h2]; rfl
  have E2 := Lib.hid e
  clear e E
  have fb : decide (0 < abody.size) = !abody.toList.isEmpty := by
    rcases Nat.eq_zero_or_pos abody.size with h | h
    · rw [decide_eq_false (by omega), show abody = ⟨#[]⟩ from ByteArray.ext (Array.eq_empty_of_size_eq_zero h)]; simp
    · rw [decide_eq_true h, not_empty h]; rfl
  rw [fb] at E2
  clear fb
  have hp : pnext = true ∨ (pnext = false ∧ anext = 0) := by
    cases pnext with
    | true => exact .inl rfl
    | false =>
      refine .inr ⟨rfl, ?_⟩
      rcases Nat.eq_zero_or_pos anext with h | h
      · exact h
      · exact absurd ⟨rfl, by omega⟩ h1
  clear h1
  by_cases h2 : pnumber = decide (0 < anumber)
  rotate_left
  · have e : res = false := by rw [E2.out, bool_eq pnumber, decide_eq_false h2]; rfl
    subst e
    clear E2 K1
    rcases hp with rfl | ⟨rfl, rfl⟩
    all_goals
      go_wp2_with fail
      go_ret
      exact ⟨rfl, B.out⟩
  by_cases h3 : pbody = !abody.toList.isEmpty
  rotate_left
  · have e : res = false := by rw [E2.out, bool_eq pbody, decide_eq_false h3]; simp
    subst e
    clear E2 K1
    rcases hp with rfl | ⟨rfl, rfl⟩
    all_goals
      go_wp2_with fail
      go_ret
      exact ⟨rfl, B.out⟩
  by_cases h4 : abody.size ≤ 3072
  rotate_left
  · have e : res = false := by rw [E2.out, decide_eq_false h4]; simp
    subst e
    clear E2 K1
    rcases hp with rfl | ⟨rfl, rfl⟩
    all_goals
      go_wp2_with fail
      go_ret
      exact ⟨rfl, B.out⟩
  have e : res = c1 := by rw [E2.out, decide_eq_true h4, ← h2, ← h3]; simp
  subst e
  clear E2
  rcases hp with rfl | ⟨rfl, rfl⟩
  all_goals
    go_wp2_with fail
    refine (K1.out _ B.out).mono ?_
    rintro e w2 ⟨rfl, b⟩
    have B2 := Lib.hid (B.out.trans (b.mono B.out.size))
    clear T1 b K1 a0 a1 a2 a3 a4 a5 a6 a7 a8 a9 a10 a11 b0 b1 b2 b3 b4 b5 b6
    go_wp2_with fail
    go_ret
    exact ⟨rfl, B2.out⟩

set_option maxRecDepth 100000 in
set_option maxHeartbeats 4000000 in
theorem may_any {w : World} {a : Rc} {d t : Value} (ha : InR w a d t) :
    Calls Try.prog 13 #[recV a d t] w fun e w' => e = .returned (.bool (mayC a)) ∧ Below w.heap.size w w' := by
  have T0 := Lib.hid (Bx.start w a d t)
  have K0 := Lib.hid (fun W => parts_any a.kind W ha.wf.kind)
  have K1 := Lib.hid (fun W => tx_any a d t (ptOf a.kind) W)
  have K2 := Lib.hid (fun W (B : Below w.heap.size w W) => maypt_any (ha.later B) (ptOf a.kind))
  have e : mayC a = (mayTx a (ptOf a.kind) && mayPt a (ptOf a.kind)) := rfl
  clear ha
  generalize mayC a = res at *
  generalize mayTx a (ptOf a.kind) = c1 at *
  generalize mayPt a (ptOf a.kind) = c2 at *
  generalize ptOf a.kind = p at *
  have E := Lib.hid e
  clear e
  obtain ⟨a0, a1, a2, a3, a4, a5, a6, a7, a8, a9, a10, a11⟩ := T0.out.all
  unfold recV recC ptV ptC at *
  go_enter Try.func13, Try.ntmps13
  go_wp2_with fail
  refine (K0.out _).mono ?_
  rintro e w1 ⟨rfl, b⟩
  have P1 := Lib.hid (Px.make p (T0.out.later b).below)
  have T1 := Lib.hid ((T0.out.later b).later (below_new w1 (.cells (ptC p) 49)))
  clear T0 b K0 a0 a1 a2 a3 a4 a5 a6 a7 a8 a9 a10 a11
  obtain ⟨a0, a1, a2, a3, a4, a5, a6, a7, a8, a9, a10, a11⟩ := T1.out.all
  obtain ⟨b0, b1, b2, b3, b4, b5, b6⟩ := P1.out.all
  unfold ptC at *
  go_wp2_with fail
  refine (K1.out _).mono ?_
  rintro e w2 ⟨rfl, b⟩
  have T2 := Lib.hid (T1.out.later b)
  have P2 := Lib.hid (P1.out.later b)
  clear T1 P1 b K1 a0 a1 a2 a3 a4 a5 a6 a7 a8 a9 a10 a11 b0 b1 b2 b3 b4 b5 b6
  obtain ⟨a0, a1, a2, a3, a4, a5, a6, a7, a8, a9, a10, a11⟩ := T2.out.all
  obtain ⟨b0, b1, b2, b3, b4, b5, b6⟩ := P2.out.all
  cases c1 with
  | false =>
    go_wp2_with fail
    go_ret
    exact ⟨ret_bool (by rw [E.out]; rfl), T2.out.below⟩
  | true =>
    go_wp2_with fail
    refine (K2.out _ T2.out.below).mono ?_
    rintro e w3 ⟨rfl, b⟩
    have B3 := Lib.hid (T2.out.later b).below
    clear T2 P2 b K2 a0 a1 a2 a3 a4 a5 a6 a7 a8 a9 a10 a11 b0 b1 b2 b3 b4 b5 b6
    go_wp2_with fail
    go_ret
    exact ⟨ret_bool (by rw [E.out]; rfl), B3.out⟩

end Go.Proofs.Ytadhophiannigaa.Rec
