/- Walks: whether two records are the same; which tables may be. -/
import Derived.Test.YtadhophiannigaaCW3
import Derived.Lib.Strings
namespace Go.Proofs.Ytadhophiannigaa.Rec
open Go.RowKit
attribute [local go_sem ↓] Go.wp_at_zero Go.wp_at_succ

theorem list_inj {a b : ByteArray} (h : a.toList = b.toList) : a = b := by
  rw [Lib.toList_data, Lib.toList_data] at h
  exact ByteArray.ext (Array.toList_inj.1 h)
theorem beq_yes (s : ByteArray) : (s.toList == s.toList) = true := by simp
theorem beq_no {s t : ByteArray} (h : s ≠ t) : (s.toList == t.toList) = false := by
  rw [beq_eq_false_iff_ne]
  exact fun e => h (list_inj e)
theorem num_no {x y : Nat} (h : x ≠ y) : ((x : Int) == (y : Int)) = false := by rw [beq_eq_false_iff_ne]; omega

/-- the boxes of two tables -/
structure T2 (W0 w : World) (g q : Nat) (a b : Rc) (d t d' t' : Value) : Prop where
  a : Tb W0 w g a d t
  b : Tb W0 w q b d' t'
theorem T2.start (w : World) (a b : Rc) (d t d' t' : Value) : T2 w ((w.alloc (.cells (tabC a d t) 30)).alloc (.cells (tabC b d' t') 30)) w.heap.size (w.heap.size + 1) a b d t d' t' := by
  have t1 := Tb.start w a d t
  have b1 := below_new (w.alloc (.cells (tabC a d t) 30)) (.cells (tabC b d' t') 30)
  have z : (w.alloc (.cells (tabC a d t) 30)).heap.size = w.heap.size + 1 := by simp
  have t2 := Tb.make (w := w.alloc (.cells (tabC a d t) 30)) b d' t' t1.below
  rw [z] at t2
  exact ⟨t1.later b1, t2⟩
theorem T2.later {W0 w w' : World} {g q : Nat} {a b : Rc} {d t d' t' : Value} (h : T2 W0 w g q a b d t d' t') (c : Below w.heap.size w w') : T2 W0 w' g q a b d t d' t' := ⟨h.a.later c, h.b.later c⟩

set_option maxRecDepth 100000 in
set_option maxHeartbeats 1000000 in
theorem sametab_any {w : World} {a b : Rc} {d t d' t' : Value} (hd : IsDi w d a.dirty) (ht : IsAc w t a.txns) (hd' : IsDi w d' b.dirty) (ht' : IsAc w t' b.txns) (l1 : a.dirty.length ≤ 140737488351232) (l2 : a.txns.length ≤ 140737488351232) (l3 : b.dirty.length ≤ 140737488351232) (l4 : b.txns.length ≤ 140737488351232) :
    Calls Try.prog 29 #[tabV a d t, tabV b d' t'] w fun e w' => e = .returned (.bool (sameTab a b)) ∧ Below w.heap.size w w' := by
  have T0 := Lib.hid (T2.start w a b d t d' t')
  have K1 := Lib.hid (fun W (B : Below w.heap.size w W) => eqdi_any (hd.later B) (hd'.later B) l1 l3)
  have K2 := Lib.hid (fun W (B : Below w.heap.size w W) => eqac_any (ht.later B) (ht'.later B) l2 l4)
  have e : sameTab a b = (decide (a.ttx = b.ttx) && (decide (a.tnum = b.tnum) && (decide (a.dirty = b.dirty) && decide (a.txns = b.txns)))) := rfl
  clear hd ht hd' ht' l1 l2 l3 l4
  generalize sameTab a b = res at *
  obtain ⟨akind, atx, aprev, apage, aslot, anext, anumber, abody, adirty, atxns, attx, atnum⟩ := a
  obtain ⟨bkind, btx, bprev, bpage, bslot, bnext, bnumber, bbody, bdirty, btxns, bttx, btnum⟩ := b
  simp only at *
  generalize decide (adirty = bdirty) = c1 at *
  generalize decide (atxns = btxns) = c2 at *
  have E := Lib.hid e
  clear e
  obtain ⟨a0, a1, a2, a3⟩ := T0.out.a.all
  obtain ⟨b0, b1, b2, b3⟩ := T0.out.b.all
  unfold tabV tabC at *
  simp only at *
  by_cases h1 : attx = bttx
  · subst h1
    by_cases h2 : atnum = btnum
    · subst h2
      have e : res = (c1 && c2) := by rw [E.out]; simp
      have EE := Lib.hid e
      clear e E
      go_enter Try.func29, Try.ntmps29
      go_wp2_with fail
      refine (K1.out _ T0.out.b.below).mono ?_
      rintro e w1 ⟨rfl, b⟩
      have T1 := Lib.hid (T0.out.later b)
      clear T0 b K1 a0 a1 a2 a3 b0 b1 b2 b3
      obtain ⟨a0, a1, a2, a3⟩ := T1.out.a.all
      obtain ⟨b0, b1, b2, b3⟩ := T1.out.b.all
      simp only at *
      cases c1 with
      | false =>
        go_wp2_with fail
        go_ret
        exact ⟨ret_bool (by rw [EE.out]; rfl), T1.out.a.below⟩
      | true =>
        go_wp2_with fail
        refine (K2.out _ T1.out.b.below).mono ?_
        rintro e w2 ⟨rfl, b⟩
        have B2 := Lib.hid (T1.out.later b).a.below
        clear T1 b K2 a0 a1 a2 a3 b0 b1 b2 b3
        go_wp2_with fail
        go_ret
        exact ⟨ret_bool (by rw [EE.out]; rfl), B2.out⟩
    · have f := num_no h2
      have e : res = false := by rw [E.out, decide_eq_false h2]; simp
      have EE := Lib.hid e
      clear e E K1 K2 h2
      go_enter Try.func29, Try.ntmps29
      go_wp2_with fail
      go_ret
      exact ⟨ret_bool EE.out.symm, T0.out.a.below⟩
  · have f := num_no h1
    have e : res = false := by rw [E.out, decide_eq_false h1]; simp
    have EE := Lib.hid e
    clear e E K1 K2 h1
    go_enter Try.func29, Try.ntmps29
    go_wp2_with fail
    go_ret
    exact ⟨ret_bool EE.out.symm, T0.out.a.below⟩

/-- the boxes of two records -/
structure R2 (W0 w : World) (g q : Nat) (a b : Rc) (d t d' t' : Value) : Prop where
  a : Bx W0 w g a d t
  b : Bx W0 w q b d' t'
theorem R2.start (w : World) (a b : Rc) (d t d' t' : Value) : R2 w ((w.alloc (.cells (recC a d t) 32)).alloc (.cells (recC b d' t') 32)) w.heap.size (w.heap.size + 1) a b d t d' t' := by
  have t1 := Bx.start w a d t
  have b1 := below_new (w.alloc (.cells (recC a d t) 32)) (.cells (recC b d' t') 32)
  have z : (w.alloc (.cells (recC a d t) 32)).heap.size = w.heap.size + 1 := by simp
  have t2 := Bx.make (w := w.alloc (.cells (recC a d t) 32)) b d' t' t1.below
  rw [z] at t2
  exact ⟨t1.later b1, t2⟩
theorem R2.later {W0 w w' : World} {g q : Nat} {a b : Rc} {d t d' t' : Value} (h : R2 W0 w g q a b d t d' t') (c : Below w.heap.size w w') : R2 W0 w' g q a b d t d' t' := ⟨h.a.later c, h.b.later c⟩

set_option maxRecDepth 100000 in
set_option maxHeartbeats 1000000 in
theorem roll_eq {a b c d : Nat} (h : a = c ∧ b = d) (W : World) : (binOp .eql 26 (.agg #[.int .u32 (a : Int), .int .u16 (b : Int)]) (.agg #[.int .u32 (c : Int), .int .u16 (d : Int)])).run Try.prog W = .ok (.bool true) W := by
  obtain ⟨rfl, rfl⟩ := h
  go_simp
set_option maxRecDepth 100000 in
set_option maxHeartbeats 1000000 in
theorem roll_ne {a b c d : Nat} (h : ¬ (a = c ∧ b = d)) (W : World) : (binOp .eql 26 (.agg #[.int .u32 (a : Int), .int .u16 (b : Int)]) (.agg #[.int .u32 (c : Int), .int .u16 (d : Int)])).run Try.prog W = .ok (.bool false) W := by
  go_simp
  omega

set_option maxRecDepth 100000 in
set_option maxHeartbeats 4000000 in
theorem same_any {w : World} {a b : Rc} {d t d' t' : Value} (ha : InR w a d t) (hb : InR w b d' t') :
    Calls Try.prog 14 #[recV a d t, recV b d' t'] w fun e w' => e = .returned (.bool (sameC a b)) ∧ Below w.heap.size w w' := by
  have T0 := Lib.hid (R2.start w a b d t d' t')
  have K1 := Lib.hid (fun W (B : Below w.heap.size w W) => sametab_any (ha.di.later B) (ha.ac.later B) (hb.di.later B) (hb.ac.later B) ha.wf.dirty ha.wf.txns hb.wf.dirty hb.wf.txns)
  have e : sameC a b = (decide (a.kind = b.kind) && (decide (a.tx = b.tx) && (decide (a.prev = b.prev) && (decide (a.page = b.page ∧ a.slot = b.slot) && (decide (a.next = b.next) && (decide (a.number = b.number) && (decide (a.body = b.body) && sameTab a b))))))) := rfl
  clear ha hb
  unfold tabV tabC at *
  generalize sameC a b = res at *
  generalize sameTab a b = c1 at *
  obtain ⟨akind, atx, aprev, apage, aslot, anext, anumber, abody, adirty, atxns, attx, atnum⟩ := a
  obtain ⟨bkind, btx, bprev, bpage, bslot, bnext, bnumber, bbody, bdirty, btxns, bttx, btnum⟩ := b
  simp only at *
  have E := Lib.hid e
  clear e
  obtain ⟨a0, a1, a2, a3, a4, a5, a6, a7, a8, a9, a10, a11⟩ := T0.out.a.all
  obtain ⟨b0, b1, b2, b3, b4, b5, b6, b7, b8, b9, b10, b11⟩ := T0.out.b.all
  unfold recV recC at *
  simp only at *
  have NO : Hid (res = false → (Calls Try.prog 14 #[recV ⟨akind, atx, aprev, apage, aslot, anext, anumber, abody, adirty, atxns, attx, atnum⟩ d t, recV ⟨bkind, btx, bprev, bpage, bslot, bnext, bnumber, bbody, bdirty, btxns, bttx, btnum⟩ d' t'] w fun e w' => e = .returned (.bool false) ∧ Below w.heap.size w w') → Calls Try.prog 14 #[recV ⟨akind, atx, aprev, apage, aslot, anext, anumber, abody, adirty, atxns, attx, atnum⟩ d t, recV ⟨bkind, btx, bprev, bpage, bslot, bnext, bnumber, bbody, bdirty, btxns, bttx, btnum⟩ d' t'] w fun e w' => e = .returned (.bool res) ∧ Below w.heap.size w w') := Lib.hid (by rintro rfl h; exact h)
  have B := Lib.hid T0.out.a.below
  by_cases h1 : akind = bkind
  rotate_left
  · have f := num_no h1
    refine NO.out (by rw [E.out, decide_eq_false h1]; rfl) ?_
    clear NO E K1 h1 T0
    unfold recV recC
    go_enter Try.func14, Try.ntmps14
    go_wp2_with fail
    go_ret
    exact ⟨rfl, B.out⟩
  subst h1
  by_cases h1 : atx = btx
  rotate_left
  · have f := num_no h1
    refine NO.out (by rw [E.out, decide_eq_false h1]; simp) ?_
    clear NO E K1 h1 T0
    unfold recV recC
    go_enter Try.func14, Try.ntmps14
    go_wp2_with fail
    go_ret
    exact ⟨rfl, B.out⟩
  subst h1
  by_cases h1 : aprev = bprev
  rotate_left
  · have f := num_no h1
    refine NO.out (by rw [E.out, decide_eq_false h1]; simp) ?_
    clear NO E K1 h1 T0
    unfold recV recC
    go_enter Try.func14, Try.ntmps14
    go_wp2_with fail
    go_ret
    exact ⟨rfl, B.out⟩
  subst h1
  by_cases h1 : apage = bpage ∧ aslot = bslot
  rotate_left
  · have f := fun W => roll_ne h1 W
    refine NO.out (by rw [E.out, decide_eq_false h1]; simp) ?_
    clear NO E K1 h1 T0
    unfold recV recC
    go_enter Try.func14, Try.ntmps14
    go_wp2_with fail
    go_ret
    exact ⟨rfl, B.out⟩
  obtain ⟨rfl, rfl⟩ := h1
  have froll := fun W => roll_eq (a := apage) (b := aslot) ⟨rfl, rfl⟩ W
  by_cases h1 : anext = bnext
  rotate_left
  · have f := num_no h1
    refine NO.out (by rw [E.out, decide_eq_false h1]; simp) ?_
    clear NO E K1 h1 T0
    unfold recV recC
    go_enter Try.func14, Try.ntmps14
    go_wp2_with fail
    go_ret
    exact ⟨rfl, B.out⟩
  subst h1
  by_cases h1 : anumber = bnumber
  rotate_left
  · have f := num_no h1
    refine NO.out (by rw [E.out, decide_eq_false h1]; simp) ?_
    clear NO E K1 h1 T0
    unfold recV recC
    go_enter Try.func14, Try.ntmps14
    go_wp2_with fail
    go_ret
    exact ⟨rfl, B.out⟩
  subst h1
  by_cases h1 : abody = bbody
  rotate_left
  · have f := beq_no h1
    refine NO.out (by rw [E.out, decide_eq_false h1]; simp) ?_
    clear NO E K1 h1 T0
    unfold recV recC
    go_enter Try.func14, Try.ntmps14
    go_wp2_with fail
    go_ret
    exact ⟨rfl, B.out⟩
  subst h1
  have e : res = c1 := by rw [E.out]; simp
  subst e
  clear E NO
  go_enter Try.func14, Try.ntmps14
  go_wp2_with fail
  refine (K1.out _ T0.out.b.below).mono ?_
  rintro e w1 ⟨rfl, b⟩
  have T1 := Lib.hid (T0.out.later b).a.below
  clear T0 b K1 a0 a1 a2 a3 a4 a5 a6 a7 a8 a9 a10 a11 b0 b1 b2 b3 b4 b5 b6 b7 b8 b9 b10 b11
  go_wp2_with fail
  go_ret
  exact ⟨rfl, T1.out⟩

end Go.Proofs.Ytadhophiannigaa.Rec
