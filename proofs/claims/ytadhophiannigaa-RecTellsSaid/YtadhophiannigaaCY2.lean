/- Walks: which records are the same, and have nothing but their kind, in the document. -/
import Derived.Test.YtadhophiannigaaCY1
import Derived.Test.YtadhophiannigaaCW5
namespace Go.Proofs.Ytadhophiannigaa.Rec
open Go.RowKit
attribute [local go_sem ↓] Go.wp_at_zero Go.wp_at_succ

set_option maxRecDepth 100000 in
set_option maxHeartbeats 1000000 in
theorem roll_neq {a b c d : Nat} (h : a = c ∧ b = d) (W : World) : (binOp .neq 26 (.agg #[.int .u32 (a : Int), .int .u16 (b : Int)]) (.agg #[.int .u32 (c : Int), .int .u16 (d : Int)])).run Try.prog W = .ok (.bool false) W := by
  obtain ⟨rfl, rfl⟩ := h
  go_simp
set_option maxRecDepth 100000 in
set_option maxHeartbeats 1000000 in
theorem roll_nne {a b c d : Nat} (h : ¬ (a = c ∧ b = d)) (W : World) : (binOp .neq 26 (.agg #[.int .u32 (a : Int), .int .u16 (b : Int)]) (.agg #[.int .u32 (c : Int), .int .u16 (d : Int)])).run Try.prog W = .ok (.bool true) W := by
  go_simp
  omega
theorem bne_yes2 {s t : ByteArray} (h : s ≠ t) : (s.toList != t.toList) = true := by simp only [bne, beq_no h, Bool.not_false]

set_option maxRecDepth 100000 in
set_option maxHeartbeats 4000000 in
theorem rsame_any {w : World} {a b : Rc} {d t d' t' : Value} (ha : InR w a d t) (hb : InR w b d' t') :
    Calls Try.prog 15 #[recV a d t, recV b d' t'] w fun e w' => e = .returned (.bool (sameC a b)) ∧ Below w.heap.size w w' := by
  have T0 := Lib.hid (R2.start w a b d t d' t')
  have K1 := Lib.hid (fun W (B : Below w.heap.size w W) => rsametab_any (ha.di.later B) (ha.ac.later B) (hb.di.later B) (hb.ac.later B) ha.wf.dirty ha.wf.txns hb.wf.dirty hb.wf.txns)
  have e : sameC a b = (decide (a.kind = b.kind) && (decide (a.tx = b.tx) && (decide (a.prev = b.prev) && (decide (a.page = b.page ∧ a.slot = b.slot) && (decide (a.next = b.next) && (decide (a.number = b.number) && (decide (a.body = b.body) && sameTab a b))))))) := rfl
  clear ha hb
  unfold tabV tabC at *
  generalize sameC a b = res at *
  generalize sameTab a b = c1 at *
  obtain ⟨akind, atx, aprev, apage, aslot, anext, anumber, abody, adirty, atxns, attx, atnum⟩ := a
  obtain ⟨bkind, btx, bprev, bpage, bslot, bnext, bnumber, bbody, bdirty, btxns, bttx, btnum⟩ := b
  simp only at *
  have E := Lib.hid e
  clear e
  obtain ⟨a0, a1, a2, a3, a4, a5, a6, a7, a8, a9, a10, a11⟩ := T0.out.a.all
  obtain ⟨b0, b1, b2, b3, b4, b5, b6, b7, b8, b9, b10, b11⟩ := T0.out.b.all
  unfold recV recC at *
  simp only at *
  have NO : Hid (res = false → (Calls Try.prog 15 #[recV ⟨akind, atx, aprev, apage, aslot, anext, anumber, abody, adirty, atxns, attx, atnum⟩ d t, recV ⟨bkind, btx, bprev, bpage, bslot, bnext, bnumber, bbody, bdirty, btxns, bttx, btnum⟩ d' t'] w fun e w' => e = .returned (.bool false) ∧ Below w.heap.size w w') → Calls Try.prog 15 #[recV ⟨akind, atx, aprev, apage, aslot, anext, anumber, abody, adirty, atxns, attx, atnum⟩ d t, recV ⟨bkind, btx, bprev, bpage, bslot, bnext, bnumber, bbody, bdirty, btxns, bttx, btnum⟩ d' t'] w fun e w' => e = .returned (.bool res) ∧ Below w.heap.size w w') := Lib.hid (by rintro rfl h; exact h)
  have B := Lib.hid T0.out.a.below
  by_cases h1 : akind = bkind
  rotate_left
  · have f := ne_no h1
    refine NO.out (by rw [E.out, decide_eq_false h1]; rfl) ?_
    clear NO E K1 h1 T0
    unfold recV recC
    go_enter Try.func15, Try.ntmps15
    go_wp2_with fail
    go_ret
    exact ⟨rfl, B.out⟩
  subst h1
  by_cases h1 : atx = btx
  rotate_left
  · have f := ne_no h1
    refine NO.out (by rw [E.out, decide_eq_false h1]; simp) ?_
    clear NO E K1 h1 T0
    unfold recV recC
    go_enter Try.func15, Try.ntmps15
    go_wp2_with fail
    go_ret
    exact ⟨rfl, B.out⟩
  subst h1
  by_cases h1 : aprev = bprev
  rotate_left
  · have f := ne_no h1
    refine NO.out (by rw [E.out, decide_eq_false h1]; simp) ?_
    clear NO E K1 h1 T0
    unfold recV recC
    go_enter Try.func15, Try.ntmps15
    go_wp2_with fail
    go_ret
    exact ⟨rfl, B.out⟩
  subst h1
  by_cases h1 : apage = bpage ∧ aslot = bslot
  rotate_left
  · have f := fun W => roll_nne h1 W
    refine NO.out (by rw [E.out, decide_eq_false h1]; simp) ?_
    clear NO E K1 h1 T0
    unfold recV recC
    go_enter Try.func15, Try.ntmps15
    go_wp2_with fail
    go_ret
    exact ⟨rfl, B.out⟩
  obtain ⟨rfl, rfl⟩ := h1
  have froll := fun W => roll_neq (a := apage) (b := aslot) ⟨rfl, rfl⟩ W
  by_cases h1 : anext = bnext
  rotate_left
  · have f := ne_no h1
    refine NO.out (by rw [E.out, decide_eq_false h1]; simp) ?_
    clear NO E K1 h1 T0
    unfold recV recC
    go_enter Try.func15, Try.ntmps15
    go_wp2_with fail
    go_ret
    exact ⟨rfl, B.out⟩
  subst h1
  by_cases h1 : anumber = bnumber
  rotate_left
  · have f := ne_no h1
    refine NO.out (by rw [E.out, decide_eq_false h1]; simp) ?_
    clear NO E K1 h1 T0
    unfold recV recC
    go_enter Try.func15, Try.ntmps15
    go_wp2_with fail
    go_ret
    exact ⟨rfl, B.out⟩
  subst h1
  by_cases h1 : abody = bbody
  rotate_left
  · have f := bne_yes2 h1
    have f2 := beq_no h1
    have f3 : ¬ abody.toList = bbody.toList := fun e => h1 (list_inj e)
    have f4 : ¬ bbody.toList = abody.toList := fun e => h1 (list_inj e.symm)
    refine NO.out (by rw [E.out, decide_eq_false h1]; simp) ?_
    clear NO E K1 h1 T0
    unfold recV recC
    go_enter Try.func15, Try.ntmps15
    go_wp2_with fail
    go_ret
    exact ⟨rfl, B.out⟩
  subst h1
  have e : res = c1 := by rw [E.out]; simp
  subst e
  clear E NO
  go_enter Try.func15, Try.ntmps15
  go_wp2_with fail
  refine (K1.out _ T0.out.b.below).mono ?_
  rintro e w1 ⟨rfl, b⟩
  have T1 := Lib.hid (T0.out.later b).a.below
  clear T0 b K1 a0 a1 a2 a3 a4 a5 a6 a7 a8 a9 a10 a11 b0 b1 b2 b3 b4 b5 b6 b7 b8 b9 b10 b11
  go_wp2_with fail
  go_ret
  exact ⟨rfl, T1.out⟩

set_option maxRecDepth 100000 in
set_option maxHeartbeats 4000000 in
theorem plain_any {w : World} {r : Rc} {d t : Value} (h : InR w r d t) :
    Calls Try.prog 26 #[recV r d t] w fun e w' => e = .returned (.bool (plainC r)) ∧ Below w.heap.size w w' := by
  have T0 := Lib.hid (Bx.start w r d t)
  have e : plainC r = (decide (r.page = 0 ∧ r.slot = 0) && (decide (r.next = 0) && (decide (r.number = 0) && (decide (r.body.size = 0) && (decide (r.dirty.length = 0) && (decide (r.txns.length = 0) && (decide (r.ttx = 0) && decide (r.tnum = 0)))))))) := rfl
  have l1 := h.wf.dirty
  have l2 := h.wf.txns
  obtain ⟨ad, c, rfl⟩ := h.di.form
  obtain ⟨ad2, c2, rfl⟩ := h.ac.form
  clear h
  generalize plainC r = res at *
  obtain ⟨kind, tx, prev, page, slot, next, number, body, dirty, txns, ttx, tnum⟩ := r
  simp only at *
  generalize dirty.length = n at *
  generalize txns.length = m at *
  have E := Lib.hid e
  clear e
  obtain ⟨a0, a1, a2, a3, a4, a5, a6, a7, a8, a9, a10, a11⟩ := T0.out.all
  have B := Lib.hid (T0.out.later (below_new _ (.cells #[.slice ad n c, .slice ad2 m c2, .int .u64 (ttx : Int), .int .u64 (tnum : Int)] 30))).below
  unfold recV recC at *
  simp only at *
  have NO : Hid (res = false → (Calls Try.prog 26 #[recV ⟨kind, tx, prev, page, slot, next, number, body, dirty, txns, ttx, tnum⟩ (.slice ad n c) (.slice ad2 m c2)] w fun e w' => e = .returned (.bool false) ∧ Below w.heap.size w w') → Calls Try.prog 26 #[recV ⟨kind, tx, prev, page, slot, next, number, body, dirty, txns, ttx, tnum⟩ (.slice ad n c) (.slice ad2 m c2)] w fun e w' => e = .returned (.bool res) ∧ Below w.heap.size w w') := Lib.hid (by rintro rfl h; exact h)
  by_cases h1 : page = 0 ∧ slot = 0
  rotate_left
  · have f := fun W => (show (binOp .eql 26 (.agg #[.int .u32 (page : Int), .int .u16 (slot : Int)]) (.agg #[.int .u32 0, .int .u16 0])).run Try.prog W = .ok (.bool false) W from roll_ne (c := 0) (d := 0) h1 W)
    refine NO.out (by rw [E.out, decide_eq_false h1]; rfl) ?_
    clear NO E h1 T0
    unfold recV recC
    go_enter Try.func26, Try.ntmps26
    go_wp2_with fail
    go_ret
    exact ⟨rfl, B.out⟩
  obtain ⟨rfl, rfl⟩ := h1
  have froll := fun W => (show (binOp .eql 26 (.agg #[.int .u32 ((0 : Nat) : Int), .int .u16 ((0 : Nat) : Int)]) (.agg #[.int .u32 0, .int .u16 0])).run Try.prog W = .ok (.bool true) W from roll_eq (a := 0) (b := 0) (c := 0) (d := 0) ⟨rfl, rfl⟩ W)
  by_cases h1 : next = 0
  rotate_left
  · have f : ((next : Int) == 0) = false := num_no h1
    refine NO.out (by rw [E.out, decide_eq_false h1]; simp) ?_
    clear NO E h1 T0
    unfold recV recC
    go_enter Try.func26, Try.ntmps26
    go_wp2_with fail
    go_ret
    exact ⟨rfl, B.out⟩
  subst h1
  by_cases h1 : number = 0
  rotate_left
  · have f : ((number : Int) == 0) = false := num_no h1
    refine NO.out (by rw [E.out, decide_eq_false h1]; simp) ?_
    clear NO E h1 T0
    unfold recV recC
    go_enter Try.func26, Try.ntmps26
    go_wp2_with fail
    go_ret
    exact ⟨rfl, B.out⟩
  subst h1
  by_cases h1 : body.size = 0
  rotate_left
  · have f := not_empty (s := body) (by omega)
    refine NO.out (by rw [E.out, decide_eq_false h1]; simp) ?_
    clear NO E h1 T0
    unfold recV recC
    go_enter Try.func26, Try.ntmps26
    go_wp2_with fail
    go_ret
    exact ⟨rfl, B.out⟩
  obtain rfl : body = ⟨#[]⟩ := ByteArray.ext (Array.eq_empty_of_size_eq_zero h1)
  by_cases h1 : n = 0
  rotate_left
  · have f : ((n : Int) == 0) = false := num_no h1
    refine NO.out (by rw [E.out, decide_eq_false h1]; simp) ?_
    clear NO E h1 T0
    unfold recV recC
    go_enter Try.func26, Try.ntmps26
    go_wp2_with fail
    go_ret
    exact ⟨rfl, B.out⟩
  subst h1
  by_cases h1 : m = 0
  rotate_left
  · have f : ((m : Int) == 0) = false := num_no h1
    refine NO.out (by rw [E.out, decide_eq_false h1]; simp) ?_
    clear NO E h1 T0
    unfold recV recC
    go_enter Try.func26, Try.ntmps26
    go_wp2_with fail
    go_ret
    exact ⟨rfl, B.out⟩
  subst h1
  by_cases h1 : ttx = 0
  rotate_left
  · have f : ((ttx : Int) == 0) = false := num_no h1
    refine NO.out (by rw [E.out, decide_eq_false h1]; simp) ?_
    clear NO E h1 T0
    unfold recV recC
    go_enter Try.func26, Try.ntmps26
    go_wp2_with fail
    go_ret
    exact ⟨rfl, B.out⟩
  subst h1
  have EE := Lib.hid (show res = decide (tnum = 0) by rw [E.out]; simp; intro _; rfl)
  clear E NO T0
  go_enter Try.func26, Try.ntmps26
  go_wp2_with fail
  all_goals
    go_ret
    exact ⟨ret_bool (by rw [EE.out, Bool.eq_iff_iff]; first | (simp only [beq_iff_eq, decide_eq_true_eq]; omega) | (simp; first | done | omega | (intro _; rfl))), B.out⟩

end Go.Proofs.Ytadhophiannigaa.Rec
