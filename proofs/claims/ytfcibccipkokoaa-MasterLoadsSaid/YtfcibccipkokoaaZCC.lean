/- Walks: the document's Load. -/
import Derived.Test.YtfcibccipkokoaaZCB
namespace Go.Proofs.Ytfcibccipkokoaa.Mas
open Go.RowKit
attribute [local go_sem ↓] Go.wp_at_zero Go.wp_at_succ

/-- the boxes of a call of the document's Load: the result's, two masters' -/
structure Rb (w0 w : World) (r p q : Nat) (x y : Ms) : Prop where
  res : Mb w0 w r Ms.zero
  a : Mb w0 w p x
  b : Mb w0 w q y

theorem stands_eq (s : ByteArray) (k : Nat) : stands s k = (isM s && decide ((rdM s).count % 2 = k)) := rfl

set_option maxRecDepth 100000 in
set_option maxHeartbeats 8000000 in
theorem rload_any (a b : ByteArray) (w : World) : Calls Try.prog 23 #[.string a, .string b] w (LoadP a b w) := by
  have T0 := Lib.hid (Mb.new Ms.zero (Below.refl w.heap.size w))
  have HP := Lib.hid (show ∀ (m : Ms) (x : Int) (W : World), loadM a b = m → loadE a b = x → Below w.heap.size w W → LoadP a b w (.returned (.tuple #[msV m, .int .i64 x])) W from fun m x W h1 h2 hb => ⟨by rw [h1, h2], hb⟩)
  have KA := Lib.hid (fun W => rdecode_any a W)
  have KB := Lib.hid (fun W => rdecode_any b W)
  have LO := Lib.hid (show loadO a b = if stands a 0 && (!stands b 1 || decide ((rdM b).count < (rdM a).count)) then some (rdM a) else if stands b 1 then some (rdM b) else none from rfl)
  have LM := Lib.hid (show ∀ o, loadO a b = o → loadM a b = o.getD Ms.zero ∧ loadE a b = if o.isSome then 0 else 120 from fun o h => by unfold loadM loadE; rw [h]; exact ⟨rfl, rfl⟩)
  have SA := Lib.hid (show isM a = false ∧ decM a = Ms.zero ∧ decE a = 7 ∧ stands a 0 = false ∨ isM a = true ∧ decM a = rdM a ∧ decE a = 0 ∧ ((rdM a).count % 2 = 0 ∧ stands a 0 = true ∨ (rdM a).count % 2 = 1 ∧ stands a 0 = false) from by
    cases h : isM a with
    | false => exact .inl ⟨rfl, (dec_no h).1, (dec_no h).2, by rw [stands_eq, h]; rfl⟩
    | true =>
      refine .inr ⟨rfl, (dec_yes h).1, (dec_yes h).2, ?_⟩
      have : (rdM a).count % 2 = 0 ∨ (rdM a).count % 2 = 1 := by omega
      rcases this with k | k
      · exact .inl ⟨k, by rw [stands_eq, h, k]; rfl⟩
      · exact .inr ⟨k, by rw [stands_eq, h, k]; rfl⟩)
  have SB := Lib.hid (show isM b = false ∧ decM b = Ms.zero ∧ decE b = 7 ∧ stands b 1 = false ∨ isM b = true ∧ decM b = rdM b ∧ decE b = 0 ∧ ((rdM b).count % 2 = 1 ∧ stands b 1 = true ∨ (rdM b).count % 2 = 0 ∧ stands b 1 = false) from by
    cases h : isM b with
    | false => exact .inl ⟨rfl, (dec_no h).1, (dec_no h).2, by rw [stands_eq, h]; rfl⟩
    | true =>
      refine .inr ⟨rfl, (dec_yes h).1, (dec_yes h).2, ?_⟩
      have : (rdM b).count % 2 = 0 ∨ (rdM b).count % 2 = 1 := by omega
      rcases this with k | k
      · exact .inr ⟨k, by rw [stands_eq, h, k]; rfl⟩
      · exact .inl ⟨k, by rw [stands_eq, h, k]; rfl⟩)
  unfold DecP at KA KB
  have TM := Lib.hid (show ∀ n : Nat, ((n : Int).tmod 2) = ((n % 2 : Nat) : Int) from fun n => by rw [Int.tmod_eq_emod_of_nonneg (by omega)]; rfl)
  have hZ : msC Ms.zero = #[.int .u64 0, .int .u64 0, .int .u64 0, .int .u64 0, .bool false] := rfl
  rw [hZ] at T0
  clear hZ
  obtain ⟨x, hx⟩ : ∃ x, x = decM a := ⟨_, rfl⟩
  obtain ⟨y, hy⟩ : ∃ y, y = decM b := ⟨_, rfl⟩
  obtain ⟨ea, hea⟩ : ∃ x, x = decE a := ⟨_, rfl⟩
  obtain ⟨eb, heb⟩ : ∃ x, x = decE b := ⟨_, rfl⟩
  rw [← hx, ← hea] at KA SA
  rw [← hy, ← heb] at KB SB
  clear hx hy hea heb
  unfold msV at KA KB
  generalize hC : msC x = C at *
  generalize hC2 : msC y = C2 at *
  unfold msC at hC hC2
  subst hC hC2
  go_enter Try.func23, Try.ntmps23
  go_wp2_with fail
  refine (KA.out _).mono ?_
  rintro e w1 ⟨rfl, b1⟩
  have T1 := Lib.hid (T0.out.later b1)
  have A1 := Lib.hid (Mb.new x (T0.out.later b1).below)
  have T2 := Lib.hid (T1.out.later (below_new w1 (.cells (msC x) 40)))
  clear b1 T0 T1 KA
  unfold msC at A1 T2
  go_upto_region 2 with fail
  generalize w1.heap.size = p at *
  generalize World.alloc w1 _ = W1 at *
  go_wp2_with fail
  refine (KB.out _).mono ?_
  rintro e w2 ⟨rfl, b2⟩
  have R := Lib.hid (show Rb w (w2.alloc (.cells (msC y) 40)) w.heap.size p w2.heap.size x y from by
    have t := T2.out.later b2
    exact ⟨t.later (below_new w2 _), (A1.out.later b2).later (below_new w2 _), Mb.new y t.below⟩)
  clear b2 T2 A1 KB
  unfold msC at R
  go_upto_region 3 with fail
  generalize w2.heap.size = q at *
  generalize World.alloc w2 _ = W2 at *
  obtain ⟨p0, p1, p2, p3, p4⟩ := R.out.a.five
  obtain ⟨q0, q1, q2, q3, q4⟩ := R.out.b.five
  have HB := Lib.hid R.out.res.box
  have HL := Lib.hid R.out.res.below
  clear R
  have tx := TM.out x.count
  have ty := TM.out y.count
  clear TM
  have CMP : (rdM b).count < (rdM a).count ∨ ¬ (rdM b).count < (rdM a).count := Decidable.em _
  have HX := Lib.hid SA.out
  rcases SA.out with ⟨i1, x1, x2, x3⟩ | ⟨i1, x1, x2, ⟨x3, x4⟩ | ⟨x3, x4⟩⟩
  · rcases SB.out with ⟨j1, y1, y2, y3⟩ | ⟨j1, y1, y2, ⟨y3, y4⟩ | ⟨y3, y4⟩⟩
    · have RES : Hid (loadM a b = Ms.zero ∧ loadE a b = 120) := Lib.hid (LM.out (none) (by rw [LO.out, x3, y3]; rfl))
      subst x2
      subst y2
      clear LO LM SA SB HX CMP i1 j1 x3 y3 x1 y1
      go_wp2_with (refine wpList_store_row rfl 40 _ _ rfl w.heap.size (msC (Ms.zero)) rfl rfl 40 (msC Ms.zero) HB.out info_ms rfl (ms_one _) ?_)
      exact bodyPost_ret (v := .tuple #[msV Ms.zero, .int .i64 120]) (results_two Try.results23 _ _ w.heap.size (msC Ms.zero) 120 rfl rfl (setRow_heap _ _ _ _ _ _ HB.out) Try.underlying40 info_ms) rfl (HP.out Ms.zero 120 _ RES.out.1 RES.out.2 (below_setRow HL.out (Nat.le_refl _) _))
    · have RES : Hid (loadM a b = y ∧ loadE a b = 0) := Lib.hid (LM.out (some y) (by rw [LO.out, x3, y4]; rw [y1]; rfl))
      subst x2
      rw [← y1] at y3
      rw [y3] at ty
      subst y2
      clear LO LM SA SB HX CMP i1 j1 x3 y3 x1 y1 y4
      go_wp2_with (refine wpList_store_row rfl 40 _ _ rfl w.heap.size (msC y) rfl rfl 40 (msC Ms.zero) HB.out info_ms rfl (ms_one _) ?_)
      exact bodyPost_ret (v := .tuple #[msV y, .int .i64 0]) (results_two Try.results23 _ _ w.heap.size (msC y) 0 rfl rfl (setRow_heap _ _ _ _ _ _ HB.out) Try.underlying40 info_ms) rfl (HP.out y 0 _ RES.out.1 RES.out.2 (below_setRow HL.out (Nat.le_refl _) _))
    · have RES : Hid (loadM a b = Ms.zero ∧ loadE a b = 120) := Lib.hid (LM.out (none) (by rw [LO.out, x3, y4]; rfl))
      subst x2
      rw [← y1] at y3
      rw [y3] at ty
      subst y2
      clear LO LM SA SB HX CMP i1 j1 x3 y3 x1 y1 y4
      go_wp2_with (refine wpList_store_row rfl 40 _ _ rfl w.heap.size (msC (Ms.zero)) rfl rfl 40 (msC Ms.zero) HB.out info_ms rfl (ms_one _) ?_)
      exact bodyPost_ret (v := .tuple #[msV Ms.zero, .int .i64 120]) (results_two Try.results23 _ _ w.heap.size (msC Ms.zero) 120 rfl rfl (setRow_heap _ _ _ _ _ _ HB.out) Try.underlying40 info_ms) rfl (HP.out Ms.zero 120 _ RES.out.1 RES.out.2 (below_setRow HL.out (Nat.le_refl _) _))
  · rcases SB.out with ⟨j1, y1, y2, y3⟩ | ⟨j1, y1, y2, ⟨y3, y4⟩ | ⟨y3, y4⟩⟩
    · have RES : Hid (loadM a b = x ∧ loadE a b = 0) := Lib.hid (LM.out (some x) (by rw [LO.out, x4, y3]; rw [x1]; rfl))
      rw [← x1] at x3
      rw [x3] at tx
      subst x2
      subst y2
      clear LO LM SA SB HX CMP i1 j1 x3 y3 x1 y1 x4
      go_wp2_with (refine wpList_store_row rfl 40 _ _ rfl w.heap.size (msC x) rfl rfl 40 (msC Ms.zero) HB.out info_ms rfl (ms_one _) ?_)
      exact bodyPost_ret (v := .tuple #[msV x, .int .i64 0]) (results_two Try.results23 _ _ w.heap.size (msC x) 0 rfl rfl (setRow_heap _ _ _ _ _ _ HB.out) Try.underlying40 info_ms) rfl (HP.out x 0 _ RES.out.1 RES.out.2 (below_setRow HL.out (Nat.le_refl _) _))
    · rcases CMP with hc | hc
      · have RES : Hid (loadM a b = x ∧ loadE a b = 0) := Lib.hid (LM.out (some x) (by rw [LO.out, x4, y4, decide_eq_true hc]; rw [x1]; rfl))
        rw [← x1] at x3
        rw [x3] at tx
        subst x2
        rw [← y1] at y3
        rw [y3] at ty
        subst y2
        rw [← x1, ← y1] at hc
        have hc2 : decide ((y.count : Int) < (x.count : Int)) = true := decide_eq_true (by omega)
        have hc3 : decide (y.count < x.count) = true := decide_eq_true hc
        clear LO LM SA SB HX i1 j1 x3 y3 x1 y1 x4 y4
        go_wp2_with (refine wpList_store_row rfl 40 _ _ rfl w.heap.size (msC x) rfl rfl 40 (msC Ms.zero) HB.out info_ms rfl (ms_one _) ?_)
        exact bodyPost_ret (v := .tuple #[msV x, .int .i64 0]) (results_two Try.results23 _ _ w.heap.size (msC x) 0 rfl rfl (setRow_heap _ _ _ _ _ _ HB.out) Try.underlying40 info_ms) rfl (HP.out x 0 _ RES.out.1 RES.out.2 (below_setRow HL.out (Nat.le_refl _) _))
      · have RES : Hid (loadM a b = y ∧ loadE a b = 0) := Lib.hid (LM.out (some y) (by rw [LO.out, x4, y4, decide_eq_false hc]; rw [y1]; rfl))
        rw [← x1] at x3
        rw [x3] at tx
        subst x2
        rw [← y1] at y3
        rw [y3] at ty
        subst y2
        rw [← x1, ← y1] at hc
        have hc2 : decide ((y.count : Int) < (x.count : Int)) = false := decide_eq_false (by omega)
        have hc3 : decide (y.count < x.count) = false := decide_eq_false hc
        clear hc
        clear LO LM SA SB HX i1 j1 x3 y3 x1 y1 x4 y4
        go_wp2_with (refine wpList_store_row rfl 40 _ _ rfl w.heap.size (msC y) rfl rfl 40 (msC Ms.zero) HB.out info_ms rfl (ms_one _) ?_)
        exact bodyPost_ret (v := .tuple #[msV y, .int .i64 0]) (results_two Try.results23 _ _ w.heap.size (msC y) 0 rfl rfl (setRow_heap _ _ _ _ _ _ HB.out) Try.underlying40 info_ms) rfl (HP.out y 0 _ RES.out.1 RES.out.2 (below_setRow HL.out (Nat.le_refl _) _))
    · have RES : Hid (loadM a b = x ∧ loadE a b = 0) := Lib.hid (LM.out (some x) (by rw [LO.out, x4, y4]; rw [x1]; rfl))
      rw [← x1] at x3
      rw [x3] at tx
      subst x2
      rw [← y1] at y3
      rw [y3] at ty
      subst y2
      clear LO LM SA SB HX CMP i1 j1 x3 y3 x1 y1 x4 y4
      go_wp2_with (refine wpList_store_row rfl 40 _ _ rfl w.heap.size (msC x) rfl rfl 40 (msC Ms.zero) HB.out info_ms rfl (ms_one _) ?_)
      exact bodyPost_ret (v := .tuple #[msV x, .int .i64 0]) (results_two Try.results23 _ _ w.heap.size (msC x) 0 rfl rfl (setRow_heap _ _ _ _ _ _ HB.out) Try.underlying40 info_ms) rfl (HP.out x 0 _ RES.out.1 RES.out.2 (below_setRow HL.out (Nat.le_refl _) _))
  · rcases SB.out with ⟨j1, y1, y2, y3⟩ | ⟨j1, y1, y2, ⟨y3, y4⟩ | ⟨y3, y4⟩⟩
    · have RES : Hid (loadM a b = Ms.zero ∧ loadE a b = 120) := Lib.hid (LM.out (none) (by rw [LO.out, x4, y3]; rfl))
      rw [← x1] at x3
      rw [x3] at tx
      subst x2
      subst y2
      clear LO LM SA SB HX CMP i1 j1 x3 y3 x1 y1 x4
      go_wp2_with (refine wpList_store_row rfl 40 _ _ rfl w.heap.size (msC (Ms.zero)) rfl rfl 40 (msC Ms.zero) HB.out info_ms rfl (ms_one _) ?_)
      exact bodyPost_ret (v := .tuple #[msV Ms.zero, .int .i64 120]) (results_two Try.results23 _ _ w.heap.size (msC Ms.zero) 120 rfl rfl (setRow_heap _ _ _ _ _ _ HB.out) Try.underlying40 info_ms) rfl (HP.out Ms.zero 120 _ RES.out.1 RES.out.2 (below_setRow HL.out (Nat.le_refl _) _))
    · have RES : Hid (loadM a b = y ∧ loadE a b = 0) := Lib.hid (LM.out (some y) (by rw [LO.out, x4, y4]; rw [y1]; rfl))
      rw [← x1] at x3
      rw [x3] at tx
      subst x2
      rw [← y1] at y3
      rw [y3] at ty
      subst y2
      clear LO LM SA SB HX CMP i1 j1 x3 y3 x1 y1 x4 y4
      go_wp2_with (refine wpList_store_row rfl 40 _ _ rfl w.heap.size (msC y) rfl rfl 40 (msC Ms.zero) HB.out info_ms rfl (ms_one _) ?_)
      exact bodyPost_ret (v := .tuple #[msV y, .int .i64 0]) (results_two Try.results23 _ _ w.heap.size (msC y) 0 rfl rfl (setRow_heap _ _ _ _ _ _ HB.out) Try.underlying40 info_ms) rfl (HP.out y 0 _ RES.out.1 RES.out.2 (below_setRow HL.out (Nat.le_refl _) _))
    · have RES : Hid (loadM a b = Ms.zero ∧ loadE a b = 120) := Lib.hid (LM.out (none) (by rw [LO.out, x4, y4]; rfl))
      rw [← x1] at x3
      rw [x3] at tx
      subst x2
      rw [← y1] at y3
      rw [y3] at ty
      subst y2
      clear LO LM SA SB HX CMP i1 j1 x3 y3 x1 y1 x4 y4
      go_wp2_with (refine wpList_store_row rfl 40 _ _ rfl w.heap.size (msC (Ms.zero)) rfl rfl 40 (msC Ms.zero) HB.out info_ms rfl (ms_one _) ?_)
      exact bodyPost_ret (v := .tuple #[msV Ms.zero, .int .i64 120]) (results_two Try.results23 _ _ w.heap.size (msC Ms.zero) 120 rfl rfl (setRow_heap _ _ _ _ _ _ HB.out) Try.underlying40 info_ms) rfl (HP.out Ms.zero 120 _ RES.out.1 RES.out.2 (below_setRow HL.out (Nat.le_refl _) _))

end Go.Proofs.Ytfcibccipkokoaa.Mas
