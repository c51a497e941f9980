/- Walks: each kind of record has just what it has. -/
import Derived.Test.YtadhophiannigaaCL0
import Derived.Test.YtadhophiannigaaCY2
import Derived.Test.YtadhophiannigaaCK0
import Derived.Laws.BitsAllLaws
namespace Go.Proofs.Ytadhophiannigaa.Rec
open Go.RowKit
attribute [local go_sem ↓] Go.wp_at_zero Go.wp_at_succ

theorem or_u64 (n : Nat) (h : n < 18446744073709551616) : bits .or .u64 (n : Int) 1 = ((n ||| 1 : Nat) : Int) := by
  show IntKind.u64.wrap ((BitVec.ofInt 64 (n : Int) ||| BitVec.ofInt 64 ((1 : Nat) : Int)).toNat : Int) = _
  rw [BitVec.toNat_or, ofInt_u64 n h, ofInt_u64 1 (by omega)]
  have := or_one_lt h
  show ((n ||| 1 : Nat) : Int) % 2 ^ 64 = _
  exact Int.emod_eq_of_lt (by omega) (by omega)
/-- a record in its box, and its other one in a box behind it -/
structure Kb (W0 W5 w : World) (q g : Nat) (r x : Rc) (d t d2 t2 : Value) : Prop where
  a : Bx W0 w q r d t
  b : w.heap[g]? = some (.cells (recC x d2 t2) 32 (0, 0))
  s : Below W5.heap.size W5 w
  i : InR W5 r d2 t2
  hg : W5.heap.size ≤ g
  hq : q < g
  h0 : W0.heap.size ≤ g
theorem Kb.later {W0 W5 w w' : World} {q g : Nat} {r x : Rc} {d t d2 t2 : Value} (h : Kb W0 W5 w q g r x d t d2 t2) (b : Below w.heap.size w w') : Kb W0 W5 w' q g r x d t d2 t2 :=
  ⟨h.a.later b, (b.block g (Array.getElem?_eq_some_iff.1 h.b).1).trans h.b, h.s.trans (b.mono h.s.size), h.i, h.hg, h.hq, h.h0⟩
theorem Kb.part {W0 W5 w : World} {q g : Nat} {r x x' : Rc} {d t d2 t2 : Value} (h : Kb W0 W5 w q g r x d t d2 t2) (j : Nat) (v : Value) (e : (recC x d2 t2).setIfInBounds j v = recC x' d2 t2) : Kb W0 W5 (w.setCell ⟨g, j, none⟩ v) q g r x' d t d2 t2 :=
  ⟨⟨by rw [heap_setCell_other _ _ _ _ (show q ≠ g from Nat.ne_of_lt h.hq)]; exact h.a.box, h.a.below.setCell h.h0 _⟩, by rw [heap_setCell_same w g j _ _ _ h.b, e], h.s.setCell h.hg _, h.i, h.hg, h.hq, h.h0⟩
theorem Kb.start {W0 W5 : World} {q : Nat} {r : Rc} {d t d2 t2 : Value} (h : Bx W0 W5 q r d t) (i : InR W5 r d2 t2) : Kb W0 W5 (W5.alloc (.cells (recC r d2 t2) 32)) q W5.heap.size r r d t d2 t2 :=
  ⟨h.later (below_new _ _), heap_alloc_new _ _, below_new _ _, i, Nat.le_refl _, (Array.getElem?_eq_some_iff.1 h.box).1, h.below.size⟩
theorem Kb.inr {W0 W5 w : World} {q g : Nat} {r x : Rc} {d t d2 t2 : Value} (h : Kb W0 W5 w q g r x d t d2 t2) (wf : x.wf) (e1 : x.dirty = r.dirty) (e2 : x.txns = r.txns) : InR w x d2 t2 :=
  ⟨wf, by rw [e1]; exact h.i.di.later h.s, by rw [e2]; exact h.i.ac.later h.s⟩
theorem Kb.all {W0 W5 w : World} {q g : Nat} {r x : Rc} {d t d2 t2 : Value} (h : Kb W0 W5 w q g r x d t d2 t2) : (w.cell? ⟨g, 0, none⟩ = some (.int .u8 (x.kind : Int)) ∧ w.cell? ⟨g, 1, none⟩ = some (.int .u64 (x.tx : Int)) ∧ w.cell? ⟨g, 2, none⟩ = some (.int .u64 (x.prev : Int)) ∧ w.cell? ⟨g, 3, none⟩ = some (.int .u32 (x.page : Int)) ∧ w.cell? ⟨g, 4, none⟩ = some (.int .u16 (x.slot : Int)) ∧ w.cell? ⟨g, 5, none⟩ = some (.int .u64 (x.next : Int)) ∧ w.cell? ⟨g, 6, none⟩ = some (.int .u64 (x.number : Int)) ∧ w.cell? ⟨g, 7, none⟩ = some (.string x.body) ∧ w.cell? ⟨g, 8, none⟩ = some (d2) ∧ w.cell? ⟨g, 9, none⟩ = some (t2) ∧ w.cell? ⟨g, 10, none⟩ = some (.int .u64 (x.ttx : Int)) ∧ w.cell? ⟨g, 11, none⟩ = some (.int .u64 (x.tnum : Int))) :=
  Bx.all (W0 := w) ⟨h.b, Below.refl _ _⟩
theorem Kb.fz {W0 W5 w : World} {q g : Nat} {r x : Rc} {d t d2 t2 : Value} (h : Kb W0 W5 w q g r x d t d2 t2) (j : Nat) : w.frozen? ⟨g, j, none⟩ = false := frozen_of_row _ _ _ _ _ h.b

set_option maxRecDepth 100000 in
set_option maxHeartbeats 4000000 in
theorem kinds_nat {w : World} {r : Rc} {d t : Value} {p n : Nat} (h : InR w r d t) (hp : p < 256) (hn : n < 18446744073709551616) :
    Calls Try.prog 6 #[recV r d t, .int .u8 (p : Int), .int .u64 (n : Int)] w fun e w' => e = .returned (.bool true) ∧ Below w.heap.size w w' := by
  have T0 := Lib.hid (Bx.start w r d t)
  have H := Lib.hid h
  have KH := Lib.hid (fun W (B : Below w.heap.size w W) => heavy_any (H.out.later B))
  have KC := Lib.hid (fun (h : heavyC r = false) W (B : Below w.heap.size w W) => (show Calls Try.prog 10 #[recV r d t] W fun e w' => ∃ d t, e = .returned (recV r d t) ∧ InR w' r d t ∧ Below W.heap.size W w' from copied_any (H.out.later B) (by have := heavy_no h; omega) (by have := heavy_no h; omega)))
  have KE := Lib.hid (fun W d t (h : InR W r d t) => encode_any h)
  have EA := Lib.hid (show encE r = if mayC r then 0 else 2 from rfl)
  have KM := Lib.hid (fun W d t (h : InR W r d t) => may_any h)
  have KS := Lib.hid (fun W x d2 t2 (i : InR W x d2 t2) (B : Below w.heap.size w W) => rsame_any i (H.out.later B))
  have KF := Lib.hid (fun W (x : Rc) d2 t2 (i : InR W x d2 t2) => encode_any i)
  have KN := Lib.hid (fun W (x : Rc) d2 t2 (i : InR W x d2 t2) => may_any i)
  have EB := Lib.hid (show bodyK r.kind = (decide (r.kind = 2) || (decide (r.kind = 6) || (decide (r.kind = 3) || decide (r.kind = 4)))) from rfl)
  have WF := Lib.hid (fun (p : Nat) => set_wf h.wf p hn)
  have MS := Lib.hid (fun (h : mayC r = true) (p : Nat) => may_set h p n)
  have INJ := Lib.hid (fun (x : Rc) (hx : x.wf) (h1 : mayC r = true) (h2 : mayC x = true) (he : encS r = encS x) => enc_inj h.wf hx h1 h2 he)
  have BB := Lib.hid T0.out.below
  clear h
  obtain ⟨a0, a1, a2, a3, a4, a5, a6, a7, a8, a9, a10, a11⟩ := T0.out.all
  generalize encS r = S at *
  generalize encE r = E at *
  generalize hB : bodyK r.kind = B at *
  have HB := Lib.hid hB
  clear hB
  unfold recV recC at *
  go_enter Try.func6, Try.ntmps6
  go_wp2_with fail
  refine (KH.out _ BB.out).mono ?_
  rintro e w1 ⟨rfl, c1⟩
  have T1 := Lib.hid (T0.out.later c1)
  clear c1 T0 BB KH a0 a1 a2 a3 a4 a5 a6 a7 a8 a9 a10 a11
  obtain ⟨a0, a1, a2, a3, a4, a5, a6, a7, a8, a9, a10, a11⟩ := T1.out.all
  cases hA : heavyC r with
  | true =>
    clear KC KE EA KM KS KF KN EB WF MS INJ
    go_wp2_with fail
    refine (works_any _).mono ?_
    rintro e w2 ⟨rfl, c2⟩
    have B2 := Lib.hid (T1.out.later c2).below
    clear c2 T1 a0 a1 a2 a3 a4 a5 a6 a7 a8 a9 a10 a11
    go_wp2_with fail
    go_ret
    exact ⟨rfl, B2.out⟩
  | false =>
  have KC := Lib.hid (KC.out hA)
  clear hA
  go_wp2_with fail
  refine (KC.out _ T1.out.below).mono ?_
  rintro e w2 ⟨d1, t1, rfl, i1, c2⟩
  have T2 := T1.out.later c2
  go_wp2_with fail
  refine (KM.out _ _ _ i1).mono ?_
  rintro e w3 ⟨rfl, c3⟩
  have T3 := Lib.hid (T2.later c3)
  clear c2 c3 i1 T2 T1 KM a0 a1 a2 a3 a4 a5 a6 a7 a8 a9 a10 a11
  cases hM : mayC r with
  | false =>
    clear KC KE EA KS KF KN EB WF MS INJ hM
    go_wp2_with fail
    refine (works_any _).mono ?_
    rintro e w4 ⟨rfl, c4⟩
    have B4 := Lib.hid (T3.out.later c4).below
    clear c4 T3
    go_wp2_with fail
    go_ret
    exact ⟨rfl, B4.out⟩
  | true =>
  obtain rfl : E = 0 := by have := EA.out; rw [if_pos hM] at this; exact this
  have MS := Lib.hid (MS.out hM)
  have INJ := Lib.hid (fun x hx => INJ.out x hx hM)
  clear hM EA
  obtain ⟨a0, a1, a2, a3, a4, a5, a6, a7, a8, a9, a10, a11⟩ := T3.out.all
  go_wp2_with fail
  refine (KC.out _ T3.out.below).mono ?_
  rintro e w4 ⟨d2, t2, rfl, i2, c4⟩
  obtain ⟨ad, cd, rfl⟩ := i2.di.form
  obtain ⟨at2, ct, rfl⟩ := i2.ac.form
  have T4 := T3.out.later c4
  have K0 := Lib.hid (Kb.start T4 i2)
  clear c4 i2 T4 T3 a0 a1 a2 a3 a4 a5 a6 a7 a8 a9 a10 a11
  unfold recC at K0
  go_upto_region 5 with fail
  generalize hg : w4.heap.size = g at *
  generalize w4.alloc _ = W at *
  obtain ⟨a0, a1, a2, a3, a4, a5, a6, a7, a8, a9, a10, a11⟩ := K0.out.a.all
  go_cut [9] (fun c wx => c = .bool B ∧ wx = W)
  case first =>
    clear KC KE KS KF KN WF MS INJ H HB
    by_cases h2 : r.kind = 2
    · have f2 : ((r.kind : Int) == 2) = true := by rw [h2]; rfl
      obtain rfl : B = true := by rw [EB.out, decide_eq_true h2]; rfl
      clear h2 EB
      go_wp2_with fail
      go_meet
      exact ⟨rfl, rfl⟩
    have f2 : ((r.kind : Int) == 2) = false := num_no h2
    by_cases h6 : r.kind = 6
    · have f6 : ((r.kind : Int) == 6) = true := by rw [h6]; rfl
      obtain rfl : B = true := by rw [EB.out, decide_eq_true h6, decide_eq_false h2]; rfl
      clear h6 EB
      go_wp2_with fail
      go_meet
      exact ⟨rfl, rfl⟩
    have f6 : ((r.kind : Int) == 6) = false := num_no h6
    by_cases h3 : r.kind = 3
    · have f3 : ((r.kind : Int) == 3) = true := by rw [h3]; rfl
      obtain rfl : B = true := by rw [EB.out, decide_eq_true h3, decide_eq_false h2, decide_eq_false h6]; rfl
      clear h3 EB
      go_wp2_with fail
      go_meet
      exact ⟨rfl, rfl⟩
    have f3 : ((r.kind : Int) == 3) = false := num_no h3
    by_cases h4 : r.kind = 4
    · have f4 : ((r.kind : Int) == 4) = true := by rw [h4]; rfl
      obtain rfl : B = true := by rw [EB.out, decide_eq_true h4, decide_eq_false h2, decide_eq_false h6, decide_eq_false h3]; rfl
      clear h4 EB
      go_wp2_with fail
      go_meet
      exact ⟨rfl, rfl⟩
    have f4 : ((r.kind : Int) == 4) = false := num_no h4
    obtain rfl : B = false := by rw [EB.out, decide_eq_false h2, decide_eq_false h6, decide_eq_false h3, decide_eq_false h4]; rfl
    clear h2 h6 h3 h4 EB
    go_wp2_with fail
    go_meet
    exact ⟨rfl, rfl⟩
  case rest =>
    obtain ⟨rfl, rfl⟩ := hcut
    clear EB
    obtain ⟨c0, c1, c2, c3, c4, c5, c6, c7, c8, c9, c10, c11⟩ := K0.out.all
    have f3 := K0.out.fz 3
    have f5 := K0.out.fz 5
    have f6 := K0.out.fz 6
    have f7 := K0.out.fz 7
    have f10 := K0.out.fz 10
    go_upto_region 9 with fail
    have hm : (p : Int) % 5 = 0 ∨ (p : Int) % 5 = 1 ∨ (p : Int) % 5 = 2 ∨ (p : Int) % 5 = 3 ∨ (p : Int) % 5 = 4 := by omega
    generalize (p : Int) % 5 = m at *
    rcases hm with rfl | rfl | rfl | rfl | rfl
    case inl =>
      go_upto_region 21 with fail
      have K1 := Lib.hid (K0.out.part (x' := setC 0 n r) 5 (.int .u64 (n : Int)) rfl)
      have WX := Lib.hid (WF.out 0)
      have MX := Lib.hid (MS.out 0)
      have xd := Lib.hid (show (setC 0 n r).dirty = r.dirty from rfl)
      have xt := Lib.hid (show (setC 0 n r).txns = r.txns from rfl)
      have hH : ((r.kind : Int) == 3) = hasK 0 r.kind := by
        rw [Bool.eq_iff_iff]
        simp [hasK]
        omega
      rw [hH]
      clear hH
      generalize setC 0 n r = x at *
      generalize hasK 0 r.kind = HH at *
      generalize World.setCell _ _ _ = W2 at *
      clear K0 WF MS HB a0 a1 a2 a3 a4 a5 a6 a7 a8 a9 a10 a11 c0 c1 c2 c3 c4 c5 c6 c7 c8 c9 c10 c11 f3 f5 f6 f7 f10
      have I1 := Lib.hid (K1.out.inr WX.out xd.out xt.out)
      have KS := Lib.hid (fun W d2 t2 => KS.out W x d2 t2)
      have KF := Lib.hid (fun W d2 t2 => KF.out W x d2 t2)
      have KN := Lib.hid (fun W d2 t2 => KN.out W x d2 t2)
      have INJ := Lib.hid (INJ.out x WX.out)
      have FE := Lib.hid (show encE x = if mayC x then 0 else 2 from rfl)
      have SI := Lib.hid (same_iff x r)
      obtain ⟨a0, a1, a2, a3, a4, a5, a6, a7, a8, a9, a10, a11⟩ := K1.out.a.all
      obtain ⟨c0, c1, c2, c3, c4, c5, c6, c7, c8, c9, c10, c11⟩ := K1.out.all
      generalize encS x = U at *
      generalize encE x = F at *
      generalize sameC x r = SC at *
      go_wp2_with fail
      refine (KS.out _ _ _ I1.out K1.out.a.below).mono ?_
      rintro e w5 ⟨rfl, b5⟩
      have K2 := Lib.hid (K1.out.later b5)
      have I2 := Lib.hid (I1.out.later b5)
      clear b5 K1 I1 KS a0 a1 a2 a3 a4 a5 a6 a7 a8 a9 a10 a11 c0 c1 c2 c3 c4 c5 c6 c7 c8 c9 c10 c11
      cases SC with
      | true =>
        clear I2 KC KE KF KN INJ FE SI MX
        go_wp2_with fail
        refine (works_any _).mono ?_
        rintro e w6 ⟨rfl, b6⟩
        have B6 := Lib.hid (K2.out.later b6).a.below
        clear b6 K2
        go_wp2_with fail
        go_ret
        exact ⟨rfl, B6.out⟩
      | false =>
      have hx : x ≠ r := fun e => by have := SI.out.2 e; cases this
      have mx : mayC x = HH := MX.out hx
      have fe := FE.out
      rw [mx] at fe KN
      have IJ := Lib.hid (fun (h : HH = true) (e : S = U) => hx (INJ.out (mx.trans h) e).symm)
      clear MX SI INJ mx FE hx
      obtain ⟨a0, a1, a2, a3, a4, a5, a6, a7, a8, a9, a10, a11⟩ := K2.out.a.all
      have fe2 := Lib.hid fe
      clear fe
      go_wp2_with fail
      refine (KC.out _ K2.out.a.below).mono ?_
      rintro e w6 ⟨d6, t6, rfl, i6, b6⟩
      have K3 := K2.out.later b6
      have I3 := I2.out.later b6
      go_wp2_with fail
      refine (KE.out _ _ _ i6).mono ?_
      rintro e w7 ⟨rfl, b7⟩
      have K4 := Lib.hid (K3.later b7)
      have I4 := Lib.hid (I3.later b7)
      clear b6 b7 i6 K3 I3 K2 I2 KC KE a0 a1 a2 a3 a4 a5 a6 a7 a8 a9 a10 a11
      obtain ⟨c0, c1, c2, c3, c4, c5, c6, c7, c8, c9, c10, c11⟩ := K4.out.all
      go_wp2_with fail
      refine (KF.out _ _ _ I4.out).mono ?_
      rintro e w8 ⟨rfl, b8⟩
      have K5 := Lib.hid (K4.out.later b8)
      have I5 := Lib.hid (I4.out.later b8)
      clear b8 K4 I4 KF c0 c1 c2 c3 c4 c5 c6 c7 c8 c9 c10 c11
      obtain ⟨c0, c1, c2, c3, c4, c5, c6, c7, c8, c9, c10, c11⟩ := K5.out.all
      cases HH with
      | true =>
        obtain rfl : F = 0 := fe2.out
        have hne := beq_no (IJ.out rfl)
        have hne2 : (S.toList != U.toList) = true := by rw [bne, hne]; rfl
        clear fe2 IJ
        go_wp2_with fail
        refine (KN.out _ _ _ I5.out).mono ?_
        rintro e w9 ⟨rfl, b9⟩
        have K6 := Lib.hid (K5.out.later b9)
        clear b9 K5 I5 KN c0 c1 c2 c3 c4 c5 c6 c7 c8 c9 c10 c11
        go_wp2_with fail
        refine (works_any _).mono ?_
        rintro e w10 ⟨rfl, b10⟩
        have B6 := Lib.hid (K6.out.later b10).a.below
        clear b10 K6
        go_wp2_with fail
        go_ret
        exact ⟨rfl, B6.out⟩
      | false =>
        obtain rfl : F = 2 := fe2.out
        clear fe2 IJ
        go_wp2_with fail
        refine (KN.out _ _ _ I5.out).mono ?_
        rintro e w9 ⟨rfl, b9⟩
        have K6 := Lib.hid (K5.out.later b9)
        clear b9 K5 I5 KN c0 c1 c2 c3 c4 c5 c6 c7 c8 c9 c10 c11
        go_wp2_with fail
        refine (works_any _).mono ?_
        rintro e w10 ⟨rfl, b10⟩
        have B6 := Lib.hid (K6.out.later b10).a.below
        clear b10 K6
        go_wp2_with fail
        go_ret
        exact ⟨rfl, B6.out⟩
    case inr.inl =>
      go_upto_region 21 with fail
      rw [or_u64 n hn]
      have K1 := Lib.hid (K0.out.part (x' := setC 1 n r) 6 (.int .u64 ((n ||| 1 : Nat) : Int)) rfl)
      have WX := Lib.hid (WF.out 1)
      have MX := Lib.hid (MS.out 1)
      have xd := Lib.hid (show (setC 1 n r).dirty = r.dirty from rfl)
      have xt := Lib.hid (show (setC 1 n r).txns = r.txns from rfl)
      have hH : ((r.kind : Int) == 4) = hasK 1 r.kind := by
        rw [Bool.eq_iff_iff]
        simp [hasK]
        omega
      rw [hH]
      clear hH
      generalize setC 1 n r = x at *
      generalize hasK 1 r.kind = HH at *
      generalize World.setCell _ _ _ = W2 at *
      clear K0 WF MS HB a0 a1 a2 a3 a4 a5 a6 a7 a8 a9 a10 a11 c0 c1 c2 c3 c4 c5 c6 c7 c8 c9 c10 c11 f3 f5 f6 f7 f10
      have I1 := Lib.hid (K1.out.inr WX.out xd.out xt.out)
      have KS := Lib.hid (fun W d2 t2 => KS.out W x d2 t2)
      have KF := Lib.hid (fun W d2 t2 => KF.out W x d2 t2)
      have KN := Lib.hid (fun W d2 t2 => KN.out W x d2 t2)
      have INJ := Lib.hid (INJ.out x WX.out)
      have FE := Lib.hid (show encE x = if mayC x then 0 else 2 from rfl)
      have SI := Lib.hid (same_iff x r)
      obtain ⟨a0, a1, a2, a3, a4, a5, a6, a7, a8, a9, a10, a11⟩ := K1.out.a.all
      obtain ⟨c0, c1, c2, c3, c4, c5, c6, c7, c8, c9, c10, c11⟩ := K1.out.all
      generalize encS x = U at *
      generalize encE x = F at *
      generalize sameC x r = SC at *
      go_wp2_with fail
      refine (KS.out _ _ _ I1.out K1.out.a.below).mono ?_
      rintro e w5 ⟨rfl, b5⟩
      have K2 := Lib.hid (K1.out.later b5)
      have I2 := Lib.hid (I1.out.later b5)
      clear b5 K1 I1 KS a0 a1 a2 a3 a4 a5 a6 a7 a8 a9 a10 a11 c0 c1 c2 c3 c4 c5 c6 c7 c8 c9 c10 c11
      cases SC with
      | true =>
        clear I2 KC KE KF KN INJ FE SI MX
        go_wp2_with fail
        refine (works_any _).mono ?_
        rintro e w6 ⟨rfl, b6⟩
        have B6 := Lib.hid (K2.out.later b6).a.below
        clear b6 K2
        go_wp2_with fail
        go_ret
        exact ⟨rfl, B6.out⟩
      | false =>
      have hx : x ≠ r := fun e => by have := SI.out.2 e; cases this
      have mx : mayC x = HH := MX.out hx
      have fe := FE.out
      rw [mx] at fe KN
      have IJ := Lib.hid (fun (h : HH = true) (e : S = U) => hx (INJ.out (mx.trans h) e).symm)
      clear MX SI INJ mx FE hx
      obtain ⟨a0, a1, a2, a3, a4, a5, a6, a7, a8, a9, a10, a11⟩ := K2.out.a.all
      have fe2 := Lib.hid fe
      clear fe
      go_wp2_with fail
      refine (KC.out _ K2.out.a.below).mono ?_
      rintro e w6 ⟨d6, t6, rfl, i6, b6⟩
      have K3 := K2.out.later b6
      have I3 := I2.out.later b6
      go_wp2_with fail
      refine (KE.out _ _ _ i6).mono ?_
      rintro e w7 ⟨rfl, b7⟩
      have K4 := Lib.hid (K3.later b7)
      have I4 := Lib.hid (I3.later b7)
      clear b6 b7 i6 K3 I3 K2 I2 KC KE a0 a1 a2 a3 a4 a5 a6 a7 a8 a9 a10 a11
      obtain ⟨c0, c1, c2, c3, c4, c5, c6, c7, c8, c9, c10, c11⟩ := K4.out.all
      go_wp2_with fail
      refine (KF.out _ _ _ I4.out).mono ?_
      rintro e w8 ⟨rfl, b8⟩
      have K5 := Lib.hid (K4.out.later b8)
      have I5 := Lib.hid (I4.out.later b8)
      clear b8 K4 I4 KF c0 c1 c2 c3 c4 c5 c6 c7 c8 c9 c10 c11
      obtain ⟨c0, c1, c2, c3, c4, c5, c6, c7, c8, c9, c10, c11⟩ := K5.out.all
      cases HH with
      | true =>
        obtain rfl : F = 0 := fe2.out
        have hne := beq_no (IJ.out rfl)
        have hne2 : (S.toList != U.toList) = true := by rw [bne, hne]; rfl
        clear fe2 IJ
        go_wp2_with fail
        refine (KN.out _ _ _ I5.out).mono ?_
        rintro e w9 ⟨rfl, b9⟩
        have K6 := Lib.hid (K5.out.later b9)
        clear b9 K5 I5 KN c0 c1 c2 c3 c4 c5 c6 c7 c8 c9 c10 c11
        go_wp2_with fail
        refine (works_any _).mono ?_
        rintro e w10 ⟨rfl, b10⟩
        have B6 := Lib.hid (K6.out.later b10).a.below
        clear b10 K6
        go_wp2_with fail
        go_ret
        exact ⟨rfl, B6.out⟩
      | false =>
        obtain rfl : F = 2 := fe2.out
        clear fe2 IJ
        go_wp2_with fail
        refine (KN.out _ _ _ I5.out).mono ?_
        rintro e w9 ⟨rfl, b9⟩
        have K6 := Lib.hid (K5.out.later b9)
        clear b9 K5 I5 KN c0 c1 c2 c3 c4 c5 c6 c7 c8 c9 c10 c11
        go_wp2_with fail
        refine (works_any _).mono ?_
        rintro e w10 ⟨rfl, b10⟩
        have B6 := Lib.hid (K6.out.later b10).a.below
        clear b10 K6
        go_wp2_with fail
        go_ret
        exact ⟨rfl, B6.out⟩
    case inr.inr.inl =>
      go_upto_region 21 with fail
      rw [or_u64 n hn]
      rw [show ((n ||| 1 : Nat) : Int) % 4294967296 = (((n ||| 1) % 4294967296 : Nat) : Int) by omega]
      have K1 := Lib.hid (K0.out.part (x' := setC 2 n r) 3 (.int .u32 (((n ||| 1) % 4294967296 : Nat) : Int)) rfl)
      have WX := Lib.hid (WF.out 2)
      have MX := Lib.hid (MS.out 2)
      have xd := Lib.hid (show (setC 2 n r).dirty = r.dirty from rfl)
      have xt := Lib.hid (show (setC 2 n r).txns = r.txns from rfl)
      have hH : ((r.kind : Int) == 2) = hasK 2 r.kind := by
        rw [Bool.eq_iff_iff]
        simp [hasK]
        omega
      rw [hH]
      clear hH
      generalize setC 2 n r = x at *
      generalize hasK 2 r.kind = HH at *
      generalize World.setCell _ _ _ = W2 at *
      clear K0 WF MS HB a0 a1 a2 a3 a4 a5 a6 a7 a8 a9 a10 a11 c0 c1 c2 c3 c4 c5 c6 c7 c8 c9 c10 c11 f3 f5 f6 f7 f10
      have I1 := Lib.hid (K1.out.inr WX.out xd.out xt.out)
      have KS := Lib.hid (fun W d2 t2 => KS.out W x d2 t2)
      have KF := Lib.hid (fun W d2 t2 => KF.out W x d2 t2)
      have KN := Lib.hid (fun W d2 t2 => KN.out W x d2 t2)
      have INJ := Lib.hid (INJ.out x WX.out)
      have FE := Lib.hid (show encE x = if mayC x then 0 else 2 from rfl)
      have SI := Lib.hid (same_iff x r)
      obtain ⟨a0, a1, a2, a3, a4, a5, a6, a7, a8, a9, a10, a11⟩ := K1.out.a.all
      obtain ⟨c0, c1, c2, c3, c4, c5, c6, c7, c8, c9, c10, c11⟩ := K1.out.all
      generalize encS x = U at *
      generalize encE x = F at *
      generalize sameC x r = SC at *
      go_wp2_with fail
      refine (KS.out _ _ _ I1.out K1.out.a.below).mono ?_
      rintro e w5 ⟨rfl, b5⟩
      have K2 := Lib.hid (K1.out.later b5)
      have I2 := Lib.hid (I1.out.later b5)
      clear b5 K1 I1 KS a0 a1 a2 a3 a4 a5 a6 a7 a8 a9 a10 a11 c0 c1 c2 c3 c4 c5 c6 c7 c8 c9 c10 c11
      cases SC with
      | true =>
        clear I2 KC KE KF KN INJ FE SI MX
        go_wp2_with fail
        refine (works_any _).mono ?_
        rintro e w6 ⟨rfl, b6⟩
        have B6 := Lib.hid (K2.out.later b6).a.below
        clear b6 K2
        go_wp2_with fail
        go_ret
        exact ⟨rfl, B6.out⟩
      | false =>
      have hx : x ≠ r := fun e => by have := SI.out.2 e; cases this
      have mx : mayC x = HH := MX.out hx
      have fe := FE.out
      rw [mx] at fe KN
      have IJ := Lib.hid (fun (h : HH = true) (e : S = U) => hx (INJ.out (mx.trans h) e).symm)
      clear MX SI INJ mx FE hx
      obtain ⟨a0, a1, a2, a3, a4, a5, a6, a7, a8, a9, a10, a11⟩ := K2.out.a.all
      have fe2 := Lib.hid fe
      clear fe
      go_wp2_with fail
      refine (KC.out _ K2.out.a.below).mono ?_
      rintro e w6 ⟨d6, t6, rfl, i6, b6⟩
      have K3 := K2.out.later b6
      have I3 := I2.out.later b6
      go_wp2_with fail
      refine (KE.out _ _ _ i6).mono ?_
      rintro e w7 ⟨rfl, b7⟩
      have K4 := Lib.hid (K3.later b7)
      have I4 := Lib.hid (I3.later b7)
      clear b6 b7 i6 K3 I3 K2 I2 KC KE a0 a1 a2 a3 a4 a5 a6 a7 a8 a9 a10 a11
      obtain ⟨c0, c1, c2, c3, c4, c5, c6, c7, c8, c9, c10, c11⟩ := K4.out.all
      go_wp2_with fail
      refine (KF.out _ _ _ I4.out).mono ?_
      rintro e w8 ⟨rfl, b8⟩
      have K5 := Lib.hid (K4.out.later b8)
      have I5 := Lib.hid (I4.out.later b8)
      clear b8 K4 I4 KF c0 c1 c2 c3 c4 c5 c6 c7 c8 c9 c10 c11
      obtain ⟨c0, c1, c2, c3, c4, c5, c6, c7, c8, c9, c10, c11⟩ := K5.out.all
      cases HH with
      | true =>
        obtain rfl : F = 0 := fe2.out
        have hne := beq_no (IJ.out rfl)
        have hne2 : (S.toList != U.toList) = true := by rw [bne, hne]; rfl
        clear fe2 IJ
        go_wp2_with fail
        refine (KN.out _ _ _ I5.out).mono ?_
        rintro e w9 ⟨rfl, b9⟩
        have K6 := Lib.hid (K5.out.later b9)
        clear b9 K5 I5 KN c0 c1 c2 c3 c4 c5 c6 c7 c8 c9 c10 c11
        go_wp2_with fail
        refine (works_any _).mono ?_
        rintro e w10 ⟨rfl, b10⟩
        have B6 := Lib.hid (K6.out.later b10).a.below
        clear b10 K6
        go_wp2_with fail
        go_ret
        exact ⟨rfl, B6.out⟩
      | false =>
        obtain rfl : F = 2 := fe2.out
        clear fe2 IJ
        go_wp2_with fail
        refine (KN.out _ _ _ I5.out).mono ?_
        rintro e w9 ⟨rfl, b9⟩
        have K6 := Lib.hid (K5.out.later b9)
        clear b9 K5 I5 KN c0 c1 c2 c3 c4 c5 c6 c7 c8 c9 c10 c11
        go_wp2_with fail
        refine (works_any _).mono ?_
        rintro e w10 ⟨rfl, b10⟩
        have B6 := Lib.hid (K6.out.later b10).a.below
        clear b10 K6
        go_wp2_with fail
        go_ret
        exact ⟨rfl, B6.out⟩
    case inr.inr.inr.inl =>
      go_upto_region 21 with fail
      change Code.wp _ _ _ _ (World.setCell _ _ (.string bodS))
      have K1 := Lib.hid (K0.out.part (x' := setC 3 n r) 7 (.string bodS) rfl)
      have WX := Lib.hid (WF.out 3)
      have MX := Lib.hid (MS.out 3)
      have xd := Lib.hid (show (setC 3 n r).dirty = r.dirty from rfl)
      have xt := Lib.hid (show (setC 3 n r).txns = r.txns from rfl)
      have hH : B = hasK 3 r.kind := HB.out.symm
      rw [hH]
      clear hH
      generalize setC 3 n r = x at *
      generalize hasK 3 r.kind = HH at *
      generalize World.setCell _ _ _ = W2 at *
      clear K0 WF MS HB a0 a1 a2 a3 a4 a5 a6 a7 a8 a9 a10 a11 c0 c1 c2 c3 c4 c5 c6 c7 c8 c9 c10 c11 f3 f5 f6 f7 f10
      have I1 := Lib.hid (K1.out.inr WX.out xd.out xt.out)
      have KS := Lib.hid (fun W d2 t2 => KS.out W x d2 t2)
      have KF := Lib.hid (fun W d2 t2 => KF.out W x d2 t2)
      have KN := Lib.hid (fun W d2 t2 => KN.out W x d2 t2)
      have INJ := Lib.hid (INJ.out x WX.out)
      have FE := Lib.hid (show encE x = if mayC x then 0 else 2 from rfl)
      have SI := Lib.hid (same_iff x r)
      obtain ⟨a0, a1, a2, a3, a4, a5, a6, a7, a8, a9, a10, a11⟩ := K1.out.a.all
      obtain ⟨c0, c1, c2, c3, c4, c5, c6, c7, c8, c9, c10, c11⟩ := K1.out.all
      generalize encS x = U at *
      generalize encE x = F at *
      generalize sameC x r = SC at *
      go_wp2_with fail
      refine (KS.out _ _ _ I1.out K1.out.a.below).mono ?_
      rintro e w5 ⟨rfl, b5⟩
      have K2 := Lib.hid (K1.out.later b5)
      have I2 := Lib.hid (I1.out.later b5)
      clear b5 K1 I1 KS a0 a1 a2 a3 a4 a5 a6 a7 a8 a9 a10 a11 c0 c1 c2 c3 c4 c5 c6 c7 c8 c9 c10 c11
      cases SC with
      | true =>
        clear I2 KC KE KF KN INJ FE SI MX
        go_wp2_with fail
        refine (works_any _).mono ?_
        rintro e w6 ⟨rfl, b6⟩
        have B6 := Lib.hid (K2.out.later b6).a.below
        clear b6 K2
        go_wp2_with fail
        go_ret
        exact ⟨rfl, B6.out⟩
      | false =>
      have hx : x ≠ r := fun e => by have := SI.out.2 e; cases this
      have mx : mayC x = HH := MX.out hx
      have fe := FE.out
      rw [mx] at fe KN
      have IJ := Lib.hid (fun (h : HH = true) (e : S = U) => hx (INJ.out (mx.trans h) e).symm)
      clear MX SI INJ mx FE hx
      obtain ⟨a0, a1, a2, a3, a4, a5, a6, a7, a8, a9, a10, a11⟩ := K2.out.a.all
      have fe2 := Lib.hid fe
      clear fe
      go_wp2_with fail
      refine (KC.out _ K2.out.a.below).mono ?_
      rintro e w6 ⟨d6, t6, rfl, i6, b6⟩
      have K3 := K2.out.later b6
      have I3 := I2.out.later b6
      go_wp2_with fail
      refine (KE.out _ _ _ i6).mono ?_
      rintro e w7 ⟨rfl, b7⟩
      have K4 := Lib.hid (K3.later b7)
      have I4 := Lib.hid (I3.later b7)
      clear b6 b7 i6 K3 I3 K2 I2 KC KE a0 a1 a2 a3 a4 a5 a6 a7 a8 a9 a10 a11
      obtain ⟨c0, c1, c2, c3, c4, c5, c6, c7, c8, c9, c10, c11⟩ := K4.out.all
      go_wp2_with fail
      refine (KF.out _ _ _ I4.out).mono ?_
      rintro e w8 ⟨rfl, b8⟩
      have K5 := Lib.hid (K4.out.later b8)
      have I5 := Lib.hid (I4.out.later b8)
      clear b8 K4 I4 KF c0 c1 c2 c3 c4 c5 c6 c7 c8 c9 c10 c11
      obtain ⟨c0, c1, c2, c3, c4, c5, c6, c7, c8, c9, c10, c11⟩ := K5.out.all
      cases HH with
      | true =>
        obtain rfl : F = 0 := fe2.out
        have hne := beq_no (IJ.out rfl)
        have hne2 : (S.toList != U.toList) = true := by rw [bne, hne]; rfl
        clear fe2 IJ
        go_wp2_with fail
        refine (KN.out _ _ _ I5.out).mono ?_
        rintro e w9 ⟨rfl, b9⟩
        have K6 := Lib.hid (K5.out.later b9)
        clear b9 K5 I5 KN c0 c1 c2 c3 c4 c5 c6 c7 c8 c9 c10 c11
        go_wp2_with fail
        refine (works_any _).mono ?_
        rintro e w10 ⟨rfl, b10⟩
        have B6 := Lib.hid (K6.out.later b10).a.below
        clear b10 K6
        go_wp2_with fail
        go_ret
        exact ⟨rfl, B6.out⟩
      | false =>
        obtain rfl : F = 2 := fe2.out
        clear fe2 IJ
        go_wp2_with fail
        refine (KN.out _ _ _ I5.out).mono ?_
        rintro e w9 ⟨rfl, b9⟩
        have K6 := Lib.hid (K5.out.later b9)
        clear b9 K5 I5 KN c0 c1 c2 c3 c4 c5 c6 c7 c8 c9 c10 c11
        go_wp2_with fail
        refine (works_any _).mono ?_
        rintro e w10 ⟨rfl, b10⟩
        have B6 := Lib.hid (K6.out.later b10).a.below
        clear b10 K6
        go_wp2_with fail
        go_ret
        exact ⟨rfl, B6.out⟩
    case inr.inr.inr.inr =>
      go_upto_region 21 with fail
      rw [or_u64 n hn]
      have K1 := Lib.hid (K0.out.part (x' := setC 4 n r) 10 (.int .u64 ((n ||| 1 : Nat) : Int)) rfl)
      have WX := Lib.hid (WF.out 4)
      have MX := Lib.hid (MS.out 4)
      have xd := Lib.hid (show (setC 4 n r).dirty = r.dirty from rfl)
      have xt := Lib.hid (show (setC 4 n r).txns = r.txns from rfl)
      have hH : ((r.kind : Int) == 8) = hasK 4 r.kind := by
        rw [Bool.eq_iff_iff]
        simp [hasK]
        omega
      rw [hH]
      clear hH
      generalize setC 4 n r = x at *
      generalize hasK 4 r.kind = HH at *
      generalize World.setCell _ _ _ = W2 at *
      clear K0 WF MS HB a0 a1 a2 a3 a4 a5 a6 a7 a8 a9 a10 a11 c0 c1 c2 c3 c4 c5 c6 c7 c8 c9 c10 c11 f3 f5 f6 f7 f10
      have I1 := Lib.hid (K1.out.inr WX.out xd.out xt.out)
      have KS := Lib.hid (fun W d2 t2 => KS.out W x d2 t2)
      have KF := Lib.hid (fun W d2 t2 => KF.out W x d2 t2)
      have KN := Lib.hid (fun W d2 t2 => KN.out W x d2 t2)
      have INJ := Lib.hid (INJ.out x WX.out)
      have FE := Lib.hid (show encE x = if mayC x then 0 else 2 from rfl)
      have SI := Lib.hid (same_iff x r)
      obtain ⟨a0, a1, a2, a3, a4, a5, a6, a7, a8, a9, a10, a11⟩ := K1.out.a.all
      obtain ⟨c0, c1, c2, c3, c4, c5, c6, c7, c8, c9, c10, c11⟩ := K1.out.all
      generalize encS x = U at *
      generalize encE x = F at *
      generalize sameC x r = SC at *
      go_wp2_with fail
      refine (KS.out _ _ _ I1.out K1.out.a.below).mono ?_
      rintro e w5 ⟨rfl, b5⟩
      have K2 := Lib.hid (K1.out.later b5)
      have I2 := Lib.hid (I1.out.later b5)
      clear b5 K1 I1 KS a0 a1 a2 a3 a4 a5 a6 a7 a8 a9 a10 a11 c0 c1 c2 c3 c4 c5 c6 c7 c8 c9 c10 c11
      cases SC with
      | true =>
        clear I2 KC KE KF KN INJ FE SI MX
        go_wp2_with fail
        refine (works_any _).mono ?_
        rintro e w6 ⟨rfl, b6⟩
        have B6 := Lib.hid (K2.out.later b6).a.below
        clear b6 K2
        go_wp2_with fail
        go_ret
        exact ⟨rfl, B6.out⟩
      | false =>
      have hx : x ≠ r := fun e => by have := SI.out.2 e; cases this
      have mx : mayC x = HH := MX.out hx
      have fe := FE.out
      rw [mx] at fe KN
      have IJ := Lib.hid (fun (h : HH = true) (e : S = U) => hx (INJ.out (mx.trans h) e).symm)
      clear MX SI INJ mx FE hx
      obtain ⟨a0, a1, a2, a3, a4, a5, a6, a7, a8, a9, a10, a11⟩ := K2.out.a.all
      have fe2 := Lib.hid fe
      clear fe
      go_wp2_with fail
      refine (KC.out _ K2.out.a.below).mono ?_
      rintro e w6 ⟨d6, t6, rfl, i6, b6⟩
      have K3 := K2.out.later b6
      have I3 := I2.out.later b6
      go_wp2_with fail
      refine (KE.out _ _ _ i6).mono ?_
      rintro e w7 ⟨rfl, b7⟩
      have K4 := Lib.hid (K3.later b7)
      have I4 := Lib.hid (I3.later b7)
      clear b6 b7 i6 K3 I3 K2 I2 KC KE a0 a1 a2 a3 a4 a5 a6 a7 a8 a9 a10 a11
      obtain ⟨c0, c1, c2, c3, c4, c5, c6, c7, c8, c9, c10, c11⟩ := K4.out.all
      go_wp2_with fail
      refine (KF.out _ _ _ I4.out).mono ?_
      rintro e w8 ⟨rfl, b8⟩
      have K5 := Lib.hid (K4.out.later b8)
      have I5 := Lib.hid (I4.out.later b8)
      clear b8 K4 I4 KF c0 c1 c2 c3 c4 c5 c6 c7 c8 c9 c10 c11
      obtain ⟨c0, c1, c2, c3, c4, c5, c6, c7, c8, c9, c10, c11⟩ := K5.out.all
      cases HH with
      | true =>
        obtain rfl : F = 0 := fe2.out
        have hne := beq_no (IJ.out rfl)
        have hne2 : (S.toList != U.toList) = true := by rw [bne, hne]; rfl
        clear fe2 IJ
        go_wp2_with fail
        refine (KN.out _ _ _ I5.out).mono ?_
        rintro e w9 ⟨rfl, b9⟩
        have K6 := Lib.hid (K5.out.later b9)
        clear b9 K5 I5 KN c0 c1 c2 c3 c4 c5 c6 c7 c8 c9 c10 c11
        go_wp2_with fail
        refine (works_any _).mono ?_
        rintro e w10 ⟨rfl, b10⟩
        have B6 := Lib.hid (K6.out.later b10).a.below
        clear b10 K6
        go_wp2_with fail
        go_ret
        exact ⟨rfl, B6.out⟩
      | false =>
        obtain rfl : F = 2 := fe2.out
        clear fe2 IJ
        go_wp2_with fail
        refine (KN.out _ _ _ I5.out).mono ?_
        rintro e w9 ⟨rfl, b9⟩
        have K6 := Lib.hid (K5.out.later b9)
        clear b9 K5 I5 KN c0 c1 c2 c3 c4 c5 c6 c7 c8 c9 c10 c11
        go_wp2_with fail
        refine (works_any _).mono ?_
        rintro e w10 ⟨rfl, b10⟩
        have B6 := Lib.hid (K6.out.later b10).a.below
        clear b10 K6
        go_wp2_with fail
        go_ret
        exact ⟨rfl, B6.out⟩

theorem kinds_walk {w : World} {r : Rc} {d t : Value} {p n : Int} (h : InR w r d t) (hp : 0 ≤ p ∧ p ≤ 255) (hn : 0 ≤ n ∧ n ≤ 18446744073709551615) :
    Calls Try.prog 6 #[recV r d t, .int .u8 p, .int .u64 n] w fun e w' => e = .returned (.bool true) ∧ Below w.heap.size w w' := by
  obtain ⟨a, rfl⟩ : ∃ a : Nat, p = (a : Int) := ⟨p.toNat, by omega⟩
  obtain ⟨b, rfl⟩ : ∃ b : Nat, n = (b : Int) := ⟨n.toNat, by omega⟩
  exact kinds_nat h (by omega) (by omega)

end Go.Proofs.Ytadhophiannigaa.Rec
