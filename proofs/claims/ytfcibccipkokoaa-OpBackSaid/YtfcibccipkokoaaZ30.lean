/-
  Sorting of numbers: the whole of it.
-/
import Derived.Deep.LoopGhost
import Derived.Test.YtfcibccipkokoaaZ29
import Derived.Test.YtfcibccipkokoaaZ21
import Derived.Test.YtfcibccipkokoaaZ22
namespace Go.Proofs.Ytfcibccipkokoaa.Qs
open Go.RowKit
attribute [local go_sem ↓] Go.wp_at_zero Go.wp_at_succ

set_option maxRecDepth 1000000 in
set_option maxHeartbeats 6400000 in
theorem pdq_any : ∀ (N : Nat) (w : World) (g n c a b limit : Nat) (d : Array Nat), b - a < N → Hs w g d → d.size = n → a ≤ b → b ≤ n → n ≤ 1000000 → limit ≤ 1000000 → Go.Sort.Below lt a b d →
    Calls Try.prog 65 #[.slice (some ⟨g, 0, none⟩) n c, .int .i64 (a : Int), .int .i64 (b : Int), .int .i64 (limit : Int)] w (Sp w g n (Go.Sort.pdq lt d a b limit true true)) := by
  intro N
  induction N with
  | zero => intro _ _ _ _ _ _ _ _ h; exact absurd h (Nat.not_lt_zero _)
  | succ N ih =>
    intro w g n c a b limit d hN h hn hab hb hs hlimit hB0
    obtain ⟨R, hR⟩ : ∃ R, R = Go.Sort.pdq lt d a b limit true true := ⟨_, rfl⟩
    rw [← hR]
    have S0 := Lib.hid (show St w w g n d from ⟨h, Touch.refl _ _, hn⟩)
    have HR := Lib.hid hR.symm
    have HB0 := Lib.hid hB0
    have IH := Lib.hid ih
    clear hR h hn hB0 ih
    go_enter Try.func65, Try.ntmps65
    go_wp2_with fail
    go_loopg [1, 2, 3, 8, 9] (b - a) (fun k s1 s2 s3 s8 s9 wr => ∃ (a' b' lim : Nat) (wb wp : Bool) (dk : Array Nat), s1 = .int .i64 (a' : Int) ∧ s2 = .int .i64 (b' : Int) ∧ s3 = .int .i64 (lim : Int) ∧ s8 = .bool wb ∧ s9 = .bool wp ∧
      a' ≤ b' ∧ b' ≤ n ∧ b' - a' ≤ k ∧ k ≤ b - a ∧ lim ≤ limit ∧ Go.Sort.Below lt a' b' dk ∧ St w wr g n dk ∧ Go.Sort.pdq lt dk a' b' lim wb wp = R)
    case atStart => exact ⟨a, b, limit, true, true, d, rfl, rfl, rfl, rfl, rfl, hab, hb, Nat.le_refl _, Nat.le_refl _, Nat.le_refl _, HB0.out, S0.out, HR.out⟩
    case round =>
      obtain ⟨a', b', lim, wb, wp, dk, rfl, rfl, rfl, rfl, rfl, hab', hb', hk, hkN, hlim, hBel, hs', heq⟩ := hrel
      have S1 := Lib.hid hs'
      have HE := Lib.hid heq
      have BL := Lib.hid hBel
      obtain ⟨l, hl⟩ : ∃ l, l = b' - a' := ⟨_, rfl⟩
      have w1 : IntKind.i64.wrap ((b' : Int) - (a' : Int)) = (l : Int) := by rw [w64 (by omega)]; omega
      clear hs' heq hBel S0 HR HB0
      by_cases h12 : l ≤ 12
      · have K := Lib.hid (insert_any (c := c) S1.out.hs S1.out.sz hb' (show a' ≤ n by omega) hs)
        have E := Lib.hid (HE.out.symm.trans (Go.Sort.pdq_small (by omega)))
        clear HE BL
        go_wp2_with fail
        refine K.out.mono ?_
        rintro e w2 ⟨rfl, hs2⟩
        have S2 := Lib.hid (S1.out.then hs2)
        clear hs2
        go_wp2_with fail
        (try simp only [Exit.inBlock, Exit.then])
        refine bodyPost_ret (results_none rfl _ _ _) rfl ?_
        rw [E.out]
        exact ⟨rfl, S2.out⟩
      · by_cases hl0 : lim = 0
        · have K := Lib.hid (heap_any (c := c) S1.out.hs S1.out.sz (show a' < b' by omega) hb' hs)
          have E := Lib.hid (HE.out.symm.trans (Go.Sort.pdq_heap (by omega) hl0))
          have e0 : ((lim : Int) == 0) = true := by rw [beq_iff_eq]; omega
          clear HE BL
          go_wp2_with fail
          refine K.out.mono ?_
          rintro e w2 ⟨rfl, hs2⟩
          have S2 := Lib.hid (S1.out.then hs2)
          clear hs2
          go_wp2_with fail
          (try simp only [Exit.inBlock, Exit.then])
          refine bodyPost_ret (results_none rfl _ _ _) rfl ?_
          rw [E.out]
          exact ⟨rfl, S2.out⟩
        · have e0 : ((lim : Int) == 0) = false := by rw [beq_eq_false_iff_ne]; omega
          have F0 : Rnd dk a' b' lim wb wp n (Go.Sort.rd lt dk a' b' lim wb wp) := rnd_is (by omega) hb' S1.out.sz BL.out
          obtain ⟨Y, hY⟩ : ∃ Y, Y = Go.Sort.rd lt dk a' b' lim wb wp := ⟨_, rfl⟩
          rw [← hY] at F0
          have F := Lib.hid F0
          have lY : Y.lim ≤ limit := by rw [F0.lm]; split <;> omega
          have G := Lib.hid (show ¬ b' - a' ≤ 12 ∧ ¬ lim = 0 by omega)
          clear F0 hY BL
          go_upto_if 35 with fail
          go_cut [3] from 19 to 133 (fun s3 wc => s3 = .int .i64 (Y.lim : Int) ∧ St w wc g n Y.d1)
          case first =>
            cases wb
            · have K := Lib.hid (break_any (c := c) S1.out.hs S1.out.sz hab' hb' hs)
              have w2 : IntKind.i64.wrap ((lim : Int) - 1) = (Y.lim : Int) := by
                have := F.out.lm
                simp at this
                rw [w64 (by omega)]
                omega
              have E := Lib.hid (show Go.Sort.breakPatterns dk a' b' = Y.d1 from F.out.d1.symm)
              go_wp2_with fail
              refine K.out.mono ?_
              rintro e wz ⟨rfl, hs2⟩
              have S2 := Lib.hid (S1.out.then hs2)
              clear hs2
              go_wp2_with fail
              go_meet
              rw [← E.out]
              exact ⟨rfl, S2.out⟩
            · have E := Lib.hid (show dk = Y.d1 ∧ lim = Y.lim from ⟨F.out.d1.symm, F.out.lm.symm⟩)
              go_wp2_with fail
              go_meet
              rw [← E.out.1, ← E.out.2]
              exact ⟨rfl, S1.out⟩
          case rest =>
            obtain ⟨rfl, hs'⟩ := hcut
            have S2 := Lib.hid hs'
            clear hs' S1
            have K := Lib.hid (choose_any (c := c) S2.out.hs S2.out.sz (show a' < b' by omega) hb' hs)
            rw [← F.out.c] at K
            go_upto_if 50 with (go_at_call 86; refine K.out.mono ?_; rintro e wz ⟨rfl, hs2⟩)
            have S3 := Lib.hid (S2.out.then hs2)
            clear hs2 K S2
            go_cut [11, 12] from 19 to 133 (fun s11 s12 wc => s11 = .int .i64 (Y.pivot : Int) ∧ s12 = .int .i64 (hintI Y.hint : Int) ∧ St w wc g n Y.d2)
            case first =>
              by_cases hh : Y.c.2 = .decreasing
              · have hcode : hintI Y.c.2 = 2 := by rw [hh]; rfl
                have D := Lib.hid (F.out.dec hh)
                have K := Lib.hid (reverse_any (c := c) S3.out.hs S3.out.sz (show a' < b' by omega) hb' hs)
                rw [← D.out.1] at K
                obtain ⟨b1, hb1⟩ : ∃ b1, b1 = b' - 1 := ⟨_, rfl⟩
                obtain ⟨p1, hp1⟩ : ∃ p1, p1 = Y.c.1 - a' := ⟨_, rfl⟩
                have w3 : IntKind.i64.wrap ((b' : Int) - 1) = (b1 : Int) := by rw [w64 (by omega)]; omega
                have w4 : IntKind.i64.wrap ((Y.c.1 : Int) - (a' : Int)) = (p1 : Int) := by have := F.out.c1; rw [w64 (by omega)]; omega
                have w5 : IntKind.i64.wrap ((b1 : Int) - (p1 : Int)) = (Y.pivot : Int) := by have := F.out.c1; have := D.out.2.1; rw [w64 (by omega)]; omega
                have e2 : ((hintI Y.c.2 : Int) == 2) = true := by rw [hcode]; rfl
                clear hh hcode hb1 hp1
                go_wp2_with fail
                refine K.out.mono ?_
                rintro e wz2 ⟨rfl, hs2⟩
                have S4 := Lib.hid (S3.out.then hs2)
                clear hs2
                go_wp2_with fail
                go_meet
                exact ⟨rfl, by rw [D.out.2.2]; rfl, S4.out⟩
              · have D := Lib.hid (F.out.ndec hh)
                have hcode : ¬ hintI Y.c.2 = 2 := fun h => hh (hint_two h)
                have e2 : ((hintI Y.c.2 : Int) == 2) = false := by rw [beq_eq_false_iff_ne]; omega
                clear hh
                go_wp2_with fail
                go_meet
                rw [D.out.1, D.out.2.1, D.out.2.2]
                exact ⟨rfl, rfl, S3.out⟩
            case rest =>
              obtain ⟨rfl, rfl, hs'⟩ := hcut
              have S4 := Lib.hid hs'
              clear hs' S3
              obtain ⟨Z, hZ⟩ : ∃ Z : Bool, Z = (wb && wp && decide (Y.hint = .increasing)) := ⟨_, rfl⟩
              have FZ := Lib.hid hZ
              clear hZ
              go_upto_region 15 with fail
              go_cut [12, 68] from 19 to 133 (fun s12 s68 wx => s12 = .int .i64 (hintI Y.hint : Int) ∧ s68 = .bool Z ∧ wx = wc)
              case first =>
                cases wb <;> cases wp <;> cases hh3 : Y.hint <;>
                  (have FZ2 := FZ.out
                   rw [hh3] at FZ2
                   have H3 := Lib.hid hh3
                   clear hh3
                   have F3 := Lib.hid FZ2
                   clear FZ2
                   go_wp2_with fail
                   go_meet
                   exact ⟨by rw [H3.out], by rw [F3.out]; first | rfl | simp [hintI], rfl⟩)
              case rest =>
                obtain ⟨rfl, rfl, rfl⟩ := hcut
                go_upto_if 68 with fail
                go_cut [] from 19 to 133 (fun wx => Y.pi.2 = false ∧ St w wx g n Y.pi.1)
                case first =>
                  cases Z
                  · have E := Lib.hid (F.out.no FZ.out.symm)
                    go_wp2_with fail
                    go_meet
                    rw [E.out]
                    exact ⟨rfl, S4.out⟩
                  · have E := Lib.hid (F.out.yes FZ.out.symm)
                    have K := Lib.hid (partial_any (c := c) S4.out.hs S4.out.sz (show a' < b' by omega) hb' hs)
                    rw [← E.out] at K
                    cases hp : Y.pi.2
                    · go_wp2_with fail
                      refine K.out.mono ?_
                      rintro e wz ⟨rfl, hs2⟩
                      have S5 := Lib.hid (S4.out.then hs2)
                      clear hs2 K
                      go_wp2_with fail
                      go_meet
                      exact ⟨hp, S5.out⟩
                    · have ED := Lib.hid (HE.out.symm.trans (F.out.done G.out.1 G.out.2 hp))
                      go_wp2_with fail
                      refine K.out.mono ?_
                      rintro e wz ⟨rfl, hs2⟩
                      have S5 := Lib.hid (S4.out.then hs2)
                      clear hs2 K
                      go_wp2_with fail
                      (try simp only [Exit.inBlock, Exit.then])
                      refine bodyPost_ret (results_none rfl _ _ _) rfl ?_
                      rw [ED.out]
                      exact ⟨rfl, S5.out⟩
                case rest =>
                  obtain ⟨hp, hs'⟩ := hcut
                  have S5 := Lib.hid hs'
                  have HP := Lib.hid hp
                  clear hs' hp S4 FZ
                  obtain ⟨V, hV⟩ : ∃ V : Bool, V = (decide (a' > 0) && !lt Y.pi.1[a' - 1]! Y.pi.1[Y.pivot]!) := ⟨_, rfl⟩
                  have FV := Lib.hid hV
                  clear hV
                  have pvn : Y.pivot < n := by have := F.out.pv; omega
                  have i1 : (0 : Int) ≤ (Y.pivot : Int) := by omega
                  have i2 : (Y.pivot : Int) < (n : Int) := by omega
                  go_upto_region 17 with fail
                  go_cut [87] from 19 to 133 (fun s87 wx => s87 = .bool V ∧ St w wx g n Y.pi.1)
                  case first =>
                    by_cases ha0 : 0 < a'
                    · have e5 : decide (0 < a') = true := decide_eq_true ha0
                      have e5' : decide ((0 : Int) < (a' : Int)) = true := decide_eq_true (by omega)
                      obtain ⟨a0, hA⟩ : ∃ a0, a0 = a' - 1 := ⟨_, rfl⟩
                      have w6 : IntKind.i64.wrap ((a' : Int) - 1) = (a0 : Int) := by rw [w64 (by omega)]; omega
                      have a0n : a0 < n := by omega
                      have i3 : (0 : Int) ≤ (a0 : Int) := by omega
                      have i4 : (a0 : Int) < (n : Int) := by omega
                      have c1 := S5.out.cell a0n
                      have c2 := S5.out.cell pvn
                      have LS := Lib.hid (fun W => less_any (Y.pi.1[a0]!) (Y.pi.1[Y.pivot]!) W)
                      have FV2 := Lib.hid (show V = !lt Y.pi.1[a0]! Y.pi.1[Y.pivot]! by rw [FV.out, hA]; simp [ha0])
                      clear hA
                      go_quiet ((go_at_call 89; exact Calls.quiet_of_same (LS.out _)))
                      go_wp2_with fail
                      go_meet
                      exact ⟨by rw [FV2.out], S5.out.later (drewN_below _ _)⟩
                    · have e5 : decide (0 < a') = false := decide_eq_false ha0
                      have e5' : decide ((0 : Int) < (a' : Int)) = false := decide_eq_false (by omega)
                      have FV2 := Lib.hid (show V = false by rw [FV.out]; simp [ha0])
                      go_quiet (fail)
                      go_wp2_with fail
                      go_meet
                      exact ⟨by rw [FV2.out], S5.out.later (drewN_below _ _)⟩
                  case rest =>
                    obtain ⟨rfl, hs'⟩ := hcut
                    have S6 := Lib.hid hs'
                    clear hs' S5
                    cases V
                    · obtain ⟨mid, ap, d4, hx⟩ : ∃ mid ap d4, Go.Sort.partition lt Y.pi.1 a' b' Y.pivot = (mid, ap, d4) := ⟨(Go.Sort.partition lt Y.pi.1 a' b' Y.pivot).1, (Go.Sort.partition lt Y.pi.1 a' b' Y.pivot).2.1, (Go.Sort.partition lt Y.pi.1 a' b' Y.pivot).2.2, rfl⟩
                      obtain ⟨⟨r1, r2, r3, r4, r5⟩, q1, q2⟩ := F.out.part mid ap d4 G.out.1 G.out.2 HP.out FV.out.symm hx
                      have K0 := part_any (c := c) S6.out.hs S6.out.sz F.out.pv.1 F.out.pv.2 hb' hs
                      rw [hx] at K0
                      have K := Lib.hid K0
                      have R4 := Lib.hid r4
                      have R5 := Lib.hid r5
                      have Q1 := Lib.hid q1
                      have Q2 := Lib.hid q2
                      obtain ⟨lL, hlL⟩ : ∃ lL, lL = mid - a' := ⟨_, rfl⟩
                      obtain ⟨lR, hlR⟩ : ∃ lR, lR = b' - mid := ⟨_, rfl⟩
                      obtain ⟨q, hq⟩ : ∃ q, q = l / 8 := ⟨_, rfl⟩
                      have w7 : IntKind.i64.wrap ((mid : Int) - (a' : Int)) = (lL : Int) := by rw [w64 (by omega)]; omega
                      have w8 : IntKind.i64.wrap ((b' : Int) - (mid : Int)) = (lR : Int) := by rw [w64 (by omega)]; omega
                      have w9 : (l : Int).tdiv 8 = (q : Int) := by rw [Int.tdiv_eq_ediv_of_nonneg (by omega)]; omega
                      have w10 : IntKind.i64.wrap (q : Int) = (q : Int) := w64 (by omega)
                      have w11 : IntKind.i64.wrap ((mid : Int) + 1) = ((mid + 1 : Nat) : Int) := by rw [w64 (by omega)]; omega
                      have LB := Lib.hid (show (decide (mid - a' ≥ (b' - a') / 8) = decide (q ≤ lL)) ∧ (decide (b' - mid ≥ (b' - a') / 8) = decide (q ≤ lR)) by rw [hlL, hlR, hq, hl]; exact ⟨rfl, rfl⟩)
                      have B := Lib.hid (show a' ≤ mid ∧ mid < b' ∧ lL = mid - a' ∧ lR = b' - mid from ⟨r1, r2, hlL, hlR⟩)
                      have HQ := Lib.hid (show q = (b' - a') / 8 by rw [hq, hl])
                      clear K0 hx r3 r4 r5 q1 q2 hlL hlR hq
                      go_upto_region 24 with (go_at_call 91; refine K.out.mono ?_; rintro e wz2 ⟨rfl, hs2⟩)
                      have S7 := Lib.hid (S6.out.then hs2)
                      clear hs2 K S6
                      by_cases h5 : lL < lR
                      · have h5' := Lib.hid (show mid - a' < b' - mid by have := B.out; omega)
                        have K := Lib.hid (IH.out wz2 g n c a' mid Y.lim d4 (by have := B.out; omega) S7.out.hs S7.out.sz (by omega) (by omega) hs (by omega) R4.out)
                        have P := Lib.hid (Q1.out h5'.out)
                        clear Q1 Q2
                        go_wp2_with (go_at_call 65; refine K.out.mono ?_; rintro e wz3 ⟨rfl, hs2⟩)
                        go_roundg (b' - (mid + 1))
                        case measure => have := B.out; omega
                        case rel =>
                          exact ⟨mid + 1, b', Y.lim, decide (q ≤ lL), ap, _, by go_num, rfl, rfl, by first | rfl | (congr 1; exact decide_eq_decide.2 (by have := HQ.out; omega)), rfl, by omega, hb', Nat.le_refl _, by omega, by have := F.out.lm; split at this <;> omega, P.out.2.1, S7.out.then hs2, by rw [← LB.out.1, ← P.out.2.2]; exact HE.out⟩
                      · have h5' := Lib.hid (show ¬ mid - a' < b' - mid by have := B.out; omega)
                        have K := Lib.hid (IH.out wz2 g n c (mid + 1) b' Y.lim d4 (by have := B.out; omega) S7.out.hs S7.out.sz (by omega) hb' hs (by omega) R5.out)
                        have P := Lib.hid (Q2.out h5'.out)
                        clear Q1 Q2
                        go_wp2_with (go_at_call 65; refine K.out.mono ?_; rintro e wz3 ⟨rfl, hs2⟩)
                        go_roundg (mid - a')
                        case measure => have := B.out; omega
                        case rel =>
                          exact ⟨a', mid, Y.lim, decide (q ≤ lR), ap, _, rfl, rfl, rfl, by first | rfl | (congr 1; exact decide_eq_decide.2 (by have := HQ.out; omega)), rfl, r1, by omega, Nat.le_refl _, by omega, by have := F.out.lm; split at this <;> omega, P.out.2.1, S7.out.then hs2, by rw [← LB.out.2, ← P.out.2.2]; exact HE.out⟩
                    · obtain ⟨mid, d4, hx⟩ : ∃ mid d4, Go.Sort.partitionEqual lt Y.pi.1 a' b' Y.pivot = (mid, d4) := ⟨(Go.Sort.partitionEqual lt Y.pi.1 a' b' Y.pivot).1, (Go.Sort.partitionEqual lt Y.pi.1 a' b' Y.pivot).2, rfl⟩
                      obtain ⟨⟨r1, r2, r3, r4⟩, q1⟩ := F.out.eq mid d4 G.out.1 G.out.2 HP.out FV.out.symm hx
                      have K0 := equal_any (c := c) S6.out.hs S6.out.sz F.out.pv.1 F.out.pv.2 hb' hs
                      rw [hx] at K0
                      have K := Lib.hid K0
                      have R4 := Lib.hid r4
                      have Q1 := Lib.hid q1
                      clear K0 hx r3 r4 q1
                      go_wp2_with (go_at_call 90; refine K.out.mono ?_; rintro e wz2 ⟨rfl, hs2⟩)
                      go_roundg (b' - mid)
                      case measure => omega
                      case rel =>
                        exact ⟨mid, b', Y.lim, wb, wp, d4, rfl, rfl, rfl, rfl, rfl, r2, hb', Nat.le_refl _, by omega, by have := F.out.lm; split at this <;> omega, R4.out, S6.out.then hs2, by rw [← Q1.out]; exact HE.out⟩

end Go.Proofs.Ytfcibccipkokoaa.Qs
