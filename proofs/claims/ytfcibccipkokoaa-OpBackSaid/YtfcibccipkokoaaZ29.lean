/-
  Sorting of numbers: some insertions.
-/
import Derived.Test.YtfcibccipkokoaaZ21
namespace Go.Proofs.Ytfcibccipkokoaa.Qs
open Go.RowKit
attribute [local go_sem ↓] Go.wp_at_zero Go.wp_at_succ

/-- a truth and an array, handed back -/
def Bp (w : World) (g n : Nat) (r : Array Nat × Bool) : Ending → World → Prop := fun e w' => e = .returned (.bool r.2) ∧ St w w' g n r.1
theorem sorted_go {d : Array Nat} {b i : Nat} (h : i < b) (hl : lt d[i]! d[i - 1]! = false) : Go.Sort.scanSorted lt d b i = Go.Sort.scanSorted lt d b (i + 1) := by
  rw [Go.Sort.scanSorted, if_pos (by simp [h, hl])]
theorem sorted_end {d : Array Nat} {b i : Nat} (h : ¬ i < b ∨ lt d[i]! d[i - 1]! = true) : Go.Sort.scanSorted lt d b i = i := by
  rw [Go.Sort.scanSorted, if_neg (by rcases h with h | h <;> simp [h])]
theorem sd_go {j : Nat} {d : Array Nat} (hl : lt d[j + 1]! d[j]! = true) : Go.Sort.shiftDown lt (j + 1) d = Go.Sort.shiftDown lt j (Go.Sort.swp d (j + 1) j) := by
  rw [Go.Sort.shiftDown, if_neg (by simp [hl])]
theorem sd_end {j : Nat} {d : Array Nat} (hl : lt d[j + 1]! d[j]! = false) : Go.Sort.shiftDown lt (j + 1) d = d := by
  rw [Go.Sort.shiftDown, if_pos (by simp [hl])]
theorem su_go {b j : Nat} {d : Array Nat} (h : j < b) (hl : lt d[j]! d[j - 1]! = true) : Go.Sort.shiftUp lt b j d = Go.Sort.shiftUp lt b (j + 1) (Go.Sort.swp d j (j - 1)) := by
  rw [Go.Sort.shiftUp, if_pos h, if_neg (by simp [hl])]
theorem su_end {b j : Nat} {d : Array Nat} (h : ¬ j < b ∨ lt d[j]! d[j - 1]! = false) : Go.Sort.shiftUp lt b j d = d := by
  rw [Go.Sort.shiftUp]
  rcases h with h | h
  · rw [if_neg h]
  · split
    · rw [if_pos (by simp [h])]
    · rfl
theorem ins_step {a b s i U : Nat} {d D1 D2 D3 : Array Nat} (hU : U = Go.Sort.scanSorted lt d b i) (h1 : D1 = Go.Sort.swp d U (U - 1)) (h2 : D2 = if U - a ≥ 2 then Go.Sort.shiftDown lt (U - 1) D1 else D1) (h3 : D3 = if b - U ≥ 2 then Go.Sort.shiftUp lt b (U + 1) D2 else D2) :
    Go.Sort.partialIns lt a b (s + 1) i d = if U = b then (d, true) else if b - a < 50 then (d, false) else Go.Sort.partialIns lt a b s U D3 := by
  subst hU h1 h2 h3
  rfl

set_option maxRecDepth 100000 in
set_option maxHeartbeats 4000000 in
theorem partial_any {w : World} {g n c a b : Nat} {d : Array Nat} (h : Hs w g d) (hn : d.size = n) (hab : a < b) (hb : b ≤ n) (hs : n ≤ 1000000) :
    Calls Try.prog 88 #[.slice (some ⟨g, 0, none⟩) n c, .int .i64 (a : Int), .int .i64 (b : Int)] w (Bp w g n (Go.Sort.partialInsertionSort lt d a b)) := by
  obtain ⟨R, hR⟩ : ∃ R, R = Go.Sort.partialInsertionSort lt d a b := ⟨_, rfl⟩
  rw [← hR]
  obtain ⟨a1, ha1⟩ : ∃ a1, a1 = a + 1 := ⟨_, rfl⟩
  obtain ⟨l, hl0⟩ : ∃ l, l = b - a := ⟨_, rfl⟩
  have T0 := Lib.hid (show Go.Sort.partialIns lt a b 5 a1 d = R by rw [ha1]; exact hR.symm)
  have S0 := Lib.hid (show St w w g n d from ⟨h, Touch.refl _ _, hn⟩)
  have w1 : IntKind.i64.wrap ((a : Int) + 1) = (a1 : Int) := by rw [w64 (by omega)]; omega
  have w2 : IntKind.i64.wrap ((b : Int) - (a : Int)) = (l : Int) := by rw [w64 (by omega)]; omega
  have aa := Lib.hid (show a < a1 ∧ a1 ≤ b by omega)
  have HL := Lib.hid hl0
  clear hR h ha1 hl0 hn
  go_enter Try.func88, Try.ntmps88
  go_wp2_with fail
  go_loopw [7, 8] (fun i j wr => ∃ (s k y : Nat) (e : Array Nat), y + s = 5 ∧ i = .int .i64 (k : Int) ∧ j = .int .i64 (y : Int) ∧ a < k ∧ k ≤ b ∧ St w wr g n e ∧ Go.Sort.partialIns lt a b s k e = R) (fun _ j _ => (5 - (intOf j).toNat))
  case atStart => exact ⟨5, a1, 0, d, rfl, rfl, rfl, aa.out.1, aa.out.2, S0.out, T0.out⟩
  case round =>
    obtain ⟨s, k, y, e, hy, rfl, rfl, hak, hkb, hs', ht'⟩ := hrel
    have S1 := Lib.hid hs'
    rcases s with _ | s
    · have E : (e, false) = R := ht'
      have e1 : decide ((y : Int) < 5) = false := decide_eq_false (by omega)
      have e1' : decide (y < 5) = false := decide_eq_false (by omega)
      clear hs' ht' T0 S0 hy
      subst E
      go_wp2_with fail
      go_ret
      exact ⟨rfl, S1.out⟩
    · have e1 : decide ((y : Int) < 5) = true := decide_eq_true (by omega)
      have e1' : decide (y < 5) = true := decide_eq_true (by omega)
      have wy : IntKind.i64.wrap ((y : Int) + 1) = ((y + 1 : Nat) : Int) := by rw [w64 (by omega)]; omega
      have MY := Lib.hid (show y + 1 + s = 5 by omega)
      obtain ⟨U, hU⟩ : ∃ U, U = Go.Sort.scanSorted lt e b k := ⟨_, rfl⟩
      obtain ⟨D1, h1⟩ : ∃ D, D = Go.Sort.swp e U (U - 1) := ⟨_, rfl⟩
      obtain ⟨D2, h2⟩ : ∃ D, D = if U - a ≥ 2 then Go.Sort.shiftDown lt (U - 1) D1 else D1 := ⟨_, rfl⟩
      obtain ⟨D3, h3⟩ : ∃ D, D = if b - U ≥ 2 then Go.Sort.shiftUp lt b (U + 1) D2 else D2 := ⟨_, rfl⟩
      have T1 := Lib.hid ((ins_step hU h1 h2 h3).symm.trans ht')
      have HU := Lib.hid hU.symm
      have H1 := Lib.hid h1
      have H2 := Lib.hid h2
      have H3 := Lib.hid h3
      clear hs' ht' T0 S0 hU h1 h2 h3 hy
      go_upto_block 2 with fail
      go_cut [7] from 13 to 132 (fun i wx => i = .int .i64 (U : Int) ∧ (k ≤ U ∧ U ≤ b) ∧ St w wx g n e)
      case first =>
        go_wp2_with fail
        go_loopw [7] (fun i wr => ∃ (k2 : Nat), i = .int .i64 (k2 : Int) ∧ k ≤ k2 ∧ k2 ≤ b ∧ St w wr g n e ∧ Go.Sort.scanSorted lt e b k2 = U) (fun i _ => (b - (intOf i).toNat))
        case atStart => exact ⟨k, rfl, Nat.le_refl _, hkb, S1.out, HU.out⟩
        case round =>
          obtain ⟨k2, rfl, hk2, hk3, hs', hu'⟩ := hrel
          have S4 := Lib.hid hs'
          have HU4 := Lib.hid hu'
          clear hs' hu' S1 HU
          by_cases hle : k2 < b
          · obtain ⟨k3, hk4⟩ : ∃ k3, k3 = k2 - 1 := ⟨_, rfl⟩
            have k2n : k2 < n := by omega
            have k3n : k3 < n := by omega
            have j1 : (0 : Int) ≤ (k2 : Int) := by omega
            have j2 : (k2 : Int) < (n : Int) := by omega
            have j3 : (0 : Int) ≤ (k3 : Int) := by omega
            have j4 : (k3 : Int) < (n : Int) := by omega
            have w3 : IntKind.i64.wrap ((k2 : Int) - 1) = (k3 : Int) := by rw [w64 (by omega)]; omega
            have w4 : IntKind.i64.wrap ((k2 : Int) + 1) = ((k2 + 1 : Nat) : Int) := by rw [w64 (by omega)]; omega
            have e2 : decide (k2 < b) = true := decide_eq_true hle
            have c1 := S4.out.cell k2n
            have c2 := S4.out.cell k3n
            have LS := Lib.hid (fun W => less_any (e[k2]!) (e[k3]!) W)
            have K4 := Lib.hid hk4
            clear hk4
            cases hl : lt e[k2]! e[k3]!
            · have HU2 := Lib.hid (show Go.Sort.scanSorted lt e b (k2 + 1) = U from (sorted_go hle (by rw [← K4.out]; exact hl)).symm.trans HU4.out)
              rw [hl] at LS
              clear hl
              go_upto_region 5 with fail
              go_quiet ((go_at_call 89; exact Calls.quiet_of_same (LS.out _)))
              go_wp2_with fail
              go_roundw
              case rel => exact ⟨k2 + 1, by go_num, by omega, by omega, S4.out.later (drewN_below _ _), HU2.out⟩
              case measure => simp [intOf]; omega
            · have HE := Lib.hid (show k2 = U from (sorted_end (.inr (by rw [← K4.out]; exact hl))).symm.trans HU4.out)
              rw [hl] at LS
              clear hl
              go_upto_region 5 with fail
              go_quiet ((go_at_call 89; exact Calls.quiet_of_same (LS.out _)))
              go_wp2_with fail
              go_meet
              exact ⟨by rw [HE.out], ⟨by have := HE.out; omega, by have := HE.out; omega⟩, S4.out.later (drewN_below _ _)⟩
          · have HE := Lib.hid (show k2 = U from (sorted_end (.inl hle)).symm.trans HU4.out)
            have e2 : decide (k2 < b) = false := decide_eq_false hle
            go_upto_region 5 with fail
            go_quiet (fail)
            go_wp2_with fail
            go_meet
            exact ⟨by rw [HE.out], ⟨by have := HE.out; omega, by have := HE.out; omega⟩, S4.out.later (drewN_below _ _)⟩
      case rest =>
        obtain ⟨rfl, ⟨hU1, hU2⟩, hs'⟩ := hcut
        have S5 := Lib.hid hs'
        clear hs' S1 HU
        by_cases hUb : U = b
        · have E := T1.out
          rw [if_pos hUb] at E
          have e3 : ((U : Int) == (b : Int)) = true := by rw [beq_iff_eq]; omega
          have e3' : (U == b) = true := by rw [beq_iff_eq]; omega
          clear hUb T1 H1 H2 H3
          subst E
          go_wp2_with fail
          go_ret
          exact ⟨rfl, S5.out⟩
        · have e3 : ((U : Int) == (b : Int)) = false := by rw [beq_eq_false_iff_ne]; omega
          have e3' : (U == b) = false := by rw [beq_eq_false_iff_ne]; omega
          have T2 := T1.out
          rw [if_neg hUb, ← HL.out] at T2
          by_cases h50 : l < 50
          · have e4 : decide ((l : Int) < 50) = true := decide_eq_true (by omega)
            have e4' : decide (l < 50) = true := decide_eq_true (by omega)
            rw [if_pos h50] at T2
            clear hUb T1 H1 H2 H3
            subst T2
            go_wp2_with fail
            go_ret
            exact ⟨rfl, S5.out⟩
          · have e4 : decide ((l : Int) < 50) = false := decide_eq_false (by omega)
            have e4' : decide (l < 50) = false := decide_eq_false (by omega)
            rw [if_neg h50] at T2
            have T3 := Lib.hid T2
            obtain ⟨U1, hU3⟩ : ∃ U1, U1 = U - 1 := ⟨_, rfl⟩
            have w5 : IntKind.i64.wrap ((U : Int) - 1) = (U1 : Int) := by rw [w64 (by omega)]; omega
            have w6 : IntKind.i64.wrap ((U : Int) + 1) = ((U + 1 : Nat) : Int) := by rw [w64 (by omega)]; omega
            have Un : U < n := by omega
            have U1n : U1 < n := by omega
            have q1 : (0 : Int) ≤ (U : Int) := by omega
            have q2 : (U : Int) < (n : Int) := by omega
            have q3 : (0 : Int) ≤ (U1 : Int) := by omega
            have q4 : (U1 : Int) < (n : Int) := by omega
            obtain ⟨la, hla⟩ : ∃ la, la = U - a := ⟨_, rfl⟩
            obtain ⟨lb, hlb⟩ : ∃ lb, lb = b - U := ⟨_, rfl⟩
            have w7 : IntKind.i64.wrap ((U : Int) - (a : Int)) = (la : Int) := by rw [w64 (by omega)]; omega
            have w8 : IntKind.i64.wrap ((b : Int) - (U : Int)) = (lb : Int) := by rw [w64 (by omega)]; omega
            rw [← hU3] at H1 H2
            rw [← hla] at H2
            rw [← hlb] at H3
            have BB := Lib.hid (show a < U ∧ U < b ∧ U1 + 1 = U by omega)
            clear hla hlb hU3 T2 hUb h50 T1
            go_upto_region 11 with fail
            have c1 := S5.out.cell Un
            have c2 := S5.out.cell U1n
            have z1 := S5.out.hs.free U
            have z2 := S5.out.hs.free U1
            have S8 := Lib.hid (S5.out.swp Un U1n)
            obtain ⟨v3, c3⟩ : ∃ v, (wc.setCell ⟨g, U, none⟩ (.int .u32 (e[U1]! : Int))).cell? ⟨g, U1, none⟩ = some v := ⟨_, (S5.out.set Un _).cell U1n⟩
            rw [← H1.out] at S8
            generalize hx1 : e[U]! = x1 at *
            generalize hx2 : e[U1]! = x2 at *
            clear S5 H1
            go_region
            all_goals
              have S9 := Lib.hid (S8.out.later (Below.refl _ _).drew)
              clear c1 c2 c3 z1 z2 S8
              go_upto_region 12 with fail
              generalize (World.setCell _ _ _).drew = w3x at *
              clear hx1 hx2
              go_upto_if 61 with fail
              go_cut [9] from 13 to 132 (fun _ wx => St w wx g n D2)
              case first =>
                by_cases h2 : 2 ≤ la
                · have e5 : decide (2 ≤ la) = true := decide_eq_true h2
                  have e5' : decide ((2 : Int) ≤ (la : Int)) = true := decide_eq_true (by omega)
                  have H4 := Lib.hid (show Go.Sort.shiftDown lt U1 D1 = D2 by rw [H2.out, if_pos h2])
                  clear H2 w7 w8
                  go_wp2_with fail
                  go_loopw [9] (fun j wr => ∃ (j2 : Nat) (e2 : Array Nat), j = .int .i64 (j2 : Int) ∧ j2 ≤ U1 ∧ St w wr g n e2 ∧ Go.Sort.shiftDown lt j2 e2 = D2) (fun j _ => (intOf j).toNat)
                  case atStart => exact ⟨U1, D1, rfl, Nat.le_refl _, S9.out, H4.out⟩
                  case round =>
                    obtain ⟨j2, e2, rfl, hj2, hs', hd'⟩ := hrel
                    have S10 := Lib.hid hs'
                    clear hs' S9 H4
                    rcases j2 with _ | j3
                    · have E : e2 = D2 := hd'
                      rw [E] at S10
                      have e6 : decide (1 ≤ 0) = false := rfl
                      go_wp2_with fail
                      go_meet
                      exact S10.out
                    · have H5 := Lib.hid hd'
                      clear hd'
                      obtain ⟨j2, hj3⟩ : ∃ j2, j2 = j3 + 1 := ⟨_, rfl⟩
                      have e6 : decide (1 ≤ j2) = true := decide_eq_true (by omega)
                      have e6' : decide ((1 : Int) ≤ (j2 : Int)) = true := decide_eq_true (by omega)
                      have j2n : j2 < n := by omega
                      have j3n : j3 < n := by omega
                      have i1 : (0 : Int) ≤ (j2 : Int) := by omega
                      have i2 : (j2 : Int) < (n : Int) := by omega
                      have i3 : (0 : Int) ≤ (j3 : Int) := by omega
                      have i4 : (j3 : Int) < (n : Int) := by omega
                      have w9 : IntKind.i64.wrap ((j2 : Int) - 1) = (j3 : Int) := by rw [w64 (by omega)]; omega
                      have c1 := S10.out.cell j2n
                      have c2 := S10.out.cell j3n
                      have LS := Lib.hid (fun W => less_any (e2[j2]!) (e2[j3]!) W)
                      have J3 := Lib.hid hj3
                      rw [← hj3]
                      rw [← hj3] at H5
                      have j2U : j2 ≤ U1 := by omega
                      have j21 : 1 ≤ j2 := by omega
                      clear hj3
                      cases hl : lt e2[j2]! e2[j3]!
                      · have E := Lib.hid (show e2 = D2 by have h5 := H5.out; rw [J3.out] at h5 hl; exact (sd_end hl).symm.trans h5)
                        rw [hl] at LS
                        clear hl
                        go_upto_region 16 with fail
                        go_quiet ((go_at_call 89; exact Calls.quiet_of_same (LS.out _)))
                        go_wp2_with fail
                        go_meet
                        rw [← E.out]
                        exact S10.out.later (drewN_below _ _)
                      · have H6 := Lib.hid (show Go.Sort.shiftDown lt j3 (Go.Sort.swp e2 j2 j3) = D2 by have h5 := H5.out; rw [J3.out] at h5 hl ⊢; exact (sd_go hl).symm.trans h5)
                        rw [hl] at LS
                        clear hl
                        go_upto_region 16 with fail
                        go_quiet ((go_at_call 89; exact Calls.quiet_of_same (LS.out _)))
                        go_upto_region 17 with fail
                        have S11 := Lib.hid (S10.out.later (drewN_below _ nq))
                        clear c1 c2 S10 LS H5
                        generalize wr.drewN nq = w7x at *
                        have c1 := S11.out.cell j2n
                        have c2 := S11.out.cell j3n
                        have z1 := S11.out.hs.free j2
                        have z2 := S11.out.hs.free j3
                        have S12 := Lib.hid (S11.out.swp j2n j3n)
                        obtain ⟨v3, c3⟩ : ∃ v, (w7x.setCell ⟨g, j2, none⟩ (.int .u32 (e2[j3]! : Int))).cell? ⟨g, j3, none⟩ = some v := ⟨_, (S11.out.set j2n _).cell j3n⟩
                        generalize hx1 : e2[j2]! = x1 at *
                        generalize hx2 : e2[j3]! = x2 at *
                        clear S11
                        go_region
                        all_goals
                          go_wp2_with fail
                          go_roundw
                          case rel => exact ⟨j3, _, rfl, by have := J3.out; omega, S12.out.later (Below.refl _ _).drew, H6.out⟩
                          case measure => have := J3.out; simp [intOf]; omega
                · have e5 : decide (2 ≤ la) = false := decide_eq_false h2
                  have e5' : decide ((2 : Int) ≤ (la : Int)) = false := decide_eq_false (by omega)
                  have H4 := Lib.hid (show D1 = D2 by rw [H2.out, if_neg h2])
                  clear H2 w7 w8
                  go_wp2_with fail
                  go_meet
                  rw [← H4.out]
                  exact S9.out
              case rest =>
                have S10 := Lib.hid hcut
                clear hcut S9 H2 w7
                go_upto_if 98 with fail
                by_cases h2 : 2 ≤ lb
                · have e5 : decide (2 ≤ lb) = true := decide_eq_true h2
                  have e5' : decide ((2 : Int) ≤ (lb : Int)) = true := decide_eq_true (by omega)
                  have H4 := Lib.hid (show Go.Sort.shiftUp lt b (U + 1) D2 = D3 by rw [H3.out, if_pos h2])
                  clear H3 w8
                  go_wp2_with fail
                  go_loopw [10] (fun j wr => ∃ (j2 : Nat) (e2 : Array Nat), j = .int .i64 (j2 : Int) ∧ U < j2 ∧ j2 ≤ b ∧ St w wr g n e2 ∧ Go.Sort.shiftUp lt b j2 e2 = D3) (fun j _ => (b - (intOf j).toNat))
                  case atStart => exact ⟨U + 1, D2, by go_num, Nat.lt_succ_self _, BB.out.2.1, S10.out, H4.out⟩
                  case round =>
                    obtain ⟨j2, e2, rfl, hj2, hj4, hs', hd'⟩ := hrel
                    have S11 := Lib.hid hs'
                    have H5 := Lib.hid hd'
                    clear hs' S10 H4 hd'
                    by_cases hjb : j2 < b
                    · obtain ⟨j3, hj3⟩ : ∃ j3, j3 = j2 - 1 := ⟨_, rfl⟩
                      have e6 : decide (j2 < b) = true := decide_eq_true hjb
                      have j2n : j2 < n := by omega
                      have j3n : j3 < n := by omega
                      have i1 : (0 : Int) ≤ (j2 : Int) := by omega
                      have i2 : (j2 : Int) < (n : Int) := by omega
                      have i3 : (0 : Int) ≤ (j3 : Int) := by omega
                      have i4 : (j3 : Int) < (n : Int) := by omega
                      have w9 : IntKind.i64.wrap ((j2 : Int) - 1) = (j3 : Int) := by rw [w64 (by omega)]; omega
                      have w10 : IntKind.i64.wrap ((j2 : Int) + 1) = ((j2 + 1 : Nat) : Int) := by rw [w64 (by omega)]; omega
                      have c1 := S11.out.cell j2n
                      have c2 := S11.out.cell j3n
                      have LS := Lib.hid (fun W => less_any (e2[j2]!) (e2[j3]!) W)
                      have J3 := Lib.hid hj3
                      clear hj3
                      cases hl : lt e2[j2]! e2[j3]!
                      · have E := Lib.hid (show e2 = D3 from (su_end (.inr (by rw [← J3.out]; exact hl))).symm.trans H5.out)
                        rw [hl] at LS
                        clear hl
                        go_upto_region 22 with fail
                        go_quiet ((go_at_call 89; exact Calls.quiet_of_same (LS.out _)))
                        go_wp2_with fail
                        have SF := Lib.hid (S11.out.later (drewN_below _ nq))
                        rw [E.out] at SF
                        exact ⟨⟨s, U, y + 1, D3, MY.out, rfl, by go_num, BB.out.1, Nat.le_of_lt BB.out.2.1, SF.out, T3.out⟩, by have := MY.out; simp [intOf]; omega⟩
                      · have H6 := Lib.hid (show Go.Sort.shiftUp lt b (j2 + 1) (Go.Sort.swp e2 j2 j3) = D3 by have h5 := H5.out; rw [su_go hjb (by rw [← J3.out]; exact hl), ← J3.out] at h5; exact h5)
                        rw [hl] at LS
                        clear hl
                        go_upto_region 22 with fail
                        go_quiet ((go_at_call 89; exact Calls.quiet_of_same (LS.out _)))
                        go_upto_region 23 with fail
                        have S12 := Lib.hid (S11.out.later (drewN_below _ nq))
                        clear c1 c2 S11 LS H5
                        generalize wr.drewN nq = w7x at *
                        have c1 := S12.out.cell j2n
                        have c2 := S12.out.cell j3n
                        have z1 := S12.out.hs.free j2
                        have z2 := S12.out.hs.free j3
                        have S13 := Lib.hid (S12.out.swp j2n j3n)
                        obtain ⟨v3, c3⟩ : ∃ v, (w7x.setCell ⟨g, j2, none⟩ (.int .u32 (e2[j3]! : Int))).cell? ⟨g, j3, none⟩ = some v := ⟨_, (S12.out.set j2n _).cell j3n⟩
                        generalize hx1 : e2[j2]! = x1 at *
                        generalize hx2 : e2[j3]! = x2 at *
                        clear S12
                        go_region
                        all_goals
                          go_wp2_with fail
                          go_roundw
                          case rel => exact ⟨j2 + 1, _, by go_num, by omega, by omega, S13.out.later (Below.refl _ _).drew, H6.out⟩
                          case measure => simp [intOf]; omega
                    · have e6 : decide (j2 < b) = false := decide_eq_false hjb
                      have E := Lib.hid (show e2 = D3 from (su_end (.inl hjb)).symm.trans H5.out)
                      go_wp2_with fail
                      have SF := Lib.hid (S11.out)
                      rw [E.out] at SF
                      exact ⟨⟨s, U, y + 1, D3, MY.out, rfl, by go_num, BB.out.1, Nat.le_of_lt BB.out.2.1, SF.out, T3.out⟩, by have := MY.out; simp [intOf]; omega⟩
                · have e5 : decide (2 ≤ lb) = false := decide_eq_false h2
                  have e5' : decide ((2 : Int) ≤ (lb : Int)) = false := decide_eq_false (by omega)
                  have H4 := Lib.hid (show D2 = D3 by rw [H3.out, if_neg h2])
                  clear H3 w8
                  go_wp2_with fail
                  have SF := Lib.hid (S10.out)
                  rw [H4.out] at SF
                  exact ⟨⟨s, U, y + 1, D3, MY.out, rfl, by go_num, BB.out.1, Nat.le_of_lt BB.out.2.1, SF.out, T3.out⟩, by have := MY.out; simp [intOf]; omega⟩

end Go.Proofs.Ytfcibccipkokoaa.Qs
