/- Walks: SlotLoads. -/
import Derived.Test.YtehfclgngkhcpaaRX5
namespace Go.Proofs.Ytehfclgngkhcpaa.Slot
open Go.RowKit
attribute [local go_sem ↓] Go.wp_at_zero Go.wp_at_succ

theorem Two.loads {s : ByteArray} {w w1 w2 : World} {c q : Nat} (hL : Loads s.data.toList) (hb : Below w.heap.size w w1) (ha : Ar w1 (w.heap.size + 1) w.heap.size c s.data.toList) (hb2 : Below w1.heap.size w1 w2)
    (hr : Rf w2 q (areaOf s.data.toList) (fun b => w1.heap.size ≤ b ∧ b < w2.heap.size)) : Two w w2 (w.heap.size + 1) w.heap.size c q (fun b => w1.heap.size ≤ b ∧ b < w2.heap.size) (areaOf s.data.toList) (areaOf s.data.toList) := by
  have hst : St w w1 (w.heap.size + 1) w.heap.size c (areaOf s.data.toList) := ⟨⟨⟨_, ha, areaOf_is _⟩, areaOf_ok hL⟩, hb, by omega, by omega⟩
  refine ⟨hst.later hb2, hr, areaOf_ok hL, fun x hx => Nat.le_trans hb.size hx.1, fun x hx hh => ?_⟩
  have := hst.area.below x hh
  omega

set_option maxRecDepth 100000 in
set_option maxHeartbeats 8000000 in
theorem loads_walk (s : ByteArray) (hs : s.size ≤ 281474976710656) {v : Value} {l : List Cl} {w : World} (hc : IsCalls w v l) (hl : l.length ≤ 140737488351232) :
    Calls Try.prog 5 #[.string s, v] w fun e w' => e = .returned (.bool true) ∧ Below w.heap.size w w' := by
  have al := Lib.hid alive_any
  have hv := heavy_any hc hl
  have HC := Lib.hid hc
  obtain ⟨ca, cap, rfl, _⟩ := hc
  have HV := Lib.hid hv
  clear hv
  have s0 : (0 : Int) ≤ (s.size : Int) := Int.natCast_nonneg _
  have s1 : (s.size : Int) ≤ 281474976710656 := by omega
  by_cases hz : 512 < s.size ∧ s.size ≤ 4096
  · have e1 : decide (512 < (s.size : Int)) = true := decide_eq_true (by omega)
    have e2 : decide (512 < s.size) = true := decide_eq_true hz.1
    have e3 : decide ((s.size : Int) ≤ 4096) = true := decide_eq_true (by omega)
    have e4 : decide (s.size ≤ 4096) = true := decide_eq_true hz.2
    clear hz
    go_enter Try.func5, Try.ntmps5
    go_wp2_with fail
    refine HV.out.mono ?_
    rintro e w' ⟨hb, rfl, hb2, rfl⟩
    clear hb2 HV
    cases hb
    all_goals
      go_wp2_with fail
      refine (al.out _).mono ?_
      rintro e w1 ⟨rfl, b1⟩
      have B := Lib.hid b1
      clear b1
      go_wp2_with fail
      go_ret
      exact ⟨rfl, B.out⟩
  · have hcase : ∃ z1 z2 : Bool, decide (512 < (s.size : Int)) = z1 ∧ decide (512 < s.size) = z1 ∧ decide ((s.size : Int) ≤ 4096) = z2 ∧ decide (s.size ≤ 4096) = z2 := ⟨_, _, rfl, by rw [decide_eq_decide]; omega, rfl, by rw [decide_eq_decide]; omega⟩
    obtain ⟨z1, z2, d1, d2, d3, d4⟩ := hcase
    have hzz : z1 = false ∨ (z1 = true ∧ z2 = false) := by
      rw [← d2, ← d4]
      by_cases h1 : 512 < s.size
      · right; exact ⟨decide_eq_true h1, decide_eq_false (fun h => hz ⟨h1, h⟩)⟩
      · left; exact decide_eq_false h1
    have HZZ := Lib.hid hzz
    have LD := Lib.hid (load_any s w hs)
    have LQ := Lib.hid (fun W => qload_any s W hs)
    clear hz hs hzz
    go_enter Try.func5, Try.ntmps5
    go_wp2_with fail
    refine HV.out.mono ?_
    rintro e w' ⟨hb, rfl, hb2, rfl⟩
    have HB2 := Lib.hid hb2
    clear hb2 HV
    cases hb
    case true =>
      go_wp2_with fail
      refine (al.out _).mono ?_
      rintro e w1 ⟨rfl, b1⟩
      have B := Lib.hid b1
      clear b1
      go_wp2_with fail
      go_ret
      exact ⟨rfl, B.out⟩
    case false =>
      obtain ⟨hl100, hwt⟩ := HB2.out rfl
      clear HB2
      have hl1 : (l.length : Int) ≤ 100 := by omega
      have HH := HZZ.out
      clear HZZ hl
      have HC0 := HC
      clear HC
      rcases HH with rfl | ⟨rfl, rfl⟩
      all_goals
        have HC := HC0
        clear HC0
        go_wp2_with fail
        refine LD.out.mono ?_
        rintro e w1 ⟨b1, hld⟩
        rcases hld with ⟨hL, rfl, c, ha⟩ | ⟨hL, rfl⟩
        · have LY := Lib.hid hL
          have HA := Lib.hid ha
          have B1 := Lib.hid b1
          clear hL ha b1 LD d1 d2 d3 d4
          go_wp2_with fail
          refine (LQ.out w1).mono ?_
          rintro e w2 ⟨b2, hq⟩
          rcases hq with ⟨_, q, rfl, hr⟩ | ⟨hn, _⟩
          · have TW := Lib.hid (Two.loads LY.out B1.out HA.out b2 hr)
            clear b2 hr LQ HA B1
            have SM := Lib.hid (same_any TW.out)
            obtain ⟨a, hea⟩ : ∃ a, a = areaOf s.data.toList := ⟨_, rfl⟩
            rw [← hea] at TW
            clear hea
            go_wp2_with fail
            refine SM.out.mono ?_
            rintro e w3 ⟨rfl, b3⟩
            have T3 := Lib.hid (TW.out.later b3)
            clear TW SM b3
            go_wp2_with fail
            go_loopw [8] (fun i wr => ∃ (k : Nat) (F : Nat → Prop) (a : A), k ≤ l.length ∧ i = .int .i64 k ∧ Two w wr (w.heap.size + 1) w.heap.size c q F a a) (fun i _ => l.length - (intOf i).toNat)
            case atStart => exact ⟨0, _, _, by omega, by go_num, T3.out⟩
            case round =>
              obtain ⟨k, F, a, hk, rfl, hT⟩ := hrel
              clear T3
              by_cases hlt : k < l.length
              · obtain ⟨x, o, cap', hv, hcl⟩ := HC.out.at hlt
                simp at hv
                obtain ⟨rfl, rfl⟩ := hv
                have hx := block_lt_of_cell hcl.c0
                have CL := Lib.hid (show ∀ W, Below w.heap.size w W → ClAt W x (o + k * 3) l[k] from fun W t => hcl.far (t.block x hx))
                have cl1 := CL.out _ hT.st.below
                have c0 := cl1.c0
                have c1 := cl1.c1
                have c2 := cl1.c2
                have o1 := cl1.op
                have s1 := cl1.s
                have k1 := cl1.k
                have HT := Lib.hid hT
                clear cl1 hcl hT
                have b0 : (0 : Int) ≤ (k : Int) := Int.natCast_nonneg _
                have b1 : (k : Int) < (l.length : Int) := by omega
                obtain ⟨d, hd⟩ : ∃ d : Nat, l[k].op % 8 = (d : Int) := ⟨(l[k].op % 8).toNat, by omega⟩
                have HD := Lib.hid hd
                have DO := Lib.hid (does_any HT.out l[k].op l[k].k l[k].s o1 d hd (by omega))
                have SM := Lib.hid (same_any HT.out)
                generalize opA a d l[k].k l[k].s.data.toList = a2 at *
                generalize l[k].op = O at *
                generalize l[k].k = K at *
                generalize l[k].s = T at *
                by_cases h7 : d = 7
                · subst h7
                  clear DO
                  go_wp2_with fail
                  refine SM.out.mono ?_
                  rintro e w4 ⟨rfl, hb⟩
                  have T4 := Lib.hid (HT.out.later hb)
                  clear hb SM HT c0 c1 c2
                  go_wp2_with fail
                  go_roundw
                  case rel => exact ⟨k + 1, _, _, by omega, by go_num, T4.out⟩
                  case measure => simp [intOf]; omega
                · have en : ((d : Int) == 7) = false := by simp; omega
                  have en2 : ((d : Int) != 7) = true := by simp; omega
                  have en3 : decide ((d : Int) = 7) = false := decide_eq_false (by omega)
                  clear h7 SM
                  go_wp2_with fail
                  refine DO.out.mono ?_
                  rintro e w3 ⟨rfl, F', h3⟩
                  have T3 := Lib.hid h3
                  have SM := Lib.hid (same_any T3.out)
                  clear h3 DO HT c0 c1 c2
                  go_wp2_with fail
                  refine SM.out.mono ?_
                  rintro e w4 ⟨rfl, hb⟩
                  have T4 := Lib.hid (T3.out.later hb)
                  clear hb SM T3
                  go_wp2_with fail
                  go_roundw
                  case rel => exact ⟨k + 1, _, _, by omega, by go_num, T4.out⟩
                  case measure => simp [intOf]; omega
              · obtain rfl : k = l.length := by omega
                have HB := Lib.hid hT.st.below
                clear hT
                go_wp2_with fail
                refine (al.out _).mono ?_
                rintro e w3 ⟨rfl, b3⟩
                have B := Lib.hid (HB.out.trans (b3.mono HB.out.size))
                clear b3
                go_wp2_with fail
                go_ret
                exact ⟨rfl, B.out⟩
          · exact absurd LY.out hn
        · have LN := Lib.hid hL
          have B1 := Lib.hid b1
          clear hL b1 LD d1 d2 d3 d4
          go_wp2_with fail
          refine (LQ.out w1).mono ?_
          rintro e w2 ⟨b2, hq⟩
          rcases hq with ⟨hn, _⟩ | ⟨_, rfl⟩
          · exact absurd hn LN.out
          · have B2 := Lib.hid (B1.out.trans (b2.mono B1.out.size))
            clear b2 LQ B1
            go_wp2_with fail
            refine (al.out _).mono ?_
            rintro e w3 ⟨rfl, b3⟩
            have B3 := Lib.hid (B2.out.trans (b3.mono B2.out.size))
            clear b3
            go_wp2_with fail
            go_ret
            exact ⟨rfl, B3.out⟩

end Go.Proofs.Ytehfclgngkhcpaa.Slot
