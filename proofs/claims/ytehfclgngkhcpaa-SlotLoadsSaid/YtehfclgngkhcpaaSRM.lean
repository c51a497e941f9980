/- Walks: SlotRoom. -/
import Derived.Test.YtehfclgngkhcpaaSG
namespace Go.Proofs.Ytehfclgngkhcpaa.Slot
open Go.RowKit
attribute [local go_sem ↓] Go.wp_at_zero Go.wp_at_succ

theorem wf_u16 {n : Int} (h : (Lit.int .u16 n).wf = true) : 0 ≤ n ∧ n ≤ 65535 := by
  have h' : (decide (IntKind.u16.min ≤ n) && decide (n ≤ IntKind.u16.max)) = true := h
  simp only [Bool.and_eq_true, decide_eq_true_eq] at h'
  have e1 : IntKind.u16.min = 0 := by decide
  have e2 : IntKind.u16.max = 65535 := by decide
  omega
theorem wf_i8 {n : Int} (h : (Lit.int .i8 n).wf = true) : -128 ≤ n ∧ n ≤ 127 := by
  have h' : (decide (IntKind.i8.min ≤ n) && decide (n ≤ IntKind.i8.max)) = true := h
  simp only [Bool.and_eq_true, decide_eq_true_eq] at h'
  have e1 : IntKind.i8.min = -128 := by decide
  have e2 : IntKind.i8.max = 127 := by decide
  omega
theorem room_putE {a : A} {q m : Nat} {x : Int} (hq : q ≤ a.dir.length) (hm : (a.free : Int) - 4 + x = (m : Int)) : putE a (q : Int) (zerosB m).data.toList = if x ≤ 0 then 0 else 4 := by
  unfold putE
  rw [if_neg (by omega), zeros_len]
  by_cases h : x ≤ 0
  · rw [if_pos h, if_neg (by omega)]
  · rw [if_neg h, if_pos (by omega)]
theorem room_setE {a : A} {q m : Nat} {x : Int} (hq : q < a.dir.length) (hm : ((a.at q).2 : Int) + (a.free : Int) + x = (m : Int)) : setE a (q : Int) (zerosB m).data.toList = if x ≤ 0 then 0 else 4 := by
  unfold setE
  rw [if_neg (fun h => h ⟨by omega, by omega⟩), zeros_len, Int.toNat_natCast]
  by_cases h : x ≤ 0
  · rw [if_pos h]
    split
    · rfl
    · rw [if_neg (by omega)]
  · rw [if_neg h, if_neg (by omega), if_pos (by omega)]
theorem room_putE0 {a : A} (h : a.free < 4) : putE a 0 (⟨#[]⟩ : ByteArray).data.toList = 4 := by
  unfold putE
  rw [if_neg (by omega), if_pos (by show a.free < 0 + 4; omega)]
theorem St.put {W0 w : World} {p g c : Nat} {a : A} (h : St W0 w p g c a) (i : Int) (t : ByteArray) (ht : t.size ≤ 281474976710656) :
    Calls Try.prog 36 #[.pointer (some ⟨p, 0, none⟩), .int .i64 i, .string t] w fun e w' => e = .returned (.int .i64 (putE a i t.data.toList)) ∧ Below W0.heap.size W0 w' :=
  (put_is h.area i t ht).mono fun _ _ ⟨x1, x2⟩ => ⟨x1, (h.op x2).below⟩
theorem St.set {W0 w : World} {p g c : Nat} {a : A} (h : St W0 w p g c a) (i : Int) (t : ByteArray) (ht : t.size ≤ 281474976710656) :
    Calls Try.prog 33 #[.pointer (some ⟨p, 0, none⟩), .int .i64 i, .string t] w fun e w' => e = .returned (.int .i64 (setE a i t.data.toList)) ∧ Below W0.heap.size W0 w' :=
  (set_is h.area i t ht).mono fun _ _ ⟨x1, x2⟩ => ⟨x1, (h.op x2).below⟩

set_option maxRecDepth 100000 in
set_option maxHeartbeats 8000000 in
theorem room_walk (a0 : Int) (h0 : 0 ≤ a0 ∧ a0 ≤ 65535) {v : Value} {l : List Cl} {w : World} (hc : IsCalls w v l) (hl : l.length ≤ 140737488351232) (a2 : Int) (h2 : 0 ≤ a2 ∧ a2 ≤ 255) (a3 : Int) (h3 : -128 ≤ a3 ∧ a3 ≤ 127) (st : Bool) :
    Calls Try.prog 7 #[.int .u16 a0, v, .int .u8 a2, .int .i8 a3, .bool st] w fun e w' => e = .returned (.bool true) ∧ Below w.heap.size w w' := by
  have al := Lib.hid alive_any
  have hv := heavy_any hc hl
  have HC := Lib.hid hc
  obtain ⟨ca, cap, rfl, _⟩ := hc
  obtain ⟨r, hr⟩ : ∃ r : Nat, a0 % 600 = (r : Int) := ⟨(a0 % 600).toNat, by omega⟩
  have hr2 : r < 600 := by omega
  have hr3 : (r : Int) < 600 := by omega
  have hr0 : (0 : Int) ≤ (r : Int) := Int.natCast_nonneg _
  have nw := new_any (16 + r) w (by omega) (by omega)
  rw [show ((16 + r : Nat) : Int) = 16 + (r : Int) by omega] at nw
  have NW := Lib.hid nw
  have HV := Lib.hid hv
  clear nw hv
  go_enter Try.func7, Try.ntmps7
  go_wp2_with fail
  refine HV.out.mono ?_
  rintro e w' ⟨hb, rfl, hb2, rfl⟩
  have HB2 := Lib.hid hb2
  clear hb2 HV
  cases hb
  case true =>
    go_wp2_with fail
    refine (al.out _).mono ?_
    rintro e w1 ⟨rfl, b1⟩
    have B := Lib.hid b1
    clear b1
    go_wp2_with fail
    go_ret
    exact ⟨rfl, B.out⟩
  case false =>
    obtain ⟨hl100, hwt⟩ := HB2.out rfl
    clear HB2
    go_wp2_with fail
    refine NW.out.mono ?_
    rintro e w1 ⟨rfl, h1⟩
    have S := Lib.hid (St.new h1)
    clear h1 NW
    generalize w.heap.size + 1 = p at *
    obtain ⟨g, hg⟩ : ∃ g, g = w.heap.size := ⟨_, rfl⟩
    obtain ⟨N, hN⟩ : ∃ N, N = 16 + r := ⟨_, rfl⟩
    have S0 : Hid (St w w1 p g N (A.new N)) := by rw [hg, hN]; exact S
    have HN := Lib.hid hN
    clear S hg hN
    have hl1 : (l.length : Int) ≤ 100 := by omega
    go_wp2_with fail
    go_loopw [14] (fun i wr => ∃ (k : Nat) (a : A), k ≤ l.length ∧ i = .int .i64 k ∧ a.n = N ∧ St w wr p g N a) (fun i _ => l.length - (intOf i).toNat)
    case atStart => exact ⟨0, A.new N, by omega, by go_num, by simp [A.new, A.n], S0.out⟩
    case round =>
      obtain ⟨k, a, hk, rfl, han, hs⟩ := hrel
      clear S0
      by_cases hlt : k < l.length
      · obtain ⟨x, o, cap', hv, hcl⟩ := HC.out.at hlt
        simp at hv
        obtain ⟨rfl, rfl⟩ := hv
        have hx := block_lt_of_cell hcl.c0
        have s1 := hcl.s
        have c2 := (hcl.far (hs.below.block x hx)).c2
        have HCL := Lib.hid hcl
        have pt := put_is hs.area 0 l[k].s (by omega)
        have HS := Lib.hid hs
        have HA := Lib.hid hs.area.ok
        have b0 : (0 : Int) ≤ (k : Int) := Int.natCast_nonneg _
        have b1 : (k : Int) < (l.length : Int) := by omega
        have PT := Lib.hid pt
        obtain ⟨P, hP⟩ : ∃ P, P = l[k].op % 3 := ⟨_, rfl⟩
        clear hs hcl pt s1
        go_wp2_with fail
        refine PT.out.mono ?_
        rintro e w2 ⟨rfl, h2⟩
        have S2 := Lib.hid (HS.out.op h2)
        have hn2 := (putA_n HA.out 0 l[k].s.data.toList).trans han
        have cl2 := HCL.out.far (S2.out.below.block x hx)
        have c0 := cl2.c0
        have c1 := cl2.c1
        have o1 := cl2.op
        have HN2 := Lib.hid hn2
        obtain ⟨a2', ha2⟩ : ∃ a2', a2' = putA a 0 l[k].s.data.toList := ⟨_, rfl⟩
        rw [← ha2] at S2 HN2
        generalize l[k].op = O at *
        generalize l[k].k = K at *
        have rm := remove_is S2.out.area K
        have RM := Lib.hid rm
        have hn3 := (remA_n S2.out.area.ok K).trans HN2.out
        have HN3 := Lib.hid hn3
        clear h2 hn2 cl2 PT HS ha2 rm hn3 hP han
        go_wp2_with fail
        · refine RM.out.mono ?_
          rintro e w3 ⟨rfl, h3⟩
          have S3 := Lib.hid (S2.out.op h3)
          clear h3 RM S2
          go_wp2_with fail
          go_roundw
          case rel => exact ⟨k + 1, _, by omega, by go_num, HN3.out, S3.out⟩
          case measure => simp [intOf]; omega
        · go_roundw
          case rel => exact ⟨k + 1, _, by omega, by go_num, HN2.out, S2.out⟩
          case measure => simp [intOf]; omega
      · obtain rfl : k = l.length := by omega
        have hk := hs.area.ok
        have hfin := hk.fin
        have hlow := hk.low
        have hn40 := hk.hi
        have hroom := hk.room
        have hN1 : (N : Int) ≤ 4096 := by omega
        have hN0 : (16 : Int) ≤ (N : Int) := by have := hk.lo; omega
        have eN : 16 + (r : Int) = (N : Int) := by rw [HN.out]; omega
        have hd1 : a.dir.length ≤ 1100 := by unfold A.fin at hfin; omega
        have hd2 : (a.dir.length : Int) ≤ 1100 := by omega
        have hd0 : (0 : Int) ≤ (a.dir.length : Int) := Int.natCast_nonneg _
        have HK := Lib.hid hk
        have HS := Lib.hid hs
        have HAN := Lib.hid han
        have hft : a.fin + tot a.dir ≤ N := by omega
        have HFT := Lib.hid hft
        clear hk hs han hfin hlow hn40 hroom hft
        go_wp2_with fail
        clear eN
        go_loopw [15, 16] (fun n i wr => ∃ k : Nat, k ≤ a.dir.length ∧ i = .int .i64 k ∧ n = .int .i64 ((N : Int) - 4 - 4 * (k : Int) - (tot (a.dir.take k) : Int)) ∧ St w wr p g N a) (fun _ i _ => a.dir.length - (intOf i).toNat)
        case atStart => exact ⟨0, by omega, by go_num, by rw [HN.out]; simp [tot], HS.out⟩
        case round =>
          obtain ⟨j, hj, rfl, rfl, hs⟩ := hrel
          clear HS
          have ln := len_is hs.area
          have LN := Lib.hid ln
          have t1 := tot_take_le a.dir j
          have hf : 4 * a.dir.length + 4 + tot a.dir ≤ N := by have := HFT.out; unfold A.fin at this; omega
          obtain ⟨T, hT⟩ : ∃ T, T = tot (a.dir.take j) := ⟨_, rfl⟩
          have hT1 : (T : Int) ≤ 4096 := by omega
          have hT0 : (0 : Int) ≤ (T : Int) := Int.natCast_nonneg _
          by_cases hlt : j < a.dir.length
          · have gt := get_is hs.area (j : Int)
            have hp : hasP a (j : Int) := ⟨by omega, by omega⟩
            rw [if_pos hp] at gt
            unfold getS at gt
            rw [if_pos hp, Int.toNat_natCast] at gt
            have tl := text_len HK.out hlt
            have tk : tot (a.dir.take (j + 1)) = tot (a.dir.take j) + (a.at j).2 := tot_take hlt
            have hz : (strB (a.text j)).size = (a.at j).2 := tl
            have at2 := at_le_tot hlt
            have hz2 : ((strB (a.text j)).size : Int) ≤ 4096 := by omega
            have hz0 : (0 : Int) ≤ ((strB (a.text j)).size : Int) := Int.natCast_nonneg _
            rw [← hz, ← hT] at tk
            rw [← hT]
            have TK := Lib.hid tk
            have GT := Lib.hid gt
            have HS := Lib.hid hs
            have j0 : (0 : Int) ≤ (j : Int) := Int.natCast_nonneg _
            have j1 : (j : Int) ≤ 1100 := by omega
            clear gt hp tl tk hz at2 hs hT ln t1 hf
            generalize strB (a.text j) = S at *
            go_wp2_with fail
            refine LN.out.mono ?_
            rintro e w' ⟨rfl, rfl⟩
            go_wp2_with fail
            refine GT.out.mono ?_
            rintro e w4 ⟨rfl, b4⟩
            have S4 := Lib.hid (HS.out.later b4)
            clear b4 HS GT LN
            go_wp2_with fail
            go_roundw
            case rel => exact ⟨j + 1, by omega, by go_num, by rw [TK.out]; congr 1; omega, S4.out⟩
            case measure => simp [intOf]; omega
          · obtain rfl : j = a.dir.length := by omega
            rw [List.take_length] at hT t1
            have eT : (N : Int) - 4 - 4 * (a.dir.length : Int) - (T : Int) = (a.free : Int) := by
              have := (ok_free HK.out).1
              have := HAN.out
              unfold A.fin at *
              omega
            have hfin := HK.out.fin
            have hlow := HK.out.low
            obtain ⟨of1, of2, of3⟩ := ok_free HK.out
            have hfr : (a.free : Int) ≤ 4096 := by have := HAN.out; omega
            have hfr0 : (0 : Int) ≤ (a.free : Int) := Int.natCast_nonneg _
            have hgp : (a.gap : Int) ≤ (a.free : Int) := by omega
            have hgp0 : (0 : Int) ≤ (a.gap : Int) := Int.natCast_nonneg _
            have fr := free_is hs.area
            have FR := Lib.hid fr
            have HS := Lib.hid hs
            rw [List.take_length, ← hT, eT]
            have eg : decide ((a.free : Int) < (a.gap : Int)) = false := decide_eq_false (by omega)
            have eg' : decide (a.free < a.gap) = false := decide_eq_false (by omega)
            have eg2 : decide ((a.free : Int) < 0) = false := decide_eq_false (by omega)
            clear fr hs ln hT eT t1 hf of1 of2 of3 hfin hlow hT1 hT0 hlt
            go_wp2_with fail
            refine LN.out.mono ?_
            rintro e w' ⟨rfl, rfl⟩
            go_wp2_with fail
            refine FR.out.mono ?_
            rintro e w4 ⟨rfl, b4⟩
            have S4 := Lib.hid (HS.out.later b4)
            clear b4 HS FR LN
            go_wp2_with fail
            refine (gap_is S4.out.area).mono ?_
            rintro e w' ⟨rfl, rfl⟩
            have hB : (st = false ∨ (st = true ∧ a.dir.length = 0)) ∨ (st = true ∧ 0 < a.dir.length) := by
              cases st
              · exact .inl (.inl rfl)
              · by_cases h : a.dir.length = 0
                · exact .inl (.inr ⟨rfl, h⟩)
                · exact .inr ⟨rfl, by omega⟩
            have LN4 := Lib.hid (len_is S4.out.area)
            rcases hB with hB | ⟨rfl, hB⟩
            · have hz : st = false ∨ (decide ((0 : Int) < (a.dir.length : Int)) = false ∧ decide (0 < a.dir.length) = false) := by
                rcases hB with hB | ⟨hB, hB0⟩
                · exact .inl hB
                · exact .inr ⟨decide_eq_false (by omega), decide_eq_false (by omega)⟩
              clear hB
              cases st
              case' true => obtain ⟨hz1, hz2⟩ : (decide ((0 : Int) < (a.dir.length : Int)) = false ∧ decide (0 < a.dir.length) = false) := by simpa using hz
              all_goals
                clear hz
                by_cases hm : (a.free : Int) - 4 + a3 < 0
                · by_cases h4 : a.free < 4
                  · have pt := S4.out.put 0 ⟨#[]⟩ (by decide)
                    rw [room_putE0 h4] at pt
                    have PT := Lib.hid pt
                    clear pt
                    go_wp2_with (first | (go_at_call 37; refine LN4.out.mono ?_; rintro e w' ⟨rfl, rfl⟩))
                    refine PT.out.mono ?_
                    rintro e w5 ⟨rfl, b5⟩
                    have B5 := Lib.hid b5
                    clear b5
                    go_wp2_with fail
                    refine (al.out _).mono ?_
                    rintro e w6 ⟨rfl, b6⟩
                    have B6 := Lib.hid (B5.out.trans (b6.mono B5.out.size))
                    clear b6
                    go_wp2_with fail
                    go_ret
                    exact ⟨rfl, B6.out⟩
                  · have h4' : decide ((4 : Int) ≤ (a.free : Int)) = true := decide_eq_true (by omega)
                    have h4'' : (4 : Int) ≤ (a.free : Int) := by omega
                    go_wp2_with (first | (go_at_call 37; refine LN4.out.mono ?_; rintro e w' ⟨rfl, rfl⟩))
                    refine (al.out _).mono ?_
                    rintro e w6 ⟨rfl, b6⟩
                    have B6 := Lib.hid (S4.out.below.trans (b6.mono S4.out.below.size))
                    clear b6
                    go_wp2_with fail
                    go_ret
                    exact ⟨rfl, B6.out⟩
                · obtain ⟨m, hm2⟩ : ∃ m : Nat, (a.free : Int) - 4 + a3 = (m : Int) := ⟨((a.free : Int) - 4 + a3).toNat, by omega⟩
                  have hm0 : (0 : Int) ≤ (m : Int) := Int.natCast_nonneg _
                  have hm1 : (m : Int) ≤ 5000 := by omega
                  obtain ⟨q, hq⟩ : ∃ q : Nat, a2.tmod ((a.dir.length : Int) + 1) = (q : Int) := ⟨(a2.tmod ((a.dir.length : Int) + 1)).toNat, by have := Int.tmod_nonneg ((a.dir.length : Int) + 1) h2.1; omega⟩
                  have hq1 : q ≤ a.dir.length := by
                    have := Int.tmod_lt_of_pos a2 (show 0 < (a.dir.length : Int) + 1 by omega)
                    omega
                  have pe := room_putE hq1 hm2
                  have pt := fun W (i : Int) (tt : Below w4.heap.size w4 W) => (S4.out.later tt).put i (zerosB m) (by rw [zeros_size]; omega)
                  have HQ := Lib.hid hq
                  have PE := Lib.hid pe
                  have mk := fun W => zeros_make W m (by omega)
                  have cv := fun W => zeros_conv W m
                  have hdw : IntKind.i64.wrap ((a.dir.length : Int) + 1) = (a.dir.length : Int) + 1 := IntWalk.i64_in _ (by omega)
                  have LNW := Lib.hid (fun W (tt : Below w4.heap.size w4 W) => len_is (S4.out.area.later tt))
                  obtain ⟨M, hM⟩ : ∃ M, M = madeCells (Value.int .u8 0).cells m := ⟨_, rfl⟩
                  rw [← hM] at mk cv
                  have cv2 : ∀ W : World, (convert 69 9 (.slice (some ⟨W.heap.size, 0, none⟩) m m)).run Try.prog (W.alloc (.cells M 5)).drew = .ok (.string (zerosB m)) (W.alloc (.cells M 5)).drew := fun W => cv W.drew
                  have hdz2 : ¬ ((a.dir.length : Int) + 1 = 0) := by omega
                  have PT := Lib.hid pt
                  clear pt hM pe hq1 hq
                  generalize zerosB m = Z at *
                  go_wp2_with (first | (go_at_call 37; refine LN4.out.mono ?_; rintro e w' ⟨rfl, rfl⟩))
                  clear hr hr3 hr0 hl100 hwt HC hl1 LN4 hdz2
                  have hdz2 : ((a.dir.length : Int) + 1 = 0) = False := by simp; omega
                  go_region_with ((first | (go_at_call 37; refine Calls.mono (LNW.out _ (by first | exact (Below.refl _ _).drew | exact ((Below.refl _ _).drew).alloc (Nat.le_refl _) _ | exact ((Below.refl _ _).alloc (Nat.le_refl _) _).drew)) ?_; rintro e w' ⟨rfl, rfl⟩) | (go_at_call 36; refine Calls.mono (PT.out _ _ (by first | exact ((Below.refl _ _).drew).alloc (Nat.le_refl _) _ | exact ((Below.refl _ _).alloc (Nat.le_refl _) _).drew)) ?_; rintro e w5 ⟨rfl, b5⟩)))
                  all_goals
                    have B5 := Lib.hid b5
                    rw [show IntKind.i64.wrap a2 = a2 from IntWalk.i64_in _ (by omega), HQ.out, PE.out]
                    clear b5 LNW PT mk cv cv2 hdz2 hdw
                    by_cases h30 : a3 ≤ 0
                    · rw [if_pos h30]
                      have h31 : decide (a3 ≤ 0) = true := decide_eq_true h30
                      go_wp2_with fail
                      refine (al.out _).mono ?_
                      rintro e w6 ⟨rfl, b6⟩
                      have B6 := Lib.hid (B5.out.trans (b6.mono B5.out.size))
                      clear b6
                      go_wp2_with fail
                      go_ret
                      exact ⟨rfl, B6.out⟩
                    · rw [if_neg h30]
                      have h31 : decide (a3 ≤ 0) = false := decide_eq_false h30
                      go_wp2_with fail
                      refine (al.out _).mono ?_
                      rintro e w6 ⟨rfl, b6⟩
                      have B6 := Lib.hid (B5.out.trans (b6.mono B5.out.size))
                      clear b6
                      go_wp2_with fail
                      go_ret
                      exact ⟨rfl, B6.out⟩
            · obtain ⟨q, hq⟩ : ∃ q : Nat, a2 % (a.dir.length : Int) = (q : Int) := ⟨(a2 % (a.dir.length : Int)).toNat, by have := Int.emod_nonneg a2 (show (a.dir.length : Int) ≠ 0 by omega); omega⟩
              have hq' : a2.tmod (a.dir.length : Int) = (q : Int) := by rw [Int.tmod_eq_emod_of_nonneg h2.1]; exact hq
              have hq1 : q < a.dir.length := by
                have := Int.emod_lt_of_pos a2 (show 0 < (a.dir.length : Int) by omega)
                rw [hq] at this
                omega
              have hz1 : decide ((0 : Int) < (a.dir.length : Int)) = true := decide_eq_true (by omega)
              have hz2 : decide (0 < a.dir.length) = true := decide_eq_true hB
              have hz3 : (a.dir.length = 0) = False := eq_false (by omega)
              have hz4 : ¬ a.dir = [] := fun h => by rw [h] at hB; simp at hB
              have gt := get_is S4.out.area (q : Int)
              have hp : hasP a (q : Int) := ⟨Int.natCast_nonneg _, by exact_mod_cast hq1⟩
              rw [if_pos hp] at gt
              unfold getS at gt
              rw [if_pos hp, Int.toNat_natCast] at gt
              have tl := text_len HK.out hq1
              have hzs : (strB (a.text q)).size = (a.at q).2 := tl
              have hat2 := at_le_tot hq1
              have hzs2 : ((strB (a.text q)).size : Int) ≤ 4096 := by
                have := HFT.out
                have := HAN.out
                omega
              have hzs0 : (0 : Int) ≤ ((strB (a.text q)).size : Int) := Int.natCast_nonneg _
              have GT := Lib.hid gt
              have HZ := Lib.hid hzs
              have HQ1 := Lib.hid hq1
              have HQ := Lib.hid hq
              clear gt tl hzs hp hat2 hB hq1 hr hr3 hr0 hl100 hwt HC hl1
              generalize strB (a.text q) = S at *
              by_cases hm : (S.size : Int) + (a.free : Int) + a3 < 0
              · have hm' : decide ((S.size : Int) + (a.free : Int) + a3 < 0) = true := decide_eq_true hm
                go_wp2_with (first | (go_at_call 37; refine LN4.out.mono ?_; rintro e w' ⟨rfl, rfl⟩))
                refine GT.out.mono ?_
                rintro e w5 ⟨rfl, b5⟩
                have B5 := Lib.hid (S4.out.below.trans (b5.mono S4.out.below.size))
                clear b5 GT LN4
                go_wp2_with fail
                refine (al.out _).mono ?_
                rintro e w6 ⟨rfl, b6⟩
                have B6 := Lib.hid (B5.out.trans (b6.mono B5.out.size))
                clear b6
                go_wp2_with fail
                go_ret
                exact ⟨rfl, B6.out⟩
              · obtain ⟨m, hm2⟩ : ∃ m : Nat, (S.size : Int) + (a.free : Int) + a3 = (m : Int) := ⟨((S.size : Int) + (a.free : Int) + a3).toNat, by omega⟩
                have hm0 : (0 : Int) ≤ (m : Int) := Int.natCast_nonneg _
                have hm1 : (m : Int) ≤ 10000 := by omega
                have se := room_setE (x := a3) HQ1.out (by rw [← HZ.out]; exact hm2)
                have SE := Lib.hid se
                have mk := fun W => zeros_make W m (by omega)
                have cv := fun W => zeros_conv W m
                have hms : decide ((m : Int) < 0) = false := decide_eq_false (by omega)
                obtain ⟨M, hM⟩ : ∃ M, M = madeCells (Value.int .u8 0).cells m := ⟨_, rfl⟩
                rw [← hM] at mk cv
                have pt := fun W (i : Int) (tt : Below w4.heap.size w4 W) => (S4.out.later tt).set i (zerosB m) (by rw [zeros_size]; omega)
                have PT := Lib.hid pt
                clear pt hM se hm
                generalize zerosB m = Z at *
                go_wp2_with (first | (go_at_call 37; refine LN4.out.mono ?_; rintro e w' ⟨rfl, rfl⟩))
                refine GT.out.mono ?_
                rintro e w5 ⟨rfl, b5⟩
                have B5 := Lib.hid b5
                clear b5 GT LN4
                go_wp2_with fail
                refine (PT.out _ _ (B5.out.alloc B5.out.size _)).mono ?_
                rintro e w6 ⟨rfl, b6⟩
                have B6 := Lib.hid b6
                rw [SE.out]
                clear b6 PT mk cv SE
                by_cases h30 : a3 ≤ 0
                · rw [if_pos h30]
                  have h31 : decide (a3 ≤ 0) = true := decide_eq_true h30
                  go_wp2_with fail
                  refine (al.out _).mono ?_
                  rintro e w7 ⟨rfl, b7⟩
                  have B7 := Lib.hid (B6.out.trans (b7.mono B6.out.size))
                  clear b7
                  go_wp2_with fail
                  go_ret
                  exact ⟨rfl, B7.out⟩
                · rw [if_neg h30]
                  have h31 : decide (a3 ≤ 0) = false := decide_eq_false h30
                  go_wp2_with fail
                  refine (al.out _).mono ?_
                  rintro e w7 ⟨rfl, b7⟩
                  have B7 := Lib.hid (B6.out.trans (b7.mono B6.out.size))
                  clear b7
                  go_wp2_with fail
                  go_ret
                  exact ⟨rfl, B7.out⟩

end Go.Proofs.Ytehfclgngkhcpaa.Slot
