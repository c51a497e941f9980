/- Walks: which masters may be, their sectors, which master a sector is. -/
import Derived.Test.YtfcibccipkokoaaZCA
import Derived.Test.YtfcibccipkokoaaCG
import Derived.Test.YtfcibccipkokoaaTL
namespace Go.Proofs.Ytfcibccipkokoaa.Mas
open Go.RowKit
open Go.Proofs.Ytfcibccipkokoaa.Rec (HoldU bytes_in Nums)
attribute [local go_sem ↓] Go.wp_at_zero Go.wp_at_succ

set_option maxRecDepth 100000 in
set_option maxHeartbeats 8000000 in
theorem tells_walk {w : World} {s : ByteArray} {m : Ms} {v1 v2 : Value} {own : Bool} {l1 l2 : List Nat} (hs : s.size ≤ 140737488351232) (h : m.wf) (h1 : Nums .u8 w v1 l1) (h2 : Nums .u8 w v2 l2) (hb1 : ∀ n ∈ l1, n < 256) (hb2 : ∀ n ∈ l2, n < 256) :
    Calls Try.prog 4 #[msV m, .string s, .bool own, v1, v2] w fun e w' => e = .returned (.bool true) ∧ Below w.heap.size w w' := by
  have T0 := Lib.hid (Mb.new m (Below.refl w.heap.size w))
  obtain ⟨ad1, c1, rfl, g1⟩ := id h1
  obtain ⟨ad2, c2, rfl, g2⟩ := id h2
  have N1 := Lib.hid h1
  have N2 := Lib.hid h2
  have U1 := Lib.hid hb1
  have U2 := Lib.hid hb2
  have KW := Lib.hid works_any
  have KE := Lib.hid (fun W => encode_any m W h)
  have KR := Lib.hid (fun W => rencode_any m W h)
  have KD := Lib.hid (fun (S : ByteArray) W (hS : S.size ≤ 281474976710656) => decode_any S W hS)
  have KRD := Lib.hid (fun (S : ByteArray) W => rdecode_any S W)
  have HOK := Lib.hid (show (encB m).size = 128 ∧ encE m = 0 ∧ encB m ≠ ⟨#[]⟩ ∨ encB m = ⟨#[]⟩ ∧ encE m = 2 from by
    cases hk : okM m with
    | true => exact .inl ⟨encB_size hk, encE_yes hk, fun e => by have := encB_size hk; rw [e] at this; cases this⟩
    | false => exact .inr ⟨by unfold encB; rw [enc_no hk], encE_no hk⟩)
  obtain ⟨a0, a1, a2, a3, a4⟩ := T0.out.five
  clear h h1 h2 g1 g2 hb1 hb2
  generalize encB m = E at *
  generalize encE m = ee at *
  unfold msV at *
  generalize hC : msC m = C at *
  unfold msC at hC
  subst hC
  go_enter Try.func4, Try.ntmps4
  by_cases hx : 512 < s.size ∨ ¬ 512 < s.size ∧ (8 < l1.length ∨ ¬ 8 < l1.length ∧ 8 < l2.length)
  · have B1 := Lib.hid T0.out.below
    clear T0 N1 N2 U1 U2 KE KR KD KRD a0 a1 a2 a3 a4 HOK
    rcases hx with hA | ⟨hB, hA | ⟨hD, hA⟩⟩
    all_goals
      go_wp2_with fail
      refine (KW.out _).mono ?_
      rintro e w2 ⟨rfl, k2⟩
      have B2 := Lib.hid (B1.out.trans (k2.mono B1.out.size))
      clear k2 B1
      go_wp2_with fail
      go_ret
      exact ⟨rfl, B2.out⟩
  obtain ⟨hl0, hl1, hl2⟩ : ¬ 512 < s.size ∧ ¬ 8 < l1.length ∧ ¬ 8 < l2.length := by omega
  clear hx
  go_wp2_with fail
  refine (KE.out _).mono ?_
  rintro e w1 ⟨rfl, k1⟩
  have T1 := Lib.hid (T0.out.later k1)
  clear k1 T0 KE a0 a1 a2 a3 a4
  obtain ⟨a0, a1, a2, a3, a4⟩ := T1.out.five
  go_wp2_with fail
  refine (KR.out _).mono ?_
  rintro e w2 ⟨rfl, k2⟩
  have B2 := Lib.hid (T1.out.later k2).below
  clear k2 T1 KR a0 a1 a2 a3 a4
  rcases HOK.out with ⟨z1, z2, z3⟩ | ⟨z1, z2⟩
  · subst z2
    have ze : E.toList.isEmpty = false := by
      cases hq : E.toList with
      | nil => exact absurd (ByteArray.ext (Array.toList_inj.1 (by rw [← Lib.toList_data, hq]))) z3
      | cons _ _ => rfl
    have ey : (E.toList == E.toList) = true := by simp
    have zn : (E.toList == []) = false := by
      cases hq : E.toList with
      | nil => rw [hq] at ze; cases ze
      | cons _ _ => rfl
    clear z3 HOK
    cases own with
    | false =>
      obtain ⟨S, hSs⟩ : ∃ S, S = s := ⟨_, rfl⟩
      subst hSs
      have hS : S.size ≤ 281474976710656 := by omega
      have B0 := B2
      have hB := B2.out
      clear B2
      have KD := Lib.hid (fun W => KD.out S W hS)
      have KRD := Lib.hid (fun W => KRD.out S W)
      unfold DecP at KD KRD
      clear hS hB N1 N2 U1 U2
      generalize decM S = X at *
      generalize decE S = F at *
      unfold msV at KD KRD
      generalize hC : msC X = C at *
      unfold msC at hC
      subst hC
      go_wp2_with fail
      refine (KD.out _).mono ?_
      rintro e w5 ⟨rfl, k5⟩
      have T5 := Lib.hid (Mb.new X (B0.out.trans (k5.mono B0.out.size)))
      clear k5 B0 KD
      unfold msC at T5
      go_upto_region 15 with fail
      generalize w5.heap.size = h5 at *
      generalize World.alloc w5 _ = W5 at *
      go_wp2_with fail
      refine (KRD.out _).mono ?_
      rintro e w6 ⟨rfl, k6⟩
      have T6 := T5.out.later k6
      have T7 := Lib.hid (T6.later (below_new w6 (.cells (msC X) 40)))
      have T8 := Lib.hid (Mb.new X T6.below)
      clear k6 T6 T5 KRD
      unfold msC at T7 T8
      go_upto_region 16 with fail
      generalize w6.heap.size = h6 at *
      generalize World.alloc w6 _ = W6 at *
      obtain ⟨a0, a1, a2, a3, a4⟩ := T7.out.five
      obtain ⟨b0, b1, b2, b3, b4⟩ := T8.out.five
      go_wp2_with fail
      refine (KW.out _).mono ?_
      rintro e w7 ⟨rfl, k7⟩
      have B7 := Lib.hid (T7.out.later k7).below
      clear k7 T7 T8
      go_wp2_with fail
      go_ret
      exact ⟨rfl, B7.out⟩
    | true =>
      go_upto_if 63 with fail
      go_cut [1] (fun c wx => ∃ S : ByteArray, c = .string S ∧ S.size ≤ 281474976710656 ∧ Below w.heap.size w wx)
      case first =>
        clear KD KRD KW
        obtain ⟨cap, wb, hcv, hh⟩ := bytes_in E w2
        have H3 := Lib.hid hh
        have M1 := Lib.hid (N1.out.later B2.out)
        have M2 := Lib.hid (N2.out.later B2.out)
        have eE := Lib.hid (show E.data.toList.length = 128 from z1)
        clear hh N1 N2
        rw [z1] at hcv
        go_wp2_with fail
        clear hcv
        go_loopw [15] (fun x wr => ∃ (i : Nat) (u : List UInt8), i ≤ l1.length ∧ x = .int .i64 i ∧ u.length = 128 ∧ HoldU w2.heap.size u w2 wr) (fun x _ => l1.length - (intOf x).toNat)
        case atStart => exact ⟨0, E.data.toList, by omega, by go_num, eE.out, H3.out⟩
        case round =>
          obtain ⟨i, u, hi, rfl, hu, hh⟩ := hrel
          clear H3
          have HH := Lib.hid hh
          have HU := Lib.hid hu
          clear hh hu
          by_cases hgo : i < l1.length ∧ i < l2.length
          · obtain ⟨h1, h2⟩ := hgo
            obtain ⟨x1, o1, rfl, q1, d1⟩ := M1.out.at i h1
            obtain ⟨x2, o2, rfl, q2, d2⟩ := M2.out.at i h2
            have e1 : wr.cell? ⟨x1, o1 + i, none⟩ = _ := (HH.out.2.2.cell (p := ⟨x1, o1 + i, none⟩) q1).trans d1
            have e2 : wr.cell? ⟨x2, o2 + i, none⟩ = _ := (HH.out.2.2.cell (p := ⟨x2, o2 + i, none⟩) q2).trans d2
            have b1 := U1.out _ (List.getElem_mem h1)
            have b2 := U2.out _ (List.getElem_mem h2)
            clear d1 d2 q1 q2
            generalize l1[i] = n1 at *
            generalize l2[i] = n2 at *
            obtain ⟨J, hJ⟩ : ∃ J, J = n1 % 128 := ⟨_, rfl⟩
            have j1 : J < 128 := by omega
            have e3 := HH.out.1 J (by rw [HU.out]; exact j1)
            have e4 := HH.out.2.1 J (by rw [HU.out]; exact j1)
            have z0 : IntKind.i64.wrap (n1 : Int) = n1 := IntWalk.i64_in _ (by omega)
            have z2 : (n1 : Int).tmod 128 = J := by rw [hJ, Int.tmod_eq_emod_of_nonneg (by omega)]; rfl
            clear hJ
            go_wp2_with fail
            (refine wp_region_still_tail 14 (by kernel_rfl) (by kernel_rfl) (still_of_quiet _ _ ?_); simp only [List.take_succ_cons, List.take_zero, List.drop_succ_cons, List.drop_zero]; (repeat (first | go_big_quiet_skip | (go_big_quiet_want; go_big_quiet_op; first | go_big_quiet_on | (apply Exists.intro; refine ⟨?_, ?_⟩; (first | fail); go_big_quiet_on)))); refine wpQuiet_nil ?_)
            change wpList _ _ _ _ _ wr.drew
            go_wp2_with fail
            have e5 : ((UInt8.ofNat n2).toNat : Int) = n2 := by rw [UInt8.toNat_ofNat']; have := Nat.mod_eq_of_lt b2; omega
            have g3 := HH.out.set J (by rw [HU.out]; exact j1) (UInt8.ofNat n2)
            rw [e5] at g3
            exact ⟨⟨i + 1, u.set J (UInt8.ofNat n2), by omega, by go_num, by rw [List.length_set]; exact HU.out, g3.drew⟩, by simp [intOf]; omega⟩
          · have h3 : (i < l1.length ∧ ¬ i < l2.length) ∨ ¬ i < l1.length := by omega
            have CV := HH.out.out (cap := cap)
            rw [HU.out] at CV
            have us := Lib.hid (show (ByteArray.mk u.toArray).size = 128 from by rw [← HU.out]; rfl)
            have B9 := Lib.hid (B2.out.trans (HH.out.2.2.mono B2.out.size))
            clear HH HU U1 U2 M1 M2 eE hi hgo
            generalize (⟨u.toArray⟩ : ByteArray) = V at *
            rcases h3 with ⟨p1, p2⟩ | p1
            all_goals
              go_wp2_with fail
              go_meet
              exact ⟨V, rfl, by rw [us.out]; omega, B9.out⟩
      case rest =>
        clear z1 ze ey zn B2
        obtain ⟨S, rfl, hS, hB⟩ := hcut
        have B0 := Lib.hid hB
        have KD := Lib.hid (fun W => KD.out S W hS)
        have KRD := Lib.hid (fun W => KRD.out S W)
        unfold DecP at KD KRD
        clear hS hB N1 N2 U1 U2
        generalize decM S = X at *
        generalize decE S = F at *
        unfold msV at KD KRD
        generalize hC : msC X = C at *
        unfold msC at hC
        subst hC
        go_wp2_with fail
        refine (KD.out _).mono ?_
        rintro e w5 ⟨rfl, k5⟩
        have T5 := Lib.hid (Mb.new X (B0.out.trans (k5.mono B0.out.size)))
        clear k5 B0 KD
        unfold msC at T5
        go_upto_region 15 with fail
        generalize w5.heap.size = h5 at *
        generalize World.alloc w5 _ = W5 at *
        go_wp2_with fail
        refine (KRD.out _).mono ?_
        rintro e w6 ⟨rfl, k6⟩
        have T6 := T5.out.later k6
        have T7 := Lib.hid (T6.later (below_new w6 (.cells (msC X) 40)))
        have T8 := Lib.hid (Mb.new X T6.below)
        clear k6 T6 T5 KRD
        unfold msC at T7 T8
        go_upto_region 16 with fail
        generalize w6.heap.size = h6 at *
        generalize World.alloc w6 _ = W6 at *
        obtain ⟨a0, a1, a2, a3, a4⟩ := T7.out.five
        obtain ⟨b0, b1, b2, b3, b4⟩ := T8.out.five
        go_wp2_with fail
        refine (KW.out _).mono ?_
        rintro e w7 ⟨rfl, k7⟩
        have B7 := Lib.hid (T7.out.later k7).below
        clear k7 T7 T8
        go_wp2_with fail
        go_ret
        exact ⟨rfl, B7.out⟩
  · subst z1 z2
    obtain ⟨S, hSs⟩ : ∃ S, S = s := ⟨_, rfl⟩
    subst hSs
    have hS : S.size ≤ 281474976710656 := by omega
    have B0 := B2
    have hB := B2.out
    clear B2 HOK
    cases own
    all_goals
      have KD := Lib.hid (fun W => KD.out S W hS)
      have KRD := Lib.hid (fun W => KRD.out S W)
      unfold DecP at KD KRD
      clear hS hB N1 N2 U1 U2
      generalize decM S = X at *
      generalize decE S = F at *
      unfold msV at KD KRD
      generalize hC : msC X = C at *
      unfold msC at hC
      subst hC
      go_wp2_with fail
      refine (KD.out _).mono ?_
      rintro e w5 ⟨rfl, k5⟩
      have T5 := Lib.hid (Mb.new X (B0.out.trans (k5.mono B0.out.size)))
      clear k5 B0 KD
      unfold msC at T5
      go_upto_region 15 with fail
      generalize w5.heap.size = h5 at *
      generalize World.alloc w5 _ = W5 at *
      go_wp2_with fail
      refine (KRD.out _).mono ?_
      rintro e w6 ⟨rfl, k6⟩
      have T6 := T5.out.later k6
      have T7 := Lib.hid (T6.later (below_new w6 (.cells (msC X) 40)))
      have T8 := Lib.hid (Mb.new X T6.below)
      clear k6 T6 T5 KRD
      unfold msC at T7 T8
      go_upto_region 16 with fail
      generalize w6.heap.size = h6 at *
      generalize World.alloc w6 _ = W6 at *
      obtain ⟨a0, a1, a2, a3, a4⟩ := T7.out.five
      obtain ⟨b0, b1, b2, b3, b4⟩ := T8.out.five
      go_wp2_with fail
      refine (KW.out _).mono ?_
      rintro e w7 ⟨rfl, k7⟩
      have B7 := Lib.hid (T7.out.later k7).below
      clear k7 T7 T8
      go_wp2_with fail
      go_ret
      exact ⟨rfl, B7.out⟩

end Go.Proofs.Ytfcibccipkokoaa.Mas
