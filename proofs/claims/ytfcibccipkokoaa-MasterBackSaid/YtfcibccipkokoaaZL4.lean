/- Walks: a master that is written and read, and read with a byte turned. -/
import Derived.Test.YtfcibccipkokoaaZCA
import Derived.Test.YtfcibccipkokoaaCG
namespace Go.Proofs.Ytfcibccipkokoaa.Mas
open Go.RowKit
open Go.Proofs.Ytfcibccipkokoaa.Rec (HoldU bytes_in)
attribute [local go_sem ↓] Go.wp_at_zero Go.wp_at_succ

theorem beq_yes (s : ByteArray) : (s.toList == s.toList) = true := by simp
theorem beq_no {s t : ByteArray} (h : s ≠ t) : (s.toList == t.toList) = false := by rw [bytes_eq]; exact decide_eq_false h
theorem nat_beq (a b : Nat) : ((a : Int) == (b : Int)) = decide (a = b) := by rw [Bool.eq_iff_iff]; simp only [beq_iff_eq, decide_eq_true_eq]; omega

theorem ms_cases (a b : Ms) : a = b ∨ (a ≠ b ∧ (a.count ≠ b.count ∨ (a.count = b.count ∧ a.life ≠ b.life) ∨ (a.count = b.count ∧ a.life = b.life ∧ a.check ≠ b.check) ∨ (a.count = b.count ∧ a.life = b.life ∧ a.check = b.check ∧ a.first ≠ b.first) ∨ (a.count = b.count ∧ a.life = b.life ∧ a.check = b.check ∧ a.first = b.first ∧ a.clean ≠ b.clean))) := by
  by_cases h : a = b
  · exact .inl h
  · refine .inr ⟨h, ?_⟩
    obtain ⟨c, l, k, f, x⟩ := a
    obtain ⟨c', l', k', f', x'⟩ := b
    simp only [Ms.mk.injEq, not_and] at h
    simp only
    by_cases h1 : c = c'
    · by_cases h2 : l = l'
      · by_cases h3 : k = k'
        · by_cases h4 : f = f'
          · exact .inr (.inr (.inr (.inr ⟨h1, h2, h3, h4, h h1 h2 h3 h4⟩)))
          · exact .inr (.inr (.inr (.inl ⟨h1, h2, h3, h4⟩)))
        · exact .inr (.inr (.inl ⟨h1, h2, h3⟩))
      · exact .inr (.inl ⟨h1, h2⟩)
    · exact .inl h1
/-- what the text is read as in which a byte was turned -/
theorem turn_dec {a : Ms} (hw : a.wf) (hm : okM a = true) (J : Nat) (hJ : J < (encB a).data.toList.length) (Y : UInt8) (W : World) :
    Calls Try.prog 17 #[.string ⟨((encB a).data.toList.set J ((encB a).data.toList[J] ^^^ Y)).toArray⟩] W fun e w' => e = .returned (.tuple #[msV (if Y = 0 then a else Ms.zero), .int .i64 (if Y = 0 then 0 else 7)]) ∧ Below W.heap.size W w' := by
  have hsz : (⟨((encB a).data.toList.set J ((encB a).data.toList[J] ^^^ Y)).toArray⟩ : ByteArray).size ≤ 281474976710656 := by
    show ((encB a).data.toList.set J _).toArray.size ≤ _
    rw [List.size_toArray, List.length_set]
    have h2 : (encB a).data.toList.length = 128 := encB_size hm
    rw [h2]; omega
  have k := decode_any _ W hsz
  unfold DecP at k
  by_cases hy : Y = 0
  · subst hy
    obtain ⟨d1, d2⟩ := dec_enc hw hm
    have e : (⟨((encB a).data.toList.set J ((encB a).data.toList[J] ^^^ 0)).toArray⟩ : ByteArray) = encB a := by
      rw [UInt8.xor_zero, List.set_getElem_self]
    rw [e, d1, d2] at k
    rw [e, if_pos rfl, if_pos rfl]
    exact k
  · obtain ⟨d1, d2⟩ := dec_no (turned_none (isM_sec hw hm) J hJ Y hy)
    rw [d1, d2] at k
    rw [if_neg hy, if_neg hy]
    exact k

set_option maxRecDepth 100000 in
set_option maxHeartbeats 16000000 in
theorem back_walk {w : World} {a b : Ms} {at' by' : Int} (ha : a.wf) (hb : b.wf) (ht : 0 ≤ at' ∧ at' ≤ 255) (hy : 0 ≤ by' ∧ by' ≤ 255) :
    Calls Try.prog 7 #[msV a, msV b, .int .u8 at', .int .u8 by'] w fun e w' => e = .returned (.bool true) ∧ Below w.heap.size w w' := by
  have T0 := Lib.hid (Tb.new a b (Below.refl w.heap.size w))
  have KA := Lib.hid (fun W => encode_any a W ha)
  have KB := Lib.hid (fun W => encode_any b W hb)
  have KD := Lib.hid (fun W (h : (encB a).size ≤ 281474976710656) => decode_any (encB a) W h)
  have KW := Lib.hid works_any
  obtain ⟨p0, p1, p2, p3, p4⟩ := T0.out.a.five
  obtain ⟨q0, q1, q2, q3, q4⟩ := T0.out.b.five
  have HA := Lib.hid ha
  have HB := Lib.hid hb
  clear ha hb
  unfold msV
  generalize hC : msC a = C at *
  generalize hC2 : msC b = C2 at *
  unfold msC at hC hC2
  subst hC hC2
  go_enter Try.func7, Try.ntmps7
  go_wp2_with fail
  refine (KA.out _).mono ?_
  rintro e w1 ⟨rfl, b1⟩
  have T1 := Lib.hid (T0.out.later b1)
  clear b1 T0 KA p0 p1 p2 p3 p4 q0 q1 q2 q3 q4
  obtain ⟨p0, p1, p2, p3, p4⟩ := T1.out.a.five
  obtain ⟨q0, q1, q2, q3, q4⟩ := T1.out.b.five
  go_wp2_with fail
  refine (KB.out _).mono ?_
  rintro e w2 ⟨rfl, b2⟩
  have T2 := Lib.hid (T1.out.later b2)
  clear b2 T1 KB p0 p1 p2 p3 p4 q0 q1 q2 q3 q4
  cases hm : okM a with
  | false =>
    have e1 : encB a = ⟨#[]⟩ := by unfold encB; rw [enc_no hm]
    rw [encE_no hm, e1]
    have B2 := Lib.hid T2.out.a.below
    clear e1 hm KD T2
    go_wp2_with fail
    refine (KW.out _).mono ?_
    rintro e w3 ⟨rfl, b3⟩
    have B3 := Lib.hid (B2.out.trans (b3.mono B2.out.size))
    clear b3 B2
    go_wp2_with fail
    go_ret
    exact ⟨rfl, B3.out⟩
  | true =>
    rw [encE_yes hm]
    obtain ⟨d1, d2⟩ := dec_enc HA.out hm
    have hsz := encB_size hm
    have hM := isM_sec HA.out hm
    have KD2 := Lib.hid (fun W => KD.out W (by rw [hsz]; omega))
    unfold DecP at KD2
    rw [d1, d2] at KD2
    have hab : okM b = true → ((encB a).toList == (encB b).toList) = decide (a = b) := fun h => by
      rw [bytes_eq, Bool.eq_iff_iff, decide_eq_true_eq, decide_eq_true_eq]
      exact ⟨fun e => enc_inj HA.out HB.out hm h e, fun e => by rw [e]⟩
    have HAB := Lib.hid hab
    obtain ⟨Y, hY⟩ : ∃ Y : UInt8, by' = (Y.toNat : Int) := ⟨UInt8.ofNat by'.toNat, by simp; omega⟩
    subst hY
    obtain ⟨J, hJ⟩ : ∃ J : Nat, (J : Int) = at'.tmod 128 := ⟨(at' % 128).toNat, by rw [Int.tmod_eq_emod_of_nonneg ht.1]; omega⟩
    have hJ2 : J < 128 := by have := Int.tmod_lt_of_pos at' (show (0 : Int) < 128 by omega); omega
    have hJl : J < (encB a).data.toList.length := by have : (encB a).data.toList.length = 128 := hsz; omega
    have TD := Lib.hid (fun W => turn_dec HA.out hm J hJl Y W)
    have hb0 : encE b = 0 ∧ okM b = true ∨ encE b = 2 := by
      cases h : okM b with
      | true => exact .inl ⟨encE_yes h, rfl⟩
      | false => exact .inr (encE_no h)
    clear d1 d2 hm KD hM hab
    have SZ := Lib.hid hsz
    generalize encB a = s at *
    generalize encB b = t at *
    generalize encE b = eb at *
    have HBB := Lib.hid hb0
    clear hb0
    unfold msV at KD2
    generalize hC : msC a = C at *
    unfold msC at hC
    subst hC
    go_wp2_with fail
    refine (KD2.out _).mono ?_
    rintro e w3 ⟨rfl, b3⟩
    have T3 := Lib.hid (T2.out.later b3)
    clear b3 T2 KD2
    go_upto_region 6 with fail
    have T4 := Lib.hid (T3.out.later (below_new w3 (.cells (msC a) 40)))
    have P4 := Lib.hid (Mb.new a T3.out.a.below)
    unfold msC at T4 P4
    generalize w3.heap.size = g at *
    generalize World.alloc w3 _ = W4 at *
    clear T3
    obtain ⟨p0, p1, p2, p3, p4⟩ := T4.out.a.five
    obtain ⟨q0, q1, q2, q3, q4⟩ := T4.out.b.five
    obtain ⟨r0, r1, r2, r3, r4⟩ := P4.out.five
    obtain ⟨cap, W5, hcv, hold⟩ := bytes_in s W4
    have HOLD := Lib.hid hold
    have hc := hold.1 J hJl
    have hf := hold.2.1 J hJl
    have hx : bits .xor .u8 ((s.data.toList[J].toNat : Nat) : Int) (Y.toNat : Int) = ((s.data.toList[J] ^^^ Y).toNat : Int) := by
      rw [UInt8.toNat_xor, u8_xor_nat _ _ s.data.toList[J].toNat_lt Y.toNat_lt]
    obtain ⟨z, hz⟩ : ∃ z, z = s.data.toList[J] ^^^ Y := ⟨_, rfl⟩
    rw [← hz] at hx TD
    have HS2 := (hold.set J hJl z)
    have hco := Lib.hid (HS2.out (cap := cap))
    have hln : (s.data.toList.set J z).length = 128 := by rw [List.length_set]; exact hsz
    rw [hln] at hco
    have BW := Lib.hid HS2.2.2
    have B4 := Lib.hid T4.out.a.below
    have B44 := Lib.hid (show w.heap.size ≤ W4.heap.size from T4.out.a.below.size)
    rw [hsz] at hcv
    generalize s.data.toList.set J z = u at *
    generalize s.data.toList[J] = x at *
    have ja : at' = at' := rfl
    have hJ3 := hJ.symm
    have j0 : (0 : Int) ≤ (J : Int) := by omega
    have j1 : (J : Int) < 128 := by omega
    clear hz hold HS2 hJ hJl hJ2 ja hln HOLD T4 P4
    have YC : Y = 0 ∨ (Y ≠ 0 ∧ ((Y.toNat : Int) == 0) = false) := by
      by_cases h : Y = 0
      · exact .inl h
      · exact .inr ⟨h, by rw [beq_eq_false_iff_ne]; intro e; exact h (UInt8.toNat_inj.1 (by simpa using e))⟩
    have YY := Lib.hid YC
    clear YC
    have hs128 : ((s.size : Int) != 128) = false := by rw [hsz]; rfl
    rcases HBB.out with ⟨hb1, hb2⟩ | hb1
    · subst hb1
      have h1 := HAB.out hb2
      clear hb2 HAB HBB SZ
      rcases ms_cases a b with h | ⟨h, h2⟩
      · subst h
        have hco' := hco.out
        go_wp2_with fail
        refine (TD.out _).mono ?_
        rintro e w6 ⟨rfl, b6⟩
        have B6 := Lib.hid ((B4.out.trans (BW.out.mono B44.out)).trans (b6.mono (by have := BW.out.size; have := B44.out; omega)))
        have BX := Lib.hid (show w.heap.size ≤ w6.heap.size from by have := BW.out.size; have := b6.size; have := B44.out; omega)
        clear hco' hco b6 TD B4 BW
        rcases YY.out with hy0 | ⟨hy0, hy1⟩
        · subst hy0
          rw [if_pos rfl, if_pos rfl]
          unfold msV msC
          go_wp2_with fail
          refine (KW.out _).mono ?_
          rintro e w7 ⟨rfl, b7⟩
          have B8 := Lib.hid (B6.out.trans ((((Below.refl _ _).alloc (Nat.le_refl _) _).trans (b7.mono (by simp))).mono BX.out))
          clear b7 B6
          go_wp2_with fail
          go_ret
          exact ⟨rfl, B8.out⟩
        · rw [if_neg hy0, if_neg hy0]
          unfold msV msC Ms.zero
          go_wp2_with fail
          refine (KW.out _).mono ?_
          rintro e w7 ⟨rfl, b7⟩
          have B8 := Lib.hid (B6.out.trans ((((Below.refl _ _).alloc (Nat.le_refl _) _).trans (b7.mono (by simp))).mono BX.out))
          clear b7 B6
          go_wp2_with fail
          go_ret
          exact ⟨rfl, B8.out⟩
      · rw [decide_eq_false h] at h1
        clear h
        rcases h2 with h2 | ⟨g1, h2⟩ | ⟨g1, g2, h2⟩ | ⟨g1, g2, g3, h2⟩ | ⟨g1, g2, g3, g4, h2⟩
        · have k1 : ((a.count : Int) = (b.count : Int)) = False := eq_false (by omega)
          clear h2
          have hco' := hco.out
          go_wp2_with fail
          refine (TD.out _).mono ?_
          rintro e w6 ⟨rfl, b6⟩
          have B6 := Lib.hid ((B4.out.trans (BW.out.mono B44.out)).trans (b6.mono (by have := BW.out.size; have := B44.out; omega)))
          have BX := Lib.hid (show w.heap.size ≤ w6.heap.size from by have := BW.out.size; have := b6.size; have := B44.out; omega)
          clear hco' hco b6 TD B4 BW
          rcases YY.out with hy0 | ⟨hy0, hy1⟩
          · subst hy0
            rw [if_pos rfl, if_pos rfl]
            unfold msV msC
            go_wp2_with fail
            refine (KW.out _).mono ?_
            rintro e w7 ⟨rfl, b7⟩
            have B8 := Lib.hid (B6.out.trans ((((Below.refl _ _).alloc (Nat.le_refl _) _).trans (b7.mono (by simp))).mono BX.out))
            clear b7 B6
            go_wp2_with fail
            go_ret
            exact ⟨rfl, B8.out⟩
          · rw [if_neg hy0, if_neg hy0]
            unfold msV msC Ms.zero
            go_wp2_with fail
            refine (KW.out _).mono ?_
            rintro e w7 ⟨rfl, b7⟩
            have B8 := Lib.hid (B6.out.trans ((((Below.refl _ _).alloc (Nat.le_refl _) _).trans (b7.mono (by simp))).mono BX.out))
            clear b7 B6
            go_wp2_with fail
            go_ret
            exact ⟨rfl, B8.out⟩
        · have k1 : (a.count : Int) = (b.count : Int) := by omega
          have kz : ((a.life : Int) = (b.life : Int)) = False := eq_false (by omega)
          clear h2 g1
          have hco' := hco.out
          go_wp2_with fail
          refine (TD.out _).mono ?_
          rintro e w6 ⟨rfl, b6⟩
          have B6 := Lib.hid ((B4.out.trans (BW.out.mono B44.out)).trans (b6.mono (by have := BW.out.size; have := B44.out; omega)))
          have BX := Lib.hid (show w.heap.size ≤ w6.heap.size from by have := BW.out.size; have := b6.size; have := B44.out; omega)
          clear hco' hco b6 TD B4 BW
          rcases YY.out with hy0 | ⟨hy0, hy1⟩
          · subst hy0
            rw [if_pos rfl, if_pos rfl]
            unfold msV msC
            go_wp2_with fail
            refine (KW.out _).mono ?_
            rintro e w7 ⟨rfl, b7⟩
            have B8 := Lib.hid (B6.out.trans ((((Below.refl _ _).alloc (Nat.le_refl _) _).trans (b7.mono (by simp))).mono BX.out))
            clear b7 B6
            go_wp2_with fail
            go_ret
            exact ⟨rfl, B8.out⟩
          · rw [if_neg hy0, if_neg hy0]
            unfold msV msC Ms.zero
            go_wp2_with fail
            refine (KW.out _).mono ?_
            rintro e w7 ⟨rfl, b7⟩
            have B8 := Lib.hid (B6.out.trans ((((Below.refl _ _).alloc (Nat.le_refl _) _).trans (b7.mono (by simp))).mono BX.out))
            clear b7 B6
            go_wp2_with fail
            go_ret
            exact ⟨rfl, B8.out⟩
        · have k1 : (a.count : Int) = (b.count : Int) := by omega
          have k2 : (a.life : Int) = (b.life : Int) := by omega
          have kz : ((a.check : Int) = (b.check : Int)) = False := eq_false (by omega)
          clear h2 g1 g2
          have hco' := hco.out
          go_wp2_with fail
          refine (TD.out _).mono ?_
          rintro e w6 ⟨rfl, b6⟩
          have B6 := Lib.hid ((B4.out.trans (BW.out.mono B44.out)).trans (b6.mono (by have := BW.out.size; have := B44.out; omega)))
          have BX := Lib.hid (show w.heap.size ≤ w6.heap.size from by have := BW.out.size; have := b6.size; have := B44.out; omega)
          clear hco' hco b6 TD B4 BW
          rcases YY.out with hy0 | ⟨hy0, hy1⟩
          · subst hy0
            rw [if_pos rfl, if_pos rfl]
            unfold msV msC
            go_wp2_with fail
            refine (KW.out _).mono ?_
            rintro e w7 ⟨rfl, b7⟩
            have B8 := Lib.hid (B6.out.trans ((((Below.refl _ _).alloc (Nat.le_refl _) _).trans (b7.mono (by simp))).mono BX.out))
            clear b7 B6
            go_wp2_with fail
            go_ret
            exact ⟨rfl, B8.out⟩
          · rw [if_neg hy0, if_neg hy0]
            unfold msV msC Ms.zero
            go_wp2_with fail
            refine (KW.out _).mono ?_
            rintro e w7 ⟨rfl, b7⟩
            have B8 := Lib.hid (B6.out.trans ((((Below.refl _ _).alloc (Nat.le_refl _) _).trans (b7.mono (by simp))).mono BX.out))
            clear b7 B6
            go_wp2_with fail
            go_ret
            exact ⟨rfl, B8.out⟩
        · have k1 : (a.count : Int) = (b.count : Int) := by omega
          have k2 : (a.life : Int) = (b.life : Int) := by omega
          have k3 : (a.check : Int) = (b.check : Int) := by omega
          have kz : ((a.first : Int) = (b.first : Int)) = False := eq_false (by omega)
          clear h2 g1 g2 g3
          have hco' := hco.out
          go_wp2_with fail
          refine (TD.out _).mono ?_
          rintro e w6 ⟨rfl, b6⟩
          have B6 := Lib.hid ((B4.out.trans (BW.out.mono B44.out)).trans (b6.mono (by have := BW.out.size; have := B44.out; omega)))
          have BX := Lib.hid (show w.heap.size ≤ w6.heap.size from by have := BW.out.size; have := b6.size; have := B44.out; omega)
          clear hco' hco b6 TD B4 BW
          rcases YY.out with hy0 | ⟨hy0, hy1⟩
          · subst hy0
            rw [if_pos rfl, if_pos rfl]
            unfold msV msC
            go_wp2_with fail
            refine (KW.out _).mono ?_
            rintro e w7 ⟨rfl, b7⟩
            have B8 := Lib.hid (B6.out.trans ((((Below.refl _ _).alloc (Nat.le_refl _) _).trans (b7.mono (by simp))).mono BX.out))
            clear b7 B6
            go_wp2_with fail
            go_ret
            exact ⟨rfl, B8.out⟩
          · rw [if_neg hy0, if_neg hy0]
            unfold msV msC Ms.zero
            go_wp2_with fail
            refine (KW.out _).mono ?_
            rintro e w7 ⟨rfl, b7⟩
            have B8 := Lib.hid (B6.out.trans ((((Below.refl _ _).alloc (Nat.le_refl _) _).trans (b7.mono (by simp))).mono BX.out))
            clear b7 B6
            go_wp2_with fail
            go_ret
            exact ⟨rfl, B8.out⟩
        · have k1 : (a.count : Int) = (b.count : Int) := by omega
          have k2 : (a.life : Int) = (b.life : Int) := by omega
          have k3 : (a.check : Int) = (b.check : Int) := by omega
          have k4 : (a.first : Int) = (b.first : Int) := by omega
          have kz : (a.clean = b.clean) = False := eq_false h2
          clear h2 g1 g2 g3 g4
          have hco' := hco.out
          go_wp2_with fail
          refine (TD.out _).mono ?_
          rintro e w6 ⟨rfl, b6⟩
          have B6 := Lib.hid ((B4.out.trans (BW.out.mono B44.out)).trans (b6.mono (by have := BW.out.size; have := B44.out; omega)))
          have BX := Lib.hid (show w.heap.size ≤ w6.heap.size from by have := BW.out.size; have := b6.size; have := B44.out; omega)
          clear hco' hco b6 TD B4 BW
          rcases YY.out with hy0 | ⟨hy0, hy1⟩
          · subst hy0
            rw [if_pos rfl, if_pos rfl]
            unfold msV msC
            go_wp2_with fail
            refine (KW.out _).mono ?_
            rintro e w7 ⟨rfl, b7⟩
            have B8 := Lib.hid (B6.out.trans ((((Below.refl _ _).alloc (Nat.le_refl _) _).trans (b7.mono (by simp))).mono BX.out))
            clear b7 B6
            go_wp2_with fail
            go_ret
            exact ⟨rfl, B8.out⟩
          · rw [if_neg hy0, if_neg hy0]
            unfold msV msC Ms.zero
            go_wp2_with fail
            refine (KW.out _).mono ?_
            rintro e w7 ⟨rfl, b7⟩
            have B8 := Lib.hid (B6.out.trans ((((Below.refl _ _).alloc (Nat.le_refl _) _).trans (b7.mono (by simp))).mono BX.out))
            clear b7 B6
            go_wp2_with fail
            go_ret
            exact ⟨rfl, B8.out⟩
    · subst hb1
      clear HAB HBB SZ
      have hco' := hco.out
      go_wp2_with fail
      refine (TD.out _).mono ?_
      rintro e w6 ⟨rfl, b6⟩
      have B6 := Lib.hid ((B4.out.trans (BW.out.mono B44.out)).trans (b6.mono (by have := BW.out.size; have := B44.out; omega)))
      have BX := Lib.hid (show w.heap.size ≤ w6.heap.size from by have := BW.out.size; have := b6.size; have := B44.out; omega)
      clear hco' hco b6 TD B4 BW
      rcases YY.out with hy0 | ⟨hy0, hy1⟩
      · subst hy0
        rw [if_pos rfl, if_pos rfl]
        unfold msV msC
        go_wp2_with fail
        refine (KW.out _).mono ?_
        rintro e w7 ⟨rfl, b7⟩
        have B8 := Lib.hid (B6.out.trans ((((Below.refl _ _).alloc (Nat.le_refl _) _).trans (b7.mono (by simp))).mono BX.out))
        clear b7 B6
        go_wp2_with fail
        go_ret
        exact ⟨rfl, B8.out⟩
      · rw [if_neg hy0, if_neg hy0]
        unfold msV msC Ms.zero
        go_wp2_with fail
        refine (KW.out _).mono ?_
        rintro e w7 ⟨rfl, b7⟩
        have B8 := Lib.hid (B6.out.trans ((((Below.refl _ _).alloc (Nat.le_refl _) _).trans (b7.mono (by simp))).mono BX.out))
        clear b7 B6
        go_wp2_with fail
        go_ret
        exact ⟨rfl, B8.out⟩

end Go.Proofs.Ytfcibccipkokoaa.Mas
