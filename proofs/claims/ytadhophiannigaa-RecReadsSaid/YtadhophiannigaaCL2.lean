/- Walks: which bytes are a record's. -/
import Derived.Test.YtadhophiannigaaCL0
import Derived.Test.YtadhophiannigaaCY2
import Derived.Test.YtadhophiannigaaCY6
import Derived.Test.YtadhophiannigaaCY7
import Derived.Test.YtadhophiannigaaCG
import Derived.Test.YtadhophiannigaaTL
namespace Go.Proofs.Ytadhophiannigaa.Rec
open Go.RowKit
attribute [local go_sem ↓] Go.wp_at_zero Go.wp_at_succ

theorem cut_le {V : ByteArray} (h : V.size ≤ 4096) (k : Nat) : (V.extract 0 k).size ≤ 140737488351232 := by
  rw [ByteArray.size_extract]
  omega
set_option maxRecDepth 100000 in
set_option maxHeartbeats 4000000 in
theorem reads_walk {w : World} {s : ByteArray} {r : Rc} {d t v1 v2 : Value} {own : Bool} {l1 l2 : List Nat} {cut : Int} (hs : s.size ≤ 140737488351232) (h : InR w r d t) (h1 : Nums .u16 w v1 l1) (h2 : Nums .u8 w v2 l2) (hb1 : ∀ n ∈ l1, n < 65536) (hb2 : ∀ n ∈ l2, n < 256) (hc : 0 ≤ cut ∧ cut ≤ 65535) :
    Calls Try.prog 4 #[.string s, recV r d t, .bool own, v1, v2, .int .u16 cut] w fun e w' => e = .returned (.bool true) ∧ Below w.heap.size w w' := by
  have T0 := Lib.hid (Bx.start w r d t)
  have H := Lib.hid h
  obtain ⟨ad1, c1, rfl, g1⟩ := id h1
  obtain ⟨ad2, c2, rfl, g2⟩ := id h2
  have N1 := Lib.hid h1
  have N2 := Lib.hid h2
  have U1 := Lib.hid hb1
  have U2 := Lib.hid hb2
  have KH := Lib.hid (fun W (B : Below w.heap.size w W) => heavy_any (H.out.later B))
  have KRE := Lib.hid (fun W (B : Below w.heap.size w W) => rencode_any (H.out.later B))
  have LE := Lib.hid (enc_le r)
  have KD := Lib.hid (fun (S : ByteArray) W (hS : S.size ≤ 140737488351232) => (show Calls Try.prog 17 #[.string S] W fun e w' => ∃ d u, e = .returned (.tuple #[recV (decC S) d u, .int .i64 (decE S)]) ∧ InR w' (decC S) d u ∧ Below W.heap.size W w' from decode_any S W hS))
  have KRD := Lib.hid (fun (S : ByteArray) W (hS : S.size ≤ 140737488351232) => (show Calls Try.prog 18 #[.string S] W fun e w' => ∃ d u, e = .returned (.tuple #[recV (decC S) d u, .int .i64 (decE S)]) ∧ InR w' (decC S) d u ∧ Below W.heap.size W w' from rdecode_any S W hS))
  have KS := Lib.hid (fun W x d1 t1 d2 t2 (i : InR W x d1 t1) (j : InR W x d2 t2) => (show Calls Try.prog 15 #[recV x d1 t1, recV x d2 t2] W fun e w' => e = .returned (.bool true) ∧ Below W.heap.size W w' from by have := rsame_any i j; rw [same_self] at this; exact this))
  clear h h1 h2 g1 g2 hb1 hb2
  obtain ⟨a0, a1, a2, a3, a4, a5, a6, a7, a8, a9, a10, a11⟩ := T0.out.all
  generalize encS r = E at *
  unfold recV recC at *
  go_enter Try.func4, Try.ntmps4
  by_cases hl : 8192 < s.size
  · have B1 := Lib.hid T0.out.below
    clear T0 H N1 N2 U1 U2 KH KRE KD KRD KS a0 a1 a2 a3 a4 a5 a6 a7 a8 a9 a10 a11
    go_wp2_with fail
    refine (works_any _).mono ?_
    rintro e w2 ⟨rfl, c2⟩
    have B2 := Lib.hid (B1.out.trans (c2.mono B1.out.size))
    clear c2 B1
    go_wp2_with fail
    go_ret
    exact ⟨rfl, B2.out⟩
  go_wp2_with fail
  refine (KH.out _ T0.out.below).mono ?_
  rintro e w1 ⟨rfl, k1⟩
  have T1 := Lib.hid (T0.out.later k1)
  clear k1 T0 KH a0 a1 a2 a3 a4 a5 a6 a7 a8 a9 a10 a11
  by_cases hx : heavyC r = true ∨ 8 < l1.length ∨ 8 < l2.length
  · clear H N1 N2 U1 U2 KRE KD KRD KS
    have hA : heavyC r = true ∨ heavyC r = false ∧ (8 < l1.length ∨ ¬ 8 < l1.length ∧ 8 < l2.length) := by
      cases hq : heavyC r with
      | true => exact .inl rfl
      | false =>
        rw [hq] at hx
        rcases hx with hx | hx | hx
        · cases hx
        · exact .inr ⟨rfl, .inl hx⟩
        · by_cases h3 : 8 < l1.length
          · exact .inr ⟨rfl, .inl h3⟩
          · exact .inr ⟨rfl, .inr ⟨h3, hx⟩⟩
    clear hx
    generalize heavyC r = HV at *
    rcases hA with rfl | ⟨rfl, hA | ⟨hB, hA⟩⟩
    all_goals
      go_wp2_with fail
      refine (works_any _).mono ?_
      rintro e w2 ⟨rfl, k2⟩
      have B2 := Lib.hid (T1.out.later k2).below
      clear k2 T1
      go_wp2_with fail
      go_ret
      exact ⟨rfl, B2.out⟩
  obtain ⟨hA, hl1, hl2⟩ : heavyC r = false ∧ ¬ 8 < l1.length ∧ ¬ 8 < l2.length := by
    refine ⟨?_, fun e => hx (.inr (.inl e)), fun e => hx (.inr (.inr e))⟩
    cases hq : heavyC r with
    | true => exact absurd (.inl hq) hx
    | false => rfl
  clear hx
  obtain ⟨a0, a1, a2, a3, a4, a5, a6, a7, a8, a9, a10, a11⟩ := T1.out.all
  go_upto_if 37 with fail
  go_cut [0] (fun c wx => ∃ S : ByteArray, c = .string S ∧ S.size ≤ 140737488351232 ∧ Below w.heap.size w wx)
  case first =>
    clear KD KRD KS
    cases own with
    | false =>
      have B2 := Lib.hid T1.out.below
      clear T1 H N1 N2 U1 U2 KRE a0 a1 a2 a3 a4 a5 a6 a7 a8 a9 a10 a11
      go_wp2_with fail
      go_meet
      exact ⟨s, rfl, hs, B2.out⟩
    | true =>
      go_wp2_with fail
      refine (KRE.out _ T1.out.below).mono ?_
      rintro e w7 ⟨rfl, k7⟩
      have BZ := Lib.hid (T1.out.later k7).below
      clear k7 T1 KRE H a0 a1 a2 a3 a4 a5 a6 a7 a8 a9 a10 a11
      obtain ⟨cap, wb, hcv, hh⟩ := bytes_in E w7
      have H3 := Lib.hid hh
      have M1 := Lib.hid (N1.out.later BZ.out)
      have M2 := Lib.hid (N2.out.later BZ.out)
      have hE := LE.out
      have eE := Lib.hid (show E.data.toList.length = E.size from (Lib.size_eq _).symm)
      clear hh N1 N2 LE
      go_wp2_with fail
      clear hcv
      go_loopw [14] (fun x wr => ∃ (i : Nat) (u : List UInt8), i ≤ l1.length ∧ x = .int .i64 i ∧ u.length = E.size ∧ HoldU w7.heap.size u w7 wr) (fun x _ => l1.length - (intOf x).toNat)
      case atStart => exact ⟨0, E.data.toList, by omega, by go_num, eE.out, H3.out⟩
      case round =>
        obtain ⟨i, u, hi, rfl, hu, hh⟩ := hrel
        clear H3
        have HH := Lib.hid hh
        have HU := Lib.hid hu
        clear hh hu
        by_cases hgo : i < l1.length ∧ i < l2.length ∧ 0 < E.size
        · obtain ⟨h1, h2, h3⟩ := hgo
          obtain ⟨x1, o1, rfl, q1, d1⟩ := M1.out.at i h1
          obtain ⟨x2, o2, rfl, q2, d2⟩ := M2.out.at i h2
          have e1 : wr.cell? ⟨x1, o1 + i, none⟩ = _ := (HH.out.2.2.cell (p := ⟨x1, o1 + i, none⟩) q1).trans d1
          have e2 : wr.cell? ⟨x2, o2 + i, none⟩ = _ := (HH.out.2.2.cell (p := ⟨x2, o2 + i, none⟩) q2).trans d2
          have b1 := U1.out _ (List.getElem_mem h1)
          have b2 := U2.out _ (List.getElem_mem h2)
          clear d1 d2 q1 q2
          generalize l1[i] = n1 at *
          generalize l2[i] = n2 at *
          obtain ⟨J, hJ⟩ : ∃ J, J = n1 % E.size := ⟨_, rfl⟩
          have j1 : J < E.size := by rw [hJ]; exact Nat.mod_lt _ h3
          have e3 := HH.out.1 J (by rw [HU.out]; exact j1)
          have e4 := HH.out.2.1 J (by rw [HU.out]; exact j1)
          have z0 : IntKind.i64.wrap (n1 : Int) = n1 := IntWalk.i64_in _ (by omega)
          have z1 : (n1 : Int).tmod (E.size : Int) = J := by rw [hJ, Int.tmod_eq_emod_of_nonneg (by omega)]; rfl
          have z2 : ((E.size : Int) == 0) = false := by rw [beq_eq_false_iff_ne]; omega
          clear hJ
          go_wp2_with fail
          (refine wp_region_still_tail 14 (by kernel_rfl) (by kernel_rfl) (still_of_quiet _ _ ?_); simp only [List.take_succ_cons, List.take_zero, List.drop_succ_cons, List.drop_zero]; (repeat (first | go_big_quiet_skip | (go_big_quiet_want; go_big_quiet_op; first | go_big_quiet_on | (apply Exists.intro; refine ⟨?_, ?_⟩; (first | fail); go_big_quiet_on)))); refine wpQuiet_nil ?_)
          change wpList _ _ _ _ _ wr.drew
          go_wp2_with fail
          have e5 : ((UInt8.ofNat n2).toNat : Int) = n2 := by rw [UInt8.toNat_ofNat']; have := Nat.mod_eq_of_lt b2; omega
          have g3 := HH.out.set J (by rw [HU.out]; exact j1) (UInt8.ofNat n2)
          rw [e5] at g3
          exact ⟨⟨i + 1, u.set J (UInt8.ofNat n2), by omega, by go_num, by rw [List.length_set]; exact HU.out, g3.drew⟩, by simp [intOf]; omega⟩
        · have h3 : (i < l1.length ∧ (i < l2.length ∧ ¬ 0 < E.size)) ∨ (i < l1.length ∧ ¬ i < l2.length) ∨ ¬ i < l1.length := by omega
          have CV := HH.out.out (cap := cap)
          rw [HU.out] at CV
          have us := Lib.hid (show (ByteArray.mk u.toArray).size = E.size from by rw [← HU.out]; rfl)
          have B9 := Lib.hid (BZ.out.trans (HH.out.2.2.mono BZ.out.size))
          clear HH HU U1 U2 M1 M2 eE hi hgo
          generalize (⟨u.toArray⟩ : ByteArray) = V at *
          obtain ⟨k, rfl⟩ := Int.eq_ofNat_of_zero_le hc.1
          have us' : V.size ≤ 4096 := by rw [us.out]; exact hE
          by_cases hk : k < V.size
          all_goals
            rcases h3 with ⟨p1, p2, p3⟩ | ⟨p1, p2⟩ | p1
            all_goals
              go_wp2_with fail
              go_meet
              first | exact ⟨V, rfl, by omega, B9.out⟩ | exact ⟨V.extract 0 k, rfl, cut_le us' k, B9.out⟩
  case rest =>
    obtain ⟨S, rfl, hS, hB⟩ := hcut
    have B0 := Lib.hid hB
    have KD := Lib.hid (fun W => KD.out S W hS)
    have KRD := Lib.hid (fun W => KRD.out S W hS)
    have KS := Lib.hid (fun W => KS.out W (decC S))
    clear hS hB T1 N1 N2 U1 U2 KRE H LE a0 a1 a2 a3 a4 a5 a6 a7 a8 a9 a10 a11
    generalize decC S = X at *
    generalize decE S = F at *
    go_wp2_with fail
    refine (KD.out _).mono ?_
    rintro e w5 ⟨d5, u5, rfl, i5, k5⟩
    obtain ⟨p1, q1, rfl⟩ := i5.di.form
    obtain ⟨p2, q2, rfl⟩ := i5.ac.form
    have T5 := Lib.hid (Bx.make (W0 := w) X (.slice p1 X.dirty.length q1) (.slice p2 X.txns.length q2) (B0.out.trans (k5.mono B0.out.size)))
    have I5 := Lib.hid (i5.later (below_new w5 (.cells (recC X (.slice p1 X.dirty.length q1) (.slice p2 X.txns.length q2)) 32)))
    clear k5 i5 B0 KD
    unfold recC at T5 I5
    go_upto_region 13 with fail
    generalize w5.heap.size = h5 at *
    generalize w5.alloc _ = W5 at *
    go_wp2_with fail
    refine (KRD.out _).mono ?_
    rintro e w6 ⟨d6, u6, rfl, i6, k6⟩
    obtain ⟨p3, q3, rfl⟩ := i6.di.form
    obtain ⟨p4, q4, rfl⟩ := i6.ac.form
    have T6 := T5.out.later k6
    have T7 := Lib.hid (T6.later (below_new w6 (.cells (recC X (.slice p3 X.dirty.length q3) (.slice p4 X.txns.length q4)) 32)))
    have I7 := Lib.hid (i6.later (below_new w6 (.cells (recC X (.slice p3 X.dirty.length q3) (.slice p4 X.txns.length q4)) 32)))
    have I8 := Lib.hid ((I5.out.later k6).later (below_new w6 (.cells (recC X (.slice p3 X.dirty.length q3) (.slice p4 X.txns.length q4)) 32)))
    have T8 := Lib.hid (Bx.make (W0 := w) X (.slice p3 X.dirty.length q3) (.slice p4 X.txns.length q4) T6.below)
    clear k6 i6 T6 T5 I5 KRD
    unfold recC at T7 T8 I7 I8
    go_upto_region 14 with fail
    generalize w6.heap.size = h6 at *
    generalize w6.alloc _ = W6 at *
    obtain ⟨a0, a1, a2, a3, a4, a5, a6, a7, a8, a9, a10, a11⟩ := T7.out.all
    obtain ⟨b0, b1, b2, b3, b4, b5, b6, b7, b8, b9, b10, b11⟩ := T8.out.all
    go_wp2_with fail
    refine (KS.out _ _ _ _ _ I8.out I7.out).mono ?_
    rintro e w7 ⟨rfl, k7⟩
    have B7 := Lib.hid (T7.out.later k7).below
    clear k7 T7 T8 I7 I8 KS a0 a1 a2 a3 a4 a5 a6 a7 a8 a9 a10 a11 b0 b1 b2 b3 b4 b5 b6 b7 b8 b9 b10 b11
    go_wp2_with fail
    refine (works_any _).mono ?_
    rintro e w8 ⟨rfl, k8⟩
    have B8 := Lib.hid (B7.out.trans (k8.mono B7.out.size))
    clear k8 B7
    go_wp2_with fail
    go_ret
    exact ⟨rfl, B8.out⟩

end Go.Proofs.Ytadhophiannigaa.Rec
