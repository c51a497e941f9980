/-
  PageBack holds for every input: what was written is read as itself; unlike pages have unlike bytes; bits that are turned within 32 in a row make it none. No condition besides those of the statement.
-/
import Derived.Test.YtmandeohbiagfaaRows
import Derived.WalkKit
import Derived.ProofKit
import Derived.OpenShut
import Derived.ShutString
import Derived.ChangeOld
import Derived.Below
import Derived.Carry
import Derived.SizedLaws
import Derived.Deep.DrawnRows
import Derived.Test.YtmandeohbiagfaaZ7
namespace Go.Proofs.Ytmandeohbiagfaa.Page
open Go.RowKit Slot
open Go.Proofs.Ytmandeohbiagfaa.Sum (val)
attribute [local go_sem ↓] Go.wp_at_zero Go.wp_at_succ

/-- the texts of two pages that may be are one just if the pages are -/
theorem same_texts {P Q : Pg} (hp : P.wf) (hq : Q.wf) (h : mayP P = true) (k : mayP Q = true) : ((encS P).toList == (encS Q).toList) = sameB P Q := by
  cases hb : sameB P Q with
  | true =>
    rw [(same_iff P Q).1 hb]
    exact beq_yes _
  | false =>
    refine beq_no fun e => ?_
    have := enc_inj hp hq h k e
    rw [(same_iff P Q).2 this] at hb
    cases hb
theorem enc_no' {P : Pg} (h : mayP P = false) : encE P = 2 := by unfold encE; rw [if_neg (by rw [h]; decide)]
theorem enc_yes' {P : Pg} (h : mayP P = true) : encE P = 0 := by unfold encE; rw [if_pos h]

set_option maxRecDepth 100000 in
set_option maxHeartbeats 4000000 in
theorem pback_walk {w : World} {P Q : Pg} {u v : Value} {at' T : Int} (hp : InPg w P u) (hq : InPg w Q v) (ha : 0 ≤ at' ∧ at' ≤ 65535) (hT : 0 ≤ T ∧ T ≤ 4294967295) :
    Calls Try.prog 5 #[pgV P u, pgV Q v, .int .u16 at', .int .u32 T] w fun e w' => e = .returned (.bool true) ∧ Below w.heap.size w w' := by
  obtain ⟨T, rfl⟩ : ∃ n : Nat, T = n := ⟨T.toNat, by omega⟩
  have hT2 : T < 4294967296 := by omega
  have T0 := Lib.hid (Two.start hp.rows hq.rows)
  obtain ⟨ad, c, rfl, _⟩ := id hp.rows
  obtain ⟨ad2, c2, rfl, _⟩ := id hq.rows
  have HV := Lib.hid (fun (W : World) (g h : Nat) (t : Two w W g h P Q (.slice ad P.rows.length c) (.slice ad2 Q.rows.length c2)) => heavy_any P t.a.rows hp.len hp.each)
  have HV2 := Lib.hid (fun (W : World) (g h : Nat) (t : Two w W g h P Q (.slice ad P.rows.length c) (.slice ad2 Q.rows.length c2)) => heavy_any Q t.b.rows hq.len hq.each)
  have PWF := Lib.hid hp.wf
  have QWF := Lib.hid hq.wf
  clear hp hq
  obtain ⟨n, hn⟩ : ∃ n, n = P.rows.length := ⟨_, rfl⟩
  obtain ⟨n2, hn2⟩ : ∃ n, n = Q.rows.length := ⟨_, rfl⟩
  have N := Lib.hid hn
  have N2 := Lib.hid hn2
  unfold pgV pgC at *
  rw [← hn, ← hn2] at T0 HV HV2 ⊢
  clear hn hn2
  obtain ⟨⟨a0, a1, a2, a3, a4, a5⟩, ⟨b0, b1, b2, b3, b4, b5⟩⟩ := And.intro T0.out.a.six T0.out.b.six
  go_enter Try.func5, Try.ntmps5
  go_wp2_with fail
  obtain ⟨g, hg⟩ : ∃ g, g = w.heap.size := ⟨_, rfl⟩
  obtain ⟨h, hh⟩ : ∃ h, h = w.heap.size + 1 := ⟨_, rfl⟩
  clear a0 a1 a2 a3 a4 a5 b0 b1 b2 b3 b4 b5
  rw [← hh, ← hg] at T0 ⊢
  refine (HV.out _ _ _ T0.out).mono ?_
  rintro e w1 ⟨rfl, b1⟩
  have T1 := Lib.hid (T0.out.later b1)
  clear b1 T0 hg hh
  cases hb : heavyB P.rows with
  | true =>
    clear HV HV2 hb
    go_wp2_with fail
    refine (alive_any _).mono ?_
    rintro e wz ⟨rfl, bz⟩
    have E := Lib.hid (T1.out.a.below.trans (bz.mono T1.out.a.below.size))
    clear bz T1
    go_wp2_with fail
    go_ret
    exact ⟨rfl, E.out⟩
  | false =>
    have L1 := Lib.hid (light hb)
    obtain ⟨b0, b1, b2, b3, b4, b5⟩ := T1.out.b.six
    clear hb HV
    go_wp2_with fail
    refine (HV2.out _ _ _ T1.out).mono ?_
    rintro e w2 ⟨rfl, k3⟩
    have T2 := Lib.hid (T1.out.later k3)
    clear k3 T1 b0 b1 b2 b3 b4 b5 HV2
    cases hb : heavyB Q.rows with
    | true =>
      clear hb
      go_wp2_with fail
      refine (alive_any _).mono ?_
      rintro e wz ⟨rfl, bz⟩
      have E := Lib.hid (T2.out.a.below.trans (bz.mono T2.out.a.below.size))
      clear bz T2
      go_wp2_with fail
      go_ret
      exact ⟨rfl, E.out⟩
    | false =>
      have L2 := Lib.hid (light hb)
      clear hb
      have K10 := Lib.hid (fun (W : World) (t : Two w W g h P Q (.slice ad n c) (.slice ad2 n2 c2)) => encode_any P PWF.out t.a.rows (by have := L1.out.1; omega))
      have K11 := Lib.hid (fun (W : World) (t : Two w W g h P Q (.slice ad n c) (.slice ad2 n2 c2)) => encode_any Q QWF.out t.b.rows (by have := L2.out.1; omega))
      have K17 := Lib.hid (fun (W : World) (t : Two w W g h P Q (.slice ad n c) (.slice ad2 n2 c2)) => rsame_any P Q t.a.rows t.b.rows (by have := L1.out.2; omega))
      unfold pgV at K10 K11 K17
      obtain ⟨a0, a1, a2, a3, a4, a5⟩ := T2.out.a.six
      cases hm : mayP P with
      | false =>
        have e1 := enc_no' hm
        rw [e1] at K10
        clear hm e1 L1 L2 PWF QWF N N2 K17
        generalize encS P = S at *
        generalize encS Q = V at *
        generalize encE Q = E2 at *
        go_wp2_with fail
        refine (K10.out _ T2.out).mono ?_
        rintro e w3 ⟨rfl, k3⟩
        have T3 := Lib.hid (T2.out.later k3)
        clear k3 T2 a0 a1 a2 a3 a4 a5 K10
        obtain ⟨a0, a1, a2, a3, a4, a5⟩ := T3.out.b.six
        go_wp2_with fail
        refine (K11.out _ T3.out).mono ?_
        rintro e w4 ⟨rfl, k3⟩
        have B4 := Lib.hid (T3.out.later k3).a.below
        clear k3 T3 a0 a1 a2 a3 a4 a5 K11
        go_wp2_with fail
        refine (alive_any _).mono ?_
        rintro e wz ⟨rfl, bz⟩
        have E := Lib.hid (B4.out.trans (bz.mono B4.out.size))
        clear bz B4
        go_wp2_with fail
        go_ret
        exact ⟨rfl, E.out⟩
      | true =>
        have e1 := enc_yes' hm
        rw [e1] at K10
        have hways : Hid (encE Q = 2 ∨ (encE Q = 0 ∧ ((encS P).toList == (encS Q).toList) = true ∧ sameB P Q = true) ∨ (encE Q = 0 ∧ ((encS P).toList == (encS Q).toList) = false ∧ sameB P Q = false)) := by
          refine Lib.hid ?_
          cases hk : mayP Q with
          | false => exact .inl (enc_no' hk)
          | true =>
            have e2 := same_texts PWF.out QWF.out hm hk
            cases hs : sameB P Q with
            | true => exact .inr (.inl ⟨enc_yes' hk, by rw [e2, hs], rfl⟩)
            | false => exact .inr (.inr ⟨enc_yes' hk, by rw [e2, hs], rfl⟩)
        have HP := Lib.hid (enc_page PWF.out hm)
        have Z0 := Lib.hid (enc_size hm)
        have K18 := Lib.hid (fun W => decode_any (encS P) W (by have := Z0.out; omega) (dec_enc PWF.out hm))
        have PL := Lib.hid (show P.rows.length ≤ 1000000 by have := L1.out.2; omega)
        have hS5 : (encS P).size ≤ 4100 := by have := Z0.out; omega
        have hS6 : 4 ≤ (encS P).size := by have := Z0.out; omega
        have z1 : (((encS P).size : Int) != 512) = false := by rw [Z0.out]; rfl
        obtain ⟨K, hK⟩ : ∃ K : Nat, at' % (8 * ((encS P).size : Int) - 31) = K := ⟨_, (Int.toNat_of_nonneg (Int.emod_nonneg at' (by omega))).symm⟩
        have hK2 := Int.emod_lt_of_pos at' (show 0 < 8 * ((encS P).size : Int) - 31 by omega)
        rw [hK] at hK2
        have hK3 : K + 32 ≤ 8 * (encS P).size := by omega
        have HK := Lib.hid hK
        clear hm e1 L1 L2 PWF QWF hK hK2
        generalize encS P = S at *
        generalize encS Q = V at *
        generalize encE Q = E2 at *
        generalize sameB P Q = Z at *
        go_wp2_with fail
        refine (K10.out _ T2.out).mono ?_
        rintro e w3 ⟨rfl, k3⟩
        have T3 := Lib.hid (T2.out.later k3)
        clear k3 T2 a0 a1 a2 a3 a4 a5 K10
        obtain ⟨a0, a1, a2, a3, a4, a5⟩ := T3.out.b.six
        go_wp2_with fail
        refine (K11.out _ T3.out).mono ?_
        rintro e w4 ⟨rfl, k3⟩
        have T4 := Lib.hid (T3.out.later k3)
        clear k3 T3 a0 a1 a2 a3 a4 a5 K11
        go_wp2_with fail
        refine (K18.out _).mono ?_
        rintro e w5 ⟨b5, v5, rfl, r5⟩
        obtain ⟨ad5, c5, rfl, _⟩ := id r5
        have T5 := Lib.hid (T4.out.later b5)
        have A6 : Hid (Bx w (w5.alloc (.cells #[.int .u8 (P.kind : Int), .int .u8 (P.level : Int), .int .u32 (P.id : Int), .int .u64 (P.lsn : Int), .int .u32 (P.next : Int), .slice ad5 P.rows.length c5] 26)) w5.heap.size P (.slice ad5 P.rows.length c5)) := Lib.hid (Bx.make r5 T5.out.a.below)
        have T6 := Lib.hid (T5.out.later ((Below.refl _ _).alloc (Nat.le_refl _) (.cells #[.int .u8 (P.kind : Int), .int .u8 (P.level : Int), .int .u32 (P.id : Int), .int .u64 (P.lsn : Int), .int .u32 (P.next : Int), .slice ad5 P.rows.length c5] 26)))
        have K16 := Lib.hid (rsame_any P P A6.out.rows T6.out.a.rows PL.out)
        rw [(same_iff P P).2 rfl] at K16
        obtain ⟨a0, a1, a2, a3, a4, a5⟩ := T6.out.a.six
        obtain ⟨d0, d1, d2, d3, d4, d5⟩ := A6.out.six
        clear b5 r5 T4 T5 K18
        unfold pgV
        unfold pgV at K16
        go_upto_region 8 with fail
        generalize w5.alloc (.cells #[.int .u8 (P.kind : Int), .int .u8 (P.level : Int), .int .u32 (P.id : Int), .int .u64 (P.lsn : Int), .int .u32 (P.next : Int), .slice ad5 P.rows.length c5] 26) = W6 at *
        generalize w5.heap.size = g5 at *
        go_wp2_with fail
        refine K16.out.mono ?_
        rintro e w7 ⟨rfl, b7⟩
        have T7 := Lib.hid (T6.out.later b7)
        clear b7 T6 A6 K16 a0 a1 a2 a3 a4 a5 d0 d1 d2 d3 d4 d5
        have BZ := Lib.hid T7.out.a.below
        rcases hways.out with rfl | ⟨rfl, q1, rfl⟩ | ⟨rfl, q1, rfl⟩
        · clear K17 hways T7
          obtain ⟨cap, wc, hcv, hh⟩ := bytes_in S w7
          have H3 := Lib.hid hh
          clear hh
          go_wp2_with fail
          rw [HK.out]
          clear hcv z1
          go_loopw [17] (fun x wr => ∃ (i : Nat) (u : List UInt8), i ≤ 32 ∧ x = .int .i64 i ∧ TurnedTo S.data.toList K T i u ∧ HoldU w7.heap.size u w7 wr) (fun x _ => 32 - (intOf x).toNat)
          case atStart => exact ⟨0, S.data.toList, by omega, by go_num, TurnedTo.start _ _ _, H3.out⟩
          case round =>
            obtain ⟨i, u, hi, rfl, ht, hh⟩ := hrel
            clear H3
            by_cases hlt : i < 32
            · have hul : u.length = S.size := by rw [ht.1]; exact size_len S
              obtain ⟨J, hJ⟩ : ∃ J, J = (K + i) / 8 := ⟨_, rfl⟩
              obtain ⟨R, hR⟩ : ∃ R, R = (K + i) % 8 := ⟨_, rfl⟩
              have hp : K + i = 8 * J + R := by omega
              have hR8 : R < 8 := by omega
              have hJl : J < u.length := by omega
              by_cases hb : T / 2 ^ i % 2 = 1
              · have hb2 : (((T : Int) / 2 ^ i).tmod 2 == 1) = true := by rw [test_bit, hb]; rfl
                have g1 := hh.1 J hJl
                have g2 := hh.2.1 J hJl
                have ht2 := Lib.hid (ht.one hb J R hp hR8 hJl)
                have hh2 := Lib.hid (hh.set J hJl (u[J] ^^^ UInt8.ofNat (2 ^ R)))
                have i1 : ((K : Int) + i) / 8 = (J : Int) := by omega
                have i2 : ((K : Int) + i) % 8 = (R : Int) := by omega
                have hJS : (J : Int) < (S.size : Int) := by omega
                obtain ⟨z, hz⟩ : ∃ z, z = u[J] ^^^ UInt8.ofNat (2 ^ R) := ⟨_, rfl⟩
                have hx : bits .xor .u8 (u[J].toNat : Int) (2 ^ R % 256) = (z.toNat : Int) := by
                  have e : ((2 : Int) ^ R % 256) = ((UInt8.ofNat (2 ^ R)).toNat : Int) := by simp
                  have hl2 := (UInt8.ofNat (2 ^ R)).toNat_lt
                  rw [hz, e, UInt8.toNat_xor, u8_xor_nat _ _ u[J].toNat_lt (by omega)]
                rw [← hz] at ht2 hh2
                clear hb ht hh hp hR hJ hz
                go_wp2_with fail
                go_roundw
                case rel => exact ⟨i + 1, _, by omega, by go_num, ht2.out, hh2.out⟩
                case measure => simp [intOf]; omega
              · have hb0 : T / 2 ^ i % 2 = 0 := by omega
                have hb2 : (((T : Int) / 2 ^ i).tmod 2 == 1) = false := by rw [test_bit, hb0]; rfl
                have ht2 := Lib.hid (ht.none hb0)
                have hh2 := Lib.hid hh
                clear hb ht hh hp hR hJ hb0
                go_wp2_with fail
                go_roundw
                case rel => exact ⟨i + 1, u, by omega, by go_num, ht2.out, hh2.out⟩
                case measure => simp [intOf]; omega
            · obtain rfl : i = 32 := by omega
              have e32 : T % 2 ^ 32 = T := Nat.mod_eq_of_lt (by omega)
              have hv := ht.2
              rw [e32] at hv
              have hul : u.length = S.size := by rw [ht.1]; exact size_len S
              have hout := hh.out (cap := cap)
              rw [hul] at hout
              have eU : (⟨u.toArray⟩ : ByteArray).size = u.length := by show u.toArray.size = _; simp
              obtain ⟨q, hq⟩ := turned_dec (k := K) (T := T) HP.out ht.1 (by have := Z0.out; omega) hT2 hv
              have K19 := Lib.hid (fun W => decode_any ⟨u.toArray⟩ W (by rw [eU, hul]; omega) hq)
              have HB := Lib.hid (BZ.out.trans (hh.2.2.mono BZ.out.size))
              clear hq eU ht hh hv e32 hul
              by_cases h0 : T = 0
              · rw [if_pos h0] at K19
                have t0 : ((T : Int) == 0) = true := by rw [h0]; rfl
                clear h0
                generalize (⟨u.toArray⟩ : ByteArray) = U at *
                go_wp2_with fail
                refine (K19.out _).mono ?_
                rintro e w8 ⟨b8, v8, rfl, r8⟩
                obtain ⟨ad8, c8, rfl, _⟩ := id r8
                have B9 : Hid (Below w.heap.size w (w8.alloc (.cells #[.int .u8 (q.kind : Int), .int .u8 (q.level : Int), .int .u32 (q.id : Int), .int .u64 (q.lsn : Int), .int .u32 (q.next : Int), .slice ad8 q.rows.length c8] 26))) := Lib.hid ((HB.out.trans (b8.mono HB.out.size)).alloc (HB.out.trans (b8.mono HB.out.size)).size _)
                clear b8 r8 K19 HB
                unfold pgV
                go_wp2_with fail
                refine (alive_any _).mono ?_
                rintro e w9 ⟨rfl, b9⟩
                have E := Lib.hid (B9.out.trans (b9.mono B9.out.size))
                clear b9 B9
                go_wp2_with fail
                go_ret
                exact ⟨rfl, E.out⟩
              · rw [if_neg h0] at K19
                have t0 : ((T : Int) == 0) = false := by
                  rw [beq_eq_false_iff_ne]; omega
                clear h0
                generalize (⟨u.toArray⟩ : ByteArray) = U at *
                go_wp2_with fail
                refine (K19.out _).mono ?_
                rintro e w8 ⟨b8, v8, rfl, r8⟩
                obtain ⟨ad8, c8, rfl, _⟩ := id r8
                have B9 : Hid (Below w.heap.size w (w8.alloc (.cells #[.int .u8 (q.kind : Int), .int .u8 (q.level : Int), .int .u32 (q.id : Int), .int .u64 (q.lsn : Int), .int .u32 (q.next : Int), .slice ad8 q.rows.length c8] 26))) := Lib.hid ((HB.out.trans (b8.mono HB.out.size)).alloc (HB.out.trans (b8.mono HB.out.size)).size _)
                clear b8 r8 K19 HB
                unfold pgV
                go_wp2_with fail
                refine (alive_any _).mono ?_
                rintro e w9 ⟨rfl, b9⟩
                have E := Lib.hid (B9.out.trans (b9.mono B9.out.size))
                clear b9 B9
                go_wp2_with fail
                go_ret
                exact ⟨rfl, E.out⟩
        · obtain ⟨a0, a1, a2, a3, a4, a5⟩ := T7.out.a.six
          obtain ⟨d0, d1, d2, d3, d4, d5⟩ := T7.out.b.six
          have T8 := Lib.hid T7.out
          clear T7 BZ hways
          go_wp2_with fail
          refine (K17.out _ T8.out).mono ?_
          rintro e w8 ⟨rfl, b8⟩
          have BZ := Lib.hid (T8.out.a.below.trans (b8.mono T8.out.a.below.size))
          clear b8 T8 K17 a0 a1 a2 a3 a4 a5 d0 d1 d2 d3 d4 d5
          obtain ⟨cap, wc, hcv, hh⟩ := bytes_in S w8
          have H3 := Lib.hid hh
          clear hh
          go_wp2_with fail
          rw [HK.out]
          clear hcv z1
          go_loopw [17] (fun x wr => ∃ (i : Nat) (u : List UInt8), i ≤ 32 ∧ x = .int .i64 i ∧ TurnedTo S.data.toList K T i u ∧ HoldU w8.heap.size u w8 wr) (fun x _ => 32 - (intOf x).toNat)
          case atStart => exact ⟨0, S.data.toList, by omega, by go_num, TurnedTo.start _ _ _, H3.out⟩
          case round =>
            obtain ⟨i, u, hi, rfl, ht, hh⟩ := hrel
            clear H3
            by_cases hlt : i < 32
            · have hul : u.length = S.size := by rw [ht.1]; exact size_len S
              obtain ⟨J, hJ⟩ : ∃ J, J = (K + i) / 8 := ⟨_, rfl⟩
              obtain ⟨R, hR⟩ : ∃ R, R = (K + i) % 8 := ⟨_, rfl⟩
              have hp : K + i = 8 * J + R := by omega
              have hR8 : R < 8 := by omega
              have hJl : J < u.length := by omega
              by_cases hb : T / 2 ^ i % 2 = 1
              · have hb2 : (((T : Int) / 2 ^ i).tmod 2 == 1) = true := by rw [test_bit, hb]; rfl
                have g1 := hh.1 J hJl
                have g2 := hh.2.1 J hJl
                have ht2 := Lib.hid (ht.one hb J R hp hR8 hJl)
                have hh2 := Lib.hid (hh.set J hJl (u[J] ^^^ UInt8.ofNat (2 ^ R)))
                have i1 : ((K : Int) + i) / 8 = (J : Int) := by omega
                have i2 : ((K : Int) + i) % 8 = (R : Int) := by omega
                have hJS : (J : Int) < (S.size : Int) := by omega
                obtain ⟨z, hz⟩ : ∃ z, z = u[J] ^^^ UInt8.ofNat (2 ^ R) := ⟨_, rfl⟩
                have hx : bits .xor .u8 (u[J].toNat : Int) (2 ^ R % 256) = (z.toNat : Int) := by
                  have e : ((2 : Int) ^ R % 256) = ((UInt8.ofNat (2 ^ R)).toNat : Int) := by simp
                  have hl2 := (UInt8.ofNat (2 ^ R)).toNat_lt
                  rw [hz, e, UInt8.toNat_xor, u8_xor_nat _ _ u[J].toNat_lt (by omega)]
                rw [← hz] at ht2 hh2
                clear hb ht hh hp hR hJ hz
                go_wp2_with fail
                go_roundw
                case rel => exact ⟨i + 1, _, by omega, by go_num, ht2.out, hh2.out⟩
                case measure => simp [intOf]; omega
              · have hb0 : T / 2 ^ i % 2 = 0 := by omega
                have hb2 : (((T : Int) / 2 ^ i).tmod 2 == 1) = false := by rw [test_bit, hb0]; rfl
                have ht2 := Lib.hid (ht.none hb0)
                have hh2 := Lib.hid hh
                clear hb ht hh hp hR hJ hb0
                go_wp2_with fail
                go_roundw
                case rel => exact ⟨i + 1, u, by omega, by go_num, ht2.out, hh2.out⟩
                case measure => simp [intOf]; omega
            · obtain rfl : i = 32 := by omega
              have e32 : T % 2 ^ 32 = T := Nat.mod_eq_of_lt (by omega)
              have hv := ht.2
              rw [e32] at hv
              have hul : u.length = S.size := by rw [ht.1]; exact size_len S
              have hout := hh.out (cap := cap)
              rw [hul] at hout
              have eU : (⟨u.toArray⟩ : ByteArray).size = u.length := by show u.toArray.size = _; simp
              obtain ⟨q, hq⟩ := turned_dec (k := K) (T := T) HP.out ht.1 (by have := Z0.out; omega) hT2 hv
              have K19 := Lib.hid (fun W => decode_any ⟨u.toArray⟩ W (by rw [eU, hul]; omega) hq)
              have HB := Lib.hid (BZ.out.trans (hh.2.2.mono BZ.out.size))
              clear hq eU ht hh hv e32 hul
              by_cases h0 : T = 0
              · rw [if_pos h0] at K19
                have t0 : ((T : Int) == 0) = true := by rw [h0]; rfl
                clear h0
                generalize (⟨u.toArray⟩ : ByteArray) = U at *
                go_wp2_with fail
                refine (K19.out _).mono ?_
                rintro e w8 ⟨b8, v8, rfl, r8⟩
                obtain ⟨ad8, c8, rfl, _⟩ := id r8
                have B9 : Hid (Below w.heap.size w (w8.alloc (.cells #[.int .u8 (q.kind : Int), .int .u8 (q.level : Int), .int .u32 (q.id : Int), .int .u64 (q.lsn : Int), .int .u32 (q.next : Int), .slice ad8 q.rows.length c8] 26))) := Lib.hid ((HB.out.trans (b8.mono HB.out.size)).alloc (HB.out.trans (b8.mono HB.out.size)).size _)
                clear b8 r8 K19 HB
                unfold pgV
                go_wp2_with fail
                refine (alive_any _).mono ?_
                rintro e w9 ⟨rfl, b9⟩
                have E := Lib.hid (B9.out.trans (b9.mono B9.out.size))
                clear b9 B9
                go_wp2_with fail
                go_ret
                exact ⟨rfl, E.out⟩
              · rw [if_neg h0] at K19
                have t0 : ((T : Int) == 0) = false := by
                  rw [beq_eq_false_iff_ne]; omega
                clear h0
                generalize (⟨u.toArray⟩ : ByteArray) = U at *
                go_wp2_with fail
                refine (K19.out _).mono ?_
                rintro e w8 ⟨b8, v8, rfl, r8⟩
                obtain ⟨ad8, c8, rfl, _⟩ := id r8
                have B9 : Hid (Below w.heap.size w (w8.alloc (.cells #[.int .u8 (q.kind : Int), .int .u8 (q.level : Int), .int .u32 (q.id : Int), .int .u64 (q.lsn : Int), .int .u32 (q.next : Int), .slice ad8 q.rows.length c8] 26))) := Lib.hid ((HB.out.trans (b8.mono HB.out.size)).alloc (HB.out.trans (b8.mono HB.out.size)).size _)
                clear b8 r8 K19 HB
                unfold pgV
                go_wp2_with fail
                refine (alive_any _).mono ?_
                rintro e w9 ⟨rfl, b9⟩
                have E := Lib.hid (B9.out.trans (b9.mono B9.out.size))
                clear b9 B9
                go_wp2_with fail
                go_ret
                exact ⟨rfl, E.out⟩
        · obtain ⟨a0, a1, a2, a3, a4, a5⟩ := T7.out.a.six
          obtain ⟨d0, d1, d2, d3, d4, d5⟩ := T7.out.b.six
          have T8 := Lib.hid T7.out
          clear T7 BZ hways
          go_wp2_with fail
          refine (K17.out _ T8.out).mono ?_
          rintro e w8 ⟨rfl, b8⟩
          have BZ := Lib.hid (T8.out.a.below.trans (b8.mono T8.out.a.below.size))
          clear b8 T8 K17 a0 a1 a2 a3 a4 a5 d0 d1 d2 d3 d4 d5
          obtain ⟨cap, wc, hcv, hh⟩ := bytes_in S w8
          have H3 := Lib.hid hh
          clear hh
          go_wp2_with fail
          rw [HK.out]
          clear hcv z1
          go_loopw [17] (fun x wr => ∃ (i : Nat) (u : List UInt8), i ≤ 32 ∧ x = .int .i64 i ∧ TurnedTo S.data.toList K T i u ∧ HoldU w8.heap.size u w8 wr) (fun x _ => 32 - (intOf x).toNat)
          case atStart => exact ⟨0, S.data.toList, by omega, by go_num, TurnedTo.start _ _ _, H3.out⟩
          case round =>
            obtain ⟨i, u, hi, rfl, ht, hh⟩ := hrel
            clear H3
            by_cases hlt : i < 32
            · have hul : u.length = S.size := by rw [ht.1]; exact size_len S
              obtain ⟨J, hJ⟩ : ∃ J, J = (K + i) / 8 := ⟨_, rfl⟩
              obtain ⟨R, hR⟩ : ∃ R, R = (K + i) % 8 := ⟨_, rfl⟩
              have hp : K + i = 8 * J + R := by omega
              have hR8 : R < 8 := by omega
              have hJl : J < u.length := by omega
              by_cases hb : T / 2 ^ i % 2 = 1
              · have hb2 : (((T : Int) / 2 ^ i).tmod 2 == 1) = true := by rw [test_bit, hb]; rfl
                have g1 := hh.1 J hJl
                have g2 := hh.2.1 J hJl
                have ht2 := Lib.hid (ht.one hb J R hp hR8 hJl)
                have hh2 := Lib.hid (hh.set J hJl (u[J] ^^^ UInt8.ofNat (2 ^ R)))
                have i1 : ((K : Int) + i) / 8 = (J : Int) := by omega
                have i2 : ((K : Int) + i) % 8 = (R : Int) := by omega
                have hJS : (J : Int) < (S.size : Int) := by omega
                obtain ⟨z, hz⟩ : ∃ z, z = u[J] ^^^ UInt8.ofNat (2 ^ R) := ⟨_, rfl⟩
                have hx : bits .xor .u8 (u[J].toNat : Int) (2 ^ R % 256) = (z.toNat : Int) := by
                  have e : ((2 : Int) ^ R % 256) = ((UInt8.ofNat (2 ^ R)).toNat : Int) := by simp
                  have hl2 := (UInt8.ofNat (2 ^ R)).toNat_lt
                  rw [hz, e, UInt8.toNat_xor, u8_xor_nat _ _ u[J].toNat_lt (by omega)]
                rw [← hz] at ht2 hh2
                clear hb ht hh hp hR hJ hz
                go_wp2_with fail
                go_roundw
                case rel => exact ⟨i + 1, _, by omega, by go_num, ht2.out, hh2.out⟩
                case measure => simp [intOf]; omega
              · have hb0 : T / 2 ^ i % 2 = 0 := by omega
                have hb2 : (((T : Int) / 2 ^ i).tmod 2 == 1) = false := by rw [test_bit, hb0]; rfl
                have ht2 := Lib.hid (ht.none hb0)
                have hh2 := Lib.hid hh
                clear hb ht hh hp hR hJ hb0
                go_wp2_with fail
                go_roundw
                case rel => exact ⟨i + 1, u, by omega, by go_num, ht2.out, hh2.out⟩
                case measure => simp [intOf]; omega
            · obtain rfl : i = 32 := by omega
              have e32 : T % 2 ^ 32 = T := Nat.mod_eq_of_lt (by omega)
              have hv := ht.2
              rw [e32] at hv
              have hul : u.length = S.size := by rw [ht.1]; exact size_len S
              have hout := hh.out (cap := cap)
              rw [hul] at hout
              have eU : (⟨u.toArray⟩ : ByteArray).size = u.length := by show u.toArray.size = _; simp
              obtain ⟨q, hq⟩ := turned_dec (k := K) (T := T) HP.out ht.1 (by have := Z0.out; omega) hT2 hv
              have K19 := Lib.hid (fun W => decode_any ⟨u.toArray⟩ W (by rw [eU, hul]; omega) hq)
              have HB := Lib.hid (BZ.out.trans (hh.2.2.mono BZ.out.size))
              clear hq eU ht hh hv e32 hul
              by_cases h0 : T = 0
              · rw [if_pos h0] at K19
                have t0 : ((T : Int) == 0) = true := by rw [h0]; rfl
                clear h0
                generalize (⟨u.toArray⟩ : ByteArray) = U at *
                go_wp2_with fail
                refine (K19.out _).mono ?_
                rintro e w8 ⟨b8, v8, rfl, r8⟩
                obtain ⟨ad8, c8, rfl, _⟩ := id r8
                have B9 : Hid (Below w.heap.size w (w8.alloc (.cells #[.int .u8 (q.kind : Int), .int .u8 (q.level : Int), .int .u32 (q.id : Int), .int .u64 (q.lsn : Int), .int .u32 (q.next : Int), .slice ad8 q.rows.length c8] 26))) := Lib.hid ((HB.out.trans (b8.mono HB.out.size)).alloc (HB.out.trans (b8.mono HB.out.size)).size _)
                clear b8 r8 K19 HB
                unfold pgV
                go_wp2_with fail
                refine (alive_any _).mono ?_
                rintro e w9 ⟨rfl, b9⟩
                have E := Lib.hid (B9.out.trans (b9.mono B9.out.size))
                clear b9 B9
                go_wp2_with fail
                go_ret
                exact ⟨rfl, E.out⟩
              · rw [if_neg h0] at K19
                have t0 : ((T : Int) == 0) = false := by
                  rw [beq_eq_false_iff_ne]; omega
                clear h0
                generalize (⟨u.toArray⟩ : ByteArray) = U at *
                go_wp2_with fail
                refine (K19.out _).mono ?_
                rintro e w8 ⟨b8, v8, rfl, r8⟩
                obtain ⟨ad8, c8, rfl, _⟩ := id r8
                have B9 : Hid (Below w.heap.size w (w8.alloc (.cells #[.int .u8 (q.kind : Int), .int .u8 (q.level : Int), .int .u32 (q.id : Int), .int .u64 (q.lsn : Int), .int .u32 (q.next : Int), .slice ad8 q.rows.length c8] 26))) := Lib.hid ((HB.out.trans (b8.mono HB.out.size)).alloc (HB.out.trans (b8.mono HB.out.size)).size _)
                clear b8 r8 K19 HB
                unfold pgV
                go_wp2_with fail
                refine (alive_any _).mono ?_
                rintro e w9 ⟨rfl, b9⟩
                have E := Lib.hid (B9.out.trans (b9.mono B9.out.size))
                clear b9 B9
                go_wp2_with fail
                go_ret
                exact ⟨rfl, E.out⟩

end Go.Proofs.Ytmandeohbiagfaa.Page

namespace Go.Proofs.Ytmandeohbiagfaa.pageBack
open Go.ChangeShapes Go.WideShapes Go.ChangeAt Go.RowKit
open Go.ChangeMaps (open_string shut_string)

theorem own : ownKnob Try.prog.godebug = none := by kernel_rfl
theorem laidOut : laidOutB Try.prog = true := by kernel_rfl

set_option maxRecDepth 100000 in
theorem lifted (os : Os) (started : os.Started) (H : Type) (enc : TypeId × Value → H) :
    ReturnsInHanded {} Try.checked os 5 .any (Rows.pageBackSpec.pre6 enc Try.prog Try.f5 Rows.pageBackRow.domain false) (Rows.pageBackSpec.post enc Try.prog Try.f5 false true false false) := by
  refine returnsInHanded_of_change_sized (C := Try.checked) own started (by kernel_rfl) Try.func5
    (ChangeSpec.witness6 (enc := enc) (C := Try.checked) false ⟨#[], #[.agg #[.int .u8 0, .int .u8 0, .int .u32 0, .int .u64 0, .int .u32 0, .slice none 0 0], .agg #[.int .u8 0, .int .u8 0, .int .u32 0, .int .u64 0, .int .u32 0, .slice none 0 0], .int .u16 0, .int .u32 0], []⟩ 8 (by kernel_rfl) (by kernel_rfl) (by kernel_rfl) (by kernel_rfl)) ?_
  intro W base args ds gs before hval0 hW hcnd hsz0 _
  have hsz : (DataW.weightsEach Try.prog (Try.f5.params.toList ++ Rows.pageBackSpec.plain.varTypes Try.prog) (ds ++ gs)).all (· ≤ reachBytes) = true := hsz0
  have hval : ∀ (j : Nat) t v, Try.f5.params[j]? = some t → args[j]? = some v → Value.okWide Try.prog W .any base t v := hval0
  have hW' := hW
  obtain ⟨p, q, hA0, hV, rfl, hfz, hnd⟩ := hW
  have hA : DataW.TrodAll enc Try.prog W 0 (fun _ => true) true Try.f5.params.toList args.toList ds p := hA0
  have hlt := DataW.TrodAll.lt hA0
  rw [Try.params5] at hA hval hsz
  obtain ⟨v0, vs0, d0, ds0, p0, q0, hargs, rfl, rfl, h0, r0⟩ := trodAll_cons hA
  obtain ⟨v1, vs1, d1, ds1, p1, q1, rfl, rfl, rfl, h1, r1⟩ := trodAll_cons r0
  obtain ⟨v2, vs2, d2, ds2, p2, q2, rfl, rfl, rfl, h2, r2⟩ := trodAll_cons r1
  obtain ⟨v3, vs3, d3, ds3, p3, q3, rfl, rfl, rfl, h3, r3⟩ := trodAll_cons r2
  obtain ⟨rfl, rfl, rfl⟩ := trodAll_nil r3
  obtain rfl : args = #[v0, v1, v2, v3] := by cases args; simp_all
  obtain ⟨rfl, rfl⟩ := trodVars_none hV
  have z0 : ∀ n ∈ d0.weights Try.prog 26, n ≤ 140737488351232 := fun n hn => by
    have := List.all_eq_true.1 hsz _ (DataW.weights_mem_each (j := 0) rfl rfl n hn)
    exact of_decide_eq_true this
  obtain ⟨P0, u0, rfl, hp0⟩ := Page.page_of (hval 0 26 v0 rfl rfl) h0 z0
  have z1 : ∀ n ∈ d1.weights Try.prog 26, n ≤ 140737488351232 := fun n hn => by
    have := List.all_eq_true.1 hsz _ (DataW.weights_mem_each (j := 1) rfl rfl n hn)
    exact of_decide_eq_true this
  obtain ⟨P1, u1, rfl, hp1⟩ := Page.page_of (hval 1 26 v1 rfl rfl) h1 z1
  obtain ⟨a2, rfl, rfl, rfl, w2⟩ := open_int Try.underlying44 (hval 2 44 v2 rfl rfl) h2
  obtain ⟨a3, rfl, rfl, rfl, w3⟩ := open_int Try.underlying22 (hval 3 22 v3 rfl rfl) h3
  clear hA0 hval0
  simp only [List.append_nil] at hW' hlt
  refine (Page.pback_walk hp0 hp1 (bounds_u16 w2) (bounds_u32 w3)).mono fun e W' ⟨he, hg⟩ => ?_
  subst he
  exact ⟨_, rfl, _, _, _, [], _, [], hW', (trodAll_cons_mk (shut_bool Try.underlying4 _) trodAll_mk0), (trodAll_cons_mk (Below.trod laidOut (by kernel_rfl) (of_decide_eq_true (by kernel_rfl)) h0 hg (fun x hx => hlt x (by simp [hx]))) (trodAll_cons_mk (Below.trod laidOut (by kernel_rfl) (of_decide_eq_true (by kernel_rfl)) h1 hg (fun x hx => hlt x (by simp [hx]))) (trodAll_cons_mk (shut_int Try.underlying44 w2) (trodAll_cons_mk (shut_int Try.underlying22 w3) trodAll_mk0)))), rfl, hg.frame _, fun h => by cases h⟩

theorem over : Rows.pageBackRow.holds Try.pinned (OpenSpec.ofChange Rows.pageBackSpec) :=
  OpenClaim.holds_of_wide 5 Try.f5 rfl rfl rfl rfl rfl rfl rfl ⟨rfl, rfl, rfl, rfl, rfl⟩ rfl rfl rfl rfl rfl (by kernel_rfl) Try.func5 (by kernel_rfl)
    (of_decide_eq_true (by kernel_rfl)) (by unfold Func.isWrapper; first | (rw [if_pos (by decide +kernel)]; kernel_rfl) | (rw [if_neg (by decide +kernel)]; exact ⟨rfl, rfl⟩))
    (fun os started H enc _ => lifted os started H enc)

theorem proved : Rows.PageBackSaid :=
  over
end Go.Proofs.Ytmandeohbiagfaa.pageBack
