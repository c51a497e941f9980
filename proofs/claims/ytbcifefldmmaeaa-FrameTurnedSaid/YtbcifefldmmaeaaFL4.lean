/- Walks: a frame in which bits were turned. -/
import Derived.Test.YtbcifefldmmaeaaFL0
namespace Go.Proofs.Ytbcifefldmmaeaa.Frame
open Go.RowKit
open Go.Proofs.Ytbcifefldmmaeaa.Sum (val)
open Go.Proofs.Ytbcifefldmmaeaa.Bits (TurnedTo)
attribute [local go_sem ↓] Go.wp_at_zero Go.wp_at_succ

theorem and_bit (T i : Nat) (hT : T < 4294967296) : bits .and .u32 ((T : Int) / 2 ^ i) 1 = ((T / 2 ^ i % 2 : Nat) : Int) := by
  have e : ((T : Int) / 2 ^ i) = ((T / 2 ^ i : Nat) : Int) := by simp
  have h1 : T / 2 ^ i ≤ T := Nat.div_le_self _ _
  rw [e, ← Nat.and_one_is_mod]
  exact u32_and_nat _ 1 (by omega) (by omega)
theorem and_yes {T i : Nat} (h : T / 2 ^ i % 2 = 1) (hT : T < 4294967296) : (bits .and .u32 ((T : Int) / 2 ^ i) 1 == 1) = true := by rw [and_bit T i hT, h]; rfl
theorem and_no {T i : Nat} (h : T / 2 ^ i % 2 = 0) (hT : T < 4294967296) : (bits .and .u32 ((T : Int) / 2 ^ i) 1 == 1) = false := by rw [and_bit T i hT, h]; rfl
theorem low_some {T i : Nat} (h : T / 2 ^ i % 2 = 1) : T % 2 ^ (i + 1) ≠ 0 := by
  intro e
  have h1 : T % 2 ^ (i + 1) / 2 ^ i = 0 := by rw [e]; exact Nat.zero_div _
  rw [Nat.pow_succ, Nat.mod_mul_right_div_self, h] at h1
  cases h1
set_option maxRecDepth 100000 in
set_option maxHeartbeats 4000000 in
theorem turned_walk {w : World} {lsn : Nat} {s : ByteArray} {T : Nat} {at' hd : Int} (hl : lsn < 18446744073709551616) (hs : s.size ≤ 140737488351232) (hT : T < 4294967296) (ha : 0 ≤ at' ∧ at' ≤ 65535) (hh : 0 ≤ hd ∧ hd ≤ 65535) :
    Calls Try.prog 6 #[.int .u64 (lsn : Int), .string s, .int .u32 (T : Int), .int .u16 at', .int .u16 hd] w fun e w' => e = .returned (.bool true) ∧ Below w.heap.size w w' := by
  by_cases hx : 1024 < s.size ∨ s.size = 0 ∨ lsn = 0
  · have hx : 1024 < s.size ∨ (¬ 1024 < s.size ∧ s = ⟨#[]⟩) ∨ (¬ 1024 < s.size ∧ 0 < s.size ∧ ((lsn : Int) == 0) = true) := by
      by_cases h1 : 1024 < s.size
      · exact .inl h1
      · by_cases h2 : s.size = 0
        · exact .inr (.inl ⟨h1, L_ext (List.eq_nil_of_length_eq_zero h2)⟩)
        · exact .inr (.inr ⟨h1, by omega, by rw [show lsn = 0 by omega]; rfl⟩)
    clear hl
    rcases hx with hx | ⟨p1, rfl⟩ | ⟨p1, p2, hx⟩
    · go_enter Try.func6, Try.ntmps6
      go_wp2_with fail
      refine (works_any _).mono ?_
      rintro e w2 ⟨rfl, k2⟩
      have B2 := Lib.hid k2
      clear k2
      go_wp2_with fail
      go_ret
      exact ⟨rfl, B2.out⟩
    · clear p1 hs
      go_enter Try.func6, Try.ntmps6
      go_wp2_with fail
      refine (works_any _).mono ?_
      rintro e w2 ⟨rfl, k2⟩
      have B2 := Lib.hid k2
      clear k2
      go_wp2_with fail
      go_ret
      exact ⟨rfl, B2.out⟩
    · have n1 := not_empty (s := s) p2
      have n2 : ¬ s.toList = [] := by rw [← List.isEmpty_iff, n1]; decide
      go_enter Try.func6, Try.ntmps6
      go_wp2_with fail
      refine (works_any _).mono ?_
      rintro e w2 ⟨rfl, k2⟩
      have B2 := Lib.hid k2
      clear k2
      go_wp2_with fail
      go_ret
      exact ⟨rfl, B2.out⟩
  obtain ⟨p1, p2, p3⟩ : ¬ 1024 < s.size ∧ 1 ≤ s.size ∧ 0 < lsn := by omega
  have n1 := not_empty (s := s) (by omega)
  have n2 : ¬ s.toList = [] := by rw [← List.isEmpty_iff, n1]; decide
  have q3 : ((lsn : Int) == 0) = false := by rw [beq_eq_false_iff_ne]; omega
  have hm : mayF lsn s = true := may_iff.2 ⟨p2, by omega, p3⟩
  have za := enc_size hm
  have KE := Lib.hid (fun W => fencode_any lsn s W hl hs)
  rw [show encE lsn s = 0 by unfold encE; rw [if_pos hm]] at KE
  have KD := Lib.hid (fun S W (hS : S.size ≤ 100000) => fdecode_any S lsn W hl (by omega))
  have DT := Lib.hid (fun u k m h1 h2 h3 h4 => dec_turned (u := u) (k := k) (m := m) hl hm h1 h2 h3 h4)
  have DB := Lib.hid (fun p v h1 h2 h3 h4 => dec_bit (p := p) (v := v) hl hm h1 h2 h3 h4)
  clear hx hl hm p3
  generalize encF lsn s = A at *
  have f1 : ((A.size : Int) != (s.size : Int) + 14) = false := by rw [bne_eq_false_iff_eq]; omega
  have ZA := Lib.hid za
  have hA : A.size ≤ 1038 := by omega
  obtain ⟨av, rfl⟩ := Int.eq_ofNat_of_zero_le ha.1
  obtain ⟨hv, rfl⟩ := Int.eq_ofNat_of_zero_le hh.1
  have hav : av ≤ 65535 := by omega
  have hhv : hv ≤ 65535 := by omega
  obtain ⟨K, hK⟩ : ∃ K, K = av % (8 * s.size) := ⟨_, rfl⟩
  have hK2 : K < 8 * s.size := by rw [hK]; exact Nat.mod_lt _ (by omega)
  have z0 : IntKind.i64.wrap (av : Int) = av := IntWalk.i64_in _ (by omega)
  have z1 : (av : Int).tmod (8 * (s.size : Int)) = K := by rw [hK, Int.tmod_eq_emod_of_nonneg (by omega)]; rfl
  have z2 : ((8 * (s.size : Int)) == 0) = false := by rw [beq_eq_false_iff_ne]; omega
  clear za hK ha hh
  go_enter Try.func6, Try.ntmps6
  go_wp2_with fail
  refine (KE.out _).mono ?_
  rintro e w1 ⟨rfl, b1⟩
  have B1 := Lib.hid b1
  obtain ⟨cap, wb, hcv, hh⟩ := bytes_in A w1
  have H3 := Lib.hid hh
  have eE := Lib.hid (show A.data.toList.length = A.size from rfl)
  clear hh b1 KE
  go_wp2_with fail
  clear hcv z0 z1 z2 q3 n1 n2 f1
  go_loopw [15, 16] (fun x y wr => ∃ (i : Nat) (u : List UInt8), i ≤ 32 ∧ K + i ≤ 8 * s.size ∧ y = .int .i64 i ∧ x = .bool (decide (T % 2 ^ i ≠ 0)) ∧ TurnedTo (L A) (8 * 14 + K) T i u ∧ HoldU w1.heap.size u w1 wr) (fun _ x _ => 32 - (intOf x).toNat)
  case atStart => exact ⟨0, L A, by omega, by omega, by go_num, by rw [Nat.pow_zero, Nat.mod_one]; rfl, TurnedTo.start _ _ _, H3.out⟩
  case round =>
    obtain ⟨i, u, hi, hki, rfl, rfl, ht, hh⟩ := hrel
    clear H3
    have hul : u.length = A.size := ht.1
    by_cases hlt : i < 32 ∧ K + i < 8 * s.size
    · obtain ⟨h1, h2⟩ := hlt
      obtain ⟨J, hJ⟩ : ∃ J, J = 14 + (K + i) / 8 := ⟨_, rfl⟩
      obtain ⟨R, hR⟩ : ∃ R, R = (K + i) % 8 := ⟨_, rfl⟩
      have hp : 8 * 14 + K + i = 8 * J + R := by omega
      have hR8 : R < 8 := by omega
      have hJl : J < u.length := by have := ZA.out; omega
      by_cases hb : T / 2 ^ i % 2 = 1
      · have g1 := hh.1 J hJl
        have g2 := hh.2.1 J hJl
        have ht2 := Lib.hid (ht.one hb J R hp hR8 hJl)
        have hh2 := Lib.hid (hh.set J hJl (u[J] ^^^ UInt8.ofNat (2 ^ R)))
        have i1 : 14 + ((K : Int) + i) / 8 = (J : Int) := by omega
        have i2 : ((K : Int) + i) % 8 = (R : Int) := by omega
        have hJS : (J : Int) < (A.size : Int) := by omega
        obtain ⟨z, hz⟩ : ∃ z, z = u[J] ^^^ UInt8.ofNat (2 ^ R) := ⟨_, rfl⟩
        have hx : bits .xor .u8 (u[J].toNat : Int) (2 ^ R % 256) = (z.toNat : Int) := by
          have e : ((2 : Int) ^ R % 256) = ((UInt8.ofNat (2 ^ R)).toNat : Int) := by simp
          have hl2 := (UInt8.ofNat (2 ^ R)).toNat_lt
          rw [hz, e, UInt8.toNat_xor, u8_xor_nat _ _ u[J].toNat_lt (by omega)]
        rw [← hz] at ht2 hh2
        have hb2 := and_yes hb hT
        have SM := Lib.hid (low_some (T := T) hb)
        clear hb ht hh hp hR hJ hz
        go_wp2_with fail
        go_roundw
        case rel => exact ⟨i + 1, _, by omega, by omega, by go_num, by rw [decide_eq_true SM.out], ht2.out, hh2.out⟩
        case measure => simp [intOf]; omega
      · have hb0 : T / 2 ^ i % 2 = 0 := by omega
        have hb2 := and_no hb0 hT
        have ht2 := Lib.hid (ht.none hb0)
        have hh2 := Lib.hid hh
        have SM := Lib.hid (Bits.low_none T i hb0)
        clear hb ht hh hp hR hJ hb0
        go_wp2_with fail
        go_roundw
        case rel => exact ⟨i + 1, u, by omega, by omega, by go_num, by rw [SM.out]; try simp, ht2.out, hh2.out⟩
        case measure => simp [intOf]; omega
    · have hw : (i < 32 ∧ decide ((K : Int) + (i : Int) < 8 * (s.size : Int)) = false) ∨ ¬ i < 32 := by
        by_cases h : i < 32
        · exact .inl ⟨h, by rw [decide_eq_false_iff_not]; omega⟩
        · exact .inr h
      have hM : T % 2 ^ i < 4294967296 := Nat.lt_of_le_of_lt (Nat.mod_le _ _) hT
      have hd := DT.out u K (T % 2 ^ i) ht.1 (by omega) hM ht.2
      have CV := hh.out (cap := cap)
      rw [hul] at CV
      have zu : (ByteArray.mk u.toArray).size ≤ 100000 := by have : (ByteArray.mk u.toArray).size = u.length := rfl; omega
      have K1 := Lib.hid (fun W => KD.out ⟨u.toArray⟩ W zu)
      rw [hd] at K1
      have B2 := Lib.hid (B1.out.trans (hh.2.2.mono B1.out.size))
      obtain ⟨Z, hZ⟩ : ∃ Z, Z = if T % 2 ^ i = 0 then 0 else 100 := ⟨_, rfl⟩
      rw [← hZ] at K1
      have FL : Hid ((decide (T % 2 ^ i ≠ 0) = false ∧ Z = 0) ∨ (decide (T % 2 ^ i ≠ 0) = true ∧ Z = 100)) := by
        refine Lib.hid ?_
        by_cases e : T % 2 ^ i = 0
        · exact .inl ⟨decide_eq_false (fun h => h e), by rw [hZ, if_pos e]⟩
        · exact .inr ⟨decide_eq_true e, by rw [hZ, if_neg e]⟩
      obtain ⟨j, hj⟩ : ∃ j, j = hv % 96 := ⟨_, rfl⟩
      obtain ⟨p, hp⟩ : ∃ p, p = 2 + j / 8 := ⟨_, rfl⟩
      obtain ⟨R, hR⟩ : ∃ R, R = j % 8 := ⟨_, rfl⟩
      have hj96 : j < 96 := by omega
      have hR8 : R < 8 := by omega
      have hp14 : p < 14 := by omega
      have hpl : p < (L A).length := by have : (L A).length = A.size := rfl; have := ZA.out; omega
      have hb := DB.out p ((L A)[p] ^^^ UInt8.ofNat (2 ^ R)) (by omega) hp14 hpl (xor_ne _ hR8)
      have K2 := Lib.hid (fun W => KD.out ⟨((L A).set p ((L A)[p] ^^^ UInt8.ofNat (2 ^ R))).toArray⟩ W (by
        have : (ByteArray.mk ((L A).set p ((L A)[p] ^^^ UInt8.ofNat (2 ^ R))).toArray).size = ((L A).set p ((L A)[p] ^^^ UInt8.ofNat (2 ^ R))).length := rfl
        rw [List.length_set] at this
        have h2 : (L A).length = A.size := rfl
        omega))
      rw [hb] at K2
      obtain ⟨Y, hY⟩ : ∃ Y, Y = if p < 10 then 7 else 100 := ⟨_, rfl⟩
      rw [← hY] at K2
      have FJ : Hid ((j < 64 ∧ Y = 7) ∨ (¬ j < 64 ∧ Y = 100)) := by
        refine Lib.hid ?_
        by_cases e : j < 64
        · exact .inl ⟨e, by rw [hY, if_pos (by omega)]⟩
        · exact .inr ⟨e, by rw [hY, if_neg (by omega)]⟩
      have j0 : IntKind.i64.wrap (hv : Int) = hv := IntWalk.i64_in _ (by omega)
      have j1 : (hv : Int) % 96 = (j : Int) := by omega
      have i1 : 2 + (j : Int) / 8 = (p : Int) := by omega
      have i2 : (j : Int) % 8 = (R : Int) := by omega
      have hpS : (p : Int) < (A.size : Int) := by have : (L A).length = A.size := rfl; omega
      clear hd hb hh ht hZ hY hM DT DB KD zu hj hp hR hul hki hlt
      generalize decide (T % 2 ^ i ≠ 0) = F at *
      generalize (⟨u.toArray⟩ : ByteArray) = U at *
      generalize decS U lsn = X1 at *
      generalize decU U lsn = X2 at *
      rcases hw with ⟨h1, h2⟩ | h1
      all_goals
        go_wp2_with fail
        refine (K1.out _).mono ?_
        rintro e w3 ⟨rfl, b3⟩
        have B3 := Lib.hid (B2.out.trans (b3.mono B2.out.size))
        obtain ⟨cap2, wc, hcv2, hh⟩ := bytes_in A w3
        have g1 : wc.cell? ⟨w3.heap.size, p, none⟩ = some (.int .u8 ((L A)[p].toNat : Int)) := hh.1 p hpl
        have g2 : wc.frozen? ⟨w3.heap.size, p, none⟩ = false := hh.2.1 p hpl
        have hh2 : Hid (HoldU w3.heap.size ((L A).set p ((L A)[p] ^^^ UInt8.ofNat (2 ^ R))) w3 (wc.setCell ⟨w3.heap.size, p, none⟩ (.int .u8 (((L A)[p] ^^^ UInt8.ofNat (2 ^ R)).toNat : Int)))) := Lib.hid (hh.set p hpl ((L A)[p] ^^^ UInt8.ofNat (2 ^ R)))
        generalize (L A)[p] = x0 at *
        obtain ⟨z, hz⟩ : ∃ z, z = x0 ^^^ UInt8.ofNat (2 ^ R) := ⟨_, rfl⟩
        have hx : bits .xor .u8 (x0.toNat : Int) (2 ^ R % 256) = (z.toNat : Int) := by
          have e : ((2 : Int) ^ R % 256) = ((UInt8.ofNat (2 ^ R)).toNat : Int) := by simp
          have hl2 := (UInt8.ofNat (2 ^ R)).toNat_lt
          rw [hz, e, UInt8.toNat_xor, u8_xor_nat _ _ x0.toNat_lt (by omega)]
        rw [← hz] at hh2 K2
        have CV2 := hh2.out.out (cap := cap2)
        have zl : ((L A).set p z).length = A.size := by rw [List.length_set]; rfl
        rw [zl] at CV2
        have B4 := Lib.hid (B3.out.trans (hh2.out.2.2.mono B3.out.size))
        clear b3 hh hz zl B2 K1 CV
        generalize (⟨((L A).set p z).toArray⟩ : ByteArray) = V at *
        generalize decS V lsn = Y1 at *
        generalize decU V lsn = Y2 at *
        go_wp2_with fail
        refine (K2.out _).mono ?_
        rintro e w4 ⟨rfl, b4⟩
        have B5 := Lib.hid (B4.out.trans (b4.mono B4.out.size))
        clear b4 B4 B3 K2 hh2 CV2 hcv2 g1 g2 hx i1 i2
        rcases FL.out with ⟨rfl, rfl⟩ | ⟨rfl, rfl⟩ <;> rcases FJ.out with ⟨j2, rfl⟩ | ⟨j2, rfl⟩
        all_goals
          clear FL FJ
          go_wp2_with fail
          refine (works_any _).mono ?_
          rintro e w5 ⟨rfl, b5⟩
          have B6 := Lib.hid (B5.out.trans (b5.mono B5.out.size))
          clear b5 B5
          go_wp2_with fail
          go_ret
          exact ⟨rfl, B6.out⟩

theorem turned_law {w : World} {lsn T at' hd : Int} {s : ByteArray} (hl : 0 ≤ lsn ∧ lsn ≤ 18446744073709551615) (hs : s.size ≤ 140737488351232) (hT : 0 ≤ T ∧ T ≤ 4294967295) (ha : 0 ≤ at' ∧ at' ≤ 65535) (hh : 0 ≤ hd ∧ hd ≤ 65535) :
    Calls Try.prog 6 #[.int .u64 lsn, .string s, .int .u32 T, .int .u16 at', .int .u16 hd] w fun e w' => e = .returned (.bool true) ∧ Below w.heap.size w w' := by
  obtain ⟨x, rfl⟩ : ∃ x : Nat, lsn = (x : Int) := ⟨lsn.toNat, by omega⟩
  obtain ⟨y, rfl⟩ : ∃ y : Nat, T = (y : Int) := ⟨T.toNat, by omega⟩
  exact turned_walk (by omega) hs (by omega) ha hh

end Go.Proofs.Ytbcifefldmmaeaa.Frame
