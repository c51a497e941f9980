/- The walk of WordBack. -/
import Derived.Test.YtgcobckjjnoceaaW7
import Derived.Test.YtgcobckjjnoceaaBackM
import Derived.StillTailTactics
namespace Go.Proofs.Ytgcobckjjnoceaa
open Go.RowKit

theorem cut_low (s : ByteArray) (i : Nat) (h : i ≤ s.size) (W : World) : (Instr.sliceAt 9 (.string s) none (some (.int .i64 (i : Int))) none).run Try.prog W = .ok (.string (s.extract 0 i)) W := by
  rw [run_sliceAt_string (P := Try.prog) W 9 _ _ _ _ Try.underlying9, run_slice_string_h (P := Try.prog) W 9 s Try.underlying9 .i64 (i : Int) (by omega) (by omega), Int.toNat_natCast]
theorem cut_high (s : ByteArray) (i q : Nat) (h : i + (1 + q) ≤ s.size) (W : World) : (Instr.sliceAt 9 (.string s) (some (.int .i64 ((i : Int) + (1 + (q : Int))))) none none).run Try.prog W = .ok (.string (s.extract (i + (1 + q)) s.size)) W := by
  have e : ((i : Int) + (1 + (q : Int))).toNat = i + (1 + q) := by omega
  rw [run_sliceAt_string (P := Try.prog) W 9 _ _ _ _ Try.underlying9, run_slice_string_l (P := Try.prog) W 9 s Try.underlying9 .i64 _ (by omega) (by omega), e]

/-- all that the law asks of the program, for one number x that has room in q + 1 bytes: P its bytes, T the text in which they stand at i -/
theorem back_facts (x : Int) (hx : U64 x) (q : Nat) (hq : q ≤ 7) (hr : x / 2 ^ (8 * (q + 1)) = 0) (s : ByteArray) (hs : s.size ≤ 281474976710656) :
    ∃ P : ByteArray, (P.size : Int) = 1 + q ∧ (∀ w, Calls Try.prog 8 #[.int .u64 x, .int .i64 (1 + (q : Int))] w fun e w' => e = .returned (.tuple #[.string P, .bool true]) ∧ Below w.heap.size w w') ∧
      (s.size < q + 1 → ∀ w, Calls Try.prog 14 #[.string s, .int .i64 0, .string P] w fun e w' => e = .returned (.tuple #[.string ⟨#[]⟩, .bool false]) ∧ Below w.heap.size w w') ∧
      ∀ i : Nat, i + (q + 1) ≤ s.size → ∃ T : ByteArray, T.size = s.size ∧ (T.extract 0 i).toList = (s.extract 0 i).toList ∧ (T.extract (i + (1 + q)) s.size).toList = (s.extract (i + (1 + q)) s.size).toList ∧
        (∀ w, Calls Try.prog 14 #[.string s, .int .i64 i, .string P] w fun e w' => e = .returned (.tuple #[.string T, .bool true]) ∧ Below w.heap.size w w') ∧
        (∀ w, Calls Try.prog 10 #[.string T, .int .i64 i, .int .i64 (1 + (q : Int))] w fun e w' => e = .returned (.tuple #[.int .u64 x, .bool true]) ∧ w = w') ∧
        (∀ w, Calls Try.prog 12 #[.string T, .int .i64 i, .int .i64 (1 + (q : Int))] w fun e w' => e = .returned (.tuple #[.string P, .bool true]) ∧ Below w.heap.size w w') := by
  have ek : (1 + (q : Int)) = ((q + 1 : Nat) : Int) := by omega
  have hb := putB_of (x := x) (m := q + 1) (by omega) (by omega) hr
  have hp := putS_of hb
  have hsz := bytesOf_size (q + 1) x
  have hnum : num (bytesOf (q + 1) x).data.toList = x.toNat := by
    unfold bytesOf
    simp only [List.toList_toArray]
    exact num_be _ _ (room_nat hx.1 hr)
  refine ⟨bytesOf (q + 1) x, by rw [hsz]; omega, ?_, ?_, ?_⟩
  · intro w
    have h := put_any x ((q + 1 : Nat) : Int) w hx
    rw [hb, hp, ← ek] at h
    exact h
  · intro hlt w
    have h := set_any s 0 (bytesOf (q + 1) x) w hs (by omega)
    have hh : hasB s.size 0 (bytesOf (q + 1) x).size = false := by rw [hsz]; unfold hasB; simp; omega
    have e : setS s 0 (bytesOf (q + 1) x) = ⟨#[]⟩ := by unfold setS; rw [hh]; simp
    rw [hh, e] at h
    exact h
  · intro i hi
    have hi' : i + (bytesOf (q + 1) x).size ≤ s.size := by rw [hsz]; exact hi
    have ts := setY_size s i (bytesOf (q + 1) x)
    refine ⟨setY s i (bytesOf (q + 1) x), ts, ?_, ?_, ?_, ?_, ?_⟩
    · rw [setY_low _ _ _ hi']
    · have h := setY_high _ _ _ hi'
      rw [hsz] at h
      rw [Nat.add_comm 1 q, h]
    · intro w
      have h := set_any s i (bytesOf (q + 1) x) w hs (by omega)
      have hh : hasB s.size i (bytesOf (q + 1) x).size = true := has_yes _ _ _ hi'
      have e : setS s i (bytesOf (q + 1) x) = setY s i (bytesOf (q + 1) x) := by unfold setS; rw [hh]; simp
      rw [hh, e] at h
      exact h
    · intro w
      have h := get_yes (setY s i (bytesOf (q + 1) x)) i (q + 1) w (by rw [ts]; exact hs) (by omega) (by omega) (by rw [ts]; exact hi)
      have e := setY_num s i (bytesOf (q + 1) x) hi'
      rw [hsz] at e
      have ex : ((x.toNat : Nat) : Int) = x := Int.toNat_of_nonneg hx.1
      rw [e, hnum, ex, ← ek] at h
      exact h
    · intro w
      have h := cut_yes (setY s i (bytesOf (q + 1) x)) i (q + 1) w (by rw [ts]; exact hs) (by rw [ts]; exact hi)
      have e := setY_mid s i (bytesOf (q + 1) x) hi'
      rw [hsz] at e
      rw [e, ← ek] at h
      exact h

set_option maxHeartbeats 1000000 in
theorem back_walk (n size : Int) (s : ByteArray) (a : Int) (w : World) (hn : U64 n) (hs : 0 ≤ size ∧ size ≤ 255) (hl : s.size ≤ maxLen) (ha : 0 ≤ a ∧ a ≤ 65535) :
    Calls Try.prog 5 #[.int .u64 n, .int .u8 size, .string s, .int .u16 a] w fun e w' => e = .returned (.bool true) ∧ Below w.heap.size w w' := by
  unfold maxLen at hl
  by_cases h : s.size > 4096
  · go_enter Try.func5, Try.ntmps5
    go_wp2_with fail
    refine (alive_any _).mono ?_
    rintro e w4 ⟨rfl, b4⟩
    go_wp2_with fail
    go_ret
    exact ⟨rfl, b4⟩
  have hs2 : s.size ≤ 281474976710656 := by omega
  obtain ⟨q, hq⟩ : ∃ q : Nat, size % 8 = q := ⟨(size % 8).toNat, by omega⟩
  have hq7 : q ≤ 7 := by omega
  by_cases hlt : s.size < q + 1
  · by_cases h8 : 1 + (q : Int) < 8
    · obtain ⟨m1, m2, m3⟩ := room_mod (m := q + 1) hn (by omega)
      obtain ⟨P, p1, p2, p3, p4⟩ := back_facts _ m2 q hq7 m3 s hs2
      have e1 : (8 * (1 + (q : Int))).toNat = 8 * (q + 1) := by omega
      have hM0 : 1 ≤ (2 : Int) ^ (8 * (q + 1)) := Int.pow_pos (by omega)
      obtain ⟨M, hM⟩ : ∃ M, M = (2 : Int) ^ (8 * (q + 1)) := ⟨_, rfl⟩
      have m4 := m1.trans hM.symm
      obtain ⟨x, hx⟩ : ∃ x, x = n.tmod M := ⟨_, rfl⟩
      rw [← hM, ← hx] at p2
      rw [← hM, ← hx] at p4
      rw [← hM] at hM0
      have hx2 := hx.symm
      have C1 := Lib.hid p2
      have C2 := Lib.hid (p3 hlt)
      clear m1 m2 m3 hM hx p2 p3 p4
      go_enter Try.func5, Try.ntmps5
      go_wp2_with fail
      refine (C1.out _).mono ?_
      rintro e w1 ⟨rfl, b1⟩
      go_wp2_with fail
      refine (C2.out _).mono ?_
      rintro e w2 ⟨rfl, b2⟩
      go_wp2_with fail
      refine (alive_any _).mono ?_
      rintro e w3 ⟨rfl, b3⟩
      go_wp2_with fail
      go_ret
      have c1 := b1.trans (b2.mono b1.size)
      exact ⟨rfl, c1.trans (b3.mono c1.size)⟩
    · have e8 : q = 7 := by omega
      have m3 : n / 2 ^ (8 * (q + 1)) = 0 := by rw [e8]; exact room_all hn
      obtain ⟨P, p1, p2, p3, p4⟩ := back_facts n hn q hq7 m3 s hs2
      have C1 := Lib.hid p2
      have C2 := Lib.hid (p3 hlt)
      clear m3 e8 p2 p3 p4
      go_enter Try.func5, Try.ntmps5
      go_wp2_with fail
      refine (C1.out _).mono ?_
      rintro e w1 ⟨rfl, b1⟩
      go_wp2_with fail
      refine (C2.out _).mono ?_
      rintro e w2 ⟨rfl, b2⟩
      go_wp2_with fail
      refine (alive_any _).mono ?_
      rintro e w3 ⟨rfl, b3⟩
      go_wp2_with fail
      go_ret
      have c1 := b1.trans (b2.mono b1.size)
      exact ⟨rfl, c1.trans (b3.mono c1.size)⟩
  · by_cases h8 : 1 + (q : Int) < 8
    · obtain ⟨m1, m2, m3⟩ := room_mod (m := q + 1) hn (by omega)
      obtain ⟨P, p1, p2, p3, p4⟩ := back_facts _ m2 q hq7 m3 s hs2
      have e1 : (8 * (1 + (q : Int))).toNat = 8 * (q + 1) := by omega
      have hM0 : 1 ≤ (2 : Int) ^ (8 * (q + 1)) := Int.pow_pos (by omega)
      obtain ⟨M, hM⟩ : ∃ M, M = (2 : Int) ^ (8 * (q + 1)) := ⟨_, rfl⟩
      have m4 := m1.trans hM.symm
      obtain ⟨x, hx⟩ : ∃ x, x = n.tmod M := ⟨_, rfl⟩
      rw [← hM, ← hx] at p2
      rw [← hM, ← hx] at p4
      rw [← hM] at hM0
      have hx2 := hx.symm
      obtain ⟨i, hi⟩ : ∃ i : Nat, a % ((s.size : Int) - (1 + q) + 1) = i := ⟨_, (Int.toNat_of_nonneg (Int.emod_nonneg a (by omega))).symm⟩
      have hi2 := Int.emod_lt_of_pos a (show 0 < (s.size : Int) - (1 + q) + 1 by omega)
      rw [hi] at hi2
      obtain ⟨T, t1, t2, t3, t4, t5, t6⟩ := p4 i (by omega)
      have l1 := cut_low T i (by omega)
      have l2 := cut_low s i (by omega)
      have l3 := cut_high T i q (by omega)
      have l4 := cut_high s i q (by omega)
      rw [t1] at l3
      have t7 : ((T.extract 0 i).toList == (s.extract 0 i).toList) = true := by rw [t2]; exact beq_self_eq_true _
      have t8 : ((T.extract (i + (1 + q)) s.size).toList == (s.extract (i + (1 + q)) s.size).toList) = true := by rw [t3]; exact beq_self_eq_true _
      have C1 := Lib.hid p2
      have C2 := Lib.hid t4
      have C3 := Lib.hid t5
      have C4 := Lib.hid t6
      clear m1 m2 m3 hM hx p2 p3 p4 t2 t3 t4 t5 t6
      go_enter Try.func5, Try.ntmps5
      go_wp2_with fail
      refine (C1.out _).mono ?_
      rintro e w1 ⟨rfl, b1⟩
      go_wp2_with fail
      refine (C2.out _).mono ?_
      rintro e w2 ⟨rfl, b2⟩
      go_wp2_with fail
      refine (C3.out _).mono ?_
      rintro e w3 ⟨rfl, rfl⟩
      go_wp2_with fail
      refine (C4.out _).mono ?_
      rintro e w3 ⟨rfl, b3⟩
      go_wp2_with fail
      have hw : IntKind.i64.wrap ((i : Int) + (1 + (q : Int))) = (i : Int) + (1 + (q : Int)) := IntWalk.i64_in _ (by omega)
      go_still_tail 47, (by kernel_rfl)
      clear hw
      change wpList _ _ _ _ _ w3.drew
      go_wp2_with fail
      refine (alive_any _).mono ?_
      rintro e w4 ⟨rfl, b4⟩
      go_wp2_with fail
      go_ret
      have c1 := b1.trans (b2.mono b1.size)
      have c2 := (c1.trans (b3.mono c1.size)).drew
      exact ⟨rfl, c2.trans (b4.mono c2.size)⟩
    · have e8 : q = 7 := by omega
      have m3 : n / 2 ^ (8 * (q + 1)) = 0 := by rw [e8]; exact room_all hn
      obtain ⟨P, p1, p2, p3, p4⟩ := back_facts n hn q hq7 m3 s hs2
      obtain ⟨i, hi⟩ : ∃ i : Nat, a % ((s.size : Int) - (1 + q) + 1) = i := ⟨_, (Int.toNat_of_nonneg (Int.emod_nonneg a (by omega))).symm⟩
      have hi2 := Int.emod_lt_of_pos a (show 0 < (s.size : Int) - (1 + q) + 1 by omega)
      rw [hi] at hi2
      obtain ⟨T, t1, t2, t3, t4, t5, t6⟩ := p4 i (by omega)
      have l1 := cut_low T i (by omega)
      have l2 := cut_low s i (by omega)
      have l3 := cut_high T i q (by omega)
      have l4 := cut_high s i q (by omega)
      rw [t1] at l3
      have t7 : ((T.extract 0 i).toList == (s.extract 0 i).toList) = true := by rw [t2]; exact beq_self_eq_true _
      have t8 : ((T.extract (i + (1 + q)) s.size).toList == (s.extract (i + (1 + q)) s.size).toList) = true := by rw [t3]; exact beq_self_eq_true _
      have C1 := Lib.hid p2
      have C2 := Lib.hid t4
      have C3 := Lib.hid t5
      have C4 := Lib.hid t6
      clear m3 e8 p2 p3 p4 t2 t3 t4 t5 t6
      go_enter Try.func5, Try.ntmps5
      go_wp2_with fail
      refine (C1.out _).mono ?_
      rintro e w1 ⟨rfl, b1⟩
      go_wp2_with fail
      refine (C2.out _).mono ?_
      rintro e w2 ⟨rfl, b2⟩
      go_wp2_with fail
      refine (C3.out _).mono ?_
      rintro e w3 ⟨rfl, rfl⟩
      go_wp2_with fail
      refine (C4.out _).mono ?_
      rintro e w3 ⟨rfl, b3⟩
      go_wp2_with fail
      have hw : IntKind.i64.wrap ((i : Int) + (1 + (q : Int))) = (i : Int) + (1 + (q : Int)) := IntWalk.i64_in _ (by omega)
      go_still_tail 47, (by kernel_rfl)
      clear hw
      change wpList _ _ _ _ _ w3.drew
      go_wp2_with fail
      refine (alive_any _).mono ?_
      rintro e w4 ⟨rfl, b4⟩
      go_wp2_with fail
      go_ret
      have c1 := b1.trans (b2.mono b1.size)
      have c2 := (c1.trans (b3.mono c1.size)).drew
      exact ⟨rfl, c2.trans (b4.mono c2.size)⟩

end Go.Proofs.Ytgcobckjjnoceaa
