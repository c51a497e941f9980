/- The walk of SumTurned. -/
import Derived.Test.YtkbgepikmmeppaaGoes
namespace Go.Proofs.Ytkbgepikmmeppaa
open Go.RowKit

theorem two_xor (m a b : Nat) : 2 ^ m * (a ^^^ b) = 2 ^ m * a ^^^ 2 ^ m * b := by
  apply Nat.eq_of_testBit_eq
  intro i
  simp only [Nat.testBit_xor, Nat.testBit_two_pow_mul]
  by_cases h8 : m ≤ i <;> simp [h8]
theorem val_set (l : List UInt8) (j : Nat) (hj : j < l.length) (x : UInt8) : val (l.set j (l[j] ^^^ x)) = val l ^^^ 2 ^ (8 * j) * x.toNat := by
  induction l generalizing j with
  | nil => simp at hj
  | cons b l ih =>
    match j with
    | 0 =>
      show val ((b ^^^ x) :: l) = _
      rw [val_cons, val_cons, UInt8.toNat_xor, Nat.mul_zero, Nat.pow_zero, Nat.one_mul, Nat.xor_assoc, Nat.xor_assoc, Nat.xor_comm x.toNat]
    | j + 1 =>
      have hj2 : j < l.length := by simpa using hj
      show val (b :: l.set j (l[j] ^^^ x)) = _
      have e : 8 * (j + 1) = 8 + 8 * j := by omega
      rw [val_cons, val_cons, ih j hj2, two_xor, e, Nat.pow_add, Nat.mul_assoc, Nat.xor_assoc]

/-- the lowest i + 1 bits, out of the lowest i -/
theorem low_one (T i : Nat) (h : T / 2 ^ i % 2 = 1) : T % 2 ^ (i + 1) = T % 2 ^ i ^^^ 2 ^ i := by
  apply Nat.eq_of_testBit_eq
  intro j
  have hb : T.testBit i = true := by simp [Nat.testBit, Nat.shiftRight_eq_div_pow, Nat.one_and_eq_mod_two, h]
  rw [Nat.testBit_xor, Nat.testBit_mod_two_pow, Nat.testBit_mod_two_pow, Nat.testBit_two_pow]
  by_cases h1 : j < i
  · simp [h1, show j < i + 1 by omega, show ¬ i = j by omega]
  · by_cases h2 : j = i
    · subst h2; simp [hb]
    · simp [h1, show ¬ j < i + 1 by omega, show ¬ i = j by omega]
theorem low_none (T i : Nat) (h : T / 2 ^ i % 2 = 0) : T % 2 ^ (i + 1) = T % 2 ^ i := by
  apply Nat.eq_of_testBit_eq
  intro j
  have hb : T.testBit i = false := by simp [Nat.testBit, Nat.shiftRight_eq_div_pow, Nat.one_and_eq_mod_two, h]
  rw [Nat.testBit_mod_two_pow, Nat.testBit_mod_two_pow]
  by_cases h1 : j < i
  · simp [h1, show j < i + 1 by omega]
  · by_cases h2 : j = i
    · subst h2; simp [hb]
    · simp [h1, show ¬ j < i + 1 by omega]

/-- what the text's bytes are once the bits up to i are turned -/
def TurnedTo (t : List UInt8) (k T i : Nat) (u : List UInt8) : Prop := u.length = t.length ∧ val u = val t ^^^ 2 ^ k * (T % 2 ^ i)
theorem TurnedTo.start (t : List UInt8) (k T : Nat) : TurnedTo t k T 0 t := ⟨rfl, by rw [Nat.pow_zero, Nat.mod_one, Nat.mul_zero, Nat.xor_zero]⟩
theorem TurnedTo.none {t : List UInt8} {k T i : Nat} {u : List UInt8} (h : TurnedTo t k T i u) (hb : T / 2 ^ i % 2 = 0) : TurnedTo t k T (i + 1) u := ⟨h.1, by rw [h.2, low_none T i hb]⟩
theorem TurnedTo.one {t : List UInt8} {k T i : Nat} {u : List UInt8} (h : TurnedTo t k T i u) (hb : T / 2 ^ i % 2 = 1) (J R : Nat) (hp : k + i = 8 * J + R) (hR : R < 8) (hJ : J < u.length) :
    TurnedTo t k T (i + 1) (u.set J (u[J] ^^^ UInt8.ofNat (2 ^ R))) := by
  refine ⟨by rw [List.length_set]; exact h.1, ?_⟩
  have e : (UInt8.ofNat (2 ^ R)).toNat = 2 ^ R := by
    have : 2 ^ R < 256 := Nat.lt_of_lt_of_le (Nat.pow_lt_pow_right (by omega) hR) (by decide)
    simp; omega
  rw [val_set, h.2, e, low_one T i hb, two_xor, ← Nat.pow_add, ← Nat.pow_add, hp, Nat.xor_assoc]

/-- block g holds the bytes u, which may be written; below it nothing has turned since W0 -/
def HoldU (g : Nat) (u : List UInt8) (W0 w : World) : Prop :=
  (∀ j (hj : j < u.length), w.cell? ⟨g, j, none⟩ = some (.int .u8 (u[j].toNat : Int))) ∧ (∀ j, j < u.length → w.frozen? ⟨g, j, none⟩ = false) ∧ Below g W0 w
theorem bytes_in (s : ByteArray) (w : World) : ∃ (cap : Nat) (W1 : World), (convert 9 31 (.string s)).run Try.prog w = .ok (.slice (some ⟨w.heap.size, 0, none⟩) s.size cap) W1 ∧ HoldU w.heap.size s.data.toList w W1 := by
  have hl : s.data.toList.length = s.size := (Lib.size_eq _).symm
  refine ⟨_, _, run_bytes_of_string w 9 31 5 s Try.underlying9 Try.underlying31 Try.underlying5, ?_, ?_, ((Below.refl _ w).drew).alloc (Nat.le_refl _) _⟩
  · intro j hj
    have hj' : j < s.data.size := by rw [hl] at hj; exact hj
    have e := World.cell?_alloc_mark w.drew (bytesRow s (grownCap w s.size 0 5)) 5 ((bytesRow s (grownCap w s.size 0 5)).size, (bytesRow s (grownCap w s.size 0 5)).size + 1) j
    have ew : w.drew.heap.size = w.heap.size := rfl
    rw [ew] at e
    rw [e, bytesRow_at s _ j hj']
    simp
  · intro j hj
    have hj' : j < s.data.size := by rw [hl] at hj; exact hj
    have e := World.frozen?_alloc_mark w.drew (bytesRow s (grownCap w s.size 0 5)) 5 (bytesRow s (grownCap w s.size 0 5)).size ((bytesRow s (grownCap w s.size 0 5)).size + 1) j
    have ew : w.drew.heap.size = w.heap.size := rfl
    rw [ew] at e
    rw [e]
    have hz : s.size ≤ (bytesRow s (grownCap w s.size 0 5)).size := by unfold bytesRow; rw [Array.size_append, Array.size_map]; exact Nat.le_add_right _ _
    have hj2 : j < s.size := hj'
    simp; omega
theorem HoldU.set {g : Nat} {u : List UInt8} {W0 w : World} (h : HoldU g u W0 w) (J : Nat) (hJ : J < u.length) (x : UInt8) : HoldU g (u.set J x) W0 (w.setCell ⟨g, J, none⟩ (.int .u8 (x.toNat : Int))) := by
  refine ⟨?_, ?_, h.2.2.setCell (Nat.le_refl _) _⟩
  · intro j hj
    have hj' : j < u.length := by rwa [List.length_set] at hj
    by_cases e : j = J
    · subst e
      rw [World.cell?_setCell_same _ _ _ (h.1 j hJ)]
      simp
    · rw [World.cell?_setCell_other _ _ _ _ (by simp only [ne_eq, Addr.mk.injEq]; omega), h.1 j hj']
      rw [List.getElem_set_ne (by omega)]
  · intro j hj
    rw [World.frozen?_setCell]
    exact h.2.1 j (by rwa [List.length_set] at hj)
theorem HoldU.out {g cap : Nat} {u : List UInt8} {W0 w : World} (h : HoldU g u W0 w) : (convert 31 9 (.slice (some ⟨g, 0, none⟩) u.length cap)).run Try.prog w = .ok (.string ⟨u.toArray⟩) w := by
  refine run_convert_bytes_back (P := Try.prog) w 31 9 5 ⟨g, 0, none⟩ cap u Try.underlying31 Try.underlying5 Try.underlying9 ?_
  intro j hj
  have e : (⟨g, 0, none⟩ : Addr).add j = ⟨g, j, none⟩ := by simp [Addr.add]; try omega
  rw [e, h.1 j hj]

theorem test_bit (T i : Nat) : ((T : Int) / 2 ^ i).tmod 2 = ((T / 2 ^ i % 2 : Nat) : Int) := by
  have e : ((T / 2 ^ i : Nat) : Int) = (T : Int) / 2 ^ i := by simp
  rw [← e, Int.tmod_eq_emod_of_nonneg (Int.natCast_nonneg _)]
  simp

theorem u16_wf {n : Int} (h : (Lit.int .u16 n).wf = true) : 0 ≤ n ∧ n ≤ 65535 := by
  simpa [Lit.wf, IntKind.min, IntKind.max, IntKind.signed, IntKind.bits] using h

set_option maxRecDepth 100000 in
set_option maxHeartbeats 2000000 in
theorem turned_walk (s : ByteArray) (at' T : Int) (w : World) (hs : s.size ≤ maxLen) (ha : 0 ≤ at' ∧ at' ≤ 65535) (hT : 0 ≤ T ∧ T ≤ 4294967295) :
    Calls Try.prog 4 #[.string s, .int .u16 at', .int .u32 T] w fun e w' => e = .returned (.bool true) ∧ Below w.heap.size w w' := by
  unfold maxLen at hs
  obtain ⟨T, rfl⟩ : ∃ n : Nat, T = n := ⟨T.toNat, by omega⟩
  have hT2 : T < 4294967296 := by omega
  by_cases h1 : s.size > 4096
  · go_enter Try.func4, Try.ntmps4
    go_wp2_with fail
    refine (alive_any _).mono ?_
    rintro e w1 ⟨rfl, b1⟩
    go_wp2_with fail
    go_ret
    exact ⟨rfl, b1⟩
  have q1 := fun w => seal_any s w (by omega)
  have z := seal_size s
  have o1 := openT_seal s
  obtain ⟨S, hS⟩ : ∃ S : ByteArray, S = ⟨(sealL s.data.toList).toArray⟩ := ⟨_, rfl⟩
  rw [← hS] at q1 z o1
  have q2 := fun w => open_any S w (by omega)
  rw [o1.1, o1.2] at q2
  have e1 : ((S.size : Int) == (s.size : Int) + 4) = true := by simp; omega
  have e2 : ((S.size : Int) != (s.size : Int) + 4) = false := by simp; omega
  have hSl : S.data.toList.length = S.size := (Lib.size_eq _).symm
  have p1 := Lib.hid q1
  have p2 := Lib.hid q2
  have z1 := Lib.hid z
  have o2 := Lib.hid o1.2
  have L := Lib.hid hSl
  have hS5 : S.size ≤ 4100 := by omega
  have hS6 : 4 ≤ S.size := by omega
  obtain ⟨K, hK⟩ : ∃ K : Nat, at' % (8 * (S.size : Int) - 31) = K := ⟨_, (Int.toNat_of_nonneg (Int.emod_nonneg at' (by omega))).symm⟩
  have hK2 := Int.emod_lt_of_pos at' (show 0 < 8 * (S.size : Int) - 31 by omega)
  rw [hK] at hK2
  have hK3 : K + 32 ≤ 8 * S.size := by omega
  clear q1 q2 z o1 hSl hS hK2
  go_enter Try.func4, Try.ntmps4
  go_wp2_with fail
  refine (p1.out _).mono ?_
  rintro e w1 ⟨rfl, b1⟩
  go_wp2_with fail
  refine (p2.out _).mono ?_
  rintro e w2 ⟨rfl, b2⟩
  have B2 := Lib.hid (b1.trans (b2.mono b1.size))
  obtain ⟨cap, w3, hcv, hh⟩ := bytes_in S w2
  have H3 := Lib.hid hh
  clear b1 b2 hh
  go_wp2_with fail
  rw [hK]
  clear hK hcv
  go_loopw [12] (fun x wr => ∃ (i : Nat) (u : List UInt8), i ≤ 32 ∧ x = .int .i64 i ∧ TurnedTo S.data.toList K T i u ∧ HoldU w2.heap.size u w2 wr) (fun x _ => 32 - (intOf x).toNat)
  case atStart => exact ⟨0, S.data.toList, by omega, by go_num, TurnedTo.start _ _ _, H3.out⟩
  case round =>
    obtain ⟨i, u, hi, rfl, ht, hh⟩ := hrel
    clear H3
    by_cases hlt : i < 32
    · have hul : u.length = S.size := by rw [ht.1, L.out]
      obtain ⟨J, hJ⟩ : ∃ J, J = (K + i) / 8 := ⟨_, rfl⟩
      obtain ⟨R, hR⟩ : ∃ R, R = (K + i) % 8 := ⟨_, rfl⟩
      have hp : K + i = 8 * J + R := by omega
      have hR8 : R < 8 := by omega
      have hJl : J < u.length := by omega
      by_cases hb : T / 2 ^ i % 2 = 1
      · have hb2 : (((T : Int) / 2 ^ i).tmod 2 == 1) = true := by rw [test_bit, hb]; rfl
        have g1 := hh.1 J hJl
        have g2 := hh.2.1 J hJl
        have ht2 := Lib.hid (ht.one hb J R hp hR8 hJl)
        have hh2 := Lib.hid (hh.set J hJl (u[J] ^^^ UInt8.ofNat (2 ^ R)))
        have i1 : ((K : Int) + i) / 8 = (J : Int) := by omega
        have i2 : ((K : Int) + i) % 8 = (R : Int) := by omega
        have hJS : (J : Int) < (S.size : Int) := by omega
        obtain ⟨z, hz⟩ : ∃ z, z = u[J] ^^^ UInt8.ofNat (2 ^ R) := ⟨_, rfl⟩
        have hx : bits .xor .u8 (u[J].toNat : Int) (2 ^ R % 256) = (z.toNat : Int) := by
          have e : ((2 : Int) ^ R % 256) = ((UInt8.ofNat (2 ^ R)).toNat : Int) := by simp
          have hl2 := (UInt8.ofNat (2 ^ R)).toNat_lt
          rw [hz, e, UInt8.toNat_xor, u8_xor_nat _ _ u[J].toNat_lt (by omega)]
        rw [← hz] at ht2 hh2
        clear hb ht hh hp hR hJ hz
        go_wp2_with fail
        go_roundw
        case rel => exact ⟨i + 1, _, by omega, by go_num, ht2.out, hh2.out⟩
        case measure => simp [intOf]; omega
      · have hb0 : T / 2 ^ i % 2 = 0 := by omega
        have hb2 : (((T : Int) / 2 ^ i).tmod 2 == 1) = false := by rw [test_bit, hb0]; rfl
        have ht2 := Lib.hid (ht.none hb0)
        have hh2 := Lib.hid hh
        clear hb ht hh hp hR hJ hb0
        go_wp2_with fail
        go_roundw
        case rel => exact ⟨i + 1, u, by omega, by go_num, ht2.out, hh2.out⟩
        case measure => simp [intOf]; omega
    · obtain rfl : i = 32 := by omega
      have e32 : T % 2 ^ 32 = T := Nat.mod_eq_of_lt (by omega)
      have hv := ht.2
      rw [e32] at hv
      have hul : u.length = S.size := by rw [ht.1, L.out]
      have hout := hh.out (cap := cap)
      rw [hul] at hout
      have hol := fun w => open_any ⟨u.toArray⟩ w (by
        have e : (⟨u.toArray⟩ : ByteArray).size = u.length := by show u.toArray.size = _; simp
        rw [e, hul]; omega)
      have eu : (⟨u.toArray⟩ : ByteArray).data.toList = u := by simp
      rw [eu] at hol
      have hse : isSealed u = decide (T = 0) := by
        by_cases h0 : T = 0
        · have e2 : u = S.data.toList := len_of_val ht.1 (by rw [hv, h0, Nat.mul_zero, Nat.xor_zero])
          rw [e2, o2.out]; simp [h0]
        · cases hse : isSealed u with
          | false => simp [h0]
          | true => exact absurd (turned_not o2.out ht.1 (by rw [L.out]; omega) hT2 hv hse) h0
      have hq : ((isSealed u) == ((T : Int) == 0)) = true := by rw [hse]; by_cases h0 : T = 0 <;> simp [h0]
      have HB := Lib.hid (B2.out.trans (hh.2.2.mono B2.out.size))
      generalize isSealed u = av at *
      generalize openT ⟨u.toArray⟩ = ov at *
      generalize (⟨u.toArray⟩ : ByteArray) = U at *
      have hol2 := Lib.hid hol
      clear hol hse ht hh hv e32 eu
      go_wp2_with fail
      refine (hol2.out _).mono ?_
      rintro e w4 ⟨rfl, b4⟩
      go_wp2_with fail
      refine (alive_any _).mono ?_
      rintro e w5 ⟨rfl, b5⟩
      go_wp2_with fail
      go_ret
      have c4 := HB.out.trans (b4.mono HB.out.size)
      exact ⟨rfl, c4.trans (b5.mono c4.size)⟩

end Go.Proofs.Ytkbgepikmmeppaa
