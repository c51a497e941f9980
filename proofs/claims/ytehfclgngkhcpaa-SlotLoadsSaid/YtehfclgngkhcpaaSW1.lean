/- Walks: what an area asks of itself. -/
import Derived.Test.YtehfclgngkhcpaaSR
namespace Go.Proofs.Ytehfclgngkhcpaa.Slot
open Go.RowKit
attribute [local go_sem ↓] Go.wp_at_zero Go.wp_at_succ

theorem numAt_two (l : List UInt8) (h : l.length = 2) : numAt (strB l) 0 2 = numL l 0 := by
  match l, h with
  | [x, y], _ => simp [numAt, strB, num, numL]
theorem bytesOf_two (n : Nat) : bytesOf 2 (n : Int) = strB (two n) := by
  unfold bytesOf strB two be
  simp [List.range_succ]
  constructor <;> (apply UInt8.toNat_inj.1; simp)

set_option maxRecDepth 100000 in
theorem place_any (k : Nat) (w : World) (hk : k ≤ 100000) : Calls Try.prog 81 #[.int .i64 (k : Int)] w fun e w' => e = .returned (.int .i64 ((4 + 4 * k : Nat) : Int)) ∧ w = w' := by
  go_enter Try.func81, Try.ntmps81
  go_wp2
  go_ret
  exact ⟨ret_int (by omega), rfl⟩

def sizedB (n : Int) : Bool := decide (16 ≤ n ∧ n ≤ 4096)
set_option maxRecDepth 100000 in
theorem sized_any (n : Int) (w : World) : Calls Try.prog 62 #[.int .i64 n] w fun e w' => e = .returned (.bool (sizedB n)) ∧ w = w' := by
  go_enter Try.func62, Try.ntmps62
  go_wp2
  all_goals
    go_ret
    exact ⟨ret_bool (by unfold sizedB; simp; omega), rfl⟩

section
variable {w : World} {p g c : Nat} {b : List UInt8}
set_option maxRecDepth 100000 in
theorem number_any (h : Ar w p g c b) (k : Nat) (hk : k + 2 ≤ b.length) :
    Calls Try.prog 86 #[.pointer (some ⟨p, 0, none⟩), .int .i64 (k : Int)] w fun e w' => e = .returned (.int .i64 (numL b k : Int)) ∧ w = w' := by
  have c0 := h.cell0
  have hc := h.cap
  have hhi := h.hi
  have sl := fun W => slice_part W (g := g) (n := b.length) (c := c) (k := k) (m := k + 2) (by omega) (by omega)
  have e1 : k + 2 - k = 2 := by omega
  have e2 : ((k + 2 : Nat) : Int) = (k : Int) + 2 := by omega
  rw [e1, e2] at sl
  have cv := h.row.str (c := c) (k := k) (m := k + 2) (by omega) hk hc
  rw [e1] at cv
  have hl : ((b.drop k).take 2).length = 2 := by simp; omega
  have en : numAt (strB ((b.drop k).take 2)) 0 2 = numL b k := by rw [numAt_two _ hl, num_part (by omega)]; rfl
  have hs : (strB ((b.drop k).take 2)).size = 2 := hl
  have gt := get_yes (strB ((b.drop k).take 2)) 0 2 w (by omega) (by omega) (by omega) (by omega)
  rw [en] at gt
  have hb := num_lt b k
  generalize strB ((b.drop k).take 2) = s at *
  generalize numL b k = m at *
  have GT := Lib.hid gt
  clear gt en hs hl h e1 e2
  obtain ⟨B, hB⟩ : ∃ B, B = base g k c := ⟨_, rfl⟩
  rw [← hB] at sl cv
  clear hB
  go_enter Try.func86, Try.ntmps86
  go_wp2_with fail
  refine GT.out.mono ?_
  rintro e w' ⟨rfl, rfl⟩
  go_wp2_with fail
  go_ret
  exact ⟨rfl, rfl⟩

set_option maxRecDepth 100000 in
theorem lay_any (h : Ar w p g c b) (k n : Nat) (hk : k + 2 ≤ b.length) (hn : n < 65536) :
    Calls Try.prog 63 #[.pointer (some ⟨p, 0, none⟩), .int .i64 (k : Int), .int .i64 (n : Int)] w fun e w' => e = .returned (.tuple #[]) ∧ (Ar w' p g c (putL b k (two n)) ∧ Touch (both p g) w w') := by
  have hc := h.cap
  have hhi := h.hi
  have pt := put_yes (n : Int) 2 w (by omega) (by omega) (by omega) (by
    have e : (n : Int) / 2 ^ (8 * 2) = 0 := Int.ediv_eq_zero_of_lt (by omega) (by omega)
    rw [e]; rfl)
  rw [bytesOf_two] at pt
  have PT := Lib.hid pt
  have HA := Lib.hid h
  have sl := fun W => slice_from W (g := g) (n := b.length) (c := c) (k := k) (by omega)
  clear pt h
  go_enter Try.func63, Try.ntmps63
  go_wp2_with fail
  refine PT.out.mono ?_
  rintro e w1 ⟨rfl, b1⟩
  have A1 := HA.out.later b1
  have c0 := A1.cell0
  have cp := fun ty => A1.row.copy ty (k := k) (x := strB (two n)) (by show k + 2 ≤ _; omega) hc
  have A2 := A1.put (k := k) (t := two n) (by rw [two_len]; omega)
  have HE := Lib.hid (show Ar _ p g c (putL b k (two n)) ∧ Touch (both p g) w _ from ⟨A2.1, (Touch.ofNew b1).trans' A2.2⟩)
  have ed : (strB (two n)).data.toList = two n := rfl
  rw [ed] at cp
  clear PT HA A1 A2 b1 ed
  generalize w1.setCells g k (Lib.byteCells (two n)) = w2 at *
  generalize strB (two n) = s at *
  obtain ⟨B, hB⟩ : ∃ B, B = base g k c := ⟨_, rfl⟩
  rw [← hB] at sl cp
  clear hB
  go_wp2_with fail
  go_end0
  exact ⟨rfl, HE.out⟩
set_option maxRecDepth 100000 in
theorem made_any (h : Ar w p g c b) : Calls Try.prog 67 #[.pointer (some ⟨p, 0, none⟩)] w fun e w' => e = .returned (.bool true) ∧ w = w' := by
  have c0 := h.cell0
  have h1 : decide (0 < b.length) = true := by have := h.lo; exact decide_eq_true (by omega)
  clear h
  go_enter Try.func67, Try.ntmps67
  go_wp2
  go_ret
  exact ⟨rfl, rfl⟩
set_option maxRecDepth 100000 in
theorem made_nil (w : World) : Calls Try.prog 67 #[.pointer none] w fun e w' => e = .returned (.bool false) ∧ w = w' := by
  go_enter Try.func67, Try.ntmps67
  go_wp2
  go_ret
  exact ⟨rfl, rfl⟩
set_option maxRecDepth 100000 in
theorem low_any (h : Ar w p g c b) : Calls Try.prog 85 #[.pointer (some ⟨p, 0, none⟩)] w fun e w' => e = .returned (.int .i64 (numL b 2 : Int)) ∧ w = w' := by
  have m := Lib.hid (number_any h 2 (by have := h.lo; omega))
  clear h
  go_enter Try.func85, Try.ntmps85
  go_wp2_with fail
  refine m.out.mono ?_
  rintro e w' ⟨rfl, rfl⟩
  go_wp2_with fail
  go_ret
  exact ⟨rfl, rfl⟩
set_option maxRecDepth 100000 in
theorem len_any (h : Ar w p g c b) : Calls Try.prog 37 #[.pointer (some ⟨p, 0, none⟩)] w fun e w' => e = .returned (.int .i64 (numL b 0 : Int)) ∧ w = w' := by
  have m := Lib.hid (number_any h 0 (by have := h.lo; omega))
  have d := Lib.hid (made_any h)
  clear h
  go_enter Try.func37, Try.ntmps37
  go_wp2_with fail
  refine d.out.mono ?_
  rintro e w' ⟨rfl, rfl⟩
  go_wp2_with fail
  refine m.out.mono ?_
  rintro e w' ⟨rfl, rfl⟩
  go_wp2_with fail
  go_ret
  exact ⟨rfl, rfl⟩
set_option maxRecDepth 100000 in
theorem end_any (h : Ar w p g c b) : Calls Try.prog 82 #[.pointer (some ⟨p, 0, none⟩)] w fun e w' => e = .returned (.int .i64 ((4 + 4 * numL b 0 : Nat) : Int)) ∧ w = w' := by
  have m := Lib.hid (len_any h)
  have hb := num_lt b 0
  have d := Lib.hid (place_any (numL b 0) w (by omega))
  clear h hb
  generalize numL b 0 = n at *
  go_enter Try.func82, Try.ntmps82
  go_wp2_with fail
  refine m.out.mono ?_
  rintro e w' ⟨rfl, rfl⟩
  go_wp2_with fail
  refine d.out.mono ?_
  rintro e w' ⟨rfl, rfl⟩
  go_wp2_with fail
  go_ret
  exact ⟨rfl, rfl⟩
set_option maxRecDepth 100000 in
theorem gap_any (h : Ar w p g c b) : Calls Try.prog 40 #[.pointer (some ⟨p, 0, none⟩)] w fun e w' => e = .returned (.int .i64 ((numL b 2 : Int) - ((4 + 4 * numL b 0 : Nat) : Int))) ∧ w = w' := by
  have m := Lib.hid (made_any h)
  have l := Lib.hid (low_any h)
  have d := Lib.hid (end_any h)
  have h1 := num_lt b 0
  have h2 := num_lt b 2
  clear h
  generalize numL b 2 = k at *
  obtain ⟨n, hn⟩ : ∃ n, n = 4 + 4 * numL b 0 := ⟨_, rfl⟩
  rw [← hn] at d ⊢
  have h3 : n ≤ 1000000 := by omega
  clear hn h1
  go_enter Try.func40, Try.ntmps40
  go_wp2_with fail
  refine m.out.mono ?_
  rintro e w' ⟨rfl, rfl⟩
  go_wp2_with fail
  refine l.out.mono ?_
  rintro e w' ⟨rfl, rfl⟩
  go_wp2_with fail
  refine d.out.mono ?_
  rintro e w' ⟨rfl, rfl⟩
  go_wp2_with fail
  go_ret
  exact ⟨rfl, rfl⟩
set_option maxRecDepth 100000 in
theorem bytes_any (h : Ar w p g c b) : Calls Try.prog 29 #[.pointer (some ⟨p, 0, none⟩)] w fun e w' => e = .returned (.string (strB b)) ∧ w = w' := by
  have m := Lib.hid (made_any h)
  have c0 := h.cell0
  have cv := h.row.str (c := c) (k := 0) (m := b.length) (by omega) (by omega) h.cap
  rw [Nat.sub_zero, List.drop_zero, List.take_length, Nat.sub_zero, show base g 0 c = some ⟨g, 0, none⟩ by unfold base; split <;> rfl] at cv
  clear h
  go_enter Try.func29, Try.ntmps29
  go_wp2_with fail
  refine m.out.mono ?_
  rintro e w' ⟨rfl, rfl⟩
  go_wp2_with fail
  go_ret
  exact ⟨rfl, rfl⟩
/-- is there such a text? -/
def hasE (b : List UInt8) (i : Int) : Int := if 0 ≤ i ∧ i < numL b 0 then 0 else 3
set_option maxRecDepth 100000 in
theorem has_any (h : Ar w p g c b) (i : Int) : Calls Try.prog 77 #[.pointer (some ⟨p, 0, none⟩), .int .i64 i] w fun e w' => e = .returned (.int .i64 (hasE b i)) ∧ w = w' := by
  have m := Lib.hid (made_any h)
  have l := Lib.hid (len_any h)
  clear h
  unfold hasE
  generalize numL b 0 = n at *
  by_cases h0 : i < 0
  · rw [if_neg (by omega)]
    have e0 : decide (i < 0) = true := decide_eq_true h0
    clear h0
    go_enter Try.func77, Try.ntmps77
    go_wp2_with fail
    refine m.out.mono ?_
    rintro e w' ⟨rfl, rfl⟩
    go_wp2_with fail
    go_ret
    exact ⟨rfl, rfl⟩
  · have e0 : decide (i < 0) = false := decide_eq_false h0
    by_cases h1 : i < n
    · rw [if_pos (by omega)]
      have e1 : decide ((n : Int) ≤ i) = false := decide_eq_false (by omega)
      clear h0 h1
      go_enter Try.func77, Try.ntmps77
      go_wp2_with fail
      refine m.out.mono ?_
      rintro e w' ⟨rfl, rfl⟩
      go_wp2_with fail
      refine l.out.mono ?_
      rintro e w' ⟨rfl, rfl⟩
      go_wp2_with fail
      go_ret
      exact ⟨rfl, rfl⟩
    · rw [if_neg (by omega)]
      have e1 : decide ((n : Int) ≤ i) = true := decide_eq_true (by omega)
      clear h0 h1
      go_enter Try.func77, Try.ntmps77
      go_wp2_with fail
      refine m.out.mono ?_
      rintro e w' ⟨rfl, rfl⟩
      go_wp2_with fail
      refine l.out.mono ?_
      rintro e w' ⟨rfl, rfl⟩
      go_wp2_with fail
      go_ret
      exact ⟨rfl, rfl⟩
end

end Go.Proofs.Ytehfclgngkhcpaa.Slot
