/- The walk of KeyOrder. -/
import Derived.Test.YtkicdblebhaekaaW5
import Derived.Deep.DeepCutAuto
import Derived.StillTailTactics
import Derived.Test.YtkicdblebhaekaaTail
namespace Go.Proofs.Ytkicdblebhaekaa.Key
open Go.RowKit

theorem cmpOf_neg (a b : ByteArray) : cmpOf b a = -cmpOf a b := cmp_neg _ _
theorem toList_data (s : ByteArray) : s.toList = s.data.toList := by
  cases s; rw [ByteArray.toList_mk]
theorem cmpOf_zero (a b : ByteArray) : cmpOf a b = 0 ↔ a.toList = b.toList := by
  rw [toList_data, toList_data]; exact cmp_zero _ _
theorem cmpOf_trans (a b c : ByteArray) (h1 : cmpOf a b ≤ 0) (h2 : cmpOf b c ≤ 0) : cmpOf a c ≤ 0 := cmp_trans _ _ _ h1 h2
theorem cmpOf_more (a : ByteArray) : cmpOf a (a ++ ⟨#[120]⟩) = -1 := by
  have h := cmp_longer a.data.toList 120 []
  unfold cmpOf
  rw [ByteArray.data_append, Array.toList_append]
  exact h
theorem within_parts (k a b c : ByteArray) (h : cmpOf a b ≤ 0) (hb : ¬ b.toList = []) (hc : c.toList = [] ∨ cmpOf b c ≤ 0) : (within k a c != (within k a b != within k b c)) = false := by
  have h2 := cmp_parts k.data.toList a.data.toList b.data.toList c.data.toList h (by rw [← toList_data b]; exact hb) (by show c.data.toList = [] ∨ cmpOf b c ≤ 0; rw [← toList_data c]; exact hc)
  have e : ∀ x y z : ByteArray, within x y z = (decide (cmp x.data.toList y.data.toList ≥ 0) && (decide (z.data.toList = []) || decide (cmp x.data.toList z.data.toList < 0))) := by
    intro x y z
    unfold within cmpOf
    rw [toList_data]
  rw [← e, ← e, ← e] at h2
  rw [← h2]
  simp

theorem compare_of (a b : ByteArray) (w : World) :
    Calls Try.prog 9 #[.string a, .string b] w fun e w' => e = .returned (.int .i64 (cmpOf a b)) ∧ w = w' := compare_any a b w

set_option maxHeartbeats 2000000 in
theorem order_long (a b c k : ByteArray) (w : World) (ha : a.size ≤ maxLen) (hb : b.size ≤ maxLen) (hc : c.size ≤ maxLen) (hk : k.size ≤ maxLen) (hl : 512 < a.size ∨ 512 < b.size ∨ 512 < c.size ∨ 512 < k.size) :
    Calls Try.prog 4 #[.string a, .string b, .string c, .string k] w fun e w' => e = .returned (.bool true) ∧ Below w.heap.size w w' := by
  have q0 := long4 a b c k w ha hb hc hk
  have B0 : Below w.heap.size w (w.alloc (.cells #[.string a, .string b, .string c, .string k] 9)) := (Below.refl _ _).alloc (Nat.le_refl _) _
  rw [decide_eq_true hl] at q0
  have p0 := Lib.hid q0
  have B := Lib.hid B0
  clear q0 hl B0
  go_enter Try.func4, Try.ntmps4
  go_wp2_with fail
  refine p0.out.mono ?_
  rintro e w1 ⟨rfl, rfl⟩
  go_wp2_with fail
  refine (alive_any _).mono ?_
  rintro e w2 ⟨rfl, b2⟩
  go_wp2_with fail
  go_ret
  exact ⟨rfl, B.out.trans (b2.mono B.out.size)⟩

set_option maxRecDepth 100000 in
set_option maxHeartbeats 4000000 in
theorem order_short (a b c k : ByteArray) (w : World) (za : a.size ≤ 512) (zb : b.size ≤ 512) (zc : c.size ≤ 512) (zk : k.size ≤ 512) :
    Calls Try.prog 4 #[.string a, .string b, .string c, .string k] w fun e w' => e = .returned (.bool true) ∧ Below w.heap.size w w' := by
  have ha : a.size ≤ maxLen := by unfold maxLen; omega
  have hb : b.size ≤ maxLen := by unfold maxLen; omega
  have hc : c.size ≤ maxLen := by unfold maxLen; omega
  have hk : k.size ≤ maxLen := by unfold maxLen; omega
  have q0 := long4 a b c k w ha hb hc hk
  have B0 : Below w.heap.size w (w.alloc (.cells #[.string a, .string b, .string c, .string k] 9)) := (Below.refl _ _).alloc (Nat.le_refl _) _
  have hl : ¬ (512 < a.size ∨ 512 < b.size ∨ 512 < c.size ∨ 512 < k.size) := by omega
  rw [decide_eq_false hl] at q0
  have q1 := fun w => compare_of a b w
  have q2 := fun w => compare_of b c w
  have q3 := fun w => compare_of b a w
  have q4 := fun w => compare_of a c w
  have q5 := fun w => compare_of a (a ++ ⟨#[120]⟩) w
  rw [cmpOf_neg] at q3
  rw [cmpOf_more] at q5
  have q6 := fun w => in_any k a c w
  have q7 := fun w => in_any k a b w
  have q8 := fun w => in_any k b c w
  have q9 := fun w => common_any a b w ha hb
  have t1 := within_parts k a b c
  have r1 := cmpOf_range a b
  have r2 := cmpOf_range b c
  have r3 := cmpOf_range a c
  have t2 := cmpOf_trans a b c
  have t3 := cmpOf_zero a b
  generalize cmpOf a b = x at *
  generalize cmpOf b c = y at *
  generalize cmpOf a c = z at *
  generalize within k a c = i1 at *
  generalize within k a b = i2 at *
  generalize within k b c = i3 at *
  have t4 : (x == 0) = (a.toList == b.toList) := by
    by_cases h : x = 0
    · have := t3.1 h; simp [h, this]
    · have h2 : ¬ a.toList = b.toList := fun h3 => h (t3.2 h3)
      have e1 : (x == 0) = false := by simpa using h
      have e2 : (a.toList == b.toList) = false := by simpa using h2
      rw [e1, e2]
  have T4 := Lib.hid t4
  have p0 := Lib.hid q0
  have B := Lib.hid B0
  have p1 := Lib.hid q1
  have p2 := Lib.hid q2
  have p3 := Lib.hid q3
  have p4 := Lib.hid q4
  have p5 := Lib.hid q5
  have p6 := Lib.hid q6
  have p7 := Lib.hid q7
  have p8 := Lib.hid q8
  have p9 := Lib.hid q9
  have T1 := Lib.hid t1
  have T2 := Lib.hid t2
  clear t4 hl q0 q1 q2 q3 q4 q5 q6 q7 q8 q9 B0 t1 t2 t3
  go_enter Try.func4, Try.ntmps4
  go_wp2_with fail
  refine p0.out.mono ?_
  rintro e w1 ⟨rfl, rfl⟩
  go_wp2_with fail
  refine (p1.out _).mono ?_
  rintro e w2 ⟨rfl, rfl⟩
  go_wp2_with fail
  refine (p2.out _).mono ?_
  rintro e w2 ⟨rfl, rfl⟩
  go_upto_region 4 with fail
  obtain ⟨W, hW⟩ : ∃ W, W = w.alloc (.cells #[.string a, .string b, .string c, .string k] 9) := ⟨_, rfl⟩
  rw [← hW] at B ⊢
  clear hW
  go_cut [59] (fun s wx => s = .bool false ∧ wx = W)
  case first =>
    have hx : x = -1 ∨ x = 0 ∨ x = 1 := by omega
    rcases hx with rfl | rfl | rfl
    all_goals
      have g2 := T4.out.symm
      simp only [beq_self_eq_true, show ((-1 : Int) == 0) = false from rfl, show ((1 : Int) == 0) = false from rfl] at g2
      go_wp2_with fail
      refine (p3.out _).mono ?_
      rintro e w2 ⟨rfl, rfl⟩
      go_wp2_with fail
      all_goals try
        have hz : z ≤ 0 := T2.out (by omega) (by omega)
        refine (p4.out _).mono ?_
        rintro e w2 ⟨rfl, rfl⟩
        go_wp2_with fail
      all_goals
        refine (p5.out _).mono ?_
        rintro e w2 ⟨rfl, rfl⟩
        go_wp2_with fail
        go_meet
        first | exact ⟨rfl, rfl⟩ | exact ⟨by rw [show decide (0 < z) = false from decide_eq_false (by omega)], rfl⟩
  case rest =>
  obtain ⟨rfl, rfl⟩ := hcut
  go_upto_region 6 with fail
  go_cut [89] (fun s wx => s = .bool false ∧ wx = wc)
  case first =>
    go_wp2_with fail
    all_goals try
      have e : i1 = (i2 != i3) := by
        have h := T1.out (by omega) (by assumption) (by first | (left; assumption) | (right; assumption))
        simpa using h
      subst e
      refine (p6.out _).mono ?_
      rintro e w2 ⟨rfl, rfl⟩
      go_wp2_with fail
      refine (p7.out _).mono ?_
      rintro e w2 ⟨rfl, rfl⟩
      go_wp2_with fail
      refine (p8.out _).mono ?_
      rintro e w2 ⟨rfl, rfl⟩
      go_wp2_with fail
    all_goals
      go_meet
      first | exact ⟨rfl, rfl⟩ | exact ⟨by cases i2 <;> cases i3 <;> simp, rfl⟩
  case rest =>
  obtain ⟨rfl, rfl⟩ := hcut
  go_wp2_with fail
  refine (p9.out _).mono ?_
  rintro e w2 ⟨rfl, b9⟩
  have B9 := Lib.hid (B.out.trans (b9.mono B.out.size))
  clear b9
  go_wp2_with fail
  have hle := comOf_le a b
  have c1 := cut_low a (comOf a b) hle.1
  have c2 := cut_low b (comOf a b) hle.2
  have heq : b.extract 0 (comOf a b) = a.extract 0 (comOf a b) := by
    apply ByteArray.ext
    apply Array.toList_inj.1
    rw [ByteArray.data_extract, Array.toList_extract, ByteArray.data_extract, Array.toList_extract, List.extract_eq_take_drop, List.extract_eq_take_drop, List.drop_zero, List.drop_zero, Nat.sub_zero]
    exact (com_take a.data.toList b.data.toList).symm
  rw [heq] at c2
  have hx : ∀ (h1 : comOf a b < a.size) (h2 : comOf a b < b.size), a[comOf a b].toNat ≠ b[comOf a b].toNat := by
    intro h1 h2 e
    exact com_next a.data.toList b.data.toList (by rw [len_data]; exact h1) (by rw [len_data]; exact h2) (UInt8.toNat_inj.1 e)
  have HX := Lib.hid hx
  have HL := Lib.hid hle
  clear hx heq hle
  generalize comOf a b = n at *
  generalize a.extract 0 n = y2 at *
  have hle := HL.out
  by_cases h1 : n = a.size
  · subst h1
    refine wp_region_still_tail 45 (by kernel_rfl) (by kernel_rfl) (still_of_quiet _ _ ?_)
    simp only [List.take_succ_cons, List.take_zero, List.drop_succ_cons, List.drop_zero]
    repeat (go_big_quiet_step (fail))
    refine wpQuiet_nil ?_
    go_wp2_with fail
    refine (alive_any _).mono ?_
    rintro e w3 ⟨rfl, b3⟩
    go_wp2_with fail
    go_ret
    exact ⟨rfl, B9.out.drew.trans (b3.mono B9.out.drew.size)⟩
  by_cases h2 : n = b.size
  · subst h2
    have g1 : ((b.size : Int) == (a.size : Int)) = false := by simp; omega
    refine wp_region_still_tail 45 (by kernel_rfl) (by kernel_rfl) (still_of_quiet _ _ ?_)
    simp only [List.take_succ_cons, List.take_zero, List.drop_succ_cons, List.drop_zero]
    repeat (go_big_quiet_step (fail))
    refine wpQuiet_nil ?_
    go_wp2_with fail
    refine (alive_any _).mono ?_
    rintro e w3 ⟨rfl, b3⟩
    go_wp2_with fail
    go_ret
    exact ⟨rfl, B9.out.drew.trans (b3.mono B9.out.drew.size)⟩
  · have l1 : n < a.size := by omega
    have l2 : n < b.size := by omega
    have g1 : ((n : Int) == (a.size : Int)) = false := by simp; omega
    have g2 : ((n : Int) == (b.size : Int)) = false := by simp; omega
    have g3 : ((a[n].toNat : Int) != (b[n].toNat : Int)) = true := by
      have := HX.out l1 l2
      simp; omega
    clear h1 h2
    refine wp_region_still_tail 45 (by kernel_rfl) (by kernel_rfl) (still_of_quiet _ _ ?_)
    simp only [List.take_succ_cons, List.take_zero, List.drop_succ_cons, List.drop_zero]
    repeat (go_big_quiet_step (fail))
    refine wpQuiet_nil ?_
    go_wp2_with fail
    refine (alive_any _).mono ?_
    rintro e w3 ⟨rfl, b3⟩
    go_wp2_with fail
    go_ret
    exact ⟨rfl, B9.out.drew.trans (b3.mono B9.out.drew.size)⟩

theorem order_walk (a b c k : ByteArray) (w : World) (ha : a.size ≤ maxLen) (hb : b.size ≤ maxLen) (hc : c.size ≤ maxLen) (hk : k.size ≤ maxLen) :
    Calls Try.prog 4 #[.string a, .string b, .string c, .string k] w fun e w' => e = .returned (.bool true) ∧ Below w.heap.size w w' := by
  by_cases h : 512 < a.size ∨ 512 < b.size ∨ 512 < c.size ∨ 512 < k.size
  · exact order_long a b c k w ha hb hc hk h
  · exact order_short a b c k w (by omega) (by omega) (by omega) (by omega)

end Go.Proofs.Ytkicdblebhaekaa.Key
