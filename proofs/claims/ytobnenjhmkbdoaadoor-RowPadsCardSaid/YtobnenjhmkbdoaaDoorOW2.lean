/- Walks: numbers, texts, pieces; how long a row is; which rows may be in the document. -/
import Derived.Test.YtobnenjhmkbdoaaDoorOW1
import Derived.Test.YtobnenjhmkbdoaaDoorShelf
namespace Go.Proofs.YtobnenjhmkbdoaaDoor.Row
open Go.RowKit
attribute [local go_sem ↓] Go.wp_at_zero Go.wp_at_succ

theorem pow_le {m : Nat} (h8 : m ≤ 8) : 256 ^ m ≤ 18446744073709551616 := (Nat.pow_le_pow_right (by decide) h8 : 256 ^ m ≤ 256 ^ 8)
theorem num_ok {m n : Nat} (h8 : m ≤ 8) (hn : n < 256 ^ m) : U64 (n : Int) ∧ (((n : Int) / 2 ^ (8 * m)) != 0) = false := by
  have h := pow_le h8
  refine ⟨⟨by omega, by omega⟩, ?_⟩
  have e : (2 : Int) ^ (8 * m) = ((256 ^ m : Nat) : Int) := by rw [← pow256]; simp
  rw [e, Int.ediv_eq_zero_of_lt (by omega) (by omega)]
  rfl
theorem nb_eq (m n : Nat) : bytesOf m (n : Int) = nb m n := by unfold bytesOf nb; rw [Int.toNat_natCast]

set_option maxRecDepth 100000 in
theorem number_any (n m : Nat) (w : World) (h1 : 1 ≤ m) (h8 : m ≤ 8) (hn : n < 256 ^ m) :
    Calls Tryd.prog 22 #[.int .u64 (n : Int), .int .i64 (m : Int)] w fun e w' => e = .returned (.string (nb m n)) ∧ Below w.heap.size w w' := by
  obtain ⟨hu, hd⟩ := num_ok h8 hn
  have C := put_yes n m w h1 h8 hu.1 hd
  rw [nb_eq] at C
  have CC := Lib.hid C
  clear C hu hd hn
  go_enter Tryd.func22, Tryd.ntmps22
  go_wp2_with fail
  refine CC.out.mono ?_
  rintro e w' ⟨rfl, b⟩
  go_wp2_with fail
  go_ret
  exact ⟨rfl, b⟩

set_option maxRecDepth 100000 in
theorem rnumber_any (n m : Nat) (w : World) (h1 : 1 ≤ m) (h8 : m ≤ 8) (hn : n < 256 ^ m) :
    Calls Tryd.prog 25 #[.int .u64 (n : Int), .int .i64 (m : Int)] w fun e w' => e = .returned (.string (nb m n)) ∧ Below w.heap.size w w' := by
  obtain ⟨hu, hd⟩ := num_ok h8 hn
  have C := rput_yes n m w h1 h8 hu hd
  rw [nb_eq] at C
  have CC := Lib.hid C
  clear C hu hd hn
  go_enter Tryd.func25, Tryd.ntmps25
  go_wp2_with fail
  refine CC.out.mono ?_
  rintro e w' ⟨rfl, b⟩
  go_wp2_with fail
  go_ret
  exact ⟨rfl, b⟩

set_option maxRecDepth 100000 in
theorem mark_any (r : Rw) (w : World) :
    Calls Tryd.prog 21 #[rwV r] w fun e w' => e = .returned (.string (nb 1 (markN r))) ∧ Below w.heap.size w w' := by
  have K := Lib.hid (fun (n : Nat) (h : n < 256) W => number_any n 1 W (by decide) (by decide) h)
  have T0 := Lib.hid (Bx.start w r)
  have e : markN r = if r.mark then 1 else 0 := rfl
  generalize markN r = x at *
  unfold rwV rwC at *
  obtain ⟨a0, a1, a2, a3, a4, a5, a6⟩ := T0.out.all
  obtain ⟨key, mark, tx, page, slot, value, pad⟩ := r
  simp only at *
  have E := Lib.hid e
  clear e
  cases mark with
  | false =>
    go_enter Tryd.func21, Tryd.ntmps21
    go_wp2_with fail
    refine (K.out 0 (by decide) _).mono ?_
    rintro e w' ⟨rfl, b⟩
    have T1 := Lib.hid (T0.out.later b).below
    clear a0 a1 a2 a3 a4 a5 a6 b T0
    go_wp2_with fail
    go_ret
    exact ⟨by rw [E.out]; rfl, T1.out⟩
  | true =>
    go_enter Tryd.func21, Tryd.ntmps21
    go_wp2_with fail
    refine (K.out 1 (by decide) _).mono ?_
    rintro e w' ⟨rfl, b⟩
    have T1 := Lib.hid (T0.out.later b).below
    clear a0 a1 a2 a3 a4 a5 a6 b T0
    go_wp2_with fail
    go_ret
    exact ⟨by rw [E.out]; rfl, T1.out⟩

set_option maxRecDepth 100000 in
theorem text_any (s : ByteArray) (w : World) (hs : s.size < 256) :
    Calls Tryd.prog 23 #[.string s] w fun e w' => e = .returned (.string (tx1 s)) ∧ Below w.heap.size w w' := by
  have K := Lib.hid (number_any s.size 1 w (by decide) (by decide) hs)
  have e : tx1 s = nb 1 s.size ++ s := rfl
  have z := nb_size 1 s.size
  generalize tx1 s = x at *
  generalize nb 1 s.size = y at *
  have E := Lib.hid e
  clear e
  go_enter Tryd.func23, Tryd.ntmps23
  go_wp2_with fail
  refine K.out.mono ?_
  rintro e w' ⟨rfl, b⟩
  have B := Lib.hid b
  clear b
  go_wp2_with fail
  go_ret
  exact ⟨by rw [E.out]; rfl, B.out⟩

set_option maxRecDepth 100000 in
set_option maxHeartbeats 1000000 in
theorem size_any (r : Rw) (w : World) (hr : r.wf) :
    Calls Tryd.prog 14 #[rwV r] w fun e w' => e = .returned (.int .i64 (sizeR r)) ∧ Below w.heap.size w w' := by
  have K := Lib.hid (fun W => may_any r W hr)
  have T0 := Lib.hid (Bx.start w r)
  have e : sizeR r = if mayR r then 17 + (r.key.size : Int) + r.value.size + r.pad else 0 := rfl
  have m := fun h => @may_parts r h
  have M := Lib.hid m
  clear m
  generalize sizeR r = x at *
  have E := Lib.hid e
  clear e hr
  obtain ⟨a0, a1, a2, a3, a4, a5, a6⟩ := T0.out.all
  unfold rwV rwC at *
  go_enter Tryd.func14, Tryd.ntmps14
  go_wp2_with fail
  refine (K.out _).mono ?_
  rintro e w1 ⟨rfl, b⟩
  have T1 := Lib.hid (T0.out.later b)
  clear a0 a1 a2 a3 a4 a5 a6 b T0
  cases hm : mayR r with
  | false =>
    rw [hm] at E
    clear hm
    go_wp2_with fail
    go_ret
    exact ⟨by rw [E.out]; rfl, T1.out.below⟩
  | true =>
    rw [hm] at E
    obtain ⟨m1, m2, m3, m4, m5, m6⟩ := M.out hm
    clear hm M
    obtain ⟨a0, a1, a2, a3, a4, a5, a6⟩ := T1.out.all
    go_wp2_with fail
    go_ret
    exact ⟨by rw [E.out]; rfl, T1.out.below⟩

/-- more of a row than the laws look at -/
def longB (r : Rw) : Bool := decide (1024 < r.key.size + r.value.size)
set_option maxRecDepth 100000 in
set_option maxHeartbeats 1000000 in
theorem long_any (r : Rw) (w : World) (hr : r.wf) :
    Calls Tryd.prog 8 #[rwV r] w fun e w' => e = .returned (.bool (longB r)) ∧ Below w.heap.size w w' := by
  have T0 := Lib.hid (Bx.start w r)
  obtain ⟨a0, a1, a2, a3, a4, a5, a6⟩ := T0.out.all
  obtain ⟨_, _, _, _, h5, h6⟩ := hr
  have e : longB r = decide ((1024 : Int) < (r.key.size : Int) + r.value.size) := decide_eq_decide.2 (by omega)
  generalize longB r = x at *
  have E := Lib.hid e
  clear e
  unfold rwV rwC at *
  go_enter Tryd.func8, Tryd.ntmps8
  go_wp2_with fail
  go_ret
  exact ⟨ret_bool (by rw [E.out]), T0.out.below⟩

set_option maxRecDepth 100000 in
set_option maxHeartbeats 2000000 in
theorem rmay_pos (r : Rw) (w : World) (hr : r.wf) (hp : 0 < r.page) :
    Calls Tryd.prog 13 #[rwV r] w fun e w' => e = .returned (.bool (mayR r)) ∧ Below w.heap.size w w' := by
  have B := Lib.hid (below_new w (.cells (rwC r) 28))
  have e : mayR r = true ↔ 1 ≤ r.key.size ∧ r.key.size ≤ 48 ∧ 0 ≤ r.pad ∧ r.pad + r.value.size ≤ 96 ∧ r.page ≤ 1024 ∧ (0 < r.page ∨ r.slot = 0) := by
    simp [mayR, mayK, mayP, mayL, and_assoc]
  obtain ⟨h1, h2, h3, h4, h5, h6⟩ := hr
  generalize mayR r = x at *
  have E := Lib.hid e
  clear e
  unfold rwV rwC at *
  go_enter Tryd.func13, Tryd.ntmps13
  go_wp2_with fail
  all_goals
    go_ret
    exact ⟨ret_bool (by rw [Bool.eq_iff_iff, E.out]; simp only [Bool.false_eq_true, false_iff, true_iff]; omega), B.out⟩

set_option maxRecDepth 100000 in
set_option maxHeartbeats 2000000 in
theorem rmay_zero (key : ByteArray) (mark : Bool) (tx slot : Nat) (value : ByteArray) (pad : Int) (w : World) (hr : Rw.wf ⟨key, mark, tx, 0, slot, value, pad⟩) :
    Calls Tryd.prog 13 #[.agg #[.string key, .bool mark, .int .u64 (tx : Int), .int .u32 0, .int .u16 (slot : Int), .string value, .int .i64 pad]] w fun e w' => e = .returned (.bool (mayR ⟨key, mark, tx, 0, slot, value, pad⟩)) ∧ Below w.heap.size w w' := by
  have B := Lib.hid (fun o => below_new w o)
  have e : mayR ⟨key, mark, tx, 0, slot, value, pad⟩ = true ↔ 1 ≤ key.size ∧ key.size ≤ 48 ∧ 0 ≤ pad ∧ pad + value.size ≤ 96 ∧ slot = 0 := by
    simp [mayR, mayK, mayP, mayL, and_assoc]
  obtain ⟨h1, h2, h3, h4, h5, h6⟩ := hr
  simp only at h3 h4 h5 h6
  generalize mayR _ = x at *
  have E := Lib.hid e
  clear e
  go_enter Tryd.func13, Tryd.ntmps13
  go_wp2_with fail
  all_goals
    go_ret
    exact ⟨ret_bool (by rw [Bool.eq_iff_iff, E.out]; simp only [beq_iff_eq, Bool.false_eq_true, false_iff]; omega), B.out _⟩

theorem rmay_any (r : Rw) (w : World) (hr : r.wf) :
    Calls Tryd.prog 13 #[rwV r] w fun e w' => e = .returned (.bool (mayR r)) ∧ Below w.heap.size w w' := by
  rcases Nat.eq_zero_or_pos r.page with h | h
  · obtain ⟨key, mark, tx, page, slot, value, pad⟩ := r
    simp only at h
    subst h
    exact rmay_zero key mark tx slot value pad w hr
  · exact rmay_pos r w hr h

end Go.Proofs.YtobnenjhmkbdoaaDoor.Row
