/- Walks: a place and what is taken from it. -/
import Derived.Test.YtobnenjhmkbdoaaDoorOW4
import Derived.Test.YtobnenjhmkbdoaaDoorTO
import Derived.Lib.TrimByte
namespace Go.Proofs.YtobnenjhmkbdoaaDoor.Row
open Go.RowKit
attribute [local go_sem ↓] Go.wp_at_zero Go.wp_at_succ

theorem clone_any (s : ByteArray) (w : World) (hs : s.size ≤ 281474976710656) :
    Calls Tryd.prog 34 #[.string s] w fun e w' => e = .returned (.string s) ∧ Below w.heap.size w w' := by
  go_enter Tryd.func34, Tryd.ntmps34
  go_wp2_with (go_at_call 52; refine (Tryd.stringslite_Clone _ _ hs).mono ?_; rintro e w' ⟨rfl, hb⟩)
  go_ret
  exact ⟨rfl, hb⟩

set_option maxRecDepth 100000 in
theorem cut_any (s : ByteArray) (t n : Nat) (w : World) (hs : s.size ≤ 140737488351232) (ht : t ≤ s.size) (hn : n ≤ 140737488351232) :
    Calls Tryd.prog 58 #[.string s, .int .i64 (t : Int), .int .i64 (n : Int)] w fun e w' => e = .returned (.tuple #[.string (tkS s t n), .bool (tkB s t n)]) ∧ Below w.heap.size w w' := by
  by_cases h : t + n ≤ s.size
  · have hb : hasB s.size (t : Int) (n : Int) = true := by unfold hasB; rw [decide_eq_true_iff]; omega
    have e1 : tkS s t n = s.extract t (t + n) := by unfold tkS; rw [if_pos h]
    have e2 : tkB s t n = true := by unfold tkB; rw [decide_eq_true h]
    have H := has_any s t n w (by unfold maxLen; omega) (by omega)
    rw [hb] at H
    rw [e1, e2]
    have HH := Lib.hid H
    have HC := Lib.hid (fun W => clone_any (s.extract t (t + n)) W (by rw [ByteArray.size_extract]; omega))
    clear hb e1 e2 H
    go_enter Tryd.func58, Tryd.ntmps58
    go_wp2_with fail
    refine HH.out.mono ?_
    rintro e w1 ⟨rfl, rfl⟩
    go_wp2_with fail
    refine (HC.out _).mono ?_
    rintro e w1 ⟨rfl, b⟩
    go_wp2_with fail
    go_ret2
    exact ⟨rfl, b⟩
  · have hb : hasB s.size (t : Int) (n : Int) = false := by unfold hasB; rw [decide_eq_false_iff_not]; omega
    have e1 : tkS s t n = ⟨#[]⟩ := by unfold tkS; rw [if_neg h]
    have e2 : tkB s t n = false := by unfold tkB; rw [decide_eq_false h]
    have H := has_any s t n w (by unfold maxLen; omega) (by omega)
    rw [hb] at H
    rw [e1, e2]
    have HH := Lib.hid H
    clear hb e1 e2 H
    go_enter Tryd.func58, Tryd.ntmps58
    go_wp2_with fail
    refine HH.out.mono ?_
    rintro e w1 ⟨rfl, rfl⟩
    go_wp2_with fail
    go_ret2
    exact ⟨rfl, Below.refl _ _⟩

/-- the cells of a row that is being read, and its place -/
def fdC (s : ByteArray) (t : Nat) (r : Rw) : Array Value := #[.string s, .int .i64 (t : Int), .string r.key, .bool r.mark, .int .u64 (r.tx : Int), .int .u32 (r.page : Int), .int .u16 (r.slot : Int), .string r.value, .int .i64 r.pad]
def Fd (w : World) (f : Nat) (s : ByteArray) (t : Nat) (r : Rw) : Prop := w.heap[f]? = some (.cells (fdC s t r) 62 (0, 0))
theorem Fd.later {w w' : World} {f : Nat} {s : ByteArray} {t : Nat} {r : Rw} (h : Fd w f s t r) (b : Below w.heap.size w w') : Fd w' f s t r := (b.block f (Array.getElem?_eq_some_iff.1 h).1).trans h
theorem Fd.two {w : World} {f : Nat} {s : ByteArray} {t : Nat} {r : Rw} (h : Fd w f s t r) : w.cell? ⟨f, 0, none⟩ = some (.string s) ∧ w.cell? ⟨f, 1, none⟩ = some (.int .i64 (t : Int)) := by
  constructor <;> (rw [cell_of_row _ _ _ _ _ _ h]; rfl)
theorem Fd.set {w : World} {f : Nat} {s : ByteArray} {t : Nat} {r : Rw} (h : Fd w f s t r) (u : Nat) : Fd (w.setCell ⟨f, 1, none⟩ (.int .i64 (u : Int))) f s u r := heap_setCell_same w f 1 _ _ _ h

set_option maxRecDepth 100000 in
set_option maxHeartbeats 1000000 in
theorem next_any {w : World} {f : Nat} {s : ByteArray} {t : Nat} {r : Rw} (h : Fd w f s t r) (n : Nat) (hs : s.size ≤ 140737488351232) (ht : t ≤ s.size) (hn : n ≤ 140737488351232) :
    Calls Tryd.prog 44 #[.pointer (some ⟨f, 0, none⟩), .int .i64 (n : Int)] w fun e w' => e = .returned (.tuple #[.string (tkS s t n), .bool (tkB s t n)]) ∧ Fd w' f s (tkT s t n) r ∧ Touch (fun x => x = f) w w' := by
  have K := Lib.hid (fun W => cut_any s t n W hs ht hn)
  have e := tkS_size s t n
  have hl : tkT s t n ≤ 140737488351232 := Nat.le_trans (tkT_le n ht) hs
  generalize tkS s t n = x at *
  generalize tkB s t n = b at *
  generalize tkT s t n = u at *
  have F0 := Lib.hid (h.later ((Below.refl _ _).drew))
  have hx : x.size ≤ 140737488351232 := by omega
  have ht2 : t ≤ 140737488351232 := by omega
  have hw : IntKind.i64.wrap ((t : Int) + (x.size : Int)) = (u : Int) := by rw [IntKind.wrap_i64]; omega
  have B0 := Lib.hid ((Below.refl w.heap.size w).drew)
  have HU := Lib.hid e
  clear h e hn ht hs hl
  go_enter Tryd.func44, Tryd.ntmps44
  go_wp2_with fail
  go_region_held3 (fun w' => w'.cell? ⟨f, 0, none⟩ = some (.string s) ∧ w'.cell? ⟨f, 1, none⟩ = some (.int .i64 (t : Int))) (first | exact F0.out.two | exact F1.two)
    (first
      | (go_at_call 58; refine (K.out _).mono ?_; rintro e w2 ⟨rfl, b2⟩; have F1 := F0.out.later b2; have B1 := B0.out.trans (b2.mono B0.out.size); clear b2))
  obtain ⟨c0, c1⟩ := F1.two
  have fz := frozen_of_row _ _ 1 _ _ F1
  have F2 := Lib.hid (F1.set u)
  have T2 := Lib.hid ((Touch.ofNew B1 : Touch (fun x => x = f) w w2).setCell (x := ⟨f, 1, none⟩) rfl (.int .i64 (u : Int)))
  clear F1 B1 F0 B0 K
  go_wp2_with fail
  go_ret2
  refine ⟨rfl, ?_, ?_⟩
  · first | exact F2.out | (rw [HU.out]; exact F2.out) | (have := F2.out; rw [← HU.out] at this; exact this)
  · first | exact T2.out | (rw [HU.out]; exact T2.out) | (have := T2.out; rw [← HU.out] at this; exact this)

set_option maxRecDepth 100000 in
set_option maxHeartbeats 1000000 in
theorem left_any {w : World} {f : Nat} {s : ByteArray} {t : Nat} {r : Rw} (h : Fd w f s t r) (hs : s.size ≤ 140737488351232) (ht : t ≤ s.size) :
    Calls Tryd.prog 47 #[.pointer (some ⟨f, 0, none⟩)] w fun e w' => e = .returned (.int .i64 ((s.size : Int) - (t : Int))) ∧ Below w.heap.size w w' := by
  have F0 := Lib.hid (h.later ((Below.refl _ _).drew))
  have hw : IntKind.i64.wrap ((s.size : Int) - (t : Int)) = (s.size : Int) - (t : Int) := by rw [IntKind.wrap_i64]; omega
  have B0 := Lib.hid ((Below.refl w.heap.size w).drew)
  clear h ht
  go_enter Tryd.func47, Tryd.ntmps47
  go_wp2_with fail
  go_region_held3 (fun w' => w'.cell? ⟨f, 0, none⟩ = some (.string s) ∧ w'.cell? ⟨f, 1, none⟩ = some (.int .i64 (t : Int))) (exact F0.out.two) (fail)
  go_wp2_with fail
  go_ret
  exact ⟨rfl, B0.out⟩

theorem cut_high (s : ByteArray) (i : Nat) (h : i ≤ s.size) (W : World) : (Instr.sliceAt 9 (.string s) (some (.int .i64 (i : Int))) none none).run Tryd.prog W = .ok (.string (s.extract i s.size)) W := by
  rw [run_sliceAt_string (P := Tryd.prog) W 9 _ _ _ _ Tryd.underlying9, run_slice_string_l (P := Tryd.prog) W 9 s Tryd.underlying9 .i64 _ (by omega) (by omega), Int.toNat_natCast]
theorem part_list (s : ByteArray) (a b : Nat) : (s.extract a b).data.toList = (s.data.toList.drop a).take (b - a) := by
  rw [ByteArray.data_extract, Array.toList_extract, List.extract_eq_take_drop]
theorem list_len (s : ByteArray) : s.data.toList.length = s.size := (Lib.size_eq _).symm
theorem tail_list (s : ByteArray) (a : Nat) : (s.extract a s.size).data.toList = s.data.toList.drop a := by
  rw [part_list, List.take_of_length_le (by rw [List.length_drop, list_len]; omega)]
theorem dropWhile_nil (l : List UInt8) : (l.dropWhile (· == 0) = []) ↔ l.all (· == 0) = true := by
  induction l with
  | nil => simp
  | cons a r ih =>
    rw [List.dropWhile_cons, List.all_cons]
    cases h : (a == 0) with
    | true => simp only [if_true, Bool.true_and, ih]
    | false => simp
theorem trim_blank (s : ByteArray) (a : Nat) : (⟨(Lib.trimLeftB (s.extract a s.size).data.toList 0).toArray⟩ : ByteArray).toList.isEmpty = blankB s a := by
  rw [Lib.toList_data, tail_list]
  unfold blankB Lib.trimLeftB
  rw [Bool.eq_iff_iff, List.isEmpty_iff, ← dropWhile_nil]

set_option maxRecDepth 100000 in
set_option maxHeartbeats 1000000 in
theorem blank_any {w : World} {f : Nat} {s : ByteArray} {t : Nat} {r : Rw} (h : Fd w f s t r) (ht : t ≤ s.size) :
    Calls Tryd.prog 30 #[.pointer (some ⟨f, 0, none⟩)] w fun e w' => e = .returned (.bool (blankB s t)) ∧ Below w.heap.size w w' := by
  have F0 := Lib.hid (h.later ((Below.refl _ _).drew))
  have hsl := fun W => cut_high s t ht W
  have K := Lib.hid (fun W => Tryd.strings_TrimLeft_one (s.extract t s.size) 0 (by decide) W)
  have e := trim_blank s t
  have B0 := Lib.hid ((Below.refl w.heap.size w).drew)
  generalize (⟨(Lib.trimLeftB (s.extract t s.size).data.toList 0).toArray⟩ : ByteArray) = z at *
  generalize s.extract t s.size = y at *
  generalize blankB s t = b at *
  have E := Lib.hid e
  clear h ht e
  go_enter Tryd.func30, Tryd.ntmps30
  go_wp2_with fail
  go_region_held3 (fun w' => w'.cell? ⟨f, 0, none⟩ = some (.string s) ∧ w'.cell? ⟨f, 1, none⟩ = some (.int .i64 (t : Int))) (first | exact F0.out.two)
    (first | (go_at_call 48; refine (K.out _).mono ?_; rintro e w2 ⟨rfl, rfl⟩))
  go_wp2_with fail
  go_ret
  exact ⟨ret_bool (by rw [← E.out]), B0.out⟩

end Go.Proofs.YtobnenjhmkbdoaaDoor.Row
