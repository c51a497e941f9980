/-
  Walks: a place and what is taken from it.
  Walks: closures that take part by part.
  Walks: a row is read from its place.
  Walks: bytes are read as a row.
-/
import Derived.Lib.TrimByte
import Derived.Laws.Tables
import Derived.Test.YtbdbnpcbbebelaaDoorZ5
import Derived.Test.YtbdbnpcbbebelaaDoorZ3
namespace Go.Proofs.YtbdbnpcbbebelaaDoor.Row
open Go.RowKit
attribute [local go_sem ↓] Go.wp_at_zero Go.wp_at_succ

theorem clone_any (s : ByteArray) (w : World) (hs : s.size ≤ 281474976710656) :
    Calls Tryd.prog 66 #[.string s] w fun e w' => e = .returned (.string s) ∧ Below w.heap.size w w' := by
  go_enter Tryd.func66, Tryd.ntmps66
  go_wp2_with (go_at_call 77; refine (Tryd.stringslite_Clone _ _ hs).mono ?_; rintro e w' ⟨rfl, hb⟩)
  go_ret
  exact ⟨rfl, hb⟩

set_option maxRecDepth 100000 in
theorem cut_any (s : ByteArray) (t n : Nat) (w : World) (hs : s.size ≤ 140737488351232) (ht : t ≤ s.size) (hn : n ≤ 140737488351232) :
    Calls Tryd.prog 97 #[.string s, .int .i64 (t : Int), .int .i64 (n : Int)] w fun e w' => e = .returned (.tuple #[.string (tkS s t n), .bool (tkB s t n)]) ∧ Below w.heap.size w w' := by
  by_cases h : t + n ≤ s.size
  · have hb : hasB s.size (t : Int) (n : Int) = true := by unfold hasB; rw [decide_eq_true_iff]; omega
    have e1 : tkS s t n = s.extract t (t + n) := by unfold tkS; rw [if_pos h]
    have e2 : tkB s t n = true := by unfold tkB; rw [decide_eq_true h]
    have H := has_any s t n w (by unfold maxLen; omega) (by omega)
    rw [hb] at H
    rw [e1, e2]
    have HH := Lib.hid H
    have HC := Lib.hid (fun W => clone_any (s.extract t (t + n)) W (by rw [ByteArray.size_extract]; omega))
    clear hb e1 e2 H
    go_enter Tryd.func97, Tryd.ntmps97
    go_wp2_with fail
    refine HH.out.mono ?_
    rintro e w1 ⟨rfl, rfl⟩
    go_wp2_with fail
    refine (HC.out _).mono ?_
    rintro e w1 ⟨rfl, b⟩
    go_wp2_with fail
    go_ret2
    exact ⟨rfl, b⟩
  · have hb : hasB s.size (t : Int) (n : Int) = false := by unfold hasB; rw [decide_eq_false_iff_not]; omega
    have e1 : tkS s t n = ⟨#[]⟩ := by unfold tkS; rw [if_neg h]
    have e2 : tkB s t n = false := by unfold tkB; rw [decide_eq_false h]
    have H := has_any s t n w (by unfold maxLen; omega) (by omega)
    rw [hb] at H
    rw [e1, e2]
    have HH := Lib.hid H
    clear hb e1 e2 H
    go_enter Tryd.func97, Tryd.ntmps97
    go_wp2_with fail
    refine HH.out.mono ?_
    rintro e w1 ⟨rfl, rfl⟩
    go_wp2_with fail
    go_ret2
    exact ⟨rfl, Below.refl _ _⟩

/-- the cells of a row that is being read, and its place -/
def fdC (s : ByteArray) (t : Nat) (r : Rw) : Array Value := #[.string s, .int .i64 (t : Int), .string r.key, .bool r.mark, .int .u64 (r.tx : Int), .int .u32 (r.page : Int), .int .u16 (r.slot : Int), .string r.value, .int .i64 r.pad]
def Fd (w : World) (f : Nat) (s : ByteArray) (t : Nat) (r : Rw) : Prop := w.heap[f]? = some (.cells (fdC s t r) 123 (0, 0))
theorem Fd.later {w w' : World} {f : Nat} {s : ByteArray} {t : Nat} {r : Rw} (h : Fd w f s t r) (b : Below w.heap.size w w') : Fd w' f s t r := (b.block f (Array.getElem?_eq_some_iff.1 h).1).trans h
theorem Fd.two {w : World} {f : Nat} {s : ByteArray} {t : Nat} {r : Rw} (h : Fd w f s t r) : w.cell? ⟨f, 0, none⟩ = some (.string s) ∧ w.cell? ⟨f, 1, none⟩ = some (.int .i64 (t : Int)) := by
  constructor <;> (rw [cell_of_row _ _ _ _ _ _ h]; rfl)
theorem Fd.set {w : World} {f : Nat} {s : ByteArray} {t : Nat} {r : Rw} (h : Fd w f s t r) (u : Nat) : Fd (w.setCell ⟨f, 1, none⟩ (.int .i64 (u : Int))) f s u r := heap_setCell_same w f 1 _ _ _ h

set_option maxRecDepth 100000 in
set_option maxHeartbeats 1000000 in
theorem next_any {w : World} {f : Nat} {s : ByteArray} {t : Nat} {r : Rw} (h : Fd w f s t r) (n : Nat) (hs : s.size ≤ 140737488351232) (ht : t ≤ s.size) (hn : n ≤ 140737488351232) :
    Calls Tryd.prog 89 #[.pointer (some ⟨f, 0, none⟩), .int .i64 (n : Int)] w fun e w' => e = .returned (.tuple #[.string (tkS s t n), .bool (tkB s t n)]) ∧ Fd w' f s (tkT s t n) r ∧ Touch (fun x => x = f) w w' := by
  have K := Lib.hid (fun W => cut_any s t n W hs ht hn)
  have e := tkS_size s t n
  have hl : tkT s t n ≤ 140737488351232 := Nat.le_trans (tkT_le n ht) hs
  generalize tkS s t n = x at *
  generalize tkB s t n = b at *
  generalize tkT s t n = u at *
  have F0 := Lib.hid (h.later ((Below.refl _ _).drew))
  have hx : x.size ≤ 140737488351232 := by omega
  have ht2 : t ≤ 140737488351232 := by omega
  have hw : IntKind.i64.wrap ((t : Int) + (x.size : Int)) = (u : Int) := by rw [IntKind.wrap_i64]; omega
  have B0 := Lib.hid ((Below.refl w.heap.size w).drew)
  have HU := Lib.hid e
  clear h e hn ht hs hl
  go_enter Tryd.func89, Tryd.ntmps89
  go_wp2_with fail
  go_region_held3 (fun w' => w'.cell? ⟨f, 0, none⟩ = some (.string s) ∧ w'.cell? ⟨f, 1, none⟩ = some (.int .i64 (t : Int))) (first | exact F0.out.two | exact F1.two)
    (first
      | (go_at_call 97; refine (K.out _).mono ?_; rintro e w2 ⟨rfl, b2⟩; have F1 := F0.out.later b2; have B1 := B0.out.trans (b2.mono B0.out.size); clear b2))
  obtain ⟨c0, c1⟩ := F1.two
  have fz := frozen_of_row _ _ 1 _ _ F1
  have F2 := Lib.hid (F1.set u)
  have T2 := Lib.hid ((Touch.ofNew B1 : Touch (fun x => x = f) w w2).setCell (x := ⟨f, 1, none⟩) rfl (.int .i64 (u : Int)))
  clear F1 B1 F0 B0 K
  go_wp2_with fail
  go_ret2
  refine ⟨rfl, ?_, ?_⟩
  · first | exact F2.out | (rw [HU.out]; exact F2.out) | (have := F2.out; rw [← HU.out] at this; exact this)
  · first | exact T2.out | (rw [HU.out]; exact T2.out) | (have := T2.out; rw [← HU.out] at this; exact this)

set_option maxRecDepth 100000 in
set_option maxHeartbeats 1000000 in
theorem left_any {w : World} {f : Nat} {s : ByteArray} {t : Nat} {r : Rw} (h : Fd w f s t r) (hs : s.size ≤ 140737488351232) (ht : t ≤ s.size) :
    Calls Tryd.prog 92 #[.pointer (some ⟨f, 0, none⟩)] w fun e w' => e = .returned (.int .i64 ((s.size : Int) - (t : Int))) ∧ Below w.heap.size w w' := by
  have F0 := Lib.hid (h.later ((Below.refl _ _).drew))
  have hw : IntKind.i64.wrap ((s.size : Int) - (t : Int)) = (s.size : Int) - (t : Int) := by rw [IntKind.wrap_i64]; omega
  have B0 := Lib.hid ((Below.refl w.heap.size w).drew)
  clear h ht
  go_enter Tryd.func92, Tryd.ntmps92
  go_wp2_with fail
  go_region_held3 (fun w' => w'.cell? ⟨f, 0, none⟩ = some (.string s) ∧ w'.cell? ⟨f, 1, none⟩ = some (.int .i64 (t : Int))) (exact F0.out.two) (fail)
  go_wp2_with fail
  go_ret
  exact ⟨rfl, B0.out⟩

theorem cut_high (s : ByteArray) (i : Nat) (h : i ≤ s.size) (W : World) : (Instr.sliceAt 9 (.string s) (some (.int .i64 (i : Int))) none none).run Tryd.prog W = .ok (.string (s.extract i s.size)) W := by
  rw [run_sliceAt_string (P := Tryd.prog) W 9 _ _ _ _ Tryd.underlying9, run_slice_string_l (P := Tryd.prog) W 9 s Tryd.underlying9 .i64 _ (by omega) (by omega), Int.toNat_natCast]
theorem part_list (s : ByteArray) (a b : Nat) : (s.extract a b).data.toList = (s.data.toList.drop a).take (b - a) := by
  rw [ByteArray.data_extract, Array.toList_extract, List.extract_eq_take_drop]
theorem list_len (s : ByteArray) : s.data.toList.length = s.size := (Lib.size_eq _).symm
theorem tail_list (s : ByteArray) (a : Nat) : (s.extract a s.size).data.toList = s.data.toList.drop a := by
  rw [part_list, List.take_of_length_le (by rw [List.length_drop, list_len]; omega)]
theorem dropWhile_nil (l : List UInt8) : (l.dropWhile (· == 0) = []) ↔ l.all (· == 0) = true := by
  induction l with
  | nil => simp
  | cons a r ih =>
    rw [List.dropWhile_cons, List.all_cons]
    cases h : (a == 0) with
    | true => simp only [if_true, Bool.true_and, ih]
    | false => simp
theorem trim_blank (s : ByteArray) (a : Nat) : (⟨(Lib.trimLeftB (s.extract a s.size).data.toList 0).toArray⟩ : ByteArray).toList.isEmpty = blankB s a := by
  rw [Lib.toList_data, tail_list]
  unfold blankB Lib.trimLeftB
  rw [Bool.eq_iff_iff, List.isEmpty_iff, ← dropWhile_nil]

set_option maxRecDepth 100000 in
set_option maxHeartbeats 1000000 in
theorem blank_any {w : World} {f : Nat} {s : ByteArray} {t : Nat} {r : Rw} (h : Fd w f s t r) (ht : t ≤ s.size) :
    Calls Tryd.prog 86 #[.pointer (some ⟨f, 0, none⟩)] w fun e w' => e = .returned (.bool (blankB s t)) ∧ Below w.heap.size w w' := by
  have F0 := Lib.hid (h.later ((Below.refl _ _).drew))
  have hsl := fun W => cut_high s t ht W
  have K := Lib.hid (fun W => Tryd.strings_TrimLeft_one (s.extract t s.size) 0 (by decide) W)
  have e := trim_blank s t
  have B0 := Lib.hid ((Below.refl w.heap.size w).drew)
  generalize (⟨(Lib.trimLeftB (s.extract t s.size).data.toList 0).toArray⟩ : ByteArray) = z at *
  generalize s.extract t s.size = y at *
  generalize blankB s t = b at *
  have E := Lib.hid e
  clear h ht e
  go_enter Tryd.func86, Tryd.ntmps86
  go_wp2_with fail
  go_region_held3 (fun w' => w'.cell? ⟨f, 0, none⟩ = some (.string s) ∧ w'.cell? ⟨f, 1, none⟩ = some (.int .i64 (t : Int))) (first | exact F0.out.two)
    (first | (go_at_call 96; refine (K.out _).mono ?_; rintro e w2 ⟨rfl, rfl⟩))
  go_wp2_with fail
  go_ret
  exact ⟨ret_bool (by rw [← E.out]), B0.out⟩

end Go.Proofs.YtbdbnpcbbebelaaDoor.Row

namespace Go.Proofs.YtbdbnpcbbebelaaDoor.Row
open Go.RowKit
attribute [local go_sem ↓] Go.wp_at_zero Go.wp_at_succ

def takeF (p h : Nat) : Value := .func (.func 88) #[] #[.pointer (some ⟨p, 0, none⟩), .pointer (some ⟨h, 0, none⟩)]
def numF (k : Nat) : Value := .func (.func 90) #[] #[.pointer (some ⟨k, 0, none⟩)]
def textF (k m : Nat) : Value := .func (.func 91) #[] #[.pointer (some ⟨k, 0, none⟩), .pointer (some ⟨m, 0, none⟩)]

theorem block_ne {w : World} {x y : Nat} {cs ds : Array Value} {t u : TypeId} {f g : Nat × Nat} (h : w.heap[x]? = some (.cells cs t f)) (k : w.heap[y]? = some (.cells ds u g)) (hn : t ≠ u) : x ≠ y := by
  rintro rfl
  rw [h] at k
  simp at k
  exact hn k.2.1

/-- a row that is being read: its cells, its box, whether all was there, the closures -/
structure St (W0 w : World) (f p h k m : Nat) (s : ByteArray) (t : Nat) (r : Rw) (b : Bool) : Prop where
  fd : Fd w f s t r
  box : w.heap[p]? = some (.cells #[.pointer (some ⟨f, 0, none⟩)] 124 (0, 0))
  whole : w.heap[h]? = some (.cells #[.bool b] 4 (0, 0))
  take : w.heap[k]? = some (.cells #[takeF p h] 126 (0, 0))
  num : w.heap[m]? = some (.cells #[numF k] 127 (0, 0))
  touch : Touch (fun x => x = f) W0 w
  new : W0.heap.size ≤ h
theorem St.later {W0 w w' : World} {f p h k m : Nat} {s : ByteArray} {t : Nat} {r : Rw} {b : Bool} (S : St W0 w f p h k m s t r b) (u : Below w.heap.size w w') : St W0 w' f p h k m s t r b :=
  have on : ∀ {x : Nat} {o : Obj}, w.heap[x]? = some o → w'.heap[x]? = some o := fun hx => (u.block _ (Array.getElem?_eq_some_iff.1 hx).1).trans hx
  ⟨on S.fd, on S.box, on S.whole, on S.take, on S.num, S.touch.trans' (Touch.ofNew u), S.new⟩
theorem St.touched {W0 w w' : World} {f p h k m : Nat} {s : ByteArray} {t t' : Nat} {r r' : Rw} {b : Bool} (S : St W0 w f p h k m s t r b) (F : Fd w' f s t' r') (u : Touch (fun x => x = f) w w') : St W0 w' f p h k m s t' r' b := by
  have on : ∀ {x : Nat} {cs : Array Value} {ty : TypeId} {fz : Nat × Nat}, w.heap[x]? = some (.cells cs ty fz) → 123 ≠ ty → w'.heap[x]? = some (.cells cs ty fz) := fun hx hn =>
    (u.block _ (Array.getElem?_eq_some_iff.1 hx).1 (fun e => block_ne S.fd hx hn e.symm)).trans hx
  exact ⟨F, on S.box (by decide), on S.whole (by decide), on S.take (by decide), on S.num (by decide), S.touch.trans' u, S.new⟩
theorem St.setWhole {W0 w : World} {f p h k m : Nat} {s : ByteArray} {t : Nat} {r : Rw} {b : Bool} (S : St W0 w f p h k m s t r b) (b' : Bool) : St W0 (w.setCell ⟨h, 0, none⟩ (.bool b')) f p h k m s t r b' := by
  have on : ∀ {x : Nat} {cs : Array Value} {ty : TypeId} {fz : Nat × Nat}, w.heap[x]? = some (.cells cs ty fz) → 4 ≠ ty → (w.setCell ⟨h, 0, none⟩ (.bool b')).heap[x]? = some (.cells cs ty fz) := fun hx hn => by
    rw [heap_setCell_other _ _ _ _ (fun e => block_ne S.whole hx hn e.symm)]; exact hx
  refine ⟨on S.fd (by decide), on S.box (by decide), ?_, on S.take (by decide), on S.num (by decide), S.touch.setNew (x := ⟨h, 0, none⟩) S.new _, S.new⟩
  rw [heap_setCell_same w h 0 _ _ _ S.whole]; rfl
/-- a part of the row is another one -/
theorem St.part {W0 w : World} {f p h k m : Nat} {s : ByteArray} {t : Nat} {r r' : Rw} {b : Bool} (S : St W0 w f p h k m s t r b) (j : Nat) (v : Value) (e : (fdC s t r).setIfInBounds j v = fdC s t r') : St W0 (w.setCell ⟨f, j, none⟩ v) f p h k m s t r' b := by
  refine S.touched ?_ ((Touch.refl (fun x => x = f) w).setCell (x := ⟨f, j, none⟩) rfl v)
  unfold Fd
  rw [heap_setCell_same w f j _ _ _ S.fd, e]

theorem St.boxC {W0 w : World} {f p h k m : Nat} {s : ByteArray} {t : Nat} {r : Rw} {b : Bool} (S : St W0 w f p h k m s t r b) : w.cell? ⟨p, 0, none⟩ = some (.pointer (some ⟨f, 0, none⟩)) := by rw [cell_of_row _ _ _ _ _ _ S.box]; rfl
theorem St.wholeC {W0 w : World} {f p h k m : Nat} {s : ByteArray} {t : Nat} {r : Rw} {b : Bool} (S : St W0 w f p h k m s t r b) : w.cell? ⟨h, 0, none⟩ = some (.bool b) ∧ w.frozen? ⟨h, 0, none⟩ = false := ⟨by rw [cell_of_row _ _ _ _ _ _ S.whole]; rfl, frozen_of_row _ _ _ _ _ S.whole⟩
theorem St.takeC {W0 w : World} {f p h k m : Nat} {s : ByteArray} {t : Nat} {r : Rw} {b : Bool} (S : St W0 w f p h k m s t r b) : w.cell? ⟨k, 0, none⟩ = some (takeF p h) := by rw [cell_of_row _ _ _ _ _ _ S.take]; rfl
theorem St.numC {W0 w : World} {f p h k m : Nat} {s : ByteArray} {t : Nat} {r : Rw} {b : Bool} (S : St W0 w f p h k m s t r b) : w.cell? ⟨m, 0, none⟩ = some (numF k) := by rw [cell_of_row _ _ _ _ _ _ S.num]; rfl

set_option maxRecDepth 100000 in
set_option maxHeartbeats 1000000 in
theorem take_any {W0 w : World} {f p h k m : Nat} {s : ByteArray} {t : Nat} {r : Rw} {b : Bool} (S : St W0 w f p h k m s t r b) (n : Nat) (hs : s.size ≤ 140737488351232) (ht : t ≤ s.size) (hn : n ≤ 140737488351232) :
    Calls Tryd.prog 88 #[.int .i64 (n : Int), .pointer (some ⟨p, 0, none⟩), .pointer (some ⟨h, 0, none⟩)] w fun e w' => e = .returned (.string (tkS s t n)) ∧ St W0 w' f p h k m s (tkT s t n) r (b && tkB s t n) := by
  have K := Lib.hid (next_any S.fd n hs ht hn)
  have c0 := S.boxC
  have SS := Lib.hid S
  clear S hs ht hn
  generalize tkS s t n = x at *
  generalize tkB s t n = y at *
  generalize tkT s t n = u at *
  go_enter Tryd.func88, Tryd.ntmps88
  go_wp2_with fail
  refine K.out.mono ?_
  rintro e w1 ⟨rfl, F1, u1⟩
  have S1 := Lib.hid (SS.out.touched F1 u1)
  clear F1 u1 SS K c0
  obtain ⟨c0, fz⟩ := S1.out.wholeC
  cases b with
  | false =>
    have S2 := Lib.hid (S1.out.setWhole false)
    clear S1
    go_wp2_with fail
    go_ret
    exact ⟨rfl, S2.out⟩
  | true =>
    have S2 := Lib.hid (S1.out.setWhole y)
    clear S1
    go_wp2_with fail
    go_ret
    exact ⟨rfl, by simpa using S2.out⟩

theorem get_part {s : ByteArray} {t n : Nat} (w : World) (_hs : s.size ≤ 140737488351232) (h1 : 1 ≤ n) (h8 : n ≤ 8) :
    ∃ b, Calls Tryd.prog 64 #[.string (tkS s t n), .int .i64 0, .int .i64 (n : Int)] w fun e w' => e = .returned (.tuple #[.int .u64 (tkN s t n : Int), .bool b]) ∧ w = w' := by
  have hz : (tkS s t n).size ≤ 140737488351232 := by
    unfold tkS
    split
    · rw [ByteArray.size_extract]; omega
    · exact Nat.zero_le _
  refine ⟨getB (tkS s t n) 0 n, ?_⟩
  have := get_any (tkS s t n) 0 (n : Int) w (by omega) (by omega)
  have e : getN (tkS s t n) 0 n = (tkN s t n : Int) := by
    unfold getN getB hasB mayB tkS tkN
    by_cases h : t + n ≤ s.size
    · rw [if_pos h, if_pos h, if_pos]
      · have := numAt_part s t n n h (Nat.le_refl _)
        show ((numAt (s.extract t (t + n)) 0 n : Nat) : Int) = _
        rw [this]
      · simp only [Bool.and_eq_true, decide_eq_true_eq, ByteArray.size_extract]
        omega
    · rw [if_neg h, if_neg h, if_neg]
      · rfl
      · have : (⟨#[]⟩ : ByteArray).size = 0 := rfl
        simp only [Bool.and_eq_true, decide_eq_true_eq, this]
        omega
  rw [e] at this
  exact this

set_option maxRecDepth 100000 in
set_option maxHeartbeats 1000000 in
theorem num_any {W0 w : World} {f p h k m : Nat} {s : ByteArray} {t : Nat} {r : Rw} {b : Bool} (S : St W0 w f p h k m s t r b) (n : Nat) (hs : s.size ≤ 140737488351232) (ht : t ≤ s.size) (h1 : 1 ≤ n) (h8 : n ≤ 8) :
    Calls Tryd.prog 90 #[.int .i64 (n : Int), .pointer (some ⟨k, 0, none⟩)] w fun e w' => e = .returned (.int .u64 (tkN s t n : Int)) ∧ St W0 w' f p h k m s (tkT s t n) r (b && tkB s t n) := by
  have K := Lib.hid (take_any S n hs ht (by omega))
  have G := Lib.hid (fun W => get_part (s := s) (t := t) (n := n) W hs h1 h8)
  have c0 := S.takeC
  unfold takeF at c0
  clear S hs ht h1 h8
  generalize tkS s t n = x at *
  generalize tkB s t n = y at *
  generalize tkT s t n = u at *
  generalize tkN s t n = z at *
  go_enter Tryd.func90, Tryd.ntmps90
  go_wp2_with fail
  refine K.out.mono ?_
  rintro e w1 ⟨rfl, S1⟩
  have SS := Lib.hid S1
  clear S1 c0 K
  go_wp2_with fail
  obtain ⟨b2, g2⟩ := G.out w1
  refine g2.mono ?_
  rintro e w2 ⟨rfl, rfl⟩
  go_wp2_with fail
  go_ret
  exact ⟨rfl, SS.out⟩

set_option maxRecDepth 100000 in
set_option maxHeartbeats 1000000 in
theorem txt_any {W0 w : World} {f p h k m : Nat} {s : ByteArray} {t : Nat} {r : Rw} {b : Bool} (S : St W0 w f p h k m s t r b) (hs : s.size ≤ 140737488351232) (ht : t ≤ s.size) :
    Calls Tryd.prog 91 #[.pointer (some ⟨k, 0, none⟩), .pointer (some ⟨m, 0, none⟩)] w fun e w' => e = .returned (.string (tkS s (tkT s t 1) (tkN s t 1))) ∧ St W0 w' f p h k m s (tkT s (tkT s t 1) (tkN s t 1)) r (b && tkB s t 1 && tkB s (tkT s t 1) (tkN s t 1)) := by
  have S0 := Lib.hid (S.later ((Below.refl _ _).drew))
  have lt := tkN_lt s t 1
  have le := tkT_le (s := s) 1 ht
  have K1 := Lib.hid (show Calls Tryd.prog 90 #[.int .i64 1, .pointer (some ⟨k, 0, none⟩)] w.drew fun e w' => e = .returned (.int .u64 (tkN s t 1 : Int)) ∧ St W0 w' f p h k m s (tkT s t 1) r (b && tkB s t 1) from num_any S0.out 1 hs ht (by decide) (by decide))
  clear S ht
  generalize tkT s t 1 = u at *
  generalize tkB s t 1 = y at *
  generalize tkN s t 1 = z at *
  have hw : IntKind.i64.wrap (z : Int) = (z : Int) := by rw [IntKind.wrap_i64]; omega
  have K2 := Lib.hid (fun W (S : St W0 W f p h k m s u r (b && y)) => take_any S z hs le (by omega))
  clear lt le hs
  go_enter Tryd.func91, Tryd.ntmps91
  go_wp2_with fail
  go_region_held3 (fun w' => w'.cell? ⟨k, 0, none⟩ = some (.func (.func 88) #[] #[.pointer (some ⟨p, 0, none⟩), .pointer (some ⟨h, 0, none⟩)]) ∧ w'.cell? ⟨m, 0, none⟩ = some (.func (.func 90) #[] #[.pointer (some ⟨k, 0, none⟩)])) (first | exact ⟨S0.out.takeC, S0.out.numC⟩ | exact ⟨S1.takeC, S1.numC⟩ | exact ⟨S2.takeC, S2.numC⟩)
    (first
      | (go_at_call 90; refine K1.out.mono ?_; rintro e w1 ⟨rfl, S1⟩)
      | (go_at_call 88; refine (K2.out _ S1).mono ?_; rintro e w2 ⟨rfl, S2⟩))
  have SS := Lib.hid S2
  clear S1 S2 S0 K1 K2
  go_wp2_with fail
  go_ret
  exact ⟨rfl, SS.out⟩

end Go.Proofs.YtbdbnpcbbebelaaDoor.Row

namespace Go.Proofs.YtbdbnpcbbebelaaDoor.Row
open Go.RowKit
attribute [local go_sem ↓] Go.wp_at_zero Go.wp_at_succ

/-- the closures stand, nothing is taken -/
def W4 (w : World) (f : Nat) : World := (((w.alloc (.cells #[.pointer (some ⟨f, 0, none⟩)] 124)).alloc (.cells #[.bool true] 4)).alloc (.cells #[takeF w.heap.size (w.heap.size + 1)] 126)).alloc (.cells #[numF (w.heap.size + 1 + 1)] 127)
theorem St.start {w : World} {f : Nat} {s : ByteArray} (F : Fd w f s 0 Rw.zero) : St w (W4 w f) f w.heap.size (w.heap.size + 1) (w.heap.size + 1 + 1) (w.heap.size + 1 + 1 + 1) s 0 Rw.zero true := by
  unfold W4
  obtain ⟨w1, h1⟩ : ∃ x, x = w.alloc (.cells #[.pointer (some ⟨f, 0, none⟩)] 124) := ⟨_, rfl⟩
  obtain ⟨w2, h2⟩ : ∃ x, x = w1.alloc (.cells #[.bool true] 4) := ⟨_, rfl⟩
  obtain ⟨w3, h3⟩ : ∃ x, x = w2.alloc (.cells #[takeF w.heap.size (w.heap.size + 1)] 126) := ⟨_, rfl⟩
  obtain ⟨w4, h4⟩ : ∃ x, x = w3.alloc (.cells #[numF (w.heap.size + 1 + 1)] 127) := ⟨_, rfl⟩
  rw [← h1, ← h2, ← h3, ← h4]
  have z1 : w1.heap.size = w.heap.size + 1 := by rw [h1]; simp
  have z2 : w2.heap.size = w.heap.size + 1 + 1 := by rw [h2]; simp [z1]
  have z3 : w3.heap.size = w.heap.size + 1 + 1 + 1 := by rw [h3]; simp [z2]
  have b1 : Below w.heap.size w w1 := by rw [h1]; exact below_new _ _
  have b2 : Below w1.heap.size w1 w2 := by rw [h2]; exact below_new _ _
  have b3 : Below w2.heap.size w2 w3 := by rw [h3]; exact below_new _ _
  have b4 : Below w3.heap.size w3 w4 := by rw [h4]; exact below_new _ _
  have n1 : w1.heap[w.heap.size]? = some (.cells #[.pointer (some ⟨f, 0, none⟩)] 124 (0, 0)) := by rw [h1]; exact heap_alloc_new _ _
  have n2 : w2.heap[w.heap.size + 1]? = some (.cells #[.bool true] 4 (0, 0)) := by rw [h2, ← z1]; exact heap_alloc_new _ _
  have n3 : w3.heap[w.heap.size + 1 + 1]? = some (.cells #[takeF w.heap.size (w.heap.size + 1)] 126 (0, 0)) := by rw [h3, ← z2]; exact heap_alloc_new _ _
  have n4 : w4.heap[w.heap.size + 1 + 1 + 1]? = some (.cells #[numF (w.heap.size + 1 + 1)] 127 (0, 0)) := by rw [h4, ← z3]; exact heap_alloc_new _ _
  have b : Below w.heap.size w w4 := ((b1.trans (b2.mono b1.size)).trans (b3.mono (by omega))).trans (b4.mono (by omega))
  refine ⟨F.later b, ?_, ?_, ?_, n4, Touch.ofNew b, by omega⟩
  · exact (b4.block _ (by omega)).trans ((b3.block _ (by omega)).trans ((b2.block _ (by omega)).trans n1))
  · exact (b4.block _ (by omega)).trans ((b3.block _ (by omega)).trans n2)
  · exact (b4.block _ (by omega)).trans n3

/-- what stands where, as loads and stores ask it -/
theorem St.six {W0 w : World} {f p h k m : Nat} {s : ByteArray} {t : Nat} {r : Rw} {b : Bool} (S : St W0 w f p h k m s t r b) :
    w.cell? ⟨p, 0, none⟩ = some (.pointer (some ⟨f, 0, none⟩)) ∧ w.cell? ⟨m, 0, none⟩ = some (.func (.func 90) #[] #[.pointer (some ⟨k, 0, none⟩)]) := ⟨S.boxC, S.numC⟩
theorem St.row {W0 w : World} {f p h k m : Nat} {s : ByteArray} {t : Nat} {r : Rw} {b : Bool} (S : St W0 w f p h k m s t r b) (j : Nat) (hj : j < 9) : (∃ v, w.cell? ⟨f, j, none⟩ = some v) ∧ w.frozen? ⟨f, j, none⟩ = false := by
  refine ⟨?_, frozen_of_row _ _ _ _ _ S.fd⟩
  rw [cell_of_row _ _ _ _ _ _ S.fd]
  have hn : j < (fdC s t r).size := hj
  exact ⟨_, Array.getElem?_eq_getElem hn⟩

theorem St.cell {W0 w : World} {f p h k m : Nat} {s : ByteArray} {t : Nat} {r : Rw} {b : Bool} (S : St W0 w f p h k m s t r b) (j : Nat) (v : Value) (hv : (fdC s t r)[j]? = some v) : w.cell? ⟨f, j, none⟩ = some v := by
  rw [cell_of_row _ _ _ _ _ _ S.fd, hv]
theorem whole_fold {a b c d e f g h : Bool} : ((((((((true && a) && b) && c) && d) && e) && f) && g) && h) = (a && b && c && d && e && f && g && h) := by simp
theorem mark_eq (n : Nat) : ((n : Int) == 1) = decide (n = 1) := by rw [Bool.eq_iff_iff]; simp only [beq_iff_eq, decide_eq_true_eq]; omega

set_option maxRecDepth 100000 in
set_option maxHeartbeats 4000000 in
theorem read_any {w : World} {f : Nat} {s : ByteArray} (h : Fd w f s 0 Rw.zero) (hs : s.size ≤ 140737488351232) :
    Calls Tryd.prog 84 #[.pointer (some ⟨f, 0, none⟩)] w fun e w' => e = .returned (.bool (whB s && decide (tkN s 0 1 ≤ 1))) ∧ Fd w' f s (q8 s) (rdR s) ∧ Touch (fun x => x = f) w w' := by
  have S0 := Lib.hid (St.start h)
  have hsf1 := fun (a : Addr) (c : Array Value) (w : World) => run_store Tryd.prog w a (.func (.func 88) #[] c) .plain rfl
  have hsf2 := fun (a : Addr) (c : Array Value) (w : World) => run_store Tryd.prog w a (.func (.func 90) #[] c) .plain rfl
  have HS := Lib.hid hs
  clear h hs
  go_enter Tryd.func84, Tryd.ntmps84
  go_wp2_with fail
  clear hsf1 hsf2
  change Calls _ _ _ (W4 w f) _
  generalize W4 w f = W at *
  generalize w.heap.size + 1 + 1 + 1 = m at *
  generalize w.heap.size + 1 + 1 = k at *
  generalize w.heap.size + 1 = h at *
  generalize w.heap.size = p at *
  have Q := Lib.hid (q_le s)
  have N1 := Lib.hid (fun (W : World) (t : Nat) (r : Rw) (b : Bool) (S : St w W f p h k m s t r b) (ht : t ≤ s.size) => (show Calls Tryd.prog 90 #[.int .i64 1, .pointer (some ⟨k, 0, none⟩)] W fun e w' => e = .returned (.int .u64 (tkN s t 1 : Int)) ∧ St w w' f p h k m s (tkT s t 1) r (b && tkB s t 1) from num_any S 1 HS.out ht (by decide) (by decide)))
  have N8 := Lib.hid (fun (W : World) (t : Nat) (r : Rw) (b : Bool) (S : St w W f p h k m s t r b) (ht : t ≤ s.size) => (show Calls Tryd.prog 90 #[.int .i64 8, .pointer (some ⟨k, 0, none⟩)] W fun e w' => e = .returned (.int .u64 (tkN s t 8 : Int)) ∧ St w w' f p h k m s (tkT s t 8) r (b && tkB s t 8) from num_any S 8 HS.out ht (by decide) (by decide)))
  have N4 := Lib.hid (fun (W : World) (t : Nat) (r : Rw) (b : Bool) (S : St w W f p h k m s t r b) (ht : t ≤ s.size) => (show Calls Tryd.prog 90 #[.int .i64 4, .pointer (some ⟨k, 0, none⟩)] W fun e w' => e = .returned (.int .u64 (tkN s t 4 : Int)) ∧ St w w' f p h k m s (tkT s t 4) r (b && tkB s t 4) from num_any S 4 HS.out ht (by decide) (by decide)))
  have N2 := Lib.hid (fun (W : World) (t : Nat) (r : Rw) (b : Bool) (S : St w W f p h k m s t r b) (ht : t ≤ s.size) => (show Calls Tryd.prog 90 #[.int .i64 2, .pointer (some ⟨k, 0, none⟩)] W fun e w' => e = .returned (.int .u64 (tkN s t 2 : Int)) ∧ St w w' f p h k m s (tkT s t 2) r (b && tkB s t 2) from num_any S 2 HS.out ht (by decide) (by decide)))
  have NL := Lib.hid (fun (W : World) (t : Nat) (r : Rw) (b : Bool) (S : St w W f p h k m s t r b) (ht : t ≤ s.size) => left_any S.fd HS.out ht)
  refine (N1.out _ _ _ _ S0.out (Nat.zero_le _)).mono ?_
  rintro e w1 ⟨rfl, h1⟩
  obtain ⟨b1, hb1⟩ : ∃ b, b = (true && tkB s 0 1) := ⟨_, rfl⟩
  rw [← hb1] at h1
  have B1 := Lib.hid hb1
  obtain ⟨mk, hmk⟩ : ∃ x : Bool, x = ((tkN s 0 1 : Int) == 1) := ⟨_, rfl⟩
  have HMK := Lib.hid hmk
  obtain ⟨mn, hmn⟩ : ∃ x : Nat, x = tkN s 0 1 := ⟨_, rfl⟩
  rw [← hmn] at hmk ⊢
  have HMN := Lib.hid hmn
  have S1 : Hid (St w w1 f p h k m s (q1 s) Rw.zero b1) := Lib.hid h1
  obtain ⟨c0, c1⟩ := h1.six
  have d0 := h1.cell 3 (.bool false) rfl
  have fz := (h1.row 3 (by decide)).2
  clear h1 S0 hb1 hmn N1
  go_wp2_with fail
  rw [← hmk]
  have S2 := Lib.hid ((S1.out.part (r' := ⟨⟨#[]⟩, mk, 0, 0, 0, ⟨#[]⟩, 0⟩) 3 (.bool mk) rfl).later ((Below.refl _ _).drew))
  clear c0 c1 d0 fz S1 hmk
  generalize w1.setCell _ _ = W2 at *
  obtain ⟨tx, htx⟩ : ∃ x : Nat, x = tkN s (q1 s) 8 := ⟨_, rfl⟩
  obtain ⟨pg, hpg⟩ : ∃ x : Nat, x = tkN s (q2 s) 4 := ⟨_, rfl⟩
  obtain ⟨sl, hsl⟩ : ∃ x : Nat, x = tkN s (q3 s) 2 := ⟨_, rfl⟩
  obtain ⟨ke, hke⟩ : ∃ x : ByteArray, x = tkS s (q5 s) (nK s) := ⟨_, rfl⟩
  obtain ⟨va, hva⟩ : ∃ x : ByteArray, x = tkS s (q7 s) (nV s) := ⟨_, rfl⟩
  have wpg : IntKind.u32.wrap (pg : Int) = (pg : Int) := by have := tkN_lt s (q2 s) 4; rw [IntKind.wrap_u32]; omega
  have wsl : IntKind.u16.wrap (sl : Int) = (sl : Int) := by have := tkN_lt s (q3 s) 2; rw [IntKind.wrap_u16]; omega
  have HTX := Lib.hid htx
  have HPG := Lib.hid hpg
  have HSL := Lib.hid hsl
  have HKE := Lib.hid hke
  have HVA := Lib.hid hva
  have NT5 := Lib.hid (fun (W : World) (r : Rw) (b : Bool) (S : St w W f p h k m s (q4 s) r b) => (show Calls Tryd.prog 91 #[.pointer (some ⟨k, 0, none⟩), .pointer (some ⟨m, 0, none⟩)] W fun e w' => e = .returned (.string ke) ∧ St w w' f p h k m s (q6 s) r (b && tkB s (q4 s) 1 && tkB s (q5 s) (nK s)) from by rw [hke]; exact txt_any S HS.out Q.out.2.2.2.1))
  have NT6 := Lib.hid (fun (W : World) (r : Rw) (b : Bool) (S : St w W f p h k m s (q6 s) r b) => (show Calls Tryd.prog 91 #[.pointer (some ⟨k, 0, none⟩), .pointer (some ⟨m, 0, none⟩)] W fun e w' => e = .returned (.string va) ∧ St w w' f p h k m s (q8 s) r (b && tkB s (q6 s) 1 && tkB s (q7 s) (nV s)) from by rw [hva]; exact txt_any S HS.out Q.out.2.2.2.2.2.1))
  clear htx hpg hsl hke hva
  go_region_held3 (fun w' => w'.cell? ⟨p, 0, none⟩ = some (.pointer (some ⟨f, 0, none⟩)) ∧ w'.cell? ⟨m, 0, none⟩ = some (.func (.func 90) #[] #[.pointer (some ⟨k, 0, none⟩)])) (first | exact S2.out.six | exact T2.six | exact (T2.part (r' := ⟨⟨#[]⟩, mk, tx, 0, 0, ⟨#[]⟩, 0⟩) 4 (.int .u64 (tx : Int)) rfl).six)
    (first | (go_at_call 90; refine (N8.out _ _ _ _ S2.out Q.out.1).mono ?_; rintro e x2 ⟨rfl, T20⟩; rw [← HTX.out]; obtain ⟨b2, hb2⟩ : ∃ b, b = (b1 && tkB s (q1 s) 8) := ⟨_, rfl⟩; rw [← hb2] at T20; have B2 := Lib.hid hb2; have T2 : St w x2 f p h k m s (q2 s) ⟨⟨#[]⟩, mk, 0, 0, 0, ⟨#[]⟩, 0⟩ b2 := T20; clear hb2 T20; have c4 := T2.cell 4 (.int .u64 0) rfl; have fz := (T2.row 4 (by decide)).2))
  have S3 := Lib.hid ((T2.part (r' := ⟨⟨#[]⟩, mk, tx, 0, 0, ⟨#[]⟩, 0⟩) 4 (.int .u64 (tx : Int)) rfl).later ((Below.refl _ _).drew))
  clear c4 fz T2 S2
  generalize World.setCell _ _ _ = W3 at *
  go_wp2_with fail
  go_region_held3 (fun w' => w'.cell? ⟨p, 0, none⟩ = some (.pointer (some ⟨f, 0, none⟩)) ∧ w'.cell? ⟨m, 0, none⟩ = some (.func (.func 90) #[] #[.pointer (some ⟨k, 0, none⟩)])) (first | exact S3.out.six | exact T3.six | exact (T3.part (r' := ⟨⟨#[]⟩, mk, tx, pg, 0, ⟨#[]⟩, 0⟩) 5 (.int .u32 (pg : Int)) rfl).six)
    (first | (go_at_call 90; refine (N4.out _ _ _ _ S3.out Q.out.2.1).mono ?_; rintro e x3 ⟨rfl, T30⟩; rw [← HPG.out]; obtain ⟨b3, hb3⟩ : ∃ b, b = (b2 && tkB s (q2 s) 4) := ⟨_, rfl⟩; rw [← hb3] at T30; have B3 := Lib.hid hb3; have T3 : St w x3 f p h k m s (q3 s) ⟨⟨#[]⟩, mk, tx, 0, 0, ⟨#[]⟩, 0⟩ b3 := T30; clear hb3 T30; have c4 := T3.cell 5 (.int .u32 0) rfl; have fz := (T3.row 5 (by decide)).2))
  have S4 := Lib.hid ((T3.part (r' := ⟨⟨#[]⟩, mk, tx, pg, 0, ⟨#[]⟩, 0⟩) 5 (.int .u32 (pg : Int)) rfl).later ((Below.refl _ _).drew))
  clear c4 fz T3 S3
  generalize World.setCell _ _ _ = W4 at *
  go_wp2_with fail
  go_region_held3 (fun w' => w'.cell? ⟨p, 0, none⟩ = some (.pointer (some ⟨f, 0, none⟩)) ∧ w'.cell? ⟨m, 0, none⟩ = some (.func (.func 90) #[] #[.pointer (some ⟨k, 0, none⟩)])) (first | exact S4.out.six | exact T4.six | exact (T4.part (r' := ⟨⟨#[]⟩, mk, tx, pg, sl, ⟨#[]⟩, 0⟩) 6 (.int .u16 (sl : Int)) rfl).six)
    (first | (go_at_call 90; refine (N2.out _ _ _ _ S4.out Q.out.2.2.1).mono ?_; rintro e x4 ⟨rfl, T40⟩; rw [← HSL.out]; obtain ⟨b4, hb4⟩ : ∃ b, b = (b3 && tkB s (q3 s) 2) := ⟨_, rfl⟩; rw [← hb4] at T40; have B4 := Lib.hid hb4; have T4 : St w x4 f p h k m s (q4 s) ⟨⟨#[]⟩, mk, tx, pg, 0, ⟨#[]⟩, 0⟩ b4 := T40; clear hb4 T40; have c4 := T4.cell 6 (.int .u16 0) rfl; have fz := (T4.row 6 (by decide)).2))
  have S5 := Lib.hid ((T4.part (r' := ⟨⟨#[]⟩, mk, tx, pg, sl, ⟨#[]⟩, 0⟩) 6 (.int .u16 (sl : Int)) rfl).later ((Below.refl _ _).drew))
  clear c4 fz T4 S4
  generalize World.setCell _ _ _ = W5 at *
  go_wp2_with fail
  go_region_held3 (fun w' => w'.cell? ⟨p, 0, none⟩ = some (.pointer (some ⟨f, 0, none⟩)) ∧ w'.cell? ⟨m, 0, none⟩ = some (.func (.func 90) #[] #[.pointer (some ⟨k, 0, none⟩)])) (first | exact S5.out.six | exact T5.six | exact (T5.part (r' := ⟨ke, mk, tx, pg, sl, ⟨#[]⟩, 0⟩) 2 (.string ke) rfl).six)
    (first | (go_at_call 91; refine (NT5.out _ _ _ S5.out).mono ?_; rintro e x5 ⟨rfl, T50⟩; obtain ⟨b5, hb5⟩ : ∃ b, b = (b4 && tkB s (q4 s) 1 && tkB s (q5 s) (nK s)) := ⟨_, rfl⟩; rw [← hb5] at T50; have B5 := Lib.hid hb5; have T5 := T50; clear hb5 T50; have c4 := T5.cell 2 (.string ⟨#[]⟩) rfl; have fz := (T5.row 2 (by decide)).2))
  have S6 := Lib.hid ((T5.part (r' := ⟨ke, mk, tx, pg, sl, ⟨#[]⟩, 0⟩) 2 (.string ke) rfl).later ((Below.refl _ _).drew))
  clear c4 fz T5 S5
  generalize World.setCell _ _ _ = W6 at *
  go_wp2_with fail
  go_region_held3 (fun w' => w'.cell? ⟨p, 0, none⟩ = some (.pointer (some ⟨f, 0, none⟩)) ∧ w'.cell? ⟨m, 0, none⟩ = some (.func (.func 90) #[] #[.pointer (some ⟨k, 0, none⟩)])) (first | exact S6.out.six | exact T6.six | exact (T6.part (r' := ⟨ke, mk, tx, pg, sl, va, 0⟩) 7 (.string va) rfl).six)
    (first | (go_at_call 91; refine (NT6.out _ _ _ S6.out).mono ?_; rintro e x6 ⟨rfl, T60⟩; obtain ⟨b6, hb6⟩ : ∃ b, b = (b5 && tkB s (q6 s) 1 && tkB s (q7 s) (nV s)) := ⟨_, rfl⟩; rw [← hb6] at T60; have B6 := Lib.hid hb6; have T6 := T60; clear hb6 T60; have c4 := T6.cell 7 (.string ⟨#[]⟩) rfl; have fz := (T6.row 7 (by decide)).2))
  have S7 := Lib.hid ((T6.part (r' := ⟨ke, mk, tx, pg, sl, va, 0⟩) 7 (.string va) rfl).later ((Below.refl _ _).drew))
  clear c4 fz T6 S6
  generalize World.setCell _ _ _ = W7 at *
  go_wp2_with fail
  obtain ⟨pd, hpd⟩ : ∃ x : Int, x = (s.size : Int) - (q8 s : Int) := ⟨_, rfl⟩
  have HPD := Lib.hid hpd
  have L7 := Lib.hid (left_any S7.out.fd HS.out Q.out.2.2.2.2.2.2.2)
  rw [← hpd] at L7
  clear hpd
  go_region_held3 (fun w' => w'.cell? ⟨p, 0, none⟩ = some (.pointer (some ⟨f, 0, none⟩)) ∧ w'.cell? ⟨m, 0, none⟩ = some (.func (.func 90) #[] #[.pointer (some ⟨k, 0, none⟩)])) (first | exact S7.out.six | exact T7.six | exact (T7.part (r' := ⟨ke, mk, tx, pg, sl, va, pd⟩) 8 (.int .i64 pd) rfl).six)
    (first | (go_at_call 92; refine L7.out.mono ?_; rintro e x7 ⟨rfl, bl⟩; have T7 := S7.out.later bl; clear bl; have c4 := T7.cell 8 (.int .i64 0) rfl; have fz := (T7.row 8 (by decide)).2))
  have S8 := Lib.hid (T7.part (r' := ⟨ke, mk, tx, pg, sl, va, pd⟩) 8 (.int .i64 pd) rfl)
  clear c4 fz T7 S7 L7
  generalize World.setCell _ _ _ = W8 at *
  obtain ⟨c0, c1⟩ := S8.out.wholeC
  have HR : Hid (rdR s = ⟨ke, mk, tx, pg, sl, va, pd⟩) := Lib.hid (by rw [HKE.out, HMK.out, mark_eq, HTX.out, HPG.out, HSL.out, HVA.out, HPD.out]; rfl)
  have HW : Hid (whB s = b6) := Lib.hid (by rw [B6.out, B5.out, B4.out, B3.out, B2.out, B1.out]; unfold whB; simp [Bool.and_assoc])
  have S9 := Lib.hid S8.out.fd
  have T9 := Lib.hid S8.out.touch
  clear S8
  cases b6 with
  | false =>
    go_wp2_with fail
    go_ret
    exact ⟨ret_bool (by rw [HW.out]; rfl), by rw [HR.out]; exact S9.out, T9.out⟩
  | true =>
    go_wp2_with fail
    go_ret
    exact ⟨ret_bool (by rw [HW.out, ← HMN.out, Bool.true_and, decide_eq_decide]; omega), by rw [HR.out]; exact S9.out, T9.out⟩

end Go.Proofs.YtbdbnpcbbebelaaDoor.Row

namespace Go.Proofs.YtbdbnpcbbebelaaDoor.Row
open Go.RowKit
attribute [local go_sem ↓] Go.wp_at_zero Go.wp_at_succ

theorem results_two {fn : Func} {p k : Tmp} {T : TypeId} {f : Array Field} (h : fn.results = #[.cell p T, .tmp k]) (tmps : Array Value) (w : World) (g : Nat) (cs : Array Value) (c : Int) (hp : tmps.getD p undef = .pointer (some ⟨g, 0, none⟩)) (hk : tmps.getD k undef = .int .i64 c) (hg : w.heap[g]? = some (.cells cs T (0, 0)))
    (hu : Tryd.prog.underlying T = some (.struct f)) (hi : (Tryd.prog.info? T).map (·.size) = some cs.size) : (results fn tmps).run Tryd.prog w = .ok (.tuple #[.agg cs, .int .i64 c]) w := by
  have hp' : tmps[p]?.getD undef = .pointer (some ⟨g, 0, none⟩) := by simpa using hp
  have hk' : tmps[k]?.getD undef = .int .i64 c := by simpa using hk
  simp [results, h, hp', hk', asAddr, run_loadVar_row w g T T cs (0, 0) _ hg hu rfl hi]
theorem info_row : (Tryd.prog.info? 68).map (·.size) = some 7 := by kernel_rfl
theorem row_one (r : Rw) : (rwC r).all (·.oneCell') = true := Array.all_eq_true_iff_forall_mem.2 (by
  intro v hv
  simp [rwC] at hv
  rcases hv with rfl | rfl | rfl | rfl | rfl | rfl | rfl <;> rfl)

theorem rd_wf {s : ByteArray} (hs : s.size ≤ 140737488351232) : (rdR s).wf := by
  have h := q_le s
  have k : ∀ t n, (tkS s t n).size ≤ 140737488351232 := fun t n => by
    unfold tkS
    split
    · rw [ByteArray.size_extract]; omega
    · exact Nat.zero_le _
  refine ⟨tkN_lt s _ 8, tkN_lt s _ 4, tkN_lt s _ 2, ?_, k _ _, k _ _⟩
  show -9223372036854775808 ≤ (s.size : Int) - q8 s ∧ (s.size : Int) - q8 s ≤ 9223372036854775807
  omega

theorem ok_eq (s : ByteArray) : okR s = ((whB s && decide (tkN s 0 1 ≤ 1)) && (mayR (rdR s) && blankB s (q8 s))) := by
  unfold okR
  rw [Bool.and_assoc]

/-- a row that is being decoded: its result's cells, the place -/
structure Dc (w w' : World) (s : ByteArray) (t : Nat) (r : Rw) : Prop where
  res : w'.heap[w.heap.size]? = some (.cells (rwC Rw.zero) 68 (0, 0))
  fd : Fd w' (w.heap.size + 1) s t r
  below : Below w.heap.size w w'
theorem Dc.later {w w' w2 : World} {s : ByteArray} {t : Nat} {r : Rw} (h : Dc w w' s t r) (b : Below w'.heap.size w' w2) : Dc w w2 s t r :=
  ⟨(b.block _ (Array.getElem?_eq_some_iff.1 h.res).1).trans h.res, h.fd.later b, h.below.trans (b.mono h.below.size)⟩
theorem Dc.touched {w w' w2 : World} {s : ByteArray} {t u : Nat} {r q : Rw} (h : Dc w w' s t r) (F : Fd w2 (w.heap.size + 1) s u q) (b : Touch (fun x => x = w.heap.size + 1) w' w2) : Dc w w2 s u q :=
  ⟨(b.block _ (Array.getElem?_eq_some_iff.1 h.res).1 (by omega)).trans h.res, F, h.below.trans (b.below h.below.size (fun x hx => by omega))⟩
theorem Dc.start (w : World) (s : ByteArray) : Dc w ((w.alloc (.cells (rwC Rw.zero) 68)).alloc (.cells (fdC s 0 Rw.zero) 123)) s 0 Rw.zero := by
  obtain ⟨w1, h1⟩ : ∃ x, x = w.alloc (.cells (rwC Rw.zero) 68) := ⟨_, rfl⟩
  rw [← h1]
  have z1 : w1.heap.size = w.heap.size + 1 := by rw [h1]; simp
  have b1 : Below w.heap.size w w1 := by rw [h1]; exact below_new _ _
  have n1 : w1.heap[w.heap.size]? = some (.cells (rwC Rw.zero) 68 (0, 0)) := by rw [h1]; exact heap_alloc_new _ _
  have b2 := below_new w1 (.cells (fdC s 0 Rw.zero) 123)
  refine ⟨(b2.block _ (by omega)).trans n1, ?_, b1.trans (b2.mono b1.size)⟩
  unfold Fd
  rw [← z1]
  exact heap_alloc_new _ _
/-- the cells of the row that was read -/
theorem Dc.cells {w w' : World} {s : ByteArray} {t : Nat} {r : Rw} (h : Dc w w' s t r) : w'.cell? ⟨w.heap.size + 1, 2, none⟩ = some (.string r.key) ∧ w'.cell? ⟨w.heap.size + 1, 3, none⟩ = some (.bool r.mark) ∧ w'.cell? ⟨w.heap.size + 1, 4, none⟩ = some (.int .u64 (r.tx : Int)) ∧ w'.cell? ⟨w.heap.size + 1, 5, none⟩ = some (.int .u32 (r.page : Int)) ∧ w'.cell? ⟨w.heap.size + 1, 6, none⟩ = some (.int .u16 (r.slot : Int)) ∧ w'.cell? ⟨w.heap.size + 1, 7, none⟩ = some (.string r.value) ∧ w'.cell? ⟨w.heap.size + 1, 8, none⟩ = some (.int .i64 r.pad) := by
  refine ⟨?_, ?_, ?_, ?_, ?_, ?_, ?_⟩ <;> (rw [cell_of_row _ _ _ _ _ _ h.fd]; rfl)

set_option maxRecDepth 100000 in
set_option maxHeartbeats 4000000 in
theorem decode_any (s : ByteArray) (w : World) (hs : s.size ≤ 140737488351232) :
    Calls Tryd.prog 81 #[.string s] w fun e w' => e = .returned (.tuple #[rwV (decR s), .int .i64 (decE s)]) ∧ Below w.heap.size w w' := by
  have D0 := Lib.hid (Dc.start w s)
  have KR := Lib.hid (read_any D0.out.fd hs)
  have KM := Lib.hid (fun W => may_any (rdR s) W (rd_wf hs))
  have KB := Lib.hid (fun (W : World) (h : Dc w W s (q8 s) (rdR s)) => blank_any h.fd (q_le s).2.2.2.2.2.2.2)
  have e1 : okR s = true → decR s = rdR s ∧ decE s = 0 := fun h => by unfold decR decE; rw [if_pos h, if_pos h]; exact ⟨rfl, rfl⟩
  have e2 : okR s = false → decR s = Rw.zero ∧ decE s = 7 := fun h => by unfold decR decE; rw [if_neg (by rw [h]; decide), if_neg (by rw [h]; decide)]; exact ⟨rfl, rfl⟩
  rw [ok_eq] at e1 e2
  have E1 := Lib.hid e1
  have E2 := Lib.hid e2
  clear hs e1 e2
  generalize (whB s && decide (tkN s 0 1 ≤ 1)) = a at *
  generalize mayR (rdR s) = m at *
  generalize blankB s (q8 s) = b at *
  generalize q8 s = q at *
  generalize rdR s = r at *
  generalize decR s = rr at *
  generalize decE s = ee at *
  unfold rwV rwC fdC at *
  go_enter Tryd.func81, Tryd.ntmps81
  go_wp2_with fail
  refine KR.out.mono ?_
  rintro e w1 ⟨rfl, F1, t1⟩
  have D1 := Lib.hid (D0.out.touched F1 t1)
  clear F1 t1 D0 KR
  cases a with
  | false =>
    obtain ⟨rfl, rfl⟩ := E2.out rfl
    clear E1 E2 KM KB
    have HB := Lib.hid D1.out.res
    have HL := Lib.hid D1.out.below
    clear D1
    go_wp2_with (refine wpList_store_row rfl 68 _ _ rfl w.heap.size (rwC Rw.zero) rfl rfl 68 (rwC Rw.zero) HB.out info_row rfl (row_one _) ?_)
    exact bodyPost_ret (v := .tuple #[rwV Rw.zero, .int .i64 7]) (results_two Tryd.results81 _ _ w.heap.size (rwC Rw.zero) 7 rfl rfl (setRow_heap _ _ _ _ _ _ HB.out) Tryd.underlying68 info_row) rfl ⟨rfl, below_setRow HL.out (Nat.le_refl _) _⟩
  | true =>
    obtain ⟨a0, a1, a2, a3, a4, a5, a6⟩ := D1.out.cells
    go_wp2_with fail
    refine (KM.out _).mono ?_
    rintro e w2 ⟨rfl, b2⟩
    have D2 := Lib.hid (D1.out.later b2)
    clear b2 D1 a0 a1 a2 a3 a4 a5 a6 KM
    cases m with
    | false =>
      obtain ⟨rfl, rfl⟩ := E2.out rfl
      clear E1 E2 KB
      have HB := Lib.hid D2.out.res
      have HL := Lib.hid D2.out.below
      clear D2
      go_wp2_with (refine wpList_store_row rfl 68 _ _ rfl w.heap.size (rwC Rw.zero) rfl rfl 68 (rwC Rw.zero) HB.out info_row rfl (row_one _) ?_)
      exact bodyPost_ret (v := .tuple #[rwV Rw.zero, .int .i64 7]) (results_two Tryd.results81 _ _ w.heap.size (rwC Rw.zero) 7 rfl rfl (setRow_heap _ _ _ _ _ _ HB.out) Tryd.underlying68 info_row) rfl ⟨rfl, below_setRow HL.out (Nat.le_refl _) _⟩
    | true =>
      go_wp2_with fail
      refine (KB.out _ D2.out).mono ?_
      rintro e w3 ⟨rfl, b3⟩
      have D3 := Lib.hid (D2.out.later b3)
      clear b3 D2 KB
      cases b with
      | false =>
        obtain ⟨rfl, rfl⟩ := E2.out rfl
        clear E1 E2
        have HB := Lib.hid D3.out.res
        have HL := Lib.hid D3.out.below
        clear D3
        go_wp2_with (refine wpList_store_row rfl 68 _ _ rfl w.heap.size (rwC Rw.zero) rfl rfl 68 (rwC Rw.zero) HB.out info_row rfl (row_one _) ?_)
        exact bodyPost_ret (v := .tuple #[rwV Rw.zero, .int .i64 7]) (results_two Tryd.results81 _ _ w.heap.size (rwC Rw.zero) 7 rfl rfl (setRow_heap _ _ _ _ _ _ HB.out) Tryd.underlying68 info_row) rfl ⟨rfl, below_setRow HL.out (Nat.le_refl _) _⟩
      | true =>
        obtain ⟨rfl, rfl⟩ := E1.out rfl
        clear E1 E2
        obtain ⟨a0, a1, a2, a3, a4, a5, a6⟩ := D3.out.cells
        have HB := Lib.hid D3.out.res
        have HL := Lib.hid D3.out.below
        clear D3
        go_wp2_with (refine wpList_store_row rfl 68 _ _ rfl w.heap.size (rwC rr) rfl rfl 68 (rwC Rw.zero) HB.out info_row rfl (row_one _) ?_)
        exact bodyPost_ret (v := .tuple #[rwV rr, .int .i64 0]) (results_two Tryd.results81 _ _ w.heap.size (rwC rr) 0 rfl rfl (setRow_heap _ _ _ _ _ _ HB.out) Tryd.underlying68 info_row) rfl ⟨rfl, below_setRow HL.out (Nat.le_refl _) _⟩

end Go.Proofs.YtbdbnpcbbebelaaDoor.Row
