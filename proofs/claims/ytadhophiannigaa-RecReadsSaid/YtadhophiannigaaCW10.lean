/- Walks: closures that take part by part. -/
import Derived.Test.YtadhophiannigaaCM2
import Derived.Test.YtadhophiannigaaCR
import Derived.Test.YtadhophiannigaaTO
import Derived.Test.YtadhophiannigaaShelf
namespace Go.Proofs.Ytadhophiannigaa.Rec
open Go.RowKit
attribute [local go_sem ↓] Go.wp_at_zero Go.wp_at_succ

theorem clone_any (s : ByteArray) (w : World) (hs : s.size ≤ 281474976710656) :
    Calls Try.prog 50 #[.string s] w fun e w' => e = .returned (.string s) ∧ Below w.heap.size w w' := by
  go_enter Try.func50, Try.ntmps50
  go_wp2_with (go_at_call 52; refine (Try.stringslite_Clone _ _ hs).mono ?_; rintro e w' ⟨rfl, hb⟩)
  go_ret
  exact ⟨rfl, hb⟩

set_option maxRecDepth 100000 in
theorem cut_any (s : ByteArray) (t n : Nat) (w : World) (hs : s.size ≤ 140737488351232) (ht : t ≤ s.size) (hn : n ≤ 140737488351232) :
    Calls Try.prog 41 #[.string s, .int .i64 (t : Int), .int .i64 (n : Int)] w fun e w' => e = .returned (.tuple #[.string (tkS s t n), .bool (tkB s t n)]) ∧ Below w.heap.size w w' := by
  by_cases h : t + n ≤ s.size
  · have hb : hasB s.size (t : Int) (n : Int) = true := by unfold hasB; rw [decide_eq_true_iff]; omega
    have e1 : tkS s t n = s.extract t (t + n) := by unfold tkS; rw [if_pos h]
    have e2 : tkB s t n = true := by unfold tkB; rw [decide_eq_true h]
    have H := has_any s t n w (by unfold maxLen; omega) (by omega)
    rw [hb] at H
    rw [e1, e2]
    have HH := Lib.hid H
    have HC := Lib.hid (fun W => clone_any (s.extract t (t + n)) W (by rw [ByteArray.size_extract]; omega))
    clear hb e1 e2 H
    go_enter Try.func41, Try.ntmps41
    go_wp2_with fail
    refine HH.out.mono ?_
    rintro e w1 ⟨rfl, rfl⟩
    go_wp2_with fail
    refine (HC.out _).mono ?_
    rintro e w1 ⟨rfl, b⟩
    go_wp2_with fail
    go_ret2
    exact ⟨rfl, b⟩
  · have hb : hasB s.size (t : Int) (n : Int) = false := by unfold hasB; rw [decide_eq_false_iff_not]; omega
    have e1 : tkS s t n = ⟨#[]⟩ := by unfold tkS; rw [if_neg h]
    have e2 : tkB s t n = false := by unfold tkB; rw [decide_eq_false h]
    have H := has_any s t n w (by unfold maxLen; omega) (by omega)
    rw [hb] at H
    rw [e1, e2]
    have HH := Lib.hid H
    clear hb e1 e2 H
    go_enter Try.func41, Try.ntmps41
    go_wp2_with fail
    refine HH.out.mono ?_
    rintro e w1 ⟨rfl, rfl⟩
    go_wp2_with fail
    go_ret2
    exact ⟨rfl, Below.refl _ _⟩

theorem get_part {s : ByteArray} {t n : Nat} (w : World) (_hs : s.size ≤ 140737488351232) (h1 : 1 ≤ n) (h8 : n ≤ 8) :
    ∃ b, Calls Try.prog 43 #[.string (tkS s t n), .int .i64 0, .int .i64 (n : Int)] w fun e w' => e = .returned (.tuple #[.int .u64 (tkN s t n : Int), .bool b]) ∧ w = w' := by
  have hz : (tkS s t n).size ≤ 140737488351232 := by
    unfold tkS
    split
    · rw [ByteArray.size_extract]; omega
    · exact Nat.zero_le _
  refine ⟨getB (tkS s t n) 0 n, ?_⟩
  have := get_any (tkS s t n) 0 (n : Int) w (by omega) (by omega)
  have e : getN (tkS s t n) 0 n = (tkN s t n : Int) := by
    unfold getN getB hasB mayB tkS tkN
    by_cases h : t + n ≤ s.size
    · rw [if_pos h, if_pos h, if_pos]
      · have := numAt_part s t n n h (Nat.le_refl _)
        show ((numAt (s.extract t (t + n)) 0 n : Nat) : Int) = _
        rw [this]
      · simp only [Bool.and_eq_true, decide_eq_true_eq, ByteArray.size_extract]
        omega
    · rw [if_neg h, if_neg h, if_neg]
      · rfl
      · have : (⟨#[]⟩ : ByteArray).size = 0 := rfl
        simp only [Bool.and_eq_true, decide_eq_true_eq, this]
        omega
  rw [e] at this
  exact this

def takeF (q p h : Nat) : Value := .func (.func 40) #[] #[.pointer (some ⟨q, 0, none⟩), .pointer (some ⟨p, 0, none⟩), .pointer (some ⟨h, 0, none⟩)]
def numF (k : Nat) : Value := .func (.func 42) #[] #[.pointer (some ⟨k, 0, none⟩)]
theorem block_ne {w : World} {x y : Nat} {cs ds : Array Value} {t u : TypeId} {f g : Nat × Nat} (h : w.heap[x]? = some (.cells cs t f)) (k : w.heap[y]? = some (.cells ds u g)) (hn : t ≠ u) : x ≠ y := by
  rintro rfl
  rw [h] at k
  simp at k
  exact hn k.2.1

/-- bytes that are being read: the text, the place, whether all was there, the closure -/
structure St (W0 w : World) (q p h k : Nat) (s : ByteArray) (t : Nat) (b : Bool) : Prop where
  str : w.heap[q]? = some (.cells #[.string s] 9 (0, 0))
  pos : w.heap[p]? = some (.cells #[.int .i64 (t : Int)] 3 (0, 0))
  whole : w.heap[h]? = some (.cells #[.bool b] 4 (0, 0))
  take : w.heap[k]? = some (.cells #[takeF q p h] 74 (0, 0))
  below : Below W0.heap.size W0 w
  newp : W0.heap.size ≤ p
  newh : W0.heap.size ≤ h
theorem St.later {W0 w w' : World} {q p h k : Nat} {s : ByteArray} {t : Nat} {b : Bool} (S : St W0 w q p h k s t b) (u : Below w.heap.size w w') : St W0 w' q p h k s t b :=
  have on : ∀ {x : Nat} {o : Obj}, w.heap[x]? = some o → w'.heap[x]? = some o := fun hx => (u.block _ (Array.getElem?_eq_some_iff.1 hx).1).trans hx
  ⟨on S.str, on S.pos, on S.whole, on S.take, S.below.trans (u.mono S.below.size), S.newp, S.newh⟩
/-- what a taking may touch -/
def Pl (p h : Nat) : Nat → Prop := fun x => x = p ∨ x = h
/-- other blocks are touched -/
theorem St.beside {W0 w w' : World} {q p h k : Nat} {s : ByteArray} {t : Nat} {b : Bool} (S : St W0 w q p h k s t b) {F : Nat → Prop} (u : Touch F w w') (hF : ∀ x, F x → x ≠ q ∧ x ≠ p ∧ x ≠ h ∧ x ≠ k ∧ W0.heap.size ≤ x) : St W0 w' q p h k s t b :=
  have on : ∀ {x : Nat} {o : Obj}, w.heap[x]? = some o → ¬ F x → w'.heap[x]? = some o := fun hx hn => (u.block _ (Array.getElem?_eq_some_iff.1 hx).1 hn).trans hx
  ⟨on S.str (fun f => (hF _ f).1 rfl), on S.pos (fun f => (hF _ f).2.1 rfl), on S.whole (fun f => (hF _ f).2.2.1 rfl), on S.take (fun f => (hF _ f).2.2.2.1 rfl), S.below.trans (u.below S.below.size fun x f => (hF x f).2.2.2.2), S.newp, S.newh⟩
theorem St.setPos {W0 w : World} {q p h k : Nat} {s : ByteArray} {t : Nat} {b : Bool} (S : St W0 w q p h k s t b) (t' : Nat) : St W0 (w.setCell ⟨p, 0, none⟩ (.int .i64 (t' : Int))) q p h k s t' b := by
  have on : ∀ {x : Nat} {cs : Array Value} {ty : TypeId} {fz : Nat × Nat}, w.heap[x]? = some (.cells cs ty fz) → 3 ≠ ty → (w.setCell ⟨p, 0, none⟩ (.int .i64 (t' : Int))).heap[x]? = some (.cells cs ty fz) := fun hx hn => by
    rw [heap_setCell_other _ _ _ _ (fun e => block_ne S.pos hx hn e.symm)]; exact hx
  refine ⟨on S.str (by decide), ?_, on S.whole (by decide), on S.take (by decide), S.below.setCell S.newp _, S.newp, S.newh⟩
  rw [heap_setCell_same w p 0 _ _ _ S.pos]; rfl
theorem St.setWhole {W0 w : World} {q p h k : Nat} {s : ByteArray} {t : Nat} {b : Bool} (S : St W0 w q p h k s t b) (b' : Bool) : St W0 (w.setCell ⟨h, 0, none⟩ (.bool b')) q p h k s t b' := by
  have on : ∀ {x : Nat} {cs : Array Value} {ty : TypeId} {fz : Nat × Nat}, w.heap[x]? = some (.cells cs ty fz) → 4 ≠ ty → (w.setCell ⟨h, 0, none⟩ (.bool b')).heap[x]? = some (.cells cs ty fz) := fun hx hn => by
    rw [heap_setCell_other _ _ _ _ (fun e => block_ne S.whole hx hn e.symm)]; exact hx
  refine ⟨on S.str (by decide), on S.pos (by decide), ?_, on S.take (by decide), S.below.setCell S.newh _, S.newp, S.newh⟩
  rw [heap_setCell_same w h 0 _ _ _ S.whole]; rfl
theorem St.cells {W0 w : World} {q p h k : Nat} {s : ByteArray} {t : Nat} {b : Bool} (S : St W0 w q p h k s t b) : w.cell? ⟨q, 0, none⟩ = some (.string s) ∧ w.cell? ⟨p, 0, none⟩ = some (.int .i64 (t : Int)) ∧ w.cell? ⟨h, 0, none⟩ = some (.bool b) ∧ w.cell? ⟨k, 0, none⟩ = some (takeF q p h) ∧ w.frozen? ⟨p, 0, none⟩ = false ∧ w.frozen? ⟨h, 0, none⟩ = false := by
  refine ⟨?_, ?_, ?_, ?_, frozen_of_row _ _ _ _ _ S.pos, frozen_of_row _ _ _ _ _ S.whole⟩
  · rw [cell_of_row _ _ _ _ _ _ S.str]; rfl
  · rw [cell_of_row _ _ _ _ _ _ S.pos]; rfl
  · rw [cell_of_row _ _ _ _ _ _ S.whole]; rfl
  · rw [cell_of_row _ _ _ _ _ _ S.take]; rfl

/-- what a taking leaves -/
structure Tk (W0 w w' : World) (q p h k : Nat) (s : ByteArray) (t : Nat) (b : Bool) : Prop where
  st : St W0 w' q p h k s t b
  touch : Touch (Pl p h) w w'

set_option maxRecDepth 100000 in
set_option maxHeartbeats 1000000 in
theorem take_any {W0 w : World} {q p h k : Nat} {s : ByteArray} {t : Nat} {b : Bool} (S : St W0 w q p h k s t b) (n : Nat) (hs : s.size ≤ 140737488351232) (ht : t ≤ s.size) (hn : n ≤ 140737488351232) :
    Calls Try.prog 40 #[.int .i64 (n : Int), .pointer (some ⟨q, 0, none⟩), .pointer (some ⟨p, 0, none⟩), .pointer (some ⟨h, 0, none⟩)] w fun e w' => e = .returned (.string (tkS s t n)) ∧ Tk W0 w w' q p h k s (tkT s t n) (b && tkB s t n) := by
  have K := Lib.hid (fun W => cut_any s t n W hs ht hn)
  have e := tkS_size s t n
  have hu := tkT_le n ht
  have SS := Lib.hid S
  clear S hn
  generalize tkS s t n = x at *
  generalize tkB s t n = y at *
  generalize tkT s t n = u at *
  have hw : IntKind.i64.wrap ((t : Int) + (x.size : Int)) = (u : Int) := by rw [IntKind.wrap_i64]; omega
  have HU := Lib.hid e
  clear e ht hu hs
  obtain ⟨c0, c1, c2, c3, f1, f2⟩ := SS.out.cells
  go_enter Try.func40, Try.ntmps40
  go_wp2_with fail
  refine (K.out _).mono ?_
  rintro e w1 ⟨rfl, b1⟩
  have S1 := Lib.hid (SS.out.later b1)
  have T1 := Lib.hid (Touch.ofNew (F := Pl p h) b1)
  clear c0 c1 c2 c3 f1 f2 b1 SS K
  have S2 := Lib.hid (S1.out.setPos u)
  have T2 := Lib.hid (T1.out.setCell (x := ⟨p, 0, none⟩) (.inl rfl) (.int .i64 (u : Int)))
  have S3 := Lib.hid (S2.out.setWhole (b && y))
  have T3 := Lib.hid (T2.out.setCell (x := ⟨h, 0, none⟩) (.inr rfl) (.bool (b && y)))
  obtain ⟨c0, c1, c2, c3, f1, f2⟩ := S1.out.cells
  obtain ⟨d0, d1, d2, d3, g1, g2⟩ := S2.out.cells
  have HW := Lib.hid hw
  cases b with
  | false =>
    go_wp2_with fail
    go_ret
    exact ⟨rfl, by first | exact ⟨S3.out, T3.out⟩ | (have := HU.out; subst this; exact ⟨S3.out, T3.out⟩)⟩
  | true =>
    rw [Bool.true_and] at S3 T3
    go_wp2_with fail
    go_ret
    exact ⟨rfl, by first | exact ⟨S3.out, T3.out⟩ | (have := HU.out; subst this; exact ⟨S3.out, T3.out⟩)⟩

set_option maxRecDepth 100000 in
set_option maxHeartbeats 1000000 in
theorem num_any {W0 w : World} {q p h k : Nat} {s : ByteArray} {t : Nat} {b : Bool} (S : St W0 w q p h k s t b) (n : Nat) (hs : s.size ≤ 140737488351232) (ht : t ≤ s.size) (h1 : 1 ≤ n) (h8 : n ≤ 8) :
    Calls Try.prog 42 #[.int .i64 (n : Int), .pointer (some ⟨k, 0, none⟩)] w fun e w' => e = .returned (.int .u64 (tkN s t n : Int)) ∧ Tk W0 w w' q p h k s (tkT s t n) (b && tkB s t n) := by
  have K := Lib.hid (take_any S n hs ht (by omega))
  have G := Lib.hid (fun W => get_part (s := s) (t := t) (n := n) W hs h1 h8)
  have c0 := S.cells.2.2.2.1
  unfold takeF at c0
  clear S hs ht h1 h8
  generalize tkS s t n = x at *
  generalize tkB s t n = y at *
  generalize tkT s t n = u at *
  generalize tkN s t n = z at *
  go_enter Try.func42, Try.ntmps42
  go_wp2_with fail
  refine K.out.mono ?_
  rintro e w1 ⟨rfl, S1⟩
  have SS := Lib.hid S1
  clear S1 c0 K
  go_wp2_with fail
  obtain ⟨b2, g2⟩ := G.out w1
  refine g2.mono ?_
  rintro e w2 ⟨rfl, rfl⟩
  go_wp2_with fail
  go_ret
  exact ⟨rfl, SS.out⟩

end Go.Proofs.Ytadhophiannigaa.Rec
