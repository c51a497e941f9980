/- Walks: closures that take part by part. -/
import Derived.Test.YtobnenjhmkbdoaaDoorOW5
namespace Go.Proofs.YtobnenjhmkbdoaaDoor.Row
open Go.RowKit
attribute [local go_sem ↓] Go.wp_at_zero Go.wp_at_succ

def takeF (p h : Nat) : Value := .func (.func 43) #[] #[.pointer (some ⟨p, 0, none⟩), .pointer (some ⟨h, 0, none⟩)]
def numF (k : Nat) : Value := .func (.func 45) #[] #[.pointer (some ⟨k, 0, none⟩)]
def textF (k m : Nat) : Value := .func (.func 46) #[] #[.pointer (some ⟨k, 0, none⟩), .pointer (some ⟨m, 0, none⟩)]

theorem block_ne {w : World} {x y : Nat} {cs ds : Array Value} {t u : TypeId} {f g : Nat × Nat} (h : w.heap[x]? = some (.cells cs t f)) (k : w.heap[y]? = some (.cells ds u g)) (hn : t ≠ u) : x ≠ y := by
  rintro rfl
  rw [h] at k
  simp at k
  exact hn k.2.1

/-- a row that is being read: its cells, its box, whether all was there, the closures -/
structure St (W0 w : World) (f p h k m : Nat) (s : ByteArray) (t : Nat) (r : Rw) (b : Bool) : Prop where
  fd : Fd w f s t r
  box : w.heap[p]? = some (.cells #[.pointer (some ⟨f, 0, none⟩)] 82 (0, 0))
  whole : w.heap[h]? = some (.cells #[.bool b] 4 (0, 0))
  take : w.heap[k]? = some (.cells #[takeF p h] 84 (0, 0))
  num : w.heap[m]? = some (.cells #[numF k] 85 (0, 0))
  touch : Touch (fun x => x = f) W0 w
  new : W0.heap.size ≤ h
theorem St.later {W0 w w' : World} {f p h k m : Nat} {s : ByteArray} {t : Nat} {r : Rw} {b : Bool} (S : St W0 w f p h k m s t r b) (u : Below w.heap.size w w') : St W0 w' f p h k m s t r b :=
  have on : ∀ {x : Nat} {o : Obj}, w.heap[x]? = some o → w'.heap[x]? = some o := fun hx => (u.block _ (Array.getElem?_eq_some_iff.1 hx).1).trans hx
  ⟨on S.fd, on S.box, on S.whole, on S.take, on S.num, S.touch.trans' (Touch.ofNew u), S.new⟩
theorem St.touched {W0 w w' : World} {f p h k m : Nat} {s : ByteArray} {t t' : Nat} {r r' : Rw} {b : Bool} (S : St W0 w f p h k m s t r b) (F : Fd w' f s t' r') (u : Touch (fun x => x = f) w w') : St W0 w' f p h k m s t' r' b := by
  have on : ∀ {x : Nat} {cs : Array Value} {ty : TypeId} {fz : Nat × Nat}, w.heap[x]? = some (.cells cs ty fz) → 62 ≠ ty → w'.heap[x]? = some (.cells cs ty fz) := fun hx hn =>
    (u.block _ (Array.getElem?_eq_some_iff.1 hx).1 (fun e => block_ne S.fd hx hn e.symm)).trans hx
  exact ⟨F, on S.box (by decide), on S.whole (by decide), on S.take (by decide), on S.num (by decide), S.touch.trans' u, S.new⟩
theorem St.setWhole {W0 w : World} {f p h k m : Nat} {s : ByteArray} {t : Nat} {r : Rw} {b : Bool} (S : St W0 w f p h k m s t r b) (b' : Bool) : St W0 (w.setCell ⟨h, 0, none⟩ (.bool b')) f p h k m s t r b' := by
  have on : ∀ {x : Nat} {cs : Array Value} {ty : TypeId} {fz : Nat × Nat}, w.heap[x]? = some (.cells cs ty fz) → 4 ≠ ty → (w.setCell ⟨h, 0, none⟩ (.bool b')).heap[x]? = some (.cells cs ty fz) := fun hx hn => by
    rw [heap_setCell_other _ _ _ _ (fun e => block_ne S.whole hx hn e.symm)]; exact hx
  refine ⟨on S.fd (by decide), on S.box (by decide), ?_, on S.take (by decide), on S.num (by decide), S.touch.setNew (x := ⟨h, 0, none⟩) S.new _, S.new⟩
  rw [heap_setCell_same w h 0 _ _ _ S.whole]; rfl
/-- a part of the row is another one -/
theorem St.part {W0 w : World} {f p h k m : Nat} {s : ByteArray} {t : Nat} {r r' : Rw} {b : Bool} (S : St W0 w f p h k m s t r b) (j : Nat) (v : Value) (e : (fdC s t r).setIfInBounds j v = fdC s t r') : St W0 (w.setCell ⟨f, j, none⟩ v) f p h k m s t r' b := by
  refine S.touched ?_ ((Touch.refl (fun x => x = f) w).setCell (x := ⟨f, j, none⟩) rfl v)
  unfold Fd
  rw [heap_setCell_same w f j _ _ _ S.fd, e]

theorem St.boxC {W0 w : World} {f p h k m : Nat} {s : ByteArray} {t : Nat} {r : Rw} {b : Bool} (S : St W0 w f p h k m s t r b) : w.cell? ⟨p, 0, none⟩ = some (.pointer (some ⟨f, 0, none⟩)) := by rw [cell_of_row _ _ _ _ _ _ S.box]; rfl
theorem St.wholeC {W0 w : World} {f p h k m : Nat} {s : ByteArray} {t : Nat} {r : Rw} {b : Bool} (S : St W0 w f p h k m s t r b) : w.cell? ⟨h, 0, none⟩ = some (.bool b) ∧ w.frozen? ⟨h, 0, none⟩ = false := ⟨by rw [cell_of_row _ _ _ _ _ _ S.whole]; rfl, frozen_of_row _ _ _ _ _ S.whole⟩
theorem St.takeC {W0 w : World} {f p h k m : Nat} {s : ByteArray} {t : Nat} {r : Rw} {b : Bool} (S : St W0 w f p h k m s t r b) : w.cell? ⟨k, 0, none⟩ = some (takeF p h) := by rw [cell_of_row _ _ _ _ _ _ S.take]; rfl
theorem St.numC {W0 w : World} {f p h k m : Nat} {s : ByteArray} {t : Nat} {r : Rw} {b : Bool} (S : St W0 w f p h k m s t r b) : w.cell? ⟨m, 0, none⟩ = some (numF k) := by rw [cell_of_row _ _ _ _ _ _ S.num]; rfl

set_option maxRecDepth 100000 in
set_option maxHeartbeats 1000000 in
theorem take_any {W0 w : World} {f p h k m : Nat} {s : ByteArray} {t : Nat} {r : Rw} {b : Bool} (S : St W0 w f p h k m s t r b) (n : Nat) (hs : s.size ≤ 140737488351232) (ht : t ≤ s.size) (hn : n ≤ 140737488351232) :
    Calls Tryd.prog 43 #[.int .i64 (n : Int), .pointer (some ⟨p, 0, none⟩), .pointer (some ⟨h, 0, none⟩)] w fun e w' => e = .returned (.string (tkS s t n)) ∧ St W0 w' f p h k m s (tkT s t n) r (b && tkB s t n) := by
  have K := Lib.hid (next_any S.fd n hs ht hn)
  have c0 := S.boxC
  have SS := Lib.hid S
  clear S hs ht hn
  generalize tkS s t n = x at *
  generalize tkB s t n = y at *
  generalize tkT s t n = u at *
  go_enter Tryd.func43, Tryd.ntmps43
  go_wp2_with fail
  refine K.out.mono ?_
  rintro e w1 ⟨rfl, F1, u1⟩
  have S1 := Lib.hid (SS.out.touched F1 u1)
  clear F1 u1 SS K c0
  obtain ⟨c0, fz⟩ := S1.out.wholeC
  cases b with
  | false =>
    have S2 := Lib.hid (S1.out.setWhole false)
    clear S1
    go_wp2_with fail
    go_ret
    exact ⟨rfl, S2.out⟩
  | true =>
    have S2 := Lib.hid (S1.out.setWhole y)
    clear S1
    go_wp2_with fail
    go_ret
    exact ⟨rfl, by simpa using S2.out⟩

theorem get_part {s : ByteArray} {t n : Nat} (w : World) (_hs : s.size ≤ 140737488351232) (h1 : 1 ≤ n) (h8 : n ≤ 8) :
    ∃ b, Calls Tryd.prog 32 #[.string (tkS s t n), .int .i64 0, .int .i64 (n : Int)] w fun e w' => e = .returned (.tuple #[.int .u64 (tkN s t n : Int), .bool b]) ∧ w = w' := by
  have hz : (tkS s t n).size ≤ 140737488351232 := by
    unfold tkS
    split
    · rw [ByteArray.size_extract]; omega
    · exact Nat.zero_le _
  refine ⟨getB (tkS s t n) 0 n, ?_⟩
  have := get_any (tkS s t n) 0 (n : Int) w (by omega) (by omega)
  have e : getN (tkS s t n) 0 n = (tkN s t n : Int) := by
    unfold getN getB hasB mayB tkS tkN
    by_cases h : t + n ≤ s.size
    · rw [if_pos h, if_pos h, if_pos]
      · have := numAt_part s t n n h (Nat.le_refl _)
        show ((numAt (s.extract t (t + n)) 0 n : Nat) : Int) = _
        rw [this]
      · simp only [Bool.and_eq_true, decide_eq_true_eq, ByteArray.size_extract]
        omega
    · rw [if_neg h, if_neg h, if_neg]
      · rfl
      · have : (⟨#[]⟩ : ByteArray).size = 0 := rfl
        simp only [Bool.and_eq_true, decide_eq_true_eq, this]
        omega
  rw [e] at this
  exact this

set_option maxRecDepth 100000 in
set_option maxHeartbeats 1000000 in
theorem num_any {W0 w : World} {f p h k m : Nat} {s : ByteArray} {t : Nat} {r : Rw} {b : Bool} (S : St W0 w f p h k m s t r b) (n : Nat) (hs : s.size ≤ 140737488351232) (ht : t ≤ s.size) (h1 : 1 ≤ n) (h8 : n ≤ 8) :
    Calls Tryd.prog 45 #[.int .i64 (n : Int), .pointer (some ⟨k, 0, none⟩)] w fun e w' => e = .returned (.int .u64 (tkN s t n : Int)) ∧ St W0 w' f p h k m s (tkT s t n) r (b && tkB s t n) := by
  have K := Lib.hid (take_any S n hs ht (by omega))
  have G := Lib.hid (fun W => get_part (s := s) (t := t) (n := n) W hs h1 h8)
  have c0 := S.takeC
  unfold takeF at c0
  clear S hs ht h1 h8
  generalize tkS s t n = x at *
  generalize tkB s t n = y at *
  generalize tkT s t n = u at *
  generalize tkN s t n = z at *
  go_enter Tryd.func45, Tryd.ntmps45
  go_wp2_with fail
  refine K.out.mono ?_
  rintro e w1 ⟨rfl, S1⟩
  have SS := Lib.hid S1
  clear S1 c0 K
  go_wp2_with fail
  obtain ⟨b2, g2⟩ := G.out w1
  refine g2.mono ?_
  rintro e w2 ⟨rfl, rfl⟩
  go_wp2_with fail
  go_ret
  exact ⟨rfl, SS.out⟩

set_option maxRecDepth 100000 in
set_option maxHeartbeats 1000000 in
theorem txt_any {W0 w : World} {f p h k m : Nat} {s : ByteArray} {t : Nat} {r : Rw} {b : Bool} (S : St W0 w f p h k m s t r b) (hs : s.size ≤ 140737488351232) (ht : t ≤ s.size) :
    Calls Tryd.prog 46 #[.pointer (some ⟨k, 0, none⟩), .pointer (some ⟨m, 0, none⟩)] w fun e w' => e = .returned (.string (tkS s (tkT s t 1) (tkN s t 1))) ∧ St W0 w' f p h k m s (tkT s (tkT s t 1) (tkN s t 1)) r (b && tkB s t 1 && tkB s (tkT s t 1) (tkN s t 1)) := by
  have S0 := Lib.hid (S.later ((Below.refl _ _).drew))
  have lt := tkN_lt s t 1
  have le := tkT_le (s := s) 1 ht
  have K1 := Lib.hid (show Calls Tryd.prog 45 #[.int .i64 1, .pointer (some ⟨k, 0, none⟩)] w.drew fun e w' => e = .returned (.int .u64 (tkN s t 1 : Int)) ∧ St W0 w' f p h k m s (tkT s t 1) r (b && tkB s t 1) from num_any S0.out 1 hs ht (by decide) (by decide))
  clear S ht
  generalize tkT s t 1 = u at *
  generalize tkB s t 1 = y at *
  generalize tkN s t 1 = z at *
  have hw : IntKind.i64.wrap (z : Int) = (z : Int) := by rw [IntKind.wrap_i64]; omega
  have K2 := Lib.hid (fun W (S : St W0 W f p h k m s u r (b && y)) => take_any S z hs le (by omega))
  clear lt le hs
  go_enter Tryd.func46, Tryd.ntmps46
  go_wp2_with fail
  go_region_held3 (fun w' => w'.cell? ⟨k, 0, none⟩ = some (.func (.func 43) #[] #[.pointer (some ⟨p, 0, none⟩), .pointer (some ⟨h, 0, none⟩)]) ∧ w'.cell? ⟨m, 0, none⟩ = some (.func (.func 45) #[] #[.pointer (some ⟨k, 0, none⟩)])) (first | exact ⟨S0.out.takeC, S0.out.numC⟩ | exact ⟨S1.takeC, S1.numC⟩ | exact ⟨S2.takeC, S2.numC⟩)
    (first
      | (go_at_call 45; refine K1.out.mono ?_; rintro e w1 ⟨rfl, S1⟩)
      | (go_at_call 43; refine (K2.out _ S1).mono ?_; rintro e w2 ⟨rfl, S2⟩))
  have SS := Lib.hid S2
  clear S1 S2 S0 K1 K2
  go_wp2_with fail
  go_ret
  exact ⟨rfl, SS.out⟩

end Go.Proofs.YtobnenjhmkbdoaaDoor.Row
