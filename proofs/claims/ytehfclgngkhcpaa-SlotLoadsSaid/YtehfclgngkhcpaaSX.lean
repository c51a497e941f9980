/- Walks: Set. -/
import Derived.Test.YtehfclgngkhcpaaSW9
namespace Go.Proofs.Ytehfclgngkhcpaa.Slot
open Go.RowKit
attribute [local go_sem ↓] Go.wp_at_zero Go.wp_at_succ

section
variable {w : World} {p g c : Nat} {a : A}
theorem put_is (h : Area w p g c a) (i : Int) (t : ByteArray) (ht : t.size ≤ 281474976710656) :
    Calls Try.prog 36 #[.pointer (some ⟨p, 0, none⟩), .int .i64 i, .string t] w fun e w' => e = .returned (.int .i64 (putE a i t.data.toList)) ∧ (Area w' p g c (putA a i t.data.toList) ∧ Touch (both p g) w w') := by
  have htl : t.data.toList.length = t.size := rfl
  unfold putA putE
  rw [htl]
  by_cases h1 : i < 0 ∨ (a.dir.length : Int) < i
  · rw [if_pos h1, if_neg (by simp)]
    exact (put_arg h i t ht h1).mono fun _ _ ⟨x1, x2⟩ => ⟨x1, x2 ▸ h, x2 ▸ Touch.refl _ _⟩
  · rw [if_neg h1]
    by_cases h2 : a.free < t.size + 4
    · rw [if_pos h2, if_neg (by simp)]
      exact (put_full h i t ht (by omega) h2).mono fun _ _ ⟨x1, x2⟩ => ⟨x1, h.later x2, Touch.ofNew x2⟩
    · rw [if_neg h2, if_pos rfl]
      obtain ⟨k, rfl⟩ : ∃ k : Nat, i = k := ⟨i.toNat, by omega⟩
      exact put_room h k t (by omega) (by omega)

theorem has_is (h : Area w p g c a) (i : Int) : Calls Try.prog 77 #[.pointer (some ⟨p, 0, none⟩), .int .i64 i] w fun e w' => e = .returned (.int .i64 (if hasP a i then 0 else 3)) ∧ w = w' := by
  obtain ⟨⟨b, h1, h2⟩, h3⟩ := h
  have := has_any h1 i
  unfold hasE at this
  rw [h2.cnt] at this
  exact this
theorem spot_is (h : Area w p g c a) {k : Nat} (hi : k < a.dir.length) : Calls Try.prog 78 #[.pointer (some ⟨p, 0, none⟩), .int .i64 (k : Int)] w fun e w' => e = .returned (spotV (a.at k)) ∧ Below w.heap.size w w' := by
  obtain ⟨⟨b, h1, h2⟩, h3⟩ := h
  have hf := h3.fin
  have hl := h3.low
  have hlen := h2.len
  unfold A.fin at hf
  have := spot_any h1 k (by omega)
  rwa [is_spot h2 hi] at this

set_option maxRecDepth 100000 in
theorem set_no (h : Area w p g c a) (i : Int) (t : ByteArray) (hi : ¬ hasP a i) :
    Calls Try.prog 33 #[.pointer (some ⟨p, 0, none⟩), .int .i64 i, .string t] w fun e w' => e = .returned (.int .i64 3) ∧ w = w' := by
  have m := has_is h i
  rw [if_neg hi] at m
  clear hi
  go_enter Try.func33, Try.ntmps33
  go_wp2_with fail
  refine m.mono ?_
  rintro e w' ⟨rfl, rfl⟩
  clear m
  go_wp2_with fail
  go_ret
  exact ⟨rfl, rfl⟩

set_option maxRecDepth 100000 in
set_option maxHeartbeats 4000000 in
theorem set_in (h : Area w p g c a) (k : Nat) (t : ByteArray) (hi : k < a.dir.length) (hs : t.size ≤ (a.at k).2) :
    Calls Try.prog 33 #[.pointer (some ⟨p, 0, none⟩), .int .i64 (k : Int), .string t] w fun e w' => e = .returned (.int .i64 0) ∧ (Area w' p g c (a.inPlace k t.data.toList) ∧ Touch (both p g) w w') := by
  have hlt := h.below
  have m := has_is h (k : Int)
  rw [if_pos (show hasP a (k : Int) from ⟨by omega, by omega⟩)] at m
  have sp := spot_is h hi
  obtain ⟨⟨b, A0, I0⟩, hk⟩ := h
  have htl : t.data.toList.length = t.size := rfl
  obtain ⟨p1, p2⟩ := inPlace_all I0 hk hi (t := t.data.toList) (by rw [htl]; exact hs)
  have ok1 := inPlace_ok hk hi (t := t.data.toList) (by rw [htl]; exact hs)
  have he := hk.each k hi
  have hn40 := hk.hi
  have hfin := hk.fin
  have hlow := hk.low
  have hlen := I0.len
  have hcap := A0.cap
  unfold A.fin at hfin
  rw [htl] at p1
  obtain ⟨x, hx⟩ : ∃ x, x = (a.at k).1 := ⟨_, rfl⟩
  obtain ⟨y, hy⟩ : ∃ y, y = (a.at k).2 := ⟨_, rfl⟩
  unfold spotV at sp
  rw [← hx, ← hy] at sp
  rw [← hx] at p1 p2 he
  rw [← hy] at hs he
  have hxt : x + t.size ≤ b.length := by omega
  have sl := fun W => slice_from W (g := g) (n := b.length) (c := c) (k := x) (by omega)
  have P6 := Lib.hid (show ∀ W, Ar W p g c (putL b x t.data.toList) → Calls Try.prog 79 #[.pointer (some ⟨p, 0, none⟩), .int .i64 (k : Int), .agg #[.int .i64 (x : Int), .int .i64 (t.size : Int)]] W fun e w' => e = .returned (.tuple #[]) ∧ (Area w' p g c (a.inPlace k t.data.toList) ∧ Touch (both p g) W w') from fun W hh => by
      have := point_any hh k (by omega) x t.size (by omega) (by omega)
      exact this.mono fun _ _ ⟨x1, x2, x3⟩ => ⟨x1, ⟨⟨_, x2, p1⟩, ok1⟩, x3⟩)
  have ht4 : (t.size : Int) ≤ 5000 := by omega
  have ht0 : (0 : Int) ≤ (t.size : Int) := Int.natCast_nonneg _
  have hd : decide ((t.size : Int) ≤ (y : Int)) = true := decide_eq_true (by omega)
  have hd2 : decide (t.size ≤ y) = true := decide_eq_true hs
  have M := Lib.hid m
  have SP := Lib.hid sp
  have HA := Lib.hid A0
  clear p1 p2 ok1 he hn40 hfin hlow hlen hx hy I0 hk A0 m sp hi hs htl
  go_enter Try.func33, Try.ntmps33
  go_wp2_with fail
  refine M.out.mono ?_
  rintro e w' ⟨rfl, rfl⟩
  go_wp2_with fail
  refine SP.out.mono ?_
  rintro e w1 ⟨rfl, b1⟩
  have b2 : Below w.heap.size w (w1.alloc (.cells #[.int .i64 (x : Int), .int .i64 (y : Int)] 112)) := b1.alloc b1.size _
  obtain ⟨W, hW⟩ : ∃ W, W = w1.alloc (.cells #[.int .i64 (x : Int), .int .i64 (y : Int)] 112) := ⟨_, rfl⟩
  have rn : W.heap[w1.heap.size]? = some (.cells #[.int .i64 (x : Int), .int .i64 (y : Int)] 112 (0, 0)) := by rw [hW]; exact heap_alloc_new _ _
  have hnp : ¬ both p g w1.heap.size := fun hh => by have := hlt _ hh; have := b1.size; omega
  rw [← hW] at b2
  have A2 := HA.out.later b2
  have c2 := A2.cell0
  have HW := Lib.hid hW
  have B2 := Lib.hid b2
  have g0 : W.cell? ⟨w1.heap.size, 0, none⟩ = some (.int .i64 (x : Int)) := by rw [cell_of_row _ _ _ _ _ _ rn]; rfl
  have g1 : W.cell? ⟨w1.heap.size, 1, none⟩ = some (.int .i64 (y : Int)) := by rw [cell_of_row _ _ _ _ _ _ rn]; rfl
  have w3 := A2.drew.put (k := x) (t := t.data.toList) (by show x + t.size ≤ _; omega)
  obtain ⟨W5, hW5⟩ : ∃ W5, W5 = W.drew.setCells g x (Lib.byteCells t.data.toList) := ⟨_, rfl⟩
  rw [← hW5] at w3
  have rn5 := (w3.2.block _ (Array.getElem?_eq_some_iff.1 rn).1 hnp).trans rn
  have g5 : W5.cell? ⟨w1.heap.size, 0, none⟩ = some (.int .i64 (x : Int)) := by rw [cell_of_row _ _ _ _ _ _ rn5]; rfl
  have P7 := Lib.hid (P6.out W5 w3.1)
  have T5 := Lib.hid ((Touch.ofNew b2 : Touch (both p g) w W).drew.trans' w3.2)
  have RW := Lib.hid (show Row W.drew g b from A2.drew.row)
  have HW5 := Lib.hid hW5
  clear b1 b2 hW A2 rn rn5 w3 hW5 SP M HA P6 hlt
  go_wp2_with (rw [← HW.out])
  (refine wp_region_still_tail 8 (by kernel_rfl) (by kernel_rfl) (still_of_quiet _ _ ?_); simp only [List.take_succ_cons, List.take_zero, List.drop_succ_cons, List.drop_zero]; (repeat (first | go_big_quiet_skip | (go_big_quiet_want; go_big_quiet_op; first | go_big_quiet_on | (apply Exists.intro; refine ⟨?_, ?_⟩; (first | fail); go_big_quiet_on)))); refine wpQuiet_nil ?_)
  change wpList _ _ _ _ _ W.drew
  refine wpList_copy_text RW.out rfl _ _ rfl x t hxt hcap rfl rfl ?_
  rw [← HW5.out]
  clear RW HW5 HW sl g0 g1 c2
  go_wp2_with fail
  refine P7.out.mono ?_
  rintro e w6 ⟨rfl, h6⟩
  have HE := Lib.hid (show Area w6 p g c (a.inPlace k t.data.toList) ∧ Touch (both p g) w w6 from ⟨h6.1, T5.out.trans' h6.2⟩)
  clear h6 T5 P7
  go_wp2_with fail
  go_ret
  exact ⟨rfl, HE.out⟩
end

end Go.Proofs.Ytehfclgngkhcpaa.Slot
