/- Walks: New; what there is of nil. -/
import Derived.Test.YtehfclgngkhcpaaSW4
import Derived.Test.YtehfclgngkhcpaaSP
import Derived.Test.YtehfclgngkhcpaaTL
namespace Go.Proofs.Ytehfclgngkhcpaa.Slot
open Go.RowKit
attribute [local go_sem ↓] Go.wp_at_zero Go.wp_at_succ

/-- block p is an area: this one -/
structure Area (w : World) (p g c : Nat) (a : A) : Prop where
  img : ∃ b, Ar w p g c b ∧ Is b a
  ok : a.ok
theorem Area.touch {w w' : World} {p g c : Nat} {a : A} {G : Nat → Prop} (h : Area w p g c a) (t : Touch G w w') (hd : ∀ x, both p g x → ¬ G x) : Area w' p g c a := by
  obtain ⟨⟨b, h1, h2⟩, h3⟩ := h
  exact ⟨⟨b, h1.touch t hd, h2⟩, h3⟩
theorem Area.later {w w' : World} {p g c : Nat} {a : A} (h : Area w p g c a) (t : Below w.heap.size w w') : Area w' p g c a := by
  obtain ⟨⟨b, h1, h2⟩, h3⟩ := h
  exact ⟨⟨b, h1.later t, h2⟩, h3⟩
theorem Area.drew {w : World} {p g c : Nat} {a : A} (h : Area w p g c a) : Area w.drew p g c a := h.later ((Below.refl _ _).drew)
theorem Area.below {w : World} {p g c : Nat} {a : A} (h : Area w p g c a) : ∀ x, both p g x → x < w.heap.size := by
  obtain ⟨⟨b, h1, h2⟩, h3⟩ := h
  exact h1.below

theorem num_zero (n k : Nat) : numL (List.replicate n 0) k = 0 := by
  have e : ∀ j, (List.replicate n (0 : UInt8)).getD j 0 = 0 := fun j => by
    rw [List.getD_eq_getElem?_getD, List.getElem?_replicate]
    split <;> rfl
  unfold numL
  rw [e, e]; rfl
theorem is_new {n : Nat} (h1 : 16 ≤ n) (h2 : n ≤ 4096) : Is (putL (List.replicate n 0) 2 (two n)) (A.new n) := by
  have h0 : Is (List.replicate n 0) ⟨List.replicate n 0, 0, []⟩ := ⟨rfl, num_zero n 0, num_zero n 2, fun i hi => by simp at hi, fun _ _ => rfl⟩
  exact is_low h0 (by show 4 + 4 * 0 ≤ (List.replicate n (0 : UInt8)).length; simp; omega) (v := n) (by omega)
theorem row_made (w : World) (n : Nat) : Row (w.alloc (.cells (madeCells (Value.int .u8 0).cells n) 5)) w.heap.size (List.replicate n 0) := by
  refine ⟨madeCells (Value.int .u8 0).cells n, (0, 0), heap_alloc_new _ _, ?_, ?_, .inl rfl⟩
  · rw [List.length_replicate]
    unfold madeCells Lib.byteCells
    apply List.ext_getElem?
    intro j
    by_cases hj : j < n <;> simp [Value.cells, hj, Nat.mod_one]
  · rw [List.length_replicate, size_madeCells]
    simp [Value.cells]

set_option maxRecDepth 100000 in
theorem new_no (n : Int) (w : World) (h : sizedB n = false) : Calls Try.prog 26 #[.int .i64 n] w fun e w' => e = .returned (.tuple #[.pointer none, .int .i64 2]) ∧ w = w' := by
  have m := sized_any n w
  rw [h] at m
  clear h
  go_enter Try.func26, Try.ntmps26
  go_wp2_with fail
  refine m.mono ?_
  rintro e w' ⟨rfl, rfl⟩
  clear m
  go_wp2_with fail
  go_ret2
  exact ⟨rfl, rfl⟩

/-- the new area's blocks -/
def newA (w w' : World) (n : Nat) : Prop := Area w' (w.heap.size + 1) w.heap.size n (A.new n) ∧ Below w.heap.size w w'
set_option maxRecDepth 100000 in
set_option maxHeartbeats 1000000 in
theorem new_any (n : Nat) (w : World) (h1 : 16 ≤ n) (h2 : n ≤ 4096) : Calls Try.prog 26 #[.int .i64 (n : Int)] w fun e w' => e = .returned (.tuple #[.pointer (some ⟨w.heap.size + 1, 0, none⟩), .int .i64 0]) ∧ newA w w' n := by
  have m := sized_any (n : Int) w
  rw [show sizedB (n : Int) = true from decide_eq_true ⟨by omega, by omega⟩] at m
  obtain ⟨i0, hi, hz0, hz1, hz2⟩ := info_parts Word.infoB
  obtain ⟨M, hM⟩ : ∃ M, M = madeCells (Value.int .u8 0).cells n := ⟨_, rfl⟩
  have hmk : ∀ W : World, (Instr.makeSlice 69 (.int .i64 (n : Int)) (.int .i64 (n : Int))).run Try.prog W = .ok (.slice (some ⟨W.heap.size, 0, none⟩) n n) (W.alloc (.cells M 5)) := fun W => by
    have h := run_make (P := Try.prog) W 69 5 i0 (.int .u8 0) Try.underlying69 hi hz0 .i64 .i64 (n : Int) (n : Int) (by omega) (by omega) (by rw [hz2]; omega) (by omega)
    simpa [hz1, ← hM] using h
  have b1 : Below w.heap.size w (w.alloc (.cells M 5)) := (Below.refl _ _).alloc (Nat.le_refl _) _
  obtain ⟨W1, hW1⟩ : ∃ W1, W1 = w.alloc (.cells M 5) := ⟨_, rfl⟩
  have hs1 : W1.heap.size = w.heap.size + 1 := by rw [hW1]; simp
  obtain ⟨W2, hW2⟩ : ∃ W2, W2 = W1.alloc (.cells #[.slice (some ⟨w.heap.size, 0, none⟩) n n] 100) := ⟨_, rfl⟩
  have hA : Ar W2 (w.heap.size + 1) w.heap.size n (List.replicate n 0) := by
    refine ⟨?_, ?_, ?_, ?_, ?_⟩
    · rw [hW2, ← hs1, List.length_replicate]; exact heap_alloc_new _ _
    · rw [hW2, hW1, hM]
      exact (row_made w n).far (Below.heap_alloc _ _ _ (by simp))
    · rw [List.length_replicate]; exact Nat.le_refl _
    · rw [List.length_replicate]; exact h1
    · rw [List.length_replicate]; exact h2
  rw [← hW1] at b1
  have b2 : Below w.heap.size w W2 := by rw [hW2]; exact b1.alloc (by omega) _
  have ly := lay_any hA 2 n (by rw [List.length_replicate]; omega) (by omega)
  have HE : ∀ w', Ar w' (w.heap.size + 1) w.heap.size n (putL (List.replicate n 0) 2 (two n)) → Touch (both (w.heap.size + 1) w.heap.size) W2 w' → newA w w' n := fun w' k1 k2 =>
    ⟨⟨⟨_, k1, is_new h1 h2⟩, new_ok h1 h2⟩, b2.trans (k2.below b2.size (by rintro x (rfl | rfl) <;> omega))⟩
  have HH := Lib.hid HE
  have HW1 := Lib.hid hW1
  have HW2 := Lib.hid hW2
  have HS1 := Lib.hid hs1
  have LY := Lib.hid ly
  clear hM hz0 hz1 hz2 hi hW1 hW2 hA b1 b2 HE hs1 ly i0
  go_enter Try.func26, Try.ntmps26
  go_wp2_with fail
  refine m.mono ?_
  rintro e w' ⟨rfl, rfl⟩
  clear m
  go_wp2_with (first | rw [← HW1.out] | rw [HS1.out] | rw [← HW2.out])
  refine LY.out.mono ?_
  rintro e w' ⟨rfl, k⟩
  have K := Lib.hid (HH.out _ k.1 k.2)
  clear k LY HH HW1 HW2 hmk
  go_wp2_with fail
  go_ret2
  exact ⟨rfl, K.out⟩

section
variable (w : World)
set_option maxRecDepth 100000 in
theorem has_nil (i : Int) : Calls Try.prog 77 #[.pointer none, .int .i64 i] w fun e w' => e = .returned (.int .i64 1) ∧ w = w' := by
  have m := made_nil w
  go_enter Try.func77, Try.ntmps77
  go_wp2_with fail
  refine m.mono ?_
  rintro e w' ⟨rfl, rfl⟩
  clear m
  go_wp2_with fail
  go_ret
  exact ⟨rfl, rfl⟩
set_option maxRecDepth 100000 in
theorem len_nil : Calls Try.prog 37 #[.pointer none] w fun e w' => e = .returned (.int .i64 0) ∧ w = w' := by
  have m := made_nil w
  go_enter Try.func37, Try.ntmps37
  go_wp2_with fail
  refine m.mono ?_
  rintro e w' ⟨rfl, rfl⟩
  clear m
  go_wp2_with fail
  go_ret
  exact ⟨rfl, rfl⟩
set_option maxRecDepth 100000 in
theorem bytes_nil : Calls Try.prog 29 #[.pointer none] w fun e w' => e = .returned (.string ⟨#[]⟩) ∧ w = w' := by
  have m := made_nil w
  go_enter Try.func29, Try.ntmps29
  go_wp2_with fail
  refine m.mono ?_
  rintro e w' ⟨rfl, rfl⟩
  clear m
  go_wp2_with fail
  go_ret
  exact ⟨rfl, rfl⟩
set_option maxRecDepth 100000 in
theorem gap_nil : Calls Try.prog 40 #[.pointer none] w fun e w' => e = .returned (.int .i64 0) ∧ w = w' := by
  have m := made_nil w
  go_enter Try.func40, Try.ntmps40
  go_wp2_with fail
  refine m.mono ?_
  rintro e w' ⟨rfl, rfl⟩
  clear m
  go_wp2_with fail
  go_ret
  exact ⟨rfl, rfl⟩
set_option maxRecDepth 100000 in
theorem free_nil : Calls Try.prog 39 #[.pointer none] w fun e w' => e = .returned (.int .i64 0) ∧ w = w' := by
  have m := made_nil w
  go_enter Try.func39, Try.ntmps39
  go_wp2_with fail
  refine m.mono ?_
  rintro e w' ⟨rfl, rfl⟩
  clear m
  go_wp2_with fail
  go_ret
  exact ⟨rfl, rfl⟩
def Compacted (w : World) (e : Ending) (w' : World) : Prop := e = .returned (.int .i64 0) ∧ Below w.heap.size w w'
set_option maxRecDepth 100000 in
theorem compact_nil : Calls Try.prog 35 #[.pointer none] w (Compacted w) := by
  have m := made_nil (w.alloc (.cells #[.pointer none] 50))
  go_enter Try.func35, Try.ntmps35
  go_wp2_with fail
  refine m.mono ?_
  rintro e w' ⟨rfl, rfl⟩
  clear m
  go_wp2_with fail
  go_ret
  exact ⟨rfl, (Below.refl _ _).alloc (Nat.le_refl _) _⟩
set_option maxRecDepth 100000 in
theorem remove_nil (i : Int) : Calls Try.prog 34 #[.pointer none, .int .i64 i] w fun e w' => e = .returned (.int .i64 1) ∧ w = w' := by
  have m := has_nil w i
  go_enter Try.func34, Try.ntmps34
  go_wp2_with fail
  refine m.mono ?_
  rintro e w' ⟨rfl, rfl⟩
  clear m
  go_wp2_with fail
  go_ret
  exact ⟨rfl, rfl⟩
set_option maxRecDepth 100000 in
theorem set_nil (i : Int) (t : ByteArray) : Calls Try.prog 33 #[.pointer none, .int .i64 i, .string t] w fun e w' => e = .returned (.int .i64 1) ∧ w = w' := by
  have m := has_nil w i
  go_enter Try.func33, Try.ntmps33
  go_wp2_with fail
  refine m.mono ?_
  rintro e w' ⟨rfl, rfl⟩
  clear m
  go_wp2_with fail
  go_ret
  exact ⟨rfl, rfl⟩
set_option maxRecDepth 100000 in
theorem put_nil (i : Int) (t : ByteArray) (ht : t.size ≤ 281474976710656) : Calls Try.prog 36 #[.pointer none, .int .i64 i, .string t] w fun e w' => e = .returned (.int .i64 1) ∧ w = w' := by
  have m := made_nil w
  go_enter Try.func36, Try.ntmps36
  go_wp2_with fail
  refine m.mono ?_
  rintro e w' ⟨rfl, rfl⟩
  clear m
  go_wp2_with fail
  go_ret
  exact ⟨rfl, rfl⟩
end

end Go.Proofs.Ytehfclgngkhcpaa.Slot
