/- Walks: the answers that the document fixes; what none answers. -/
import Derived.Test.YtehfclgngkhcpaaSZ
import Derived.Test.YtehfclgngkhcpaaSI
namespace Go.Proofs.Ytehfclgngkhcpaa.Slot
open Go.RowKit
attribute [local go_sem ↓] Go.wp_at_zero Go.wp_at_succ

theorem bytes_is {w : World} {p g c : Nat} {a : A} (h : Area w p g c a) : Calls Try.prog 29 #[.pointer (some ⟨p, 0, none⟩)] w fun e w' => e = .returned (.string (strB (imgA a))) ∧ w = w' := by
  obtain ⟨⟨b, h1, h2⟩, h3⟩ := h
  have := bytes_any h1
  rwa [is_img h3 h2] at this

/-- an area of the call's own, made since W0 -/
structure St (W0 w : World) (p g c : Nat) (a : A) : Prop where
  area : Area w p g c a
  below : Below W0.heap.size W0 w
  own : W0.heap.size ≤ p ∧ W0.heap.size ≤ g
theorem St.op {W0 w w' : World} {p g c : Nat} {a a' : A} (h : St W0 w p g c a) (k : Area w' p g c a' ∧ Touch (both p g) w w') : St W0 w' p g c a' :=
  ⟨k.1, h.below.trans (k.2.below h.below.size (by rintro x (rfl | rfl); exact h.own.1; exact h.own.2)), h.own⟩
theorem St.later {W0 w w' : World} {p g c : Nat} {a : A} (h : St W0 w p g c a) (t : Below w.heap.size w w') : St W0 w' p g c a :=
  ⟨h.area.later t, h.below.trans (t.mono h.below.size), h.own⟩
theorem St.new {w w' : World} {n : Nat} (h : newA w w' n) : St w w' (w.heap.size + 1) w.heap.size n (A.new n) := ⟨h.1, h.2, by omega, by omega⟩

/-- alive's area behind its first Put, and behind its Set -/
def al1 : A := putA (A.new 20) 0 [97, 98]
def al2 : A := setA al1 0 [120]
set_option maxRecDepth 100000 in
theorem al_facts : putE (A.new 20) 0 [97, 98] = 0 ∧ imgA al1 = [0, 1, 0, 18, 0, 18, 0, 2, 0, 0, 0, 0, 0, 0, 0, 0, 0, 0, 97, 98] ∧ putE al1 0 [49, 50, 51, 52, 53, 54, 55] = 4 ∧ setE al1 0 [120] = 0 ∧ getS al2 0 = [120] ∧ hasP al2 0 ∧ al2.free = 11 ∧ al2.gap = 10 ∧ al2.dir.length = 1 ∧ ¬ hasP al2 1 := by decide +kernel

set_option maxRecDepth 100000 in
set_option maxHeartbeats 4000000 in
theorem alive_any (w : World) : Calls Try.prog 25 #[] w fun e w' => e = .returned (.bool true) ∧ Below w.heap.size w w' := by
  obtain ⟨f1, f2, f3, f4, f5, f6, f7, f8, f9, f10⟩ := al_facts
  have n0 : Calls Try.prog 26 #[.int .i64 20] w _ := new_any 20 w (by omega) (by omega)
  have N0 := Lib.hid n0
  have F6 := Lib.hid f6
  have F10 := Lib.hid f10
  have P1 : ∀ W p g c, Area W p g c (A.new 20) → Calls Try.prog 36 #[.pointer (some ⟨p, 0, none⟩), .int .i64 0, .string ⟨#[97, 98]⟩] W fun e w' => e = .returned (.int .i64 0) ∧ (Area w' p g c al1 ∧ Touch (both p g) W w') := fun W p g c h => by
    have := put_is h 0 ⟨#[97, 98]⟩ (by decide)
    rw [show (⟨#[97, 98]⟩ : ByteArray).data.toList = [97, 98] from rfl, f1] at this
    exact this
  have B1 : ∀ W p g c, Area W p g c al1 → Calls Try.prog 29 #[.pointer (some ⟨p, 0, none⟩)] W fun e w' => e = .returned (.string ⟨#[0, 1, 0, 18, 0, 18, 0, 2, 0, 0, 0, 0, 0, 0, 0, 0, 0, 0, 97, 98]⟩) ∧ W = w' := fun W p g c h => by
    have := bytes_is h
    rw [f2] at this
    exact this
  have P2 : ∀ W p g c, Area W p g c al1 → Calls Try.prog 36 #[.pointer (some ⟨p, 0, none⟩), .int .i64 0, .string ⟨#[49, 50, 51, 52, 53, 54, 55]⟩] W fun e w' => e = .returned (.int .i64 4) ∧ (Area w' p g c al1 ∧ Touch (both p g) W w') := fun W p g c h => by
    have := put_is h 0 ⟨#[49, 50, 51, 52, 53, 54, 55]⟩ (by decide)
    unfold putA at this
    rw [show (⟨#[49, 50, 51, 52, 53, 54, 55]⟩ : ByteArray).data.toList = [49, 50, 51, 52, 53, 54, 55] from rfl, f3, if_neg (by decide)] at this
    exact this
  have S1 : ∀ W p g c, Area W p g c al1 → Calls Try.prog 33 #[.pointer (some ⟨p, 0, none⟩), .int .i64 0, .string ⟨#[120]⟩] W fun e w' => e = .returned (.int .i64 0) ∧ (Area w' p g c al2 ∧ Touch (both p g) W w') := fun W p g c h => by
    have := set_is h 0 ⟨#[120]⟩ (by decide)
    rw [show (⟨#[120]⟩ : ByteArray).data.toList = [120] from rfl, f4] at this
    exact this
  have G1 : ∀ W p g c, Area W p g c al2 → Calls Try.prog 38 #[.pointer (some ⟨p, 0, none⟩), .int .i64 0] W fun e w' => e = .returned (.tuple #[.string ⟨#[120]⟩, .int .i64 0]) ∧ Below W.heap.size W w' := fun W p g c h => by
    have := get_is h 0
    rw [f5, if_pos F6.out] at this
    exact this
  have E1 : ∀ W p g c, Area W p g c al2 → Calls Try.prog 39 #[.pointer (some ⟨p, 0, none⟩)] W fun e w' => e = .returned (.int .i64 11) ∧ Below W.heap.size W w' := fun W p g c h => by
    have := free_is h
    rw [f7] at this
    exact this
  have E2 : ∀ W p g c, Area W p g c al2 → Calls Try.prog 40 #[.pointer (some ⟨p, 0, none⟩)] W fun e w' => e = .returned (.int .i64 10) ∧ W = w' := fun W p g c h => by
    have := gap_is h
    rw [f8] at this
    exact this
  have E3 : ∀ W p g c, Area W p g c al2 → Calls Try.prog 37 #[.pointer (some ⟨p, 0, none⟩)] W fun e w' => e = .returned (.int .i64 1) ∧ W = w' := fun W p g c h => by
    have := len_is h
    rw [f9] at this
    exact this
  have E4 : ∀ W p g c, Area W p g c al2 → Calls Try.prog 34 #[.pointer (some ⟨p, 0, none⟩), .int .i64 1] W fun e w' => e = .returned (.int .i64 3) ∧ W = w' := fun W p g c h => remove_no h 1 F10.out
  have HP1 := Lib.hid P1
  have HB1 := Lib.hid B1
  have HP2 := Lib.hid P2
  have HS1 := Lib.hid S1
  have HG1 := Lib.hid G1
  have HE1 := Lib.hid E1
  have HE2 := Lib.hid E2
  have HE3 := Lib.hid E3
  have HE4 := Lib.hid E4
  clear f1 f2 f3 f4 f5 f6 f7 f8 f9 f10 n0 P1 B1 P2 S1 G1 E1 E2 E3 E4
  go_enter Try.func25, Try.ntmps25
  go_wp2_with fail
  refine N0.out.mono ?_
  rintro e w1 ⟨rfl, h1⟩
  have S := Lib.hid (St.new h1)
  clear h1 N0
  generalize w.heap.size + 1 = p at *
  obtain ⟨g, hg⟩ : ∃ g, g = w.heap.size := ⟨_, rfl⟩
  have S0 : Hid (St w w1 p g 20 (A.new 20)) := by rw [hg]; exact S
  clear S hg
  go_wp2_with fail
  refine (HP1.out _ _ _ _ S0.out.area).mono ?_
  rintro e w2 ⟨rfl, h2⟩
  have S2 := Lib.hid (S0.out.op h2)
  clear h2 S0
  go_wp2_with fail
  refine (HB1.out _ _ _ _ S2.out.area).mono ?_
  rintro e w' ⟨rfl, rfl⟩
  go_wp2_with fail
  refine (HP2.out _ _ _ _ S2.out.area).mono ?_
  rintro e w3 ⟨rfl, h3⟩
  have S3 := Lib.hid (S2.out.op h3)
  clear h3 S2
  go_wp2_with fail
  refine (HS1.out _ _ _ _ S3.out.area).mono ?_
  rintro e w4 ⟨rfl, h4⟩
  have S4 := Lib.hid (S3.out.op h4)
  clear h4 S3
  go_wp2_with fail
  refine (HG1.out _ _ _ _ S4.out.area).mono ?_
  rintro e w5 ⟨rfl, h5⟩
  have S5 := Lib.hid (S4.out.later h5)
  clear h5 S4
  go_wp2_with fail
  refine (HE1.out _ _ _ _ S5.out.area).mono ?_
  rintro e w6 ⟨rfl, h6⟩
  have S6 := Lib.hid (S5.out.later h6)
  clear h6 S5
  go_wp2_with fail
  refine (HE2.out _ _ _ _ S6.out.area).mono ?_
  rintro e w' ⟨rfl, rfl⟩
  go_wp2_with fail
  refine (HE3.out _ _ _ _ S6.out.area).mono ?_
  rintro e w' ⟨rfl, rfl⟩
  go_wp2_with fail
  refine (HE4.out _ _ _ _ S6.out.area).mono ?_
  rintro e w' ⟨rfl, rfl⟩
  go_wp2_with fail
  go_ret
  exact ⟨rfl, S6.out.below⟩

set_option maxRecDepth 100000 in
set_option maxHeartbeats 4000000 in
/-- what none answers -/
theorem nil_walk (k : Int) (s : ByteArray) (w : World) (hs : s.size ≤ maxLen) :
    Calls Try.prog 8 #[.int .i64 k, .string s] w fun e w' => e = .returned (.bool true) ∧ Below w.heap.size w w' := by
  unfold maxLen at hs
  have al := alive_any
  by_cases hl : 1024 < s.size
  · have e1 : decide (1024 < (s.size : Int)) = true := decide_eq_true (by omega)
    have e2 : decide (1024 < s.size) = true := decide_eq_true hl
    clear hl
    go_enter Try.func8, Try.ntmps8
    go_wp2_with fail
    refine (al _).mono ?_
    rintro e w' ⟨rfl, b⟩
    have B := Lib.hid b
    clear b
    go_wp2_with fail
    go_ret
    exact ⟨rfl, B.out⟩
  · have e1 : decide (1024 < (s.size : Int)) = false := decide_eq_false (by omega)
    have e2 : decide (1024 < s.size) = false := decide_eq_false hl
    have m1 := get_nil w k
    have m2 := put_nil w k s (by omega)
    have m3 := set_nil w k s
    have m4 := remove_nil w k
    have m5 := compact_nil w
    have m6 := fun W => len_nil W
    have m7 := fun W => free_nil W
    have m8 := fun W => gap_nil W
    have m9 := fun W => bytes_nil W
    clear hl
    go_enter Try.func8, Try.ntmps8
    go_wp2_with (first | (go_at_call 38; refine m1.mono ?_; rintro e w' ⟨rfl, rfl⟩) | (go_at_call 36; refine m2.mono ?_; rintro e w' ⟨rfl, rfl⟩) | (go_at_call 33; refine m3.mono ?_; rintro e w' ⟨rfl, rfl⟩) | (go_at_call 34; refine m4.mono ?_; rintro e w' ⟨rfl, rfl⟩))
    refine m5.mono ?_
    rintro e w1 ⟨rfl, b1⟩
    have B1 := Lib.hid b1
    clear b1
    go_wp2_with (first | (go_at_call 37; refine (m6 _).mono ?_; rintro e w' ⟨rfl, rfl⟩) | (go_at_call 39; refine (m7 _).mono ?_; rintro e w' ⟨rfl, rfl⟩) | (go_at_call 40; refine (m8 _).mono ?_; rintro e w' ⟨rfl, rfl⟩) | (go_at_call 29; refine (m9 _).mono ?_; rintro e w' ⟨rfl, rfl⟩))
    refine (al _).mono ?_
    rintro e w' ⟨rfl, b⟩
    have B := Lib.hid (B1.out.trans (b.mono B1.out.size))
    clear b
    go_wp2_with fail
    go_ret
    exact ⟨rfl, B.out⟩

end Go.Proofs.Ytehfclgngkhcpaa.Slot
