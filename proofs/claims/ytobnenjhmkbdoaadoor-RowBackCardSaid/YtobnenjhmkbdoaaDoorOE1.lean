/- Walks: entries. -/
import Derived.Test.YtobnenjhmkbdoaaDoorOW9
namespace Go.Proofs.YtobnenjhmkbdoaaDoor.Row
open Go.RowKit
attribute [local go_sem ↓] Go.wp_at_zero Go.wp_at_succ

structure En where
  key : ByteArray
  child : Nat
def En.zero : En := ⟨⟨#[]⟩, 0⟩
structure En.wf (e : En) : Prop where
  key : e.key.size ≤ 140737488351232
  child : e.child < 4294967296
def enC (e : En) : Array Value := #[.string e.key, .int .u32 (e.child : Int)]
def enV (e : En) : Value := .agg (enC e)
def mayE (e : En) : Bool := decide (e.key.size ≤ 48) && (decide (1 ≤ e.child) && decide (e.child ≤ 1024))
def entS (e : En) : ByteArray := if mayE e then nb 4 e.child ++ e.key else ⟨#[]⟩
def entE (e : En) : Int := if mayE e then 0 else 2
def okE (s : ByteArray) : Bool := decide (4 ≤ s.size) && mayE ⟨s.extract 4 s.size, numAt s 0 4⟩
def decN (s : ByteArray) : En := if okE s then ⟨s.extract 4 s.size, numAt s 0 4⟩ else En.zero
def decF (s : ByteArray) : Int := if okE s then 0 else 7
theorem mayE_parts {e : En} (h : mayE e = true) : e.key.size ≤ 48 ∧ 1 ≤ e.child ∧ e.child ≤ 1024 := by
  simpa [mayE] using h

/-- an entry's box, and what was made since -/
structure Ex (W0 w : World) (g : Nat) (e : En) : Prop where
  box : w.heap[g]? = some (.cells (enC e) 42 (0, 0))
  below : Below W0.heap.size W0 w
theorem Ex.later {W0 w w' : World} {g : Nat} {e : En} (h : Ex W0 w g e) (t : Below w.heap.size w w') : Ex W0 w' g e :=
  ⟨(t.block g (Array.getElem?_eq_some_iff.1 h.box).1).trans h.box, h.below.trans (t.mono h.below.size)⟩
theorem Ex.make {W0 w : World} (e : En) (b : Below W0.heap.size W0 w) : Ex W0 (w.alloc (.cells (enC e) 42)) w.heap.size e := ⟨heap_alloc_new w _, b.alloc b.size _⟩
theorem Ex.start (w : World) (e : En) : Ex w (w.alloc (.cells (enC e) 42)) w.heap.size e := Ex.make e (Below.refl _ _)
theorem Ex.all {W0 w : World} {g : Nat} {e : En} (h : Ex W0 w g e) : w.cell? ⟨g, 0, none⟩ = some (.string e.key) ∧ w.cell? ⟨g, 1, none⟩ = some (.int .u32 (e.child : Int)) := by
  refine ⟨?_, ?_⟩ <;> (rw [cell_of_row _ _ _ _ _ _ h.box]; rfl)

set_option maxRecDepth 100000 in
set_option maxHeartbeats 1000000 in
theorem maye_any (e : En) (w : World) (he : e.wf) :
    Calls Tryd.prog 33 #[enV e] w fun r w' => r = .returned (.bool (mayE e)) ∧ Below w.heap.size w w' := by
  have B := Lib.hid (below_new w (.cells (enC e) 42))
  have h : mayE e = true ↔ e.key.size ≤ 48 ∧ 1 ≤ e.child ∧ e.child ≤ 1024 := by simp [mayE]
  obtain ⟨h1, h2⟩ := he
  generalize mayE e = x at *
  have H := Lib.hid h
  clear h
  unfold enV enC at *
  go_enter Tryd.func33, Tryd.ntmps33
  go_wp2_with fail
  all_goals
    go_ret
    exact ⟨ret_bool (by rw [Bool.eq_iff_iff, H.out]; simp only [decide_eq_true_eq, Bool.false_eq_true, false_iff]; omega), B.out⟩

set_option maxRecDepth 100000 in
set_option maxHeartbeats 1000000 in
theorem ent_any (e : En) (w : World) (he : e.wf) :
    Calls Tryd.prog 19 #[enV e] w fun r w' => r = .returned (.tuple #[.string (entS e), .int .i64 (entE e)]) ∧ Below w.heap.size w w' := by
  have T0 := Lib.hid (Ex.start w e)
  have KM := Lib.hid (fun W => maye_any e W he)
  have p := fun h => @mayE_parts e h
  have es : entS e = if mayE e then nb 4 e.child ++ e.key else ⟨#[]⟩ := rfl
  have ee : entE e = if mayE e then 0 else 2 := rfl
  have K := Lib.hid (fun W => (show Calls Tryd.prog 22 #[.int .u64 (e.child : Int), .int .i64 4] W fun r w' => r = .returned (.string (nb 4 e.child)) ∧ Below W.heap.size W w' from number_any e.child 4 W (by decide) (by decide) (by have := he.child; omega)))
  have z := nb_size 4 e.child
  have q : IntKind.u64.wrap (e.child : Int) = e.child := by have := he.child; rw [IntKind.wrap_u64]; omega
  have z2 := he.key
  have s1 : (9223372036854775807 < (nb 4 e.child).size + e.key.size) = False := by simp only [eq_iff_iff, iff_false]; omega
  clear he z z2 p
  generalize nb 4 e.child = X at *
  generalize entS e = S at *
  generalize entE e = Y at *
  have ES := Lib.hid es
  have EE := Lib.hid ee
  clear es ee
  generalize mayE e = m at *
  obtain ⟨a0, a1⟩ := T0.out.all
  unfold enV enC at *
  go_enter Tryd.func19, Tryd.ntmps19
  go_wp2_with fail
  refine (KM.out _).mono ?_
  rintro r w1 ⟨rfl, b1⟩
  have T1 := Lib.hid (T0.out.later b1)
  clear b1 T0 KM a0 a1
  cases m with
  | false =>
    go_wp2_with fail
    go_ret2
    exact ⟨by rw [ES.out, EE.out]; rfl, T1.out.below⟩
  | true =>
    have T2 := Lib.hid (T1.out.later ((Below.refl _ _).drew))
    clear T1
    generalize w.heap.size = g at *
    go_wp2_with fail
    go_region_held3 (fun w' => w'.cell? ⟨g, 0, none⟩ = some (.string e.key) ∧ w'.cell? ⟨g, 1, none⟩ = some (.int .u32 (e.child : Int))) (first | exact T2.out.all | exact T3.all)
      (first | (go_at_call 22; (with_reducible refine (K.out _).mono ?_); rintro r w3 ⟨rfl, b2⟩; have T3 := T2.out.later b2; clear b2))
    have TT := Lib.hid T3.below
    clear T2 T3 K
    go_wp2_with fail
    go_ret2
    exact ⟨by rw [ES.out, EE.out]; rfl, TT.out⟩

set_option maxRecDepth 100000 in
set_option maxHeartbeats 1000000 in
theorem rent_no (e : En) (w : World) (he : e.wf) (hm : mayE e = false) :
    Calls Tryd.prog 20 #[enV e] w fun r w' => r = .returned (.tuple #[.string ⟨#[]⟩, .int .i64 2]) ∧ Below w.heap.size w w' := by
  have B := Lib.hid (fun o => below_new w o)
  have h : ¬ (e.key.size ≤ 48 ∧ 1 ≤ e.child ∧ e.child ≤ 1024) := by
    have : mayE e = true ↔ e.key.size ≤ 48 ∧ 1 ≤ e.child ∧ e.child ≤ 1024 := by simp [mayE]
    rw [← this, hm]
    decide
  obtain ⟨h1, h2⟩ := he
  clear hm
  unfold enV enC
  by_cases c1 : 48 < e.key.size
  · clear h
    go_enter Tryd.func20, Tryd.ntmps20
    go_wp2_with fail
    go_ret2
    exact ⟨rfl, B.out _⟩
  by_cases c2 : e.child = 0
  · have c3 : (e.child : Int) = 0 := by omega
    rw [c3]
    clear h c2 c3 h2
    go_enter Tryd.func20, Tryd.ntmps20
    go_wp2_with fail
    go_ret2
    exact ⟨rfl, B.out _⟩
  have c4 : 1024 < e.child := by omega
  clear h
  go_enter Tryd.func20, Tryd.ntmps20
  go_wp2_with fail
  go_ret2
  exact ⟨rfl, B.out _⟩

set_option maxRecDepth 100000 in
set_option maxHeartbeats 1000000 in
theorem rent_yes (e : En) (w : World) (_he : e.wf) (hm : mayE e = true) :
    Calls Tryd.prog 20 #[enV e] w fun r w' => r = .returned (.tuple #[.string (nb 4 e.child ++ e.key), .int .i64 0]) ∧ Below w.heap.size w w' := by
  have T0 := Lib.hid ((Ex.start w e).later ((Below.refl _ _).drew))
  obtain ⟨p1, p2, p3⟩ := mayE_parts hm
  have p4 : ((e.child : Int) == 0) = false := by simp; omega
  have K := Lib.hid (fun W => (show Calls Tryd.prog 25 #[.int .u64 (e.child : Int), .int .i64 4] W fun r w' => r = .returned (.string (nb 4 e.child)) ∧ Below W.heap.size W w' from rnumber_any e.child 4 W (by decide) (by decide) (by omega)))
  have z := nb_size 4 e.child
  have q : IntKind.u64.wrap (e.child : Int) = e.child := by rw [IntKind.wrap_u64]; omega
  have s1 : (9223372036854775807 < (nb 4 e.child).size + e.key.size) = False := by simp only [eq_iff_iff, iff_false]; omega
  clear _he z hm
  generalize nb 4 e.child = X at *
  unfold enV enC at *
  go_enter Tryd.func20, Tryd.ntmps20
  go_wp2_with fail
  generalize w.alloc _ = W1 at *
  generalize w.heap.size = g at *
  go_region_held3 (fun w' => w'.cell? ⟨g, 0, none⟩ = some (.string e.key) ∧ w'.cell? ⟨g, 1, none⟩ = some (.int .u32 (e.child : Int))) (first | exact T0.out.all | exact T3.all)
    (first | (go_at_call 25; (with_reducible refine (K.out _).mono ?_); rintro r w3 ⟨rfl, b2⟩; have T3 := T0.out.later b2; clear b2))
  have TT := Lib.hid T3.below
  clear T0 T3 K
  go_wp2_with fail
  go_ret2
  exact ⟨rfl, TT.out⟩

theorem rent_any (e : En) (w : World) (he : e.wf) :
    Calls Tryd.prog 20 #[enV e] w fun r w' => r = .returned (.tuple #[.string (entS e), .int .i64 (entE e)]) ∧ Below w.heap.size w w' := by
  cases hm : mayE e with
  | true =>
    have e1 : entE e = 0 := by unfold entE; rw [if_pos hm]
    have e2 : entS e = nb 4 e.child ++ e.key := by unfold entS; rw [if_pos hm]
    rw [e1, e2]
    exact rent_yes e w he hm
  | false =>
    have e1 : entE e = 2 := by unfold entE; rw [if_neg (by rw [hm]; decide)]
    have e2 : entS e = ⟨#[]⟩ := by unfold entS; rw [if_neg (by rw [hm]; decide)]
    rw [e1, e2]
    exact rent_no e w he hm

end Go.Proofs.YtobnenjhmkbdoaaDoor.Row
