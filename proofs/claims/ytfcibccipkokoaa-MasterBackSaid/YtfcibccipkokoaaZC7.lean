/- Walks: what two sectors have. -/
import Derived.Test.YtfcibccipkokoaaZC6
namespace Go.Proofs.Ytfcibccipkokoaa.Mas
open Go.RowKit
attribute [local go_sem ↓] Go.wp_at_zero Go.wp_at_succ

def twoC (a b : ByteArray) : Array Value := #[.string a, .string b]
def noB : ByteArray := ⟨#[]⟩
theorem info_two : (Try.prog.info? 97).map (·.size) = some 2 := by kernel_rfl
theorem two_one (a b : ByteArray) : (twoC a b).all (·.oneCell') = true := Array.all_eq_true_iff_forall_mem.2 (by
  intro v hv
  simp [twoC] at hv
  rcases hv with rfl | rfl <;> rfl)
/-- a box of two texts, and one of the result -/
structure Sb (w0 w : World) (r g : Nat) (a b : ByteArray) : Prop where
  res : w.heap[r]? = some (.cells (twoC noB noB) 97 (0, 0))
  box : w.heap[g]? = some (.cells (twoC a b) 97 (0, 0))
  hr : w0.heap.size ≤ r
  hg : w0.heap.size ≤ g
  ne : r ≠ g
  below : Below w0.heap.size w0 w
section
variable {w0 w w' : World} {r g : Nat} {a b a' b' : ByteArray}
theorem Sb.later (h : Sb w0 w r g a b) (t : Below w.heap.size w w') : Sb w0 w' r g a b :=
  ⟨(t.block _ (Array.getElem?_eq_some_iff.1 h.res).1).trans h.res, (t.block _ (Array.getElem?_eq_some_iff.1 h.box).1).trans h.box, h.hr, h.hg, h.ne, h.below.trans (t.mono h.below.size)⟩
theorem Sb.new (w : World) : Sb w ((w.alloc (.cells (twoC noB noB) 97)).alloc (.cells (twoC noB noB) 97)) w.heap.size (w.heap.size + 1) noB noB := by
  obtain ⟨w1, e1⟩ : ∃ x, x = w.alloc (.cells (twoC noB noB) 97) := ⟨_, rfl⟩
  have h1 : w1.heap[w.heap.size]? = some (.cells (twoC noB noB) 97 (0, 0)) := by rw [e1]; exact heap_alloc_new _ _
  have z1 : w1.heap.size = w.heap.size + 1 := by rw [e1]; simp
  have b1 : Below w.heap.size w w1 := by rw [e1]; exact below_new _ _
  rw [← e1, ← z1]
  exact ⟨(Below.heap_alloc w1 _ _ (by omega)).trans h1, heap_alloc_new _ _, Nat.le_refl _, b1.size, by omega, b1.trans ((below_new w1 _).mono b1.size)⟩
theorem Sb.set (h : Sb w0 w r g a b) (j : Nat) (s : ByteArray) (e : (twoC a b).setIfInBounds j (.string s) = twoC a' b') : Sb w0 (w.setCell ⟨g, j, none⟩ (.string s)) r g a' b' := by
  refine ⟨by rw [heap_setCell_other _ _ _ _ (show r ≠ g from h.ne)]; exact h.res, by rw [heap_setCell_same w g j _ _ _ h.box, e], h.hr, h.hg, h.ne, h.below.setCell h.hg _⟩
theorem Sb.cells (h : Sb w0 w r g a b) : w.cell? ⟨g, 0, none⟩ = some (.string a) ∧ w.cell? ⟨g, 1, none⟩ = some (.string b) := by
  refine ⟨?_, ?_⟩ <;> (rw [cell_of_row _ _ _ _ _ _ h.box]; rfl)
theorem Sb.free (h : Sb w0 w r g a b) (j : Nat) : w.frozen? ⟨g, j, none⟩ = false := frozen_of_row _ _ _ _ _ h.box
end
theorem results_tworow {fn : Func} {p k : Tmp} {T e : TypeId} {n : Nat} (h : fn.results = #[.cell p T, .tmp k]) (tmps : Array Value) (w : World) (g : Nat) (cs : Array Value) (c : Int) (hp : tmps.getD p undef = .pointer (some ⟨g, 0, none⟩)) (hk : tmps.getD k undef = .int .i64 c) (hg : w.heap[g]? = some (.cells cs T (0, 0)))
    (hu : Try.prog.underlying T = some (.array n e)) (hi : (Try.prog.info? T).map (·.size) = some cs.size) : (results fn tmps).run Try.prog w = .ok (.tuple #[.agg cs, .int .i64 c]) w := by
  have hp' : tmps[p]?.getD undef = .pointer (some ⟨g, 0, none⟩) := by simpa using hp
  have hk' : tmps[k]?.getD undef = .int .i64 c := by simpa using hk
  simp [results, h, hp', hk', asAddr, run_loadVar_row w g T T cs (0, 0) _ hg hu rfl hi]

/-- what comes of two reads: the error, the texts -/
def secE (e0 e1 : Int) : Int := if e0 = 0 then e1 else e0
def secS (e0 e1 : Int) (s : ByteArray) : ByteArray := if secE e0 e1 = 0 then s else noB

set_option maxRecDepth 100000 in
set_option maxHeartbeats 4000000 in
theorem sectors_any (v : Value) (n : Nat) (w : World) (s0 s1 : ByteArray) (e0 e1 : Int) (hn : n ≤ 4611686018427387904)
    (h0 : ∀ W, Below w.heap.size w W → Calls Try.prog 74 #[v, .int .i64 (n : Int)] W fun e w' => e = .returned (.tuple #[.string s0, .int .i64 e0]) ∧ W = w')
    (h1 : ∀ W, Below w.heap.size w W → Calls Try.prog 74 #[v, .int .i64 ((n : Int) + 1)] W fun e w' => e = .returned (.tuple #[.string s1, .int .i64 e1]) ∧ W = w') :
    Calls Try.prog 47 #[v, .int .i64 (n : Int)] w fun e w' => e = .returned (.tuple #[.agg (twoC (secS e0 e1 s0) (secS e0 e1 s1)), .int .i64 (secE e0 e1)]) ∧ Below w.heap.size w w' := by
  have T0 := Lib.hid (Sb.new w)
  have H0 := Lib.hid h0
  have H1 := Lib.hid h1
  have E := Lib.hid (show ∀ a b c, secS e0 e1 s0 = a → secS e0 e1 s1 = b → secE e0 e1 = c → ∀ W, Below w.heap.size w W → (fun e w' => e = Ending.returned (.tuple #[.agg (twoC (secS e0 e1 s0) (secS e0 e1 s1)), .int .i64 (secE e0 e1)]) ∧ Below w.heap.size w w') (.returned (.tuple #[.agg (twoC a b), .int .i64 c])) W from fun a b c ha hb hc W hW => ⟨by rw [ha, hb, hc], hW⟩)
  clear h0 h1
  unfold twoC noB at T0
  have g0 : ∀ x : Int, x = 0 ∨ (x ≠ 0 ∧ (x == 0) = false ∧ (x != 0) = true) := fun x => by
    by_cases h : x = 0
    · exact .inl h
    · exact .inr ⟨h, by simpa using h, by simpa using h⟩
  have G := Lib.hid g0
  clear g0
  have w0 : IntKind.i64.wrap ((n : Int) + 0) = (n : Int) := by rw [IntKind.wrap_i64]; omega
  have w1 : IntKind.i64.wrap ((n : Int) + 1) = (n : Int) + 1 := by rw [IntKind.wrap_i64]; omega
  go_enter Try.func47, Try.ntmps47
  go_wp2_with fail
  obtain ⟨g, hg⟩ : ∃ g, g = w.heap.size + 1 := ⟨_, rfl⟩
  rw [← hg] at T0 ⊢
  clear hg
  obtain ⟨r, hr⟩ : ∃ r, r = w.heap.size := ⟨_, rfl⟩
  have T1 : Hid (Sb w ((w.alloc (.cells #[.string ⟨#[]⟩, .string ⟨#[]⟩] 97)).alloc (.cells #[.string ⟨#[]⟩, .string ⟨#[]⟩] 97)) r g noB noB) := Lib.hid (by rw [hr]; exact T0.out)
  rw [← hr]
  have HR := Lib.hid hr
  clear hr T0
  generalize World.alloc _ (.cells #[.string ⟨#[]⟩, .string ⟨#[]⟩] 97) = W0 at *
  go_loopw [10] (fun i wr => ∃ (k : Nat) (x : Int), k ≤ 2 ∧ x = (k : Int) ∧ i = .int .i64 x ∧ Sb w wr r g (if 0 < k then s0 else noB) (if 1 < k then s1 else noB) ∧ (0 < k → e0 = 0) ∧ (1 < k → e1 = 0)) (fun i _ => 2 - (intOf i).toNat)
  case atStart => exact ⟨0, 0, by omega, rfl, rfl, T1.out, by omega, by omega⟩
  case round =>
    obtain ⟨k, x, hk, hx, rfl, ht, hp0, hp1⟩ := hrel
    have T2 := Lib.hid ht
    have P0 := Lib.hid hp0
    have P1 := Lib.hid hp1
    clear ht T1 hp0 hp1
    have e : k = 0 ∨ k = 1 ∨ k = 2 := by omega
    rcases e with rfl | rfl | rfl
    · obtain rfl : x = 0 := by omega
      clear hx hk P0 P1
      have H := Lib.hid (H0.out _ T2.out.below)
      have hc := T2.out.cells.1
      have hf := T2.out.free 0
      go_wp2_with fail
      refine H.out.mono ?_
      rintro e w2 ⟨rfl, rfl⟩
      rcases G.out e0 with he | ⟨he, x1, x2⟩
      · have HE := Lib.hid he
        have T3 := Lib.hid (T2.out.set 0 s0 (a' := s0) (b' := noB) rfl)
        subst he
        clear T2 H
        go_wp2_with fail
        go_roundw
        case rel => exact ⟨1, 1, by omega, rfl, rfl, T3.out, by simp, by simp⟩
        case measure => simp [intOf]
      · have X := Lib.hid (E.out noB noB e0 (by simp [secS, secE, he]) (by simp [secS, secE, he]) (by simp [secE, he]))
        have HB := Lib.hid T2.out.res
        have HL := Lib.hid T2.out.below
        have HO := Lib.hid T2.out.hr
        clear he T2 E H
        go_wp2_with (refine wpList_store_row rfl 97 _ _ rfl r (twoC noB noB) rfl rfl 97 (twoC noB noB) HB.out info_two rfl (two_one _ _) ?_)
        exact bodyPost_ret (v := .tuple #[.agg (twoC noB noB), .int .i64 e0]) (results_tworow Try.results47 _ _ r (twoC noB noB) e0 rfl rfl (setRow_heap _ _ _ _ _ _ HB.out) Try.underlying97 info_two) rfl (X.out _ (below_setRow HL.out HO.out _))
    · obtain rfl : x = 1 := by omega
      obtain rfl : e0 = 0 := P0.out (by omega)
      clear hx hk P0 P1
      have H := Lib.hid (H1.out _ T2.out.below)
      have hc := T2.out.cells.2
      have hf := T2.out.free 1
      go_wp2_with fail
      refine H.out.mono ?_
      rintro e w2 ⟨rfl, rfl⟩
      rcases G.out e1 with he | ⟨he, x1, x2⟩
      · have T3 := Lib.hid (T2.out.set 1 s1 (a' := s0) (b' := s1) rfl)
        subst he
        clear T2 H
        go_wp2_with fail
        go_roundw
        case rel => exact ⟨2, 2, by omega, rfl, rfl, T3.out, by simp, by simp⟩
        case measure => simp [intOf]
      · have X := Lib.hid (E.out noB noB e1 (by simp [secS, secE, he]) (by simp [secS, secE, he]) (by simp [secE]))
        have HB := Lib.hid T2.out.res
        have HL := Lib.hid T2.out.below
        have HO := Lib.hid T2.out.hr
        clear he T2 E H
        go_wp2_with (refine wpList_store_row rfl 97 _ _ rfl r (twoC noB noB) rfl rfl 97 (twoC noB noB) HB.out info_two rfl (two_one _ _) ?_)
        exact bodyPost_ret (v := .tuple #[.agg (twoC noB noB), .int .i64 e1]) (results_tworow Try.results47 _ _ r (twoC noB noB) e1 rfl rfl (setRow_heap _ _ _ _ _ _ HB.out) Try.underlying97 info_two) rfl (X.out _ (below_setRow HL.out HO.out _))
    · obtain rfl : x = 2 := by omega
      obtain rfl : e0 = 0 := P0.out (by omega)
      obtain rfl : e1 = 0 := P1.out (by omega)
      clear hx hk P0 P1
      have X := Lib.hid (E.out s0 s1 0 (by simp [secS, secE]) (by simp [secS, secE]) (by simp [secE]))
      obtain ⟨hc0, hc1⟩ := T2.out.cells
      simp only [if_true, Nat.zero_lt_succ, Nat.one_lt_two] at hc0 hc1
      have HB := Lib.hid T2.out.res
      have HL := Lib.hid T2.out.below
      have HO := Lib.hid T2.out.hr
      clear T2 E
      go_wp2_with (refine wpList_store_row rfl 97 _ _ rfl r (twoC s0 s1) rfl rfl 97 (twoC noB noB) HB.out info_two rfl (two_one _ _) ?_)
      exact bodyPost_ret (v := .tuple #[.agg (twoC s0 s1), .int .i64 0]) (results_tworow Try.results47 _ _ r (twoC s0 s1) 0 rfl rfl (setRow_heap _ _ _ _ _ _ HB.out) Try.underlying97 info_two) rfl (X.out _ (below_setRow HL.out HO.out _))

end Go.Proofs.Ytfcibccipkokoaa.Mas
