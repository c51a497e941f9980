/-
  Sorting of numbers: which is in the middle.
  Sorting of numbers: the pivot.
  Sorting of numbers: equals apart.
-/
import Derived.Deep.DeepCutAuto
import Derived.Sort.LotC
import Derived.Test.YtfcibccipkokoaaZ19
namespace Go.Proofs.Ytfcibccipkokoaa.Qs
open Go.RowKit
attribute [local go_sem ↓] Go.wp_at_zero Go.wp_at_succ

/-- the numbers, and a count in a box of its own -/
structure Sw (w W : World) (g n : Nat) (d : Array Nat) (s k : Nat) : Prop where
  hs : Hs W g d
  box : W.heap[s]? = some (.cells #[.int .i64 (k : Int)] 3 (0, 0))
  t : Touch (fun x => x = s) w W
  sz : d.size = n
  ne : g ≠ s
section
variable {w W W' : World} {g n s k : Nat} {d : Array Nat}
theorem Sw.later (S : Sw w W g n d s k) (t : Below W.heap.size W W') : Sw w W' g n d s k :=
  ⟨S.hs.later t, (t.block _ (Array.getElem?_eq_some_iff.1 S.box).1).trans S.box, S.t.trans' (Touch.ofNew t), S.sz, S.ne⟩
theorem Sw.then {k2 : Nat} (S : Sw w W g n d s k) (T : Sw W W' g n d s k2) : Sw w W' g n d s k2 := ⟨T.hs, T.box, S.t.trans' T.t, T.sz, T.ne⟩
theorem Sw.again (S : Sw w W g n d s k) : Sw W W g n d s k := ⟨S.hs, S.box, Touch.refl _ _, S.sz, S.ne⟩
theorem Sw.cell (S : Sw w W g n d s k) {i : Nat} (hi : i < n) : W.cell? ⟨g, i, none⟩ = some (.int .u32 (d[i]! : Int)) := S.hs.cell (by rw [S.sz]; exact hi)
theorem Sw.count (S : Sw w W g n d s k) : W.cell? ⟨s, 0, none⟩ = some (.int .i64 (k : Int)) := by rw [cell_of_row _ _ _ _ _ _ S.box]; rfl
theorem Sw.free (S : Sw w W g n d s k) : W.frozen? ⟨s, 0, none⟩ = false := frozen_of_row _ _ _ _ _ S.box
theorem Sw.set (S : Sw w W g n d s k) (x : Nat) : Sw w (W.setCell ⟨s, 0, none⟩ (.int .i64 (x : Int))) g n d s x := by
  obtain ⟨cs, h1, h2⟩ := S.hs.row
  refine ⟨⟨cs, (heap_setCell_other _ _ _ _ S.ne).trans h1, h2⟩, ?_, S.t.setCell (x := ⟨s, 0, none⟩) rfl _, S.sz, S.ne⟩
  rw [heap_setCell_same _ _ _ _ _ _ S.box]
  rfl
end
/-- two places and the count -/
def Op2 (w : World) (g n : Nat) (d : Array Nat) (s : Nat) (r : Nat × Nat × Nat) : Ending → World → Prop := fun e w' => e = .returned (.tuple #[.int .i64 (r.1 : Int), .int .i64 (r.2.1 : Int)]) ∧ Sw w w' g n d s r.2.2
/-- a place and the count -/
def Op1 (w : World) (g n : Nat) (d : Array Nat) (s : Nat) (r : Nat × Nat) : Ending → World → Prop := fun e w' => e = .returned (.int .i64 (r.1 : Int)) ∧ Sw w w' g n d s r.2

set_option maxRecDepth 100000 in
set_option maxHeartbeats 2000000 in
theorem order2_any {w : World} {g n c a b s k : Nat} {d : Array Nat} (S : Sw w w g n d s k) (ha : a < n) (hb : b < n) (hk : k ≤ 1000000) :
    Calls Try.prog 135 #[.slice (some ⟨g, 0, none⟩) n c, .int .i64 (a : Int), .int .i64 (b : Int), .pointer (some ⟨s, 0, none⟩)] w (Op2 w g n d s (Go.Sort.order2 lt d a b k)) := by
  have S0 := Lib.hid S
  clear S
  have b1 : (0 : Int) ≤ (a : Int) := by omega
  have b2 : (a : Int) < (n : Int) := by omega
  have b3 : (0 : Int) ≤ (b : Int) := by omega
  have b4 : (b : Int) < (n : Int) := by omega
  have c1 := S0.out.cell ha
  have c2 := S0.out.cell hb
  have LS := Lib.hid (fun W => less_any (d[b]!) (d[a]!) W)
  cases hl : lt d[b]! d[a]!
  · have E : Go.Sort.order2 lt d a b k = (a, b, k) := by unfold Go.Sort.order2; rw [hl]; rfl
    rw [hl] at LS
    rw [E]
    clear hl E
    go_enter Try.func135, Try.ntmps135
    go_upto_region 1 with fail
    go_quiet ((go_at_call 89; exact Calls.quiet_of_same (LS.out _)))
    go_wp2_with fail
    go_ret2
    exact ⟨rfl, S0.out.later (drewN_below _ _)⟩
  · have E : Go.Sort.order2 lt d a b k = (b, a, k + 1) := by unfold Go.Sort.order2; rw [hl]; rfl
    rw [hl] at LS
    rw [E]
    clear hl E
    go_enter Try.func135, Try.ntmps135
    go_upto_region 1 with fail
    go_quiet ((go_at_call 89; exact Calls.quiet_of_same (LS.out _)))
    go_upto_region 2 with fail
    have S1 := Lib.hid (show Sw w (w.drewN nq) g n d s k from S0.out.later (drewN_below _ _))
    generalize w.drewN nq = w1 at *
    clear c1 c2
    have c1 := S1.out.count
    have z1 := S1.out.free
    have S2 := Lib.hid (S1.out.set (k + 1))
    have u1 : IntKind.i64.wrap ((k : Int) + 1) = ((k + 1 : Nat) : Int) := by rw [w64 (by omega)]; omega
    obtain ⟨k1, hk1⟩ : ∃ k1, k1 = k + 1 := ⟨_, rfl⟩
    rw [← hk1] at u1 S2
    have HK := Lib.hid hk1
    clear hk1
    go_wp2_with fail
    go_ret2
    exact ⟨rfl, by show Sw w _ g n d s (k + 1); rw [← HK.out]; exact S2.out⟩

theorem order2_lt {d : Array Nat} {a b k n : Nat} (ha : a < n) (hb : b < n) : (Go.Sort.order2 lt d a b k).1 < n ∧ (Go.Sort.order2 lt d a b k).2.1 < n ∧ (Go.Sort.order2 lt d a b k).2.2 ≤ k + 1 := by
  unfold Go.Sort.order2
  split
  · exact ⟨hb, ha, Nat.le_refl _⟩
  · exact ⟨ha, hb, Nat.le_succ _⟩

set_option maxRecDepth 100000 in
set_option maxHeartbeats 2000000 in
theorem median_any {w : World} {g n c a b e s k : Nat} {d : Array Nat} (S : Sw w w g n d s k) (ha : a < n) (hb : b < n) (he : e < n) (hk : k ≤ 1000) :
    Calls Try.prog 125 #[.slice (some ⟨g, 0, none⟩) n c, .int .i64 (a : Int), .int .i64 (b : Int), .int .i64 (e : Int), .pointer (some ⟨s, 0, none⟩)] w (Op1 w g n d s (Go.Sort.median lt d a b e k)) := by
  have K1 := Lib.hid (order2_any (c := c) S ha hb (by omega))
  have E : Go.Sort.median lt d a b e k = ((Go.Sort.order2 lt d (Go.Sort.order2 lt d a b k).1 (Go.Sort.order2 lt d (Go.Sort.order2 lt d a b k).2.1 e (Go.Sort.order2 lt d a b k).2.2).1 (Go.Sort.order2 lt d (Go.Sort.order2 lt d a b k).2.1 e (Go.Sort.order2 lt d a b k).2.2).2.2).2.1, (Go.Sort.order2 lt d (Go.Sort.order2 lt d a b k).1 (Go.Sort.order2 lt d (Go.Sort.order2 lt d a b k).2.1 e (Go.Sort.order2 lt d a b k).2.2).1 (Go.Sort.order2 lt d (Go.Sort.order2 lt d a b k).2.1 e (Go.Sort.order2 lt d a b k).2.2).2.2).2.2) := rfl
  rw [E]
  clear E
  obtain ⟨p1, p2, p3⟩ := order2_lt (d := d) (k := k) ha hb
  generalize Go.Sort.order2 lt d a b k = r1 at *
  obtain ⟨q1, q2, q3⟩ := order2_lt (d := d) (k := r1.2.2) p2 he
  have K2 := Lib.hid (fun W (T : Sw W W g n d s r1.2.2) => order2_any (c := c) T p2 he (by omega))
  generalize Go.Sort.order2 lt d r1.2.1 e r1.2.2 = r2 at *
  have K3 := Lib.hid (fun W (T : Sw W W g n d s r2.2.2) => order2_any (c := c) T p1 q1 (by omega))
  generalize Go.Sort.order2 lt d r1.1 r2.1 r2.2.2 = r3 at *
  obtain ⟨x1, y1, z1⟩ := r1
  obtain ⟨x2, y2, z2⟩ := r2
  obtain ⟨x3, y3, z3⟩ := r3
  simp only at *
  clear S
  go_enter Try.func125, Try.ntmps125
  go_wp2_with fail
  refine K1.out.mono ?_
  rintro e1 w1 ⟨rfl, s1⟩
  have S1 := Lib.hid s1
  clear s1
  go_wp2_with fail
  refine (K2.out _ S1.out.again).mono ?_
  rintro e1 w2 ⟨rfl, s2⟩
  have S2 := Lib.hid (S1.out.then s2)
  clear s2
  go_wp2_with fail
  refine (K3.out _ S2.out.again).mono ?_
  rintro e1 w3 ⟨rfl, s3⟩
  have S3 := Lib.hid (S2.out.then s3)
  clear s3
  go_wp2_with fail
  go_ret
  exact ⟨rfl, S3.out⟩

theorem median_lt {d : Array Nat} {a b e k n : Nat} (ha : a < n) (hb : b < n) (he : e < n) : (Go.Sort.median lt d a b e k).1 < n ∧ (Go.Sort.median lt d a b e k).2 ≤ k + 3 := by
  unfold Go.Sort.median
  simp only
  obtain ⟨p1, p2, p3⟩ := order2_lt (d := d) (k := k) ha hb
  generalize Go.Sort.order2 lt d a b k = r1 at *
  obtain ⟨q1, q2, q3⟩ := order2_lt (d := d) (k := r1.2.2) p2 he
  generalize Go.Sort.order2 lt d r1.2.1 e r1.2.2 = r2 at *
  obtain ⟨t1, t2, t3⟩ := order2_lt (d := d) (k := r2.2.2) p1 q1
  exact ⟨t2, by omega⟩

set_option maxRecDepth 100000 in
set_option maxHeartbeats 2000000 in
theorem adjacent_any {w : World} {g n c a s k : Nat} {d : Array Nat} (S : Sw w w g n d s k) (h0 : 1 ≤ a) (ha : a + 1 < n) (hs : n ≤ 1000000) (hk : k ≤ 1000) :
    Calls Try.prog 124 #[.slice (some ⟨g, 0, none⟩) n c, .int .i64 (a : Int), .pointer (some ⟨s, 0, none⟩)] w (Op1 w g n d s (Go.Sort.medianAdjacent lt d a k)) := by
  have K := Lib.hid (median_any (c := c) S (show a - 1 < n by omega) (show a < n by omega) ha hk)
  unfold Go.Sort.medianAdjacent
  generalize Go.Sort.median lt d (a - 1) a (a + 1) k = r at *
  have u1 : IntKind.i64.wrap ((a : Int) - 1) = ((a - 1 : Nat) : Int) := by rw [w64 (by omega)]; omega
  have u2 : IntKind.i64.wrap ((a : Int) + 1) = ((a + 1 : Nat) : Int) := by rw [w64 (by omega)]; omega
  generalize a - 1 = a1 at *
  generalize a + 1 = a2 at *
  clear S
  go_enter Try.func124, Try.ntmps124
  go_wp2_with fail
  refine K.out.mono ?_
  rintro e1 w1 ⟨rfl, s1⟩
  have S1 := Lib.hid s1
  clear s1
  go_wp2_with fail
  go_ret
  exact ⟨rfl, S1.out⟩

end Go.Proofs.Ytfcibccipkokoaa.Qs

namespace Go.Proofs.Ytfcibccipkokoaa.Qs
open Go.RowKit
attribute [local go_sem ↓] Go.wp_at_zero Go.wp_at_succ

theorem below_new (w : World) (o : Obj) : Below w.heap.size w (w.alloc o) := (Below.refl _ _).alloc (Nat.le_refl _) o
def hintI : Go.Sort.Hint → Nat
  | .unknown => 0
  | .increasing => 1
  | .decreasing => 2
/-- the place that is the pivot's, and how often two were turned -/
def pick (d : Array Nat) (a l : Nat) : Nat × Nat :=
  if l ≥ 8 then (if l ≥ 50 then Go.Sort.median lt d (Go.Sort.medianAdjacent lt d (a + l / 4) 0).1 (Go.Sort.medianAdjacent lt d (a + l / 4 * 2) (Go.Sort.medianAdjacent lt d (a + l / 4) 0).2).1 (Go.Sort.medianAdjacent lt d (a + l / 4 * 3) (Go.Sort.medianAdjacent lt d (a + l / 4 * 2) (Go.Sort.medianAdjacent lt d (a + l / 4) 0).2).2).1 (Go.Sort.medianAdjacent lt d (a + l / 4 * 3) (Go.Sort.medianAdjacent lt d (a + l / 4 * 2) (Go.Sort.medianAdjacent lt d (a + l / 4) 0).2).2).2 else Go.Sort.median lt d (a + l / 4) (a + l / 4 * 2) (a + l / 4 * 3) 0) else (a + l / 4 * 2, 0)
theorem choose_is (d : Array Nat) (a b : Nat) : Go.Sort.choosePivot lt d a b = ((pick d a (b - a)).1, if (pick d a (b - a)).2 = 0 then .increasing else if (pick d a (b - a)).2 = 12 then .decreasing else .unknown) := by
  unfold Go.Sort.choosePivot pick
  simp only [Nat.mul_one]
theorem adjacent_lt {d : Array Nat} {a k n : Nat} (h0 : 1 ≤ a) (ha : a + 1 < n) : (Go.Sort.medianAdjacent lt d a k).1 < n ∧ (Go.Sort.medianAdjacent lt d a k).2 ≤ k + 3 := by
  unfold Go.Sort.medianAdjacent
  exact median_lt (by omega) (by omega) ha
theorem Sw.start {w : World} {g n : Nat} {d : Array Nat} (h : Hs w g d) (hn : d.size = n) : Sw (w.alloc (.cells #[.int .i64 0] 3)) (w.alloc (.cells #[.int .i64 0] 3)) g n d w.heap.size 0 :=
  ⟨h.later (below_new _ _), heap_alloc_new _ _, Touch.refl _ _, hn, by
    obtain ⟨cs, h1, _⟩ := h.row
    have := (Array.getElem?_eq_some_iff.1 h1).1
    omega⟩
theorem Sw.fin {w W : World} {g n k : Nat} {d : Array Nat} (S : Sw (w.alloc (.cells #[.int .i64 0] 3)) W g n d w.heap.size k) : St w W g n d :=
  ⟨S.hs, Touch.ofNew ((below_new w _).trans (S.t.below (below_new w _).size (fun _ hx => hx ▸ Nat.le_refl _))), S.sz⟩

set_option maxRecDepth 100000 in
set_option maxHeartbeats 2000000 in
theorem choose_any {w : World} {g n c a b : Nat} {d : Array Nat} (h : Hs w g d) (hn : d.size = n) (hab : a < b) (hb : b ≤ n) (hs : n ≤ 1000000) :
    Calls Try.prog 86 #[.slice (some ⟨g, 0, none⟩) n c, .int .i64 (a : Int), .int .i64 (b : Int)] w fun e w' => e = .returned (.tuple #[.int .i64 ((Go.Sort.choosePivot lt d a b).1 : Int), .int .i64 (hintI (Go.Sort.choosePivot lt d a b).2 : Int)]) ∧ St w w' g n d := by
  rw [choose_is]
  obtain ⟨l, hl⟩ : ∃ l, l = b - a := ⟨_, rfl⟩
  rw [← hl]
  obtain ⟨R, hR⟩ : ∃ R, R = pick d a l := ⟨_, rfl⟩
  rw [← hR]
  unfold pick at hR
  obtain ⟨q, hq⟩ : ∃ q, q = l / 4 := ⟨_, rfl⟩
  rw [← hq] at hR
  obtain ⟨i1, h1⟩ : ∃ x, x = a + q := ⟨_, rfl⟩
  obtain ⟨i2, h2⟩ : ∃ x, x = a + q * 2 := ⟨_, rfl⟩
  obtain ⟨i3, h3⟩ : ∃ x, x = a + q * 3 := ⟨_, rfl⟩
  rw [← h1, ← h2, ← h3] at hR
  have u1 : IntKind.i64.wrap ((b : Int) - (a : Int)) = (l : Int) := by rw [w64 (by omega)]; omega
  have u2 : (l : Int).tdiv 4 = (q : Int) := by rw [Int.tdiv_eq_ediv_of_nonneg (by omega)]; omega
  have u3 : IntKind.i64.wrap (q : Int) = (q : Int) := w64 (by omega)
  have u4 : IntKind.i64.wrap ((q : Int) * 2) = (q : Int) * 2 := w64 (by omega)
  have u5 : IntKind.i64.wrap ((q : Int) * 3) = (q : Int) * 3 := w64 (by omega)
  have u6 : IntKind.i64.wrap ((a : Int) + (q : Int)) = (i1 : Int) := by rw [w64 (by omega)]; omega
  have u7 : IntKind.i64.wrap ((a : Int) + (q : Int) * 2) = (i2 : Int) := by rw [w64 (by omega)]; omega
  have u8 : IntKind.i64.wrap ((a : Int) + (q : Int) * 3) = (i3 : Int) := by rw [w64 (by omega)]; omega
  have n1 : i1 < n := by omega
  have n2 : i2 < n := by omega
  have n3 : i3 < n := by omega
  have m1 : 50 ≤ l → 1 ≤ i1 ∧ i1 + 1 < n ∧ 1 ≤ i2 ∧ i2 + 1 < n ∧ 1 ≤ i3 ∧ i3 + 1 < n := fun h => by omega
  have M := Lib.hid m1
  have S0 := Lib.hid (Sw.start h hn)
  have FIN := Lib.hid (fun (W : World) (k : Nat) (S : Sw (w.alloc (.cells #[.int .i64 0] 3)) W g n d w.heap.size k) => S.fin)
  have HR := Lib.hid hR
  clear hl hq h1 h2 h3 hR m1 h
  go_enter Try.func86, Try.ntmps86
  go_upto_if 32 with fail
  generalize w.alloc _ = w0 at *
  obtain ⟨s, hs⟩ : ∃ s, s = w.heap.size := ⟨_, rfl⟩
  rw [← hs] at S0 FIN ⊢
  clear hs u1 u2 u3 u4 u5 u6 u7 u8
  go_cut [10, 11, 12, 32] (fun _ j _ _ wx => j = .int .i64 (R.1 : Int) ∧ Sw w0 wx g n d s R.2)
  case first =>
    by_cases l8 : 8 ≤ l
    · have f1 : (8 : Int) ≤ (l : Int) := by omega
      rw [if_pos (show l ≥ 8 from l8)] at HR
      by_cases l50 : 50 ≤ l
      · have f2 : (50 : Int) ≤ (l : Int) := by omega
        rw [if_pos (show l ≥ 50 from l50)] at HR
        obtain ⟨p1, p2, p3, p4, p5, p6⟩ := M.out l50
        clear l8 l50 M FIN
        have K1 := Lib.hid (adjacent_any (c := c) S0.out p1 p2 hs (Nat.zero_le _))
        obtain ⟨r1n, r1k⟩ := adjacent_lt (d := d) (k := 0) p1 p2
        generalize Go.Sort.medianAdjacent lt d i1 0 = r1 at *
        have K2 := Lib.hid (fun W (T : Sw W W g n d s r1.2) => adjacent_any (c := c) T p3 p4 hs (by omega))
        obtain ⟨r2n, r2k⟩ := adjacent_lt (d := d) (k := r1.2) p3 p4
        generalize Go.Sort.medianAdjacent lt d i2 r1.2 = r2 at *
        have K3 := Lib.hid (fun W (T : Sw W W g n d s r2.2) => adjacent_any (c := c) T p5 p6 hs (by omega))
        obtain ⟨r3n, r3k⟩ := adjacent_lt (d := d) (k := r2.2) p5 p6
        generalize Go.Sort.medianAdjacent lt d i3 r2.2 = r3 at *
        have K4 := Lib.hid (fun W (T : Sw W W g n d s r3.2) => median_any (c := c) T r1n r2n r3n (by omega))
        rw [← HR.out] at K4
        go_wp2_with fail
        refine K1.out.mono ?_
        rintro x1 w1 ⟨rfl, s1⟩
        have S1 := Lib.hid s1
        clear s1
        go_wp2_with fail
        refine (K2.out _ S1.out.again).mono ?_
        rintro x2 w2 ⟨rfl, s2⟩
        have S2 := Lib.hid (S1.out.then s2)
        clear s2
        go_wp2_with fail
        refine (K3.out _ S2.out.again).mono ?_
        rintro x3 w3 ⟨rfl, s3⟩
        have S3 := Lib.hid (S2.out.then s3)
        clear s3
        go_wp2_with fail
        refine (K4.out _ S3.out.again).mono ?_
        rintro x4 w4 ⟨rfl, s4⟩
        have S4 := Lib.hid (S3.out.then s4)
        clear s4
        go_wp2_with fail
        go_meet
        exact ⟨rfl, S4.out⟩
      · have f2 : ¬ (50 : Int) ≤ (l : Int) := by omega
        rw [if_neg (show ¬ l ≥ 50 from l50)] at HR
        have K4 := Lib.hid (median_any (c := c) S0.out n1 n2 n3 (Nat.zero_le _))
        rw [← HR.out] at K4
        clear l8 l50 M FIN
        go_wp2_with fail
        refine K4.out.mono ?_
        rintro x4 w4 ⟨rfl, s4⟩
        have S4 := Lib.hid s4
        clear s4
        go_wp2_with fail
        go_meet
        exact ⟨rfl, S4.out⟩
    · have f1 : ¬ (8 : Int) ≤ (l : Int) := by omega
      rw [if_neg (show ¬ l ≥ 8 from l8)] at HR
      clear l8 M FIN
      go_wp2_with fail
      go_meet
      rw [HR.out]
      exact ⟨rfl, S0.out⟩
  case rest =>
    obtain ⟨rfl, s1⟩ := hcut
    have S1 := Lib.hid s1
    have c1 := S1.out.count
    have F := Lib.hid (FIN.out _ _ s1)
    clear s1 M n1 n2 n3 S0 FIN
    obtain ⟨r, k⟩ := R
    simp only at *
    by_cases k0 : k = 0
    · subst k0
      go_wp2_with fail
      go_ret2
      exact ⟨rfl, F.out⟩
    · have e0 : ((k : Int) == 0) = false := by rw [beq_eq_false_iff_ne]; omega
      by_cases k12 : k = 12
      · subst k12
        go_wp2_with fail
        go_ret2
        exact ⟨rfl, F.out⟩
      · have e12 : ((k : Int) == 12) = false := by rw [beq_eq_false_iff_ne]; omega
        have K0 := Lib.hid k0
        have K12 := Lib.hid k12
        clear k0 k12
        go_wp2_with fail
        go_ret2
        exact ⟨by simp [K0.out, K12.out, hintI], F.out⟩

end Go.Proofs.Ytfcibccipkokoaa.Qs

namespace Go.Proofs.Ytfcibccipkokoaa.Qs
open Go.RowKit
attribute [local go_sem ↓] Go.wp_at_zero Go.wp_at_succ

theorem up_go {p : Nat → Bool} {d : Array Nat} {j i : Nat} (h : i ≤ j) (hp : p d[i]! = true) : Go.Sort.scanUp p d j i = Go.Sort.scanUp p d j (i + 1) := by
  rw [Go.Sort.scanUp, if_pos (by simp [h, hp])]
theorem up_end {p : Nat → Bool} {d : Array Nat} {j i : Nat} (h : ¬ i ≤ j ∨ p d[i]! = false) : Go.Sort.scanUp p d j i = i := by
  rw [Go.Sort.scanUp, if_neg (by rcases h with h | h <;> simp [h])]
theorem down_go {p : Nat → Bool} {d : Array Nat} {i j : Nat} (h : i ≤ j) (h0 : 0 < j) (hp : p d[j]! = true) : Go.Sort.scanDown p d i j = Go.Sort.scanDown p d i (j - 1) := by
  obtain ⟨k, rfl⟩ : ∃ k, j = k + 1 := ⟨j - 1, by omega⟩
  rw [Go.Sort.scanDown, if_pos (by simp [h, hp])]
  rfl
theorem down_end {p : Nat → Bool} {d : Array Nat} {i j : Nat} (h : ¬ i ≤ j ∨ p d[j]! = false) : Go.Sort.scanDown p d i j = j := by
  cases j with
  | zero => rfl
  | succ k => rw [Go.Sort.scanDown, if_neg (by rcases h with h | h <;> simp [h])]
/-- two numbers and an array, handed back: the first of them -/
def Ep (w : World) (g n : Nat) (r : Nat × Array Nat) : Ending → World → Prop := fun e w' => e = .returned (.int .i64 (r.1 : Int)) ∧ St w w' g n r.2

set_option maxRecDepth 100000 in
set_option maxHeartbeats 4000000 in
theorem equal_any {w : World} {g n c a b t : Nat} {d : Array Nat} (h : Hs w g d) (hn : d.size = n) (hat : a ≤ t) (htb : t < b) (hb : b ≤ n) (hs : n ≤ 1000000) :
    Calls Try.prog 90 #[.slice (some ⟨g, 0, none⟩) n c, .int .i64 (a : Int), .int .i64 (b : Int), .int .i64 (t : Int)] w (Ep w g n (Go.Sort.partitionEqual lt d a b t)) := by
  obtain ⟨R, hR⟩ : ∃ R, R = Go.Sort.partitionEqual lt d a b t := ⟨_, rfl⟩
  obtain ⟨z, hz⟩ : ∃ z, z = b - 1 := ⟨_, rfl⟩
  have T0 := Lib.hid (show Go.Sort.partEqLoop lt a (a + 1) z (Go.Sort.swp d a t) = R by rw [hz]; exact hR.symm)
  have S0 := Lib.hid (show St w w g n d from ⟨h, Touch.refl _ _, hn⟩)
  rw [← hR]
  have u1 : IntKind.i64.wrap ((b : Int) - 1) = (z : Int) := by rw [w64 (by omega)]; omega
  obtain ⟨a1, ha1⟩ : ∃ a1, a1 = a + 1 := ⟨_, rfl⟩
  have u2 : IntKind.i64.wrap ((a : Int) + 1) = (a1 : Int) := by rw [w64 (by omega)]; omega
  rw [← ha1] at T0
  have an : a < n := by omega
  have tn : t < n := by omega
  have zn : z < n := by omega
  have a1z : a1 ≤ z + 2 := by omega
  have aa : a < a1 := by omega
  have b1 : (0 : Int) ≤ (a : Int) := by omega
  have b2 : (a : Int) < (n : Int) := by omega
  have b3 : (0 : Int) ≤ (t : Int) := by omega
  have b4 : (t : Int) < (n : Int) := by omega
  clear hR h hz ha1 hat htb hb hn
  go_enter Try.func90, Try.ntmps90
  go_upto_region 1 with fail
  have c1 := S0.out.cell an
  have c2 := S0.out.cell tn
  have z1 := S0.out.hs.free a
  have z2 := S0.out.hs.free t
  have S1 := Lib.hid (S0.out.swp an tn)
  obtain ⟨v3, c3⟩ : ∃ v, (w.setCell ⟨g, a, none⟩ (.int .u32 (d[t]! : Int))).cell? ⟨g, t, none⟩ = some v := ⟨_, (S0.out.set an _).cell tn⟩
  generalize hx1 : d[a]! = x1 at *
  generalize hx2 : d[t]! = x2 at *
  go_region
  all_goals
    have S2 := Lib.hid (S1.out.later (Below.refl _ _).drew)
    clear c1 c2 c3 z1 z2 S1 S0
    go_upto_region 2 with fail
    generalize (World.setCell _ _ _).drew = w2 at *
    clear hx1 hx2
    generalize Go.Sort.swp d a t = d2 at *
    go_wp2_with fail
    clear u1 u2 b3 b4
    go_loopw [9, 10] (fun i j wr => ∃ (k m : Nat) (e : Array Nat), i = .int .i64 (k : Int) ∧ j = .int .i64 (m : Int) ∧ a < k ∧ k ≤ m + 2 ∧ m < n ∧ St w wr g n e ∧ Go.Sort.partEqLoop lt a k m e = R) (fun i j _ => (intOf j + 1 - intOf i).toNat)
    case atStart => exact ⟨a1, z, d2, rfl, rfl, aa, by omega, zn, S2.out, T0.out⟩
    case round =>
      obtain ⟨k, m, e, rfl, rfl, hak, hkm, hm, hs', ht'⟩ := hrel
      have S3 := Lib.hid hs'
      have T3 := Lib.hid ((Go.Sort.partEqLoop_eq lt a k m e).symm.trans ht')
      clear hs' ht' T0 S2
      obtain ⟨U, hU⟩ : ∃ U, U = Go.Sort.scanUp (fun x => !lt e[a]! x) e m k := ⟨_, rfl⟩
      rw [← hU] at T3
      have HU := Lib.hid hU.symm
      clear hU
      go_wp2_with fail
      go_loopw [9] (fun i wr => ∃ (k2 : Nat), i = .int .i64 (k2 : Int) ∧ k ≤ k2 ∧ k2 ≤ m + 2 ∧ St w wr g n e ∧ Go.Sort.scanUp (fun x => !lt e[a]! x) e m k2 = U) (fun i _ => (m + 1 - (intOf i).toNat))
      case atStart => exact ⟨k, rfl, Nat.le_refl _, hkm, S3.out, HU.out⟩
      case round =>
        obtain ⟨k2, rfl, hk2, hk3, hs', hu'⟩ := hrel
        have S4 := Lib.hid hs'
        have HU := Lib.hid hu'
        clear hs' hu' S3
        by_cases hle : k2 ≤ m
        · have k2n : k2 < n := by omega
          have j1 : (0 : Int) ≤ (k2 : Int) := by omega
          have j2 : (k2 : Int) < (n : Int) := by omega
          have e1 : decide (k2 ≤ m) = true := decide_eq_true hle
          have c1 := S4.out.cell an
          have c2 := S4.out.cell k2n
          have LS := Lib.hid (fun W => less_any (e[a]!) (e[k2]!) W)
          cases hl : lt e[a]! e[k2]!
          · have HU2 := Lib.hid (show Go.Sort.scanUp (fun x => !lt e[a]! x) e m (k2 + 1) = U from (up_go hle (by simp [hl])).symm.trans HU.out)
            rw [hl] at LS
            clear hl
            go_upto_region 3 with fail
            go_quiet ((go_at_call 89; exact Calls.quiet_of_same (LS.out _)))
            go_wp2_with fail
            go_roundw
            case rel => exact ⟨k2 + 1, by go_num, by omega, by omega, S4.out.later (drewN_below _ _), HU2.out⟩
            case measure => simp [intOf]; omega
          · have HE : k2 = U := (up_end (.inr (by simp [hl]))).symm.trans HU.out
            subst HE
            rw [hl] at LS
            clear hl
            go_upto_region 3 with fail
            go_quiet ((go_at_call 89; exact Calls.quiet_of_same (LS.out _)))
            have S5 := Lib.hid (show St w (wr.drewN nq) g n e from S4.out.later (drewN_below _ _))
            generalize wr.drewN nq = w5 at *
            try clear c1 c2 LS
            clear S4 HU
            obtain ⟨V, hV⟩ : ∃ V, V = Go.Sort.scanDown (fun x => lt e[a]! x) e k2 m := ⟨_, rfl⟩
            rw [← hV] at T3
            have HV := Lib.hid hV.symm
            clear hV
            go_wp2_with fail
            go_loopw [10] (fun j wr => ∃ (m2 : Nat), j = .int .i64 (m2 : Int) ∧ m2 ≤ m ∧ k2 ≤ m2 + 2 ∧ St w wr g n e ∧ Go.Sort.scanDown (fun x => lt e[a]! x) e k2 m2 = V) (fun j _ => (intOf j).toNat)
            case atStart => exact ⟨m, rfl, Nat.le_refl _, hk3, S5.out, HV.out⟩
            case round =>
              obtain ⟨m2, rfl, hm2, hm3, hs', hv'⟩ := hrel
              have S6 := Lib.hid hs'
              have HV := Lib.hid hv'
              clear hs' hv' S5
              by_cases hle2 : k2 ≤ m2
              · have m2n : m2 < n := by omega
                have k2n : k2 < n := by omega
                have i1 : (0 : Int) ≤ (m2 : Int) := by omega
                have i2 : (m2 : Int) < (n : Int) := by omega
                have i3 : (0 : Int) ≤ (k2 : Int) := by omega
                have i4 : (k2 : Int) < (n : Int) := by omega
                have e2 : decide (k2 ≤ m2) = true := decide_eq_true hle2
                have c1 := S6.out.cell an
                have c2 := S6.out.cell m2n
                have LS := Lib.hid (fun W => less_any (e[a]!) (e[m2]!) W)
                obtain ⟨m3, hm4⟩ : ∃ m3, m3 = m2 - 1 := ⟨_, rfl⟩
                have u3 : IntKind.i64.wrap ((m2 : Int) - 1) = (m3 : Int) := by rw [w64 (by omega)]; omega
                have u4 : IntKind.i64.wrap ((k2 : Int) + 1) = ((k2 + 1 : Nat) : Int) := by rw [w64 (by omega)]; omega
                have B := Lib.hid (show m3 ≤ m ∧ k2 ≤ m3 + 1 ∧ m3 < m2 ∧ m3 < n by omega)
                cases hl : lt e[a]! e[m2]!
                · have HE2 : m2 = V := (down_end (.inr hl)).symm.trans HV.out
                  subst HE2
                  have T5 := Lib.hid (show Go.Sort.partEqLoop lt a (k2 + 1) m3 (Go.Sort.swp e k2 m2) = R by rw [hm4]; have := T3.out; rwa [if_neg (by omega)] at this)
                  rw [hl] at LS
                  clear hl hm4 T3 HV
                  have e3 : decide (m2 < k2) = false := decide_eq_false (by omega)
                  go_upto_region 5 with fail
                  go_quiet ((go_at_call 89; exact Calls.quiet_of_same (LS.out _)))
                  go_upto_region 8 with fail
                  have S7 := Lib.hid (show St w (wr.drewN nq) g n e from S6.out.later (drewN_below _ _))
                  generalize wr.drewN nq = w7 at *
                  clear c1 c2 S6 LS
                  have c1 := S7.out.cell k2n
                  have c2 := S7.out.cell m2n
                  have z1 := S7.out.hs.free k2
                  have z2 := S7.out.hs.free m2
                  have S8 := Lib.hid (S7.out.swp k2n m2n)
                  obtain ⟨v3, c3⟩ : ∃ v, (w7.setCell ⟨g, k2, none⟩ (.int .u32 (e[m2]! : Int))).cell? ⟨g, m2, none⟩ = some v := ⟨_, (S7.out.set k2n _).cell m2n⟩
                  generalize hx1 : e[k2]! = x1 at *
                  generalize hx2 : e[m2]! = x2 at *
                  clear S7
                  go_region
                  all_goals
                    go_wp2_with fail
                    exact ⟨⟨k2 + 1, m3, _, by go_num, rfl, by omega, by have := B.out; omega, B.out.2.2.2, S8.out.later (Below.refl _ _).drew, T5.out⟩, by have := B.out; simp [intOf]; omega⟩
                · have HV2 := Lib.hid (show Go.Sort.scanDown (fun x => lt e[a]! x) e k2 m3 = V by rw [hm4]; exact (down_go hle2 (by omega) hl).symm.trans HV.out)
                  rw [hl] at LS
                  clear hl hm4
                  go_upto_region 5 with fail
                  go_quiet ((go_at_call 89; exact Calls.quiet_of_same (LS.out _)))
                  go_wp2_with fail
                  go_roundw
                  case rel => exact ⟨m3, rfl, B.out.1, Nat.le_succ_of_le B.out.2.1, S6.out.later (drewN_below _ _), HV2.out⟩
                  case measure => have := B.out; simp [intOf]; omega
              · have HE2 : m2 = V := (down_end (.inl hle2)).symm.trans HV.out
                subst HE2
                have e2 : decide (k2 ≤ m2) = false := decide_eq_false hle2
                have e3 : decide (m2 < k2) = true := decide_eq_true (by omega)
                have T5 := Lib.hid (show (k2, e) = R by have := T3.out; rwa [if_pos (by omega)] at this)
                clear T3 HV
                go_upto_region 5 with fail
                go_quiet (fail)
                go_wp2_with fail
                go_ret
                rw [← T5.out]
                exact ⟨rfl, S6.out.later (drewN_below _ _)⟩
        · have HE : k2 = U := (up_end (.inl hle)).symm.trans HU.out
          subst HE
          have e1 : decide (k2 ≤ m) = false := decide_eq_false hle
          go_upto_region 3 with fail
          go_quiet (fail)
          have S5 := Lib.hid (show St w (wr.drewN nq) g n e from S4.out.later (drewN_below _ _))
          generalize wr.drewN nq = w5 at *
          try clear c1 c2 LS
          clear S4 HU
          obtain ⟨V, hV⟩ : ∃ V, V = Go.Sort.scanDown (fun x => lt e[a]! x) e k2 m := ⟨_, rfl⟩
          rw [← hV] at T3
          have HV := Lib.hid hV.symm
          clear hV
          go_wp2_with fail
          go_loopw [10] (fun j wr => ∃ (m2 : Nat), j = .int .i64 (m2 : Int) ∧ m2 ≤ m ∧ k2 ≤ m2 + 2 ∧ St w wr g n e ∧ Go.Sort.scanDown (fun x => lt e[a]! x) e k2 m2 = V) (fun j _ => (intOf j).toNat)
          case atStart => exact ⟨m, rfl, Nat.le_refl _, hk3, S5.out, HV.out⟩
          case round =>
            obtain ⟨m2, rfl, hm2, hm3, hs', hv'⟩ := hrel
            have S6 := Lib.hid hs'
            have HV := Lib.hid hv'
            clear hs' hv' S5
            by_cases hle2 : k2 ≤ m2
            · have m2n : m2 < n := by omega
              have k2n : k2 < n := by omega
              have i1 : (0 : Int) ≤ (m2 : Int) := by omega
              have i2 : (m2 : Int) < (n : Int) := by omega
              have i3 : (0 : Int) ≤ (k2 : Int) := by omega
              have i4 : (k2 : Int) < (n : Int) := by omega
              have e2 : decide (k2 ≤ m2) = true := decide_eq_true hle2
              have c1 := S6.out.cell an
              have c2 := S6.out.cell m2n
              have LS := Lib.hid (fun W => less_any (e[a]!) (e[m2]!) W)
              obtain ⟨m3, hm4⟩ : ∃ m3, m3 = m2 - 1 := ⟨_, rfl⟩
              have u3 : IntKind.i64.wrap ((m2 : Int) - 1) = (m3 : Int) := by rw [w64 (by omega)]; omega
              have u4 : IntKind.i64.wrap ((k2 : Int) + 1) = ((k2 + 1 : Nat) : Int) := by rw [w64 (by omega)]; omega
              have B := Lib.hid (show m3 ≤ m ∧ k2 ≤ m3 + 1 ∧ m3 < m2 ∧ m3 < n by omega)
              cases hl : lt e[a]! e[m2]!
              · have HE2 : m2 = V := (down_end (.inr hl)).symm.trans HV.out
                subst HE2
                have T5 := Lib.hid (show Go.Sort.partEqLoop lt a (k2 + 1) m3 (Go.Sort.swp e k2 m2) = R by rw [hm4]; have := T3.out; rwa [if_neg (by omega)] at this)
                rw [hl] at LS
                clear hl hm4 T3 HV
                have e3 : decide (m2 < k2) = false := decide_eq_false (by omega)
                go_upto_region 5 with fail
                go_quiet ((go_at_call 89; exact Calls.quiet_of_same (LS.out _)))
                go_upto_region 8 with fail
                have S7 := Lib.hid (show St w (wr.drewN nq) g n e from S6.out.later (drewN_below _ _))
                generalize wr.drewN nq = w7 at *
                clear c1 c2 S6 LS
                have c1 := S7.out.cell k2n
                have c2 := S7.out.cell m2n
                have z1 := S7.out.hs.free k2
                have z2 := S7.out.hs.free m2
                have S8 := Lib.hid (S7.out.swp k2n m2n)
                obtain ⟨v3, c3⟩ : ∃ v, (w7.setCell ⟨g, k2, none⟩ (.int .u32 (e[m2]! : Int))).cell? ⟨g, m2, none⟩ = some v := ⟨_, (S7.out.set k2n _).cell m2n⟩
                generalize hx1 : e[k2]! = x1 at *
                generalize hx2 : e[m2]! = x2 at *
                clear S7
                go_region
                all_goals
                  go_wp2_with fail
                  exact ⟨⟨k2 + 1, m3, _, by go_num, rfl, by omega, by have := B.out; omega, B.out.2.2.2, S8.out.later (Below.refl _ _).drew, T5.out⟩, by have := B.out; simp [intOf]; omega⟩
              · have HV2 := Lib.hid (show Go.Sort.scanDown (fun x => lt e[a]! x) e k2 m3 = V by rw [hm4]; exact (down_go hle2 (by omega) hl).symm.trans HV.out)
                rw [hl] at LS
                clear hl hm4
                go_upto_region 5 with fail
                go_quiet ((go_at_call 89; exact Calls.quiet_of_same (LS.out _)))
                go_wp2_with fail
                go_roundw
                case rel => exact ⟨m3, rfl, B.out.1, Nat.le_succ_of_le B.out.2.1, S6.out.later (drewN_below _ _), HV2.out⟩
                case measure => have := B.out; simp [intOf]; omega
            · have HE2 : m2 = V := (down_end (.inl hle2)).symm.trans HV.out
              subst HE2
              have e2 : decide (k2 ≤ m2) = false := decide_eq_false hle2
              have e3 : decide (m2 < k2) = true := decide_eq_true (by omega)
              have T5 := Lib.hid (show (k2, e) = R by have := T3.out; rwa [if_pos (by omega)] at this)
              clear T3 HV
              go_upto_region 5 with fail
              go_quiet (fail)
              go_wp2_with fail
              go_ret
              rw [← T5.out]
              exact ⟨rfl, S6.out.later (drewN_below _ _)⟩

end Go.Proofs.Ytfcibccipkokoaa.Qs
