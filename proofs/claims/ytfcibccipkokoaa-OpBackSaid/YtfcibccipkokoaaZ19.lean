/-
  Sorting of numbers: where they lie; which is less.
  Sorting of numbers: by insertion.
  Sorting of numbers: the heap.
  Sorting of numbers: by the heap.
  Sorting of numbers: a part turned about.
-/
import Derived.Sort.Statements
import Derived.BigQuiet
import Derived.Deep.QuietTactic
import Derived.Deep.DrawnRows
import Derived.Test.YtfcibccipkokoaaZ4
import Derived.Test.YtfcibccipkokoaaZ3
namespace Go.Proofs.Ytfcibccipkokoaa.Qs
open Go.RowKit
attribute [local go_sem ↓] Go.wp_at_zero Go.wp_at_succ

def lt (x y : Nat) : Bool := decide (x < y)
/-- the block g holds these numbers first -/
structure Hs (W : World) (g : Nat) (d : Array Nat) : Prop where
  row : ∃ cs : Array Value, W.heap[g]? = some (.cells cs 33 (0, 0)) ∧ ∀ i, i < d.size → cs[i]? = some (.int .u32 (d[i]! : Int))
section
variable {w W W' : World} {g : Nat} {d : Array Nat} {n : Nat}
theorem Hs.cell (h : Hs W g d) {i : Nat} (hi : i < d.size) : W.cell? ⟨g, i, none⟩ = some (.int .u32 (d[i]! : Int)) := by
  obtain ⟨cs, h1, h2⟩ := h.row
  rw [cell_of_row _ _ _ _ _ _ h1]
  exact h2 i hi
theorem Hs.free (h : Hs W g d) (i : Nat) : W.frozen? ⟨g, i, none⟩ = false := by
  obtain ⟨cs, h1, _⟩ := h.row
  exact frozen_of_row _ _ _ _ _ h1
theorem Hs.later (h : Hs W g d) (t : Below W.heap.size W W') : Hs W' g d := by
  obtain ⟨cs, h1, h2⟩ := h.row
  exact ⟨cs, (t.block _ (Array.getElem?_eq_some_iff.1 h1).1).trans h1, h2⟩
theorem Hs.set (h : Hs W g d) {i : Nat} (hi : i < d.size) (x : Nat) : Hs (W.setCell ⟨g, i, none⟩ (.int .u32 (x : Int))) g (d.setIfInBounds i x) := by
  obtain ⟨cs, h1, h2⟩ := h.row
  refine ⟨cs.setIfInBounds i (.int .u32 (x : Int)), by rw [heap_setCell_same _ _ _ _ _ _ h1], fun j hj => ?_⟩
  rw [Array.size_setIfInBounds] at hj
  have hic : i < cs.size := by have := h2 i hi; exact (Array.getElem?_eq_some_iff.1 this).1
  by_cases e : j = i
  · subst e
    rw [Array.getElem?_setIfInBounds_self_of_lt hic]
    simp [hj]
  · rw [Array.getElem?_setIfInBounds_ne (Ne.symm e), h2 j hj]
    simp [getElem!_def, Array.getElem?_setIfInBounds_ne (Ne.symm e)]
/-- while they are sorted: nothing but that block turns -/
structure St (w W : World) (g n : Nat) (d : Array Nat) : Prop where
  hs : Hs W g d
  t : Touch (fun x => x = g) w W
  sz : d.size = n
theorem St.start (h : Hs w g d) : St w w g d.size d := ⟨h, Touch.refl _ _, rfl⟩
theorem St.later (S : St w W g n d) (t : Below W.heap.size W W') : St w W' g n d := ⟨S.hs.later t, S.t.trans' (Touch.ofNew t), S.sz⟩
theorem St.set (S : St w W g n d) {i : Nat} (hi : i < n) (x : Nat) : St w (W.setCell ⟨g, i, none⟩ (.int .u32 (x : Int))) g n (d.setIfInBounds i x) :=
  ⟨S.hs.set (by rw [S.sz]; exact hi) x, S.t.setCell (x := ⟨g, i, none⟩) rfl _, by rw [Array.size_setIfInBounds, S.sz]⟩
theorem St.cell (S : St w W g n d) {i : Nat} (hi : i < n) : W.cell? ⟨g, i, none⟩ = some (.int .u32 (d[i]! : Int)) := S.hs.cell (by rw [S.sz]; exact hi)
theorem St.swp (S : St w W g n d) {i j : Nat} (hi : i < n) (hj : j < n) : St w ((W.setCell ⟨g, i, none⟩ (.int .u32 (d[j]! : Int))).setCell ⟨g, j, none⟩ (.int .u32 (d[i]! : Int))) g n (Go.Sort.swp d i j) := (S.set hi _).set hj _
end
/-- what a sort leaves -/
def Sp (w : World) (g n : Nat) (d : Array Nat) : Ending → World → Prop := fun e w' => e = .returned (.tuple #[]) ∧ St w w' g n d

theorem isnan_any (x : Nat) (w : World) : Calls Try.prog 126 #[.int .u32 (x : Int)] w fun e w' => e = .returned (.bool false) ∧ w' = w := by
  go_enter Try.func126, Try.ntmps126
  go_wp2_with fail
  go_ret
  simp
theorem less_any (x y : Nat) (w : World) : Calls Try.prog 89 #[.int .u32 (x : Int), .int .u32 (y : Int)] w fun e w' => e = .returned (.bool (lt x y)) ∧ w' = w := by
  go_enter Try.func89, Try.ntmps89
  go_wp2_with (go_at_call 126; refine (isnan_any _ _).mono ?_; rintro e w1 ⟨rfl, rfl⟩)
  go_ret
  unfold lt
  simp

end Go.Proofs.Ytfcibccipkokoaa.Qs

namespace Go.Proofs.Ytfcibccipkokoaa.Qs
open Go.RowKit
attribute [local go_sem ↓] Go.wp_at_zero Go.wp_at_succ

theorem insInner_go {a j : Nat} {d : Array Nat} (h : j + 1 > a) (hl : lt d[j + 1]! d[j]! = true) : Go.Sort.insInner lt a (j + 1) d = Go.Sort.insInner lt a j (Go.Sort.swp d (j + 1) j) := by
  rw [Go.Sort.insInner, if_pos (by simp [h, hl])]
theorem insInner_stop {a j : Nat} {d : Array Nat} (h : ¬ j > a ∨ lt d[j]! d[j - 1]! = false) : Go.Sort.insInner lt a j d = d := by
  cases j with
  | zero => rfl
  | succ j =>
    rw [Go.Sort.insInner, if_neg]
    rcases h with h | h
    · simp; omega
    · simp only [Nat.add_sub_cancel] at h
      simp [h]
theorem insOuter_go {a b i : Nat} {d : Array Nat} (h : i < b) : Go.Sort.insOuter lt a b i d = Go.Sort.insOuter lt a b (i + 1) (Go.Sort.insInner lt a i d) := by
  rw [Go.Sort.insOuter, if_pos h]
theorem insOuter_stop {a b i : Nat} {d : Array Nat} (h : ¬ i < b) : Go.Sort.insOuter lt a b i d = d := by
  rw [Go.Sort.insOuter, if_neg h]

set_option maxRecDepth 100000 in
set_option maxHeartbeats 2000000 in
theorem insert_any {w : World} {g n c a b : Nat} {d : Array Nat} (h : Hs w g d) (hn : d.size = n) (hb : b ≤ n) (ha : a ≤ n) (hs : n ≤ 1000000) :
    Calls Try.prog 83 #[.slice (some ⟨g, 0, none⟩) n c, .int .i64 (a : Int), .int .i64 (b : Int)] w (Sp w g n (Go.Sort.insertionSort lt d a b)) := by
  subst hn
  obtain ⟨R, hR⟩ : ∃ R, R = Go.Sort.insertionSort lt d a b := ⟨_, rfl⟩
  have T0 := Lib.hid (show Go.Sort.insOuter lt a b (a + 1) d = R from hR.symm)
  have S0 := Lib.hid (St.start h)
  rw [← hR]
  clear hR h
  generalize d.size = n at *
  go_enter Try.func83, Try.ntmps83
  go_wp2_with fail
  go_loopw [6, 7] (fun i _ wr => ∃ (k : Nat) (e : Array Nat), i = .int .i64 (k : Int) ∧ a < k ∧ k ≤ max (a + 1) b ∧ St w wr g n e ∧ Go.Sort.insOuter lt a b k e = R) (fun i _ _ => b - (intOf i).toNat)
  case atStart => exact ⟨a + 1, d, by go_num, by omega, by omega, S0.out, T0.out⟩
  case round =>
    obtain ⟨k, e, rfl, hak, hk, hs', ht⟩ := hrel
    have S1 := Lib.hid hs'
    have T1 := Lib.hid ht
    clear hs' ht
    by_cases hlt : k < b
    · have T2 := Lib.hid ((insOuter_go hlt).symm.trans T1.out)
      clear T1 T0 S0
      go_wp2_with fail
      go_loopw [7] (fun j wr => ∃ (m : Nat) (f : Array Nat), j = .int .i64 (m : Int) ∧ m ≤ k ∧ St w wr g n f ∧ Go.Sort.insOuter lt a b (k + 1) (Go.Sort.insInner lt a m f) = R) (fun j _ => (intOf j).toNat)
      case atStart => exact ⟨k, e, rfl, Nat.le_refl _, S1.out, T2.out⟩
      case round =>
        obtain ⟨m, f, rfl, hm, hs2, ht2⟩ := hrel
        have S3 := Lib.hid hs2
        have T3 := Lib.hid ht2
        clear hs2 ht2 S1 T2
        by_cases hma : a < m
        · obtain ⟨q, hq⟩ : ∃ q, q + 1 = m := ⟨m - 1, by omega⟩
          have hmn : m < n := by omega
          have hqn : q < n := by omega
          have i1 : (0 : Int) ≤ (m : Int) := by omega
          have i2 : (m : Int) < (n : Int) := by omega
          have i3 : (0 : Int) ≤ (q : Int) := by omega
          have i4 : (q : Int) < (n : Int) := by omega
          have e1 : decide (a < m) = true := decide_eq_true hma
          have wq : IntKind.i64.wrap ((m : Int) - 1) = (q : Int) := by rw [IntKind.wrap_i64]; omega
          have c1 := S3.out.cell hmn
          have c2 := S3.out.cell hqn
          have LS := Lib.hid (fun W => less_any (f[m]!) (f[q]!) W)
          cases hl : lt f[m]! f[q]!
          · have T4 := Lib.hid (show Go.Sort.insOuter lt a b (k + 1) f = R by have := T3.out; rwa [insInner_stop (.inr (by rw [← hq, Nat.add_sub_cancel]; rw [← hq] at hl; exact hl))] at this)
            rw [hl] at LS
            clear hl T3
            generalize f[m]! = x1 at *
            generalize f[q]! = x2 at *
            go_upto_region 4 with fail
            go_quiet ((go_at_call 89; exact Calls.quiet_of_same (LS.out _)))
            go_wp2_with fail
            go_roundw
            case rel => exact ⟨k + 1, f, by go_num, by omega, by omega, S3.out.later ⟨rfl, rfl, rfl, Nat.le_refl _, fun _ _ => rfl⟩, T4.out⟩
            case measure => simp [intOf]; omega
          · have T4 := Lib.hid (show Go.Sort.insOuter lt a b (k + 1) (Go.Sort.insInner lt a q (Go.Sort.swp f m q)) = R by
              have := T3.out
              rw [← hq] at this hl ⊢
              rwa [insInner_go (by omega) hl] at this)
            rw [hl] at LS
            clear hl T3
            go_upto_region 4 with fail
            go_quiet ((go_at_call 89; exact Calls.quiet_of_same (LS.out _)))
            go_upto_region 6 with fail
            have S5 := Lib.hid (show St w (wr.drewN nq) g n f from S3.out.later ⟨rfl, rfl, rfl, Nat.le_refl _, fun _ _ => rfl⟩)
            generalize wr.drewN nq = w5 at *
            clear c1 c2 S3 LS
            have c1 := S5.out.cell hmn
            have c2 := S5.out.cell hqn
            have z1 := S5.out.hs.free m
            have z2 := S5.out.hs.free q
            have S6 := Lib.hid (S5.out.swp hmn hqn)
            generalize hx1 : f[m]! = x1 at *
            generalize hx2 : f[q]! = x2 at *
            go_region
            all_goals
              go_wp2_with fail
              exact ⟨⟨q, _, rfl, by omega, S6.out.later (Below.refl _ _).drew, T4.out⟩, by simp [intOf]; omega⟩
        · have e1 : decide (a < m) = false := decide_eq_false hma
          have T4 := Lib.hid (show Go.Sort.insOuter lt a b (k + 1) f = R by have := T3.out; rwa [insInner_stop (.inl (by omega))] at this)
          clear T3
          go_upto_region 4 with fail
          go_quiet (fail)
          go_wp2_with fail
          go_roundw
          case rel => exact ⟨k + 1, f, by go_num, by omega, by omega, S3.out.later ⟨rfl, rfl, rfl, Nat.le_refl _, fun _ _ => rfl⟩, T4.out⟩
          case measure => simp [intOf]; omega
    · have T2 := Lib.hid ((insOuter_stop hlt).symm.trans T1.out)
      go_wp2_with fail
      go_end0
      exact ⟨rfl, by rw [← T2.out]; exact S1.out⟩

end Go.Proofs.Ytfcibccipkokoaa.Qs

namespace Go.Proofs.Ytfcibccipkokoaa.Qs
open Go.RowKit
attribute [local go_sem ↓] Go.wp_at_zero Go.wp_at_succ

theorem w64 {x : Int} (h : -4611686018427387904 ≤ x ∧ x ≤ 4611686018427387904) : IntKind.i64.wrap x = x := by rw [IntKind.wrap_i64]; omega
theorem drewN_below (W : World) (q : Nat) : Below W.heap.size W (W.drewN q) := ⟨rfl, rfl, rfl, Nat.le_refl _, fun _ _ => rfl⟩
/-- the greater child -/
def kid (d : Array Nat) (hi first r : Nat) : Nat := if 2 * r + 2 < hi ∧ lt d[first + (2 * r + 1)]! d[first + (2 * r + 2)]! = true then 2 * r + 2 else 2 * r + 1
theorem sift_stop {hi first r : Nat} {d : Array Nat} (h : hi ≤ 2 * r + 1) : Go.Sort.siftDown lt hi first r d = d := by
  rw [Go.Sort.siftDown, dif_pos h]
theorem sift_step {hi first r : Nat} {d : Array Nat} (h : ¬ hi ≤ 2 * r + 1) : Go.Sort.siftDown lt hi first r d = if lt d[first + r]! d[first + kid d hi first r]! = true then Go.Sort.siftDown lt hi first (kid d hi first r) (Go.Sort.swp d (first + r) (first + kid d hi first r)) else d := by
  rw [Go.Sort.siftDown, dif_neg (by omega)]
  unfold kid
  by_cases a : 2 * r + 2 < hi ∧ lt d[first + (2 * r + 1)]! d[first + (2 * r + 2)]! = true
  · rw [if_pos (show (decide (2 * r + 1 + 1 < hi) && lt d[first + (2 * r + 1)]! d[first + (2 * r + 1) + 1]!) = true by simp only [Bool.and_eq_true, decide_eq_true_eq]; exact ⟨by omega, a.2⟩)]
    simp only [if_pos a]
    cases lt d[first + r]! d[first + (2 * r + 2)]! <;> simp [a.1]
  · rw [if_neg (show ¬ (decide (2 * r + 1 + 1 < hi) && lt d[first + (2 * r + 1)]! d[first + (2 * r + 1) + 1]!) = true by simp only [Bool.and_eq_true, decide_eq_true_eq]; exact fun b => a ⟨by omega, b.2⟩)]
    simp only [if_neg a]
    cases lt d[first + r]! d[first + (2 * r + 1)]! <;> simp

set_option maxRecDepth 100000 in
set_option maxHeartbeats 2000000 in
theorem sift_any {w : World} {g n c lo hi first : Nat} {d : Array Nat} (h : Hs w g d) (hn : d.size = n) (hb : first + hi ≤ n) (hl : lo ≤ n) (hs : n ≤ 1000000) :
    Calls Try.prog 121 #[.slice (some ⟨g, 0, none⟩) n c, .int .i64 (lo : Int), .int .i64 (hi : Int), .int .i64 (first : Int)] w (Sp w g n (Go.Sort.siftDown lt hi first lo d)) := by
  subst hn
  obtain ⟨R, hR⟩ : ∃ R, R = Go.Sort.siftDown lt hi first lo d := ⟨_, rfl⟩
  have T0 := Lib.hid (show Go.Sort.siftDown lt hi first lo d = R from hR.symm)
  have S0 := Lib.hid (St.start h)
  rw [← hR]
  clear hR h
  generalize d.size = n at *
  go_enter Try.func121, Try.ntmps121
  go_wp2_with fail
  go_loopw [8] (fun i wr => ∃ (r : Nat) (e : Array Nat), i = .int .i64 (r : Int) ∧ r ≤ n ∧ St w wr g n e ∧ Go.Sort.siftDown lt hi first r e = R) (fun i _ => n - (intOf i).toNat)
  case atStart => exact ⟨lo, d, rfl, hl, S0.out, T0.out⟩
  case round =>
    obtain ⟨r, e, rfl, hr, hs', ht⟩ := hrel
    have S1 := Lib.hid hs'
    have T1 := Lib.hid ht
    clear hs' ht T0 S0
    have u1 : IntKind.i64.wrap (2 * (r : Int)) = 2 * (r : Int) := w64 (by omega)
    have u2 : IntKind.i64.wrap (2 * (r : Int) + 1) = ((2 * r + 1 : Nat) : Int) := by rw [w64 (by omega)]; omega
    by_cases h1 : hi ≤ 2 * r + 1
    · have T2 := Lib.hid ((sift_stop h1).symm.trans T1.out)
      have e1 : decide (hi ≤ 2 * r + 1) = true := decide_eq_true h1
      generalize 2 * r + 1 = s at *
      go_wp2_with fail
      go_end0
      exact ⟨rfl, by rw [← T2.out]; exact S1.out⟩
    · have T2 := Lib.hid ((sift_step h1).symm.trans T1.out)
      clear T1
      obtain ⟨s, hs1⟩ : ∃ s, s = 2 * r + 1 := ⟨_, rfl⟩
      obtain ⟨s2, hs2⟩ : ∃ s2, s2 = 2 * r + 2 := ⟨_, rfl⟩
      obtain ⟨pc, hpc⟩ : ∃ pc, pc = first + s := ⟨_, rfl⟩
      obtain ⟨p2, hp2⟩ : ∃ p2, p2 = first + s2 := ⟨_, rfl⟩
      obtain ⟨a, ha⟩ : ∃ a, a = first + r := ⟨_, rfl⟩
      have e1 : decide (hi ≤ s) = false := decide_eq_false (by omega)
      rw [← hs1] at u2
      have u3 : IntKind.i64.wrap ((s : Int) + 1) = (s2 : Int) := by rw [w64 (by omega)]; omega
      have u4 : IntKind.i64.wrap ((first : Int) + (s : Int)) = (pc : Int) := by rw [w64 (by omega)]; omega
      have u5 : IntKind.i64.wrap ((pc : Int) + 1) = (p2 : Int) := by rw [w64 (by omega)]; omega
      have u6 : IntKind.i64.wrap ((first : Int) + (r : Int)) = (a : Int) := by rw [w64 (by omega)]; omega
      have u7 : IntKind.i64.wrap ((first : Int) + (s2 : Int)) = (p2 : Int) := by rw [w64 (by omega)]; omega
      have hpn : pc < n := by omega
      have han : a < n := by omega
      have b1 : (0 : Int) ≤ (pc : Int) := by omega
      have b2 : (pc : Int) < (n : Int) := by omega
      have b3 : (0 : Int) ≤ (a : Int) := by omega
      have b4 : (a : Int) < (n : Int) := by omega
      have c1 := S1.out.cell hpn
      have rs : r < s := by omega
      have rs2 : r < s2 := by omega
      have sn : s ≤ n := by omega
      have rn : r < n := by omega
      have F1 := Lib.hid (show first + s = pc from hpc.symm)
      have F2 := Lib.hid (show first + s2 = p2 from hp2.symm)
      have HA := Lib.hid ha
      have S22 := Lib.hid (show s2 < hi → p2 < n ∧ s2 ≤ n from fun h => by omega)
      have KD : kid e hi first r = if s2 < hi ∧ lt e[pc]! e[p2]! = true then s2 else s := by unfold kid; rw [hs1, hs2, hpc, hp2, hs1, hs2]
      clear hs1 hs2 hpc hp2 ha h1
      by_cases h2 : s2 < hi
      · have hp2n : p2 < n := (S22.out h2).1
        have s2n : s2 ≤ n := (S22.out h2).2
        have b5 : (0 : Int) ≤ (p2 : Int) := by omega
        have b6 : (p2 : Int) < (n : Int) := by omega
        have c2 := S1.out.cell hp2n
        have e2 : decide (s2 < hi) = true := decide_eq_true h2
        have LS := Lib.hid (fun W => less_any (e[pc]!) (e[p2]!) W)
        cases h3 : lt e[pc]! e[p2]!
        · rw [h3] at LS
          have KD2 : kid e hi first r = s := by rw [KD, if_neg (by rw [h3]; simp)]
          clear KD h3
          go_upto_region 3 with fail
          go_quiet ((go_at_call 89; exact Calls.quiet_of_same (LS.out _)))
          have hc : kid e hi first r = s := KD2
          have T3 := Lib.hid (show (if lt e[a]! e[pc]! = true then Go.Sort.siftDown lt hi first s (Go.Sort.swp e a pc) else e) = R by have := T2.out; rw [hc, ← HA.out, show first + s = pc from F1.out] at this; exact this)
          clear hc T2
          go_upto_region 5 with fail
          have S2 := Lib.hid (show St w (wr.drewN nq) g n e from S1.out.later (drewN_below _ _))
          generalize wr.drewN nq = w5 at *
          clear S1 c1 c2
          have c1 := S2.out.cell han
          have c2 := S2.out.cell hpn
          have LL := Lib.hid (fun W => less_any (e[a]!) (e[pc]!) W)
          cases hl : lt e[a]! e[pc]!
          · have T4 := Lib.hid (show e = R by have := T3.out; rwa [hl, if_neg (by decide)] at this)
            rw [hl] at LL
            clear hl T3
            generalize e[a]! = x1 at *
            generalize e[pc]! = x2 at *
            go_quiet ((go_at_call 89; exact Calls.quiet_of_same (LL.out _)))
            go_wp2_with fail
            go_end0
            exact ⟨rfl, by rw [← T4.out]; exact S2.out.later (drewN_below _ _)⟩
          · have T4 := Lib.hid (show Go.Sort.siftDown lt hi first s (Go.Sort.swp e a pc) = R by have := T3.out; rwa [hl, if_pos rfl] at this)
            rw [hl] at LL
            clear hl T3
            go_quiet ((go_at_call 89; exact Calls.quiet_of_same (LL.out _)))
            go_upto_region 6 with fail
            have S5 := Lib.hid (show St w (w5.drewN nq) g n e from S2.out.later (drewN_below _ _))
            generalize w5.drewN nq = w6 at *
            clear c1 c2 S2 LL
            have c1 := S5.out.cell han
            have c2 := S5.out.cell hpn
            have z1 := S5.out.hs.free a
            have z2 := S5.out.hs.free pc
            have S6 := Lib.hid (S5.out.swp han hpn)
            obtain ⟨v3, c3⟩ : ∃ v, (w6.setCell ⟨g, a, none⟩ (.int .u32 (e[pc]! : Int))).cell? ⟨g, pc, none⟩ = some v := ⟨_, (S5.out.set han _).cell hpn⟩
            generalize hx1 : e[a]! = x1 at *
            generalize hx2 : e[pc]! = x2 at *
            go_region
            all_goals
              go_wp2_with fail
              exact ⟨⟨s, _, rfl, by omega, S6.out.later (Below.refl _ _).drew, T4.out⟩, by simp [intOf]; omega⟩
        · rw [h3] at LS
          have KD2 : kid e hi first r = s2 := by rw [KD, if_pos ⟨h2, h3⟩]
          clear KD h3
          go_upto_region 3 with fail
          go_quiet ((go_at_call 89; exact Calls.quiet_of_same (LS.out _)))
          have hc : kid e hi first r = s2 := KD2
          have T3 := Lib.hid (show (if lt e[a]! e[p2]! = true then Go.Sort.siftDown lt hi first s2 (Go.Sort.swp e a p2) else e) = R by have := T2.out; rw [hc, ← HA.out, show first + s2 = p2 from F2.out] at this; exact this)
          clear hc T2
          go_upto_region 5 with fail
          have S2 := Lib.hid (show St w (wr.drewN nq) g n e from S1.out.later (drewN_below _ _))
          generalize wr.drewN nq = w5 at *
          clear S1 c1 c2
          have c1 := S2.out.cell han
          have c2 := S2.out.cell hp2n
          have LL := Lib.hid (fun W => less_any (e[a]!) (e[p2]!) W)
          cases hl : lt e[a]! e[p2]!
          · have T4 := Lib.hid (show e = R by have := T3.out; rwa [hl, if_neg (by decide)] at this)
            rw [hl] at LL
            clear hl T3
            generalize e[a]! = x1 at *
            generalize e[p2]! = x2 at *
            go_quiet ((go_at_call 89; exact Calls.quiet_of_same (LL.out _)))
            go_wp2_with fail
            go_end0
            exact ⟨rfl, by rw [← T4.out]; exact S2.out.later (drewN_below _ _)⟩
          · have T4 := Lib.hid (show Go.Sort.siftDown lt hi first s2 (Go.Sort.swp e a p2) = R by have := T3.out; rwa [hl, if_pos rfl] at this)
            rw [hl] at LL
            clear hl T3
            go_quiet ((go_at_call 89; exact Calls.quiet_of_same (LL.out _)))
            go_upto_region 6 with fail
            have S5 := Lib.hid (show St w (w5.drewN nq) g n e from S2.out.later (drewN_below _ _))
            generalize w5.drewN nq = w6 at *
            clear c1 c2 S2 LL
            have c1 := S5.out.cell han
            have c2 := S5.out.cell hp2n
            have z1 := S5.out.hs.free a
            have z2 := S5.out.hs.free p2
            have S6 := Lib.hid (S5.out.swp han hp2n)
            obtain ⟨v3, c3⟩ : ∃ v, (w6.setCell ⟨g, a, none⟩ (.int .u32 (e[p2]! : Int))).cell? ⟨g, p2, none⟩ = some v := ⟨_, (S5.out.set han _).cell hp2n⟩
            generalize hx1 : e[a]! = x1 at *
            generalize hx2 : e[p2]! = x2 at *
            go_region
            all_goals
              go_wp2_with fail
              exact ⟨⟨s2, _, rfl, by omega, S6.out.later (Below.refl _ _).drew, T4.out⟩, by simp [intOf]; omega⟩
      · have e2 : decide (s2 < hi) = false := decide_eq_false h2
        have KD2 : kid e hi first r = s := by rw [KD, if_neg (fun x => h2 x.1)]
        clear KD
        have c2 := c1
        go_upto_region 3 with fail
        go_quiet (fail)
        have hc : kid e hi first r = s := KD2
        have T3 := Lib.hid (show (if lt e[a]! e[pc]! = true then Go.Sort.siftDown lt hi first s (Go.Sort.swp e a pc) else e) = R by have := T2.out; rw [hc, ← HA.out, show first + s = pc from F1.out] at this; exact this)
        clear hc T2
        go_upto_region 5 with fail
        have S2 := Lib.hid (show St w (wr.drewN nq) g n e from S1.out.later (drewN_below _ _))
        generalize wr.drewN nq = w5 at *
        clear S1 c1 c2
        have c1 := S2.out.cell han
        have c2 := S2.out.cell hpn
        have LL := Lib.hid (fun W => less_any (e[a]!) (e[pc]!) W)
        cases hl : lt e[a]! e[pc]!
        · have T4 := Lib.hid (show e = R by have := T3.out; rwa [hl, if_neg (by decide)] at this)
          rw [hl] at LL
          clear hl T3
          generalize e[a]! = x1 at *
          generalize e[pc]! = x2 at *
          go_quiet ((go_at_call 89; exact Calls.quiet_of_same (LL.out _)))
          go_wp2_with fail
          go_end0
          exact ⟨rfl, by rw [← T4.out]; exact S2.out.later (drewN_below _ _)⟩
        · have T4 := Lib.hid (show Go.Sort.siftDown lt hi first s (Go.Sort.swp e a pc) = R by have := T3.out; rwa [hl, if_pos rfl] at this)
          rw [hl] at LL
          clear hl T3
          go_quiet ((go_at_call 89; exact Calls.quiet_of_same (LL.out _)))
          go_upto_region 6 with fail
          have S5 := Lib.hid (show St w (w5.drewN nq) g n e from S2.out.later (drewN_below _ _))
          generalize w5.drewN nq = w6 at *
          clear c1 c2 S2 LL
          have c1 := S5.out.cell han
          have c2 := S5.out.cell hpn
          have z1 := S5.out.hs.free a
          have z2 := S5.out.hs.free pc
          have S6 := Lib.hid (S5.out.swp han hpn)
          obtain ⟨v3, c3⟩ : ∃ v, (w6.setCell ⟨g, a, none⟩ (.int .u32 (e[pc]! : Int))).cell? ⟨g, pc, none⟩ = some v := ⟨_, (S5.out.set han _).cell hpn⟩
          generalize hx1 : e[a]! = x1 at *
          generalize hx2 : e[pc]! = x2 at *
          go_region
          all_goals
            go_wp2_with fail
            exact ⟨⟨s, _, rfl, by omega, S6.out.later (Below.refl _ _).drew, T4.out⟩, by simp [intOf]; omega⟩

end Go.Proofs.Ytfcibccipkokoaa.Qs

namespace Go.Proofs.Ytfcibccipkokoaa.Qs
open Go.RowKit
attribute [local go_sem ↓] Go.wp_at_zero Go.wp_at_succ

theorem sift_size (hi first r : Nat) (d : Array Nat) (n : Nat) : d.size = n → (Go.Sort.swp d hi first).size = n := by
  intro h
  unfold Go.Sort.swp
  rw [Array.size_setIfInBounds, Array.size_setIfInBounds, h]
/-- a sort behind another -/
theorem St.then {w W W' : World} {g n : Nat} {d d' : Array Nat} (S : St w W g n d) (T : St W W' g n d') : St w W' g n d' := ⟨T.hs, S.t.trans' T.t, T.sz⟩

set_option maxRecDepth 100000 in
set_option maxHeartbeats 2000000 in
theorem heap_any {w : World} {g n c a b : Nat} {d : Array Nat} (h : Hs w g d) (hn : d.size = n) (hab : a < b) (hb : b ≤ n) (hs : n ≤ 1000000) :
    Calls Try.prog 84 #[.slice (some ⟨g, 0, none⟩) n c, .int .i64 (a : Int), .int .i64 (b : Int)] w (Sp w g n (Go.Sort.heapSort lt d a b)) := by
  subst hn
  obtain ⟨R, hR⟩ : ∃ R, R = Go.Sort.heapSort lt d a b := ⟨_, rfl⟩
  obtain ⟨z, hz⟩ : ∃ z, z = b - a := ⟨_, rfl⟩
  have T0 := Lib.hid (show Go.Sort.heapPop lt a z (Go.Sort.heapBuild lt z a ((z - 1) / 2 + 1) d) = R by rw [hz]; exact hR.symm)
  have S0 := Lib.hid (St.start h)
  rw [← hR]
  clear hR h
  generalize d.size = n at *
  obtain ⟨q, hq⟩ : ∃ q, q = (z - 1) / 2 := ⟨_, rfl⟩
  rw [← hq] at T0
  have u1 : IntKind.i64.wrap ((b : Int) - (a : Int)) = (z : Int) := by rw [w64 (by omega)]; omega
  have u2 : IntKind.i64.wrap ((z : Int) - 1) = (z : Int) - 1 := w64 (by omega)
  have u3 : ((z : Int) - 1).tdiv 2 = (q : Int) := by rw [Int.tdiv_eq_ediv_of_nonneg (by omega)]; omega
  have u4 : IntKind.i64.wrap (q : Int) = (q : Int) := w64 (by omega)
  have z1 : 1 ≤ z := by omega
  have zb : a + z ≤ n := by omega
  have qn : q < n := by omega
  clear hz hq
  go_enter Try.func84, Try.ntmps84
  go_wp2_with fail
  go_loopw [9] (fun i wr => ∃ (k : Nat) (e : Array Nat), i = .int .i64 ((k : Int) - 1) ∧ k ≤ n ∧ St w wr g n e ∧ Go.Sort.heapPop lt a z (Go.Sort.heapBuild lt z a k e) = R) (fun i _ => (intOf i + 1).toNat)
  case atStart => exact ⟨q + 1, d, by go_num, by omega, S0.out, T0.out⟩
  case round =>
    obtain ⟨k, e, rfl, hk, hs', ht⟩ := hrel
    have S1 := Lib.hid hs'
    have T1 := Lib.hid ht
    clear hs' ht T0 S0
    cases k with
    | succ k =>
      have T2 := Lib.hid (show Go.Sort.heapPop lt a z (Go.Sort.heapBuild lt z a k (Go.Sort.siftDown lt z a k e)) = R from T1.out)
      have K := Lib.hid (sift_any (lo := k) (hi := z) (first := a) (c := c) S1.out.hs S1.out.sz zb (by omega) hs)
      have e0 : (((k + 1 : Nat) : Int) - 1) = (k : Int) := by omega
      rw [e0]
      clear e0 T1
      go_wp2_with fail
      refine K.out.mono ?_
      rintro e1 w2 ⟨rfl, s2⟩
      have S2 := Lib.hid (S1.out.then s2)
      clear s2 K S1
      have e3 : IntKind.i64.wrap ((k : Int) - 1) = (k : Int) - 1 := w64 (by omega)
      go_wp2_with fail
      go_roundw
      case rel => exact ⟨k, _, rfl, by omega, S2.out, T2.out⟩
      case measure => simp [intOf]
    | zero =>
      have T2 := Lib.hid (show Go.Sort.heapPop lt a z e = R from T1.out)
      have e0 : (((0 : Nat) : Int) - 1) = -1 := by omega
      rw [e0]
      clear e0 T1 u3 u4
      go_wp2_with fail
      go_loopw [10] (fun i wr => ∃ (k : Nat) (e : Array Nat), i = .int .i64 ((k : Int) - 1) ∧ k ≤ z ∧ St w wr g n e ∧ Go.Sort.heapPop lt a k e = R) (fun i _ => (intOf i + 1).toNat)
      case atStart => exact ⟨z, e, rfl, Nat.le_refl _, S1.out, T2.out⟩
      case round =>
        obtain ⟨k, f, rfl, hk2, hs2, ht2⟩ := hrel
        have S3 := Lib.hid hs2
        have T3 := Lib.hid ht2
        clear hs2 ht2 S1 T2 u2
        cases k with
        | succ k =>
          have e0 : (((k + 1 : Nat) : Int) - 1) = (k : Int) := by omega
          rw [e0]
          obtain ⟨p, hp⟩ : ∃ p, p = a + k := ⟨_, rfl⟩
          have u5 : IntKind.i64.wrap ((a : Int) + (k : Int)) = (p : Int) := by rw [w64 (by omega)]; omega
          have T4 := Lib.hid (show Go.Sort.heapPop lt a k (Go.Sort.siftDown lt k a 0 (Go.Sort.swp f a p)) = R by rw [hp]; exact T3.out)
          have pn : p < n := by omega
          have an : a < n := by omega
          have b1 : (0 : Int) ≤ (p : Int) := by omega
          have b2 : (p : Int) < (n : Int) := by omega
          have b3 : (0 : Int) ≤ (a : Int) := by omega
          have b4 : (a : Int) < (n : Int) := by omega
          clear e0 T3 hp
          go_upto_region 10 with fail
          have c1 := S3.out.cell an
          have c2 := S3.out.cell pn
          have z1 := S3.out.hs.free a
          have z2 := S3.out.hs.free p
          have S6 := Lib.hid (S3.out.swp an pn)
          obtain ⟨v3, c3⟩ : ∃ v, (wr.setCell ⟨g, a, none⟩ (.int .u32 (f[p]! : Int))).cell? ⟨g, p, none⟩ = some v := ⟨_, (S3.out.set an _).cell pn⟩
          generalize hx1 : f[a]! = x1 at *
          generalize hx2 : f[p]! = x2 at *
          clear S3
          go_region
          all_goals
            have S7 := Lib.hid (S6.out.later (Below.refl _ _).drew)
            have K := Lib.hid (sift_any (lo := 0) (hi := k) (first := a) (c := c) S7.out.hs S7.out.sz (by omega) (by omega) hs)
            go_wp2_with fail
            refine K.out.mono ?_
            rintro e1 w2 ⟨rfl, s2⟩
            have S8 := Lib.hid (S7.out.then s2)
            clear s2 K S6 S7
            have e3 : IntKind.i64.wrap ((k : Int) - 1) = (k : Int) - 1 := w64 (by omega)
            go_wp2_with fail
            go_roundw
            case rel => exact ⟨k, _, rfl, by omega, S8.out, T4.out⟩
            case measure => simp [intOf]
        | zero =>
          have e0 : (((0 : Nat) : Int) - 1) = -1 := by omega
          rw [e0]
          clear e0
          go_wp2_with fail
          go_end0
          exact ⟨rfl, by rw [← T3.out]; exact S3.out⟩

end Go.Proofs.Ytfcibccipkokoaa.Qs

namespace Go.Proofs.Ytfcibccipkokoaa.Qs
open Go.RowKit
attribute [local go_sem ↓] Go.wp_at_zero Go.wp_at_succ

theorem rev_go {i j : Nat} {d : Array Nat} (h : i < j) : Go.Sort.reverseLoop i j d = Go.Sort.reverseLoop (i + 1) (j - 1) (Go.Sort.swp d i j) := by
  rw [Go.Sort.reverseLoop, if_pos h]
theorem rev_stop {i j : Nat} {d : Array Nat} (h : ¬ i < j) : Go.Sort.reverseLoop i j d = d := by
  rw [Go.Sort.reverseLoop, if_neg h]

set_option maxRecDepth 100000 in
set_option maxHeartbeats 2000000 in
theorem reverse_any {w : World} {g n c a b : Nat} {d : Array Nat} (h : Hs w g d) (hn : d.size = n) (hab : a < b) (hb : b ≤ n) (hs : n ≤ 1000000) :
    Calls Try.prog 87 #[.slice (some ⟨g, 0, none⟩) n c, .int .i64 (a : Int), .int .i64 (b : Int)] w (Sp w g n (Go.Sort.reverseRange d a b)) := by
  subst hn
  obtain ⟨R, hR⟩ : ∃ R, R = Go.Sort.reverseRange d a b := ⟨_, rfl⟩
  have T0 := Lib.hid (show Go.Sort.reverseLoop a (b - 1) d = R from hR.symm)
  have S0 := Lib.hid (St.start h)
  rw [← hR]
  clear hR h
  generalize d.size = n at *
  have u1 : IntKind.i64.wrap ((b : Int) - 1) = ((b - 1 : Nat) : Int) := by rw [w64 (by omega)]; omega
  obtain ⟨z, hz⟩ : ∃ z, z = b - 1 := ⟨_, rfl⟩
  rw [← hz] at u1 T0
  have zn : z < n := by omega
  have az : a ≤ z := by omega
  clear hz
  go_enter Try.func87, Try.ntmps87
  go_wp2_with fail
  go_loopw [6, 7] (fun i j wr => ∃ (k m : Nat) (e : Array Nat), i = .int .i64 (k : Int) ∧ j = .int .i64 (m : Int) ∧ m < n ∧ k ≤ n ∧ St w wr g n e ∧ Go.Sort.reverseLoop k m e = R) (fun i j _ => (intOf j - intOf i).toNat)
  case atStart => exact ⟨a, z, d, rfl, rfl, zn, by omega, S0.out, T0.out⟩
  case round =>
    obtain ⟨k, m, e, rfl, rfl, hm, hk, hs', ht⟩ := hrel
    have S1 := Lib.hid hs'
    have T1 := Lib.hid ht
    clear hs' ht T0 S0 u1
    by_cases h1 : k < m
    · have T2 := Lib.hid ((rev_go h1).symm.trans T1.out)
      have e1 : decide (k < m) = true := decide_eq_true h1
      have kn : k < n := by omega
      have b1 : (0 : Int) ≤ (m : Int) := by omega
      have b2 : (m : Int) < (n : Int) := by omega
      have b3 : (0 : Int) ≤ (k : Int) := by omega
      have b4 : (k : Int) < (n : Int) := by omega
      clear T1
      go_upto_region 3 with fail
      have c1 := S1.out.cell kn
      have c2 := S1.out.cell hm
      have z1 := S1.out.hs.free k
      have z2 := S1.out.hs.free m
      have S6 := Lib.hid (S1.out.swp kn hm)
      obtain ⟨v3, c3⟩ : ∃ v, (wr.setCell ⟨g, k, none⟩ (.int .u32 (e[m]! : Int))).cell? ⟨g, m, none⟩ = some v := ⟨_, (S1.out.set kn _).cell hm⟩
      generalize hx1 : e[k]! = x1 at *
      generalize hx2 : e[m]! = x2 at *
      clear S1
      go_region
      all_goals
        have e2 : IntKind.i64.wrap ((k : Int) + 1) = ((k + 1 : Nat) : Int) := by rw [w64 (by omega)]; omega
        have e3 : IntKind.i64.wrap ((m : Int) - 1) = ((m - 1 : Nat) : Int) := by rw [w64 (by omega)]; omega
        have T3 := Lib.hid T2.out
        obtain ⟨m1, hm1⟩ : ∃ m1, m1 = m - 1 := ⟨_, rfl⟩
        rw [← hm1] at e3 T3
        have hm2 : m = m1 + 1 := by omega
        have M2 := Lib.hid hm2
        clear hm1 hm2
        go_wp2_with fail
        exact ⟨⟨k + 1, m1, _, by go_num, rfl, by have := M2.out; omega, by omega, S6.out.later (Below.refl _ _).drew, T3.out⟩, by have := M2.out; simp [intOf]; omega⟩
    · have T2 := Lib.hid ((rev_stop h1).symm.trans T1.out)
      have e1 : decide (k < m) = false := decide_eq_false h1
      go_wp2_with fail
      go_end0
      exact ⟨rfl, by rw [← T2.out]; exact S1.out⟩

end Go.Proofs.Ytfcibccipkokoaa.Qs
