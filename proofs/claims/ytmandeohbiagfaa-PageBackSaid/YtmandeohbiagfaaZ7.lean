/-
  Walks: the document's Load.
  Memory: a page that the document reads.
  Walks: the document's reading.
  Walks: what is torn, as the document has it.
  Plain: what is torn between texts of a page's length.
  Memory: a new slice of rows with a text of zeros behind them: whatever is made first.
  Bits that are turned in a text: plain, and the bytes that are written.
-/
import Derived.Deep.RegionHeld3
import Derived.Deep.DrawnRows
import Derived.Laws.IdiomStrings
import Derived.Test.YtmandeohbiagfaaZ6
namespace Go.Proofs.Ytmandeohbiagfaa.Slot
open Go.RowKit
attribute [local go_sem ↓] Go.wp_at_zero Go.wp_at_succ

def QLoad (s : ByteArray) (w : World) (e : Ending) (w' : World) : Prop :=
  Below w.heap.size w w' ∧ ((Loads s.data.toList ∧ ∃ q, e = .returned (.pointer (some ⟨q, 0, none⟩)) ∧ Rf w' q (areaOf s.data.toList) (fun b => w.heap.size ≤ b ∧ b < w'.heap.size)) ∨ (¬ Loads s.data.toList ∧ e = .returned (.pointer none)))
theorem QLoad.no {s : ByteArray} {w w' : World} (h : ¬ Loads s.data.toList) (hb : Below w.heap.size w w') : QLoad s w (.returned (.pointer none)) w' := ⟨hb, .inr ⟨h, rfl⟩⟩
theorem QLoad.yes {s : ByteArray} {w w' : World} {q h t cB m : Nat} {v : Value} {f : Nat → Bool} (hl : Loads s.data.toList) (L : LP w w' q h t cB m v (areaOf s.data.toList) f) : QLoad s w (.returned (.pointer (some ⟨q, 0, none⟩))) w' := ⟨L.below, .inl ⟨hl, q, rfl, L.fin⟩⟩

/-- a place of the call's own -/
structure PN (nb x y : Nat) (w : World) : Prop where
  row : w.heap[nb]? = some (.cells #[.int .i64 (x : Int), .int .i64 (y : Int)] 83 (0, 0))
theorem PN.gives {nb x y : Nat} {w : World} (h : PN nb x y w) : w.cell? ⟨nb, 0, none⟩ = some (.int .i64 (x : Int)) ∧ w.cell? ⟨nb, 1, none⟩ = some (.int .i64 (y : Int)) := by
  refine ⟨?_, ?_⟩
  · rw [cell_of_row w nb 0 _ _ _ h.row]; rfl
  · rw [cell_of_row w nb 1 _ _ _ h.row]; rfl
theorem PN.lt {nb x y : Nat} {w : World} (h : PN nb x y w) : nb < w.heap.size := (Array.getElem?_eq_some_iff.1 h.row).1
theorem PN.later {nb x y : Nat} {w w' : World} (h : PN nb x y w) (b : Below w.heap.size w w') : PN nb x y w' := ⟨(b.block nb h.lt).trans h.row⟩

set_option maxRecDepth 100000 in
set_option maxHeartbeats 8000000 in
theorem qload_any (s : ByteArray) (w : World) (hs : s.size ≤ 281474976710656) : Calls Try.prog 37 #[.string s] w (QLoad s w) := by
  have hsl : s.data.toList.length = s.size := rfl
  by_cases h1 : s.size < 16
  · have e1 : decide ((s.size : Int) < 16) = true := decide_eq_true (by omega)
    have e2 : decide (s.size < 16) = true := decide_eq_true h1
    have NO := Lib.hid (QLoad.no (w := w) (fun h : Loads s.data.toList => by have := h.lo; omega) (Below.refl w.heap.size w))
    clear h1 hs hsl
    go_enter Try.func37, Try.ntmps37
    go_wp2_with fail
    go_ret
    exact NO.out
  by_cases h2 : 4096 < s.size
  · have e1 : decide ((s.size : Int) < 16) = false := decide_eq_false (by omega)
    have e2 : decide (s.size < 16) = false := decide_eq_false h1
    have e3 : decide (4096 < (s.size : Int)) = true := decide_eq_true (by omega)
    have e4 : decide (4096 < s.size) = true := decide_eq_true h2
    have NO := Lib.hid (QLoad.no (w := w) (fun h : Loads s.data.toList => by have := h.hi; omega) (Below.refl w.heap.size w))
    clear h1 h2 hs hsl
    go_enter Try.func37, Try.ntmps37
    go_wp2_with fail
    go_ret
    exact NO.out
  have e1 : decide ((s.size : Int) < 16) = false := decide_eq_false (by omega)
  have e2 : decide (s.size < 16) = false := decide_eq_false h1
  have e3 : decide (4096 < (s.size : Int)) = false := decide_eq_false (by omega)
  have e4 : decide (4096 < s.size) = false := decide_eq_false h2
  obtain ⟨b, hb⟩ : ∃ b, b = s.data.toList := ⟨_, rfl⟩
  have rg0 : ∀ W : World, Calls Try.prog 36 #[.string s, .int .i64 0, .int .i64 2] W fun e w' => e = .returned (.tuple #[.int .u64 (numL b 0 : Int), .bool true]) ∧ W = w' := fun W => by rw [hb]; exact rget_L s 0 W hs (by omega)
  have rg2 : ∀ W : World, Calls Try.prog 36 #[.string s, .int .i64 2, .int .i64 2] W fun e w' => e = .returned (.tuple #[.int .u64 (numL b 2 : Int), .bool true]) ∧ W = w' := fun W => by rw [hb]; exact rget_L s 2 W hs (by omega)
  have rgx : ∀ (k : Nat) (W : World), k + 2 ≤ s.size → Calls Try.prog 36 #[.string s, .int .i64 (k : Int), .int .i64 2] W fun e w' => e = .returned (.tuple #[.int .u64 (numL b k : Int), .bool true]) ∧ W = w' := fun k W h => by rw [hb]; exact rget_L s k W hs h
  have n65 := num_lt b 0
  have l65 := num_lt b 2
  obtain ⟨n, hn⟩ : ∃ n, n = numL b 0 := ⟨_, rfl⟩
  obtain ⟨lo, hlo⟩ : ∃ lo, lo = numL b 2 := ⟨_, rfl⟩
  rw [← hn] at rg0 n65
  rw [← hlo] at rg2 l65
  have RG0 := Lib.hid rg0
  have RG2 := Lib.hid rg2
  have RGX := Lib.hid rgx
  obtain ⟨cap, W1, hcv, hrow, hcap, hb1, hs1⟩ := bytes_row s w
  obtain ⟨W2, hW2⟩ : ∃ W2, W2 = W1.alloc (.cells #[.slice (some ⟨w.heap.size, 0, none⟩) s.size cap, .int .i64 (lo : Int), .slice none 0 0] 70) := ⟨_, rfl⟩
  have hs2 : W2.heap.size = w.heap.size + 2 := by rw [hW2]; simp; omega
  have b2 : Below w.heap.size w W2 := by rw [hW2]; exact hb1.alloc hb1.size _
  have ST : LP w (W2.alloc (.cells (rowM s.size fun _ => false) 4)) (w.heap.size + 1) w.heap.size (w.heap.size + 2) cap s.size (.slice none 0 0) ⟨b, lo, []⟩ (fun _ => false) := by
    rw [hW2, hb]
    exact LP.start hrow hcap hb1 hs1 s.size
  have c1 : W2.cell? ⟨w.heap.size + 1, 1, none⟩ = some (.int .i64 (lo : Int)) := by
    rw [hW2, ← hs1]
    rw [cell_of_row _ _ 1 _ _ _ (heap_alloc_new _ _)]; rfl
  obtain ⟨W3, hW3⟩ : ∃ W3, W3 = W2.alloc (.cells (rowM s.size fun _ => false) 4) := ⟨_, rfl⟩
  rw [← hW3] at ST
  have hmk := marks_make W2 s.size (by omega)
  rw [← hW3] at hmk
  have HB := Lib.hid hb
  have HN := Lib.hid hn
  have HLO := Lib.hid hlo
  have HW2 := Lib.hid hW2
  have HS1 := Lib.hid hs1
  have HS2 := Lib.hid hs2
  have B2 := Lib.hid b2
  have STH := Lib.hid ST
  have HMK := Lib.hid hmk
  have n0 : (0 : Int) ≤ (n : Int) := Int.natCast_nonneg _
  have n1 : (n : Int) ≤ 65535 := by omega
  have l0 : (0 : Int) ≤ (lo : Int) := Int.natCast_nonneg _
  have l1 : (lo : Int) ≤ 65535 := by omega
  have s0 : (16 : Int) ≤ (s.size : Int) := by omega
  have s1 : (s.size : Int) ≤ 4096 := by omega
  have NO := Lib.hid (fun (w' : World) (h : ¬ Loads s.data.toList) (hb : Below w.heap.size w w') => QLoad.no h hb)
  have YS := Lib.hid (fun (w' : World) (q h t cB m : Nat) (v : Value) (f : Nat → Bool) (hl : Loads s.data.toList) (L : LP w w' q h t cB m v (areaOf s.data.toList) f) => QLoad.yes hl L)
  clear rg0 rg2 rgx hn hlo hrow hcap hb1 b2 ST hW2 hW3 hmk hb
  by_cases hf : lo < 4 + 4 * n
  · have f1 : decide ((lo : Int) < 4 + 4 * (n : Int)) = true := decide_eq_true (by omega)
    have f2 : decide (lo < 4 + 4 * n) = true := decide_eq_true hf
    have hno : ¬ Loads s.data.toList := fun h => by
      have := h.fin
      rw [← HB.out, ← HN.out, ← HLO.out] at this
      omega
    have HNO := Lib.hid hno
    clear hno hf hs1 hs2 h1 h2 hs hsl n65 l65
    go_enter Try.func37, Try.ntmps37
    go_wp2_with fail
    refine (RG0.out _).mono ?_
    rintro e w' ⟨rfl, rfl⟩
    go_wp2_with fail
    refine (RG2.out _).mono ?_
    rintro e w' ⟨rfl, rfl⟩
    go_wp2_with (first | rw [HS1.out] | rw [← HW2.out])
    go_ret
    exact NO.out _ HNO.out B2.out
  by_cases hg : s.size < lo
  · have f1 : decide ((lo : Int) < 4 + 4 * (n : Int)) = false := decide_eq_false (by omega)
    have f2 : decide (lo < 4 + 4 * n) = false := decide_eq_false hf
    have f3 : decide ((s.size : Int) < (lo : Int)) = true := decide_eq_true (by omega)
    have f4 : decide (s.size < lo) = true := decide_eq_true hg
    have hno : ¬ Loads s.data.toList := fun h => by
      have := h.low
      rw [← HB.out, ← HLO.out, HB.out] at this
      omega
    have HNO := Lib.hid hno
    clear hno hf hg hs1 hs2 h1 h2 hs hsl n65 l65
    go_enter Try.func37, Try.ntmps37
    go_wp2_with fail
    refine (RG0.out _).mono ?_
    rintro e w' ⟨rfl, rfl⟩
    go_wp2_with fail
    refine (RG2.out _).mono ?_
    rintro e w' ⟨rfl, rfl⟩
    go_wp2_with (first | rw [HS1.out] | rw [← HW2.out])
    go_ret
    exact NO.out _ HNO.out B2.out
  have f1 : decide ((lo : Int) < 4 + 4 * (n : Int)) = false := decide_eq_false (by omega)
  have f2 : decide (lo < 4 + 4 * n) = false := decide_eq_false hf
  have f3 : decide ((s.size : Int) < (lo : Int)) = false := decide_eq_false (by omega)
  have f4 : decide (s.size < lo) = false := decide_eq_false hg
  have HFG := Lib.hid (show 4 + 4 * n ≤ lo ∧ lo ≤ s.size by omega)
  have HZ := Lib.hid (show 16 ≤ s.size ∧ s.size ≤ 4096 by omega)
  have HSL := Lib.hid (show b.length = s.size by rw [HB.out]; exact hsl)
  have hmk := HMK.out
  rw [hs2] at hmk
  have n2 : n ≤ 1100 := by omega
  have n3 : (n : Int) ≤ 1100 := by omega
  obtain ⟨l, hl⟩ : ∃ l, l = dirOf b := ⟨_, rfl⟩
  have hll : l.length = n := by rw [hl, dirOf_len, ← HN.out]
  have HL := Lib.hid hl
  have HLL := Lib.hid hll
  clear hf hg hs1 hs2 h1 h2 hs hsl n65 l65 hl hll
  go_enter Try.func37, Try.ntmps37
  go_wp2_with fail
  refine (RG0.out _).mono ?_
  rintro e w' ⟨rfl, rfl⟩
  go_wp2_with fail
  refine (RG2.out _).mono ?_
  rintro e w' ⟨rfl, rfl⟩
  go_wp2_with (first | rw [HS1.out] | rw [← HW2.out])
  obtain ⟨q, hq⟩ : ∃ q, q = w.heap.size + 1 := ⟨_, rfl⟩
  obtain ⟨t, ht⟩ : ∃ t, t = w.heap.size + 2 := ⟨_, rfl⟩
  rw [← hq] at STH ⊢
  rw [← ht] at STH ⊢
  clear c1 hcv hq ht HMK hmk
  go_loopw [9] (fun i wr => ∃ (k : Nat) (v : Value), k ≤ n ∧ i = .int .i64 k ∧ LP w wr q w.heap.size t cap s.size v ⟨b, lo, l.take k⟩ (marksOf (l.take k)) ∧ Apart (l.take k) ∧ ∀ j, j < k → lo ≤ (spotB b j).1 ∧ (spotB b j).1 + (spotB b j).2 ≤ s.size) (fun i _ => n - (intOf i).toNat)
  case atStart => exact ⟨0, _, by omega, by go_num, STH.out, by rw [List.take_zero]; exact apart_nil, fun j hj => by omega⟩
  case round =>
    obtain ⟨k, v, hk, rfl, hL, hap, hea⟩ := hrel
    have LH := Lib.hid hL
    have HAP := Lib.hid hap
    have HEA := Lib.hid hea
    clear hL hap hea STH
    by_cases hlt : k < n
    · have rx := fun W => RGX.out (4 + 4 * k) W (by have := HFG.out; omega)
      have ry := fun W => RGX.out (6 + 4 * k) W (by have := HFG.out; omega)
      rw [show ((4 + 4 * k : Nat) : Int) = 4 + 4 * (k : Int) by omega] at rx
      rw [show ((6 + 4 * k : Nat) : Int) = 6 + 4 * (k : Int) by omega] at ry
      have x65 := num_lt b (4 + 4 * k)
      have y65 := num_lt b (6 + 4 * k)
      have hsp : l.getD k (0, 0) = (numL b (4 + 4 * k), numL b (6 + 4 * k)) := by rw [HL.out, dirOf_at (by rw [← HN.out]; exact hlt)]; rfl
      have hs2' : spotB b k = (numL b (4 + 4 * k), numL b (6 + 4 * k)) := rfl
      obtain ⟨x, ex⟩ : ∃ x, x = numL b (4 + 4 * k) := ⟨_, rfl⟩
      obtain ⟨y, ey⟩ : ∃ y, y = numL b (6 + 4 * k) := ⟨_, rfl⟩
      rw [← ex] at rx x65
      rw [← ey] at ry y65
      rw [← ex, ← ey] at hsp hs2'
      have RX := Lib.hid rx
      have RY := Lib.hid ry
      have HSP := Lib.hid hsp
      have HS2' := Lib.hid hs2'
      clear rx ry ex ey hsp hs2'
      have x0 : (0 : Int) ≤ (x : Int) := Int.natCast_nonneg _
      have y0 : (0 : Int) ≤ (y : Int) := Int.natCast_nonneg _
      have x1 : (x : Int) ≤ 65535 := by omega
      have y1 : (y : Int) ≤ 65535 := by omega
      have k0 : (0 : Int) ≤ (k : Int) := Int.natCast_nonneg _
      have k1 : (k : Int) < (n : Int) := by omega
      have ba : Below wr.heap.size wr (wr.alloc (.cells #[.int .i64 (x : Int), .int .i64 (y : Int)] 83)) := (Below.refl _ _).alloc (Nat.le_refl _) _
      obtain ⟨W5, hW5⟩ : ∃ W5, W5 = wr.alloc (.cells #[.int .i64 (x : Int), .int .i64 (y : Int)] 83) := ⟨_, rfl⟩
      have rn : PN wr.heap.size x y W5 := ⟨by rw [hW5]; exact heap_alloc_new _ _⟩
      rw [← hW5] at ba
      have L5 := LH.out.later ba
      have HNT := Lib.hid (show wr.heap.size ≠ t from fun e => by have := LH.out.ltt; omega)
      have g0 := rn.gives.1
      have g1 := rn.gives.2
      have c1 := L5.lay.cell1
      have HW5 := Lib.hid hW5
      have RN := Lib.hid rn
      have L5H := Lib.hid L5
      have hcase : ∃ z1 z2 : Bool, decide ((x : Int) < (lo : Int)) = z1 ∧ decide (x < lo) = z1 ∧ decide ((s.size : Int) < (x : Int) + (y : Int)) = z2 ∧ decide (s.size < x + y) = z2 := ⟨decide (x < lo), decide (s.size < x + y), by rw [decide_eq_decide]; omega, rfl, by rw [decide_eq_decide]; omega, rfl⟩
      obtain ⟨z1, z2, d1, d2, d3, d4⟩ := hcase
      have hz1 : z1 = true ↔ x < lo := by rw [← d2]; simp
      have hz2 : z2 = true ↔ s.size < x + y := by rw [← d4]; simp
      have HZ1 := Lib.hid hz1
      have HZ2 := Lib.hid hz2
      clear hz1 hz2 L5 rn ba hW5
      cases z1
      case true =>
        go_wp2_with fail
        refine (RX.out _).mono ?_
        rintro e w' ⟨rfl, rfl⟩
        go_wp2_with fail
        refine (RY.out _).mono ?_
        rintro e w' ⟨rfl, rfl⟩
        go_wp2_with (rw [← HW5.out])
        go_quiet (fail)
        go_wp2_with fail
        go_ret
        refine NO.out _ (fun h => ?_) (below_drewN L5H.out.below _)
        rw [← HB.out] at h
        have h1 := (h.each k (by rw [← HN.out]; exact hlt)).1
        rw [HS2'.out, ← HLO.out] at h1
        have := HZ1.out.1 trivial
        simp only at h1
        omega
      case false =>
        cases z2
        case true =>
          go_wp2_with fail
          refine (RX.out _).mono ?_
          rintro e w' ⟨rfl, rfl⟩
          go_wp2_with fail
          refine (RY.out _).mono ?_
          rintro e w' ⟨rfl, rfl⟩
          go_wp2_with (rw [← HW5.out])
          go_quiet (fail)
          go_wp2_with fail
          go_ret
          refine NO.out _ (fun h => ?_) (below_drewN L5H.out.below _)
          rw [← HB.out] at h
          have h1 := (h.each k (by rw [← HN.out]; exact hlt)).2
          rw [HS2'.out, HSL.out] at h1
          have := HZ2.out.1 trivial
          simp only at h1
          omega
        case false =>
          have hxl : lo ≤ x := by have := HZ1.out; simp at this; exact this
          have hxy : x + y ≤ s.size := by have := HZ2.out; simp at this; exact this
          have HXL := Lib.hid hxl
          have HXY := Lib.hid hxy
          clear HZ1 HZ2 hxl
          go_wp2_with fail
          refine (RX.out _).mono ?_
          rintro e w' ⟨rfl, rfl⟩
          go_wp2_with fail
          refine (RY.out _).mono ?_
          rintro e w' ⟨rfl, rfl⟩
          go_wp2_with (rw [← HW5.out])
          go_quiet (fail)
          go_wp2_with fail
          obtain ⟨f, hf'⟩ : ∃ f, f = marksOf (l.take k) := ⟨_, rfl⟩
          have HF := Lib.hid hf'
          have L6 := L5H.out
          rw [← hf'] at L6
          have L6H := Lib.hid L6
          clear hf' L6 L5H HW5 g0 g1 c1 d1 d2 d3 d4 LH
          generalize wr.heap.size = nb at *
          go_loopw [15] (fun i wr => ∃ j : Nat, x ≤ j ∧ j ≤ x + y ∧ i = .int .i64 j ∧ LP w wr q w.heap.size t cap s.size v ⟨b, lo, l.take k⟩ (fun i => f i || decide (x ≤ i ∧ i < j)) ∧ PN nb x y wr ∧ ∀ i, x ≤ i → i < j → f i = false) (fun i _ => (x + y) - (intOf i).toNat)
          case atStart => exact ⟨x, by omega, by omega, by go_num, (L6H.out.later (below_drewN (Below.refl _ _) _)).congr fun j _ => by rw [show decide (x ≤ j ∧ j < x) = false from decide_eq_false (by omega), Bool.or_false], RN.out.later (below_drewN (Below.refl _ _) _), fun i h1 h2 => by omega⟩
          case round =>
            obtain ⟨j, hj1, hj2, rfl, hm, hr, hfr⟩ := hrel
            have g0 := hr.gives.1
            have g1 := hr.gives.2
            have HM := Lib.hid hm
            have HR := Lib.hid hr
            have HFR := Lib.hid hfr
            clear hm hr hfr L6H RN
            have z0 : (0 : Int) ≤ (j : Int) := Int.natCast_nonneg _
            by_cases hjl : j < x + y
            · have e5 : decide ((j : Int) < (x : Int) + (y : Int)) = true := decide_eq_true (by omega)
              have e6 : decide (j < x + y) = true := decide_eq_true hjl
              have j4 : (j : Int) < (s.size : Int) := by omega
              have cf := HM.out.cell (j := j) (by omega)
              rw [show decide (x ≤ j ∧ j < j) = false from decide_eq_false (by omega), Bool.or_false] at cf
              have fz := HM.out.free j
              have S3 := Lib.hid (HM.out.mark j)
              obtain ⟨u, hu⟩ : ∃ u, u = f j := ⟨_, rfl⟩
              rw [← hu] at cf
              have HU := Lib.hid hu
              clear hu
              cases u
              case true =>
                go_wp2_with fail
                go_ret
                refine NO.out _ (fun h => ?_) HM.out.below
                rw [← HB.out] at h
                have h1 := h.apart
                obtain ⟨y', hy1, hy2⟩ := not_clear (l := l.take k) (x := (x, y)) (j := j) hj1 hjl (by rw [← HF.out]; exact HU.out.symm)
                rw [← HSP.out] at hy2
                rw [← HL.out] at h1
                exact absurd h1 (not_apart (by rw [HLL.out]; exact hlt) hy1 hy2)
              case false =>
                go_wp2_with fail
                go_roundw
                case rel =>
                  refine ⟨j + 1, by omega, by omega, by go_num, S3.out.congr fun i _ => ?_, ⟨?_⟩, fun i h1 h2 => ?_⟩
                  · by_cases e : i = j
                    · subst e
                      rw [if_pos rfl, show decide (x ≤ i ∧ i < i + 1) = true from decide_eq_true (by omega), Bool.or_true]
                    · rw [if_neg e]
                      congr 1
                      rw [decide_eq_decide]; omega
                  · rw [heap_setCell_other _ _ _ _ (by simpa using HNT.out)]
                    exact HR.out.row
                  · by_cases e : i = j
                    · subst e; exact HU.out.symm
                    · exact HFR.out i h1 (by omega)
                case measure => simp [intOf]; omega
            · obtain rfl : j = x + y := by omega
              have e5 : decide (((x + y : Nat) : Int) < (x : Int) + (y : Int)) = false := decide_eq_false (by omega)
              have hcl := clear_of_marks (l := l.take k) (x := (x, y)) (fun i h1 h2 => by rw [← HF.out]; exact HFR.out i h1 h2)
              rw [← HSP.out] at hcl
              have hk2 : k < l.length := by rw [HLL.out]; exact hlt
              have A4 := Lib.hid (apart_step hk2 HAP.out hcl)
              have HK2 := Lib.hid hk2
              have c2 := HM.out.lay.cell2
              have fz2 := HM.out.lay.free 2
              have hq5 := HM.out.ltq
              have htk : (l.take k).length = k := by rw [List.length_take]; omega
              have BA := Lib.hid (show Below wr.heap.size wr (wr.drew.alloc (.cells #[.int .i64 (x : Int), .int .i64 (y : Int)] 83)) from ((Below.refl _ _).drew).alloc (Nat.le_refl _) _)
              have DM := Lib.hid (show Dl (wr.drew.alloc (.cells #[.int .i64 (x : Int), .int .i64 (y : Int)] 83)) (.slice (some ⟨wr.heap.size, 0, none⟩) 1 1) [((x, y) : Nat × Nat)] from Dl.made (w := wr.drew) [(x, y)] (by simp))
              have LA := Lib.hid (HM.out.later BA.out)
              have DV : Dl wr v (l.take k) := HM.out.lay.dl
              obtain ⟨ad5, nn5, cap5, rfl⟩ := DV.shape3
              have HL1 := Lib.hid (show (l.take k).length + [((x, y) : Nat × Nat)].length ≤ 1000000 by rw [htk]; simp; omega)
              clear hcl hk2 DV htk
              go_wp2_with fail
              go_region_law (first | (refine step_appD (m := [((x, y) : Nat × Nat)]) w.heap.size rfl _ _ rfl LA.out.lay.dl DM.out.srcD HL1.out LA.out.own LA.out.below.size rfl rfl ?_; intro v4 w4 t4 g4 b4; have N4 := Lib.hid (LA.out.app g4 t4 b4); obtain ⟨ad4, nn4, cp4, rfl⟩ := t4.shape3; have f24 : w4.frozen? ⟨q, 2, none⟩ = false := (World.frozen?_of_block (g4.block q LA.out.ltq fun e => (LA.out.lay.ne1 e.symm).1 rfl)).trans (LA.out.lay.free 2); have c24 : w4.cell? ⟨q, 2, none⟩ = some (.slice ad5 nn5 cap5) := (World.cell?_of_block (g4.block q LA.out.ltq fun e => (LA.out.lay.ne1 e.symm).1 rfl)).trans LA.out.lay.cell2))
              all_goals
                have N5 := Lib.hid N4.out
                clear t4 g4 b4 N4 c24 f24
                go_wp2_with fail
                go_roundw
                case rel =>
                  refine ⟨k + 1, .slice ad4 nn4 cp4, by omega, by go_num, ?_, A4.out, fun i hi => ?_⟩
                  · have e7 : l.take (k + 1) = l.take k ++ [(x, y)] := by rw [take_one HK2.out, HSP.out]
                    rw [e7]
                    refine N5.out.congr fun i _ => ?_
                    rw [marks_snoc, ← HF.out]
                  · by_cases e : i = k
                    · subst e
                      rw [HS2'.out]
                      exact ⟨HXL.out, HXY.out⟩
                    · exact HEA.out i (by omega)
                case measure => simp [intOf]; omega
    · obtain rfl : k = n := by omega
      go_wp2_with fail
      go_ret
      have ht : l.take k = dirOf b := by rw [List.take_of_length_le (by rw [HLL.out]; exact Nat.le_refl _), HL.out]
      have ea : (⟨b, lo, l.take k⟩ : A) = areaOf s.data.toList := by rw [ht, HLO.out, ← HB.out]; rfl
      have hY : Loads b := ⟨by rw [HSL.out]; exact HZ.out.1, by rw [HSL.out]; exact HZ.out.2, by rw [← HN.out, ← HLO.out]; exact HFG.out.1, by rw [← HLO.out, HSL.out]; exact HFG.out.2, fun i hi => by rw [← HLO.out, HSL.out]; exact HEA.out i (by rw [HN.out]; exact hi), by rw [← ht]; exact HAP.out⟩
      rw [HB.out] at hY
      have hl2 := LH.out
      rw [ea] at hl2
      exact YS.out _ _ _ _ _ _ _ _ hY hl2

end Go.Proofs.Ytmandeohbiagfaa.Slot

namespace Go.Proofs.Ytmandeohbiagfaa.Page
open Go.RowKit Slot
attribute [local go_sem ↓] Go.wp_at_zero Go.wp_at_succ

/-- a page that is being read: its box (block gp), the area (q, blocks F), the rows so far, in a block made since w3 -/
structure Gat (W0 w3 wr : World) (gp q : Nat) (a : A) (F : Nat → Prop) (P : Pg) (v : Value) (L : List ByteArray) : Prop where
  box : wr.heap[gp]? = some (.cells (pgC P v) 26 (0, 0))
  tx : Tx w3 wr v L
  rf : Rf wr q a F
  below : Below W0.heap.size W0 wr
  size : w3.heap.size ≤ wr.heap.size
  hF : ∀ b, F b → b < w3.heap.size ∧ b ≠ gp
  g0 : W0.heap.size ≤ gp
  g3 : gp < w3.heap.size
section
variable {W0 w3 wr : World} {gp q : Nat} {a : A} {F : Nat → Prop} {P : Pg} {v : Value} {L : List ByteArray}
theorem Gat.later {w' : World} (h : Gat W0 w3 wr gp q a F P v L) (t : Below wr.heap.size wr w') : Gat W0 w3 w' gp q a F P v L :=
  ⟨(t.block gp (Array.getElem?_eq_some_iff.1 h.box).1).trans h.box, h.tx.later t, h.rf.later t, h.below.trans (t.mono (Nat.le_of_lt (Nat.lt_of_lt_of_le (Nat.lt_of_le_of_lt h.g0 h.g3) h.size))), Nat.le_trans h.size t.size, h.hF, h.g0, h.g3⟩
theorem Gat.cell (h : Gat W0 w3 wr gp q a F P v L) : wr.cell? ⟨gp, 5, none⟩ = some v := by rw [cell_of_row _ _ _ _ _ _ h.box]; rfl
theorem Gat.free (h : Gat W0 w3 wr gp q a F P v L) : wr.frozen? ⟨gp, 5, none⟩ = false := frozen_of_row _ _ _ _ _ h.box
/-- the rows have grown -/
theorem Gat.grown {w' : World} {v' : Value} {L' : List ByteArray} (h : Gat W0 w3 wr gp q a F P v L) (t : Tx w3 w' v' L') (g : wr.grownBy w' v.ownBlock) :
    w'.cell? ⟨gp, 5, none⟩ = some v ∧ w'.frozen? ⟨gp, 5, none⟩ = false ∧ Gat W0 w3 (w'.setCell ⟨gp, 5, none⟩ v') gp q a F P v' L' := by
  have hlt := (Array.getElem?_eq_some_iff.1 h.box).1
  have hv : ∀ x, v.ownBlock = some x → w3.heap.size ≤ x := fun x hx => (h.tx.own.lt x hx).1
  have hb : w'.heap[gp]? = some (.cells (pgC P v) 26 (0, 0)) := (g.block gp hlt fun e => by have := hv gp e.symm; have := h.g3; omega).trans h.box
  have hbl : Below W0.heap.size W0 w' := h.below.grown g (Nat.le_of_lt (Nat.lt_of_lt_of_le (Nat.lt_of_le_of_lt h.g0 h.g3) h.size)) fun x hx => Nat.le_trans h.g0 (Nat.le_trans (Nat.le_of_lt h.g3) (hv x hx))
  refine ⟨by rw [cell_of_row _ _ _ _ _ _ hb]; rfl, frozen_of_row _ _ _ _ _ hb, ⟨?_, ?_, ?_, hbl.setCell h.g0 _, ?_, h.hF, h.g0, h.g3⟩⟩
  · rw [heap_setCell_same _ _ _ _ _ _ hb]; rfl
  · exact t.far (by simp [World.setCell]) fun x hx => heap_setCell_other _ _ _ _ (by
      have := (t.own.lt x hx).1
      have := h.g3
      show x ≠ gp
      omega)
  · refine h.rf.far (Nat.le_trans g.size (by simp [World.setCell])) fun b hb2 => ?_
    have h1 := h.hF b hb2
    rw [heap_setCell_other _ _ _ _ (show b ≠ gp from h1.2)]
    exact g.block b (Nat.lt_of_lt_of_le h1.1 h.size) fun e => by have := hv b e.symm; omega
  · refine Nat.le_trans h.size (Nat.le_trans g.size (by simp [World.setCell]))
end

theorem Gat.one {W0 w3 wr : World} {gp q : Nat} {a : A} {F : Nat → Prop} {P : Pg} {v : Value} {L : List ByteArray} (h : Gat W0 w3 wr gp q a F P v L) (S : ByteArray) :
    Gat W0 w3 (wr.alloc (.cells #[.string S] 9)) gp q a F P v L ∧ SrcOf (wr.alloc (.cells #[.string S] 9)) (.slice (some ⟨wr.heap.size, 0, none⟩) 1 1) [S].length ([S].map Value.string) := by
  have TM := Tx.made w3 (w := wr) [S] h.size (by simp)
  exact ⟨h.later ((Below.refl _ _).alloc (Nat.le_refl _) _), TM.all⟩

set_option maxRecDepth 100000 in
theorem enters_text : Enters 38 := fun args w => by kernel_rfl
/-- a call of a Go function of two arguments, by its contract -/
theorem step_call2 {ops : Array Oper} {o : Oper} {b : Act} {K : Act → World → Prop} {Q : Exit → Act → World → Prop} {E : Prop} {w : World} {F : FuncId} {x y : Operand} {tys : Array TypeId} {u1 u2 r : Value} {R : World → Prop} (hgd : o.guard = none)
    (ho : o.op = .call { callee := .value (.func F), args := #[x, y], argTypes := tys }) (hF : Enters F) (hx : b.eval x = u1) (hy : b.eval y = u2) (h : Calls Try.prog F #[u1, u2] w fun e w' => e = .returned r ∧ R w')
    (hk : ∀ w', R w' → K (b.put o.dst r) w') : if Region.wanted o (yielded ops b.tmps) = true then Oper.wp Try.prog o b w K Q else E := by
  have hw : Region.wanted o (yielded ops b.tmps) = true := by simp [Region.wanted, hgd]
  rw [if_pos hw]
  unfold Oper.wp execOp
  have hr : (callFunc F #[u1, u2]).run Try.prog w = .ok (.enter F #[u1, u2]) w := hF #[u1, u2] w
  have he : b.eval (.func F) = .func (.func F) #[] #[] := rfl
  simp only [ho, resolve, he, Deferred.ofValue, invoke, Sem.run_bind, Sem.run_pure, Result.andThen_ok, List.map_toArray, List.map_cons, List.map_nil, hx, hy, Array.append_empty, Array.empty_append, hr]
  show Oper.upon Try.prog o b K Q (.ok (.enter F #[u1, u2]) w)
  rw [Oper.upon_enter]
  refine h.mono ?_
  rintro e w' ⟨rfl, hR⟩
  exact hk w' hR

theorem zero_cells (s : ByteArray) (h : s.size = 512) : ((s[0]'(by omega)).toNat : Int) = (nAt s 0 1 : Int) ∧ ((s[1]'(by omega)).toNat : Int) = (nAt s 1 1 : Int) := by
  have h0 : 0 < s.data.toList.length := by rw [size_len]; omega
  have h1 : 1 < s.data.toList.length := by rw [size_len]; omega
  refine ⟨?_, ?_⟩
  · unfold nAt
    rw [List.drop_eq_getElem_cons h0, List.take_succ_cons, List.take_zero]
    simp [num]
    rfl
  · unfold nAt
    rw [List.drop_eq_getElem_cons h1, List.take_succ_cons, List.take_zero]
    simp [num]
    rfl

set_option maxRecDepth 100000 in
set_option maxHeartbeats 1000000 in
theorem rdecode_size (s : ByteArray) (w : World) (_hs : s.size ≤ 281474976710656) (h : s.size ≠ 512) : Calls Try.prog 19 #[.string s] w (DecPost Pg.zero 60 w) := by
  have e1 : ((s.size : Int) != 512) = true := by simp; omega
  clear h
  go_enter Try.func19, Try.ntmps19
  go_wp2_with fail
  exact bodyPost_ret (v := .tuple #[pgV Pg.zero (.slice none 0 0), .int .i64 60]) (results_page Try.results19 _ _ w.heap.size _ 60 rfl rfl (heap_alloc_new w _) info_page) rfl (DecPost.none ((Below.refl _ _).alloc (Nat.le_refl _) _))

end Go.Proofs.Ytmandeohbiagfaa.Page

namespace Go.Proofs.Ytmandeohbiagfaa.Page
open Go.RowKit Slot
attribute [local go_sem ↓] Go.wp_at_zero Go.wp_at_succ

set_option maxRecDepth 100000 in
set_option maxHeartbeats 1000000 in
theorem rdecode_main (s : ByteArray) (w : World) (h : s.size = 512) {q : Pg} {c : Int} (hq : Dec s q c) : Calls Try.prog 19 #[.string s] w (DecPost q c w) := by
  have e1 : ((s.size : Int) != 512) = false := by rw [h]; rfl
  have h0 : 0 < s.size := by omega
  have h1 : 1 < s.size := by omega
  have h0i : (0 : Int) < (s.size : Int) := by omega
  have h1i : (1 : Int) < (s.size : Int) := by omega
  obtain ⟨z0, z1⟩ := zero_cells s h
  have e0 : (s[0].toNat : Int) = (nAt s 0 1 : Int) := z0
  have e01 : (s[1].toNat : Int) = (nAt s 1 1 : Int) := z1
  have Z0 := Lib.hid e0
  have Z1 := Lib.hid e01
  clear z0 z1 e0 e01
  have G2 : Hid (∀ W, Calls Try.prog 36 #[.string s, .int .i64 2, .int .i64 4] W fun e w' => e = .returned (.tuple #[.int .u64 (nAt s 2 4 : Int), .bool true]) ∧ W = w') := Lib.hid (fun W => rget_yes s 2 4 W (by omega) (by omega) (by omega) (by omega))
  have G3 : Hid (∀ W, Calls Try.prog 36 #[.string s, .int .i64 6, .int .i64 8] W fun e w' => e = .returned (.tuple #[.int .u64 (nAt s 6 8 : Int), .bool true]) ∧ W = w') := Lib.hid (fun W => rget_yes s 6 8 W (by omega) (by omega) (by omega) (by omega))
  have G4 : Hid (∀ W, Calls Try.prog 36 #[.string s, .int .i64 14, .int .i64 4] W fun e w' => e = .returned (.tuple #[.int .u64 (nAt s 14 4 : Int), .bool true]) ∧ W = w') := Lib.hid (fun W => rget_yes s 14 4 W (by omega) (by omega) (by omega) (by omega))
  have hA : (s.extract 20 508).data.toList = areaS s := by
    rw [Sum.part_list]
    exact congrArg (fun m => List.take m (List.drop 20 s.data.toList)) (by decide)
  have hAs : (s.extract 20 508).size ≤ 281474976710656 := by rw [ByteArray.size_extract, h]; decide
  obtain ⟨A, hAA⟩ : ∃ A, A = s.extract 20 508 := ⟨_, rfl⟩
  have c1 : ∀ W, (Instr.sliceAt 9 (.string s) (some (.int .i64 20)) (some (.int .i64 508)) none).run Try.prog W = .ok (.string A) W := fun W => by
    rw [hAA, run_sliceAt_string (P := Try.prog) W 9 _ _ _ _ Try.underlying9, run_slice_string_if (P := Try.prog) W 9 s .i64 .i64 _ _ Try.underlying9, if_pos (by omega), if_pos (by omega)]
    rfl
  rw [← hAA] at hA hAs
  have QL := Lib.hid (fun W => qload_any A W hAs)
  have HA := Lib.hid hA
  have pw := parse_wf s
  have m2 : (nAt s 2 4 : Int) % 4294967296 = (nAt s 2 4 : Int) := by have := pw.id; unfold parse at this; simp only at this; omega
  have m4 : (nAt s 14 4 : Int) % 4294967296 = (nAt s 14 4 : Int) := by have := pw.next; unfold parse at this; simp only at this; omega
  have SZ := Lib.hid h
  have DQ := Lib.hid hq
  clear h hq hA hAs hAA pw
  go_enter Try.func19, Try.ntmps19
  go_wp2_with fail
  go_region
  rw [Z0.out, Z1.out]
  clear Z0 Z1 h0 h1 h0i h1i e1
  go_wp2_with fail
  refine (G2.out _).mono ?_
  rintro e w' ⟨rfl, rfl⟩
  go_wp2_with fail
  refine (G3.out _).mono ?_
  rintro e w' ⟨rfl, rfl⟩
  go_wp2_with fail
  refine (G4.out _).mono ?_
  rintro e w' ⟨rfl, rfl⟩
  go_wp2_with fail
  have BA := (below2 w (.cells zeroP 26) (.cells (pgC (parse s) (.slice none 0 0)) 26)).drew
  have hb0 : (((w.alloc (.cells zeroP 26)).alloc (.cells (pgC (parse s) (.slice none 0 0)) 26)).drew).heap[w.heap.size]? = some (.cells zeroP 26 (0, 0)) := heap_alloc2_old _ _ _
  have hb1 : (((w.alloc (.cells zeroP 26)).alloc (.cells (pgC (parse s) (.slice none 0 0)) 26)).drew).heap[w.heap.size + 1]? = some (.cells (pgC (parse s) (.slice none 0 0)) 26 (0, 0)) := heap_alloc2_new _ _ _
  have hbz : (((w.alloc (.cells zeroP 26)).alloc (.cells (pgC (parse s) (.slice none 0 0)) 26)).drew).heap.size = w.heap.size + 2 := by
    show ((w.alloc (.cells zeroP 26)).alloc (.cells (pgC (parse s) (.slice none 0 0)) 26)).heap.size = _
    simp
  have hbw : Below (w.alloc (.cells zeroP 26)).heap.size (w.alloc (.cells zeroP 26)) (((w.alloc (.cells zeroP 26)).alloc (.cells (pgC (parse s) (.slice none 0 0)) 26)).drew) := ((Below.refl _ _).alloc (Nat.le_refl _) _).drew
  change Calls Try.prog _ _ (((w.alloc (.cells zeroP 26)).alloc (.cells (pgC (parse s) (.slice none 0 0)) 26)).drew) _
  generalize ((w.alloc (.cells zeroP 26)).alloc (.cells (pgC (parse s) (.slice none 0 0)) 26)).drew = W2 at *
  have WB := Lib.hid hbw
  have B2 := Lib.hid BA
  have HB := Lib.hid hb0
  have HP := Lib.hid hb1
  have HZ := Lib.hid hbz
  clear hb0 hb1 hbz BA hbw c1 m2 m4 G2 G3 G4
  refine (QL.out _).mono ?_
  rintro e w3 ⟨b3, ⟨hl, qa, rfl, hrf⟩ | ⟨hl, rfl⟩⟩
  · rw [HA.out] at hl hrf
    have B3 := Lib.hid b3
    have HL := Lib.hid hl
    have hW0 : (w.alloc (.cells zeroP 26)).heap.size = w.heap.size + 1 := by simp
    have hgat : Gat (w.alloc (.cells zeroP 26)) w3 w3 (w.heap.size + 1) qa (areaOf (areaS s)) (fun b => W2.heap.size ≤ b ∧ b < w3.heap.size) (parse s) (.slice none 0 0) [] :=
      ⟨(b3.block _ (Array.getElem?_eq_some_iff.1 HP.out).1).trans HP.out, Tx.nil w3 (Nat.le_refl _), hrf, WB.out.trans (b3.mono (by rw [hW0, HZ.out]; omega)), Nat.le_refl _, fun b hb => ⟨hb.2, by have := HZ.out; omega⟩, by rw [hW0]; omega, by have := b3.size; have := HZ.out; omega⟩
    have G0 := Lib.hid hgat
    have hk := areaOf_ok hl
    have hd : (areaOf (areaS s)).dir.length ≤ 2000 := by have := hk.fin; have := hk.low; have := hk.hi; unfold Slot.A.fin at *; omega
    obtain ⟨T, hT⟩ : ∃ T, T = (parse s).rows := ⟨_, rfl⟩
    have HT := Lib.hid hT
    have TL : T.length = (areaOf (areaS s)).dir.length := by rw [hT]; exact rowsT_len (areaS s)
    have TN := Lib.hid (fun k (hk : k < (areaOf (areaS s)).dir.length) => (show nth T k = strB ((areaOf (areaS s)).text k) by rw [hT]; exact rowsT_nth hk))
    have HK := Lib.hid hk
    obtain ⟨a, haa⟩ : ∃ a, a = areaOf (areaS s) := ⟨_, rfl⟩
    rw [← haa] at G0 TL TN HK hd
    obtain ⟨n, hn⟩ : ∃ n, n = a.dir.length := ⟨_, rfl⟩
    have N := Lib.hid hn
    have n2 : n ≤ 2000 := by omega
    have HTL := Lib.hid (show T.length = n by omega)
    have W0r := Lib.hid (show (w.alloc (.cells zeroP 26)).heap[w.heap.size]? = some (.cells zeroP 26 (0, 0)) from heap_alloc_new w _)
    have W0b := Lib.hid ((Below.refl w.heap.size w).alloc (Nat.le_refl _) (.cells zeroP 26))
    clear hgat hk hd hT TL haa hn hl hrf b3 hW0
    generalize w.alloc (.cells zeroP 26) = W0 at *
    generalize (fun b => W2.heap.size ≤ b ∧ b < w3.heap.size) = F at *
    obtain ⟨gp, hgp⟩ : ∃ gp, gp = w.heap.size + 1 := ⟨_, rfl⟩
    have GP := Lib.hid hgp
    rw [← hgp] at G0
    clear QL HP
    go_wp2_with fail
    rw [← hgp]
    clear hgp
    go_loopw [12] (fun x wr => ∃ (k : Nat) (v : Value), k ≤ n ∧ x = .int .i64 k ∧ Gat W0 w3 wr gp qa a F (parse s) v (T.take k)) (fun x _ => n - (intOf x).toNat)
    case atStart => exact ⟨0, .slice none 0 0, by omega, by go_num, G0.out⟩
    case round =>
      obtain ⟨k, v, hk, rfl, hg⟩ := hrel
      have G := Lib.hid hg
      clear G0 hg
      obtain ⟨ad, cap, c2⟩ := G.out.rf.len_cell
      rw [← N.out] at c2
      by_cases hlt : k < n
      · have hk2 : k < a.dir.length := by rw [← N.out]; exact hlt
        have he := HK.out.each k hk2
        have hhi := HK.out.hi
        have QT := Lib.hid (fun W (t : Below wr.heap.size wr W) => qtext_any (G.out.rf.later t) hk2 (by have := N.out; omega) he.2 (by omega))
        have LT : (T.take k).length = k := by rw [List.length_take, HTL.out]; omega
        have NT := Lib.hid (show T.take (k + 1) = T.take k ++ [strB (a.text k)] by rw [nth_take (by rw [HTL.out]; exact hlt), TN.out k hk2])
        obtain ⟨S, hS⟩ : ∃ S, S = strB (a.text k) := ⟨_, rfl⟩
        rw [← hS] at QT NT
        obtain ⟨L, hL⟩ : ∃ L, L = T.take k := ⟨_, rfl⟩
        rw [← hL] at G LT NT
        obtain ⟨ad5, cp5, rfl⟩ := G.out.tx.shape
        have LN := Lib.hid (show L.length + [S].length ≤ 1000000 by rw [LT]; simp; omega)
        rw [LT] at G
        have c5 := G.out.cell
        have QD : Hid (Calls Try.prog 38 #[.pointer (some ⟨qa, 0, none⟩), .int .i64 (k : Int)] wr.drew fun e w' => e = .returned (.string S) ∧ Below wr.heap.size wr w') := Lib.hid ((QT.out wr.drew ((Below.refl _ _).drew)).mono fun e w' h => ⟨h.1, ((Below.refl wr.heap.size wr).drew).trans h.2⟩)
        clear hk2 he hhi hS hL LT QT
        go_wp2_with fail
        go_region_law (first
          | (refine step_call2 (F := 38) (u1 := .pointer (some ⟨qa, 0, none⟩)) (u2 := .int .i64 (k : Int)) (r := .string S) (R := fun w' => Below wr.heap.size wr w') rfl rfl enters_text rfl rfl QD.out ?_; intro w4 b4; have G4 := G.out.later b4; have c54 := G4.cell; obtain ⟨G5, S5⟩ := G4.one S; have c55 := G5.cell; clear b4)
          | ((first | refine step_app (W0 := w3) (news := [S]) rfl _ _ rfl G5.tx S5 LN.out rfl rfl ?_ | refine wp_app (W0 := w3) (news := [S]) _ _ rfl G5.tx S5 LN.out rfl rfl ?_); intro v6 w6 t6 g6; obtain ⟨c56, f56, G6⟩ := G5.grown t6 g6; obtain ⟨ad6, cp6, rfl⟩ := t6.shape))
        all_goals
          have G7 : Hid (Gat W0 w3 (w6.setCell ⟨gp, 5, none⟩ (.slice ad6 (L.length + 1) cp6)) gp qa a F (parse s) (.slice ad6 (L.length + 1) cp6) (T.take (k + 1))) := Lib.hid (by
            rw [NT.out]
            rw [List.length_append] at G6
            exact G6)
          clear G G4 G5 G6 S5 QD NT
          go_wp2_with fail
          go_roundw
          case rel => exact ⟨k + 1, _, by omega, by go_num, G7.out⟩
          case measure => simp [intOf]; omega
      · obtain rfl : k = n := by omega
        have hT2 : T.take k = T := List.take_of_length_le (by rw [HTL.out]; exact Nat.le_refl _)
        rw [hT2, HT.out] at G
        obtain ⟨ad5, cv, rfl⟩ := G.out.tx.shape
        have hr := rows_tx G.out.tx
        have PU := Lib.hid (parse_used SZ.out HL.out)
        obtain ⟨P, hP⟩ : ∃ P, P = parse s := ⟨_, rfl⟩
        have EP := Lib.hid hP
        have PWF := Lib.hid (show P.wf by rw [hP]; exact parse_wf s)
        rw [← hP] at G hr PU
        obtain ⟨m, hm⟩ : ∃ m, m = P.rows.length := ⟨_, rfl⟩
        have f0 := G.out.box
        rw [← hm] at G hr f0
        have PF := Lib.hid (rencode_any P PWF.out hr PU.out)
        have hz := (G.out.below.block w.heap.size (Array.getElem?_eq_some_iff.1 W0r.out).1).trans W0r.out
        have hbb := W0b.out.trans (G.out.below.mono W0b.out.size)
        have fin : ∀ w4, Below wr.heap.size wr w4 → w4.heap[gp]? = some (.cells (pgC P (.slice ad5 m cv)) 26 (0, 0)) ∧ w4.heap[w.heap.size]? = some (.cells zeroP 26 (0, 0)) ∧ Rows w4 (.slice ad5 m cv) P.rows ∧ Below w.heap.size w w4 := fun w4 b4 =>
          ⟨(b4.block _ (Array.getElem?_eq_some_iff.1 f0).1).trans f0, (b4.block _ (Array.getElem?_eq_some_iff.1 hz).1).trans hz, hr.later b4, hbb.trans (b4.mono hbb.size)⟩
        have FIN := Lib.hid fin
        have d0 : wr.cell? ⟨gp, 0, none⟩ = some (.int .u8 (P.kind : Int)) := by rw [cell_of_row _ _ _ _ _ _ f0]; rfl
        have d1 : wr.cell? ⟨gp, 1, none⟩ = some (.int .u8 (P.level : Int)) := by rw [cell_of_row _ _ _ _ _ _ f0]; rfl
        have d2 : wr.cell? ⟨gp, 2, none⟩ = some (.int .u32 (P.id : Int)) := by rw [cell_of_row _ _ _ _ _ _ f0]; rfl
        have d3 : wr.cell? ⟨gp, 3, none⟩ = some (.int .u64 (P.lsn : Int)) := by rw [cell_of_row _ _ _ _ _ _ f0]; rfl
        have d4 : wr.cell? ⟨gp, 4, none⟩ = some (.int .u32 (P.next : Int)) := by rw [cell_of_row _ _ _ _ _ _ f0]; rfl
        have d5 : wr.cell? ⟨gp, 5, none⟩ = some (.slice ad5 m cv) := by rw [cell_of_row _ _ _ _ _ _ f0]; rfl
        clear G hr hz hbb fin f0 hP hm hT2
        go_wp2_with fail
        change Calls Try.prog _ #[pgV P (.slice ad5 m cv)] wr _
        clear d0 d1 d2 d3 d4 d5
        rcases DQ.out with ⟨hp, rfl, rfl⟩ | ⟨hno, rfl, rfl⟩
        · have E0 : encE P = 0 := by unfold encE; rw [EP.out, if_pos hp.may]
          have E1 : encS P = s := by rw [EP.out]; exact hp.bytes
          rw [E0, E1] at PF
          have eb := beq_yes s
          clear E0 E1 hp
          refine PF.out.mono ?_
          rintro e w4 ⟨rfl, b4⟩
          obtain ⟨f1, f2, f3, f4⟩ := FIN.out w4 b4
          have g0 : w4.cell? ⟨gp, 0, none⟩ = some (.int .u8 (P.kind : Int)) := by rw [cell_of_row _ _ _ _ _ _ f1]; rfl
          have g1 : w4.cell? ⟨gp, 1, none⟩ = some (.int .u8 (P.level : Int)) := by rw [cell_of_row _ _ _ _ _ _ f1]; rfl
          have g2 : w4.cell? ⟨gp, 2, none⟩ = some (.int .u32 (P.id : Int)) := by rw [cell_of_row _ _ _ _ _ _ f1]; rfl
          have g3 : w4.cell? ⟨gp, 3, none⟩ = some (.int .u64 (P.lsn : Int)) := by rw [cell_of_row _ _ _ _ _ _ f1]; rfl
          have g4 : w4.cell? ⟨gp, 4, none⟩ = some (.int .u32 (P.next : Int)) := by rw [cell_of_row _ _ _ _ _ _ f1]; rfl
          have g5 : w4.cell? ⟨gp, 5, none⟩ = some (.slice ad5 m cv) := by rw [cell_of_row _ _ _ _ _ _ f1]; rfl
          have F2 := Lib.hid f2
          have F3 := Lib.hid f3
          have F4 := Lib.hid f4
          clear b4 f1 f2 f3 f4 PF FIN
          go_wp2_with (refine wpList_store_row rfl 26 _ _ rfl w.heap.size (pgC P (.slice ad5 m cv)) rfl rfl 26 zeroP F2.out info_page rfl (pg_one _ _ _ _) ?_)
          refine bodyPost_ret (v := .tuple #[pgV P (.slice ad5 m cv), .int .i64 0]) (results_page Try.results19 _ _ w.heap.size (pgC P (.slice ad5 m cv)) 0 rfl rfl (setRow_heap _ _ _ _ _ _ F2.out) info_page) rfl ⟨below_setRow F4.out (Nat.le_refl _) _, .slice ad5 m cv, ?_, ?_⟩
          · rw [EP.out]
          · rw [← EP.out]
            exact rows_ne F3.out F2.out _
        · have hcase : (mayP P = true ∧ ¬ encS P = s) ∨ mayP P = false := by
            cases hm : mayP P with
            | false => exact .inr rfl
            | true =>
              refine .inl ⟨rfl, fun e => hno ⟨SZ.out, HL.out, ?_, ?_⟩⟩
              · rw [← EP.out]; exact hm
              · rw [← EP.out]; exact e
          clear hno DQ
          rcases hcase with ⟨hm, hne⟩ | hm
          · have E0 : encE P = 0 := by unfold encE; rw [if_pos hm]
            rw [E0] at PF
            have eb := beq_no hne
            clear E0 hm hne
            generalize encS P = X at *
            refine PF.out.mono ?_
            rintro e w4 ⟨rfl, b4⟩
            obtain ⟨f1, f2, f3, f4⟩ := FIN.out w4 b4
            have F2 := Lib.hid f2
            have F4 := Lib.hid f4
            clear b4 f1 f2 f3 f4 PF FIN
            go_wp2_with (refine wpList_store_row rfl 26 _ _ rfl w.heap.size zeroP rfl rfl 26 zeroP F2.out info_page rfl zero_one ?_)
            exact bodyPost_ret (v := .tuple #[pgV Pg.zero (.slice none 0 0), .int .i64 60]) (results_page Try.results19 _ _ w.heap.size zeroP 60 rfl rfl (setRow_heap _ _ _ _ _ _ F2.out) info_page) rfl (DecPost.none (below_setRow F4.out (Nat.le_refl _) _))
          · have E0 : encE P = 2 := by unfold encE; rw [if_neg (by rw [hm]; decide)]
            rw [E0] at PF
            clear E0 hm
            generalize encS P = X at *
            refine PF.out.mono ?_
            rintro e w4 ⟨rfl, b4⟩
            obtain ⟨f1, f2, f3, f4⟩ := FIN.out w4 b4
            have F2 := Lib.hid f2
            have F4 := Lib.hid f4
            clear b4 f1 f2 f3 f4 PF FIN
            go_wp2_with (refine wpList_store_row rfl 26 _ _ rfl w.heap.size zeroP rfl rfl 26 zeroP F2.out info_page rfl zero_one ?_)
            exact bodyPost_ret (v := .tuple #[pgV Pg.zero (.slice none 0 0), .int .i64 60]) (results_page Try.results19 _ _ w.heap.size zeroP 60 rfl rfl (setRow_heap _ _ _ _ _ _ F2.out) info_page) rfl (DecPost.none (below_setRow F4.out (Nat.le_refl _) _))
  · have HB3 := Lib.hid ((b3.block w.heap.size (Array.getElem?_eq_some_iff.1 HB.out).1).trans HB.out)
    have B3 := Lib.hid (B2.out.trans (b3.mono B2.out.size))
    rw [HA.out] at hl
    have hno := fun hp : IsPage s => hl hp.loads
    clear b3 hl
    rcases DQ.out with ⟨hp, _⟩ | ⟨_, rfl, rfl⟩
    · exact absurd hp hno
    · clear hno DQ
      go_wp2_with (refine wpList_store_row rfl 26 _ _ rfl w.heap.size zeroP rfl rfl 26 zeroP HB3.out info_page rfl zero_one ?_)
      exact bodyPost_ret (v := .tuple #[pgV Pg.zero (.slice none 0 0), .int .i64 60]) (results_page Try.results19 _ _ w.heap.size zeroP 60 rfl rfl (setRow_heap _ _ _ _ _ _ HB3.out) info_page) rfl (DecPost.none (below_setRow B3.out (Nat.le_refl _) _))

theorem rdecode_any (s : ByteArray) (w : World) (hs : s.size ≤ 281474976710656) {q : Pg} {c : Int} (hq : Dec s q c) : Calls Try.prog 19 #[.string s] w (DecPost q c w) := by
  by_cases h : s.size = 512
  · exact rdecode_main s w h hq
  · obtain ⟨rfl, rfl⟩ : q = Pg.zero ∧ c = 60 := by
      rcases hq with ⟨k, _⟩ | ⟨_, k⟩
      · exact absurd k.size h
      · exact k
    exact rdecode_size s w hs h

end Go.Proofs.Ytmandeohbiagfaa.Page

namespace Go.Proofs.Ytmandeohbiagfaa.Page
open Go.RowKit
attribute [local go_sem ↓] Go.wp_at_zero Go.wp_at_succ

set_option maxRecDepth 100000 in
theorem rtorn_no (o n : ByteArray) (v : Value) (w : World) (_ho : o.size ≤ 281474976710656) (_hn : n.size ≤ 281474976710656) (h : ¬ (o.size = 512 ∧ n.size = 512)) :
    Calls Try.prog 21 #[.string o, .string n, v] w fun e w' => e = .returned (.tuple #[.string ⟨#[]⟩, .int .i64 2]) ∧ w = w' := by
  by_cases h1 : o.size = 512
  · have e1 : ((o.size : Int) != 512) = false := by rw [h1]; rfl
    have e2 : ((n.size : Int) != 512) = true := by simp; omega
    clear h h1
    go_enter Try.func21, Try.ntmps21
    go_wp2_with fail
    go_ret2
    exact ⟨rfl, rfl⟩
  · have e1 : ((o.size : Int) != 512) = true := by simp; omega
    clear h h1
    go_enter Try.func21, Try.ntmps21
    go_wp2_with fail
    go_ret2
    exact ⟨rfl, rfl⟩

theorem row_byte {w : World} {g k : Nat} {b : List UInt8} (h : Slot.Row w g b) (hk : k < b.length) (x : UInt8) : Slot.Row (w.setCell ⟨g, k, none⟩ (.int .u8 (x.toNat : Int))) g (Slot.putL b k [x]) := h.put (t := [x]) (by simp; omega)
theorem one_at {n : ByteArray} {k : Nat} (h : k < n.size) : (n.data.toList.drop k).take (k + 1 - k) = [n[k]] := by
  rw [show k + 1 - k = 1 by omega, List.drop_eq_getElem_cons (show k < n.data.toList.length from h)]
  rfl

set_option maxRecDepth 100000 in
set_option maxHeartbeats 4000000 in
theorem rtorn_yes (o n : ByteArray) {v : Value} {l : List Bool} {w : World} (ho : o.size = 512) (hn : n.size = 512) (h : Tru w v l) (hl : l.length ≤ 1000000) :
    Calls Try.prog 21 #[.string o, .string n, v] w fun e w' => e = .returned (.tuple #[.string (Slot.strB (mix o.data.toList n.data.toList l 512)), .int .i64 0]) ∧ Below w.heap.size w w' := by
  obtain ⟨ad, c, rfl, _⟩ := id h
  have e1 : ((o.size : Int) != 512) = false := by rw [ho]; rfl
  have e2 : ((n.size : Int) != 512) = false := by rw [hn]; rfl
  obtain ⟨cap, W1, hcv, hr, hcap, hb, _⟩ := Slot.bytes_row o w
  have HR := Lib.hid (show Slot.Row W1 w.heap.size (mix o.data.toList n.data.toList l 0) by rw [mix_zero l ho]; exact hr)
  have HC := Lib.hid (show 512 ≤ cap by omega)
  have HB := Lib.hid hb
  have H := Lib.hid h
  have HO := Lib.hid ho
  have HN := Lib.hid hn
  obtain ⟨m, hm⟩ : ∃ m, m = l.length := ⟨_, rfl⟩
  have M := Lib.hid hm
  have hm2 : m ≤ 1000000 := by omega
  rw [← hm]
  clear h hl hm ho hn hr hcap hb
  go_enter Try.func21, Try.ntmps21
  go_wp2_with fail
  clear e1 e2 hcv
  obtain ⟨g, hg⟩ : ∃ g, g = w.heap.size := ⟨_, rfl⟩
  have G := Lib.hid hg
  rw [← hg] at HR HB ⊢
  clear hg
  go_loopw [9] (fun x wr => ∃ k : Nat, k ≤ 512 ∧ x = .int .i64 k ∧ Slot.Row wr g (mix o.data.toList n.data.toList l k) ∧ Below g w wr) (fun x _ => 512 - (intOf x).toNat)
  case atStart => exact ⟨0, by omega, by go_num, HR.out, HB.out⟩
  case round =>
    obtain ⟨k, hk, rfl, hrow, hb⟩ := hrel
    clear HR HB
    have R := Lib.hid hrow
    have B := Lib.hid hb
    clear hrow hb
    by_cases h4 : k < 512
    · have skip : l.getD (k / 128) false = false → Hid (Slot.Row wr g (mix o.data.toList n.data.toList l (k + 1))) := fun hf => by
        rw [mix_skip (a := k) (by omega) fun j h1 h2 => by rw [show j = k by omega]; exact hf]
        exact R
      obtain ⟨s, hs⟩ : ∃ s, s = k / 128 := ⟨_, rfl⟩
      have e3 : (k : Int) / 128 = (s : Int) := by omega
      rw [← hs] at skip
      have S := Lib.hid hs
      clear hs
      by_cases hlt : s < m
      · have ht := H.out.later (show Below w.heap.size w wr by rw [← G.out]; exact B.out)
        obtain ⟨b, of, rfl, hc⟩ := ht.at (k := s) (by rw [← M.out]; exact hlt)
        clear ht
        cases hf : l.getD s false with
        | false =>
          have R2 := skip hf
          rw [hf] at hc
          clear skip hf
          go_wp2_with fail
          go_roundw
          case rel => exact ⟨k + 1, by omega, by go_num, R2.out, B.out⟩
          case measure => simp [intOf]; omega
        | true =>
          rw [hf] at hc
          have hkn : k < n.size := by rw [HN.out]; exact h4
          have hko : k < o.size := by rw [HO.out]; exact h4
          have hrow2 := row_byte R.out (k := k) (by rw [mix_len]; exact h4) n[k]
          rw [← one_at hkn, ← mix_take (a := k) (b := k + 1) (by omega) (by omega) HN.out (fun j h1 h2 => by rw [show j = k by omega, ← S.out]; exact hf)] at hrow2
          have d0 := R.out.cell (j := k) (by rw [mix_len]; exact h4)
          have fz := R.out.free (j := k) (by rw [mix_len]; exact h4)
          have R2 := Lib.hid hrow2
          have B2 := Lib.hid (B.out.setCell (p := ⟨g, k, none⟩) (Nat.le_refl _) (.int .u8 (n[k].toNat : Int)))
          obtain ⟨y, hy⟩ : ∃ y, y = ((mix o.data.toList n.data.toList l k).getD k 0).toNat := ⟨_, rfl⟩
          rw [← hy] at d0
          clear skip hf hrow2 hy
          go_wp2_with fail
          go_roundw
          case rel => exact ⟨k + 1, by omega, by go_num, R2.out, B2.out⟩
          case measure => simp [intOf]; omega
      · have hf : l.getD s false = false := by
          rw [List.getD_eq_getElem?_getD, List.getElem?_eq_none (by rw [← M.out]; omega)]
          rfl
        have R2 := skip hf
        clear skip hf
        go_wp2_with fail
        go_roundw
        case rel => exact ⟨k + 1, by omega, by go_num, R2.out, B.out⟩
        case measure => simp [intOf]; omega
    · obtain rfl : k = 512 := by omega
      have cv := Slot.Row.str R.out (k := 0) (m := 512) (c := cap) (by omega) (by rw [mix_len]; omega) (by rw [mix_len]; exact HC.out)
      have eb : Slot.base g 0 cap = some ⟨g, 0, none⟩ := by unfold Slot.base; split <;> rfl
      rw [eb, List.drop_zero, List.take_of_length_le (by rw [mix_len]; omega)] at cv
      have cv2 : (convert 45 9 (.slice (some ⟨g, 0, none⟩) o.size cap)).run Try.prog wr = .ok (.string (Slot.strB (mix o.data.toList n.data.toList l 512))) wr := by
        rw [HO.out]; exact cv
      clear cv eb R
      simp only [show ((512 : Nat) : Int) = 512 from rfl]
      go_wp2_with fail
      go_ret2
      exact ⟨rfl, by rw [← G.out]; exact B.out⟩

theorem rtorn_any (o n : ByteArray) {v : Value} {l : List Bool} {w : World} (ho : o.size ≤ 281474976710656) (hn : n.size ≤ 281474976710656) (h : Tru w v l) (hl : l.length ≤ 1000000) :
    Calls Try.prog 21 #[.string o, .string n, v] w fun e w' => e = .returned (.tuple #[.string (tornS o n l), .int .i64 (tornE o n)]) ∧ Below w.heap.size w w' := by
  by_cases hh : o.size = 512 ∧ n.size = 512
  · have e1 : tornS o n l = Slot.strB (mix o.data.toList n.data.toList l 512) := by unfold tornS; rw [if_pos hh]
    have e2 : tornE o n = 0 := by unfold tornE; rw [if_pos hh]
    rw [e1, e2]
    exact rtorn_yes o n hh.1 hh.2 h hl
  · have e1 : tornS o n l = ⟨#[]⟩ := by unfold tornS; rw [if_neg hh]
    have e2 : tornE o n = 2 := by unfold tornE; rw [if_neg hh]
    rw [e1, e2]
    refine (rtorn_no o n v w ho hn hh).mono ?_
    rintro e w' ⟨rfl, rfl⟩
    exact ⟨rfl, Below.refl _ _⟩

end Go.Proofs.Ytmandeohbiagfaa.Page

namespace Go.Proofs.Ytmandeohbiagfaa.Page
open Go.RowKit

theorem getD_ext {o : List UInt8} (h : o.length = 512) {f : Nat → UInt8} (hf : ∀ j, j < 512 → f j = o.getD j 0) : ((List.range 512).map f) = o := by
  apply List.ext_getElem?
  intro j
  by_cases hj : j < 512
  · rw [List.getElem?_map, List.getElem?_range hj, Option.map_some, hf j hj, getD_get (by omega)]
  · rw [List.getElem?_eq_none (by simp; omega), List.getElem?_eq_none (by omega)]
theorem len_of {s : ByteArray} (h : s.size = 512) : s.data.toList.length = 512 := h
/-- what is read takes no more than -/
theorem dec_used {s : ByteArray} {q : Pg} {c : Int} (h : Dec s q c) : q.wf ∧ used q.rows ≤ 1000000 := by
  rcases h with ⟨h, rfl, _⟩ | ⟨_, rfl, _⟩
  · exact ⟨parse_wf s, by have := may_used h.may; omega⟩
  · exact ⟨⟨by decide, by decide, by decide, by decide, by decide⟩, by decide⟩
theorem dec_len {s : ByteArray} {q : Pg} {c : Int} (h : Dec s q c) : q.rows.length ≤ 1000000 := by
  have h1 := (dec_used h).2
  have h2 := used_len q.rows
  omega

/-- between a text and itself -/
theorem torn_self {s : ByteArray} (l : List Bool) (h : s.size = 512) : tornS s s l = s := by
  unfold tornS
  rw [if_pos ⟨h, h⟩]
  have e : mix s.data.toList s.data.toList l 512 = s.data.toList := getD_ext (len_of h) fun j hj => by split <;> rfl
  rw [e, strB_data]
/-- with none kept -/
theorem torn_none {s t : ByteArray} (h : s.size = 512) (k : t.size = 512) : tornS s t [] = s := by
  unfold tornS
  rw [if_pos ⟨h, k⟩]
  have e : mix s.data.toList t.data.toList [] 512 = s.data.toList := getD_ext (len_of h) fun j hj => by rw [if_neg (by simp)]
  rw [e, strB_data]
/-- with all kept -/
theorem torn_all {s t : ByteArray} (h : s.size = 512) (k : t.size = 512) : tornS s t [true, true, true, true] = t := by
  unfold tornS
  rw [if_pos ⟨h, k⟩]
  have e : mix s.data.toList t.data.toList [true, true, true, true] 512 = t.data.toList := getD_ext (len_of k) fun j hj => by
    have h4 : j / 128 < 4 := by omega
    have : ([true, true, true, true] : List Bool).getD (j / 128) false = true := by
      obtain e | e | e | e : j / 128 = 0 ∨ j / 128 = 1 ∨ j / 128 = 2 ∨ j / 128 = 3 := by omega
      all_goals rw [e]; rfl
    rw [if_pos ⟨hj, this⟩]
  rw [e, strB_data]
theorem torn_size {s t : ByteArray} (l : List Bool) : (tornS s t l).size ≤ 512 := by
  unfold tornS
  split
  · rw [← size_len]
    unfold Slot.strB
    simp [mix_len]
  · exact Nat.zero_le _
theorem tornE_ok {s t : ByteArray} (h : s.size = 512) (k : t.size = 512) : tornE s t = 0 := by
  unfold tornE
  rw [if_pos ⟨h, k⟩]
theorem tru_nil (w : World) : Tru w (.slice none 0 0) [] := ⟨none, 0, rfl, .inl rfl⟩
theorem tru_four (w : World) : Tru (w.alloc (.cells #[.bool true, .bool true, .bool true, .bool true] 4)) (.slice (some ⟨w.heap.size, 0, none⟩) 4 4) [true, true, true, true] := by
  refine ⟨_, 4, rfl, .inr ⟨_, 0, rfl, by simp, fun j hj => ?_⟩⟩
  rw [cell_of_row _ _ _ _ _ _ (heap_alloc_new w _)]
  have h4 : j < 4 := hj
  obtain rfl | rfl | rfl | rfl : j = 0 ∨ j = 1 ∨ j = 2 ∨ j = 3 := by omega
  all_goals rfl

end Go.Proofs.Ytmandeohbiagfaa.Page

namespace Go.Proofs.Ytmandeohbiagfaa.Page
open Go.RowKit Slot

/-- the three blocks: an empty row, zeros, a row of one text -/
def oA : Obj := .cells #[] 9
def oM (m : Nat) : Obj := .cells (madeCells (Value.int .u8 0).cells m) 5
def oS (Z : ByteArray) : Obj := .cells #[.string Z] 9

/-- what is made, and where -/
structure Ck (V W : World) (m : Nat) (Z : ByteArray) (a b s : Option Nat) : Prop where
  below : Below V.heap.size V W
  fa : ∀ x, a = some x → Tx V W (.slice (some ⟨x, 0, none⟩) 0 0) [] ∧ V.heap.size ≤ x
  fb : ∀ x, b = some x → W.heap[x]? = some (oM m) ∧ a ≠ some x
  fs : ∀ x, s = some x → W.heap[x]? = some (oS Z) ∧ a ≠ some x
section
variable {V W : World} {m : Nat} {Z : ByteArray} {a b s : Option Nat}
theorem Ck.start : Ck V V.drew m Z none none none :=
  ⟨(Below.refl _ _).drew, (fun x hx => by cases hx), (fun x hx => by cases hx), (fun x hx => by cases hx)⟩
theorem old_lt {x : Nat} {o : Obj} (h : W.heap[x]? = some o) : x < W.heap.size := (Array.getElem?_eq_some_iff.1 h).1
theorem keep_alloc {x : Nat} {o : Obj} (h : W.heap[x]? = some o) (o2 : Obj) : (W.alloc o2).heap[x]? = some o :=
  (((Below.refl W.heap.size W).alloc (Nat.le_refl _) o2).block x (old_lt h)).trans h
theorem Ck.allocA (h : Ck V W m Z none b s) {x : Nat} (hx : x = W.heap.size) : Ck V (W.alloc oA) m Z (some x) b s := by
  subst hx
  refine ⟨h.below.alloc h.below.size _, fun x e => ?_, fun x e => ⟨keep_alloc (h.fb x e).1 _, fun e2 => ?_⟩, fun x e => ⟨keep_alloc (h.fs x e).1 _, fun e2 => ?_⟩⟩
  · cases e
    exact ⟨Tx.made V [] h.below.size (by simp), h.below.size⟩
  · have := old_lt (h.fb x e).1
    cases e2
    omega
  · have := old_lt (h.fs x e).1
    cases e2
    omega
theorem Ck.aLt (h : Ck V W m Z a b s) {x : Nat} (e : a = some x) : x < W.heap.size := ((h.fa x e).1.own.lt x rfl).2
theorem Ck.more (h : Ck V W m Z a b s) (o : Obj) : Ck V (W.alloc o) m Z a b s :=
  ⟨h.below.alloc h.below.size _, fun x e => ⟨(h.fa x e).1.later ((Below.refl _ _).alloc (Nat.le_refl _) o), (h.fa x e).2⟩, fun x e => ⟨keep_alloc (h.fb x e).1 _, (h.fb x e).2⟩, fun x e => ⟨keep_alloc (h.fs x e).1 _, (h.fs x e).2⟩⟩
theorem Ck.allocM (h : Ck V W m Z a none s) {x : Nat} (hx : x = W.heap.size) : Ck V (W.alloc (oM m)) m Z a (some x) s := by
  subst hx
  have k := h.more (oM m)
  refine ⟨k.below, k.fa, fun x e => ?_, k.fs⟩
  cases e
  exact ⟨heap_alloc_new W _, fun e2 => by have := h.aLt (x := W.heap.size) e2; omega⟩
theorem Ck.allocS (h : Ck V W m Z a b none) {x : Nat} (hx : x = W.heap.size) : Ck V (W.alloc (oS Z)) m Z a b (some x) := by
  subst hx
  have k := h.more (oS Z)
  refine ⟨k.below, k.fa, k.fb, fun x e => ?_⟩
  cases e
  exact ⟨heap_alloc_new W _, fun e2 => by have := h.aLt (x := W.heap.size) e2; omega⟩
set_option maxRecDepth 100000 in
/-- zeros as a text, wherever they stand -/
theorem zeros_at {W : World} {x m : Nat} (h : W.heap[x]? = some (oM m)) : (convert 45 9 (.slice (some ⟨x, 0, none⟩) m m)).run Try.prog W = .ok (.string (zerosB m)) W := by
  have h := run_convert_bytes_back (P := Try.prog) W 45 9 5 ⟨x, 0, none⟩ m (List.replicate m 0) Try.underlying45 Try.underlying5 Try.underlying9 (by
    intro j hj
    rw [List.length_replicate] at hj
    have e : (⟨x, 0, none⟩ : Addr).add j = ⟨x, j, none⟩ := by simp [Addr.add]; omega
    rw [e, cell_of_row W x j _ _ _ h]
    unfold madeCells
    simp [Value.cells, hj, Nat.mod_one])
  rw [List.length_replicate] at h
  exact h
theorem Ck.conv (h : Ck V W m (zerosB m) a b s) {x : Nat} (e : b = some x) : (convert 45 9 (.slice (some ⟨x, 0, none⟩) m m)).run Try.prog W = .ok (.string (zerosB m)) W := zeros_at (h.fb x e).1

/-- behind the first append -/
structure Af (V W : World) (m : Nat) (Z : ByteArray) (v : Value) (L : List ByteArray) (b s : Option Nat) : Prop where
  below : Below V.heap.size V W
  tx : Tx V W v L
  fb : ∀ x, b = some x → W.heap[x]? = some (oM m)
  fs : ∀ x, s = some x → W.heap[x]? = some (oS Z)
theorem Ck.after {W' : World} {x : Nat} {v : Value} {L : List ByteArray} (h : Ck V W m Z (some x) b s) (t : Tx V W' v ([] ++ L)) (hg : W.grownBy W' (some x)) : Af V W' m Z v L b s :=
  ⟨h.below.grown hg h.below.size (fun y e => by cases e; exact (h.fa x rfl).2), t,
    fun y e => (hg.block y (old_lt (h.fb y e).1) fun e2 => (h.fb y e).2 e2.symm).trans (h.fb y e).1, fun y e => (hg.block y (old_lt (h.fs y e).1) fun e2 => (h.fs y e).2 e2.symm).trans (h.fs y e).1⟩
theorem Af.conv {v : Value} {L : List ByteArray} (h : Af V W m (zerosB m) v L b s) {x : Nat} (e : b = some x) : (convert 45 9 (.slice (some ⟨x, 0, none⟩) m m)).run Try.prog W = .ok (.string (zerosB m)) W := zeros_at (h.fb x e)
theorem Af.more {v : Value} {L : List ByteArray} (h : Af V W m Z v L b s) (o : Obj) : Af V (W.alloc o) m Z v L b s :=
  ⟨h.below.alloc h.below.size _, h.tx.later ((Below.refl _ _).alloc (Nat.le_refl _) o), fun x e => keep_alloc (h.fb x e) _, fun x e => keep_alloc (h.fs x e) _⟩
theorem Af.allocM {v : Value} {L : List ByteArray} (h : Af V W m Z v L none s) : Af V (W.alloc (oM m)) m Z v L (some W.heap.size) s := by
  have k := h.more (oM m)
  exact ⟨k.below, k.tx, (fun x e => by cases e; exact heap_alloc_new W _), k.fs⟩
theorem Af.allocS {v : Value} {L : List ByteArray} (h : Af V W m Z v L b none) : Af V (W.alloc (oS Z)) m Z v L b (some W.heap.size) := by
  have k := h.more (oS Z)
  exact ⟨k.below, k.tx, k.fb, (fun x e => by cases e; exact heap_alloc_new W _)⟩
theorem Af.src {v : Value} {L : List ByteArray} (h : Af V W m Z v L b s) {x : Nat} (e : s = some x) : SrcOf W (.slice (some ⟨x, 0, none⟩) 1 1) [Z].length ([Z].map Value.string) := by
  have hx := h.fs x e
  refine .inr ⟨⟨x, 0, none⟩, 1, rfl, rfl, fun j u hj => ?_, str_one [Z], old_lt hx⟩
  rw [Addr.add_mid, cell_of_row W x _ _ _ _ hx, Nat.zero_add, ← Array.getElem?_toList]
  exact hj
/-- behind the second append -/
theorem Af.done {W' : World} {v : Value} {L : List ByteArray} (h : Af V W m Z v L b s) (hg : W.grownBy W' v.ownBlock) : Below V.heap.size V W' :=
  h.below.grown hg h.below.size fun x e => (h.tx.own.lt x e).1
end
theorem Tx.long {W0 W : World} {v : Value} {l : List ByteArray} (h : Tx W0 W v l) {k : Nat} (hk : l.length = k) : ∃ ad c, v = .slice ad k c := by
  obtain ⟨ad, c, e⟩ := h.shape
  exact ⟨ad, c, by rw [e, hk]⟩
section
variable {w V W : World} {g h : Nat} {P : Pg} {u v v' : Value} {L : List ByteArray}
theorem Bx.free (t : Bx w W h P v) : W.frozen? ⟨h, 5, none⟩ = false := frozen_of_row _ _ _ _ _ t.box
/-- other rows are put into a page's box -/
theorem Bx.put (t : Bx w W h P v) (r : Tx V W v' L) (hV : h < V.heap.size) (hw : w.heap.size ≤ h) : Bx w (W.setCell ⟨h, 5, none⟩ v') h ⟨P.kind, P.level, P.id, P.lsn, P.next, L⟩ v' := by
  refine ⟨?_, rows_tx (r.far (by simp [World.setCell]) fun x hx => ?_), t.below.setCell hw _⟩
  · rw [heap_setCell_same _ _ _ _ _ _ t.box]; rfl
  · have := (r.own.lt x hx).1
    exact heap_setCell_other _ _ _ _ (show x ≠ h by omega)
theorem Bx.beside (t : Bx w W g P u) (r : Rows w u P.rows) (hgh : g ≠ h) (hw : w.heap.size ≤ h) (x : Value) : Bx w (W.setCell ⟨h, 5, none⟩ x) g P u := by
  have b := t.below.setCell (p := ⟨h, 5, none⟩) hw x
  refine ⟨?_, r.later b, b⟩
  rw [heap_setCell_other _ _ _ _ (show g ≠ h from hgh)]
  exact t.box
end


/-! ### the steps, each as it comes up -/
attribute [local go_sem ↓] Go.wp_at_zero Go.wp_at_succ
section
variable {ops : Array Oper} {o : Oper} {act : Act} {Q : Exit → Act → World → Prop} {K : Act → World → Prop} {E : Prop} {V W : World} {m : Nat} {Z : ByteArray} {a b s : Option Nat} {v : Value} {L : List ByteArray}
theorem step_if (hgd : o.guard = none) (h : Oper.wp Try.prog o act W K Q) : if Region.wanted o (yielded ops act.tmps) = true then Oper.wp Try.prog o act W K Q else E := by
  have hw : Region.wanted o (yielded ops act.tmps) = true := by simp [Region.wanted, hgd]
  rw [if_pos hw]
  exact h
set_option maxRecDepth 100000 in
theorem build_none (W : World) : (Instr.buildSlice 24 0 #[]).run Try.prog W = .ok (.slice (some ⟨W.heap.size, 0, none⟩) 0 0) (W.alloc oA) := by
  kernel_rfl
set_option maxRecDepth 100000 in
theorem build_text (W : World) (Z : ByteArray) : (Instr.buildSlice 24 1 #[(0, .string Z)]).run Try.prog W = .ok (.slice (some ⟨W.heap.size, 0, none⟩) 1 1) (W.alloc (oS Z)) := by
  kernel_rfl
theorem wp_none (ho : o.op = .buildSlice 24 0 #[]) (h : K (act.put o.dst (.slice (some ⟨W.heap.size, 0, none⟩) 0 0)) (W.alloc oA)) : Oper.wp Try.prog o act W K Q := by
  unfold Oper.wp execOp
  simp only [ho, Sem.run_bind]
  have e : (#[] : Array (Nat × Operand)).map (fun (i, x) => (i, act.eval x)) = #[] := by simp
  simp only [e, build_none, Result.andThen_ok]
  exact h
theorem wp_text (x : Operand) (ho : o.op = .buildSlice 24 1 #[(0, x)]) (hx : act.eval x = .string Z) (h : K (act.put o.dst (.slice (some ⟨W.heap.size, 0, none⟩) 1 1)) (W.alloc (oS Z))) : Oper.wp Try.prog o act W K Q := by
  unfold Oper.wp execOp
  simp only [ho, Sem.run_bind]
  have e : (#[(0, x)] : Array (Nat × Operand)).map (fun (i, x) => (i, act.eval x)) = #[(0, .string Z)] := by simp [hx]
  simp only [e, build_text, Result.andThen_ok]
  exact h
theorem wp_zeros (x y : Operand) (ho : o.op = .makeSlice 45 x y) (hm : m ≤ 1000000) (hx : act.eval x = .int .i64 (m : Int)) (hy : act.eval y = .int .i64 (m : Int)) (h : K (act.put o.dst (.slice (some ⟨W.heap.size, 0, none⟩) m m)) (W.alloc (oM m))) : Oper.wp Try.prog o act W K Q := by
  unfold Oper.wp execOp
  simp only [ho, Sem.run_bind, hx, hy, zeros_make W m hm, Result.andThen_ok]
  exact h
theorem wp_conv (x : Operand) (ho : o.op = .convert 45 9 x) {y : Nat} (hx : act.eval x = .slice (some ⟨y, 0, none⟩) m m) (hw : W.heap[y]? = some (oM m)) (h : K (act.put o.dst (.string (zerosB m))) W) : Oper.wp Try.prog o act W K Q := by
  unfold Oper.wp execOp
  simp only [ho, Sem.run_bind, hx, zeros_at hw, Result.andThen_ok]
  exact h

theorem step_cA (t : Option Tmp) (hdst : o.dst = t) (hgd : o.guard = none) (ho : o.op = .buildSlice 24 0 #[]) (c : Ck V W m Z none b s) (h : ∀ x W', Ck V W' m Z (some x) b s → K (act.put t (.slice (some ⟨x, 0, none⟩) 0 0)) W') : if Region.wanted o (yielded ops act.tmps) = true then Oper.wp Try.prog o act W K Q else E := by
  subst hdst
  exact step_if hgd (wp_none ho (h _ _ (c.allocA rfl)))
theorem step_cM (t : Option Tmp) (hdst : o.dst = t) (hgd : o.guard = none) (x y : Operand) (ho : o.op = .makeSlice 45 x y) (hm : m ≤ 1000000) (hx : act.eval x = .int .i64 (m : Int)) (hy : act.eval y = .int .i64 (m : Int)) (c : Ck V W m Z a none s) (h : ∀ x W', Ck V W' m Z a (some x) s → K (act.put t (.slice (some ⟨x, 0, none⟩) m m)) W') : if Region.wanted o (yielded ops act.tmps) = true then Oper.wp Try.prog o act W K Q else E := by
  subst hdst
  exact step_if hgd (wp_zeros x y ho hm hx hy (h _ _ (c.allocM rfl)))
theorem step_aM (t : Option Tmp) (hdst : o.dst = t) (hgd : o.guard = none) (x y : Operand) (ho : o.op = .makeSlice 45 x y) (hm : m ≤ 1000000) (hx : act.eval x = .int .i64 (m : Int)) (hy : act.eval y = .int .i64 (m : Int)) (c : Af V W m Z v L none s) (h : ∀ x W', Af V W' m Z v L (some x) s → K (act.put t (.slice (some ⟨x, 0, none⟩) m m)) W') : if Region.wanted o (yielded ops act.tmps) = true then Oper.wp Try.prog o act W K Q else E := by
  subst hdst
  exact step_if hgd (wp_zeros x y ho hm hx hy (h _ _ c.allocM))
theorem step_cV (t : Option Tmp) (hdst : o.dst = t) (hgd : o.guard = none) (x : Operand) (ho : o.op = .convert 45 9 x) {y : Nat} (hx : act.eval x = .slice (some ⟨y, 0, none⟩) m m) (c : Ck V W m Z a (some y) s) (h : Ck V W m Z a (some y) s → K (act.put t (.string (zerosB m))) W) : if Region.wanted o (yielded ops act.tmps) = true then Oper.wp Try.prog o act W K Q else E := by
  subst hdst
  exact step_if hgd (wp_conv x ho hx (c.fb _ rfl).1 (h c))
theorem step_aV (t : Option Tmp) (hdst : o.dst = t) (hgd : o.guard = none) (x : Operand) (ho : o.op = .convert 45 9 x) {y : Nat} (hx : act.eval x = .slice (some ⟨y, 0, none⟩) m m) (c : Af V W m Z v L (some y) s) (h : Af V W m Z v L (some y) s → K (act.put t (.string (zerosB m))) W) : if Region.wanted o (yielded ops act.tmps) = true then Oper.wp Try.prog o act W K Q else E := by
  subst hdst
  exact step_if hgd (wp_conv x ho hx (c.fb _ rfl) (h c))
theorem step_cS (t : Option Tmp) (hdst : o.dst = t) (hgd : o.guard = none) (x : Operand) (ho : o.op = .buildSlice 24 1 #[(0, x)]) (hx : act.eval x = .string Z) (c : Ck V W m Z a b none) (h : ∀ x W', Ck V W' m Z a b (some x) → K (act.put t (.slice (some ⟨x, 0, none⟩) 1 1)) W') : if Region.wanted o (yielded ops act.tmps) = true then Oper.wp Try.prog o act W K Q else E := by
  subst hdst
  exact step_if hgd (wp_text x ho hx (h _ _ (c.allocS rfl)))
theorem step_aS (t : Option Tmp) (hdst : o.dst = t) (hgd : o.guard = none) (x : Operand) (ho : o.op = .buildSlice 24 1 #[(0, x)]) (hx : act.eval x = .string Z) (c : Af V W m Z v L b none) (h : ∀ x W', Af V W' m Z v L b (some x) → K (act.put t (.slice (some ⟨x, 0, none⟩) 1 1)) W') : if Region.wanted o (yielded ops act.tmps) = true then Oper.wp Try.prog o act W K Q else E := by
  subst hdst
  exact step_if hgd (wp_text x ho hx (h _ _ c.allocS))
theorem step_cP (t : Option Tmp) (hdst : o.dst = t) (hgd : o.guard = none) (x d : Operand) (ho : o.op = .call { callee := .builtin .append, args := #[x, d], argTypes := #[24, 24] }) {y : Nat} {u : Value} (hx : act.eval x = .slice (some ⟨y, 0, none⟩) 0 0) (hd : act.eval d = u) (c : Ck V W m Z (some y) b s) (hr : ∀ W', Below V.heap.size V W' → Rows W' u L) (hnil : NilOk u) (hn : ([] : List ByteArray).length + L.length ≤ 1000000)
    (h : ∀ v W', Af V W' m Z v L b s → K (act.put t v) W') : if Region.wanted o (yielded ops act.tmps) = true then Oper.wp Try.prog o act W K Q else E := by
  subst hdst
  exact step_app_in (W0 := V) (l := []) (news := L) hgd x d ho (c.fa _ rfl).1 (hr _ c.below) hnil hn hx hd fun v' w' t g => h v' w' (c.after t g)
theorem step_aP (t : Option Tmp) (hdst : o.dst = t) (hgd : o.guard = none) (x d : Operand) (ho : o.op = .call { callee := .builtin .append, args := #[x, d], argTypes := #[24, 24] }) {y : Nat} (hx : act.eval x = v) (hd : act.eval d = .slice (some ⟨y, 0, none⟩) 1 1) (c : Af V W m Z v L b (some y)) (hn : L.length + [Z].length ≤ 1000000)
    (h : ∀ v' W', Tx V W' v' (L ++ [Z]) → Below V.heap.size V W' → K (act.put t v') W') : if Region.wanted o (yielded ops act.tmps) = true then Oper.wp Try.prog o act W K Q else E := by
  subst hdst
  exact step_app (W0 := V) (news := [Z]) hgd x d ho c.tx (c.src rfl) hn hx hd fun v' w' t g => h v' w' t (c.done g)
end

end Go.Proofs.Ytmandeohbiagfaa.Page

namespace Go.Proofs.Ytmandeohbiagfaa.Page
open Go.RowKit
open Go.Proofs.Ytmandeohbiagfaa.Sum (val val_cons isSealed turned_not len_of_val)

theorem two_xor (m a b : Nat) : 2 ^ m * (a ^^^ b) = 2 ^ m * a ^^^ 2 ^ m * b := by
  apply Nat.eq_of_testBit_eq
  intro i
  simp only [Nat.testBit_xor, Nat.testBit_two_pow_mul]
  by_cases h8 : m ≤ i <;> simp [h8]
theorem val_set (l : List UInt8) (j : Nat) (hj : j < l.length) (x : UInt8) : val (l.set j (l[j] ^^^ x)) = val l ^^^ 2 ^ (8 * j) * x.toNat := by
  induction l generalizing j with
  | nil => simp at hj
  | cons b l ih =>
    match j with
    | 0 =>
      show val ((b ^^^ x) :: l) = _
      rw [val_cons, val_cons, UInt8.toNat_xor, Nat.mul_zero, Nat.pow_zero, Nat.one_mul, Nat.xor_assoc, Nat.xor_assoc, Nat.xor_comm x.toNat]
    | j + 1 =>
      have hj2 : j < l.length := by simpa using hj
      show val (b :: l.set j (l[j] ^^^ x)) = _
      have e : 8 * (j + 1) = 8 + 8 * j := by omega
      rw [val_cons, val_cons, ih j hj2, two_xor, e, Nat.pow_add, Nat.mul_assoc, Nat.xor_assoc]

/-- the lowest i + 1 bits, out of the lowest i -/
theorem low_one (T i : Nat) (h : T / 2 ^ i % 2 = 1) : T % 2 ^ (i + 1) = T % 2 ^ i ^^^ 2 ^ i := by
  apply Nat.eq_of_testBit_eq
  intro j
  have hb : T.testBit i = true := by simp [Nat.testBit, Nat.shiftRight_eq_div_pow, Nat.one_and_eq_mod_two, h]
  rw [Nat.testBit_xor, Nat.testBit_mod_two_pow, Nat.testBit_mod_two_pow, Nat.testBit_two_pow]
  by_cases h1 : j < i
  · simp [h1, show j < i + 1 by omega, show ¬ i = j by omega]
  · by_cases h2 : j = i
    · subst h2; simp [hb]
    · simp [h1, show ¬ j < i + 1 by omega, show ¬ i = j by omega]
theorem low_none (T i : Nat) (h : T / 2 ^ i % 2 = 0) : T % 2 ^ (i + 1) = T % 2 ^ i := by
  apply Nat.eq_of_testBit_eq
  intro j
  have hb : T.testBit i = false := by simp [Nat.testBit, Nat.shiftRight_eq_div_pow, Nat.one_and_eq_mod_two, h]
  rw [Nat.testBit_mod_two_pow, Nat.testBit_mod_two_pow]
  by_cases h1 : j < i
  · simp [h1, show j < i + 1 by omega]
  · by_cases h2 : j = i
    · subst h2; simp [hb]
    · simp [h1, show ¬ j < i + 1 by omega]

/-- what the text's bytes are once the bits up to i are turned -/
def TurnedTo (t : List UInt8) (k T i : Nat) (u : List UInt8) : Prop := u.length = t.length ∧ val u = val t ^^^ 2 ^ k * (T % 2 ^ i)
theorem TurnedTo.start (t : List UInt8) (k T : Nat) : TurnedTo t k T 0 t := ⟨rfl, by rw [Nat.pow_zero, Nat.mod_one, Nat.mul_zero, Nat.xor_zero]⟩
theorem TurnedTo.none {t : List UInt8} {k T i : Nat} {u : List UInt8} (h : TurnedTo t k T i u) (hb : T / 2 ^ i % 2 = 0) : TurnedTo t k T (i + 1) u := ⟨h.1, by rw [h.2, low_none T i hb]⟩
theorem TurnedTo.one {t : List UInt8} {k T i : Nat} {u : List UInt8} (h : TurnedTo t k T i u) (hb : T / 2 ^ i % 2 = 1) (J R : Nat) (hp : k + i = 8 * J + R) (hR : R < 8) (hJ : J < u.length) :
    TurnedTo t k T (i + 1) (u.set J (u[J] ^^^ UInt8.ofNat (2 ^ R))) := by
  refine ⟨by rw [List.length_set]; exact h.1, ?_⟩
  have e : (UInt8.ofNat (2 ^ R)).toNat = 2 ^ R := by
    have : 2 ^ R < 256 := Nat.lt_of_lt_of_le (Nat.pow_lt_pow_right (by omega) hR) (by decide)
    simp; omega
  rw [val_set, h.2, e, low_one T i hb, two_xor, ← Nat.pow_add, ← Nat.pow_add, hp, Nat.xor_assoc]

/-- block g holds the bytes u, which may be written; below it nothing has turned since W0 -/
def HoldU (g : Nat) (u : List UInt8) (W0 w : World) : Prop :=
  (∀ j (hj : j < u.length), w.cell? ⟨g, j, none⟩ = some (.int .u8 (u[j].toNat : Int))) ∧ (∀ j, j < u.length → w.frozen? ⟨g, j, none⟩ = false) ∧ Below g W0 w
theorem bytes_in (s : ByteArray) (w : World) : ∃ (cap : Nat) (W1 : World), (convert 9 45 (.string s)).run Try.prog w = .ok (.slice (some ⟨w.heap.size, 0, none⟩) s.size cap) W1 ∧ HoldU w.heap.size s.data.toList w W1 := by
  have hl : s.data.toList.length = s.size := (Lib.size_eq _).symm
  refine ⟨_, _, run_bytes_of_string w 9 45 5 s Try.underlying9 Try.underlying45 Try.underlying5, ?_, ?_, ((Below.refl _ w).drew).alloc (Nat.le_refl _) _⟩
  · intro j hj
    have hj' : j < s.data.size := by rw [hl] at hj; exact hj
    have e := World.cell?_alloc_mark w.drew (bytesRow s (grownCap w s.size 0 5)) 5 ((bytesRow s (grownCap w s.size 0 5)).size, (bytesRow s (grownCap w s.size 0 5)).size + 1) j
    have ew : w.drew.heap.size = w.heap.size := rfl
    rw [ew] at e
    rw [e, bytesRow_at s _ j hj']
    simp
  · intro j hj
    have hj' : j < s.data.size := by rw [hl] at hj; exact hj
    have e := World.frozen?_alloc_mark w.drew (bytesRow s (grownCap w s.size 0 5)) 5 (bytesRow s (grownCap w s.size 0 5)).size ((bytesRow s (grownCap w s.size 0 5)).size + 1) j
    have ew : w.drew.heap.size = w.heap.size := rfl
    rw [ew] at e
    rw [e]
    have hz : s.size ≤ (bytesRow s (grownCap w s.size 0 5)).size := by unfold bytesRow; rw [Array.size_append, Array.size_map]; exact Nat.le_add_right _ _
    have hj2 : j < s.size := hj'
    simp; omega
theorem HoldU.set {g : Nat} {u : List UInt8} {W0 w : World} (h : HoldU g u W0 w) (J : Nat) (hJ : J < u.length) (x : UInt8) : HoldU g (u.set J x) W0 (w.setCell ⟨g, J, none⟩ (.int .u8 (x.toNat : Int))) := by
  refine ⟨?_, ?_, h.2.2.setCell (Nat.le_refl _) _⟩
  · intro j hj
    have hj' : j < u.length := by rwa [List.length_set] at hj
    by_cases e : j = J
    · subst e
      rw [World.cell?_setCell_same _ _ _ (h.1 j hJ)]
      simp
    · rw [World.cell?_setCell_other _ _ _ _ (by simp only [ne_eq, Addr.mk.injEq]; omega), h.1 j hj']
      rw [List.getElem_set_ne (by omega)]
  · intro j hj
    rw [World.frozen?_setCell]
    exact h.2.1 j (by rwa [List.length_set] at hj)
theorem HoldU.out {g cap : Nat} {u : List UInt8} {W0 w : World} (h : HoldU g u W0 w) : (convert 45 9 (.slice (some ⟨g, 0, none⟩) u.length cap)).run Try.prog w = .ok (.string ⟨u.toArray⟩) w := by
  refine run_convert_bytes_back (P := Try.prog) w 45 9 5 ⟨g, 0, none⟩ cap u Try.underlying45 Try.underlying5 Try.underlying9 ?_
  intro j hj
  have e : (⟨g, 0, none⟩ : Addr).add j = ⟨g, j, none⟩ := by simp [Addr.add]; try omega
  rw [e, h.1 j hj]

theorem test_bit (T i : Nat) : ((T : Int) / 2 ^ i).tmod 2 = ((T / 2 ^ i % 2 : Nat) : Int) := by
  have e : ((T / 2 ^ i : Nat) : Int) = (T : Int) / 2 ^ i := by simp
  rw [← e, Int.tmod_eq_emod_of_nonneg (Int.natCast_nonneg _)]
  simp


/-- what is read of a page's bytes in which bits were turned -/
theorem turned_dec {s : ByteArray} {u : List UInt8} {k T : Nat} (hs : IsPage s) (hl : u.length = s.data.toList.length) (hk : k + 32 ≤ 4096) (hT : T < 4294967296) (hv : val u = val s.data.toList ^^^ 2 ^ k * T) :
    ∃ q, Dec ⟨u.toArray⟩ q (if T = 0 then 0 else 60) := by
  have hlen : s.data.toList.length = 512 := hs.size
  have eu : (⟨u.toArray⟩ : ByteArray).data.toList = u := by simp
  by_cases h0 : T = 0
  · have e2 : u = s.data.toList := len_of_val hl (by rw [hv, h0, Nat.mul_zero, Nat.xor_zero])
    have e3 : (⟨u.toArray⟩ : ByteArray) = s := by
      rw [e2]
    rw [if_pos h0, e3]
    exact ⟨_, .inl ⟨hs, rfl, rfl⟩⟩
  · rw [if_neg h0]
    refine ⟨_, .inr ⟨fun hp => ?_, rfl, rfl⟩⟩
    have h1 := page_sealed hp
    rw [eu] at h1
    exact h0 (turned_not (page_sealed hs) hl (by rw [hlen]; omega) hT hv h1)

end Go.Proofs.Ytmandeohbiagfaa.Page
