/- Walks: the document's Load. -/
import Derived.Test.YtehfclgngkhcpaaRX4
namespace Go.Proofs.Ytehfclgngkhcpaa.Slot
open Go.RowKit
attribute [local go_sem ↓] Go.wp_at_zero Go.wp_at_succ

def QLoad (s : ByteArray) (w : World) (e : Ending) (w' : World) : Prop :=
  Below w.heap.size w w' ∧ ((Loads s.data.toList ∧ ∃ q, e = .returned (.pointer (some ⟨q, 0, none⟩)) ∧ Rf w' q (areaOf s.data.toList) (fun b => w.heap.size ≤ b ∧ b < w'.heap.size)) ∨ (¬ Loads s.data.toList ∧ e = .returned (.pointer none)))
theorem QLoad.no {s : ByteArray} {w w' : World} (h : ¬ Loads s.data.toList) (hb : Below w.heap.size w w') : QLoad s w (.returned (.pointer none)) w' := ⟨hb, .inr ⟨h, rfl⟩⟩
theorem QLoad.yes {s : ByteArray} {w w' : World} {q h t cB m : Nat} {v : Value} {f : Nat → Bool} (hl : Loads s.data.toList) (L : LP w w' q h t cB m v (areaOf s.data.toList) f) : QLoad s w (.returned (.pointer (some ⟨q, 0, none⟩))) w' := ⟨L.below, .inl ⟨hl, q, rfl, L.fin⟩⟩

/-- a place of the call's own -/
structure PN (nb x y : Nat) (w : World) : Prop where
  row : w.heap[nb]? = some (.cells #[.int .i64 (x : Int), .int .i64 (y : Int)] 110 (0, 0))
theorem PN.gives {nb x y : Nat} {w : World} (h : PN nb x y w) : w.cell? ⟨nb, 0, none⟩ = some (.int .i64 (x : Int)) ∧ w.cell? ⟨nb, 1, none⟩ = some (.int .i64 (y : Int)) := by
  refine ⟨?_, ?_⟩
  · rw [cell_of_row w nb 0 _ _ _ h.row]; rfl
  · rw [cell_of_row w nb 1 _ _ _ h.row]; rfl
theorem PN.lt {nb x y : Nat} {w : World} (h : PN nb x y w) : nb < w.heap.size := (Array.getElem?_eq_some_iff.1 h.row).1
theorem PN.later {nb x y : Nat} {w w' : World} (h : PN nb x y w) (b : Below w.heap.size w w') : PN nb x y w' := ⟨(b.block nb h.lt).trans h.row⟩

set_option maxRecDepth 100000 in
set_option maxHeartbeats 8000000 in
theorem qload_any (s : ByteArray) (w : World) (hs : s.size ≤ 281474976710656) : Calls Try.prog 32 #[.string s] w (QLoad s w) := by
  have hsl : s.data.toList.length = s.size := rfl
  by_cases h1 : s.size < 16
  · have e1 : decide ((s.size : Int) < 16) = true := decide_eq_true (by omega)
    have e2 : decide (s.size < 16) = true := decide_eq_true h1
    have NO := Lib.hid (QLoad.no (w := w) (fun h : Loads s.data.toList => by have := h.lo; omega) (Below.refl w.heap.size w))
    clear h1 hs hsl
    go_enter Try.func32, Try.ntmps32
    go_wp2_with fail
    go_ret
    exact NO.out
  by_cases h2 : 4096 < s.size
  · have e1 : decide ((s.size : Int) < 16) = false := decide_eq_false (by omega)
    have e2 : decide (s.size < 16) = false := decide_eq_false h1
    have e3 : decide (4096 < (s.size : Int)) = true := decide_eq_true (by omega)
    have e4 : decide (4096 < s.size) = true := decide_eq_true h2
    have NO := Lib.hid (QLoad.no (w := w) (fun h : Loads s.data.toList => by have := h.hi; omega) (Below.refl w.heap.size w))
    clear h1 h2 hs hsl
    go_enter Try.func32, Try.ntmps32
    go_wp2_with fail
    go_ret
    exact NO.out
  have e1 : decide ((s.size : Int) < 16) = false := decide_eq_false (by omega)
  have e2 : decide (s.size < 16) = false := decide_eq_false h1
  have e3 : decide (4096 < (s.size : Int)) = false := decide_eq_false (by omega)
  have e4 : decide (4096 < s.size) = false := decide_eq_false h2
  obtain ⟨b, hb⟩ : ∃ b, b = s.data.toList := ⟨_, rfl⟩
  have rg0 : ∀ W : World, Calls Try.prog 76 #[.string s, .int .i64 0, .int .i64 2] W fun e w' => e = .returned (.tuple #[.int .u64 (numL b 0 : Int), .bool true]) ∧ W = w' := fun W => by rw [hb]; exact rget_L s 0 W hs (by omega)
  have rg2 : ∀ W : World, Calls Try.prog 76 #[.string s, .int .i64 2, .int .i64 2] W fun e w' => e = .returned (.tuple #[.int .u64 (numL b 2 : Int), .bool true]) ∧ W = w' := fun W => by rw [hb]; exact rget_L s 2 W hs (by omega)
  have rgx : ∀ (k : Nat) (W : World), k + 2 ≤ s.size → Calls Try.prog 76 #[.string s, .int .i64 (k : Int), .int .i64 2] W fun e w' => e = .returned (.tuple #[.int .u64 (numL b k : Int), .bool true]) ∧ W = w' := fun k W h => by rw [hb]; exact rget_L s k W hs h
  have n65 := num_lt b 0
  have l65 := num_lt b 2
  obtain ⟨n, hn⟩ : ∃ n, n = numL b 0 := ⟨_, rfl⟩
  obtain ⟨lo, hlo⟩ : ∃ lo, lo = numL b 2 := ⟨_, rfl⟩
  rw [← hn] at rg0 n65
  rw [← hlo] at rg2 l65
  have RG0 := Lib.hid rg0
  have RG2 := Lib.hid rg2
  have RGX := Lib.hid rgx
  obtain ⟨cap, W1, hcv, hrow, hcap, hb1, hs1⟩ := bytes_row s w
  obtain ⟨W2, hW2⟩ : ∃ W2, W2 = W1.alloc (.cells #[.slice (some ⟨w.heap.size, 0, none⟩) s.size cap, .int .i64 (lo : Int), .slice none 0 0] 104) := ⟨_, rfl⟩
  have hs2 : W2.heap.size = w.heap.size + 2 := by rw [hW2]; simp; omega
  have b2 : Below w.heap.size w W2 := by rw [hW2]; exact hb1.alloc hb1.size _
  have ST : LP w (W2.alloc (.cells (rowM s.size fun _ => false) 4)) (w.heap.size + 1) w.heap.size (w.heap.size + 2) cap s.size (.slice none 0 0) ⟨b, lo, []⟩ (fun _ => false) := by
    rw [hW2, hb]
    exact LP.start hrow hcap hb1 hs1 s.size
  have c1 : W2.cell? ⟨w.heap.size + 1, 1, none⟩ = some (.int .i64 (lo : Int)) := by
    rw [hW2, ← hs1]
    rw [cell_of_row _ _ 1 _ _ _ (heap_alloc_new _ _)]; rfl
  obtain ⟨W3, hW3⟩ : ∃ W3, W3 = W2.alloc (.cells (rowM s.size fun _ => false) 4) := ⟨_, rfl⟩
  rw [← hW3] at ST
  have hmk := marks_make W2 s.size (by omega)
  rw [← hW3] at hmk
  have HB := Lib.hid hb
  have HN := Lib.hid hn
  have HLO := Lib.hid hlo
  have HW2 := Lib.hid hW2
  have HS1 := Lib.hid hs1
  have HS2 := Lib.hid hs2
  have B2 := Lib.hid b2
  have STH := Lib.hid ST
  have HMK := Lib.hid hmk
  have n0 : (0 : Int) ≤ (n : Int) := Int.natCast_nonneg _
  have n1 : (n : Int) ≤ 65535 := by omega
  have l0 : (0 : Int) ≤ (lo : Int) := Int.natCast_nonneg _
  have l1 : (lo : Int) ≤ 65535 := by omega
  have s0 : (16 : Int) ≤ (s.size : Int) := by omega
  have s1 : (s.size : Int) ≤ 4096 := by omega
  have NO := Lib.hid (fun (w' : World) (h : ¬ Loads s.data.toList) (hb : Below w.heap.size w w') => QLoad.no h hb)
  have YS := Lib.hid (fun (w' : World) (q h t cB m : Nat) (v : Value) (f : Nat → Bool) (hl : Loads s.data.toList) (L : LP w w' q h t cB m v (areaOf s.data.toList) f) => QLoad.yes hl L)
  clear rg0 rg2 rgx hn hlo hrow hcap hb1 b2 ST hW2 hW3 hmk hb
  by_cases hf : lo < 4 + 4 * n
  · have f1 : decide ((lo : Int) < 4 + 4 * (n : Int)) = true := decide_eq_true (by omega)
    have f2 : decide (lo < 4 + 4 * n) = true := decide_eq_true hf
    have hno : ¬ Loads s.data.toList := fun h => by
      have := h.fin
      rw [← HB.out, ← HN.out, ← HLO.out] at this
      omega
    have HNO := Lib.hid hno
    clear hno hf hs1 hs2 h1 h2 hs hsl n65 l65
    go_enter Try.func32, Try.ntmps32
    go_wp2_with fail
    refine (RG0.out _).mono ?_
    rintro e w' ⟨rfl, rfl⟩
    go_wp2_with fail
    refine (RG2.out _).mono ?_
    rintro e w' ⟨rfl, rfl⟩
    go_wp2_with (first | rw [HS1.out] | rw [← HW2.out])
    go_ret
    exact NO.out _ HNO.out B2.out
  by_cases hg : s.size < lo
  · have f1 : decide ((lo : Int) < 4 + 4 * (n : Int)) = false := decide_eq_false (by omega)
    have f2 : decide (lo < 4 + 4 * n) = false := decide_eq_false hf
    have f3 : decide ((s.size : Int) < (lo : Int)) = true := decide_eq_true (by omega)
    have f4 : decide (s.size < lo) = true := decide_eq_true hg
    have hno : ¬ Loads s.data.toList := fun h => by
      have := h.low
      rw [← HB.out, ← HLO.out, HB.out] at this
      omega
    have HNO := Lib.hid hno
    clear hno hf hg hs1 hs2 h1 h2 hs hsl n65 l65
    go_enter Try.func32, Try.ntmps32
    go_wp2_with fail
    refine (RG0.out _).mono ?_
    rintro e w' ⟨rfl, rfl⟩
    go_wp2_with fail
    refine (RG2.out _).mono ?_
    rintro e w' ⟨rfl, rfl⟩
    go_wp2_with (first | rw [HS1.out] | rw [← HW2.out])
    go_ret
    exact NO.out _ HNO.out B2.out
  have f1 : decide ((lo : Int) < 4 + 4 * (n : Int)) = false := decide_eq_false (by omega)
  have f2 : decide (lo < 4 + 4 * n) = false := decide_eq_false hf
  have f3 : decide ((s.size : Int) < (lo : Int)) = false := decide_eq_false (by omega)
  have f4 : decide (s.size < lo) = false := decide_eq_false hg
  have HFG := Lib.hid (show 4 + 4 * n ≤ lo ∧ lo ≤ s.size by omega)
  have HZ := Lib.hid (show 16 ≤ s.size ∧ s.size ≤ 4096 by omega)
  have HSL := Lib.hid (show b.length = s.size by rw [HB.out]; exact hsl)
  have hmk := HMK.out
  rw [hs2] at hmk
  have n2 : n ≤ 1100 := by omega
  have n3 : (n : Int) ≤ 1100 := by omega
  obtain ⟨l, hl⟩ : ∃ l, l = dirOf b := ⟨_, rfl⟩
  have hll : l.length = n := by rw [hl, dirOf_len, ← HN.out]
  have HL := Lib.hid hl
  have HLL := Lib.hid hll
  clear hf hg hs1 hs2 h1 h2 hs hsl n65 l65 hl hll
  go_enter Try.func32, Try.ntmps32
  go_wp2_with fail
  refine (RG0.out _).mono ?_
  rintro e w' ⟨rfl, rfl⟩
  go_wp2_with fail
  refine (RG2.out _).mono ?_
  rintro e w' ⟨rfl, rfl⟩
  go_wp2_with (first | rw [HS1.out] | rw [← HW2.out])
  obtain ⟨q, hq⟩ : ∃ q, q = w.heap.size + 1 := ⟨_, rfl⟩
  obtain ⟨t, ht⟩ : ∃ t, t = w.heap.size + 2 := ⟨_, rfl⟩
  rw [← hq] at STH ⊢
  rw [← ht] at STH ⊢
  clear c1 hcv hq ht HMK hmk
  go_loopw [9] (fun i wr => ∃ (k : Nat) (v : Value), k ≤ n ∧ i = .int .i64 k ∧ LP w wr q w.heap.size t cap s.size v ⟨b, lo, l.take k⟩ (marksOf (l.take k)) ∧ Apart (l.take k) ∧ ∀ j, j < k → lo ≤ (spotB b j).1 ∧ (spotB b j).1 + (spotB b j).2 ≤ s.size) (fun i _ => n - (intOf i).toNat)
  case atStart => exact ⟨0, _, by omega, by go_num, STH.out, by rw [List.take_zero]; exact apart_nil, fun j hj => by omega⟩
  case round =>
    obtain ⟨k, v, hk, rfl, hL, hap, hea⟩ := hrel
    have LH := Lib.hid hL
    have HAP := Lib.hid hap
    have HEA := Lib.hid hea
    clear hL hap hea STH
    by_cases hlt : k < n
    · have rx := fun W => RGX.out (4 + 4 * k) W (by have := HFG.out; omega)
      have ry := fun W => RGX.out (6 + 4 * k) W (by have := HFG.out; omega)
      rw [show ((4 + 4 * k : Nat) : Int) = 4 + 4 * (k : Int) by omega] at rx
      rw [show ((6 + 4 * k : Nat) : Int) = 6 + 4 * (k : Int) by omega] at ry
      have x65 := num_lt b (4 + 4 * k)
      have y65 := num_lt b (6 + 4 * k)
      have hsp : l.getD k (0, 0) = (numL b (4 + 4 * k), numL b (6 + 4 * k)) := by rw [HL.out, dirOf_at (by rw [← HN.out]; exact hlt)]; rfl
      have hs2' : spotB b k = (numL b (4 + 4 * k), numL b (6 + 4 * k)) := rfl
      obtain ⟨x, ex⟩ : ∃ x, x = numL b (4 + 4 * k) := ⟨_, rfl⟩
      obtain ⟨y, ey⟩ : ∃ y, y = numL b (6 + 4 * k) := ⟨_, rfl⟩
      rw [← ex] at rx x65
      rw [← ey] at ry y65
      rw [← ex, ← ey] at hsp hs2'
      have RX := Lib.hid rx
      have RY := Lib.hid ry
      have HSP := Lib.hid hsp
      have HS2' := Lib.hid hs2'
      clear rx ry ex ey hsp hs2'
      have x0 : (0 : Int) ≤ (x : Int) := Int.natCast_nonneg _
      have y0 : (0 : Int) ≤ (y : Int) := Int.natCast_nonneg _
      have x1 : (x : Int) ≤ 65535 := by omega
      have y1 : (y : Int) ≤ 65535 := by omega
      have k0 : (0 : Int) ≤ (k : Int) := Int.natCast_nonneg _
      have k1 : (k : Int) < (n : Int) := by omega
      have ba : Below wr.heap.size wr (wr.alloc (.cells #[.int .i64 (x : Int), .int .i64 (y : Int)] 110)) := (Below.refl _ _).alloc (Nat.le_refl _) _
      obtain ⟨W5, hW5⟩ : ∃ W5, W5 = wr.alloc (.cells #[.int .i64 (x : Int), .int .i64 (y : Int)] 110) := ⟨_, rfl⟩
      have rn : PN wr.heap.size x y W5 := ⟨by rw [hW5]; exact heap_alloc_new _ _⟩
      rw [← hW5] at ba
      have L5 := LH.out.later ba
      have HNT := Lib.hid (show wr.heap.size ≠ t from fun e => by have := LH.out.ltt; omega)
      have g0 := rn.gives.1
      have g1 := rn.gives.2
      have c1 := L5.lay.cell1
      have HW5 := Lib.hid hW5
      have RN := Lib.hid rn
      have L5H := Lib.hid L5
      have hcase : ∃ z1 z2 : Bool, decide ((x : Int) < (lo : Int)) = z1 ∧ decide (x < lo) = z1 ∧ decide ((s.size : Int) < (x : Int) + (y : Int)) = z2 ∧ decide (s.size < x + y) = z2 := ⟨decide (x < lo), decide (s.size < x + y), by rw [decide_eq_decide]; omega, rfl, by rw [decide_eq_decide]; omega, rfl⟩
      obtain ⟨z1, z2, d1, d2, d3, d4⟩ := hcase
      have hz1 : z1 = true ↔ x < lo := by rw [← d2]; simp
      have hz2 : z2 = true ↔ s.size < x + y := by rw [← d4]; simp
      have HZ1 := Lib.hid hz1
      have HZ2 := Lib.hid hz2
      clear hz1 hz2 L5 rn ba hW5
      cases z1
      case true =>
        go_wp2_with fail
        refine (RX.out _).mono ?_
        rintro e w' ⟨rfl, rfl⟩
        go_wp2_with fail
        refine (RY.out _).mono ?_
        rintro e w' ⟨rfl, rfl⟩
        go_wp2_with (rw [← HW5.out])
        go_quiet (fail)
        go_wp2_with fail
        go_ret
        refine NO.out _ (fun h => ?_) (below_drewN L5H.out.below _)
        rw [← HB.out] at h
        have h1 := (h.each k (by rw [← HN.out]; exact hlt)).1
        rw [HS2'.out, ← HLO.out] at h1
        have := HZ1.out.1 trivial
        simp only at h1
        omega
      case false =>
        cases z2
        case true =>
          go_wp2_with fail
          refine (RX.out _).mono ?_
          rintro e w' ⟨rfl, rfl⟩
          go_wp2_with fail
          refine (RY.out _).mono ?_
          rintro e w' ⟨rfl, rfl⟩
          go_wp2_with (rw [← HW5.out])
          go_quiet (fail)
          go_wp2_with fail
          go_ret
          refine NO.out _ (fun h => ?_) (below_drewN L5H.out.below _)
          rw [← HB.out] at h
          have h1 := (h.each k (by rw [← HN.out]; exact hlt)).2
          rw [HS2'.out, HSL.out] at h1
          have := HZ2.out.1 trivial
          simp only at h1
          omega
        case false =>
          have hxl : lo ≤ x := by have := HZ1.out; simp at this; exact this
          have hxy : x + y ≤ s.size := by have := HZ2.out; simp at this; exact this
          have HXL := Lib.hid hxl
          have HXY := Lib.hid hxy
          clear HZ1 HZ2 hxl
          go_wp2_with fail
          refine (RX.out _).mono ?_
          rintro e w' ⟨rfl, rfl⟩
          go_wp2_with fail
          refine (RY.out _).mono ?_
          rintro e w' ⟨rfl, rfl⟩
          go_wp2_with (rw [← HW5.out])
          go_quiet (fail)
          go_wp2_with fail
          obtain ⟨f, hf'⟩ : ∃ f, f = marksOf (l.take k) := ⟨_, rfl⟩
          have HF := Lib.hid hf'
          have L6 := L5H.out
          rw [← hf'] at L6
          have L6H := Lib.hid L6
          clear hf' L6 L5H HW5 g0 g1 c1 d1 d2 d3 d4 LH
          generalize wr.heap.size = nb at *
          go_loopw [15] (fun i wr => ∃ j : Nat, x ≤ j ∧ j ≤ x + y ∧ i = .int .i64 j ∧ LP w wr q w.heap.size t cap s.size v ⟨b, lo, l.take k⟩ (fun i => f i || decide (x ≤ i ∧ i < j)) ∧ PN nb x y wr ∧ ∀ i, x ≤ i → i < j → f i = false) (fun i _ => (x + y) - (intOf i).toNat)
          case atStart => exact ⟨x, by omega, by omega, by go_num, (L6H.out.later (below_drewN (Below.refl _ _) _)).congr fun j _ => by rw [show decide (x ≤ j ∧ j < x) = false from decide_eq_false (by omega), Bool.or_false], RN.out.later (below_drewN (Below.refl _ _) _), fun i h1 h2 => by omega⟩
          case round =>
            obtain ⟨j, hj1, hj2, rfl, hm, hr, hfr⟩ := hrel
            have g0 := hr.gives.1
            have g1 := hr.gives.2
            have HM := Lib.hid hm
            have HR := Lib.hid hr
            have HFR := Lib.hid hfr
            clear hm hr hfr L6H RN
            have z0 : (0 : Int) ≤ (j : Int) := Int.natCast_nonneg _
            by_cases hjl : j < x + y
            · have e5 : decide ((j : Int) < (x : Int) + (y : Int)) = true := decide_eq_true (by omega)
              have e6 : decide (j < x + y) = true := decide_eq_true hjl
              have j4 : (j : Int) < (s.size : Int) := by omega
              have cf := HM.out.cell (j := j) (by omega)
              rw [show decide (x ≤ j ∧ j < j) = false from decide_eq_false (by omega), Bool.or_false] at cf
              have fz := HM.out.free j
              have S3 := Lib.hid (HM.out.mark j)
              obtain ⟨u, hu⟩ : ∃ u, u = f j := ⟨_, rfl⟩
              rw [← hu] at cf
              have HU := Lib.hid hu
              clear hu
              cases u
              case true =>
                go_wp2_with fail
                go_ret
                refine NO.out _ (fun h => ?_) HM.out.below
                rw [← HB.out] at h
                have h1 := h.apart
                obtain ⟨y', hy1, hy2⟩ := not_clear (l := l.take k) (x := (x, y)) (j := j) hj1 hjl (by rw [← HF.out]; exact HU.out.symm)
                rw [← HSP.out] at hy2
                rw [← HL.out] at h1
                exact absurd h1 (not_apart (by rw [HLL.out]; exact hlt) hy1 hy2)
              case false =>
                go_wp2_with fail
                go_roundw
                case rel =>
                  refine ⟨j + 1, by omega, by omega, by go_num, S3.out.congr fun i _ => ?_, ⟨?_⟩, fun i h1 h2 => ?_⟩
                  · by_cases e : i = j
                    · subst e
                      rw [if_pos rfl, show decide (x ≤ i ∧ i < i + 1) = true from decide_eq_true (by omega), Bool.or_true]
                    · rw [if_neg e]
                      congr 1
                      rw [decide_eq_decide]; omega
                  · rw [heap_setCell_other _ _ _ _ (by simpa using HNT.out)]
                    exact HR.out.row
                  · by_cases e : i = j
                    · subst e; exact HU.out.symm
                    · exact HFR.out i h1 (by omega)
                case measure => simp [intOf]; omega
            · obtain rfl : j = x + y := by omega
              have e5 : decide (((x + y : Nat) : Int) < (x : Int) + (y : Int)) = false := decide_eq_false (by omega)
              have hcl := clear_of_marks (l := l.take k) (x := (x, y)) (fun i h1 h2 => by rw [← HF.out]; exact HFR.out i h1 h2)
              rw [← HSP.out] at hcl
              have hk2 : k < l.length := by rw [HLL.out]; exact hlt
              have A4 := Lib.hid (apart_step hk2 HAP.out hcl)
              have HK2 := Lib.hid hk2
              have c2 := HM.out.lay.cell2
              have fz2 := HM.out.lay.free 2
              have hq5 := HM.out.ltq
              have htk : (l.take k).length = k := by rw [List.length_take]; omega
              have BA := Lib.hid (show Below wr.heap.size wr (wr.drew.alloc (.cells #[.int .i64 (x : Int), .int .i64 (y : Int)] 110)) from ((Below.refl _ _).drew).alloc (Nat.le_refl _) _)
              have DM := Lib.hid (show Dl (wr.drew.alloc (.cells #[.int .i64 (x : Int), .int .i64 (y : Int)] 110)) (.slice (some ⟨wr.heap.size, 0, none⟩) 1 1) [((x, y) : Nat × Nat)] from Dl.made (w := wr.drew) [(x, y)] (by simp))
              have LA := Lib.hid (HM.out.later BA.out)
              have DV : Dl wr v (l.take k) := HM.out.lay.dl
              obtain ⟨ad5, nn5, cap5, rfl⟩ := DV.shape3
              have HL1 := Lib.hid (show (l.take k).length + [((x, y) : Nat × Nat)].length ≤ 1000000 by rw [htk]; simp; omega)
              clear hcl hk2 DV htk
              go_wp2_with fail
              go_region_law (first | (refine step_appD (m := [((x, y) : Nat × Nat)]) w.heap.size rfl _ _ rfl LA.out.lay.dl DM.out.srcD HL1.out LA.out.own LA.out.below.size rfl rfl ?_; intro v4 w4 t4 g4 b4; have N4 := Lib.hid (LA.out.app g4 t4 b4); obtain ⟨ad4, nn4, cp4, rfl⟩ := t4.shape3; have f24 : w4.frozen? ⟨q, 2, none⟩ = false := (World.frozen?_of_block (g4.block q LA.out.ltq fun e => (LA.out.lay.ne1 e.symm).1 rfl)).trans (LA.out.lay.free 2); have c24 : w4.cell? ⟨q, 2, none⟩ = some (.slice ad5 nn5 cap5) := (World.cell?_of_block (g4.block q LA.out.ltq fun e => (LA.out.lay.ne1 e.symm).1 rfl)).trans LA.out.lay.cell2))
              all_goals
                have N5 := Lib.hid N4.out
                clear t4 g4 b4 N4 c24 f24
                go_wp2_with fail
                go_roundw
                case rel =>
                  refine ⟨k + 1, .slice ad4 nn4 cp4, by omega, by go_num, ?_, A4.out, fun i hi => ?_⟩
                  · have e7 : l.take (k + 1) = l.take k ++ [(x, y)] := by rw [take_one HK2.out, HSP.out]
                    rw [e7]
                    refine N5.out.congr fun i _ => ?_
                    rw [marks_snoc, ← HF.out]
                  · by_cases e : i = k
                    · subst e
                      rw [HS2'.out]
                      exact ⟨HXL.out, HXY.out⟩
                    · exact HEA.out i (by omega)
                case measure => simp [intOf]; omega
    · obtain rfl : k = n := by omega
      go_wp2_with fail
      go_ret
      have ht : l.take k = dirOf b := by rw [List.take_of_length_le (by rw [HLL.out]; exact Nat.le_refl _), HL.out]
      have ea : (⟨b, lo, l.take k⟩ : A) = areaOf s.data.toList := by rw [ht, HLO.out, ← HB.out]; rfl
      have hY : Loads b := ⟨by rw [HSL.out]; exact HZ.out.1, by rw [HSL.out]; exact HZ.out.2, by rw [← HN.out, ← HLO.out]; exact HFG.out.1, by rw [← HLO.out, HSL.out]; exact HFG.out.2, fun i hi => by rw [← HLO.out, HSL.out]; exact HEA.out i (by rw [HN.out]; exact hi), by rw [← ht]; exact HAP.out⟩
      rw [HB.out] at hY
      have hl2 := LH.out
      rw [ea] at hl2
      exact YS.out _ _ _ _ _ _ _ _ hY hl2

end Go.Proofs.Ytehfclgngkhcpaa.Slot
