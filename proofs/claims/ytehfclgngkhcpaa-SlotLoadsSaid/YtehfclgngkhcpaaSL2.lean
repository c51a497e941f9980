/- Walks: no byte is two texts'. -/
import Derived.Test.YtehfclgngkhcpaaSL1
namespace Go.Proofs.Ytehfclgngkhcpaa.Slot
open Go.RowKit
attribute [local go_sem ↓] Go.wp_at_zero Go.wp_at_succ

/-- an array of 4096 truths -/
def rowB (f : Nat → Bool) : Array Value := ((List.range 4096).map fun j => Value.bool (f j)).toArray
def rowN : Array Value := rowB fun _ => false
theorem rowB_size (f : Nat → Bool) : (rowB f).size = 4096 := by
  unfold rowB
  rw [List.size_toArray, List.length_map, List.length_range]
theorem rowB_get (f : Nat → Bool) {j : Nat} (h : j < 4096) : (rowB f)[j]? = some (.bool (f j)) := by
  unfold rowB
  rw [List.getElem?_toArray, List.getElem?_map, List.getElem?_range h]
  rfl
theorem rowB_ext {f g : Nat → Bool} (h : ∀ j, j < 4096 → f j = g j) : rowB f = rowB g := by
  have e : (List.range 4096).map (fun j => Value.bool (f j)) = (List.range 4096).map (fun j => Value.bool (g j)) := List.map_congr_left fun j hj => by rw [h j (List.mem_range.1 hj)]
  unfold rowB
  rw [e]
theorem rowB_set (f : Nat → Bool) (i : Nat) : (rowB f).setIfInBounds i (.bool true) = rowB (fun j => if j = i then true else f j) := by
  apply Array.ext_getElem?
  intro j
  rw [Array.getElem?_setIfInBounds]
  by_cases hj : j < 4096
  · rw [rowB_get _ hj, rowB_get _ hj, rowB_size]
    by_cases e : i = j
    · subst e; rw [if_pos rfl, if_pos hj, if_pos rfl]
    · rw [if_neg e, if_neg (fun h => e h.symm)]
  · have h1 : (rowB f)[j]? = none := by rw [Array.getElem?_eq_none]; rw [rowB_size]; omega
    have h2 : (rowB (fun j => if j = i then true else f j))[j]? = none := by rw [Array.getElem?_eq_none]; rw [rowB_size]; omega
    rw [h1, h2, rowB_size]
    by_cases e : i = j
    · rw [if_pos e, if_neg (by omega)]
    · rw [if_neg e]
set_option maxRecDepth 100000 in
theorem zeroT (w : World) : (zeroValue 125).run Try.prog w = .ok (.agg rowN) w := by kernel_rfl
theorem allocT (w : World) : (Instr.alloc 125 true (.tuple #[])).run Try.prog w = .ok (.pointer (some ⟨w.heap.size, 0, none⟩)) (w.alloc (.cells rowN 125 (0, 0))) := by
  simp only [Instr.alloc, Sem.run_bind, zeroT]
  rfl

/-- block t has these marks; below W0 nothing was touched -/
structure Mk (W0 : World) (t : Nat) (f : Nat → Bool) (w : World) : Prop where
  row : w.heap[t]? = some (.cells (rowB f) 125 (0, 0))
  below : Below W0.heap.size W0 w
  new : W0.heap.size ≤ t
theorem Mk.start (w : World) : Mk w w.heap.size (fun _ => false) (w.alloc (.cells rowN 125 (0, 0))) :=
  ⟨heap_alloc_new _ _, (Below.refl _ _).alloc (Nat.le_refl _) _, Nat.le_refl _⟩
theorem Mk.cell {W0 w : World} {t : Nat} {f : Nat → Bool} (h : Mk W0 t f w) {j : Nat} (hj : j < 4096) : w.cell? ⟨t, j, none⟩ = some (.bool (f j)) := by
  rw [cell_of_row w t j _ _ _ h.row, rowB_get _ hj]
theorem Mk.free {W0 w : World} {t : Nat} {f : Nat → Bool} (h : Mk W0 t f w) (j : Nat) : w.frozen? ⟨t, j, none⟩ = false := frozen_of_row w t j _ _ h.row
theorem Mk.lt {W0 w : World} {t : Nat} {f : Nat → Bool} (h : Mk W0 t f w) : t < w.heap.size := (Array.getElem?_eq_some_iff.1 h.row).1
theorem Mk.later {W0 w w' : World} {t : Nat} {f : Nat → Bool} (h : Mk W0 t f w) (b : Below w.heap.size w w') : Mk W0 t f w' :=
  ⟨(b.block t h.lt).trans h.row, h.below.trans (b.mono h.below.size), h.new⟩
theorem Mk.set {W0 w : World} {t : Nat} {f : Nat → Bool} (h : Mk W0 t f w) (i : Nat) : Mk W0 t (fun j => if j = i then true else f j) (w.setCell ⟨t, i, none⟩ (.bool true)) := by
  refine ⟨?_, h.below.setCell h.new _, h.new⟩
  rw [heap_setCell_same w _ i _ _ _ h.row, rowB_set]
theorem Mk.congr {W0 w : World} {t : Nat} {f f' : Nat → Bool} (h : Mk W0 t f w) (e : ∀ j, j < 4096 → f j = f' j) : Mk W0 t f' w :=
  ⟨by rw [← rowB_ext e]; exact h.row, h.below, h.new⟩

def ApartPost (b : List UInt8) (w : World) (e : Ending) (w' : World) : Prop := ∃ z : Bool, e = .returned (.bool z) ∧ (z = true ↔ Apart (dirOf b)) ∧ Below w.heap.size w w'

section
variable {w : World} {p g c : Nat} {b : List UInt8}
set_option maxRecDepth 100000 in
set_option maxHeartbeats 4000000 in
theorem apart_any (h : Ar w p g c b) (hf : 4 + 4 * numL b 0 ≤ b.length) (hw : Within b) : Calls Try.prog 66 #[.pointer (some ⟨p, 0, none⟩)] w (ApartPost b w) := by
  have hhi := h.hi
  have z := zeroT
  have al := allocT
  have ln := fun W (t : Below w.heap.size w W) => len_any (h.later t)
  have sp := Lib.hid (fun W (t : Below w.heap.size w W) (i : Nat) (hi : 8 + 4 * i ≤ b.length) => spot_any (h.later t) i hi)
  have se := Lib.hid (fun (x y : Nat) (W : World) (hx : x < 65536) (hy : y < 65536) => spot_end x y W (by omega) (by omega))
  have HP : ∀ z w', (z = true ↔ Apart (dirOf b)) → Below w.heap.size w w' → ApartPost b w (.returned (.bool z)) w' := fun z w' h1 h2 => ⟨z, rfl, h1, h2⟩
  have HPH := Lib.hid HP
  obtain ⟨l, hl⟩ : ∃ l, l = dirOf b := ⟨_, rfl⟩
  have hll : l.length = numL b 0 := by rw [hl, dirOf_len]
  have HL := Lib.hid hl
  obtain ⟨n, hn⟩ : ∃ n, n = numL b 0 := ⟨_, rfl⟩
  have HN := Lib.hid hn
  have HW := Lib.hid hw
  rw [← hn] at ln hf hll
  have HLL := Lib.hid hll
  have LN := Lib.hid ln
  have hn1 : (n : Int) ≤ 1100 := by omega
  have M0 := Lib.hid (Mk.start w)
  clear hn h ln HP hw hl hll
  go_enter Try.func66, Try.ntmps66
  go_wp2_with fail
  go_step3
  go_wp2_with fail
  go_step3
  go_wp2_with fail
  refine (LN.out _ M0.out.below).mono ?_
  rintro e w' ⟨rfl, rfl⟩
  clear LN
  go_wp2_with fail
  go_loopw [4, 10] (fun v i wr => ∃ k : Nat, k ≤ n ∧ i = .int .i64 k ∧ v = .bool true ∧ Apart (l.take k) ∧ Mk w w.heap.size (marksOf (l.take k)) wr) (fun _ i _ => n - (intOf i).toNat)
  case atStart => exact ⟨0, by omega, by go_num, rfl, by rw [List.take_zero]; exact apart_nil, M0.out⟩
  case round =>
    obtain ⟨k, hk, rfl, rfl, hap, hm⟩ := hrel
    have HAP := Lib.hid hap
    have HM := Lib.hid hm
    clear hap hm M0 z al
    by_cases hlt : k < n
    · have sk := sp.out _ HM.out.below k (by omega)
      unfold spotV spotAt at sk
      simp only at sk
      have x65 := num_lt b (4 + 4 * k)
      have y65 := num_lt b (6 + 4 * k)
      have hwk := HW.out k (by rw [← HN.out]; exact hlt)
      have hs : l.getD k (0, 0) = (numL b (4 + 4 * k), numL b (6 + 4 * k)) := by rw [HL.out, dirOf_at (by rw [← HN.out]; exact hlt)]; rfl
      have hs2 : spotB b k = (numL b (4 + 4 * k), numL b (6 + 4 * k)) := rfl
      rw [hs2] at hwk
      obtain ⟨x, ex⟩ : ∃ x, x = numL b (4 + 4 * k) := ⟨_, rfl⟩
      obtain ⟨y, ey⟩ : ∃ y, y = numL b (6 + 4 * k) := ⟨_, rfl⟩
      rw [← ex, ← ey] at sk hs hwk
      rw [← ex] at x65
      rw [← ey] at y65
      have hxy : x + y ≤ 4096 := by have := hwk.2; simp only at this; omega
      have HS := Lib.hid hs
      have SK := Lib.hid sk
      clear sk ex ey hs hs2 hwk
      obtain ⟨z, hz⟩ : ∃ z : Int, z = ((x + y : Nat) : Int) := ⟨_, rfl⟩
      have se2 : ∀ W : World, Calls Try.prog 84 #[.agg #[.int .i64 (x : Int), .int .i64 (y : Int)]] W fun e w' => e = .returned (.int .i64 z) ∧ Below W.heap.size W w' := fun W => by rw [hz]; exact se.out x y W x65 y65
      have SE := Lib.hid se2
      have HZ := Lib.hid hz
      clear se2 hz
      obtain ⟨f, hf'⟩ : ∃ f, f = marksOf (l.take k) := ⟨_, rfl⟩
      have HF := Lib.hid hf'
      rw [← hf'] at HM
      clear hf'
      go_wp2_with fail
      refine SK.out.mono ?_
      rintro e w1 ⟨rfl, b1⟩
      obtain ⟨W, hW⟩ : ∃ W, W = w1.alloc (.cells #[.int .i64 (x : Int), .int .i64 (y : Int)] 112) := ⟨_, rfl⟩
      have rn : NRow w1.heap.size x y W := ⟨by rw [hW]; exact heap_alloc_new _ _⟩
      have b2 : Below wr.heap.size wr W := by rw [hW]; exact b1.alloc b1.size _
      have M2 := Lib.hid (HM.out.later b2)
      have HW2 := Lib.hid hW
      have RN := Lib.hid rn
      have g0 := rn.gives.1
      have g1 := rn.gives.2
      have hnt : w1.heap.size ≠ w.heap.size := fun e => by have := HM.out.lt; have := b1.size; omega
      have hnw : w1.heap.size < W.heap.size := by rw [hW]; simp
      clear b1 b2 hW rn SK HM
      go_wp2_with (rw [← HW2.out])
      clear HW2 g0 g1
      generalize w1.heap.size = nb at *
      obtain ⟨wo, ewo⟩ : ∃ wo : World, wo = wr := ⟨_, rfl⟩
      clear ewo
      go_loopw [4, 7] (fun v i wr => ∃ j : Nat, x ≤ j ∧ j ≤ x + y ∧ i = .int .i64 j ∧ v = .bool true ∧ Mk w w.heap.size (fun i => f i || decide (x ≤ i ∧ i < j)) wr ∧ NRow nb x y wr ∧ ∀ i, x ≤ i → i < j → f i = false) (fun _ i _ => (x + y) - (intOf i).toNat)
      case atStart => exact ⟨x, by omega, by omega, by go_num, rfl, M2.out.congr fun j _ => by rw [show decide (x ≤ j ∧ j < x) = false from decide_eq_false (by omega), Bool.or_false], RN.out, fun i h1 h2 => by omega⟩
      case round =>
        obtain ⟨j, hj1, hj2, rfl, rfl, hm, hr, hfr⟩ := hrel
        have g0 := hr.gives.1
        have g1 := hr.gives.2
        have HM := Lib.hid hm
        have HR := Lib.hid hr
        have HFR := Lib.hid hfr
        clear hm hr hfr M2 RN
        have z0 : (0 : Int) ≤ (j : Int) := Int.natCast_nonneg _
        by_cases hjl : j < x + y
        · have e1 : decide ((j : Int) < z) = true := decide_eq_true (by rw [HZ.out]; omega)
          have j4 : (j : Int) < 4096 := by omega
          go_wp2_with fail
          refine (SE.out _).mono ?_
          rintro e w2 ⟨rfl, b2⟩
          have M3 := HM.out.later b2
          have R3 := Lib.hid (HR.out.later b2)
          have cf := M3.cell (j := j) (by omega)
          rw [show decide (x ≤ j ∧ j < j) = false from decide_eq_false (by omega), Bool.or_false] at cf
          have fz := M3.free j
          have S3 := Lib.hid (M3.set j)
          have HM3 := Lib.hid M3
          obtain ⟨v, hv⟩ : ∃ v, v = f j := ⟨_, rfl⟩
          rw [← hv] at cf
          have HV := Lib.hid hv
          clear b2 M3 HM HR g0 g1 hv
          cases v
          case true =>
            go_wp2_with fail
            rw [Exit.noGoto_ret]
            go_ret
            refine HPH.out _ _ ⟨fun h => by simp at h, fun h => ?_⟩ HM3.out.below
            obtain ⟨y', hy1, hy2⟩ := not_clear (l := l.take k) (x := (x, y)) (j := j) hj1 hjl (by rw [← HF.out]; exact HV.out.symm)
            rw [← HS.out] at hy2
            rw [← HL.out] at h
            exact absurd h (not_apart (by rw [HLL.out]; exact hlt) hy1 hy2)
          case false =>
            go_wp2_with fail
            go_roundw
            case rel =>
              refine ⟨j + 1, by omega, by omega, by go_num, rfl, S3.out.congr fun i _ => ?_, ⟨?_⟩, fun i h1 h2 => ?_⟩
              · by_cases e : i = j
                · subst e
                  rw [if_pos rfl, show decide (x ≤ i ∧ i < i + 1) = true from decide_eq_true (by omega), Bool.or_true]
                · rw [if_neg e]
                  congr 1
                  rw [decide_eq_decide]; omega
              · rw [heap_setCell_other _ _ _ _ (by simpa using hnt)]
                exact R3.out.row
              · by_cases e : i = j
                · subst e; exact HV.out.symm
                · exact HFR.out i h1 (by omega)
            case measure => simp [intOf]; omega
        · obtain rfl : j = x + y := by omega
          have e1 : decide (((x + y : Nat) : Int) < z) = false := decide_eq_false (by rw [HZ.out]; omega)
          have e2 : decide ((x : Int) + (y : Int) < z) = false := decide_eq_false (by rw [HZ.out]; omega)
          have hcl := clear_of_marks (l := l.take k) (x := (x, y)) (fun i h1 h2 => by rw [← HF.out]; exact HFR.out i h1 h2)
          rw [← HS.out] at hcl
          have hk2 : k < l.length := by rw [HLL.out]; exact hlt
          have A4 := Lib.hid (apart_step hk2 HAP.out hcl)
          clear hcl
          go_wp2_with fail
          refine (SE.out _).mono ?_
          rintro e w2 ⟨rfl, b2⟩
          have M3 := Lib.hid (HM.out.later b2)
          clear b2 HM HR g0 g1
          go_wp2_with fail
          go_roundw
          case rel =>
            refine ⟨k + 1, by omega, by go_num, rfl, A4.out, M3.out.congr fun i _ => ?_⟩
            rw [take_one hk2, marks_snoc, HS.out, ← HF.out]
          case measure => simp [intOf]; omega
    · obtain rfl : k = n := by omega
      go_wp2_with fail
      rw [Exit.noGoto_ret]
      go_ret
      refine HPH.out _ _ ⟨fun _ => ?_, fun _ => rfl⟩ HM.out.below
      have h1 := HAP.out
      rw [List.take_of_length_le (by rw [HLL.out]; exact Nat.le_refl _)] at h1
      rw [← HL.out]
      exact h1
end

end Go.Proofs.Ytehfclgngkhcpaa.Slot
