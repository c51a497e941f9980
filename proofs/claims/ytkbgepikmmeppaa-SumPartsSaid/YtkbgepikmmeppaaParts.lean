/- The walk of SumParts. -/
import Derived.Test.YtkbgepikmmeppaaTells
import Derived.StillTailTactics
import Derived.Deep.RegionHeld3
import Derived.Deep.MidRow
import Derived.Deep.DrawnRows
namespace Go.Proofs.Ytkbgepikmmeppaa
open Go.RowKit
attribute [local go_sem ↓] Go.wp_at_zero Go.wp_at_succ

theorem wpList_min3 {P : Program} {w : World} {ops : Array Oper} {rest : List Oper} {o : Oper} {a : Act} {Q : Exit → Act → World → Prop} (hgd : o.guard = none) (x y z : Operand) (t : TypeId)
    (ho : o.op = .call { callee := .builtin .min, args := #[x, y, z], argTypes := #[t, t, t] }) (X Y Z N : Int) (hx : a.eval x = .int .i64 X) (hy : a.eval y = .int .i64 Y) (hz : a.eval z = .int .i64 Z)
    (hN : (if Z < (if Y < X then Y else X) then Z else (if Y < X then Y else X)) = N)
    (h : wpList P ops Q rest (a.put o.dst (.int .i64 N)) w) : wpList P ops Q (o :: rest) a w := by
  subst hN
  refine wpList_plain hgd fun K hK => ?_
  unfold Oper.wp execOp
  simp only [ho, resolve, invoke, builtin, Sem.run_bind, Sem.run_pure, Result.andThen_ok, List.map_toArray, List.map_cons, List.map_nil, hx, hy, hz, run_min_int3]
  exact hK _ _ h

/-- a row of n bytes -/
def rowB (n : Nat) (f : Nat → UInt8) : Array Value := ((List.range n).map fun j => Value.int .u8 ((f j).toNat : Int)).toArray
theorem rowB_size (n : Nat) (f : Nat → UInt8) : (rowB n f).size = n := by simp [rowB]
theorem rowB_get {n : Nat} (f : Nat → UInt8) {j : Nat} (h : j < n) : (rowB n f)[j]? = some (.int .u8 ((f j).toNat : Int)) := by simp [rowB, h]
theorem rowB_ext {n : Nat} {f g : Nat → UInt8} (h : ∀ j, j < n → f j = g j) : rowB n f = rowB n g := by
  unfold rowB
  congr 1
  apply List.map_congr_left
  intro j hj
  rw [h j (by simpa using hj)]
theorem rowB_set (n : Nat) (f : Nat → UInt8) (i : Nat) (v : UInt8) : (rowB n f).setIfInBounds i (.int .u8 (v.toNat : Int)) = rowB n (fun j => if j = i then v else f j) := by
  apply Array.ext_getElem?
  intro j
  rw [Array.getElem?_setIfInBounds]
  by_cases hj : j < n
  · rw [rowB_get _ hj, rowB_get _ hj, rowB_size]
    by_cases e : i = j
    · subst e; simp [hj]
    · have e' : ¬ j = i := fun h => e h.symm
      simp [e, e']
  · have h1 : (rowB n f)[j]? = none := by rw [Array.getElem?_eq_none]; rw [rowB_size]; omega
    have h2 : (rowB n (fun j => if j = i then v else f j))[j]? = none := by rw [Array.getElem?_eq_none]; rw [rowB_size]; omega
    rw [h1, h2, rowB_size]
    split
    · rw [if_neg (by omega)]
    · rfl
theorem rowB_made (n : Nat) : madeCells #[Value.int .u8 0] n = rowB n fun _ => 0 := by
  apply Array.ext_getElem?
  intro j
  by_cases hj : j < n
  · rw [rowB_get _ hj]
    simp [madeCells, hj, Nat.mod_one]
  · have h1 : (rowB n fun _ => 0)[j]? = none := by rw [Array.getElem?_eq_none]; rw [rowB_size]; omega
    rw [h1, Array.getElem?_eq_none]; rw [size_madeCells]; omega

/-- block g is a row of n bytes, laid since W0 -/
def RowAt (g n : Nat) (f : Nat → UInt8) (W0 w : World) : Prop := w.heap[g]? = some (.cells (rowB n f) 5 (0, 0)) ∧ Below g W0 w
theorem RowAt.cell {g n : Nat} {f : Nat → UInt8} {W0 w : World} (h : RowAt g n f W0 w) {j : Nat} (hj : j < n) : w.cell? ⟨g, j, none⟩ = some (.int .u8 ((f j).toNat : Int)) := by
  rw [cell_of_row w _ j _ _ _ h.1, rowB_get _ hj]
theorem RowAt.free {g n : Nat} {f : Nat → UInt8} {W0 w : World} (h : RowAt g n f W0 w) (j : Nat) : w.frozen? ⟨g, j, none⟩ = false := frozen_of_row w _ j _ _ h.1
theorem RowAt.set {g n : Nat} {f : Nat → UInt8} {W0 w : World} (h : RowAt g n f W0 w) (i : Nat) (v : UInt8) : RowAt g n (fun j => if j = i then v else f j) W0 (w.setCell ⟨g, i, none⟩ (.int .u8 (v.toNat : Int))) :=
  ⟨by rw [heap_setCell_same w _ i _ _ _ h.1, rowB_set], h.2.setCell (Nat.le_refl _) _⟩
theorem RowAt.drew {g n : Nat} {f : Nat → UInt8} {W0 w : World} (h : RowAt g n f W0 w) : RowAt g n f W0 w.drew := ⟨h.1, h.2.drew⟩
theorem RowAt.out {g n cap : Nat} {f : Nat → UInt8} {W0 w : World} (h : RowAt g n f W0 w) : (convert 31 9 (.slice (some ⟨g, 0, none⟩) n cap)).run Try.prog w = .ok (.string ⟨((List.range n).map f).toArray⟩) w := by
  have hl : ((List.range n).map f).length = n := by simp
  have h := run_convert_bytes_back (P := Try.prog) w 31 9 5 ⟨g, 0, none⟩ cap ((List.range n).map f) Try.underlying31 Try.underlying5 Try.underlying9 (by
    intro j hj
    have hj' : j < n := by omega
    have e : (⟨g, 0, none⟩ : Addr).add j = ⟨g, j, none⟩ := by simp [Addr.add]; try omega
    rw [e, h.cell hj']
    simp)
  rw [hl] at h
  exact h

/-- the exclusive or of three texts' bytes j -/
def xorAt (s t u : ByteArray) (j : Nat) : UInt8 := s.data.toList.getD j 0 ^^^ t.data.toList.getD j 0 ^^^ u.data.toList.getD j 0
theorem xorAt_get (s t u : ByteArray) (j : Nat) (h1 : j < s.size) (h2 : j < t.size) (h3 : j < u.size) : xorAt s t u j = s[j] ^^^ t[j] ^^^ u[j] := by
  have e : ∀ (x : ByteArray) (h : j < x.size), x.data.toList.getD j 0 = x[j] := by
    intro x h
    have h' : j < x.data.size := h
    simp [List.getD, Array.getElem?_eq_getElem h']
    rfl
  unfold xorAt
  rw [e s h1, e t h2, e u h3]
theorem xor_bits (a b : UInt8) : bits .xor .u8 (a.toNat : Int) (b.toNat : Int) = ((a ^^^ b).toNat : Int) := by
  rw [u8_xor_nat _ _ a.toNat_lt b.toNat_lt, UInt8.toNat_xor]

set_option maxHeartbeats 1000000 in
theorem parts_walk (s t u : ByteArray) (w : World) (hs : s.size ≤ maxLen) (ht : t.size ≤ maxLen) (hu : u.size ≤ maxLen) :
    Calls Try.prog 6 #[.string s, .string t, .string u] w fun e w' => e = .returned (.bool true) ∧ Below w.heap.size w w' := by
  have hs2 := hs
  have ht2 := ht
  have hu2 := hu
  unfold maxLen at hs2 ht2 hu2
  obtain ⟨n, hn⟩ : ∃ n : Nat, (if (u.size : Int) < (if (t.size : Int) < s.size then (t.size : Int) else s.size) then (u.size : Int) else (if (t.size : Int) < s.size then (t.size : Int) else s.size)) = n := by
    exact ⟨_, (Int.toNat_of_nonneg (by split <;> split <;> omega)).symm⟩
  have n1 : n ≤ s.size := by revert hn; split <;> split <;> omega
  have n2 : n ≤ t.size := by revert hn; split <;> split <;> omega
  have n3 : n ≤ u.size := by revert hn; split <;> split <;> omega
  have N := Lib.hid hn
  clear hn
  by_cases h1 : n > 4096
  · go_enter Try.func6, Try.ntmps6
    go_wp2_with (with_reducible refine wpList_min3 rfl _ _ _ 3 rfl _ _ _ n rfl rfl rfl N.out ?_)
    refine (alive_any _).mono ?_
    rintro e w1 ⟨rfl, b1⟩
    go_wp2_with fail
    go_ret
    exact ⟨rfl, b1⟩
  obtain ⟨i0, hi, hz0, hz1, hz2⟩ := info_parts info5
  have hmk := run_make (P := Try.prog) w 31 5 i0 (.int .u8 0) Try.underlying31 hi hz0 .i64 .i64 n n (by omega) (by omega) (by rw [hz2]; omega) (by omega)
  rw [hz1, Int.toNat_natCast, Nat.mul_one] at hmk
  have e0 : madeCells (Value.int .u8 0).cells n = rowB n fun _ => 0 := rowB_made n
  rw [e0] at hmk
  clear e0
  go_enter Try.func6, Try.ntmps6
  go_wp2_with (with_reducible refine wpList_min3 rfl _ _ _ 3 rfl _ _ _ n rfl rfl rfl N.out ?_)
  have hr0 : RowAt w.heap.size n (fun j => if j < 0 then xorAt s t u j else 0) w (w.alloc (.cells (rowB n fun _ => 0) 5)) :=
    ⟨heap_alloc_new w _, (Below.refl _ _).alloc (Nat.le_refl _) _⟩
  have R0 := Lib.hid hr0
  clear hr0 hmk
  go_loopw [9] (fun i wr => ∃ k : Nat, k ≤ n ∧ i = .int .i64 k ∧ RowAt w.heap.size n (fun j => if j < k then xorAt s t u j else 0) w wr) (fun i _ => n - (intOf i).toNat)
  case atStart => exact ⟨0, by omega, by go_num, R0.out⟩
  case round =>
    obtain ⟨k, hk, rfl, hr⟩ := hrel
    clear R0
    by_cases hlt : k < n
    · have k1 : (k : Int) < (s.size : Int) := by omega
      have k2 : (k : Int) < (t.size : Int) := by omega
      have k3 : (k : Int) < (u.size : Int) := by omega
      have x1 := u8_xor_nat s[k].toNat t[k].toNat s[k].toNat_lt t[k].toNat_lt
      have x2 := xor_bits (s[k] ^^^ t[k]) u[k]
      rw [← xorAt_get s t u k (by omega) (by omega) (by omega), UInt8.toNat_xor] at x2
      have g1 := hr.drew.cell hlt
      have g2 := hr.drew.free k
      have hset := (hr.set k (xorAt s t u k)).drew
      have hf : rowB n (fun j => if j = k then xorAt s t u k else if j < k then xorAt s t u j else 0) = rowB n (fun j => if j < k + 1 then xorAt s t u j else 0) := by
        apply rowB_ext
        intro j hj
        by_cases e : j = k
        · subst e; simp
        · by_cases e2 : j < k
          · simp [e, e2, show j < k + 1 by omega]
          · simp [e, e2, show ¬ j < k + 1 by omega]
      have hset2 : RowAt w.heap.size n (fun j => if j < k + 1 then xorAt s t u j else 0) w (wr.setCell ⟨w.heap.size, k, none⟩ (.int .u8 ((xorAt s t u k).toNat : Int))).drew := ⟨by rw [← hf]; exact hset.1, hset.2⟩
      have S := Lib.hid hset2
      obtain ⟨z, hz⟩ : ∃ z, z = xorAt s t u k := ⟨_, rfl⟩
      rw [← hz] at x2 S
      clear hset hset2 hf hr hz
      go_wp2_with fail
      go_still_tail 14, (by kernel_rfl)
      change wpList _ _ _ _ _ wr.drew
      go_wp2_with fail
      go_roundw
      case rel => exact ⟨k + 1, by omega, by go_num, S.out⟩
      case measure => simp [intOf]; omega
    · obtain rfl : k = n := by omega
      have hsz : ∀ x : ByteArray, k ≤ x.size → x.size ≤ 9223372036854775807 → (x.extract 0 k).size ≤ maxLen ∧ (x.extract 0 k).data.toList = x.data.toList.take k := by
        intro x hx hx2
        refine ⟨by rw [ByteArray.size_extract]; unfold maxLen; omega, ?_⟩
        rw [part_list, List.drop_zero]; rfl
      have c1 := cut_low s k n1
      have c2 := cut_low t k n2
      have c3 := cut_low u k n3
      have l : ∀ x : ByteArray, x.data.toList.length = x.size := fun x => (Lib.size_eq _).symm
      have hX : (List.range k).map (fun j => if j < k then xorAt s t u j else 0) = xorL (s.data.toList.take k) (t.data.toList.take k) (u.data.toList.take k) := by
        unfold xorL
        apply List.ext_getElem
        · simp only [List.length_map, List.length_range, List.length_zipWith, List.length_take, l]; omega
        · intro j hj1 hj2
          have hj : j < k := by simpa using hj1
          have g : ∀ (x : ByteArray) (h : j < x.data.toList.length), x.data.toList.getD j 0 = x.data.toList[j] := by
            intro x h; simp [List.getD, List.getElem?_eq_getElem h]
          simp only [List.getElem_map, List.getElem_range, List.getElem_zipWith, List.getElem_take, if_pos hj]
          unfold xorAt
          rw [g s (by rw [l]; omega), g t (by rw [l]; omega), g u (by rw [l]; omega)]
      have hsum := sum_xor (s.data.toList.take k) (t.data.toList.take k) (u.data.toList.take k) (by simp only [List.length_take, l]; omega) (by simp only [List.length_take, l]; omega)
      rw [← hX] at hsum
      have hxs : (xorL (s.data.toList.take k) (t.data.toList.take k) (u.data.toList.take k)).length = k := by rw [← hX]; simp
      obtain ⟨Y, hY⟩ : ∃ Y : ByteArray, Y = ⟨((List.range k).map (fun j => if j < k then xorAt s t u j else 0)).toArray⟩ := ⟨_, rfl⟩
      have hYl : Y.data.toList = (List.range k).map (fun j => if j < k then xorAt s t u j else 0) := by rw [hY]
      have hYs : Y.size ≤ maxLen := by
        have e := l Y
        rw [hYl] at e
        simp at e
        unfold maxLen; omega
      have q0 := fun w => of_any Y w hYs
      have q1 := fun w => of_any (s.extract 0 k) w (hsz s n1 hs2).1
      have q2 := fun w => of_any (t.extract 0 k) w (hsz t n2 ht2).1
      have q3 := fun w => of_any (u.extract 0 k) w (hsz u n3 hu2).1
      rw [(hsz s n1 hs2).2] at q1
      rw [(hsz t n2 ht2).2] at q2
      rw [(hsz u n3 hu2).2] at q3
      rw [hYl, hsum] at q0
      have y1 := u32_xor_nat _ _ (sumOf_lt (s.data.toList.take k)) (sumOf_lt (t.data.toList.take k))
      have y2 := u32_xor_nat (sumOf (s.data.toList.take k) ^^^ sumOf (t.data.toList.take k)) _ (Nat.xor_lt_two_pow (n := 32) (sumOf_lt _) (sumOf_lt _)) (sumOf_lt (u.data.toList.take k))
      have hcv : ∀ W : World, W.heap[w.heap.size]? = wr.heap[w.heap.size]? → (convert 31 9 (.slice (some ⟨w.heap.size, 0, none⟩) k k)).run Try.prog W = .ok (.string Y) W := by
        intro W h
        rw [hY]
        exact RowAt.out (W0 := W) ⟨h.trans hr.1, Below.refl _ _⟩
      have hlt2 : w.heap.size < wr.heap.size := (Array.getElem?_eq_some_iff.1 hr.1).1
      have B0 := Lib.hid hr.2
      generalize sumOf (s.data.toList.take k) = a at *
      generalize sumOf (t.data.toList.take k) = b at *
      generalize sumOf (u.data.toList.take k) = c at *
      generalize s.extract 0 k = ps at *
      generalize t.extract 0 k = pt at *
      generalize u.extract 0 k = pu at *
      obtain ⟨ab, hab⟩ : ∃ ab, ab = a ^^^ b := ⟨_, rfl⟩
      rw [← hab] at y1 y2 q0
      obtain ⟨d, hd⟩ : ∃ d, d = ab ^^^ c := ⟨_, rfl⟩
      rw [← hd] at y2 q0
      have p0 := Lib.hid q0
      have p1 := Lib.hid q1
      have p2 := Lib.hid q2
      have p3 := Lib.hid q3
      have cv := Lib.hid hcv
      clear q0 q1 q2 q3 hcv hr hsum hX hY hYl hsz l hxs hab hd hlt
      have KS : ∀ W W' : World, W.heap[w.heap.size]? = wr.heap[w.heap.size]? → Below W.heap.size W W' → W'.heap[w.heap.size]? = wr.heap[w.heap.size]? ∧ (convert 31 9 (.slice (some ⟨w.heap.size, 0, none⟩) k k)).run Try.prog W' = .ok (.string Y) W' := by
        intro W W' h hb
        have hW : w.heap.size < W.heap.size := by
          have e : (W.heap[w.heap.size]?).isSome = true := by rw [h]; simp [hlt2]
          simpa using e
        have e := (hb.block _ hW).trans h
        exact ⟨e, cv.out _ e⟩
      have KH := Lib.hid KS
      clear KS
      go_wp2_with fail
      go_region_held3 (fun w' => w'.heap[w.heap.size]? = wr.heap[w.heap.size]? ∧ (convert 31 9 (.slice (some ⟨w.heap.size, 0, none⟩) k k)).run Try.prog w' = .ok (.string Y) w')
        (first | exact ⟨rfl, cv.out _ rfl⟩ | (go_split_ands; refine KH.out _ _ ?_ (by assumption); assumption))
        (first | (go_at_call 10; (with_reducible refine (p0.out _).mono ?_); rintro e w1 ⟨rfl, b0⟩) | (go_at_call 10; (with_reducible refine (p1.out _).mono ?_); rintro e w2 ⟨rfl, b1⟩) | (go_at_call 10; (with_reducible refine (p2.out _).mono ?_); rintro e w3 ⟨rfl, b2⟩) | (go_at_call 10; (with_reducible refine (p3.out _).mono ?_); rintro e w4 ⟨rfl, b3⟩) | (go_at_call 7; (with_reducible refine (alive_any _).mono ?_); rintro e w5 ⟨rfl, b4⟩))
      have d0 := B0.out.drew
      have c1 := d0.trans (b0.mono d0.size)
      have c2 := c1.trans (b1.mono c1.size)
      have c3 := c2.trans (b2.mono c2.size)
      have c4 := c3.trans (b3.mono c3.size)
      have c5 := Lib.hid (c4.trans (b4.mono c4.size))
      clear d0 c1 c2 c3 c4 b0 b1 b2 b3 b4
      go_wp2_with fail
      go_ret
      exact ⟨rfl, c5.out⟩

end Go.Proofs.Ytkbgepikmmeppaa
