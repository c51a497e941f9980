/- Walks: Set of more bytes. -/
import Derived.Test.YtehfclgngkhcpaaSX
import Derived.IntWalk
namespace Go.Proofs.Ytehfclgngkhcpaa.Slot
open Go.RowKit
attribute [local go_sem ↓] Go.wp_at_zero Go.wp_at_succ

theorem wrap_sub {x y : Int} (h1 : 0 ≤ x) (h2 : x ≤ 281474976710656) (h3 : 0 ≤ y) (h4 : y ≤ 100000) : IntKind.i64.wrap (x - y) = x - y := IntWalk.i64_in _ (by omega)
/-- the cells of a place that was read -/
structure NRow (n x y : Nat) (w : World) : Prop where
  row : w.heap[n]? = some (.cells #[.int .i64 (x : Int), .int .i64 (y : Int)] 112 (0, 0))
theorem NRow.gives {n x y : Nat} {w : World} (h : NRow n x y w) : w.cell? ⟨n, 0, none⟩ = some (.int .i64 (x : Int)) ∧ w.cell? ⟨n, 1, none⟩ = some (.int .i64 (y : Int)) :=
  ⟨by rw [cell_of_row _ _ _ _ _ _ h.row]; rfl, by rw [cell_of_row _ _ _ _ _ _ h.row]; rfl⟩
theorem NRow.later {n x y : Nat} {w w' : World} (h : NRow n x y w) (t : Below w.heap.size w w') : NRow n x y w' :=
  ⟨(t.block n (Array.getElem?_eq_some_iff.1 h.row).1).trans h.row⟩
theorem NRow.touch {n x y : Nat} {w w' : World} {G : Nat → Prop} (h : NRow n x y w) (t : Touch G w w') (hn : ¬ G n) : NRow n x y w' :=
  ⟨(t.block n (Array.getElem?_eq_some_iff.1 h.row).1 hn).trans h.row⟩

section
variable {w : World} {p g c : Nat} {a : A}
set_option maxRecDepth 100000 in
set_option maxHeartbeats 4000000 in
theorem set_full (h : Area w p g c a) (k : Nat) (t : ByteArray) (ht : t.size ≤ 281474976710656) (hi : k < a.dir.length) (hs : (a.at k).2 < t.size) (hf : a.free < t.size - (a.at k).2) :
    Calls Try.prog 33 #[.pointer (some ⟨p, 0, none⟩), .int .i64 (k : Int), .string t] w fun e w' => e = .returned (.int .i64 4) ∧ Below w.heap.size w w' := by
  have m := has_is h (k : Int)
  rw [if_pos (show hasP a (k : Int) from ⟨by omega, by omega⟩)] at m
  have sp := spot_is h hi
  have he := h.ok.each k hi
  have hn40 := h.ok.hi
  have fr := fun W (tt : Below w.heap.size w W) => free_is (h.later tt)
  obtain ⟨x, hx⟩ : ∃ x, x = (a.at k).1 := ⟨_, rfl⟩
  obtain ⟨y, hy⟩ : ∃ y, y = (a.at k).2 := ⟨_, rfl⟩
  unfold spotV at sp
  rw [← hx, ← hy] at sp
  rw [← hy] at hs he hf
  have ht4 : (t.size : Int) ≤ 281474976710656 := by omega
  have ht0 : (0 : Int) ≤ (t.size : Int) := Int.natCast_nonneg _
  have hy0 : (0 : Int) ≤ (y : Int) := Int.natCast_nonneg _
  have hy1 : (y : Int) ≤ 5000 := by omega
  have hd : decide ((t.size : Int) ≤ (y : Int)) = false := decide_eq_false (by omega)
  have hd2 : decide (t.size ≤ y) = false := decide_eq_false (by omega)
  have hd3 : decide ((a.free : Int) < (t.size : Int) - (y : Int)) = true := decide_eq_true (by omega)
  have hw := wrap_sub ht0 ht4 hy0 (by omega)
  have M := Lib.hid m
  have SP := Lib.hid sp
  have FR := Lib.hid fr
  clear he hn40 hx hy h m sp hi hs hf fr
  go_enter Try.func33, Try.ntmps33
  go_wp2_with fail
  refine M.out.mono ?_
  rintro e w' ⟨rfl, rfl⟩
  go_wp2_with fail
  refine SP.out.mono ?_
  rintro e w1 ⟨rfl, b1⟩
  have b2 : Below w.heap.size w (w1.alloc (.cells #[.int .i64 (x : Int), .int .i64 (y : Int)] 112)) := b1.alloc b1.size _
  obtain ⟨W, hW⟩ : ∃ W, W = w1.alloc (.cells #[.int .i64 (x : Int), .int .i64 (y : Int)] 112) := ⟨_, rfl⟩
  have rn : NRow w1.heap.size x y W := ⟨by rw [hW]; exact heap_alloc_new _ _⟩
  rw [← hW] at b2
  have HW := Lib.hid hW
  have B2 := Lib.hid b2
  have RN := Lib.hid rn
  have g1 := rn.gives.2
  clear b1 b2 hW rn SP M
  go_wp2_with (rw [← HW.out])
  clear HW
  go_region_held3 (fun w' => w'.cell? ⟨w1.heap.size, 0, none⟩ = some (.int .i64 (x : Int)) ∧ w'.cell? ⟨w1.heap.size, 1, none⟩ = some (.int .i64 (y : Int)))
    (first | exact (RN.out.later ((Below.refl _ _).drew)).gives | exact ((RN.out.later ((Below.refl _ _).drew)).later hb).gives)
    (first | (go_at_call 39; refine Calls.mono (FR.out _ B2.out.drew) ?_; rintro e w' ⟨rfl, hb⟩))
  have HE := Lib.hid (B2.out.drew.trans (hb.mono B2.out.drew.size))
  clear hb B2 RN FR
  go_wp2_with fail
  go_ret
  exact ⟨rfl, HE.out⟩

set_option maxRecDepth 100000 in
set_option maxHeartbeats 4000000 in
theorem set_long (h : Area w p g c a) (k : Nat) (t : ByteArray) (hi : k < a.dir.length) (hs : (a.at k).2 < t.size) (hf : t.size - (a.at k).2 ≤ a.free) :
    Calls Try.prog 33 #[.pointer (some ⟨p, 0, none⟩), .int .i64 (k : Int), .string t] w fun e w' => e = .returned (.int .i64 0) ∧ (Area w' p g c ((if a.gap < t.size then (a.hollow k).compact else a).setAt k t.data.toList) ∧ Touch (both p g) w w') := by
  have hk := h.ok
  have hlt := h.below
  have m := has_is h (k : Int)
  rw [if_pos (show hasP a (k : Int) from ⟨by omega, by omega⟩)] at m
  have sp := spot_is h hi
  have he := hk.each k hi
  have hn40 := hk.hi
  have fr := fun W (tt : Below w.heap.size w W) => free_is (h.later tt)
  have ga := fun W (tt : Below w.heap.size w W) => gap_is (h.later tt)
  have htl : t.data.toList.length = t.size := rfl
  have sl := setL_all hk hi (t := t.data.toList) (by rw [htl]; exact hs) (by rw [htl]; exact hf)
  rw [htl] at sl
  have hfr : a.free ≤ 4096 := by unfold A.free; omega
  have hollow : ∀ W, Below w.heap.size w W → Calls Try.prog 79 #[.pointer (some ⟨p, 0, none⟩), .int .i64 (k : Int), .agg #[.int .i64 ((a.at k).1 : Int), .int .i64 0]] W fun e w' => e = .returned (.tuple #[]) ∧ (Area w' p g c (a.hollow k) ∧ Touch (both p g) W w') := fun W tt => by
    obtain ⟨⟨b, A0, I0⟩, _⟩ := h.later tt
    have hfin := hk.fin
    have hlow := hk.low
    have hlen := I0.len
    unfold A.fin at hfin
    have := point_any A0 k (by omega) (a.at k).1 0 (by omega) (by omega)
    exact this.mono fun _ _ ⟨x1, x2, x3⟩ => ⟨x1, ⟨⟨_, x2, hollow_all I0 hk hi⟩, hollow_ok hk hi⟩, x3⟩
  obtain ⟨a1, ha1⟩ : ∃ a1, a1 = (if a.gap < t.size then (a.hollow k).compact else a) := ⟨_, rfl⟩
  rw [← ha1] at sl ⊢
  have hz : ∃ z : Bool, decide ((a.gap : Int) < (t.size : Int)) = z ∧ decide (a.gap < t.size) = z := ⟨_, rfl, by rw [decide_eq_decide]; omega⟩
  obtain ⟨z, e4, e5⟩ := hz
  have hc : (z = true ∧ a1 = (a.hollow k).compact) ∨ (z = false ∧ a1 = a) := by
    rw [ha1, ← e5]
    by_cases hg : a.gap < t.size
    · rw [if_pos hg]; simp [hg]
    · rw [if_neg hg]; simp [hg]
  have HC := Lib.hid hc
  obtain ⟨x, hx⟩ : ∃ x, x = (a.at k).1 := ⟨_, rfl⟩
  obtain ⟨y, hy⟩ : ∃ y, y = (a.at k).2 := ⟨_, rfl⟩
  unfold spotV at sp
  rw [← hx, ← hy] at sp
  rw [← hx] at hollow
  rw [← hy] at hs he hf
  have ht5 : t.size ≤ 10000 := by omega
  have ht4 : (t.size : Int) ≤ 10000 := by omega
  have ht0 : (0 : Int) ≤ (t.size : Int) := Int.natCast_nonneg _
  have hy0 : (0 : Int) ≤ (y : Int) := Int.natCast_nonneg _
  have hy1 : (y : Int) ≤ 5000 := by omega
  have hd : decide ((t.size : Int) ≤ (y : Int)) = false := decide_eq_false (by omega)
  have hd2 : decide (t.size ≤ y) = false := decide_eq_false (by omega)
  have hd3 : decide ((a.free : Int) < (t.size : Int) - (y : Int)) = false := decide_eq_false (by omega)
  have hw := wrap_sub ht0 (by omega) hy0 (by omega)
  have SL := Lib.hid sl
  have HK := Lib.hid hk
  have HI := Lib.hid hi
  have H := Lib.hid h
  have HO := Lib.hid hollow
  have GA := Lib.hid ga
  have M := Lib.hid m
  have SP := Lib.hid sp
  have FR := Lib.hid fr
  clear he hn40 hx hy h m sp hi hs hf fr ga hollow hk sl ha1 hc htl hfr
  go_enter Try.func33, Try.ntmps33
  go_wp2_with fail
  refine M.out.mono ?_
  rintro e w' ⟨rfl, rfl⟩
  go_wp2_with fail
  refine SP.out.mono ?_
  rintro e w1 ⟨rfl, b1⟩
  have b2 : Below w.heap.size w (w1.alloc (.cells #[.int .i64 (x : Int), .int .i64 (y : Int)] 112)) := b1.alloc b1.size _
  obtain ⟨W, hW⟩ : ∃ W, W = w1.alloc (.cells #[.int .i64 (x : Int), .int .i64 (y : Int)] 112) := ⟨_, rfl⟩
  have rn : NRow w1.heap.size x y W := ⟨by rw [hW]; exact heap_alloc_new _ _⟩
  have hnp : ¬ both p g w1.heap.size := fun hh => by have := hlt _ hh; have := b1.size; omega
  rw [← hW] at b2
  have HW := Lib.hid hW
  have B2 := Lib.hid b2
  have RN := Lib.hid rn
  have g1 := rn.gives.2
  clear b1 b2 hW rn SP M
  go_wp2_with (rw [← HW.out])
  clear HW
  go_region_held3 (fun w' => w'.cell? ⟨w1.heap.size, 0, none⟩ = some (.int .i64 (x : Int)) ∧ w'.cell? ⟨w1.heap.size, 1, none⟩ = some (.int .i64 (y : Int)))
    (first | exact (RN.out.later ((Below.refl _ _).drew)).gives | exact ((RN.out.later ((Below.refl _ _).drew)).later hb).gives)
    (first | (go_at_call 39; refine Calls.mono (FR.out _ B2.out.drew) ?_; rintro e w' ⟨rfl, hb⟩))
  have RN2 := Lib.hid ((RN.out.later ((Below.refl _ _).drew)).later hb)
  have B3 := Lib.hid (B2.out.drew.trans (hb.mono B2.out.drew.size))
  clear hb B2 RN FR g1
  have g2 := RN2.out.gives.1
  go_wp2_with fail
  refine (GA.out _ B3.out).mono ?_
  rintro e w3 ⟨rfl, rfl⟩
  go_upto_if 54 with fail
  go_cut [] (fun wx => Area wx p g c a1 ∧ Touch (both p g) w wx)
  case first =>
    rcases HC.out with ⟨rfl, hc⟩ | ⟨rfl, hc⟩
    · have HC2 := Lib.hid hc
      clear hc
      go_wp2_with fail
      refine (HO.out _ B3.out).mono ?_
      rintro e w4 ⟨rfl, h4⟩
      have cp := compact_any h4.1
      rw [← HC2.out] at cp
      have CP := Lib.hid cp
      have T4 := Lib.hid ((Touch.ofNew B3.out).trans' h4.2)
      clear h4 cp
      go_wp2_with fail
      refine CP.out.mono ?_
      rintro e w5 ⟨rfl, h5⟩
      have H2 := Lib.hid (show Area w5 p g c a1 ∧ Touch (both p g) w w5 from ⟨h5.1, T4.out.trans' h5.2⟩)
      clear h5
      go_wp2_with fail
      go_meet
      exact H2.out
    · have H2 := Lib.hid (show ∀ w1, Below w.heap.size w w1 → Area w1 p g c a1 ∧ Touch (both p g) w w1 from fun w1 tt => ⟨by rw [hc]; exact H.out.later tt, Touch.ofNew tt⟩)
      clear hc
      go_wp2_with fail
      go_meet
      exact H2.out _ B3.out
  case rest =>
    obtain ⟨hA2, hT2⟩ := hcut
    obtain ⟨⟨b, A2, I2⟩, hk1⟩ := hA2
    obtain ⟨r1, r2, r3, r4, r5, r6⟩ := SL.out
    have hi := HI.out
    have hfin := hk1.fin
    have hlow := hk1.low
    have hn40 := hk1.hi
    have hlen := I2.len
    have htl : t.data.toList.length = t.size := rfl
    obtain ⟨p1, p2⟩ := stand_all I2 (by omega) (t := t.data.toList) (by rw [htl]; omega) hlow hn40 (i := k) (by omega)
    have l2 := I2.low
    have hfd : a1.fin = 4 + 4 * a1.dir.length := rfl
    have st := stand_any A2 t (by omega) (by omega)
    rw [l2] at st
    unfold spotV at st
    simp only at st
    have P6 := Lib.hid (show ∀ W, Ar W p g c (standB b t.data.toList) → Calls Try.prog 79 #[.pointer (some ⟨p, 0, none⟩), .int .i64 (k : Int), .agg #[.int .i64 ((a1.low - t.size : Nat) : Int), .int .i64 (t.size : Int)]] W fun e w' => e = .returned (.tuple #[]) ∧ (Area w' p g c (a1.setAt k t.data.toList) ∧ Touch (both p g) W w') from fun W hh => by
      have := point_any hh k (by omega) (a1.low - t.size) t.size (by omega) (by omega)
      exact this.mono fun _ _ ⟨x1, x2, x3⟩ => ⟨x1, ⟨⟨_, x2, p1⟩, setAt_ok hk1 (by omega) (by rw [htl]; omega)⟩, x3⟩)
    have ST := Lib.hid st
    have T2 := Lib.hid hT2
    clear p1 p2 hT2 I2 hk1 r1 r2 r3 r4 r5 r6 hi hfin hlow hn40 hlen htl hfd A2 st l2 g2
    generalize ((a1.low - t.size : Nat) : Int) = z1 at *
    go_wp2_with fail
    refine ST.out.mono ?_
    rintro e w7 ⟨rfl, h7⟩
    have P8 := Lib.hid (P6.out w7 h7.1)
    have T7 := Lib.hid (T2.out.trans' h7.2)
    clear h7 T2 P6 ST
    go_wp2_with fail
    refine P8.out.mono ?_
    rintro e w8 ⟨rfl, h8⟩
    have HE := Lib.hid (show Area w8 p g c (a1.setAt k t.data.toList) ∧ Touch (both p g) w w8 from ⟨h8.1, T7.out.trans' h8.2⟩)
    clear h8 T7 P8
    go_wp2_with fail
    go_ret
    exact ⟨rfl, HE.out⟩
theorem set_is (h : Area w p g c a) (i : Int) (t : ByteArray) (ht : t.size ≤ 281474976710656) :
    Calls Try.prog 33 #[.pointer (some ⟨p, 0, none⟩), .int .i64 i, .string t] w fun e w' => e = .returned (.int .i64 (setE a i t.data.toList)) ∧ (Area w' p g c (setA a i t.data.toList) ∧ Touch (both p g) w w') := by
  have htl : t.data.toList.length = t.size := rfl
  unfold setA setE
  rw [htl]
  by_cases h1 : hasP a i
  · rw [if_neg (fun h => h h1)]
    have h1' := h1
    unfold hasP at h1'
    obtain ⟨k, rfl⟩ : ∃ k : Nat, i = k := ⟨i.toNat, by omega⟩
    have hki : k < a.dir.length := by omega
    rw [Int.toNat_natCast]
    by_cases h2 : t.size ≤ (a.at k).2
    · rw [if_pos h2, if_neg (by simp), if_pos h2]
      exact set_in h k t hki h2
    · rw [if_neg h2]
      by_cases h3 : a.free < t.size - (a.at k).2
      · rw [if_pos h3, if_pos (by simp)]
        exact (set_full h k t ht hki (by omega) h3).mono fun _ _ ⟨x1, x2⟩ => ⟨x1, h.later x2, Touch.ofNew x2⟩
      · rw [if_neg h3, if_neg (by simp), if_neg h2]
        exact set_long h k t hki (by omega) (by omega)
  · rw [if_pos h1, if_pos (by simp)]
    exact (set_no h i t h1).mono fun _ _ ⟨x1, x2⟩ => ⟨x1, x2 ▸ h, x2 ▸ Touch.refl _ _⟩
end

end Go.Proofs.Ytehfclgngkhcpaa.Slot
