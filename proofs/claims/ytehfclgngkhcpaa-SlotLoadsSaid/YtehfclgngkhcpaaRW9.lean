/- Walks: the document's Set of more bytes; its calls, whole. -/
import Derived.Test.YtehfclgngkhcpaaRW7
import Derived.Test.YtehfclgngkhcpaaRW3
namespace Go.Proofs.Ytehfclgngkhcpaa.Slot
open Go.RowKit
attribute [local go_sem ↓] Go.wp_at_zero Go.wp_at_succ

section
variable {w : World} {q : Nat} {a : A} {F : Nat → Prop}
set_option maxRecDepth 100000 in
set_option maxHeartbeats 8000000 in
theorem qset_long (hk : a.ok) (H : Rf w q a F) (k : Nat) (t : ByteArray) (hi : k < a.dir.length) (hs : (a.at k).2 < t.size) (hf : t.size - (a.at k).2 ≤ a.free) :
    Calls Try.prog 68 #[.pointer (some ⟨q, 0, none⟩), .int .i64 (k : Int), .string t] w fun e w' => e = .returned (.int .i64 0) ∧ (Rf w' q ((if a.gap < t.size then (a.hollow k).compact else a).setAt k t.data.toList) F ∧ Touch F w w') := by
  have hlt := H.below
  have he := hk.each k hi
  have hn40 := hk.hi
  have hfin := hk.fin
  have hlow := hk.low
  unfold A.fin at hfin
  have htl : t.data.toList.length = t.size := rfl
  have sl := setL_all hk hi (t := t.data.toList) (by rw [htl]; exact hs) (by rw [htl]; exact hf)
  rw [htl] at sl
  have hfr : a.free ≤ 4096 := by unfold A.free; omega
  have fr := Lib.hid (fun W (tt : Below w.heap.size w W) => qfree_is hk (H.later tt))
  have gp := Lib.hid (fun W (tt : Below w.heap.size w W) => qgap_is hk (H.later tt))
  obtain ⟨ad, cap, c2⟩ := H.len_cell
  obtain ⟨gd, rfl, d1, d2, _⟩ := H.dirAt c2 hi (0, 0)
  have hho : a.hollow k = ⟨a.cells, a.low, a.dir.set k ((a.at k).1, 0)⟩ := rfl
  have HHO := Lib.hid (hollow_ok hk hi)
  obtain ⟨x, hx⟩ : ∃ x, x = (a.at k).1 := ⟨_, rfl⟩
  obtain ⟨y, hy⟩ : ∃ y, y = (a.at k).2 := ⟨_, rfl⟩
  rw [← hx] at d1 he hho
  rw [← hy] at d2 he hs hf
  obtain ⟨a1, ha1⟩ : ∃ a1, a1 = (if a.gap < t.size then (a.hollow k).compact else a) := ⟨_, rfl⟩
  rw [← ha1] at sl ⊢
  have hz : ∃ z : Bool, decide ((a.gap : Int) < (t.size : Int)) = z ∧ decide (a.gap < t.size) = z := ⟨_, rfl, by rw [decide_eq_decide]; omega⟩
  obtain ⟨z, e4, e5⟩ := hz
  have hc : (z = true ∧ a1 = (a.hollow k).compact) ∨ (z = false ∧ a1 = a) := by
    rw [ha1, ← e5]
    by_cases hg : a.gap < t.size
    · rw [if_pos hg]; simp [hg]
    · rw [if_neg hg]; simp [hg]
  have HC := Lib.hid hc
  have SL := Lib.hid sl
  have HO := Lib.hid hho
  have HI := Lib.hid hi
  have HLT := Lib.hid hlt
  obtain ⟨W, hW⟩ : ∃ W, W = w.alloc (.cells #[.int .i64 (x : Int), .int .i64 (y : Int)] 110) := ⟨_, rfl⟩
  have ba : Below w.heap.size w W := by rw [hW]; exact (Below.refl _ _).alloc (Nat.le_refl _) _
  have rn : PR w.heap.size x y W := ⟨by rw [hW]; exact heap_alloc_new _ _⟩
  have hnb : ¬ F w.heap.size := fun hh => by have := hlt _ hh; omega
  have HNB := Lib.hid hnb
  have RN := Lib.hid rn
  have B2 := Lib.hid ba
  have HH := Lib.hid H
  have HW := Lib.hid hW
  have g0 := rn.g0
  have g1 := rn.g1
  have e0 : decide ((k : Int) < 0) = false := decide_eq_false (by omega)
  have e1 : decide ((a.dir.length : Int) ≤ (k : Int)) = false := decide_eq_false (by omega)
  have e1' : decide (a.dir.length ≤ k) = false := decide_eq_false (by omega)
  have k0 : (k : Int) ≤ 2000 := by omega
  have k1 : (0 : Int) ≤ (k : Int) := Int.natCast_nonneg _
  have k2 : (k : Int) < (a.dir.length : Int) := by omega
  have ht5 : t.size ≤ 10000 := by omega
  have ht4 : (t.size : Int) ≤ 10000 := by omega
  have ht0 : (0 : Int) ≤ (t.size : Int) := Int.natCast_nonneg _
  have hy0 : (0 : Int) ≤ (y : Int) := Int.natCast_nonneg _
  have hy1 : (y : Int) ≤ 5000 := by omega
  have hd : decide ((t.size : Int) ≤ (y : Int)) = false := decide_eq_false (by omega)
  have hd2 : decide (t.size ≤ y) = false := decide_eq_false (by omega)
  have hd3 : decide ((a.free : Int) < (t.size : Int) - (y : Int)) = false := decide_eq_false (by omega)
  have hw := wrap_sub ht0 (by omega) hy0 (by omega)
  clear hx hy he hn40 hfin hlow hW rn ba hk H hs hf hi hho ha1 hc sl htl hfr hlt hnb
  go_enter Try.func68, Try.ntmps68
  go_wp2_with (rw [← HW.out])
  clear HW
  go_region_held3 (fun w' => w'.cell? ⟨w.heap.size, 1, none⟩ = some (.int .i64 (y : Int)))
    (first | exact (RN.out.later ((Below.refl _ _).drew)).g1 | exact ((RN.out.later ((Below.refl _ _).drew)).later hb).g1)
    (first | (go_at_call 73; refine Calls.mono (fr.out _ B2.out.drew) ?_; rintro e w' ⟨rfl, hb⟩))
  have RN2 := Lib.hid ((RN.out.later ((Below.refl _ _).drew)).later hb)
  have B3 := Lib.hid (B2.out.drew.trans (hb.mono B2.out.drew.size))
  clear hb B2 RN fr g0 g1 d1 d2 c2
  go_wp2_with fail
  refine (gp.out _ B3.out).mono ?_
  rintro e w3 ⟨rfl, hb⟩
  have RN3 := Lib.hid (RN2.out.later hb)
  have B4 := Lib.hid (B3.out.trans (hb.mono B3.out.size))
  clear hb B3 RN2 gp
  go_upto_if 73 with fail
  go_cut [] (fun wx => Rf wx q a1 F ∧ Touch F w wx)
  case first =>
    rcases HC.out with ⟨rfl, hc⟩ | ⟨rfl, hc⟩
    · have HC2 := Lib.hid hc
      have g1 := RN3.out.g1
      have fz1 := RN3.out.fz 1
      have hR3 := HH.out.later B4.out
      have rn5 := RN3.out.set1 0
      have hR5 := hR3.setOut (x := ⟨w.heap.size, 1, none⟩) HNB.out (.int .i64 ((0 : Nat) : Int))
      have hT5 := (Touch.ofNew B4.out : Touch F w w3).setNew (x := ⟨w.heap.size, 1, none⟩) (Nat.le_refl _) (.int .i64 ((0 : Nat) : Int))
      obtain ⟨ad6, cap6, c26⟩ := hR5.len_cell
      obtain ⟨gd6, rfl, d1, d2, d3, d4, dF, dq6, dR, dT⟩ := hR5.drew'.dirAt (ad := ad6) (cap := cap6) c26 (k := k) HI.out (x, 0)
      obtain ⟨W5, hW5⟩ : ∃ W5, W5 = w3.setCell ⟨w.heap.size, 1, none⟩ (.int .i64 0) := ⟨_, rfl⟩
      have hW5' : w3.setCell ⟨w.heap.size, 1, none⟩ (.int .i64 ((0 : Nat) : Int)) = W5 := hW5.symm
      rw [hW5'] at rn5 c26 d1 d2 d3 d4 dR dT hT5
      have h0 := rn5.g0
      have h1 : W5.cell? ⟨w.heap.size, 1, none⟩ = some (.int .i64 0) := rn5.g1
      have c26' : W5.cell? ⟨q, 2, none⟩ = some (.slice (some ⟨gd6, 0, none⟩) a.dir.length cap6) := c26
      have d1' : W5.cell? ⟨gd6, k * 2, none⟩ = _ := d1
      have d2' : W5.cell? ⟨gd6, k * 2 + 1, none⟩ = _ := d2
      have d3' : W5.frozen? ⟨gd6, k * 2, none⟩ = false := d3
      have d4' : W5.frozen? ⟨gd6, k * 2 + 1, none⟩ = false := d4
      have hR6 : Rf ((W5.drew.setCell ⟨gd6, k * 2, none⟩ (.int .i64 (x : Int))).setCell ⟨gd6, k * 2 + 1, none⟩ (.int .i64 0)) q (a.hollow k) F := by rw [HO.out]; exact dR
      have HT6 := Lib.hid (show Touch F w ((W5.drew.setCell ⟨gd6, k * 2, none⟩ (.int .i64 (x : Int))).setCell ⟨gd6, k * 2 + 1, none⟩ (.int .i64 0)) from hT5.drew.trans' dT)
      have CP := Lib.hid (qcompact_any HHO.out hR6)
      have HW5 := Lib.hid hW5
      clear hc hR3 rn5 hR5 hT5 c26 d1 d2 d3 d4 dR dT hW5 hW5' hR6
      go_wp2_with (rw [← HW5.out])
      (refine wp_region_still_tail 7 (by kernel_rfl) (by kernel_rfl) (still_of_quiet _ _ ?_); simp only [List.take_succ_cons, List.take_zero, List.drop_succ_cons, List.drop_zero]; (repeat (first | go_big_quiet_skip | (go_big_quiet_want; go_big_quiet_op; first | go_big_quiet_on | (apply Exists.intro; refine ⟨?_, ?_⟩; (first | fail); go_big_quiet_on)))); refine wpQuiet_nil ?_)
      go_wp2_with fail
      refine CP.out.mono ?_
      rintro e w6 ⟨rfl, h6⟩
      have H2 := Lib.hid (show Rf w6 q a1 F ∧ Touch F w w6 from ⟨by rw [HC2.out]; exact h6.1, HT6.out.trans' h6.2⟩)
      clear h6
      go_wp2_with fail
      go_meet
      exact H2.out
    · have H2 := Lib.hid (show Rf w3 q a1 F ∧ Touch F w w3 from ⟨by rw [hc]; exact HH.out.later B4.out, Touch.ofNew B4.out⟩)
      clear hc
      go_wp2_with fail
      go_meet
      exact H2.out
  case rest =>
    obtain ⟨hR, hT⟩ := hcut
    obtain ⟨r1, r2, r3, r4, r5, r6⟩ := SL.out
    have hlow := r1.low
    have hn40 := r1.hi
    have htl : t.data.toList.length = t.size := rfl
    have qb := qbelow_any hR t (by omega) hlow (by omega)
    have QB := Lib.hid qb
    have HT := Lib.hid hT
    have hpa : a1.setAt k t.data.toList = ⟨a1.lay t.data.toList, a1.low - t.size, a1.dir.set k (a1.low - t.size, t.size)⟩ := rfl
    have HPA := Lib.hid hpa
    have HKA := Lib.hid (show k < a1.dir.length by rw [r2]; exact HI.out)
    have HR2 := Lib.hid r2
    obtain ⟨z1, hz1⟩ : ∃ z1, z1 = a1.low - t.size := ⟨_, rfl⟩
    rw [← hz1] at QB HPA
    clear qb hR hT r1 r2 r3 r4 r5 r6 hlow hn40 htl hpa hz1 e0 e1 e1'
    go_wp2_with fail
    refine QB.out.mono ?_
    rintro e w4 ⟨rfl, hR4, hT4⟩
    have ba : Below w4.heap.size w4 (w4.alloc (.cells #[.int .i64 (z1 : Int), .int .i64 (t.size : Int)] 110)) := (Below.refl _ _).alloc (Nat.le_refl _) _
    obtain ⟨W6, hW6⟩ : ∃ W6, W6 = w4.alloc (.cells #[.int .i64 (z1 : Int), .int .i64 (t.size : Int)] 110) := ⟨_, rfl⟩
    have rn : PR w4.heap.size z1 t.size W6 := ⟨by rw [hW6]; exact heap_alloc_new _ _⟩
    rw [← hW6] at ba
    have hR6 := hR4.later ba
    obtain ⟨ad6, cap6, c26⟩ := hR6.len_cell
    obtain ⟨gd6, rfl, d1, d2, d3, d4, dF, dq6, dR, dT⟩ := hR6.drew'.dirAt (ad := ad6) (cap := cap6) c26 (k := k) HKA.out (z1, t.size)
    have g0 := rn.g0
    have g1 := rn.g1
    have HE := Lib.hid (show Rf _ q (a1.setAt k t.data.toList) F ∧ Touch F w _ from ⟨by rw [HPA.out]; exact dR, ((HT.out.trans' hT4).trans' (Touch.ofNew ba)).drew.trans' dT⟩)
    have c26' : W6.cell? ⟨q, 2, none⟩ = some (.slice (some ⟨gd6, 0, none⟩) a.dir.length cap6) := by
      rw [c26]
      show some (Value.slice _ a1.dir.length _) = _
      rw [HR2.out]
    have d1' : W6.cell? ⟨gd6, k * 2, none⟩ = _ := d1
    have d2' : W6.cell? ⟨gd6, k * 2 + 1, none⟩ = _ := d2
    have d3' : W6.frozen? ⟨gd6, k * 2, none⟩ = false := d3
    have d4' : W6.frozen? ⟨gd6, k * 2 + 1, none⟩ = false := d4
    have HW6 := Lib.hid hW6
    clear hR4 hT4 ba hR6 c26 rn d1 d2 d3 d4 dR dT hW6 QB HT
    go_wp2_with (rw [← HW6.out])
    (refine wp_region_still_tail 7 (by kernel_rfl) (by kernel_rfl) (still_of_quiet _ _ ?_); simp only [List.take_succ_cons, List.take_zero, List.drop_succ_cons, List.drop_zero]; (repeat (first | go_big_quiet_skip | (go_big_quiet_want; go_big_quiet_op; first | go_big_quiet_on | (apply Exists.intro; refine ⟨?_, ?_⟩; (first | fail); go_big_quiet_on)))); refine wpQuiet_nil ?_)
    go_wp2_with fail
    go_ret
    exact ⟨rfl, HE.out⟩

/-! ### its calls, whole -/
theorem qput_is (hk : a.ok) (H : Rf w q a F) (i : Int) (t : ByteArray) (ht : t.size ≤ 281474976710656) :
    Calls Try.prog 71 #[.pointer (some ⟨q, 0, none⟩), .int .i64 i, .string t] w fun e w' => e = .returned (.int .i64 (putE a i t.data.toList)) ∧ QP w q F (putA a i t.data.toList) w' := by
  have htl : t.data.toList.length = t.size := rfl
  unfold putA putE
  rw [htl]
  by_cases h1 : i < 0 ∨ (a.dir.length : Int) < i
  · rw [if_pos h1, if_neg (by simp)]
    exact (qput_arg H i t h1).mono fun _ _ ⟨x1, x2⟩ => ⟨x1, x2 ▸ QP.of ⟨H, Touch.refl _ _⟩⟩
  · rw [if_neg h1]
    by_cases h2 : a.free < t.size + 4
    · rw [if_pos h2, if_neg (by simp)]
      exact (qput_full hk H i t ht (by omega) h2).mono fun _ _ ⟨x1, x2⟩ => ⟨x1, QP.of ⟨H.later x2, Touch.ofNew x2⟩⟩
    · rw [if_neg h2, if_pos rfl]
      obtain ⟨k, rfl⟩ : ∃ k : Nat, i = k := ⟨i.toNat, by omega⟩
      exact qput_room hk H k t (by omega) (by omega)
theorem qset_is (hk : a.ok) (H : Rf w q a F) (i : Int) (t : ByteArray) (ht : t.size ≤ 281474976710656) :
    Calls Try.prog 68 #[.pointer (some ⟨q, 0, none⟩), .int .i64 i, .string t] w fun e w' => e = .returned (.int .i64 (setE a i t.data.toList)) ∧ QP w q F (setA a i t.data.toList) w' := by
  have htl : t.data.toList.length = t.size := rfl
  unfold setA setE
  rw [htl]
  by_cases h1 : hasP a i
  · rw [if_neg (fun h => h h1)]
    have h1' := h1
    unfold hasP at h1'
    obtain ⟨k, rfl⟩ : ∃ k : Nat, i = k := ⟨i.toNat, by omega⟩
    have hki : k < a.dir.length := by omega
    rw [Int.toNat_natCast]
    by_cases h2 : t.size ≤ (a.at k).2
    · rw [if_pos h2, if_neg (by simp), if_pos h2]
      exact (qset_in hk H k t hki h2).mono fun _ _ ⟨x1, x2⟩ => ⟨x1, QP.of x2⟩
    · rw [if_neg h2]
      by_cases h3 : a.free < t.size - (a.at k).2
      · rw [if_pos h3, if_pos (by simp)]
        exact (qset_full hk H k t ht hki (by omega) h3).mono fun _ _ ⟨x1, x2⟩ => ⟨x1, QP.of ⟨H.later x2, Touch.ofNew x2⟩⟩
      · rw [if_neg h3, if_neg (by simp), if_neg h2]
        exact (qset_long hk H k t hki (by omega) (by omega)).mono fun _ _ ⟨x1, x2⟩ => ⟨x1, QP.of x2⟩
  · rw [if_pos h1, if_pos (by simp)]
    exact (qset_no H i t h1).mono fun _ _ ⟨x1, x2⟩ => ⟨x1, x2 ▸ QP.of ⟨H, Touch.refl _ _⟩⟩
theorem qremove_is (hk : a.ok) (H : Rf w q a F) (i : Int) :
    Calls Try.prog 69 #[.pointer (some ⟨q, 0, none⟩), .int .i64 i] w fun e w' => e = .returned (.int .i64 (remE a i)) ∧ QP w q F (remA a i) w' := by
  have h2 := hk.hi
  have h3 := hk.fin
  have h4 := hk.low
  unfold remA remE
  by_cases h1 : hasP a i
  · rw [if_pos h1, if_pos h1]
    have h1' := h1
    unfold hasP at h1'
    obtain ⟨k, rfl⟩ : ∃ k : Nat, i = k := ⟨i.toNat, by omega⟩
    exact qremove_yes H k (by omega) (by unfold A.fin at h3; omega) (by omega) (by omega)
  · rw [if_neg h1, if_neg h1]
    exact (qremove_no H i h1).mono fun _ _ ⟨x1, x2⟩ => ⟨x1, x2 ▸ QP.of ⟨H, Touch.refl _ _⟩⟩
end

end Go.Proofs.Ytehfclgngkhcpaa.Slot
