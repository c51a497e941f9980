/- Walks: the document's Put. -/
import Derived.Test.YtehfclgngkhcpaaRW5
namespace Go.Proofs.Ytehfclgngkhcpaa.Slot
open Go.RowKit
attribute [local go_sem ↓] Go.wp_at_zero Go.wp_at_succ

section
variable {w : World} {q : Nat} {a : A} {F : Nat → Prop}
theorem qgap_is (hk : a.ok) (H : Rf w q a F) : Calls Try.prog 74 #[.pointer (some ⟨q, 0, none⟩)] w fun e w' => e = .returned (.int .i64 (a.gap : Int)) ∧ Below w.heap.size w w' := by
  have h1 := hk.hi
  have h2 := hk.low
  have h3 := hk.fin
  have := qgap_any H (by unfold A.fin at h3; omega) (by omega)
  rwa [show (a.low : Int) - (a.fin : Int) = (a.gap : Int) by unfold A.gap; omega] at this
theorem qfree_is (hk : a.ok) (H : Rf w q a F) : Calls Try.prog 73 #[.pointer (some ⟨q, 0, none⟩)] w fun e w' => e = .returned (.int .i64 (a.free : Int)) ∧ Below w.heap.size w w' := by
  have h1 := hk.hi
  have h2 := hk.low
  have h3 := hk.fin
  have h4 := hk.room
  have := qfree_any H (by unfold A.fin at h3; omega) (by omega) (by omega)
  rwa [show (a.n : Int) - (a.fin : Int) - (tot a.dir : Int) = (a.free : Int) by unfold A.free; omega] at this
set_option maxRecDepth 100000 in
theorem qput_arg (H : Rf w q a F) (i : Int) (t : ByteArray) (hi : i < 0 ∨ (a.dir.length : Int) < i) : Calls Try.prog 71 #[.pointer (some ⟨q, 0, none⟩), .int .i64 i, .string t] w fun e w' => e = .returned (.int .i64 2) ∧ w = w' := by
  obtain ⟨ad, cap, c2⟩ := H.len_cell
  by_cases h0 : i < 0
  · have e1 : decide (i < 0) = true := decide_eq_true h0
    clear h0 hi H
    go_enter Try.func71, Try.ntmps71
    go_wp2_with fail
    go_ret
    exact ⟨rfl, rfl⟩
  · have e1 : decide (i < 0) = false := decide_eq_false h0
    have e2 : decide ((a.dir.length : Int) < i) = true := decide_eq_true (by omega)
    clear h0 hi H
    go_enter Try.func71, Try.ntmps71
    go_wp2_with fail
    go_ret
    exact ⟨rfl, rfl⟩
set_option maxRecDepth 100000 in
theorem qput_full (hk : a.ok) (H : Rf w q a F) (i : Int) (t : ByteArray) (ht : t.size ≤ 281474976710656) (hi : 0 ≤ i ∧ i ≤ (a.dir.length : Int)) (hf : a.free < t.size + 4) : Calls Try.prog 71 #[.pointer (some ⟨q, 0, none⟩), .int .i64 i, .string t] w fun e w' => e = .returned (.int .i64 4) ∧ Below w.heap.size w w' := by
  obtain ⟨ad, cap, c2⟩ := H.len_cell
  have fr := Lib.hid (qfree_is hk H)
  have e0 : decide (i < 0) = false := decide_eq_false (by omega)
  have e1 : decide ((a.dir.length : Int) < i) = false := decide_eq_false (by omega)
  have e2 : decide ((a.free : Int) < (t.size : Int) + 4) = true := decide_eq_true (by omega)
  have e3 : decide (a.free < t.size + 4) = true := decide_eq_true hf
  clear hi hf H hk
  go_enter Try.func71, Try.ntmps71
  go_wp2_with fail
  refine fr.out.mono ?_
  rintro e w' ⟨rfl, hb⟩
  have HB := Lib.hid hb
  clear hb
  go_wp2_with fail
  go_ret
  exact ⟨rfl, HB.out⟩

set_option maxRecDepth 100000 in
set_option maxHeartbeats 8000000 in
theorem qput_room (hk : a.ok) (H : Rf w q a F) (k : Nat) (t : ByteArray) (hi : k ≤ a.dir.length) (hf : t.size + 4 ≤ a.free) :
    Calls Try.prog 71 #[.pointer (some ⟨q, 0, none⟩), .int .i64 (k : Int), .string t] w fun e w' => e = .returned (.int .i64 0) ∧ QP w q F ((room a (t.size + 4)).putAt k t.data.toList) w' := by
  obtain ⟨ad, cap, c2⟩ := H.len_cell
  have hfr : a.free ≤ 4096 := by have := hk.hi; unfold A.free; omega
  have hdl : a.dir.length ≤ 2000 := by have := hk.hi; have := hk.fin; have := hk.low; unfold A.fin at *; omega
  have ht5 : t.size ≤ 5000 := by omega
  have fr := Lib.hid (qfree_is hk H)
  have gp := Lib.hid (fun W (t : Below w.heap.size w W) => qgap_is hk (H.later t))
  have co := Lib.hid (fun W (t : Below w.heap.size w W) => qcompact_any hk (H.later t))
  have RM := Lib.hid (room_all hk (t.size + 4))
  have HH := Lib.hid H
  have HF := Lib.hid hf
  have HI := Lib.hid hi
  have e0 : decide ((k : Int) < 0) = false := decide_eq_false (by omega)
  have e1 : decide ((a.dir.length : Int) < (k : Int)) = false := decide_eq_false (by omega)
  have e1' : decide (a.dir.length < k) = false := decide_eq_false (by omega)
  have e2 : decide ((a.free : Int) < (t.size : Int) + 4) = false := decide_eq_false (by omega)
  have e3 : decide (a.free < t.size + 4) = false := decide_eq_false (by omega)
  have k0 : (k : Int) ≤ 2000 := by omega
  have k1 : (0 : Int) ≤ (k : Int) := Int.natCast_nonneg _
  have t0 : (t.size : Int) ≤ 5000 := by omega
  have t1 : (0 : Int) ≤ (t.size : Int) := Int.natCast_nonneg _
  have HLT := Lib.hid H.below
  clear hi hf H
  obtain ⟨a1, ha1⟩ : ∃ a1, a1 = room a (t.size + 4) := ⟨_, rfl⟩
  rw [← ha1] at RM ⊢
  unfold room at ha1
  have hz : ∃ z : Bool, decide ((a.gap : Int) < (t.size : Int) + 4) = z ∧ decide (a.gap < t.size + 4) = z := ⟨_, rfl, by rw [decide_eq_decide]; omega⟩
  obtain ⟨z, e4, e5⟩ := hz
  have hc : (z = true ∧ a1 = a.compact) ∨ (z = false ∧ a1 = a) := by
    rw [ha1, ← e5]
    by_cases hg : a.gap < t.size + 4
    · rw [if_pos hg]; simp [hg]
    · rw [if_neg hg]; simp [hg]
  have HC := Lib.hid hc
  clear ha1 hc hk
  go_enter Try.func71, Try.ntmps71
  go_wp2_with fail
  refine fr.out.mono ?_
  rintro e w1 ⟨rfl, hb⟩
  have HB := Lib.hid hb
  clear hb fr
  go_wp2_with fail
  refine (gp.out _ HB.out).mono ?_
  rintro e w2 ⟨rfl, hb⟩
  have HB2 := Lib.hid (HB.out.trans (hb.mono HB.out.size))
  clear hb gp HB
  go_upto_if 31 with fail
  go_cut [] (fun wx => Rf wx q a1 F ∧ Touch F w wx)
  case first =>
    rcases HC.out with ⟨rfl, hc⟩ | ⟨rfl, hc⟩
    · have HC2 := Lib.hid hc
      clear hc
      go_wp2_with fail
      refine (co.out _ HB2.out).mono ?_
      rintro e w3 ⟨rfl, h3⟩
      have H2 := Lib.hid (show Rf w3 q a1 F ∧ Touch F w w3 from ⟨by rw [HC2.out]; exact h3.1, (Touch.ofNew HB2.out).trans' h3.2⟩)
      clear h3
      go_wp2_with fail
      go_meet
      exact H2.out
    · have H2 := Lib.hid (show Rf w2 q a1 F ∧ Touch F w w2 from ⟨by rw [hc]; exact HH.out.later HB2.out, Touch.ofNew HB2.out⟩)
      clear hc
      go_wp2_with fail
      go_meet
      exact H2.out
  case rest =>
    obtain ⟨hR, hT⟩ := hcut
    obtain ⟨r1, r2, r3, r4, r5, r6⟩ := RM.out
    have r7 := r5 (by have := HF.out; omega)
    have hlow := r1.low
    have hn40 := r1.hi
    have htl : t.data.toList.length = t.size := rfl
    have qb := qbelow_any hR t (by omega) hlow (by omega)
    have QB := Lib.hid qb
    have HT := Lib.hid hT
    have hpa : a1.putAt k t.data.toList = ⟨a1.lay t.data.toList, a1.low - t.size, a1.dir.take k ++ (a1.low - t.size, t.size) :: a1.dir.drop k⟩ := rfl
    have HPA := Lib.hid hpa
    have hka : k ≤ a1.dir.length := by have := HI.out; omega
    have hda : a1.dir.length ≤ 2000 := by omega
    have HKA := Lib.hid hka
    obtain ⟨z1, hz1⟩ : ∃ z1, z1 = a1.low - t.size := ⟨_, rfl⟩
    rw [← hz1] at QB HPA
    clear qb hR hT r1 r2 r3 r4 r5 r6 r7 hlow hn40 htl hpa hz1 hka e0 e1 e1' e2 e3 c2
    go_wp2_with fail
    refine QB.out.mono ?_
    rintro e w4 ⟨rfl, hR4, hT4⟩
    have ba : Below w4.heap.size w4 (w4.alloc (.cells #[.int .i64 (z1 : Int), .int .i64 (t.size : Int)] 110)) := (Below.refl _ _).alloc (Nat.le_refl _) _
    obtain ⟨W5, hW5⟩ : ∃ W5, W5 = w4.alloc (.cells #[.int .i64 (z1 : Int), .int .i64 (t.size : Int)] 110) := ⟨_, rfl⟩
    have rn : W5.heap[w4.heap.size]? = some (.cells #[.int .i64 (z1 : Int), .int .i64 (t.size : Int)] 110 (0, 0)) := by rw [hW5]; exact heap_alloc_new _ _
    rw [← hW5] at ba
    have hR5 := hR4.later ba
    have T5 := Lib.hid ((HT.out.trans' hT4).trans' (Touch.ofNew ba))
    obtain ⟨h5, cB5, v5, L5, _⟩ := id hR5.lay
    have hdl5 : Dl W5 v5 a1.dir := L5.dl
    obtain ⟨x1, sl1, sx1⟩ := hdl5.head (k := k) HKA.out
    obtain ⟨x2, sl2, sx2⟩ := hdl5.tail (k := k) HKA.out
    obtain ⟨ad5, nn5, cap5, rfl⟩ := hdl5.shape3
    have c25 := L5.cell2
    have fz5 := L5.free 2
    have hq5 := hR5.lt
    have CC := Lib.hid (show ∀ W, Below W5.heap.size W5 W → W.cell? ⟨q, 2, none⟩ = some (.slice ad5 nn5 cap5) ∧ W.frozen? ⟨q, 2, none⟩ = false from fun W tt => ⟨(tt.cell (p := ⟨q, 2, none⟩) hq5).trans c25, (tt.frozen (p := ⟨q, 2, none⟩) hq5).trans fz5⟩)
    have hn5 := (Array.getElem?_eq_some_iff.1 rn).1
    have GG := Lib.hid (show ∀ W, Below W5.heap.size W5 W → W.cell? ⟨w4.heap.size, 0, none⟩ = some (.int .i64 (z1 : Int)) ∧ W.cell? ⟨w4.heap.size, 1, none⟩ = some (.int .i64 (t.size : Int)) from fun W tt => ⟨(tt.cell (p := ⟨w4.heap.size, 0, none⟩) hn5).trans (by rw [cell_of_row _ _ _ _ _ _ rn]; rfl), (tt.cell (p := ⟨w4.heap.size, 1, none⟩) hn5).trans (by rw [cell_of_row _ _ _ _ _ _ rn]; rfl)⟩)
    have BA := Lib.hid (show Below W5.heap.size W5 (W5.alloc (.cells #[] 110)) from (Below.refl _ _).alloc (Nat.le_refl _) _)
    have DM := Lib.hid (show Dl (W5.alloc (.cells #[] 110)) (.slice (some ⟨W5.heap.size, 0, none⟩) 0 0) [] from Dl.made (w := W5) [] (by simp))
    have OW := Lib.hid (show ∀ b, (Value.slice (some ⟨W5.heap.size, 0, none⟩) 0 0).ownBlock = some b → W5.heap.size ≤ b by intro b hb; simp [Value.ownBlock] at hb; omega)
    have SX1 := Lib.hid sx1
    have SX2 := Lib.hid sx2
    have HR5 := Lib.hid hR5
    have HW5 := Lib.hid hW5
    have hl1 : ([] : List (Nat × Nat)).length + (a1.dir.take k).length ≤ 1000000 := by simp; omega
    have hl2 : (([] : List (Nat × Nat)) ++ a1.dir.take k).length + [((z1, t.size) : Nat × Nat)].length ≤ 1000000 := by simp; omega
    have hl3 : (([] : List (Nat × Nat)) ++ a1.dir.take k ++ [((z1, t.size) : Nat × Nat)]).length + (a1.dir.drop k).length ≤ 1000000 := by simp; omega
    have HL1 := Lib.hid hl1
    have HL2 := Lib.hid hl2
    have HL3 := Lib.hid hl3
    have DMX := Lib.hid (show ∀ W : World, Dl (W.alloc (.cells #[.int .i64 (z1 : Int), .int .i64 (t.size : Int)] 110)) (.slice (some ⟨W.heap.size, 0, none⟩) 1 1) [((z1, t.size) : Nat × Nat)] from fun W => Dl.made (w := W) [(z1, t.size)] (by simp))
    have BAX := Lib.hid (show ∀ W : World, Below W.heap.size W (W.alloc (.cells #[.int .i64 (z1 : Int), .int .i64 (t.size : Int)] 110)) from fun W => (Below.refl _ _).alloc (Nat.le_refl _) _)
    have gg0 := (GG.out W5 (Below.refl _ _)).1
    have gg1 := (GG.out W5 (Below.refl _ _)).2
    clear sx1 sx2 L5 hR4 hT4 ba hR5 rn hW5 hl1 hl2 hl3 fz5 hdl5 QB HT
    go_wp2_with (first | rw [← HW5.out] | (refine wpList_appD (m := a1.dir.take k) W5.heap.size rfl _ _ rfl DM.out (SX1.out.later BA.out) HL1.out OW.out BA.out.size rfl rfl ?_; intro v6 w6 t6 g6 b6; have B6 := Lib.hid (BA.out.grown g6 BA.out.size OW.out); obtain ⟨c26, f26⟩ := CC.out w6 B6.out; obtain ⟨gg2, gg3⟩ := GG.out w6 B6.out; have T6 := Lib.hid t6; have O6 := Lib.hid b6; have DM2 := Lib.hid (DMX.out w6); have BA6 := Lib.hid (BAX.out w6); clear t6 g6 b6) | (refine wpList_appD (m := [((z1, t.size) : Nat × Nat)]) W5.heap.size rfl _ _ rfl (T6.out.later BA6.out) DM2.out.srcD HL2.out O6.out (Nat.le_trans B6.out.size BA6.out.size) rfl rfl ?_; intro v7 w7 t7 g7 b7; have B7 := Lib.hid ((B6.out.trans (BA6.out.mono B6.out.size)).grown g7 (Nat.le_trans B6.out.size BA6.out.size) O6.out); obtain ⟨c27, f27⟩ := CC.out w7 B7.out; have T7 := Lib.hid t7; have O7 := Lib.hid b7; clear t7 g7 b7) | (refine wpList_appD (m := a1.dir.drop k) W5.heap.size rfl _ _ rfl T7.out (SX2.out.later B7.out) HL3.out O7.out B7.out.size rfl rfl ?_; intro v8 w8 t8 g8 b8; have B8 := Lib.hid (B7.out.grown g8 B7.out.size O7.out); obtain ⟨c28, f28⟩ := CC.out w8 B8.out; obtain ⟨ad8, nn8, cp8, rfl⟩ := t8.shape3; have QD := Lib.hid (QP.dir HR5.out B8.out t8 b8); clear t8 g8 b8))
    go_wp2_with fail
    go_ret
    refine ⟨rfl, ?_⟩
    have e1 : ([] ++ a1.dir.take k ++ [((z1, t.size) : Nat × Nat)] ++ a1.dir.drop k) = a1.dir.take k ++ (z1, t.size) :: a1.dir.drop k := by simp
    have h1 := QD.out
    rw [e1] at h1
    rw [HPA.out]
    exact QP.next (w1 := W5) ⟨HR5.out.grown, T5.out⟩ ⟨h1.1.mono (by
      rintro x (hx | hx)
      · exact .inl (.inl hx)
      · exact .inr hx) (by
      rintro x ((hx | hx) | hx)
      · exact h1.1.below x (.inl hx)
      · exact Nat.lt_of_lt_of_le hx.2 h1.2.size
      · exact hx.2), h1.2.mono (fun x hx => .inl hx)⟩
end

end Go.Proofs.Ytehfclgngkhcpaa.Slot
