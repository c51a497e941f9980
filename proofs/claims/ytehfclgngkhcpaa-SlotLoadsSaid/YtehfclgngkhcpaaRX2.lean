/- Walks: both areas beside each other: same. -/
import Derived.Test.YtehfclgngkhcpaaRX1
import Derived.Test.YtehfclgngkhcpaaRW8
namespace Go.Proofs.Ytehfclgngkhcpaa.Slot
open Go.RowKit
attribute [local go_sem ↓] Go.wp_at_zero Go.wp_at_succ

section
variable {W0 w : World} {p g c q : Nat} {a : A} {F : Nat → Prop}
set_option maxRecDepth 100000 in
set_option maxHeartbeats 8000000 in
theorem same_any (h : Two W0 w p g c q F a a) : Calls Try.prog 31 #[.pointer (some ⟨p, 0, none⟩), .pointer (some ⟨q, 0, none⟩)] w fun e w' => e = .returned (.bool true) ∧ Below w.heap.size w w' := by
  have hk := h.okb
  obtain ⟨ad, cap, c2⟩ := h.rf.len_cell
  have hq := h.rf.lt
  have hn40 := hk.hi
  have hfin := hk.fin
  have hlow := hk.low
  have hd : a.dir.length ≤ 2000 := by unfold A.fin at hfin; omega
  have BYS := Lib.hid (fun W (t : Below w.heap.size w W) => bytes_is (h.later t).st.area)
  have BYQ := Lib.hid (fun W (t : Below w.heap.size w W) => qbytes_any hk (h.later t).rf)
  have FRS := Lib.hid (fun W (t : Below w.heap.size w W) => free_is (h.later t).st.area)
  have FRQ := Lib.hid (fun W (t : Below w.heap.size w W) => qfree_is hk (h.later t).rf)
  have GAS := Lib.hid (fun W (t : Below w.heap.size w W) => gap_is (h.later t).st.area)
  have GAQ := Lib.hid (fun W (t : Below w.heap.size w W) => qgap_is hk (h.later t).rf)
  have LNS := Lib.hid (fun W (t : Below w.heap.size w W) => len_is (h.later t).st.area)
  have GTS := Lib.hid (fun W (t : Below w.heap.size w W) (i : Int) => get_is (h.later t).st.area i)
  have TXQ := Lib.hid (fun W (t : Below w.heap.size w W) (k : Nat) (hi : k < a.dir.length) => qtext_any (h.later t).rf hi (by omega) (hk.each k hi).2 (by omega))
  have CC := Lib.hid (show ∀ W, Below w.heap.size w W → W.cell? ⟨q, 2, none⟩ = some (.slice ad a.dir.length cap) from fun W tt => (tt.cell (p := ⟨q, 2, none⟩) hq).trans c2)
  have BD := Lib.hid (show Below w.heap.size w w.drew from (Below.refl _ _).drew)
  have n1 : (a.dir.length : Int) ≤ 2000 := by omega
  have n0 : (0 : Int) ≤ (a.dir.length : Int) := Int.natCast_nonneg _
  clear h hk hq hn40 hfin hlow
  generalize strB (imgA a) = S at *
  generalize a.free = fr at *
  generalize a.gap = ga at *
  go_enter Try.func31, Try.ntmps31
  go_wp2_with fail
  go_region_held3 (fun w' => w'.cell? ⟨q, 2, none⟩ = some (.slice ad a.dir.length cap))
    (first | exact CC.out _ BD.out | exact CC.out _ B1.out | exact CC.out _ B2.out | exact CC.out _ B3.out | exact CC.out _ B4.out)
    (first | (go_at_call 29; refine Calls.mono (BYS.out _ BD.out) ?_; rintro e w' ⟨rfl, rfl⟩) | (go_at_call 72; refine Calls.mono (BYQ.out _ BD.out) ?_; rintro e w1 ⟨rfl, hb⟩; have B1 := Lib.hid (BD.out.trans (hb.mono BD.out.size)); clear hb) | (go_at_call 37; refine Calls.mono (LNS.out _ B1.out) ?_; rintro e w' ⟨rfl, rfl⟩) | (go_at_call 39; refine Calls.mono (FRS.out _ B1.out) ?_; rintro e w2 ⟨rfl, hb⟩; have B2 := Lib.hid (B1.out.trans (hb.mono B1.out.size)); clear hb) | (go_at_call 73; refine Calls.mono (FRQ.out _ B2.out) ?_; rintro e w3 ⟨rfl, hb⟩; have B3 := Lib.hid (B2.out.trans (hb.mono B2.out.size)); clear hb) | (go_at_call 40; refine Calls.mono (GAS.out _ B3.out) ?_; rintro e w' ⟨rfl, rfl⟩) | (go_at_call 74; refine Calls.mono (GAQ.out _ B3.out) ?_; rintro e w4 ⟨rfl, hb⟩; have B4 := Lib.hid (B3.out.trans (hb.mono B3.out.size)); clear hb))
  clear B1 B2 B3 c2
  go_wp2_with fail
  go_loopw [5] (fun i wr => ∃ k : Nat, k ≤ a.dir.length ∧ i = .int .i64 k ∧ Below w.heap.size w wr) (fun i _ => a.dir.length - (intOf i).toNat)
  case atStart => exact ⟨0, by omega, by go_num, B4.out⟩
  case round =>
    obtain ⟨k, hk, rfl, hb⟩ := hrel
    have c2 := CC.out wr hb
    have HB := Lib.hid hb
    clear hb B4
    by_cases hlt : k < a.dir.length
    · have hp : hasP a (k : Int) := ⟨by omega, by omega⟩
      have gt := GTS.out wr HB.out (k : Int)
      rw [if_pos hp] at gt
      unfold getS at gt
      rw [if_pos hp, Int.toNat_natCast] at gt
      have GT := Lib.hid gt
      have TQ := Lib.hid (fun W (t : Below w.heap.size w W) => TXQ.out W t k hlt)
      clear gt hp
      generalize strB (a.text k) = Sk at *
      have k0 : (0 : Int) ≤ (k : Int) := Int.natCast_nonneg _
      have k1 : (k : Int) < (a.dir.length : Int) := by omega
      go_wp2_with fail
      refine GT.out.mono ?_
      rintro e w5 ⟨rfl, hb⟩
      have B5 := Lib.hid (HB.out.trans (hb.mono HB.out.size))
      clear hb HB
      go_wp2_with fail
      refine (TQ.out _ B5.out).mono ?_
      rintro e w6 ⟨rfl, hb⟩
      have B6 := Lib.hid (B5.out.trans (hb.mono B5.out.size))
      clear hb B5
      go_wp2_with fail
      go_roundw
      case rel => exact ⟨k + 1, by omega, by go_num, B6.out⟩
      case measure => simp [intOf]; omega
    · obtain rfl : k = a.dir.length := by omega
      have g1 := GTS.out wr HB.out (a.dir.length : Int)
      rw [if_neg (by unfold hasP; omega)] at g1
      have g2 := fun W (t : Below w.heap.size w W) => GTS.out W t (-1)
      simp only [show ¬ hasP a (-1) from fun h => by have := h.1; omega, if_false] at g2
      have G1 := Lib.hid g1
      have G2 := Lib.hid g2
      clear g1 g2
      generalize strB (getS a (a.dir.length : Int)) = T1 at *
      generalize strB (getS a (-1)) = T2 at *
      go_wp2_with fail
      refine G1.out.mono ?_
      rintro e w5 ⟨rfl, hb⟩
      have B5 := Lib.hid (HB.out.trans (hb.mono HB.out.size))
      clear hb HB
      go_wp2_with fail
      refine (G2.out _ B5.out).mono ?_
      rintro e w6 ⟨rfl, hb⟩
      have B6 := Lib.hid (B5.out.trans (hb.mono B5.out.size))
      clear hb B5
      go_wp2_with fail
      go_ret
      exact ⟨rfl, B6.out⟩
end

end Go.Proofs.Ytehfclgngkhcpaa.Slot
