/- Walks: Load. -/
import Derived.Test.YtehfclgngkhcpaaSL2
namespace Go.Proofs.Ytehfclgngkhcpaa.Slot
open Go.RowKit
attribute [local go_sem ↓] Go.wp_at_zero Go.wp_at_succ

def LoadPost (s : ByteArray) (w : World) (e : Ending) (w' : World) : Prop :=
  Below w.heap.size w w' ∧ ((Loads s.data.toList ∧ e = .returned (.tuple #[.pointer (some ⟨w.heap.size + 1, 0, none⟩), .int .i64 0]) ∧ ∃ c, Ar w' (w.heap.size + 1) w.heap.size c s.data.toList) ∨
    (¬ Loads s.data.toList ∧ e = .returned (.tuple #[.pointer none, .int .i64 7])))
theorem LoadPost.no {s : ByteArray} {w w' : World} (h : ¬ Loads s.data.toList) (hb : Below w.heap.size w w') : LoadPost s w (.returned (.tuple #[.pointer none, .int .i64 7])) w' := ⟨hb, .inr ⟨h, rfl⟩⟩
theorem LoadPost.yes {s : ByteArray} {w w' : World} {c : Nat} (h : Loads s.data.toList) (hb : Below w.heap.size w w') (ha : Ar w' (w.heap.size + 1) w.heap.size c s.data.toList) : LoadPost s w (.returned (.tuple #[.pointer (some ⟨w.heap.size + 1, 0, none⟩), .int .i64 0])) w' := ⟨hb, .inl ⟨h, rfl, c, ha⟩⟩

set_option maxRecDepth 100000 in
set_option maxHeartbeats 4000000 in
theorem load_any (s : ByteArray) (w : World) (hs : s.size ≤ 281474976710656) : Calls Try.prog 28 #[.string s] w (LoadPost s w) := by
  have m := sized_any (s.size : Int) w
  have hsl : s.data.toList.length = s.size := rfl
  by_cases hz : 16 ≤ s.size ∧ s.size ≤ 4096
  · rw [show sizedB (s.size : Int) = true from decide_eq_true ⟨by omega, by omega⟩] at m
    obtain ⟨cap, W1, hcv, hrow, hcap, hb1, hs1⟩ := bytes_row s w
    obtain ⟨W2, hW2⟩ : ∃ W2, W2 = W1.alloc (.cells #[.slice (some ⟨w.heap.size, 0, none⟩) s.size cap] 100) := ⟨_, rfl⟩
    have hA : Ar W2 (w.heap.size + 1) w.heap.size cap s.data.toList := by
      refine ⟨?_, ?_, hcap, hz.1, hz.2⟩
      · rw [hW2, ← hs1]; exact heap_alloc_new _ _
      · rw [hW2]; exact hrow.far (Below.heap_alloc _ _ _ hrow.lt)
    have b2 : Below w.heap.size w W2 := by rw [hW2]; exact hb1.alloc hb1.size _
    have fr := framed_any hA
    have M := Lib.hid m
    have HA := Lib.hid hA
    have B2 := Lib.hid b2
    have HW2 := Lib.hid hW2
    have HS1 := Lib.hid hs1
    have FR := Lib.hid fr
    obtain ⟨zf, hzf⟩ : ∃ z, z = framedB s.data.toList := ⟨_, rfl⟩
    have HZF := Lib.hid hzf
    rw [← hzf] at FR
    have YS := Lib.hid (fun (w' : World) (h : Loads s.data.toList) (hb : Below w.heap.size w w') (ha : Ar w' (w.heap.size + 1) w.heap.size cap s.data.toList) => LoadPost.yes h hb ha)
    have NO := Lib.hid (fun (w' : World) (h : ¬ Loads s.data.toList) (hb : Below w.heap.size w w') => LoadPost.no h hb)
    clear m hA b2 hW2 hrow hcap hb1 hs1 fr hzf
    go_enter Try.func28, Try.ntmps28
    go_wp2_with fail
    refine M.out.mono ?_
    rintro e w' ⟨rfl, rfl⟩
    clear M
    go_wp2_with (first | rw [HS1.out] | rw [← HW2.out])
    refine FR.out.mono ?_
    rintro e w3 ⟨rfl, b3⟩
    have B3 := Lib.hid (B2.out.trans (b3.mono B2.out.size))
    have A3 := Lib.hid (HA.out.later b3)
    clear b3 FR HA B2 hcv HW2
    cases zf
    case false =>
      have hno : ¬ Loads s.data.toList := fun h => by
        have h1 := HZF.out
        unfold framedB at h1
        have := of_decide_eq_false h1.symm
        exact this ⟨h.fin, h.low⟩
      have HNO := Lib.hid hno
      clear hno
      go_wp2_with fail
      go_ret2
      exact NO.out _ HNO.out B3.out
    case true =>
      have hfr : 4 + 4 * numL s.data.toList 0 ≤ numL s.data.toList 2 ∧ numL s.data.toList 2 ≤ s.data.toList.length := by
        have h1 := HZF.out
        unfold framedB at h1
        exact of_decide_eq_true h1.symm
      have wi := within_any A3.out (by omega)
      have HFR := Lib.hid hfr
      have WI := Lib.hid wi
      clear wi hfr
      go_wp2_with fail
      refine WI.out.mono ?_
      rintro e w4 ⟨zw, rfl, hzw, b4⟩
      have B4 := Lib.hid (B3.out.trans (b4.mono B3.out.size))
      have A4 := Lib.hid (A3.out.later b4)
      have HZW := Lib.hid hzw
      clear b4 hzw B3 A3 WI
      cases zw
      case false =>
        have hno : ¬ Loads s.data.toList := fun h => by
          have h1 := HZW.out
          have h2 : ¬ Within s.data.toList := by simpa using h1
          exact h2 h.each
        have HNO := Lib.hid hno
        clear hno
        go_wp2_with fail
        go_ret2
        exact NO.out _ HNO.out B4.out
      case true =>
        have hwi : Within s.data.toList := by simpa using HZW.out
        have ap := apart_any A4.out (by have := HFR.out; omega) hwi
        have AP := Lib.hid ap
        have HWI := Lib.hid hwi
        clear ap hwi
        go_wp2_with fail
        refine AP.out.mono ?_
        rintro e w5 ⟨za, rfl, hza, b5⟩
        have B5 := Lib.hid (B4.out.trans (b5.mono B4.out.size))
        have A5 := Lib.hid (A4.out.later b5)
        have HZA := Lib.hid hza
        clear b5 hza B4 A4 AP
        cases za
        case false =>
          have hno : ¬ Loads s.data.toList := fun h => by
            have h2 : ¬ Apart (dirOf s.data.toList) := by simpa using HZA.out
            exact h2 h.apart
          have HNO := Lib.hid hno
          clear hno
          go_wp2_with fail
          go_ret2
          exact NO.out _ HNO.out B5.out
        case true =>
          have hyes : Loads s.data.toList := ⟨hz.1, hz.2, HFR.out.1, HFR.out.2, HWI.out, by simpa using HZA.out⟩
          have HY := Lib.hid hyes
          clear hyes
          go_wp2_with fail
          go_ret2
          exact YS.out _ HY.out B5.out A5.out
  · rw [show sizedB (s.size : Int) = false from decide_eq_false (by omega)] at m
    have hno : ¬ Loads s.data.toList := fun h => hz ⟨h.lo, h.hi⟩
    have HNO := Lib.hid hno
    clear hno hz
    go_enter Try.func28, Try.ntmps28
    go_wp2_with fail
    refine m.mono ?_
    rintro e w' ⟨rfl, rfl⟩
    clear m
    go_wp2_with fail
    go_ret2
    exact LoadPost.no HNO.out (Below.refl _ _)

/-- an area's bytes are loaded as it -/
theorem load_is {W0 w : World} {a : A} (hk : a.ok) (hb : Below W0.heap.size W0 w) : Calls Try.prog 28 #[.string (strB (imgA a))] w fun e w' => e = .returned (.tuple #[.pointer (some ⟨w.heap.size + 1, 0, none⟩), .int .i64 0]) ∧ Below w.heap.size w w' ∧ ∃ c, St W0 w' (w.heap.size + 1) w.heap.size c a := by
  have hi := img_is hk
  have hl := img_loads hk hi
  refine (load_any (strB (imgA a)) w (by show (imgA a).length ≤ _; rw [img_len hk]; have := hk.hi; omega)).mono ?_
  rintro e w' ⟨hb2, h | h⟩
  · obtain ⟨_, he, c, ha⟩ := h
    have := hb.size
    exact ⟨he, hb2, c, ⟨⟨_, ha, hi⟩, hk⟩, hb.trans (hb2.mono hb.size), by omega, by omega⟩
  · exact absurd hl h.1

end Go.Proofs.Ytehfclgngkhcpaa.Slot
