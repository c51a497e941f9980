/- Walks: what Load asks: framed, within, apart. -/
import Derived.Test.YtehfclgngkhcpaaSRM
import Derived.Test.YtehfclgngkhcpaaSK
namespace Go.Proofs.Ytehfclgngkhcpaa.Slot
open Go.RowKit
attribute [local go_sem ↓] Go.wp_at_zero Go.wp_at_succ

/-- '[]byte(s)' -/
theorem bytes_row (s : ByteArray) (w : World) : ∃ (cap : Nat) (W1 : World), (convert 9 69 (.string s)).run Try.prog w = .ok (.slice (some ⟨w.heap.size, 0, none⟩) s.size cap) W1 ∧ Row W1 w.heap.size s.data.toList ∧ s.size ≤ cap ∧ Below w.heap.size w W1 ∧ W1.heap.size = w.heap.size + 1 := by
  have hl : s.data.toList.length = s.size := rfl
  have hz : s.size ≤ (bytesRow s (grownCap w s.size 0 5)).size := by unfold bytesRow; rw [Array.size_append, Array.size_map]; exact Nat.le_add_right _ _
  refine ⟨_, _, run_bytes_of_string w 9 69 5 s Try.underlying9 Try.underlying69 Try.underlying5, ⟨_, _, heap_alloc_new w.drew _, ?_, by rw [hl]; exact hz, .inr (by rw [hl]; exact hz)⟩, grownCap_ge _ _ _ _, ((Below.refl _ w).drew).alloc (Nat.le_refl _) _, by simp⟩
  apply List.ext_getElem?
  intro j
  rw [List.getElem?_take, hl]
  by_cases hj : j < s.size
  · have hj' : j < s.data.size := hj
    rw [if_pos hj, Array.getElem?_toList, bytesRow_at s _ j hj']
    unfold Lib.byteCells
    rw [List.getElem?_map, List.getElem?_eq_getElem (by rw [hl]; exact hj)]
    rfl
  · rw [if_neg hj, List.getElem?_eq_none (by rw [byteCells_len, hl]; omega)]

section
variable {w : World} {p g c : Nat} {b : List UInt8}
def framedB (b : List UInt8) : Bool := decide (4 + 4 * numL b 0 ≤ numL b 2 ∧ numL b 2 ≤ b.length)
set_option maxRecDepth 100000 in
set_option maxHeartbeats 2000000 in
theorem framed_any (h : Ar w p g c b) : Calls Try.prog 64 #[.pointer (some ⟨p, 0, none⟩)] w fun e w' => e = .returned (.bool (framedB b)) ∧ Below w.heap.size w w' := by
  have c0 := h.cell0
  have en := Lib.hid (fun W (t : Below w.heap.size w W) => end_any (h.later t))
  have lo := Lib.hid (fun W (t : Below w.heap.size w W) => low_any (h.later t))
  unfold framedB
  obtain ⟨F, hF⟩ : ∃ F, F = 4 + 4 * numL b 0 := ⟨_, rfl⟩
  obtain ⟨L, hL⟩ : ∃ L, L = numL b 2 := ⟨_, rfl⟩
  rw [← hF] at en ⊢
  rw [← hL] at lo ⊢
  clear hF hL h
  by_cases h1 : F ≤ L
  · have e1 : decide ((F : Int) ≤ (L : Int)) = true := decide_eq_true (by omega)
    have e2 : decide (F ≤ L) = true := decide_eq_true h1
    by_cases h2 : L ≤ b.length
    · have e3 : decide ((L : Int) ≤ (b.length : Int)) = true := decide_eq_true (by omega)
      have e4 : decide (L ≤ b.length) = true := decide_eq_true h2
      rw [show decide (F ≤ L ∧ L ≤ b.length) = true from decide_eq_true ⟨h1, h2⟩]
      clear h1 h2
      go_enter Try.func64, Try.ntmps64
      go_wp2_with fail
      go_quiet ((first | (go_at_call 82; first | exact quiet_same (en.out _ (below_drewN (Below.refl _ _) _)) | exact quiet_same0 (en.out _ (Below.refl _ _))) | (go_at_call 85; first | exact quiet_same (lo.out _ (below_drewN (Below.refl _ _) _)) | exact quiet_same0 (lo.out _ (Below.refl _ _)))))
      go_wp2_with fail
      go_ret
      exact ⟨rfl, below_drewN (Below.refl _ _) _⟩
    · have e3 : decide ((L : Int) ≤ (b.length : Int)) = false := decide_eq_false (by omega)
      have e4 : decide (L ≤ b.length) = false := decide_eq_false h2
      rw [show decide (F ≤ L ∧ L ≤ b.length) = false from decide_eq_false (fun h => h2 h.2)]
      clear h1 h2
      go_enter Try.func64, Try.ntmps64
      go_wp2_with fail
      go_quiet ((first | (go_at_call 82; first | exact quiet_same (en.out _ (below_drewN (Below.refl _ _) _)) | exact quiet_same0 (en.out _ (Below.refl _ _))) | (go_at_call 85; first | exact quiet_same (lo.out _ (below_drewN (Below.refl _ _) _)) | exact quiet_same0 (lo.out _ (Below.refl _ _)))))
      go_wp2_with fail
      go_ret
      exact ⟨rfl, below_drewN (Below.refl _ _) _⟩
  · have e1 : decide ((F : Int) ≤ (L : Int)) = false := decide_eq_false (by omega)
    have e2 : decide (F ≤ L) = false := decide_eq_false h1
    rw [show decide (F ≤ L ∧ L ≤ b.length) = false from decide_eq_false (fun h => h1 h.1)]
    clear h1
    go_enter Try.func64, Try.ntmps64
    go_wp2_with fail
    go_quiet ((first | (go_at_call 82; first | exact quiet_same (en.out _ (below_drewN (Below.refl _ _) _)) | exact quiet_same0 (en.out _ (Below.refl _ _))) | (go_at_call 85; first | exact quiet_same (lo.out _ (below_drewN (Below.refl _ _) _)) | exact quiet_same0 (lo.out _ (Below.refl _ _)))))
    go_wp2_with fail
    go_ret
    exact ⟨rfl, below_drewN (Below.refl _ _) _⟩

/-- is each text within? -/
def Within (b : List UInt8) : Prop := ∀ i, i < numL b 0 → numL b 2 ≤ (spotB b i).1 ∧ (spotB b i).1 + (spotB b i).2 ≤ b.length
def WithinPost (b : List UInt8) (w : World) (e : Ending) (w' : World) : Prop := ∃ z : Bool, e = .returned (.bool z) ∧ (z = true ↔ Within b) ∧ Below w.heap.size w w'
set_option maxRecDepth 100000 in
set_option maxHeartbeats 4000000 in
theorem within_any (h : Ar w p g c b) (hf : 4 + 4 * numL b 0 ≤ b.length) : Calls Try.prog 65 #[.pointer (some ⟨p, 0, none⟩)] w (WithinPost b w) := by
  have hhi := h.hi
  have ln := len_any h
  have lo := Lib.hid (fun W (t : Below w.heap.size w W) => low_any (h.later t))
  have sp := Lib.hid (fun W (t : Below w.heap.size w W) (i : Nat) (hi : 8 + 4 * i ≤ b.length) => spot_any (h.later t) i hi)
  have HA := Lib.hid h
  have se := Lib.hid (fun (x y : Nat) (W : World) (hx : x < 65536) (hy : y < 65536) => spot_end x y W (by omega) (by omega))
  have HP : ∀ z w', (z = true ↔ Within b) → Below w.heap.size w w' → WithinPost b w (.returned (.bool z)) w' := fun z w' h1 h2 => ⟨z, rfl, h1, h2⟩
  have HPH := Lib.hid HP
  obtain ⟨n, hn⟩ : ∃ n, n = numL b 0 := ⟨_, rfl⟩
  have HN := Lib.hid hn
  rw [← hn] at ln hf
  have LN := Lib.hid ln
  have hn1 : (n : Int) ≤ 1100 := by omega
  clear hn h ln HP
  go_enter Try.func65, Try.ntmps65
  go_wp2_with fail
  refine LN.out.mono ?_
  rintro e w' ⟨rfl, rfl⟩
  clear LN
  go_wp2_with fail
  go_loopw [7] (fun i wr => ∃ k : Nat, k ≤ n ∧ i = .int .i64 k ∧ Below w.heap.size w wr ∧ ∀ j, j < k → numL b 2 ≤ (spotB b j).1 ∧ (spotB b j).1 + (spotB b j).2 ≤ b.length) (fun i _ => n - (intOf i).toNat)
  case atStart => exact ⟨0, by omega, by go_num, Below.refl _ _, fun j hj => by omega⟩
  case round =>
    obtain ⟨k, hk, rfl, hb, hw⟩ := hrel
    have HB := Lib.hid hb
    have HW := Lib.hid hw
    clear hb hw
    by_cases hlt : k < n
    · have sk := sp.out _ HB.out k (by omega)
      unfold spotV spotAt at sk
      simp only at sk
      have x65 := num_lt b (4 + 4 * k)
      have y65 := num_lt b (6 + 4 * k)
      have hs : spotB b k = (numL b (4 + 4 * k), numL b (6 + 4 * k)) := rfl
      obtain ⟨x, ex⟩ : ∃ x, x = numL b (4 + 4 * k) := ⟨_, rfl⟩
      obtain ⟨y, ey⟩ : ∃ y, y = numL b (6 + 4 * k) := ⟨_, rfl⟩
      obtain ⟨L, hL⟩ : ∃ L, L = numL b 2 := ⟨_, rfl⟩
      rw [← ex, ← ey] at sk hs
      rw [← ex] at x65
      rw [← ey] at y65
      have HL := Lib.hid hL
      have HS := Lib.hid hs
      have SK := Lib.hid sk
      clear sk ex ey hL hs
      obtain ⟨z, hz⟩ : ∃ z : Int, z = ((x + y : Nat) : Int) := ⟨_, rfl⟩
      have se2 : ∀ W : World, Calls Try.prog 84 #[.agg #[.int .i64 (x : Int), .int .i64 (y : Int)]] W fun e w' => e = .returned (.int .i64 z) ∧ Below W.heap.size W w' := fun W => by rw [hz]; exact se.out x y W x65 y65
      have SE := Lib.hid se2
      have lo2 := fun W (t : Below w.heap.size w W) => lo.out W t
      rw [← HL.out] at lo2
      have LO := Lib.hid lo2
      clear se2 lo2
      have hcase : ∃ z1 z2 : Bool, decide ((x : Int) < (L : Int)) = z1 ∧ decide (x < L) = z1 ∧ decide ((b.length : Int) < z) = z2 := ⟨decide (x < L), _, by rw [decide_eq_decide]; omega, rfl, rfl⟩
      obtain ⟨z1, z2, d1, d2, d3⟩ := hcase
      have hz1 : z1 = true ↔ x < L := by rw [← d2]; simp
      have hz2 : z2 = true ↔ b.length < x + y := by rw [← d3]; simp; omega
      have HZ1 := Lib.hid hz1
      have HZ2 := Lib.hid hz2
      clear hz1 hz2 hz
      cases z1
      case true =>
        go_wp2_with fail
        refine SK.out.mono ?_
        rintro e w1 ⟨rfl, b1⟩
        have b2 : Below w.heap.size w (w1.alloc (.cells #[.int .i64 (x : Int), .int .i64 (y : Int)] 112)) := (HB.out.trans (b1.mono HB.out.size)).alloc (Nat.le_trans HB.out.size b1.size) _
        obtain ⟨W, hW⟩ : ∃ W, W = w1.alloc (.cells #[.int .i64 (x : Int), .int .i64 (y : Int)] 112) := ⟨_, rfl⟩
        have rn : NRow w1.heap.size x y W := ⟨by rw [hW]; exact heap_alloc_new _ _⟩
        rw [← hW] at b2
        have A2 := HA.out.later b2
        have c2 := A2.cell0
        have HW2 := Lib.hid hW
        have B2 := Lib.hid b2
        have RN := Lib.hid rn
        have g0 := rn.gives.1
        have g1 := rn.gives.2
        clear b1 b2 hW rn A2 SK
        go_wp2_with (rw [← HW2.out])
        go_quiet ((go_at_call 85; first | exact quiet_same (LO.out _ (below_drewN B2.out _)) | exact quiet_same0 (LO.out _ B2.out)))
        go_wp2_with fail
        go_ret
        exact HPH.out _ _ ⟨fun h => by simp at h, fun h => by
          have h1 := (h k (by rw [← HN.out]; exact hlt)).1
          rw [HS.out, ← HL.out] at h1
          have h2 : x < L := by simpa using HZ1.out
          simp only at h1
          omega⟩ (below_drewN B2.out _)
      case false =>
        go_wp2_with fail
        refine SK.out.mono ?_
        rintro e w1 ⟨rfl, b1⟩
        have b2 : Below w.heap.size w (w1.alloc (.cells #[.int .i64 (x : Int), .int .i64 (y : Int)] 112)) := (HB.out.trans (b1.mono HB.out.size)).alloc (Nat.le_trans HB.out.size b1.size) _
        obtain ⟨W, hW⟩ : ∃ W, W = w1.alloc (.cells #[.int .i64 (x : Int), .int .i64 (y : Int)] 112) := ⟨_, rfl⟩
        have rn : NRow w1.heap.size x y W := ⟨by rw [hW]; exact heap_alloc_new _ _⟩
        rw [← hW] at b2
        have A2 := HA.out.later b2
        have c2 := A2.cell0
        have HW2 := Lib.hid hW
        have B2 := Lib.hid b2
        have RN := Lib.hid rn
        have HA2 := Lib.hid A2
        have g0 := rn.gives.1
        have g1 := rn.gives.2
        clear b1 b2 hW rn A2 SK
        go_wp2_with (rw [← HW2.out])
        clear HW2
        go_region_held3 (fun w' => w'.cell? ⟨w1.heap.size, 0, none⟩ = some (.int .i64 (x : Int)) ∧ w'.cell? ⟨w1.heap.size, 1, none⟩ = some (.int .i64 (y : Int)) ∧ w'.cell? ⟨p, 0, none⟩ = some (.slice (some ⟨g, 0, none⟩) b.length c))
          (first | exact ⟨(RN.out.later ((Below.refl _ _).drew)).gives.1, (RN.out.later ((Below.refl _ _).drew)).gives.2, (HA2.out.later ((Below.refl _ _).drew)).cell0⟩ | exact ⟨((RN.out.later ((Below.refl _ _).drew)).later hb).gives.1, ((RN.out.later ((Below.refl _ _).drew)).later hb).gives.2, ((HA2.out.later ((Below.refl _ _).drew)).later hb).cell0⟩)
          (first | (go_at_call 85; refine Calls.mono (LO.out _ B2.out.drew) ?_; rintro e w' ⟨rfl, rfl⟩) | (go_at_call 84; refine Calls.mono (SE.out _) ?_; rintro e w' ⟨rfl, hb⟩))
        have B3 := Lib.hid (B2.out.drew.trans (hb.mono B2.out.drew.size))
        clear hb c2 g0 g1 RN HA2
        cases z2
        case true =>
          go_wp2_with fail
          go_ret
          exact HPH.out _ _ ⟨fun h => by simp at h, fun h => by
            have h1 := (h k (by rw [← HN.out]; exact hlt)).2
            rw [HS.out] at h1
            have h2 : b.length < x + y := by simpa using HZ2.out
            simp only at h1
            omega⟩ B3.out
        case false =>
          go_wp2_with fail
          go_roundw
          case rel =>
            refine ⟨k + 1, by omega, by go_num, B3.out, fun j hj => ?_⟩
            by_cases e : j = k
            · subst e
              rw [HS.out, ← HL.out]
              have h1 := HZ1.out
              have h2 := HZ2.out
              simp at h1 h2
              simp only
              omega
            · exact HW.out j (by omega)
          case measure => simp [intOf]; omega
    · obtain rfl : k = n := by omega
      go_wp2_with fail
      go_ret
      exact HPH.out _ _ ⟨fun _ i hi => HW.out i (by rw [HN.out]; exact hi), fun _ => rfl⟩ HB.out
end

end Go.Proofs.Ytehfclgngkhcpaa.Slot
