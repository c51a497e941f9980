/- Walks: the document's Bytes. -/
import Derived.Test.YtehfclgngkhcpaaRW6
namespace Go.Proofs.Ytehfclgngkhcpaa.Slot
open Go.RowKit
attribute [local go_sem ↓] Go.wp_at_zero Go.wp_at_succ

theorem strB_app (l m : List UInt8) : strB l ++ strB m = strB (l ++ m) := by
  apply ByteArray.ext
  rw [ByteArray.data_append]
  simp [strB]
/-- the head, and the first k places -/
def headB (a : A) (k : Nat) : List UInt8 := two a.dir.length ++ two a.low ++ dirB (a.dir.take k)
theorem headB_len (a : A) (k : Nat) (hk : k ≤ a.dir.length) : (headB a k).length = 4 + 4 * k := by
  unfold headB
  simp only [List.length_append, two_len, dirB_len, List.length_take]
  omega
theorem headB_succ (a : A) (k : Nat) (hk : k < a.dir.length) : headB a (k + 1) = headB a k ++ two (a.at k).1 ++ two (a.at k).2 := by
  unfold headB
  have e : a.dir.take (k + 1) = a.dir.take k ++ [a.at k] := take_one hk
  rw [e]
  simp [dirB]
theorem headB_all (a : A) : headB a a.dir.length ++ a.cells.drop a.fin = imgA a := by
  unfold headB imgA
  rw [List.take_length, List.append_assoc, List.append_assoc]

section
variable {w : World} {q : Nat} {a : A} {F : Nat → Prop}
theorem hb_row {w w' : World} {q h cB : Nat} {v : Value} {a : A} (t : Below w.heap.size w w') (L : RLay w q h cB v a) : w'.heap[h]? = w.heap[h]? := t.block h L.row.lt
set_option maxRecDepth 100000 in
set_option maxHeartbeats 8000000 in
theorem qbytes_any (hk : a.ok) (H : Rf w q a F) : Calls Try.prog 72 #[.pointer (some ⟨q, 0, none⟩)] w fun e w' => e = .returned (.string (strB (imgA a))) ∧ Below w.heap.size w w' := by
  have hn40 := hk.hi
  have hlow := hk.low
  have hfin := hk.fin
  have hd : a.dir.length ≤ 2000 := by unfold A.fin at hfin; omega
  have HH := Lib.hid H
  have HK := Lib.hid hk
  obtain ⟨n, hn⟩ : ∃ n, n = a.dir.length := ⟨_, rfl⟩
  have HN := Lib.hid hn
  obtain ⟨lo, hlo⟩ : ∃ lo, lo = a.low := ⟨_, rfl⟩
  have tt1 := fun W => two_any n W (by omega)
  have tt2 := fun W => two_any lo W (by omega)
  have hs0 : strB (two n) ++ strB (two lo) = strB (headB a 0) := by rw [strB_app, hn, hlo]; simp [headB, dirB]
  have z1 : (strB (two n)).size = 2 := rfl
  have z2 : (strB (two lo)).size = 2 := rfl
  generalize strB (two n) = S1 at *
  generalize strB (two lo) = S2 at *
  have no1 : (9223372036854775807 < S1.size + S2.size) = False := eq_false (by omega)
  have T1 := Lib.hid tt1
  have T2 := Lib.hid tt2
  have HS0 := Lib.hid hs0
  clear tt1 tt2 hs0 z1 z2
  obtain ⟨h, cB, v, L, _⟩ := id H.lay
  obtain ⟨ad, cap, rfl⟩ := L.dl.shape
  have hq := H.lt
  have c1 := L.cell1
  have c2 := L.cell2
  rw [← hn] at c2
  rw [← hlo] at c1
  have CC := Lib.hid (show ∀ W, Below w.heap.size w W → W.cell? ⟨q, 2, none⟩ = some (.slice ad n cap) ∧ W.cell? ⟨q, 1, none⟩ = some (.int .i64 (lo : Int)) from fun W tt => ⟨(tt.cell (p := ⟨q, 2, none⟩) hq).trans c2, (tt.cell (p := ⟨q, 1, none⟩) hq).trans c1⟩)
  have n1 : (n : Int) ≤ 2000 := by omega
  have n0 : (0 : Int) ≤ (n : Int) := Int.natCast_nonneg _
  have hd2 : n ≤ 2000 := by omega
  have LL := Lib.hid L
  clear hk H hn hlo hd L
  go_enter Try.func72, Try.ntmps72
  go_wp2_with fail
  go_region_held3 (fun w' => w'.cell? ⟨q, 2, none⟩ = some (.slice ad n cap) ∧ w'.cell? ⟨q, 1, none⟩ = some (.int .i64 (lo : Int)))
    (first | exact CC.out _ ((Below.refl _ _).drew) | exact CC.out _ ((Below.refl _ _).drew.trans (hb.mono (Nat.le_refl _))) | exact CC.out _ (((Below.refl _ _).drew.trans (hb.mono (Nat.le_refl _))).trans (hb2.mono hb.size)))
    (first | (go_at_call 96; (with_reducible refine Calls.mono (T1.out _) ?_); rintro e w1 ⟨rfl, hb⟩) | (go_at_call 96; (with_reducible refine Calls.mono (T2.out _) ?_); rintro e w2 ⟨rfl, hb2⟩))
  have B1 := Lib.hid (((Below.refl w.heap.size w).drew.trans (hb.mono (Nat.le_refl _))).trans (hb2.mono hb.size))
  clear hb hb2
  go_wp2_with (rw [HS0.out])
  try rw [HS0.out]
  clear HS0 T1 T2 c1 c2 no1
  go_loopw [3, 4] (fun s i wr => ∃ k : Nat, k ≤ n ∧ i = .int .i64 k ∧ s = .string (strB (headB a k)) ∧ Below w.heap.size w wr) (fun _ i _ => n - (intOf i).toNat)
  case atStart => exact ⟨0, by omega, by go_num, rfl, B1.out⟩
  case round =>
    obtain ⟨k, hkn, rfl, rfl, hb⟩ := hrel
    obtain ⟨c2, c1⟩ := CC.out wr hb
    have HB := Lib.hid hb
    clear B1 hb
    by_cases hlt : k < n
    · have hka : k < a.dir.length := by rw [← HN.out]; exact hlt
      have he := HK.out.each k hka
      obtain ⟨gd, rfl, d1, d2, _⟩ := LL.out.dl.at (k := k) hka
      have hat : a.dir.getD k (0, 0) = a.at k := rfl
      rw [hat] at d1 d2
      have hgd := block_lt_of_cell d1
      have hsucc := headB_succ a k hka
      obtain ⟨x, hx⟩ : ∃ x, x = (a.at k).1 := ⟨_, rfl⟩
      obtain ⟨y, hy⟩ : ∃ y, y = (a.at k).2 := ⟨_, rfl⟩
      rw [← hx] at d1 he hsucc
      rw [← hy] at d2 he hsucc
      have tt1 := fun W => two_any x W (by omega)
      have tt2 := fun W => two_any y W (by omega)
      have hs0 : strB (headB a k) ++ strB (two x) ++ strB (two y) = strB (headB a (k + 1)) := by rw [strB_app, strB_app, hsucc]
      have z0 : (strB (headB a k)).size ≤ 10000 := by rw [strB_size, headB_len a k (by omega)]; omega
      have z1 : (strB (two x)).size = 2 := rfl
      have z2 : (strB (two y)).size = 2 := rfl
      generalize strB (headB a k) = S0 at *
      generalize strB (two x) = S1 at *
      generalize strB (two y) = S2 at *
      have no1 : (9223372036854775807 < S0.size + S1.size) = False := eq_false (by omega)
      have no2 : (9223372036854775807 < S0.size + S1.size + S2.size) = False := eq_false (by omega)
      have T1 := Lib.hid tt1
      have T2 := Lib.hid tt2
      have HS0 := Lib.hid hs0
      clear tt1 tt2 hs0 z0 z1 z2
      have DD := Lib.hid (show ∀ W, Below w.heap.size w W → W.cell? ⟨q, 2, none⟩ = some (.slice (some ⟨gd, 0, none⟩) n cap) ∧ W.cell? ⟨gd, k * 2, none⟩ = some (.int .i64 (x : Int)) ∧ W.cell? ⟨gd, k * 2 + 1, none⟩ = some (.int .i64 (y : Int)) from fun W tt => ⟨(CC.out W tt).1, (tt.cell (p := ⟨gd, k * 2, none⟩) hgd).trans d1, (tt.cell (p := ⟨gd, k * 2 + 1, none⟩) hgd).trans d2⟩)
      have k0 : (0 : Int) ≤ (k : Int) := Int.natCast_nonneg _
      have k1 : (k : Int) < (n : Int) := by omega
      have k2 : k < n := hlt
      clear d1 d2 he hsucc hx hy hat
      go_wp2_with fail
      go_region_held3 (fun w' => w'.cell? ⟨q, 2, none⟩ = some (.slice (some ⟨gd, 0, none⟩) n cap) ∧ w'.cell? ⟨gd, k * 2, none⟩ = some (.int .i64 (x : Int)) ∧ w'.cell? ⟨gd, k * 2 + 1, none⟩ = some (.int .i64 (y : Int)))
        (first | exact DD.out _ HB.out.drew | exact DD.out _ (HB.out.drew.trans (hb.mono HB.out.size)) | exact DD.out _ ((HB.out.drew.trans (hb.mono HB.out.size)).trans (hb2.mono (Nat.le_trans HB.out.size hb.size))))
        (first | (go_at_call 96; (with_reducible refine Calls.mono (T1.out _) ?_); rintro e w1 ⟨rfl, hb⟩) | (go_at_call 96; (with_reducible refine Calls.mono (T2.out _) ?_); rintro e w2 ⟨rfl, hb2⟩))
      have B3 := Lib.hid ((HB.out.drew.trans (hb.mono HB.out.size)).trans (hb2.mono (Nat.le_trans HB.out.size hb.size)))
      clear hb hb2 DD c1 c2
      go_wp2_with fail
      go_roundw
      case rel => exact ⟨k + 1, by omega, by go_num, by rw [← HS0.out], B3.out⟩
      case measure => simp [intOf]; omega
    · obtain rfl : k = n := by omega
      have hfk : a.fin = 4 + 4 * k := by rw [HN.out]; rfl
      have hhl : (strB (headB a k)).size = a.fin := by rw [hfk]; exact headB_len a k (by rw [HN.out]; exact Nat.le_refl _)
      have hrow := LL.out.row.far (hb_row HB.out LL.out)
      have cv := hrow.str (c := cB) (k := a.fin) (m := a.n) (by omega) (Nat.le_refl _) LL.out.cap
      have hcl : a.cells.length = a.n := rfl
      rw [List.take_of_length_le (by rw [List.length_drop, hcl]; exact Nat.le_refl _)] at cv
      have sl := fun W => slice_from W (g := h) (n := a.n) (c := cB) (k := a.fin) (by omega)
      have c0 : wr.cell? ⟨q, 0, none⟩ = some (.slice (some ⟨h, 0, none⟩) a.n cB) := (HB.out.cell (p := ⟨q, 0, none⟩) hq).trans LL.out.cell0
      have HE := Lib.hid (show strB (headB a k) ++ strB (a.cells.drop a.fin) = strB (imgA a) by rw [strB_app, ← headB_all a, HN.out])
      obtain ⟨f, hf⟩ : ∃ f, f = a.fin := ⟨_, rfl⟩
      obtain ⟨S1, hS1⟩ : ∃ S1, S1 = strB (headB a k) := ⟨_, rfl⟩
      obtain ⟨S2, hS2⟩ : ∃ S2, S2 = strB (a.cells.drop a.fin) := ⟨_, rfl⟩
      rw [← hS1] at hhl HE ⊢
      rw [← hS2] at cv HE
      rw [← hf] at hhl cv sl
      have hs2 : (S2.size : Int) ≤ 10000 := by rw [hS2, strB_size, List.length_drop]; omega
      have hs1 : (S1.size : Int) ≤ 10000 := by rw [hhl]; omega
      have hs3 : (0 : Int) ≤ (S1.size : Int) := Int.natCast_nonneg _
      have hs4 : (0 : Int) ≤ (S2.size : Int) := Int.natCast_nonneg _
      have no3 : S1.size + S2.size ≤ 9223372036854775807 := by omega
      obtain ⟨B, hB⟩ : ∃ B, B = base h f cB := ⟨_, rfl⟩
      rw [← hB] at cv sl
      clear hrow hcl hfk hS1 hS2 hf hB c1
      go_wp2_with fail
      go_ret
      exact ⟨by rw [← HE.out]; rfl, HB.out⟩
end

end Go.Proofs.Ytehfclgngkhcpaa.Slot
