/-
  Walks: what comes no more; Open.
  Walks: Open.
-/
import Derived.Laws.IdiomStrings
import Derived.Test.YtgohpompgiljiaaZ6
namespace Go.Proofs.Ytgohpompgiljiaa.Log
open Go.RowKit
open Go.Proofs.Ytgohpompgiljiaa.Sl (Sl Step re)
open Go.Proofs.Ytgohpompgiljiaa.Disk (D Rep grew now)
open Go.Proofs.Ytgohpompgiljiaa.Frame (L L_ext L_app scn ScnP)
attribute [local go_sem ↓] Go.wp_at_zero Go.wp_at_succ

/-! ### cut -/
/-- a disk on which a stretch's sector was written -/
def wrS (d : D) (a n k life : Nat) (t : List UInt8) : D := (d.write (a + k % n) (secL k life t)).sync
def CutP (i q : Nat) (T : Nat → Nat) (r : R) (rv tv : Value) (d : D) (w : World) (e : Ending) (w' : World) : Prop :=
  e = .returned (.int .i64 0) ∧ ∃ T', Lr i T' w' q r rv tv ∧ Dk T' w' r.pd (wrS d r.at' r.n (r.next / 110) r.life r.tail) ∧ Step (· = 1) T T' w w'
theorem burnt_m1 {f : Int} (h : f = -1) : Disk.burnt f = -1 := by unfold Disk.burnt; rw [if_neg (by omega)]; exact h
set_option maxRecDepth 100000 in
set_option maxHeartbeats 4000000 in
theorem cut_any {i q : Nat} {T : Nat → Nat} {w : World} {r : R} {rv tv : Value} {d : D} (h : Lr i T w q r rv tv) (hw : r.wf) (hi : 2 ≤ i) (hd : Dk T w r.pd d) (hf : d.fuse = -1) (ha : r.at' + r.n ≤ d.sure.length) (hlo : d.loose.length ≤ 100000000) (htl : r.tail.length ≤ 110) :
    Calls Try.prog 46 #[.pointer (some ⟨q, 0, none⟩)] w (CutP i q T r rv tv d w) := by
  have L0 := Lib.hid h
  have K1 := Lib.hid (fun W => stretch_any r.next W hw.next)
  have hlt := Lib.hid h.lt
  have KW := Lib.hid (wr_any (hd.later (Below.refl _ w).drew) (by rw [hf]; decide) r.at' r.n (r.next / 110) r.life hw.n.1 hw.n.2 ha (by have := hw.next; omega) hw.life.2 (by omega) (h.later (Below.refl _ w).drew).tail htl)
  have SS := Lib.hid (show ∀ W, Lr i T W q r rv tv → W.cell? ⟨q, 0, none⟩ = some (.pointer (some ⟨r.pd, 0, none⟩)) ∧ W.cell? ⟨q, 1, none⟩ = some (.int .i64 (r.at' : Int)) ∧ W.cell? ⟨q, 2, none⟩ = some (.int .i64 (r.n : Int)) ∧ W.cell? ⟨q, 3, none⟩ = some (.int .u64 (r.life : Int)) ∧ W.cell? ⟨q, 5, none⟩ = some (.int .u64 (r.next : Int)) ∧ W.cell? ⟨q, 8, none⟩ = some tv from fun W hW => by
    obtain ⟨c0, c1, c2, c3, c4, c5, c6, c7, c8, c9⟩ := hW.cells
    exact ⟨c0, c1, c2, c3, c5, c8⟩)
  have SS2 := Lib.hid (show ∀ W T', Lr i T' W q r rv tv → W.cell? ⟨q, 0, none⟩ = some (.pointer (some ⟨r.pd, 0, none⟩)) ∧ W.cell? ⟨q, 1, none⟩ = some (.int .i64 (r.at' : Int)) ∧ W.cell? ⟨q, 2, none⟩ = some (.int .i64 (r.n : Int)) ∧ W.cell? ⟨q, 3, none⟩ = some (.int .u64 (r.life : Int)) ∧ W.cell? ⟨q, 5, none⟩ = some (.int .u64 (r.next : Int)) ∧ W.cell? ⟨q, 8, none⟩ = some tv from fun W T' hW => by
    obtain ⟨c0, c1, c2, c3, c4, c5, c6, c7, c8, c9⟩ := hW.cells
    exact ⟨c0, c1, c2, c3, c5, c8⟩)
  have HF := Lib.hid hf
  have HLO := Lib.hid hlo
  have PO := Lib.hid (show ∀ T' W, Lr i T' W q r rv tv → Dk T' W r.pd (wrS d r.at' r.n (r.next / 110) r.life r.tail) → Step (· = 1) T T' w W → CutP i q T r rv tv d w (.returned (.int .i64 0)) W from fun T' W h1 h2 h3 => ⟨rfl, T', h1, h2, h3⟩)
  have S0 := Lib.hid (Step.below (· = 1) h.lt (show Below w.heap.size w w.drew from (Below.refl _ _).drew))
  obtain ⟨ta, tn, tc, htv⟩ := h.tail.shape3
  unfold wrS at PO
  obtain ⟨d1, hd1⟩ : ∃ d1, d1 = d.write (r.at' + r.next / 110 % r.n) (secL (r.next / 110) r.life r.tail) := ⟨_, rfl⟩
  unfold WrP at KW
  rw [← hd1] at KW PO
  have HD1 := Lib.hid (show d1.fuse = -1 ∧ d1.loose.length ≤ 1000000000 from by
    rw [hd1]
    exact ⟨burnt_m1 hf, by show (d.loose ++ [_]).length ≤ _; rw [List.length_append]; simp; omega⟩)
  clear h hd hf hlo hd1 htl ha
  subst htv
  go_enter Try.func46, Try.ntmps46
  go_upto_region 1 with fail
  refine wp_region_noPanic ?_
  refine wp_region_held_drew (S := fun W => W.cell? ⟨q, 0, none⟩ = some (.pointer (some ⟨r.pd, 0, none⟩)) ∧ W.cell? ⟨q, 1, none⟩ = some (.int .i64 (r.at' : Int)) ∧ W.cell? ⟨q, 2, none⟩ = some (.int .i64 (r.n : Int)) ∧ W.cell? ⟨q, 3, none⟩ = some (.int .u64 (r.life : Int)) ∧ W.cell? ⟨q, 5, none⟩ = some (.int .u64 (r.next : Int)) ∧ W.cell? ⟨q, 8, none⟩ = some (.slice ta tn tc)) (by kernel_rfl) (SS.out _ (L0.out.later (Below.refl _ _).drew)) (fun hHeld => ?_)
  refine wpAnyH_take (i := 0) (v := ?_) rfl (by kernel_rfl) (by kernel_rfl) (by kernel_rfl) (fun _ _ _ h => h) (Or.inl ⟨by rfl, ?_⟩) hHeld ?_
  rotate_left
  · (intro w hSw; obtain ⟨y0, y1, y2, y3, y5, y8⟩ := hSw; go_simp; (try with_reducible rfl))
  simp only [List.getElem_toArray, List.getElem_cons_zero, Act.put, List.setIfInBounds_toArray, List.set_cons_zero, List.set_cons_succ]
  refine wpAnyH_take (i := 1) (v := ?_) rfl (by kernel_rfl) (by kernel_rfl) (by kernel_rfl) (fun _ _ _ h => h) (Or.inl ⟨by rfl, ?_⟩) hHeld ?_
  rotate_left
  · (intro w hSw; obtain ⟨y0, y1, y2, y3, y5, y8⟩ := hSw; go_simp; (try with_reducible rfl))
  simp only [List.getElem_toArray, List.getElem_cons_succ, List.getElem_cons_zero, Act.put, List.setIfInBounds_toArray, List.set_cons_zero, List.set_cons_succ]
  refine wpAnyH_take (i := 2) (v := ?_) rfl (by kernel_rfl) (by kernel_rfl) (by kernel_rfl) (fun _ _ _ h => h) (Or.inl ⟨by rfl, ?_⟩) hHeld ?_
  rotate_left
  · (intro w hSw; obtain ⟨y0, y1, y2, y3, y5, y8⟩ := hSw; go_simp; (try with_reducible rfl))
  simp only [List.getElem_toArray, List.getElem_cons_succ, List.getElem_cons_zero, Act.put, List.setIfInBounds_toArray, List.set_cons_zero, List.set_cons_succ]
  refine wpAnyH_take (i := 3) (v := ?_) rfl (by kernel_rfl) (by kernel_rfl) (by kernel_rfl) (fun _ _ _ h => h) (Or.inl ⟨by rfl, ?_⟩) hHeld ?_
  rotate_left
  · (intro w hSw; obtain ⟨y0, y1, y2, y3, y5, y8⟩ := hSw; go_simp; (try with_reducible rfl))
  simp only [List.getElem_toArray, List.getElem_cons_succ, List.getElem_cons_zero, Act.put, List.setIfInBounds_toArray, List.set_cons_zero, List.set_cons_succ]
  refine wpAnyH_take (i := 4) (v := ?_) rfl (by kernel_rfl) (by kernel_rfl) (by kernel_rfl) (fun _ _ _ h => h) (Or.inl ⟨by rfl, ?_⟩) hHeld ?_
  rotate_left
  · (intro w hSw; obtain ⟨y0, y1, y2, y3, y5, y8⟩ := hSw; go_simp; (try with_reducible rfl))
  simp only [List.getElem_toArray, List.getElem_cons_succ, List.getElem_cons_zero, Act.put, List.setIfInBounds_toArray, List.set_cons_zero, List.set_cons_succ]
  refine wpAnyH_take (i := 5) (v := ?_) rfl (by kernel_rfl) (by kernel_rfl) (by kernel_rfl) (fun _ _ _ h => h) (Or.inl ⟨by rfl, ?_⟩) hHeld ?_
  rotate_left
  · (intro w hSw; obtain ⟨y0, y1, y2, y3, y5, y8⟩ := hSw; go_simp; (try with_reducible rfl))
  simp only [List.getElem_toArray, List.getElem_cons_succ, List.getElem_cons_zero, Act.put, List.setIfInBounds_toArray, List.set_cons_zero, List.set_cons_succ]
  refine wpAnyH_take (i := 6) (v := ?_) rfl (by kernel_rfl) (by kernel_rfl) (by kernel_rfl) (fun _ _ _ h => h) (Or.inl ⟨by rfl, ?_⟩) hHeld ?_
  rotate_left
  · (intro w hSw; obtain ⟨y0, y1, y2, y3, y5, y8⟩ := hSw; go_simp; (try with_reducible rfl))
  simp only [List.getElem_toArray, List.getElem_cons_succ, List.getElem_cons_zero, Act.put, List.setIfInBounds_toArray, List.set_cons_zero, List.set_cons_succ]
  refine wpAnyH_take (i := 7) (v := ?_) rfl (by kernel_rfl) (by kernel_rfl) (by kernel_rfl) (fun _ _ _ h => h) (Or.inl ⟨by rfl, ?_⟩) hHeld ?_
  rotate_left
  · (intro w hSw; obtain ⟨y0, y1, y2, y3, y5, y8⟩ := hSw; go_simp; (try with_reducible rfl))
  simp only [List.getElem_toArray, List.getElem_cons_succ, List.getElem_cons_zero, Act.put, List.setIfInBounds_toArray, List.set_cons_zero, List.set_cons_succ]
  refine wpAnyH_take (i := 9) (v := ?_) rfl (by kernel_rfl) (by kernel_rfl) (by kernel_rfl) (fun _ _ _ h => h) (Or.inl ⟨by rfl, ?_⟩) hHeld ?_
  rotate_left
  · (intro w hSw; obtain ⟨y0, y1, y2, y3, y5, y8⟩ := hSw; go_simp; (try with_reducible rfl))
  simp only [List.getElem_toArray, List.getElem_cons_succ, List.getElem_cons_zero, Act.put, List.setIfInBounds_toArray, List.set_cons_zero, List.set_cons_succ]
  refine wpAnyH_take (i := 10) (v := ?_) rfl (by kernel_rfl) (by kernel_rfl) (by kernel_rfl) (fun _ _ _ h => h) (Or.inl ⟨by rfl, ?_⟩) hHeld ?_
  rotate_left
  · (intro w hSw; obtain ⟨y0, y1, y2, y3, y5, y8⟩ := hSw; go_simp; (try with_reducible rfl))
  simp only [List.getElem_toArray, List.getElem_cons_succ, List.getElem_cons_zero, Act.put, List.setIfInBounds_toArray, List.set_cons_zero, List.set_cons_succ]
  refine wpAnyH_take (i := 11) (v := ?_) rfl (by kernel_rfl) (by kernel_rfl) (by kernel_rfl) (fun _ _ _ h => h) (Or.inl ⟨by rfl, ?_⟩) hHeld ?_
  rotate_left
  · (intro w hSw; obtain ⟨y0, y1, y2, y3, y5, y8⟩ := hSw; go_simp; (try with_reducible rfl))
  simp only [List.getElem_toArray, List.getElem_cons_succ, List.getElem_cons_zero, Act.put, List.setIfInBounds_toArray, List.set_cons_zero, List.set_cons_succ]
  refine wpAnyH_take (i := 12) (v := ?_) rfl (by kernel_rfl) (by kernel_rfl) (by kernel_rfl) (fun _ _ _ h => h) (Or.inl ⟨by rfl, ?_⟩) hHeld ?_
  rotate_left
  · (intro w hSw; obtain ⟨y0, y1, y2, y3, y5, y8⟩ := hSw; go_simp; (try with_reducible rfl))
  simp only [List.getElem_toArray, List.getElem_cons_succ, List.getElem_cons_zero, Act.put, List.setIfInBounds_toArray, List.set_cons_zero, List.set_cons_succ]
  refine wpAnyH_take (i := 13) (v := ?_) rfl (by kernel_rfl) (by kernel_rfl) (by kernel_rfl) (fun _ _ _ h => h) (Or.inl ⟨by rfl, ?_⟩) hHeld ?_
  rotate_left
  · (intro w hSw; obtain ⟨y0, y1, y2, y3, y5, y8⟩ := hSw; go_simp; (try with_reducible rfl))
  simp only [List.getElem_toArray, List.getElem_cons_succ, List.getElem_cons_zero, Act.put, List.setIfInBounds_toArray, List.set_cons_zero, List.set_cons_succ]
  refine wpAnyH_take (i := 14) (v := ?_) rfl (by kernel_rfl) (by kernel_rfl) (by kernel_rfl) (fun _ _ _ h => h) (Or.inl ⟨by rfl, ?_⟩) hHeld ?_
  rotate_left
  · (intro w hSw; obtain ⟨y0, y1, y2, y3, y5, y8⟩ := hSw; go_simp; (try with_reducible rfl))
  simp only [List.getElem_toArray, List.getElem_cons_succ, List.getElem_cons_zero, Act.put, List.setIfInBounds_toArray, List.set_cons_zero, List.set_cons_succ]
  refine wpAnyH_take (i := 15) (v := ?_) rfl (by kernel_rfl) (by kernel_rfl) (by kernel_rfl) (fun _ _ _ h => h) (Or.inl ⟨by rfl, ?_⟩) hHeld ?_
  rotate_left
  · (intro w hSw; obtain ⟨y0, y1, y2, y3, y5, y8⟩ := hSw; go_simp; (try with_reducible rfl))
  simp only [List.getElem_toArray, List.getElem_cons_succ, List.getElem_cons_zero, Act.put, List.setIfInBounds_toArray, List.set_cons_zero, List.set_cons_succ]
  refine wpAnyH_take (i := 16) (v := ?_) rfl (by kernel_rfl) (by kernel_rfl) (by kernel_rfl) (fun _ _ _ h => h) (Or.inl ⟨by rfl, ?_⟩) hHeld ?_
  rotate_left
  · (intro w hSw; obtain ⟨y0, y1, y2, y3, y5, y8⟩ := hSw; go_simp; (try with_reducible rfl))
  simp only [List.getElem_toArray, List.getElem_cons_succ, List.getElem_cons_zero, Act.put, List.setIfInBounds_toArray, List.set_cons_zero, List.set_cons_succ]
  refine wpAnyH_ready (rs := [8]) (by kernel_rfl) (by simp) (AllReadyH.cons rfl (fun K hK => ?_) AllReadyH.nil)
  refine step_fn rfl (.func 31) [.tmp 11] _ rfl 31 [] (by simp [Act.eval]) _ Try.func31 (by kernel_rfl) (by kernel_rfl) (K1.out _) (by rfl) ?_
  rintro e w5 ⟨rfl, rfl⟩
  refine ⟨_, rfl, ?_⟩
  refine hK.out _ _ (SS.out _ (L0.out.later (Below.refl _ _).drew)) (fun hHeld => ?_)
  clear hK K
  simp only [List.getElem_toArray, List.getElem_cons_succ, List.getElem_cons_zero, Act.put, List.setIfInBounds_toArray, List.set_cons_zero, List.set_cons_succ]
  refine wpAnyH_ready (rs := [17]) (by kernel_rfl) (by simp) (AllReadyH.cons rfl (fun K hK => ?_) AllReadyH.nil)
  refine step_fn rfl (.func 33) [.tmp 7, .tmp 12, .tmp 16, .tmp 20] _ rfl 33 [] (by simp [Act.eval]) _ Try.func33 (by kernel_rfl) (by kernel_rfl) KW.out (by rfl) ?_
  rintro e w6 ⟨rfl, r6, t6⟩
  refine ⟨_, rfl, ?_⟩
  have D6 := Lib.hid (Dk.call (w := w.drew) L0.out.lt r6 t6)
  have L6 := Lib.hid (Lr.step (L0.out.later (Below.refl _ _).drew) D6.out.2 (by omega) (by omega) (by omega) (by omega))
  clear r6 t6 KW
  refine hK.out _ _ (SS2.out _ _ L6.out) (fun hHeld => ?_)
  clear hK K
  simp only [List.getElem_toArray, List.getElem_cons_succ, List.getElem_cons_zero, Act.put, List.setIfInBounds_toArray, List.set_cons_zero, List.set_cons_succ]
  refine wpAnyH_take (i := 18) (v := ?_) rfl (by kernel_rfl) (by kernel_rfl) (by kernel_rfl) (fun _ _ _ h => h) (Or.inl ⟨by rfl, ?_⟩) hHeld ?_
  rotate_left
  · (intro w hSw; obtain ⟨y0, y1, y2, y3, y5, y8⟩ := hSw; go_simp; (try with_reducible rfl))
  simp only [List.getElem_toArray, List.getElem_cons_succ, List.getElem_cons_zero, Act.put, List.setIfInBounds_toArray, List.set_cons_zero, List.set_cons_succ]
  refine wpAnyH_done (by kernel_rfl) ?_ _
  refine NoPanic.normal ?_
  have KY := Lib.hid (Disk.sync_any D6.out.1 (by rw [HD1.out.1]; decide) (by have := HD1.out.2; omega))
  obtain ⟨d0, _⟩ := L6.out.cells
  go_wp2_with fail
  refine KY.out.mono ?_
  rintro e w7 ⟨rfl, r7, t7⟩
  have D7 := Lib.hid (Dk.call0 L6.out.lt r7 t7)
  have L7 := Lib.hid (L6.out.step D7.out.2 (by omega) (by omega) (by omega) (by omega))
  have P := Lib.hid (PO.out _ _ L7.out D7.out.1 ((S0.out.trans D6.out.2 (by omega)).trans D7.out.2 (by omega)))
  clear r7 t7 KY
  go_wp2_with fail
  go_ret
  exact P.out

end Go.Proofs.Ytgohpompgiljiaa.Log

namespace Go.Proofs.Ytgohpompgiljiaa.Log
open Go.RowKit
open Go.Proofs.Ytgohpompgiljiaa.Sl (Sl Step re)
open Go.Proofs.Ytgohpompgiljiaa.Seq (byteS recS all all_byte)
open Go.Proofs.Ytgohpompgiljiaa.Disk (D Rep grew now)
open Go.Proofs.Ytgohpompgiljiaa.Frame (L L_ext L_app L_cut L_len scn ScnP)
attribute [local go_sem ↓] Go.wp_at_zero Go.wp_at_succ

/-! ### bytes of a text, as a new slice -/
theorem conv_new (s : ByteArray) (hs : s.size ≤ 1000000) (w : World) : ∃ v w', (convert 9 55 (.string s)).run Try.prog w = .ok v w' ∧ Sl byteS (Disk.Fresh w w') w' v (L s) ∧ Below w.heap.size w w' := by
  have hsz : (L s).length = s.size := L_len s
  have hge := grownCap_ge w s.size 0 5
  have hrow : (bytesRow s (grownCap w s.size 0 5)).size = grownCap w s.size 0 5 := by
    have h2 : s.data.size = s.size := rfl
    unfold bytesRow
    rw [Array.size_append, Array.size_map, Array.size_replicate]
    omega
  have hcm := grownCap_le_maxLen w s.size 0 5 (by unfold maxLen; omega)
  have hrun := run_bytes_of_string (P := Try.prog) w 9 55 5 s Try.underlying9 Try.underlying55 Try.underlying5
  have hb : Below w.heap.size w (w.drew.alloc (.cells (bytesRow s (grownCap w s.size 0 5)) 5 ((bytesRow s (grownCap w s.size 0 5)).size, (bytesRow s (grownCap w s.size 0 5)).size + 1))) := ((Below.refl _ w).drew).alloc (Nat.le_refl _) _
  have hnew : (w.drew.alloc (.cells (bytesRow s (grownCap w s.size 0 5)) 5 ((bytesRow s (grownCap w s.size 0 5)).size, (bytesRow s (grownCap w s.size 0 5)).size + 1))).heap[w.heap.size]? = _ := heap_alloc_new w.drew _
  have hsize : (w.drew.alloc (.cells (bytesRow s (grownCap w s.size 0 5)) 5 ((bytesRow s (grownCap w s.size 0 5)).size, (bytesRow s (grownCap w s.size 0 5)).size + 1))).heap.size = w.heap.size + 1 := by simp
  generalize hC : grownCap w s.size 0 5 = C at *
  generalize w.drew.alloc _ = W at *
  refine ⟨_, W, hrun, ⟨some ⟨w.heap.size, 0, none⟩, C, by rw [hsz], by rw [hsz]; exact hge, hcm, .inr ⟨w.heap.size, 0, rfl, ⟨Nat.le_refl _, by omega⟩, by omega, fun j hj => ?_, fun j u hu => ?_⟩⟩, hb⟩
  · have hj2 : j < C := by have : byteS.k = 1 := rfl; rw [this] at hj; omega
    refine ⟨?_, ?_⟩
    · rw [Nat.zero_add, cell_of_row W _ j _ _ _ hnew, Array.getElem?_eq_getElem (by rw [hrow]; exact hj2)]; rfl
    · rw [Nat.zero_add]
      simp only [World.frozen?, hnew, hrow]
      rw [Bool.and_eq_false_iff]
      left
      simp
      omega
  · rw [all_byte] at hu
    have hj := (List.getElem?_eq_some_iff.1 hu).1
    rw [Disk.byteCells_len, hsz] at hj
    rw [Nat.zero_add, cell_of_row W _ j _ _ _ hnew]
    unfold bytesRow
    rw [Array.getElem?_append_left (by rw [Array.size_map]; exact hj)]
    have h3 : (s.data.map fun b : UInt8 => Value.int .u8 (b.toNat : Int))[j]? = some u := by
      rw [← Array.getElem?_toList, Array.toList_map]
      exact hu
    first | exact h3 | simpa using h3
/-- one operation of a region: a text's bytes as a new slice -/
theorem step_conv {ops : Array Oper} {o : Oper} {a : Act} {w : World} {K : Act → World → Prop} {Q : Exit → Act → World → Prop} {E : Prop} (hgd : o.guard = none) (x : Operand) (ho : o.op = .convert 9 55 x) (s : ByteArray) (hs : s.size ≤ 1000000) (hx : a.eval x = .string s)
    (hk : ∀ v w', Sl byteS (Disk.Fresh w w') w' v (L s) → Below w.heap.size w w' → K (a.put o.dst v) w') : if Region.wanted o (yielded ops a.tmps) = true then Oper.wp Try.prog o a w K Q else E := by
  have hw : Region.wanted o (yielded ops a.tmps) = true := by simp [Region.wanted, hgd]
  rw [if_pos hw]
  obtain ⟨v, w', hr, h1, h2⟩ := conv_new s hs w
  unfold Oper.wp execOp
  simp only [ho, Sem.run_bind, hx, hr, Result.andThen_ok]
  exact hk v w' h1 h2

/-! ### Open -/
def IO (i k : Nat) : Prop := k = 1 ∨ I3 i k
def opD (d : D) (a n life first : Nat) (S : List UInt8) : D := if opX first S then wrS d a n ((first + sz (opT S first)) / 110) life (opG n life first S).tail else d
def OpnP (i pd a n life first : Nat) (S : List UInt8) (d : D) (T : Nat → Nat) (w : World) (e : Ending) (w' : World) : Prop :=
  (opE first S = 120 ∧ e = .returned (.tuple #[.pointer none, .int .i64 120]) ∧ Below w.heap.size w w') ∨
  (opE first S = 0 ∧ ∃ q T', e = .returned (.tuple #[.pointer (some ⟨q, 0, none⟩), .int .i64 0]) ∧ Lg i T' w' q pd a (opG n life first S) ∧ Dk T' w' pd (opD d a n life first S) ∧ Step (IO i) T T' w w')
set_option maxRecDepth 100000 in
set_option maxHeartbeats 4000000 in
theorem open_nil (a n l f : Int) (w : World) : Calls Try.prog 17 #[.pointer none, .int .i64 a, .int .i64 n, .int .u64 l, .int .u64 f] w fun e w' => e = .returned (.tuple #[.pointer none, .int .i64 1]) ∧ Below w.heap.size w w' := by
  have BN := Lib.hid (below_new w (.cells (ringC (.pointer none) a n) 61))
  have K := Lib.hid (fun W => usable_nil a n l W)
  obtain ⟨c0, c1, c2⟩ := ring_cells w (.pointer none) a n
  unfold ringV at *
  unfold ringC at *
  go_enter Try.func17, Try.ntmps17
  go_upto_region 2 with fail
  generalize w.alloc _ = W at *
  go_wp2_with fail
  refine (K.out _).mono ?_
  rintro e w1 ⟨rfl, b1⟩
  have B1 := Lib.hid (BN.out.trans (b1.mono BN.out.size))
  clear b1
  go_wp2_with fail
  go_ret2
  exact ⟨rfl, B1.out⟩
set_option maxRecDepth 100000 in
set_option maxHeartbeats 4000000 in
theorem open_any {i pd : Nat} {T : Nat → Nat} {w : World} {d : D} (hi : 2 ≤ i) (hT : ∀ b, T b ≠ 0 → b < w.heap.size) (hd : Dk T w pd d) (hf : d.fuse = -1) (hlo : d.loose.length ≤ 100000000) (a n life first : Nat) (h4 : 4 ≤ n) (h9 : n ≤ 900) (ha : a + n ≤ d.sure.length) (hl : 1 ≤ life) (hl9 : life ≤ 1000000000) (hf1 : 110 ≤ first) (hf2 : first ≤ 900000000000)
    (S : List UInt8) (hS : S = strm (secN d a n) life n (first / 110) 0) :
    Calls Try.prog 17 #[.pointer (some ⟨pd, 0, none⟩), .int .i64 (a : Int), .int .i64 (n : Int), .int .u64 (life : Int), .int .u64 (first : Int)] w (OpnP i pd a n life first S d T w) := by
  have hmost := Rep.ok hd |>.most
  have HAM := Lib.hid (show a ≤ 1000000 from by have h1 := hmost; omega)
  have BN := Lib.hid (below_new w (.cells (ringC (.pointer (some ⟨pd, 0, none⟩)) a n) 61))
  have KU := Lib.hid (usable_any (Rep.later hd BN.out) a n life h4 (by omega) (by omega) hl 0 (by rw [if_pos ha]))
  have KS := Lib.hid (fun W => stretch_any first W (by omega))
  have KB := Lib.hid (fun W => beginning_any (first / 110) W (by omega))
  have KM := Lib.hid (fun W (b : Below w.heap.size w W) => stream_any (Rep.later hd b) (by rw [hf]; decide) a n (first / 110) life h4 (by omega) ha (by omega) hl9)
  have SLN := strm_len (secN d a n) life n (first / 110) 0
  unfold StmP at KM
  rw [← hS] at KM SLN
  have HL := Lib.hid (heap_alloc_new w (.cells (ringC (.pointer (some ⟨pd, 0, none⟩)) a n) 61))
  change Hid (∀ W, Calls Try.prog 35 #[.int .u64 ((first / 110 : Nat) : Int)] W fun e w' => e = .returned (.int .u64 (beg first : Int)) ∧ W = w') at KB
  have HD := Lib.hid hd
  have HF := Lib.hid hf
  have HT := Lib.hid hT
  have HLO := Lib.hid hlo
  have HA := Lib.hid ha
  have hbl := beg_le first
  have hbm := beg_mod first
  have RC := Lib.hid (show ∀ W, Below (w.alloc (.cells (ringC (.pointer (some ⟨pd, 0, none⟩)) a n) 61)).heap.size (w.alloc (.cells (ringC (.pointer (some ⟨pd, 0, none⟩)) a n) 61)) W → W.cell? ⟨w.heap.size, 0, none⟩ = some (.pointer (some ⟨pd, 0, none⟩)) ∧ W.cell? ⟨w.heap.size, 1, none⟩ = some (.int .i64 (a : Int)) ∧ W.cell? ⟨w.heap.size, 2, none⟩ = some (.int .i64 (n : Int)) from fun W b => by
    have h1 := (b.block _ (Array.getElem?_eq_some_iff.1 HL.out).1).trans HL.out
    refine ⟨?_, ?_, ?_⟩ <;> (rw [cell_of_row _ _ _ _ _ _ h1]; rfl))
  clear hS hd hf hT hlo hmost ha
  unfold ringV at *
  unfold ringC at *
  generalize first / 110 = k0 at *
  go_enter Try.func17, Try.ntmps17
  go_upto_region 2 with fail
  generalize w.alloc _ = W1 at *
  obtain ⟨gr, hgr⟩ : ∃ gr, gr = w.heap.size := ⟨_, rfl⟩
  rw [← hgr] at RC ⊢
  clear hgr
  obtain ⟨c0, c1, c2⟩ := RC.out W1 (Below.refl _ _)
  go_wp2_with fail
  refine KU.out.mono ?_
  rintro e w2 ⟨rfl, b2⟩
  have B2 := Lib.hid (BN.out.trans (b2.mono BN.out.size))
  have RB2 := Lib.hid b2
  clear b2 KU HL BN c0 c1 c2
  have g1 : decide ((first : Int) < 110) = false := decide_eq_false (by omega)
  have g1' : decide (first < 110) = false := decide_eq_false (by omega)
  have g2 : decide (4611686018427387904 < (first : Int)) = false := decide_eq_false (by omega)
  have g2' : decide (4611686018427387904 < first) = false := decide_eq_false (by omega)
  have KM2 := Lib.hid (KM.out _ B2.out.drew)
  clear KM
  have KM := Lib.hid (fun (_ : Unit) => KM2.out)
  clear KM2
  go_upto_region 7 with fail
  refine wp_region_noPanic ?_
  refine wp_region_held_drew (S := fun W => W.cell? ⟨gr, 0, none⟩ = some (.pointer (some ⟨pd, 0, none⟩)) ∧ W.cell? ⟨gr, 1, none⟩ = some (.int .i64 (a : Int)) ∧ W.cell? ⟨gr, 2, none⟩ = some (.int .i64 (n : Int))) (by kernel_rfl) (RC.out _ (RB2.out.trans (Below.refl _ _).drew)) (fun hHeld => ?_)
  refine wpAnyH_take (i := 0) (v := ?_) rfl (by kernel_rfl) (by kernel_rfl) (by kernel_rfl) (fun _ _ _ h => h) (Or.inl ⟨by rfl, ?_⟩) hHeld ?_
  rotate_left
  · (intro w hSw; obtain ⟨y0, y1, y2⟩ := hSw; go_simp; (try with_reducible rfl))
  simp only [List.getElem_toArray, List.getElem_cons_zero, Act.put, List.setIfInBounds_toArray, List.set_cons_zero, List.set_cons_succ]
  refine wpAnyH_take (i := 1) (v := ?_) rfl (by kernel_rfl) (by kernel_rfl) (by kernel_rfl) (fun _ _ _ h => h) (Or.inl ⟨by rfl, ?_⟩) hHeld ?_
  rotate_left
  · (intro w hSw; obtain ⟨y0, y1, y2⟩ := hSw; go_simp; (try with_reducible rfl))
  simp only [List.getElem_toArray, List.getElem_cons_succ, List.getElem_cons_zero, Act.put, List.setIfInBounds_toArray, List.set_cons_zero, List.set_cons_succ]
  refine wpAnyH_take (i := 3) (v := ?_) rfl (by kernel_rfl) (by kernel_rfl) (by kernel_rfl) (fun _ _ _ h => h) (Or.inl ⟨by rfl, ?_⟩) hHeld ?_
  rotate_left
  · (intro w hSw; obtain ⟨y0, y1, y2⟩ := hSw; go_simp; (try with_reducible rfl))
  simp only [List.getElem_toArray, List.getElem_cons_succ, List.getElem_cons_zero, Act.put, List.setIfInBounds_toArray, List.set_cons_zero, List.set_cons_succ]
  refine wpAnyH_ready (rs := [2]) (by kernel_rfl) (by simp) (AllReadyH.cons rfl (fun K hK => ?_) AllReadyH.nil)
  refine step_fn rfl (.func 31) [.tmp 37] _ rfl 31 [] (by simp [Act.eval]) _ Try.func31 (by kernel_rfl) (by kernel_rfl) (KS.out _) (by rfl) ?_
  rintro e w5 ⟨rfl, rfl⟩
  refine ⟨_, rfl, ?_⟩
  refine hK.out _ _ (RC.out _ (RB2.out.trans (Below.refl _ _).drew)) (fun hHeld => ?_)
  clear hK K
  simp only [List.getElem_toArray, List.getElem_cons_succ, List.getElem_cons_zero, Act.put, List.setIfInBounds_toArray, List.set_cons_zero, List.set_cons_succ]
  refine wpAnyH_ready (rs := [4]) (by kernel_rfl) (by simp) (AllReadyH.cons rfl (fun K hK => ?_) AllReadyH.nil)
  refine step_fn rfl (.func 43) [.tmp 36, .tmp 38, .tmp 39] _ rfl 43 [] (by simp [Act.eval]) _ Try.func43 (by kernel_rfl) (by kernel_rfl) (KM.out ()) (by rfl) ?_
  rintro e w5 ⟨rfl, b5⟩
  refine ⟨_, rfl, ?_⟩
  have B5 := Lib.hid (B2.out.drew.trans (b5.mono B2.out.size))
  have RB5 := Lib.hid (RB2.out.trans ((show Below w2.heap.size w2 w5 from (Below.refl _ _).drew.trans b5).mono RB2.out.size))
  clear b5
  refine hK.out _ _ (RC.out _ RB5.out) (fun hHeld => ?_)
  clear hK K
  simp only [List.getElem_toArray, List.getElem_cons_succ, List.getElem_cons_zero, Act.put, List.setIfInBounds_toArray, List.set_cons_zero, List.set_cons_succ]
  refine wpAnyH_take (i := 5) (v := ?_) rfl (by kernel_rfl) (by kernel_rfl) (by kernel_rfl) (fun _ _ _ h => h) (Or.inl ⟨by rfl, ?_⟩) hHeld ?_
  rotate_left
  · (intro w hSw; obtain ⟨y0, y1, y2⟩ := hSw; go_simp; (try with_reducible rfl))
  simp only [List.getElem_toArray, List.getElem_cons_succ, List.getElem_cons_zero, Act.put, List.setIfInBounds_toArray, List.set_cons_zero, List.set_cons_succ]
  refine wpAnyH_take (i := 6) (v := ?_) rfl (by kernel_rfl) (by kernel_rfl) (by kernel_rfl) (fun _ _ _ h => h) (Or.inl ⟨by rfl, ?_⟩) hHeld ?_
  rotate_left
  · (intro w hSw; obtain ⟨y0, y1, y2⟩ := hSw; go_simp; (try with_reducible rfl))
  simp only [List.getElem_toArray, List.getElem_cons_succ, List.getElem_cons_zero, Act.put, List.setIfInBounds_toArray, List.set_cons_zero, List.set_cons_succ]
  refine wpAnyH_take (i := 7) (v := ?_) rfl (by kernel_rfl) (by kernel_rfl) (by kernel_rfl) (fun _ _ _ h => h) (Or.inl ⟨by rfl, ?_⟩) hHeld ?_
  rotate_left
  · (intro w hSw; obtain ⟨y0, y1, y2⟩ := hSw; go_simp; (try with_reducible rfl))
  simp only [List.getElem_toArray, List.getElem_cons_succ, List.getElem_cons_zero, Act.put, List.setIfInBounds_toArray, List.set_cons_zero, List.set_cons_succ]
  refine wpAnyH_take (i := 8) (v := ?_) rfl (by kernel_rfl) (by kernel_rfl) (by kernel_rfl) (fun _ _ _ h => h) (Or.inl ⟨by rfl, ?_⟩) hHeld ?_
  rotate_left
  · (intro w hSw; obtain ⟨y0, y1, y2⟩ := hSw; go_simp; (try with_reducible rfl))
  simp only [List.getElem_toArray, List.getElem_cons_succ, List.getElem_cons_zero, Act.put, List.setIfInBounds_toArray, List.set_cons_zero, List.set_cons_succ]
  refine wpAnyH_take (i := 9) (v := ?_) rfl (by kernel_rfl) (by kernel_rfl) (by kernel_rfl) (fun _ _ _ h => h) (Or.inl ⟨by rfl, ?_⟩) hHeld ?_
  rotate_left
  · (intro w hSw; obtain ⟨y0, y1, y2⟩ := hSw; go_simp; (try with_reducible rfl))
  simp only [List.getElem_toArray, List.getElem_cons_succ, List.getElem_cons_zero, Act.put, List.setIfInBounds_toArray, List.set_cons_zero, List.set_cons_succ]
  refine wpAnyH_done (by kernel_rfl) ?_ _
  refine NoPanic.normal ?_
  clear g1 g1' g2 g2' KM B2 RB2
  obtain ⟨rc0, rc1, rc2⟩ := RC.out w5 RB5.out
  obtain ⟨sB, hsB⟩ : ∃ sB, sB = bs S := ⟨_, rfl⟩
  have ZB := Lib.hid (show sB.size = S.length from by rw [hsB]; exact bs_size S)
  rw [← hsB]
  have HSB := Lib.hid hsB
  clear hsB
  obtain ⟨b0, hb0⟩ : ∃ b0, b0 = beg first := ⟨_, rfl⟩
  obtain ⟨A, hA⟩ : ∃ A, A = first % 110 := ⟨_, rfl⟩
  rw [← hb0] at KB hbl hbm
  rw [← hA] at hbm
  have HB0 := Lib.hid hb0
  have HAA := Lib.hid hA
  clear hb0 hA
  have hA1 : A < 110 := by rw [HAA.out]; omega
  have eA : (first : Int) - (b0 : Int) = (A : Int) := by omega
  have eA' : IntKind.u64.wrap ((first : Int) - (b0 : Int)) = (A : Int) := (wrap_u64 (by omega) (by omega)).trans eA
  have wS : IntKind.u64.wrap (sB.size : Int) = (sB.size : Int) := wrap_u64 (by omega) (by have := ZB.out; omega)
  by_cases hE : S.length < A
  · have EE := Lib.hid (show opE first S = 120 from by unfold opE; rw [← HAA.out, if_pos hE])
    have x1 : decide (sB.size < A) = true := decide_eq_true (by have := ZB.out; omega)
    have x2 : decide ((sB.size : Int) < (A : Int)) = true := decide_eq_true (by have := ZB.out; omega)
    clear hE
    go_wp2_with fail
    refine (KS.out _).mono ?_
    rintro e w6 ⟨rfl, rfl⟩
    go_wp2_with fail
    refine (KB.out _).mono ?_
    rintro e w6 ⟨rfl, rfl⟩
    go_wp2_with fail
    go_ret2
    exact .inl ⟨EE.out, rfl, B5.out⟩
  · have x1 : decide (sB.size < A) = false := decide_eq_false (by have := ZB.out; omega)
    have x2 : decide ((sB.size : Int) < (A : Int)) = false := decide_eq_false (by have := ZB.out; omega)
    have EE := Lib.hid (show opE first S = 0 from by unfold opE; rw [← HAA.out, if_neg hE])
    have HE := Lib.hid hE
    have SN := Lib.hid SLN
    have wSH := Lib.hid wS
    have KG := Lib.hid (fun W => begun_any pd a n life first W)
    unfold ringV ringC at KG
    have hx1 : sB.size = S.length := ZB.out
    have s1e : sB.extract A sB.size = bs (S.drop A) := by
      apply L_ext
      rw [L_cut, L_bs, HSB.out, L_bs, bs_size, List.take_of_length_le (by rw [List.length_drop]; omega)]
    obtain ⟨s1, hs1⟩ : ∃ s1, s1 = bs (S.drop A) := ⟨_, rfl⟩
    rw [← hs1] at s1e
    have HS1 := Lib.hid hs1
    have hAle : (A : Int) ≤ (sB.size : Int) := by omega
    have hA0 : (0 : Int) ≤ (A : Int) := by omega
    clear hE SLN hs1 hx1
    go_wp2_with fail
    refine (KS.out _).mono ?_
    rintro e w6 ⟨rfl, rfl⟩
    go_wp2_with fail
    refine (KB.out _).mono ?_
    rintro e w6 ⟨rfl, rfl⟩
    go_wp2_with fail
    refine (KG.out _).mono ?_
    rintro e w6 ⟨rfl, hborn⟩
    have BO := Lib.hid (hborn.lr (i := i) (T := T) (fun b hb => Nat.lt_of_lt_of_le (HT.out b hb) B5.out.size) (by omega) rfl rfl)
    obtain ⟨q, hq⟩ : ∃ q, q = w5.heap.size + 1 := ⟨_, rfl⟩
    rw [← hq] at BO ⊢
    have BB := Lib.hid hborn.2.2
    clear hborn hq KG rc0 rc1 rc2 x1 x2 KS KB
    have KT := Lib.hid (take_any BO.out.1 rfl rfl (by show first ≤ _; omega) s1 (by rw [HS1.out, bs_size, List.length_drop]; have := SN.out; have : n * 110 ≤ 900 * 110 := Nat.mul_le_mul_right _ h9; omega))
    have FA := Lib.hid (op_facts (first := first) (S := S) (by omega) (by have := SN.out; have : n * 110 ≤ 900 * 110 := Nat.mul_le_mul_right _ h9; omega))
    have TXX := Lib.hid (show (scn s1 first).1 = opT S first from by rw [HS1.out, HAA.out]; rfl)
    change Hid (Calls Try.prog 45 #[.pointer (some ⟨q, 0, none⟩), .string s1] w6 (TkP i q (one T q i) ⟨pd, a, n, life, first, first, first, 0, [], []⟩ (scn s1 first).1 (.slice none 0 0) w6)) at KT
    rw [TXX.out] at KT
    go_wp2_with fail
    refine KT.out.mono ?_
    rintro e w7 ⟨rfl, T7, rv7, l7, s7⟩
    obtain ⟨nx, hnx⟩ : ∃ nx, nx = first + sz (opT S first) := ⟨_, rfl⟩
    have L7 := Lib.hid (show Lr i T7 w7 q ⟨pd, a, n, life, first, nx, nx, 0, pos first (opT S first), []⟩ rv7 (.slice none 0 0) from by rw [hnx]; exact l7)
    have hT5 : ∀ b, T b ≠ 0 → b < w5.heap.size := fun b hb => Nat.lt_of_lt_of_le (HT.out b hb) B5.out.size
    have S7 := Lib.hid (((Step.below (IO i) HT.out B5.out).trans (BO.out.2.mono (fun k hk => .inr (.inl hk))) (by unfold IO I3; omega)).trans (s7.mono (fun k hk => .inr hk)) (by unfold IO I3; omega))
    have SI7 := Lib.hid (((Step.below (I3 i) HT.out B5.out).trans (BO.out.2.mono (fun k hk => .inl hk)) (by unfold I3; omega)).trans s7 (by unfold I3; omega))
    have D7 := Lib.hid (HD.out.step SI7.out (by unfold I3; omega) HT.out (by unfold I3; omega))
    have NX := Lib.hid hnx
    have hsz := FA.out.2.2.2
    have nxl : nx ≤ 901000000000 := by rw [hnx]; have := SN.out; have : n * 110 ≤ 900 * 110 := Nat.mul_le_mul_right _ h9; omega
    have nxf : first ≤ nx := by omega
    have nxh : nx - b0 ≤ sB.size := by rw [ZB.out, hnx]; have := HE.out; rw [← HAA.out] at hsz; omega
    clear l7 s7 KT BO hT5 hnx hsz BB
    have KS2 := Lib.hid (fun W => stretch_any nx W (by omega))
    have KB2 := Lib.hid (fun W => beginning_any (nx / 110) W (by omega))
    change Hid (∀ W, Calls Try.prog 35 #[.int .u64 ((nx / 110 : Nat) : Int)] W fun e w' => e = .returned (.int .u64 (beg nx : Int)) ∧ W = w') at KB2
    have hbn1 := beg_le nx
    have hbn2 : b0 ≤ beg nx := by rw [HB0.out]; exact beg_mono nxf
    obtain ⟨bn, hbn⟩ : ∃ bn, bn = beg nx := ⟨_, rfl⟩
    rw [← hbn] at KB2 hbn1 hbn2
    have HBN := Lib.hid hbn
    clear hbn
    obtain ⟨kn, hkn⟩ : ∃ kn, kn = nx / 110 := ⟨_, rfl⟩
    rw [← hkn] at KS2 KB2
    have HKN := Lib.hid hkn
    clear hkn
    obtain ⟨lo, hlo⟩ : ∃ lo, lo = bn - b0 := ⟨_, rfl⟩
    obtain ⟨hi', hhi⟩ : ∃ hi', hi' = nx - b0 := ⟨_, rfl⟩
    have ew1 : IntKind.u64.wrap ((bn : Int) - (b0 : Int)) = (lo : Int) := (wrap_u64 (by omega) (by omega)).trans (by omega)
    have ew2 : IntKind.u64.wrap ((nx : Int) - (b0 : Int)) = (hi' : Int) := (wrap_u64 (by omega) (by omega)).trans (by omega)
    have hlh : lo ≤ hi' := by omega
    have hhs : hi' ≤ sB.size := by omega
    obtain ⟨s2, hs2⟩ : ∃ s2, s2 = sB.extract lo hi' := ⟨_, rfl⟩
    have hsl : ∀ W, (Instr.sliceAt 9 (.string sB) (some (.int .u64 (lo : Int))) (some (.int .u64 (hi' : Int))) none).run Try.prog W = .ok (.string s2) W := fun W => by
      rw [run_sliceAt_string (P := Try.prog) W 9 _ _ _ _ Try.underlying9, run_slice_string (P := Try.prog) W 9 sB .u64 .u64 (lo : Int) (hi' : Int) Try.underlying9 (by omega) (by omega) (by omega), hs2]
      simp
    have HS2 := Lib.hid hs2
    have HLO2 := Lib.hid hlo
    have HHI := Lib.hid hhi
    have s2z : s2.size ≤ 1000000 := by rw [hs2, ByteArray.size_extract]; have := SN.out; have := ZB.out; have : n * 110 ≤ 900 * 110 := Nat.mul_le_mul_right _ h9; omega
    clear hs2 hlo hhi nxf s1e eA eA'
    have S5C := Lib.hid (show ∀ W T' rv tv, Lr i T' W q ⟨pd, a, n, life, first, nx, nx, 0, pos first (opT S first), []⟩ rv tv → W.cell? ⟨q, 5, none⟩ = some (.int .u64 (nx : Int)) from fun W T' rv tv h => h.cells.2.2.2.2.2.1)
    have f78 := L7.out.free 8
    go_upto_region 15 with fail
    refine wp_region_noPanic ?_
    refine wp_region_held_drew (S := fun W => W.cell? ⟨q, 5, none⟩ = some (.int .u64 (nx : Int))) (by kernel_rfl) (S5C.out _ _ _ _ (L7.out.later (Below.refl _ _).drew)) (fun hHeld => ?_)
    refine wpAnyH_take (i := 0) (v := ?_) rfl (by kernel_rfl) (by kernel_rfl) (by kernel_rfl) (fun _ _ _ h => h) (Or.inl ⟨by rfl, ?_⟩) hHeld ?_
    rotate_left
    · (intro w hSw; obtain y5 := hSw; go_simp; (try with_reducible rfl))
    simp only [List.getElem_toArray, List.getElem_cons_zero, Act.put, List.setIfInBounds_toArray, List.set_cons_zero, List.set_cons_succ]
    refine wpAnyH_take (i := 1) (v := ?_) rfl (by kernel_rfl) (by kernel_rfl) (by kernel_rfl) (fun _ _ _ h => h) (Or.inl ⟨by rfl, ?_⟩) hHeld ?_
    rotate_left
    · (intro w hSw; obtain y5 := hSw; go_simp; (try with_reducible rfl))
    simp only [List.getElem_toArray, List.getElem_cons_succ, List.getElem_cons_zero, Act.put, List.setIfInBounds_toArray, List.set_cons_zero, List.set_cons_succ]
    refine wpAnyH_take (i := 2) (v := ?_) rfl (by kernel_rfl) (by kernel_rfl) (by kernel_rfl) (fun _ _ _ h => h) (Or.inl ⟨by rfl, ?_⟩) hHeld ?_
    rotate_left
    · (intro w hSw; obtain y5 := hSw; go_simp; (try with_reducible rfl))
    simp only [List.getElem_toArray, List.getElem_cons_succ, List.getElem_cons_zero, Act.put, List.setIfInBounds_toArray, List.set_cons_zero, List.set_cons_succ]
    refine wpAnyH_take (i := 3) (v := ?_) rfl (by kernel_rfl) (by kernel_rfl) (by kernel_rfl) (fun _ _ _ h => h) (Or.inl ⟨by rfl, ?_⟩) hHeld ?_
    rotate_left
    · (intro w hSw; obtain y5 := hSw; go_simp; (try with_reducible rfl))
    simp only [List.getElem_toArray, List.getElem_cons_succ, List.getElem_cons_zero, Act.put, List.setIfInBounds_toArray, List.set_cons_zero, List.set_cons_succ]
    refine wpAnyH_take (i := 4) (v := ?_) rfl (by kernel_rfl) (by kernel_rfl) (by kernel_rfl) (fun _ _ _ h => h) (Or.inl ⟨by rfl, ?_⟩) hHeld ?_
    rotate_left
    · (intro w hSw; obtain y5 := hSw; go_simp; (try with_reducible rfl))
    simp only [List.getElem_toArray, List.getElem_cons_succ, List.getElem_cons_zero, Act.put, List.setIfInBounds_toArray, List.set_cons_zero, List.set_cons_succ]
    refine wpAnyH_take (i := 5) (v := ?_) rfl (by kernel_rfl) (by kernel_rfl) (by kernel_rfl) (fun _ _ _ h => h) (Or.inl ⟨by rfl, ?_⟩) hHeld ?_
    rotate_left
    · (intro w hSw; obtain y5 := hSw; go_simp; (try with_reducible rfl))
    simp only [List.getElem_toArray, List.getElem_cons_succ, List.getElem_cons_zero, Act.put, List.setIfInBounds_toArray, List.set_cons_zero, List.set_cons_succ]
    refine wpAnyH_take (i := 8) (v := ?_) rfl (by kernel_rfl) (by kernel_rfl) (by kernel_rfl) (fun _ _ _ h => h) (Or.inl ⟨by rfl, ?_⟩) hHeld ?_
    rotate_left
    · (intro w hSw; obtain y5 := hSw; go_simp; (try with_reducible rfl))
    simp only [List.getElem_toArray, List.getElem_cons_succ, List.getElem_cons_zero, Act.put, List.setIfInBounds_toArray, List.set_cons_zero, List.set_cons_succ]
    refine wpAnyH_take (i := 10) (v := ?_) rfl (by kernel_rfl) (by kernel_rfl) (by kernel_rfl) (fun _ _ _ h => h) (Or.inl ⟨by rfl, ?_⟩) hHeld ?_
    rotate_left
    · (intro w hSw; obtain y5 := hSw; go_simp; (try with_reducible rfl))
    simp only [List.getElem_toArray, List.getElem_cons_succ, List.getElem_cons_zero, Act.put, List.setIfInBounds_toArray, List.set_cons_zero, List.set_cons_succ]
    refine wpAnyH_take (i := 11) (v := ?_) rfl (by kernel_rfl) (by kernel_rfl) (by kernel_rfl) (fun _ _ _ h => h) (Or.inl ⟨by rfl, ?_⟩) hHeld ?_
    rotate_left
    · (intro w hSw; obtain y5 := hSw; go_simp; (try with_reducible rfl))
    simp only [List.getElem_toArray, List.getElem_cons_succ, List.getElem_cons_zero, Act.put, List.setIfInBounds_toArray, List.set_cons_zero, List.set_cons_succ]
    refine wpAnyH_take (i := 12) (v := ?_) rfl (by kernel_rfl) (by kernel_rfl) (by kernel_rfl) (fun _ _ _ h => h) (Or.inl ⟨by rfl, ?_⟩) hHeld ?_
    rotate_left
    · (intro w hSw; obtain y5 := hSw; go_simp; (try with_reducible rfl))
    simp only [List.getElem_toArray, List.getElem_cons_succ, List.getElem_cons_zero, Act.put, List.setIfInBounds_toArray, List.set_cons_zero, List.set_cons_succ]
    refine wpAnyH_take (i := 13) (v := ?_) rfl (by kernel_rfl) (by kernel_rfl) (by kernel_rfl) (fun _ _ _ h => h) (Or.inl ⟨by rfl, ?_⟩) hHeld ?_
    rotate_left
    · (intro w hSw; obtain y5 := hSw; go_simp; (try with_reducible rfl))
    simp only [List.getElem_toArray, List.getElem_cons_succ, List.getElem_cons_zero, Act.put, List.setIfInBounds_toArray, List.set_cons_zero, List.set_cons_succ]
    refine wpAnyH_take (i := 14) (v := ?_) rfl (by kernel_rfl) (by kernel_rfl) (by kernel_rfl) (fun _ _ _ h => h) (Or.inl ⟨by rfl, ?_⟩) hHeld ?_
    rotate_left
    · (intro w hSw; obtain y5 := hSw; go_simp; (try with_reducible rfl))
    simp only [List.getElem_toArray, List.getElem_cons_succ, List.getElem_cons_zero, Act.put, List.setIfInBounds_toArray, List.set_cons_zero, List.set_cons_succ]
    refine wpAnyH_take (i := 15) (v := ?_) rfl (by kernel_rfl) (by kernel_rfl) (by kernel_rfl) (fun _ _ _ h => h) (Or.inl ⟨by rfl, ?_⟩) hHeld ?_
    rotate_left
    · (intro w hSw; obtain y5 := hSw; go_simp; (try with_reducible rfl))
    simp only [List.getElem_toArray, List.getElem_cons_succ, List.getElem_cons_zero, Act.put, List.setIfInBounds_toArray, List.set_cons_zero, List.set_cons_succ]
    refine wpAnyH_ready (rs := [6]) (by kernel_rfl) (by simp) (AllReadyH.cons rfl (fun K hK => ?_) AllReadyH.nil)
    refine step_fn rfl (.func 31) [.tmp 72] _ rfl 31 [] (by simp [Act.eval]) _ Try.func31 (by kernel_rfl) (by kernel_rfl) (KS2.out _) (by rfl) ?_
    rintro e w8 ⟨rfl, rfl⟩
    refine ⟨_, rfl, ?_⟩
    refine hK.out _ _ (S5C.out _ _ _ _ (L7.out.later (Below.refl _ _).drew)) (fun hHeld => ?_)
    clear hK K
    simp only [List.getElem_toArray, List.getElem_cons_succ, List.getElem_cons_zero, Act.put, List.setIfInBounds_toArray, List.set_cons_zero, List.set_cons_succ]
    refine wpAnyH_ready (rs := [7]) (by kernel_rfl) (by simp) (AllReadyH.cons rfl (fun K hK => ?_) AllReadyH.nil)
    refine step_fn rfl (.func 35) [.tmp 73] _ rfl 35 [] (by simp [Act.eval]) _ Try.func35 (by kernel_rfl) (by kernel_rfl) (KB2.out _) (by rfl) ?_
    rintro e w8 ⟨rfl, rfl⟩
    refine ⟨_, rfl, ?_⟩
    refine hK.out _ _ (S5C.out _ _ _ _ (L7.out.later (Below.refl _ _).drew)) (fun hHeld => ?_)
    clear hK K
    simp only [List.getElem_toArray, List.getElem_cons_succ, List.getElem_cons_zero, Act.put, List.setIfInBounds_toArray, List.set_cons_zero, List.set_cons_succ]
    refine wpAnyH_take (i := 9) (v := ?_) rfl (by kernel_rfl) (by kernel_rfl) (by kernel_rfl) (fun _ _ _ h => h) (Or.inl ⟨by rfl, ?_⟩) hHeld ?_
    rotate_left
    · (intro w hSw; obtain y5 := hSw; go_simp; (try with_reducible rfl))
    simp only [List.getElem_toArray, List.getElem_cons_succ, List.getElem_cons_zero, Act.put, List.setIfInBounds_toArray, List.set_cons_zero, List.set_cons_succ]
    refine wpAnyH_take (i := 16) (v := ?_) rfl (by kernel_rfl) (by kernel_rfl) (by kernel_rfl) (fun _ _ _ h => h) (Or.inl ⟨by rfl, ?_⟩) hHeld ?_
    rotate_left
    · (intro w hSw; obtain y5 := hSw; go_simp; (try with_reducible rfl))
    simp only [List.getElem_toArray, List.getElem_cons_succ, List.getElem_cons_zero, Act.put, List.setIfInBounds_toArray, List.set_cons_zero, List.set_cons_succ]
    refine wpAnyH_ready (rs := [17]) (by kernel_rfl) (by simp) (AllReadyH.cons rfl (fun K hK => ?_) AllReadyH.nil)
    refine step_conv rfl (.tmp 83) rfl s2 s2z (by rfl) ?_
    intro v8 w8 k8 b8
    obtain ⟨a8, n8, c8, rfl⟩ := k8.shape3
    have B8 := Lib.hid (show Below w7.heap.size w7 w8 from (Below.refl _ _).drew.trans b8)
    have N8 := Lib.hid (L7.out.pushT (w2 := w8) (k8.mono (fun b hb _ => .inr ⟨hb.1, hb.2⟩)) (Disk.Touch.ofNew B8.out) (r' := ⟨pd, a, n, life, first, nx, nx, 0, pos first (opT S first), L s2⟩) rfl rfl rfl)
    have L8 := Lib.hid (L7.out.later B8.out)
    clear b8 k8
    refine hK.out _ _ (S5C.out _ _ _ _ L8.out) (fun hHeld => ?_)
    clear hK K
    simp only [List.getElem_toArray, List.getElem_cons_succ, List.getElem_cons_zero, Act.put, List.setIfInBounds_toArray, List.set_cons_zero, List.set_cons_succ]
    refine wpAnyH_take (i := 18) (v := ?_) rfl (by kernel_rfl) (by kernel_rfl) (by kernel_rfl) (fun _ _ _ h => h) (Or.inl ⟨by rfl, ?_⟩) hHeld ?_
    rotate_left
    · (intro w hSw; obtain y5 := hSw; go_simp; (try with_reducible rfl))
    simp only [List.getElem_toArray, List.getElem_cons_succ, List.getElem_cons_zero, Act.put, List.setIfInBounds_toArray, List.set_cons_zero, List.set_cons_succ]
    refine wpAnyH_take (i := 19) (v := ?_) rfl (by kernel_rfl) (by kernel_rfl) (by kernel_rfl) (fun _ _ _ h => h) (Or.inl ⟨by rfl, ?_⟩) hHeld ?_
    rotate_left
    · (intro w hSw; obtain y5 := hSw; go_simp; (try with_reducible rfl))
    simp only [List.getElem_toArray, List.getElem_cons_succ, List.getElem_cons_zero, Act.put, List.setIfInBounds_toArray, List.set_cons_zero, List.set_cons_succ]
    have c88 := L8.out.cells.2.2.2.2.2.2.2.2.1
    have f88 := L8.out.free 8
    refine wpAnyH_ready (rs := [20]) (by kernel_rfl) (by simp) (AllReadyH.cons rfl (fun K hK => ?_) AllReadyH.nil)
    rw [if_pos (by rfl)]
    unfold Oper.wp execOp
    go_simp
    refine hK.out _ _ N8.out.1.cells.2.2.2.2.2.1 (fun hHeld => ?_)
    clear hK K
    refine wpAnyH_done (by kernel_rfl) ?_ _
    refine NoPanic.normal ?_
    generalize w8.setCell _ _ = W8 at *
    generalize re T7 w7 w8 (i + 2) = T8 at *
    have D8 := Lib.hid (D7.out.step N8.out.2 (by omega) L7.out.lt (by omega))
    have S8 := Lib.hid (S7.out.trans (N8.out.2.mono (fun k hk => show IO i k from .inr (hk.elim .inl (fun h => .inr (.inr h))))) (by unfold IO I3; omega))
    have LL := Lib.hid N8.out.1
    have SN2 : S.length ≤ n * 110 := SN.out
    have n900 : n * 110 ≤ 900 * 110 := Nat.mul_le_mul_right _ h9
    have hES : first % 110 ≤ S.length := by have := HE.out; rw [← HAA.out]; omega
    have OK := Lib.hid (opG_ok (n := n) (life := life) (first := first) (S := S) h4 (by omega) hl hl9 hf1 (by omega) SN2 hES)
    have hhv : hi' = A + sz (opT S first) := by rw [HHI.out, NX.out]; omega
    have TL := Lib.hid (show (opG n life first S).tail = L s2 from by
      rw [opG_tail (by omega) (by omega) hES, List.drop_take, HS2.out, L_cut, HSB.out, L_bs, ← NX.out, ← HBN.out, ← HB0.out, ← HAA.out, ← HLO2.out, ← hhv])
    have TG := Lib.hid (show rawG pd a (opG n life first S) = ⟨pd, a, n, life, first, nx, nx, 0, pos first (opT S first), L s2⟩ from by
      unfold rawG
      rw [TL.out, opG_next, ← NX.out]
      show R.mk pd a n life first nx (first + sz (opT S first)) 0 _ _ = _
      rw [← NX.out]; rfl)
    have PO := Lib.hid (show ∀ T' W rv tv d', Lr i T' W q ⟨pd, a, n, life, first, nx, nx, 0, pos first (opT S first), L s2⟩ rv tv → Dk T' W pd d' → opD d a n life first S = d' → Step (IO i) T T' w W → OpnP i pd a n life first S d T w (.returned (.tuple #[.pointer (some ⟨q, 0, none⟩), .int .i64 0])) W from fun T' W rv tv d' h1 h2 h3 h4 => .inr ⟨EE.out, q, T', rfl, ⟨OK.out, ⟨rv, tv, by rw [TG.out]; exact h1⟩, HAM.out⟩, by rw [h3]; exact h2, h4⟩)
    have S2L := Lib.hid (show (L s2).length ≤ 110 from by
      rw [L_len, HS2.out, ByteArray.size_extract, HLO2.out, HHI.out, HBN.out]
      have := beg_mod nx
      omega)
    have WF := Lib.hid (show R.wf ⟨pd, a, n, life, first, nx, nx, 0, pos first (opT S first), L s2⟩ from ⟨HAM.out, ⟨h4, by show n ≤ _; omega⟩, ⟨hl, hl9⟩, by show first ≤ _; omega, by show nx ≤ _; omega, by show nx ≤ _; omega, Nat.zero_le _⟩)
    have KC := Lib.hid (cut_any LL.out WF.out hi D8.out HF.out HA.out HLO.out S2L.out)
    have hXX : opX first S = decide (hi' < sB.size) := by unfold opX; rw [← HAA.out, ← hhv, ZB.out]
    have hDD : opD d a n life first S = if decide (hi' < sB.size) = true then wrS d a n (nx / 110) life (L s2) else d := by unfold opD; rw [hXX, TL.out, ← NX.out]
    have HDD := Lib.hid hDD
    have OF := Lib.hid (show ∀ W T' rv tv, Lr i T' W q ⟨pd, a, n, life, first, nx, nx, 0, pos first (opT S first), L s2⟩ rv tv → W.cell? ⟨q, 5, none⟩ = some (.int .u64 (nx : Int)) from fun W T' rv tv h => h.cells.2.2.2.2.2.1)
    have e5 := OF.out _ _ _ _ LL.out
    have wS := wSH.out
    clear hES OK hhv TL TG hXX hDD N8 L8 hHeld S5C c88 f88 f78 HLO2 HHI hbn1 hbn2 hlh hhs hsl nxh D7 L7 S7 SI7 KS2 KB2
    by_cases hX : hi' < sB.size
    · have x3 : decide (hi' < sB.size) = true := decide_eq_true hX
      have x4 : decide ((hi' : Int) < (sB.size : Int)) = true := decide_eq_true (by omega)
      rw [x3, if_pos rfl] at HDD
      clear hX
      go_wp2_with fail
      refine KC.out.mono ?_
      rintro e w9 ⟨rfl, T9, l9, d9, s9⟩
      have P9 := Lib.hid (PO.out T9 w9 _ _ _ l9 d9 HDD.out (S8.out.trans (s9.mono (fun k hk => show IO i k from .inl hk)) (by unfold IO I3; omega)))
      clear l9 d9 s9
      go_wp2_with fail
      go_ret2
      exact P9.out
    · have x3 : decide (hi' < sB.size) = false := decide_eq_false hX
      have x4 : decide ((hi' : Int) < (sB.size : Int)) = false := decide_eq_false (by omega)
      rw [x3, if_neg (by decide)] at HDD
      clear hX
      have P9 := Lib.hid (PO.out T8 W8 _ _ _ LL.out D8.out HDD.out S8.out)
      go_wp2_with fail
      go_ret2
      exact P9.out

end Go.Proofs.Ytgohpompgiljiaa.Log
