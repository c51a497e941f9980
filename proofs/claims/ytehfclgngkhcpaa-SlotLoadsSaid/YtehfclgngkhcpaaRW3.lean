/- Walks: the document's Remove. -/
import Derived.Test.YtehfclgngkhcpaaRQ
namespace Go.Proofs.Ytehfclgngkhcpaa.Slot
open Go.RowKit
attribute [local go_sem ↓] Go.wp_at_zero Go.wp_at_succ

section
variable {w : World} {q : Nat} {a : A} {F : Nat → Prop}
set_option maxRecDepth 100000 in
theorem qremove_no (H : Rf w q a F) (i : Int) (hi : ¬ hasP a i) : Calls Try.prog 69 #[.pointer (some ⟨q, 0, none⟩), .int .i64 i] w fun e w' => e = .returned (.int .i64 3) ∧ w = w' := by
  obtain ⟨ad, cap, c2⟩ := H.len_cell
  unfold hasP at hi
  by_cases h0 : i < 0
  · have e1 : decide (i < 0) = true := decide_eq_true h0
    clear h0 hi H
    go_enter Try.func69, Try.ntmps69
    go_wp2_with fail
    go_ret
    exact ⟨rfl, rfl⟩
  · have e1 : decide (i < 0) = false := decide_eq_false h0
    have e2 : decide ((a.dir.length : Int) ≤ i) = true := decide_eq_true (by omega)
    clear h0 hi H
    go_enter Try.func69, Try.ntmps69
    go_wp2_with fail
    go_ret
    exact ⟨rfl, rfl⟩

set_option maxRecDepth 100000 in
set_option maxHeartbeats 8000000 in
theorem qremove_yes (H : Rf w q a F) (k : Nat) (hi : k < a.dir.length) (hd : a.dir.length ≤ 100000) (hfn : a.fin ≤ a.n) (hn : a.n ≤ 100000) : Calls Try.prog 69 #[.pointer (some ⟨q, 0, none⟩), .int .i64 (k : Int)] w fun e w' => e = .returned (.int .i64 0) ∧ QP w q F (a.del k) w' := by
  have en := qend_any H hd
  have hq := H.lt
  have HH := Lib.hid H
  obtain ⟨h, cB, v, L, f1, f2, f3⟩ := H.lay
  obtain ⟨x1, sl1, sx1⟩ := L.dl.head (k := k) (by omega)
  obtain ⟨x2, sl2, sx2⟩ := L.dl.tail (k := k + 1) (by omega)
  rw [show ((k + 1 : Nat) : Int) = (k : Int) + 1 by omega] at sl2
  obtain ⟨ad, cap, rfl⟩ := L.dl.shape
  have c2 := L.cell2
  have fz2 := L.free 2
  have f0 : (a.fin : Int) ≤ 1000000 := by omega
  have f4 : (4 : Int) ≤ (a.fin : Int) := by unfold A.fin; omega
  have HF := Lib.hid (show a.fin - 4 + 4 ≤ a.n ∧ 4 ≤ a.fin by have : 4 ≤ a.fin := by { unfold A.fin; omega }; omega)
  have hdel : a.del k = ⟨putL a.cells (a.fin - 4) [0, 0, 0, 0], a.low, a.dir.take k ++ a.dir.drop (k + 1)⟩ := rfl
  have HD := Lib.hid hdel
  have BD := Lib.hid (show Below w.heap.size w w.drew from (Below.refl _ _).drew)
  have BA := Lib.hid (show Below w.heap.size w (w.drew.alloc (.cells #[] 110)) from ((Below.refl _ _).drew).alloc (Nat.le_refl _) _)
  have DM := Lib.hid (show Dl (w.drew.alloc (.cells #[] 110)) (.slice (some ⟨w.heap.size, 0, none⟩) 0 0) [] from Dl.made (w := w.drew) [] (by simp))
  have OW := Lib.hid (show ∀ b, (Value.slice (some ⟨w.heap.size, 0, none⟩) 0 0).ownBlock = some b → w.heap.size ≤ b by intro b hb; simp [Value.ownBlock] at hb; omega)
  have SX1 := Lib.hid sx1
  have SX2 := Lib.hid sx2
  have CC := Lib.hid (show ∀ W, Below w.heap.size w W → W.cell? ⟨q, 2, none⟩ = some (.slice ad a.dir.length cap) ∧ W.frozen? ⟨q, 2, none⟩ = false from fun W t => ⟨(t.cell (p := ⟨q, 2, none⟩) hq).trans c2, (t.frozen (p := ⟨q, 2, none⟩) hq).trans fz2⟩)
  have hl1 : ([] : List (Nat × Nat)).length + (a.dir.take k).length ≤ 1000000 := by simp; omega
  have hl2 : (([] : List (Nat × Nat)) ++ a.dir.take k).length + (a.dir.drop (k + 1)).length ≤ 1000000 := by simp; omega
  have HL1 := Lib.hid hl1
  have HL2 := Lib.hid hl2
  obtain ⟨n, en'⟩ : ∃ n, n = a.dir.length := ⟨_, rfl⟩
  have HN := Lib.hid en'
  have k0 : (0 : Int) ≤ (k : Int) := Int.natCast_nonneg _
  have k1 : (k : Int) < (n : Int) := by omega
  have k2 : (k : Int) ≤ 100000 := by omega
  have e1 : decide ((k : Int) < 0) = false := decide_eq_false (by omega)
  have hw1 : IntKind.i64.wrap ((k : Int) + 1) = (k : Int) + 1 := IntWalk.i64_in _ (by omega)
  rw [← en'] at c2 CC sl1 sl2
  have EN := Lib.hid en
  clear sx1 sx2 L f1 f2 f3 H hdel en' hl1 hl2 hi hd hfn hn en
  go_enter Try.func69, Try.ntmps69
  go_wp2_with fail
  refine EN.out.mono ?_
  rintro e w' ⟨rfl, rfl⟩
  clear EN
  go_upto_region 4 with fail
  go_cut [] (fun wx => QP w q F ⟨a.cells, a.low, a.dir.take k ++ a.dir.drop (k + 1)⟩ wx)
  case first =>
    go_region_law (first | (refine step_appD (m := a.dir.take k) w.heap.size rfl _ _ rfl DM.out (SX1.out.later BA.out) HL1.out OW.out BA.out.size rfl rfl ?_; intro v3 w3 t3 g3 b3; have B3 := Lib.hid (BA.out.grown g3 BA.out.size OW.out); obtain ⟨c23, f23⟩ := CC.out w3 B3.out) | (refine step_appD (m := a.dir.drop (k + 1)) w.heap.size rfl _ _ rfl t3 (SX2.out.later B3.out) HL2.out b3 B3.out.size rfl rfl ?_; intro v4 w4 t4 g4 b4; have B4 := Lib.hid (B3.out.grown g4 B3.out.size b3); obtain ⟨c24, f24⟩ := CC.out w4 B4.out; obtain ⟨ad4, nn4, cp4, rfl⟩ := t4.shape3))
    all_goals
      have QD := Lib.hid (QP.dir HH.out B4.out t4 b4)
      clear t3 t4 g3 g4 b3 b4 B3 B4 c23 f23 c24 f24
      rw [List.nil_append] at QD
      go_wp2_with fail
      go_meet
      exact QD.out
  case rest =>
    have HQ := Lib.hid hcut
    clear hcut CC HL1 HL2 SX1 SX2 sl1 sl2 hw1 OW DM BA BD
    obtain ⟨h5, cB5, c50⟩ := HQ.out.1.cell0
    have HC50 := Lib.hid (show wc.cell? ⟨q, 0, none⟩ = some (.slice (some ⟨h5, 0, none⟩) a.n cB5) from c50)
    obtain ⟨f, hf⟩ : ∃ f, f = a.fin := ⟨_, rfl⟩
    have HFN := Lib.hid hf
    rw [← hf] at f0 f4 ⊢
    have hff := HF.out
    rw [← hf] at hff
    clear c50 hf
    go_wp2_with fail
    go_loopw [6] (fun i wr => ∃ j : Nat, j ≤ 4 ∧ i = .int .i64 ((f : Int) - 4 + (j : Int)) ∧ QP w q F ⟨putL a.cells (f - 4) (([0, 0, 0, 0] : List UInt8).take j), a.low, a.dir.take k ++ a.dir.drop (k + 1)⟩ wr ∧ wr.cell? ⟨q, 0, none⟩ = some (.slice (some ⟨h5, 0, none⟩) a.n cB5)) (fun i _ => 4 - ((intOf i) - ((f : Int) - 4)).toNat)
    case atStart => exact ⟨0, by omega, by go_num, by rw [List.take_zero, putL_nil]; exact HQ.out, HC50.out⟩
    case round =>
      obtain ⟨j, hj, rfl, hqp, hc0⟩ := hrel
      clear HQ HC50
      by_cases hlt : j < 4
      · have jn : (([0, 0, 0, 0] : List UInt8).take j).length = j := by rw [List.length_take]; show min j 4 = j; omega
        have nl : (putL a.cells (f - 4) (([0, 0, 0, 0] : List UInt8).take j)).length = a.n := putL_len (by rw [jn]; show _ ≤ a.n; omega)
        have bt := hqp.1.byte (h := h5) (cB := cB5) (k := f - 4 + j) (by show wr.cell? _ = some (Value.slice _ (putL a.cells (f - 4) (([0, 0, 0, 0] : List UInt8).take j)).length _); rw [nl]; exact hc0) (by show f - 4 + j < (putL a.cells (f - 4) (([0, 0, 0, 0] : List UInt8).take j)).length; rw [nl]; omega) 0
        obtain ⟨y1, y2, y3, y4, y5⟩ := bt
        have ez := putL_step (c := a.cells) (k := f - 4) (t := ([0, 0, 0, 0] : List UInt8)) (by show f - 4 + 4 ≤ a.n; omega) (j := j) hlt
        have e0 : ([0, 0, 0, 0] : List UInt8)[j] = 0 := by
          rcases (show j = 0 ∨ j = 1 ∨ j = 2 ∨ j = 3 by omega) with rfl | rfl | rfl | rfl <;> rfl
        rw [e0] at ez
        have y6 : QP w q F ⟨putL a.cells (f - 4) (([0, 0, 0, 0] : List UInt8).take (j + 1)), a.low, a.dir.take k ++ a.dir.drop (k + 1)⟩ (wr.setCell ⟨h5, f - 4 + j, none⟩ (.int .u8 0)) := by
          rw [← ez]
          exact hqp.step ⟨y3, y4⟩
        have y7 : (wr.setCell ⟨h5, f - 4 + j, none⟩ (.int .u8 0)).cell? ⟨q, 0, none⟩ = some (.slice (some ⟨h5, 0, none⟩) a.n cB5) := by
          have : (wr.setCell ⟨h5, f - 4 + j, none⟩ (.int .u8 0)).cell? ⟨q, 0, none⟩ = some (.slice (some ⟨h5, 0, none⟩) (putL a.cells (f - 4) (([0, 0, 0, 0] : List UInt8).take j)).length cB5) := y5
          rw [nl] at this
          exact this
        obtain ⟨m, hm⟩ : ∃ m, m = f - 4 + j := ⟨_, rfl⟩
        have em : (f : Int) - 4 + (j : Int) = (m : Int) := by omega
        rw [← hm] at y1 y2 y6 y7
        rw [em]
        have Y6 := Lib.hid y6
        have Y7 := Lib.hid y7
        have HM := Lib.hid hm
        have m1 : (m : Int) < (f : Int) := by omega
        have m2 : (m : Int) < (a.n : Int) := by omega
        have m0 : (0 : Int) ≤ (m : Int) := Int.natCast_nonneg _
        clear y3 y4 y5 y6 y7 ez hqp nl jn hm em
        go_wp2_with fail
        go_roundw
        case rel => exact ⟨j + 1, by omega, by have := HM.out; congr 1; omega, Y6.out, Y7.out⟩
        case measure => have := HM.out; simp [intOf]; omega
      · obtain rfl : j = 4 := by omega
        have HD2 := HD.out
        rw [← HFN.out] at HD2
        have Y := Lib.hid (show QP w q F (a.del k) wr by rw [HD2]; exact hqp)
        have em : (f : Int) - 4 + ((4 : Nat) : Int) = (f : Int) := by omega
        rw [em]
        clear hqp HD2 em hc0
        go_wp2_with fail
        go_ret
        exact ⟨rfl, Y.out⟩
end

end Go.Proofs.Ytehfclgngkhcpaa.Slot
