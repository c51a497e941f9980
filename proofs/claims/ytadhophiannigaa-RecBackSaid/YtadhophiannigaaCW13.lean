/- Walks: bytes are decoded. -/
import Derived.Test.YtadhophiannigaaCW12
namespace Go.Proofs.Ytadhophiannigaa.Rec
open Go.RowKit
attribute [local go_sem ↓] Go.wp_at_zero Go.wp_at_succ

/-- what a decoding leaves -/
def DecP (s : ByteArray) (w : World) : Ending → World → Prop := fun e w' => ∃ d u, e = .returned (.tuple #[recV (decC s) d u, .int .i64 (decE s)]) ∧ InR w' (decC s) d u ∧ Below w.heap.size w w'
theorem DecP.no {s : ByteArray} {w w' : World} (h : ¬ okC s = true) (b : Below w.heap.size w w') : DecP s w (.returned (.tuple #[recV Rc.zero (.slice none 0 0) (.slice none 0 0), .int .i64 7])) w' := by
  obtain ⟨e1, e2⟩ := not_ok h
  exact ⟨_, _, by rw [e1, e2], by rw [e1]; exact InR.zero w', b⟩
theorem DecP.yes {s : ByteArray} {w w' : World} {d u : Value} (h : okC s = true) (i : InR w' (rdC s) d u) (b : Below w.heap.size w w') : DecP s w (.returned (.tuple #[recV (rdC s) d u, .int .i64 0])) w' := by
  obtain ⟨e1, e2⟩ := is_ok h
  exact ⟨d, u, by rw [e1, e2], by rw [e1]; exact i, b⟩
/-- the result's box -/
structure Rz (W0 w : World) (g : Nat) : Prop where
  res : w.heap[g]? = some (.cells zeroC 32 (0, 0))
  below : Below W0.heap.size W0 w
  ge : W0.heap.size ≤ g
theorem Rz.later {W0 w w' : World} {g : Nat} (h : Rz W0 w g) (b : Below w.heap.size w w') : Rz W0 w' g :=
  ⟨(b.block g (Array.getElem?_eq_some_iff.1 h.res).1).trans h.res, h.below.trans (b.mono h.below.size), h.ge⟩
theorem Rz.start (w : World) : Rz w (w.alloc (.cells zeroC 32)) w.heap.size := ⟨heap_alloc_new w _, below_new w _, Nat.le_refl _⟩

set_option maxRecDepth 100000 in
set_option maxHeartbeats 4000000 in
theorem decode_any (s : ByteArray) (w : World) (hs : s.size ≤ 140737488351232) : Calls Try.prog 17 #[.string s] w (DecP s w) := by
  have R0 := Lib.hid (Rz.start w)
  have KR := Lib.hid (fun W => read_any s W hs)
  have RP := Lib.hid (show ∀ W e w', ReadP s W e w' ↔ ∃ d u, e = .returned (.tuple #[recV (rdC s) d u, .bool (whB s)]) ∧ OwnR W w' (rdC s) d u ∧ Below W.heap.size W w' from fun _ _ _ => Iff.rfl)
  have NO := Lib.hid (fun (hn : ¬ okC s = true) w' b => @DecP.no s w w' hn b)
  have YES := Lib.hid (fun (hn : okC s = true) w' d u i b => @DecP.yes s w w' d u hn i b)
  have OK := Lib.hid (show okC s = (whB s && mayC (rdC s)) from rfl)
  clear hs
  generalize hr : rdC s = r at *
  generalize whB s = wh at *
  unfold zeroC recC Rc.zero at R0
  simp only at R0
  go_enter Try.func17, Try.ntmps17
  go_wp2_with fail
  generalize hg : w.heap.size = g at R0 ⊢
  generalize w.alloc _ = W at *
  refine (KR.out W).mono ?_
  intro e w1 hp
  obtain ⟨d, u, rfl, o1, b1⟩ := (RP.out _ _ _).1 hp
  have R1 := Lib.hid (R0.out.later b1)
  have O1 := Lib.hid o1
  clear hp o1 b1 R0 KR RP
  have HB := Lib.hid (heap_alloc_new w1 (.cells (recC r d u) 32))
  have R2 := Lib.hid (R1.out.later (below_new w1 (.cells (recC r d u) 32)))
  have O2 := Lib.hid (O1.out.later (below_new w1 (.cells (recC r d u) 32)))
  clear R1 O1
  obtain ⟨ad, nn, cap, rfl⟩ := O2.out.di.shape3
  obtain ⟨ad2, nn2, cap2, rfl⟩ := O2.out.ac.shape3
  cases wh with
  | false =>
    have HN := Lib.hid (NO.out (by rw [OK.out, Bool.false_and]; decide))
    clear NO YES OK
    unfold recV recC
    go_wp2_with (refine wpList_store_row rfl 32 _ _ rfl g zeroC rfl rfl 32 zeroC R2.out.res info_rec rfl (rec_one _ rfl rfl) ?_)
    exact bodyPost_ret (v := .tuple #[recV Rc.zero (.slice none 0 0) (.slice none 0 0), .int .i64 7]) (results_two Try.results17 _ _ g zeroC 7 rfl rfl (setRow_heap _ _ _ _ _ _ R2.out.res) Try.underlying32 info_rec) rfl (HN.out _ (by have q := below_setRow R2.out.below R2.out.ge zeroC; exact q))
  | true =>
    have KM := Lib.hid (may_any O2.out.is)
    obtain ⟨a0, a1, a2, a3, a4, a5, a6, a7, a8, a9, a10, a11⟩ := rec_cells HB.out
    unfold recV recC at *
    go_wp2_with fail
    refine KM.out.mono ?_
    rintro e w3 ⟨rfl, b3⟩
    have R3 := Lib.hid (R2.out.later b3)
    have O3 := Lib.hid (O2.out.later b3)
    have HB3 := Lib.hid ((b3.block _ (Array.getElem?_eq_some_iff.1 HB.out).1).trans HB.out)
    clear b3 R2 O2 HB KM a0 a1 a2 a3 a4 a5 a6 a7 a8 a9 a10 a11
    cases hmay : mayC r with
    | false =>
      have HN := Lib.hid (NO.out (by rw [OK.out, hmay]; decide))
      clear NO YES OK hmay
      go_wp2_with (refine wpList_store_row rfl 32 _ _ rfl g zeroC rfl rfl 32 zeroC R3.out.res info_rec rfl (rec_one _ rfl rfl) ?_)
      exact bodyPost_ret (v := .tuple #[recV Rc.zero (.slice none 0 0) (.slice none 0 0), .int .i64 7]) (results_two Try.results17 _ _ g zeroC 7 rfl rfl (setRow_heap _ _ _ _ _ _ R3.out.res) Try.underlying32 info_rec) rfl (HN.out _ (by have q := below_setRow R3.out.below R3.out.ge zeroC; exact q))
    | true =>
      have HY := Lib.hid (YES.out (by rw [OK.out, hmay]; decide))
      clear NO YES OK hmay
      obtain ⟨a0, a1, a2, a3, a4, a5, a6, a7, a8, a9, a10, a11⟩ := rec_cells HB3.out
      go_wp2_with (refine wpList_store_row rfl 32 _ _ rfl g (recC r (.slice ad nn cap) (.slice ad2 nn2 cap2)) rfl rfl 32 zeroC R3.out.res info_rec rfl (rec_one _ rfl rfl) ?_)
      exact bodyPost_ret (v := .tuple #[recV r (.slice ad nn cap) (.slice ad2 nn2 cap2), .int .i64 0]) (results_two Try.results17 _ _ g (recC r (.slice ad nn cap) (.slice ad2 nn2 cap2)) 0 rfl rfl (setRow_heap _ _ _ _ _ _ R3.out.res) Try.underlying32 info_rec) rfl (HY.out _ _ _ (O3.out.setRow R3.out.res _).is (by have q := below_setRow R3.out.below R3.out.ge (recC r (.slice ad nn cap) (.slice ad2 nn2 cap2)); exact q))

end Go.Proofs.Ytadhophiannigaa.Rec
