/- Walks: Encode and Decode. -/
import Derived.Test.YtfcibccipkokoaaZC3
namespace Go.Proofs.Ytfcibccipkokoaa.Mas
open Go.RowKit
attribute [local go_sem ↓] Go.wp_at_zero Go.wp_at_succ

set_option maxRecDepth 100000 in
set_option maxHeartbeats 1000000 in
theorem encode_any (m : Ms) (w : World) (hm : m.wf) :
    Calls Try.prog 15 #[msV m] w fun e w' => e = .returned (.tuple #[.string (encB m), .int .i64 (encE m)]) ∧ Below w.heap.size w w' := by
  have T0 := Lib.hid (Mb.new m (Below.refl w.heap.size w))
  have KM := Lib.hid (fun W => may_any m W)
  have KW := Lib.hid (fun W => write_any m W hm)
  have E1 := Lib.hid (fun h : okM m = true => show encB m = ⟨(secL m).toArray⟩ ∧ encE m = 0 from ⟨by unfold encB; rw [enc_yes h], encE_yes h⟩)
  have E2 := Lib.hid (fun h : okM m = false => show encB m = ⟨#[]⟩ ∧ encE m = 2 from ⟨by unfold encB; rw [enc_no h], encE_no h⟩)
  obtain ⟨a0, a1, a2, a3, a4⟩ := T0.out.five
  clear hm
  generalize okM m = b at *
  generalize encB m = s at *
  generalize encE m = x at *
  generalize (⟨(secL m).toArray⟩ : ByteArray) = t at *
  unfold msV msC at *
  go_enter Try.func15, Try.ntmps15
  go_wp2_with fail
  refine (KM.out _).mono ?_
  rintro e w1 ⟨rfl, b1⟩
  have T1 := Lib.hid (T0.out.later b1)
  clear b1 T0 KM a0 a1 a2 a3 a4
  cases b with
  | true =>
    obtain ⟨rfl, rfl⟩ := E1.out rfl
    clear E1 E2
    obtain ⟨a0, a1, a2, a3, a4⟩ := T1.out.five
    go_wp2_with fail
    refine (KW.out _).mono ?_
    rintro e w2 ⟨rfl, b2⟩
    have T2 := Lib.hid (T1.out.later b2).below
    clear b2 T1 KW a0 a1 a2 a3 a4
    go_wp2_with fail
    go_ret2
    exact ⟨rfl, T2.out⟩
  | false =>
    obtain ⟨rfl, rfl⟩ := E2.out rfl
    have T2 := Lib.hid T1.out.below
    clear E1 E2 KW T1
    go_wp2_with fail
    go_ret2
    exact ⟨rfl, T2.out⟩

/-- what a text is read as -/
def DecP (s : ByteArray) (w : World) (e : Ending) (w' : World) : Prop := e = .returned (.tuple #[msV (decM s), .int .i64 (decE s)]) ∧ Below w.heap.size w w'

theorem isM_eq (s : ByteArray) : isM s = (decide (encE (rdM s) = 0) && decide (encB (rdM s) = s)) := by
  unfold isM
  cases h : okM (rdM s) with
  | true => rw [encE_yes h]; rfl
  | false => rw [encE_no h]; rfl
theorem bytes_eq (a b : ByteArray) : (a.toList == b.toList) = decide (a = b) := by
  rw [Bool.eq_iff_iff, beq_iff_eq, decide_eq_true_eq, Lib.toList_data, Lib.toList_data]
  exact ⟨fun h => ByteArray.ext (Array.toList_inj.1 h), fun h => by rw [h]⟩

set_option maxRecDepth 100000 in
set_option maxHeartbeats 4000000 in
theorem decode_any (s : ByteArray) (w : World) (hs : s.size ≤ 281474976710656) :
    Calls Try.prog 17 #[.string s] w (DecP s w) := by
  have T0 := Lib.hid (Mb.new Ms.zero (Below.refl w.heap.size w))
  have KR := Lib.hid (fun W => read_any s W hs)
  have KE := Lib.hid (fun W => encode_any (rdM s) W (rd_wf s))
  have hi := isM_eq s
  have E1 := Lib.hid (fun h : isM s = true => dec_yes h)
  have E2 := Lib.hid (fun h : isM s = false => dec_no h)
  have HP := Lib.hid (fun (m : Ms) (x : Int) (W : World) (h1 : decM s = m ∧ decE s = x) (b : Below w.heap.size w W) => show DecP s w (.returned (.tuple #[msV m, .int .i64 x])) W from ⟨by rw [h1.1, h1.2], b⟩)
  have eb := bytes_eq (encB (rdM s)) s
  rw [← eb] at hi
  have HI := Lib.hid hi
  clear hs hi eb
  generalize rdM s = m at *
  generalize encB m = t at *
  generalize encE m = x at *
  generalize isM s = b at *
  unfold msV msC at KR KE
  have hZ : msC Ms.zero = #[.int .u64 0, .int .u64 0, .int .u64 0, .int .u64 0, .bool false] := rfl
  rw [hZ] at T0
  clear hZ
  go_enter Try.func17, Try.ntmps17
  go_wp2_with fail
  refine (KR.out _).mono ?_
  rintro e w1 ⟨rfl, b1⟩
  have T1 := Lib.hid (T0.out.later b1)
  clear b1 T0 KR
  go_upto_region 2 with fail
  have T2 := Lib.hid (show Tb w (w1.alloc (.cells (msC m) 40)) w.heap.size w1.heap.size Ms.zero m from ⟨T1.out.later (below_new _ _), Mb.new m T1.out.below, by have := T1.out.lt; omega⟩)
  unfold msC at T2
  clear T1
  generalize w1.heap.size = g at *
  generalize w1.alloc _ = W1 at *
  obtain ⟨a0, a1, a2, a3, a4⟩ := T2.out.b.five
  go_wp2_with fail
  refine (KE.out _).mono ?_
  rintro e w2 ⟨rfl, b2⟩
  have T3 := Lib.hid (T2.out.later b2)
  clear b2 T2 KE a0 a1 a2 a3 a4
  by_cases hx : x = 0
  · subst hx
    cases hy : (t.toList == s.toList) with
    | false =>
      have hb : b = false := by rw [HI.out, hy]; rfl
      have HB := Lib.hid T3.out.a.box
      have HL := Lib.hid T3.out.a.below
      have HX := Lib.hid hb
      clear T3 HI hb
      go_wp2_with (refine wpList_store_row rfl 40 _ _ rfl w.heap.size (msC Ms.zero) rfl rfl 40 (msC Ms.zero) HB.out info_ms rfl (ms_one _) ?_)
      exact bodyPost_ret (v := .tuple #[msV Ms.zero, .int .i64 7]) (results_two Try.results17 _ _ w.heap.size (msC Ms.zero) 7 rfl rfl (setRow_heap _ _ _ _ _ _ HB.out) Try.underlying40 info_ms) rfl (HP.out Ms.zero 7 _ (E2.out HX.out) (below_setRow HL.out (Nat.le_refl _) _))
    | true =>
      have hb : b = true := by rw [HI.out, hy]; rfl
      obtain ⟨a0, a1, a2, a3, a4⟩ := T3.out.b.five
      have HB := Lib.hid T3.out.a.box
      have HL := Lib.hid T3.out.a.below
      have HX := Lib.hid hb
      clear T3 HI hb
      go_wp2_with (refine wpList_store_row rfl 40 _ _ rfl w.heap.size (msC m) rfl rfl 40 (msC Ms.zero) HB.out info_ms rfl (ms_one _) ?_)
      exact bodyPost_ret (v := .tuple #[msV m, .int .i64 0]) (results_two Try.results17 _ _ w.heap.size (msC m) 0 rfl rfl (setRow_heap _ _ _ _ _ _ HB.out) Try.underlying40 info_ms) rfl (HP.out m 0 _ (E1.out HX.out) (below_setRow HL.out (Nat.le_refl _) _))
  · have hx1 : (x == 0) = false := by simpa using hx
    have hx2 : (x != 0) = true := by simpa using hx
    have hb : b = false := by rw [HI.out, decide_eq_false hx]; rfl
    clear hx
    have HB := Lib.hid T3.out.a.box
    have HL := Lib.hid T3.out.a.below
    have HX := Lib.hid hb
    clear T3 HI hb
    go_wp2_with (refine wpList_store_row rfl 40 _ _ rfl w.heap.size (msC Ms.zero) rfl rfl 40 (msC Ms.zero) HB.out info_ms rfl (ms_one _) ?_)
    exact bodyPost_ret (v := .tuple #[msV Ms.zero, .int .i64 7]) (results_two Try.results17 _ _ w.heap.size (msC Ms.zero) 7 rfl rfl (setRow_heap _ _ _ _ _ _ HB.out) Try.underlying40 info_ms) rfl (HP.out Ms.zero 7 _ (E2.out HX.out) (below_setRow HL.out (Nat.le_refl _) _))

end Go.Proofs.Ytfcibccipkokoaa.Mas
