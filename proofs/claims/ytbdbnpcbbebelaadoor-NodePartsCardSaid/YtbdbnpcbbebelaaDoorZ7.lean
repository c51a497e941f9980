/-
  Walks: bytes are read as a row by the document.
  Walks: entries.
  Walks: bytes are read as an entry.
-/
import Derived.BigRegion
import Derived.RegionTactic
import Derived.Test.YtbdbnpcbbebelaaDoorZ6
namespace Go.Proofs.YtbdbnpcbbebelaaDoor.Row
open Go.RowKit
attribute [local go_sem ↓] Go.wp_at_zero Go.wp_at_succ

/-! ### plain -/
theorem not_ok {s : ByteArray} (h : ¬ okR s = true) : decR s = Rw.zero ∧ decE s = 7 := by
  unfold decR decE
  rw [if_neg h, if_neg h]
  exact ⟨rfl, rfl⟩
theorem is_ok {s : ByteArray} (h : okR s = true) : decR s = rdR s ∧ decE s = 0 := by
  unfold decR decE
  rw [if_pos h, if_pos h]
  exact ⟨rfl, rfl⟩
theorem ok_whole {s : ByteArray} (h : okR s = true) : whB s = true := by
  unfold okR at h
  exact (Bool.and_eq_true_iff.1 h).1
theorem short_no {s : ByteArray} (h : s.size < 16) : ¬ okR s = true := fun e => by
  have := (whole_q (ok_whole e)).2.2.2.2.2.2.2.2.2.2
  omega
theorem mark_no {s : ByteArray} (h : 16 ≤ s.size) (hm : 1 < numAt s 0 1) : ¬ okR s = true := fun e => by
  unfold okR at e
  have := (Bool.and_eq_true_iff.1 (Bool.and_eq_true_iff.1 e).2).1
  rw [decide_eq_true_iff, tkN, if_pos (by omega)] at this
  omega
theorem key_no {s : ByteArray} (h : s.size < 17 + numAt s 15 1) : ¬ okR s = true := fun e => by
  have := whole_q (ok_whole e)
  omega
theorem val_no {s : ByteArray} (h : s.size < 17 + numAt s 15 1 + numAt s (16 + numAt s 15 1) 1) : ¬ okR s = true := fun e => by
  have h := whole_q (ok_whole e)
  obtain ⟨_, _, _, _, _, _, _, _, k1, k2, k3⟩ := h
  rw [k1] at k2
  omega
/-- the row, where all parts are there -/
theorem rd_of {s : ByteArray} (h1 : 16 ≤ s.size) (h2 : 17 + numAt s 15 1 ≤ s.size) (h3 : 17 + numAt s 15 1 + numAt s (16 + numAt s 15 1) 1 ≤ s.size) (hm : numAt s 0 1 ≤ 1) :
    rdR s = ⟨s.extract 16 (16 + numAt s 15 1), decide (numAt s 0 1 = 1), numAt s 1 8, numAt s 9 4, numAt s 13 2, s.extract (17 + numAt s 15 1) (17 + numAt s 15 1 + numAt s (16 + numAt s 15 1) 1), (s.size : Int) - ((17 + numAt s 15 1 + numAt s (16 + numAt s 15 1) 1 : Nat) : Int)⟩ ∧
      q8 s = 17 + numAt s 15 1 + numAt s (16 + numAt s 15 1) 1 ∧ okR s = (mayR (rdR s) && blankB s (q8 s)) := by
  have w := whole_of h1 h2 h3
  obtain ⟨e1, e2, e3, e4, e5, e6, e7, e8, k1, k2, k3⟩ := whole_q w
  rw [k1] at k2 e6 e7 e8 k3
  rw [k2] at e8 k3
  refine ⟨?_, e8, ?_⟩
  · unfold rdR
    rw [e1, e2, e3, e5, e7, e8, k1, k2]
    unfold tkN tkS
    rw [if_pos (by omega), if_pos (by omega), if_pos (by omega), if_pos (by omega), if_pos (by omega), if_pos (by omega)]
  · unfold okR
    have : tkN s 0 1 = numAt s 0 1 := by unfold tkN; rw [if_pos (by omega)]
    rw [w, this, decide_eq_true hm, Bool.true_and, Bool.true_and]
theorem blank_step {s : ByteArray} {a : Nat} (h : a < s.size) : blankB s a = ((s[a]'h) == 0 && blankB s (a + 1)) := by
  unfold blankB
  have hl : a < s.data.toList.length := by rw [list_len]; exact h
  rw [List.drop_eq_getElem_cons hl, List.all_cons]
  congr 1
theorem blank_end {s : ByteArray} {a : Nat} (h : s.size ≤ a) : blankB s a = true := by
  unfold blankB
  rw [List.drop_of_length_le (by rw [list_len]; exact h)]
  rfl

theorem cut_both (s : ByteArray) (i j : Nat) (hij : i ≤ j) (h : j ≤ s.size) (W : World) : (Instr.sliceAt 9 (.string s) (some (.int .i64 (i : Int))) (some (.int .i64 (j : Int))) none).run Tryd.prog W = .ok (.string (s.extract i j)) W := by
  rw [run_sliceAt_string (P := Tryd.prog) W 9 _ _ _ _ Tryd.underlying9, run_slice_string (P := Tryd.prog) W 9 s .i64 .i64 _ _ Tryd.underlying9 (by omega) (by omega) (by omega), Int.toNat_natCast, Int.toNat_natCast]
theorem two_start (w : World) (c1 c2 : Array Value) : (((w.alloc (.cells c1 68)).alloc (.cells c2 68)).drew).heap[w.heap.size]? = some (.cells c1 68 (0, 0)) ∧ (((w.alloc (.cells c1 68)).alloc (.cells c2 68)).drew).heap[w.heap.size + 1]? = some (.cells c2 68 (0, 0)) ∧ Below w.heap.size w (((w.alloc (.cells c1 68)).alloc (.cells c2 68)).drew) := by
  obtain ⟨w1, h1⟩ : ∃ x, x = w.alloc (.cells c1 68) := ⟨_, rfl⟩
  rw [← h1]
  have z1 : w1.heap.size = w.heap.size + 1 := by rw [h1]; simp
  have b1 : Below w.heap.size w w1 := by rw [h1]; exact below_new _ _
  have n1 : w1.heap[w.heap.size]? = some (.cells c1 68 (0, 0)) := by rw [h1]; exact heap_alloc_new _ _
  have b2 := below_new w1 (.cells c2 68)
  refine ⟨(b2.block _ (by omega)).trans n1, ?_, (b1.trans (b2.mono b1.size)).drew⟩
  show (w1.alloc (.cells c2 68)).heap[w.heap.size + 1]? = _
  rw [← z1]
  exact heap_alloc_new _ _
/-! ### walks -/
/-- what a call that reads a row answers -/
def DecP (s : ByteArray) (w : World) (e : Ending) (w' : World) : Prop := e = .returned (.tuple #[rwV (decR s), .int .i64 (decE s)]) ∧ Below w.heap.size w w'
theorem DecP.no {s : ByteArray} {w w' : World} (h : ¬ okR s = true) (b : Below w.heap.size w w') : DecP s w (.returned (.tuple #[rwV Rw.zero, .int .i64 7])) w' := by
  obtain ⟨e1, e2⟩ := not_ok h
  exact ⟨by rw [e1, e2], b⟩

theorem get_true {s : ByteArray} {a n : Nat} (w : World) (hs : s.size ≤ 140737488351232) (h1 : 1 ≤ n) (h8 : n ≤ 8) (h : a + n ≤ s.size) :
    Calls Tryd.prog 67 #[.string s, .int .i64 (a : Int), .int .i64 (n : Int)] w fun e w' => e = .returned (.tuple #[.int .u64 (numAt s a n : Int), .bool true]) ∧ w = w' := rget_yes s a n w (by omega) h1 h8 h
theorem get_false {s : ByteArray} {a n : Nat} (w : World) (hs : s.size ≤ 140737488351232) (ha : a ≤ 140737488351232) (h8 : n ≤ 8) (h : s.size < a + n) :
    Calls Tryd.prog 67 #[.string s, .int .i64 (a : Int), .int .i64 (n : Int)] w fun e w' => e = .returned (.tuple #[.int .u64 0, .bool false]) ∧ w = w' := rget_no s a n w (by omega) (by omega) (by omega) (by
  have : hasB s.size (a : Int) (n : Int) = false := by unfold hasB; rw [decide_eq_false_iff_not]; omega
  rw [this, Bool.and_false])

set_option maxRecDepth 100000 in
set_option maxHeartbeats 4000000 in
theorem rdecode_short (s : ByteArray) (w : World) (x1 x2 x3 x4 : Int) (a b c d : Bool)
    (h1 : ∀ W, Calls Tryd.prog 67 #[.string s, .int .i64 0, .int .i64 1] W fun e w' => e = .returned (.tuple #[.int .u64 x1, .bool a]) ∧ W = w')
    (h2 : ∀ W, Calls Tryd.prog 67 #[.string s, .int .i64 1, .int .i64 8] W fun e w' => e = .returned (.tuple #[.int .u64 x2, .bool b]) ∧ W = w')
    (h3 : ∀ W, Calls Tryd.prog 67 #[.string s, .int .i64 9, .int .i64 4] W fun e w' => e = .returned (.tuple #[.int .u64 x3, .bool c]) ∧ W = w')
    (h4 : ∀ W, Calls Tryd.prog 67 #[.string s, .int .i64 13, .int .i64 2] W fun e w' => e = .returned (.tuple #[.int .u64 x4, .bool d]) ∧ W = w')
    (h5 : ∀ W, Calls Tryd.prog 67 #[.string s, .int .i64 15, .int .i64 1] W fun e w' => e = .returned (.tuple #[.int .u64 0, .bool false]) ∧ W = w') (hn : ¬ okR s = true) :
    Calls Tryd.prog 61 #[.string s] w (DecP s w) := by
  have H1 := Lib.hid h1
  have H2 := Lib.hid h2
  have H3 := Lib.hid h3
  have H4 := Lib.hid h4
  have H5 := Lib.hid h5
  have HN := Lib.hid (fun w' b => @DecP.no s w w' hn b)
  have HB := Lib.hid (heap_alloc_new w (.cells (rwC Rw.zero) 68))
  have HL := Lib.hid (below_new w (.cells (rwC Rw.zero) 68))
  clear h1 h2 h3 h4 h5 hn
  go_enter Tryd.func61, Tryd.ntmps61
  go_wp2_with fail
  refine (H1.out _).mono ?_
  rintro e w1 ⟨rfl, rfl⟩
  go_wp2_with fail
  refine (H2.out _).mono ?_
  rintro e w1 ⟨rfl, rfl⟩
  go_wp2_with fail
  refine (H3.out _).mono ?_
  rintro e w1 ⟨rfl, rfl⟩
  go_wp2_with fail
  refine (H4.out _).mono ?_
  rintro e w1 ⟨rfl, rfl⟩
  go_wp2_with fail
  refine (H5.out _).mono ?_
  rintro e w1 ⟨rfl, rfl⟩
  clear H1 H2 H3 H4 H5
  cases a with
  | false =>
    go_wp2_with (refine wpList_store_row rfl 68 _ _ rfl w.heap.size (rwC Rw.zero) rfl rfl 68 (rwC Rw.zero) HB.out info_row rfl (row_one _) ?_)
    exact bodyPost_ret (v := .tuple #[rwV Rw.zero, .int .i64 7]) (results_two Tryd.results61 _ _ w.heap.size (rwC Rw.zero) 7 rfl rfl (setRow_heap _ _ _ _ _ _ HB.out) Tryd.underlying68 info_row) rfl (HN.out _ (below_setRow HL.out (Nat.le_refl _) _))
  | true =>
    cases b with
    | false =>
      go_wp2_with (refine wpList_store_row rfl 68 _ _ rfl w.heap.size (rwC Rw.zero) rfl rfl 68 (rwC Rw.zero) HB.out info_row rfl (row_one _) ?_)
      exact bodyPost_ret (v := .tuple #[rwV Rw.zero, .int .i64 7]) (results_two Tryd.results61 _ _ w.heap.size (rwC Rw.zero) 7 rfl rfl (setRow_heap _ _ _ _ _ _ HB.out) Tryd.underlying68 info_row) rfl (HN.out _ (below_setRow HL.out (Nat.le_refl _) _))
    | true =>
      cases c with
      | false =>
        go_wp2_with (refine wpList_store_row rfl 68 _ _ rfl w.heap.size (rwC Rw.zero) rfl rfl 68 (rwC Rw.zero) HB.out info_row rfl (row_one _) ?_)
        exact bodyPost_ret (v := .tuple #[rwV Rw.zero, .int .i64 7]) (results_two Tryd.results61 _ _ w.heap.size (rwC Rw.zero) 7 rfl rfl (setRow_heap _ _ _ _ _ _ HB.out) Tryd.underlying68 info_row) rfl (HN.out _ (below_setRow HL.out (Nat.le_refl _) _))
      | true =>
        cases d <;>
        · go_wp2_with (refine wpList_store_row rfl 68 _ _ rfl w.heap.size (rwC Rw.zero) rfl rfl 68 (rwC Rw.zero) HB.out info_row rfl (row_one _) ?_)
          exact bodyPost_ret (v := .tuple #[rwV Rw.zero, .int .i64 7]) (results_two Tryd.results61 _ _ w.heap.size (rwC Rw.zero) 7 rfl rfl (setRow_heap _ _ _ _ _ _ HB.out) Tryd.underlying68 info_row) rfl (HN.out _ (below_setRow HL.out (Nat.le_refl _) _))

theorem rdecode_less (s : ByteArray) (w : World) (h : s.size < 16) : Calls Tryd.prog 61 #[.string s] w (DecP s w) := by
  have g : ∀ a n : Nat, a ≤ 15 → 1 ≤ n → n ≤ 8 → ∃ (x : Int) (b : Bool), ∀ W, Calls Tryd.prog 67 #[.string s, .int .i64 (a : Int), .int .i64 (n : Int)] W fun e w' => e = .returned (.tuple #[.int .u64 x, .bool b]) ∧ W = w' := fun a n h0 h1 h8 => by
    by_cases ha : a + n ≤ s.size
    · exact ⟨_, _, fun W => get_true W (by omega) h1 h8 ha⟩
    · exact ⟨_, _, fun W => get_false W (by omega) (by omega) h8 (by omega)⟩
  obtain ⟨x1, a, k1⟩ := g 0 1 (by decide) (by decide) (by decide)
  obtain ⟨x2, b, k2⟩ := g 1 8 (by decide) (by decide) (by decide)
  obtain ⟨x3, c, k3⟩ := g 9 4 (by decide) (by decide) (by decide)
  obtain ⟨x4, d, k4⟩ := g 13 2 (by decide) (by decide) (by decide)
  exact rdecode_short s w x1 x2 x3 x4 a b c d k1 k2 k3 k4 (fun W => get_false (a := 15) (n := 1) W (by omega) (by omega) (by decide) (by omega)) (short_no h)

set_option maxRecDepth 100000 in
set_option maxHeartbeats 4000000 in
theorem rdecode_more (s : ByteArray) (w : World) (hs : s.size ≤ 140737488351232) (h : 16 ≤ s.size) : Calls Tryd.prog 61 #[.string s] w (DecP s w) := by
  have H1 := Lib.hid (fun W => show Calls Tryd.prog 67 #[.string s, .int .i64 0, .int .i64 1] W fun e w' => e = .returned (.tuple #[.int .u64 (numAt s 0 1 : Int), .bool true]) ∧ W = w' from get_true (a := 0) (n := 1) W hs (by decide) (by decide) (by omega))
  have H2 := Lib.hid (fun W => show Calls Tryd.prog 67 #[.string s, .int .i64 1, .int .i64 8] W fun e w' => e = .returned (.tuple #[.int .u64 (numAt s 1 8 : Int), .bool true]) ∧ W = w' from get_true (a := 1) (n := 8) W hs (by decide) (by decide) (by omega))
  have H3 := Lib.hid (fun W => show Calls Tryd.prog 67 #[.string s, .int .i64 9, .int .i64 4] W fun e w' => e = .returned (.tuple #[.int .u64 (numAt s 9 4 : Int), .bool true]) ∧ W = w' from get_true (a := 9) (n := 4) W hs (by decide) (by decide) (by omega))
  have H4 := Lib.hid (fun W => show Calls Tryd.prog 67 #[.string s, .int .i64 13, .int .i64 2] W fun e w' => e = .returned (.tuple #[.int .u64 (numAt s 13 2 : Int), .bool true]) ∧ W = w' from get_true (a := 13) (n := 2) W hs (by decide) (by decide) (by omega))
  have H5 := Lib.hid (fun W => show Calls Tryd.prog 67 #[.string s, .int .i64 15, .int .i64 1] W fun e w' => e = .returned (.tuple #[.int .u64 (numAt s 15 1 : Int), .bool true]) ∧ W = w' from get_true (a := 15) (n := 1) W hs (by decide) (by decide) (by omega))
  have HB := Lib.hid (heap_alloc_new w (.cells (rwC Rw.zero) 68))
  have HL := Lib.hid (below_new w (.cells (rwC Rw.zero) 68))
  have NO := Lib.hid (fun (hn : ¬ okR s = true) w' b => @DecP.no s w w' hn b)
  have b1 := numAt_lt s 0 1
  have b2 := numAt_lt s 1 8
  have b3 := numAt_lt s 9 4
  have b4 := numAt_lt s 13 2
  have b5 := numAt_lt s 15 1
  obtain ⟨mk, hmk⟩ : ∃ x, x = numAt s 0 1 := ⟨_, rfl⟩
  obtain ⟨tx, htx⟩ : ∃ x, x = numAt s 1 8 := ⟨_, rfl⟩
  obtain ⟨pg, hpg⟩ : ∃ x, x = numAt s 9 4 := ⟨_, rfl⟩
  obtain ⟨sl, hsl⟩ : ∃ x, x = numAt s 13 2 := ⟨_, rfl⟩
  obtain ⟨n, hn⟩ : ∃ x, x = numAt s 15 1 := ⟨_, rfl⟩
  rw [← hmk] at H1 b1
  rw [← htx] at H2 b2
  rw [← hpg] at H3 b3
  rw [← hsl] at H4 b4
  rw [← hn] at H5 b5
  have MARK := Lib.hid (fun hm => @mark_no s h (by rw [← hmk]; exact hm))
  have KEY := Lib.hid (fun hm => @key_no s (by rw [← hn]; exact hm))
  have VAL := Lib.hid (fun hm => @val_no s (by rw [← hn]; exact hm))
  have RD := Lib.hid (fun h2 h3 hm => @rd_of s h h2 h3 hm)
  rw [← hmk, ← htx, ← hpg, ← hsl, ← hn] at RD
  clear hmk htx hpg hsl hn
  unfold rwC at HB HL
  go_enter Tryd.func61, Tryd.ntmps61
  go_wp2_with fail
  refine (H1.out _).mono ?_
  rintro e w1 ⟨rfl, rfl⟩
  go_wp2_with fail
  refine (H2.out _).mono ?_
  rintro e w1 ⟨rfl, rfl⟩
  go_wp2_with fail
  refine (H3.out _).mono ?_
  rintro e w1 ⟨rfl, rfl⟩
  go_wp2_with fail
  refine (H4.out _).mono ?_
  rintro e w1 ⟨rfl, rfl⟩
  go_wp2_with fail
  refine (H5.out _).mono ?_
  rintro e w1 ⟨rfl, rfl⟩
  clear H1 H2 H3 H4 H5
  by_cases hmk : 1 < mk
  · have HN := Lib.hid (NO.out (MARK.out hmk))
    clear NO MARK KEY VAL RD
    go_wp2_with (refine wpList_store_row rfl 68 _ _ rfl w.heap.size (rwC Rw.zero) rfl rfl 68 (rwC Rw.zero) HB.out info_row rfl (row_one _) ?_)
    exact bodyPost_ret (v := .tuple #[rwV Rw.zero, .int .i64 7]) (results_two Tryd.results61 _ _ w.heap.size (rwC Rw.zero) 7 rfl rfl (setRow_heap _ _ _ _ _ _ HB.out) Tryd.underlying68 info_row) rfl (HN.out _ (below_setRow HL.out (Nat.le_refl _) _))
  by_cases hk : s.size < 17 + n
  · have HN := Lib.hid (NO.out (KEY.out hk))
    have G := Lib.hid (fun W => show Calls Tryd.prog 67 #[.string s, .int .i64 (16 + (n : Int)), .int .i64 1] W fun e w' => e = .returned (.tuple #[.int .u64 0, .bool false]) ∧ W = w' from by
      have := get_false (a := 16 + n) (n := 1) W hs (by omega) (by decide) (by omega)
      rw [show ((16 + n : Nat) : Int) = 16 + (n : Int) by omega] at this
      exact this)
    clear NO MARK KEY VAL RD
    go_wp2_with fail
    refine (G.out _).mono ?_
    rintro e w1 ⟨rfl, rfl⟩
    clear G
    go_wp2_with (refine wpList_store_row rfl 68 _ _ rfl w.heap.size (rwC Rw.zero) rfl rfl 68 (rwC Rw.zero) HB.out info_row rfl (row_one _) ?_)
    exact bodyPost_ret (v := .tuple #[rwV Rw.zero, .int .i64 7]) (results_two Tryd.results61 _ _ w.heap.size (rwC Rw.zero) 7 rfl rfl (setRow_heap _ _ _ _ _ _ HB.out) Tryd.underlying68 info_row) rfl (HN.out _ (below_setRow HL.out (Nat.le_refl _) _))
  have b6 := numAt_lt s (16 + n) 1
  have G := Lib.hid (fun W => show Calls Tryd.prog 67 #[.string s, .int .i64 (16 + (n : Int)), .int .i64 1] W fun e w' => e = .returned (.tuple #[.int .u64 (numAt s (16 + n) 1 : Int), .bool true]) ∧ W = w' from by
    have := get_true (a := 16 + n) (n := 1) W hs (by decide) (by decide) (by omega)
    rw [show ((16 + n : Nat) : Int) = 16 + (n : Int) by omega] at this
    exact this)
  generalize numAt s (16 + n) 1 = v at *
  by_cases hv : s.size < 17 + n + v
  · have HN := Lib.hid (NO.out (VAL.out hv))
    clear NO MARK KEY VAL RD
    go_wp2_with fail
    refine (G.out _).mono ?_
    rintro e w1 ⟨rfl, rfl⟩
    clear G
    go_wp2_with (refine wpList_store_row rfl 68 _ _ rfl w.heap.size (rwC Rw.zero) rfl rfl 68 (rwC Rw.zero) HB.out info_row rfl (row_one _) ?_)
    exact bodyPost_ret (v := .tuple #[rwV Rw.zero, .int .i64 7]) (results_two Tryd.results61 _ _ w.heap.size (rwC Rw.zero) 7 rfl rfl (setRow_heap _ _ _ _ _ _ HB.out) Tryd.underlying68 info_row) rfl (HN.out _ (below_setRow HL.out (Nat.le_refl _) _))
  obtain ⟨r1, r2, r3⟩ := RD.out (by omega) (by omega) (by omega)
  clear RD MARK KEY VAL
  rw [r2] at r3
  have R1 := Lib.hid r1
  have R3 := Lib.hid r3
  clear r1 r2 r3
  go_wp2_with fail
  refine (G.out _).mono ?_
  rintro e w1 ⟨rfl, rfl⟩
  clear G
  go_wp2_with fail
  have hsl1 : ∀ W : World, (Instr.sliceAt 9 (.string s) (some (.int .i64 16)) (some (.int .i64 (16 + (n : Int)))) none).run Tryd.prog W = .ok (.string (s.extract 16 (16 + n))) W := fun W => by
    have := cut_both s 16 (16 + n) (by omega) (by omega) W
    rw [show ((16 + n : Nat) : Int) = 16 + (n : Int) by omega] at this
    exact this
  have hsl2 : ∀ W : World, (Instr.sliceAt 9 (.string s) (some (.int .i64 (16 + (n : Int) + 1))) (some (.int .i64 (16 + (n : Int) + 1 + (v : Int)))) none).run Tryd.prog W = .ok (.string (s.extract (17 + n) (17 + n + v))) W := fun W => by
    have := cut_both s (17 + n) (17 + n + v) (by omega) (by omega) W
    rw [show ((17 + n : Nat) : Int) = 16 + (n : Int) + 1 by omega, show ((17 + n + v : Nat) : Int) = 16 + (n : Int) + 1 + (v : Int) by omega] at this
    exact this
  have wpg : IntKind.u32.wrap (pg : Int) = (pg : Int) := by rw [IntKind.wrap_u32]; omega
  have wsl : IntKind.u16.wrap (sl : Int) = (sl : Int) := by rw [IntKind.wrap_u16]; omega
  have ws1 : IntKind.i64.wrap (16 + (n : Int) + 1) = 16 + (n : Int) + 1 := by rw [IntKind.wrap_i64]; omega
  have ws2 : IntKind.i64.wrap ((s.size : Int) - (16 + (n : Int) + 1 + (v : Int))) = (s.size : Int) - (16 + (n : Int) + 1 + (v : Int)) := by rw [IntKind.wrap_i64]; omega
  have WS1 := Lib.hid ws1
  have WS2 := Lib.hid ws2
  clear ws1 ws2
  have PD : Hid ((s.size : Int) - (16 + (n : Int) + 1 + (v : Int)) = (s.size : Int) - ((17 + n + v : Nat) : Int)) := Lib.hid (by omega)
  go_loop [18] (fun i => ∃ k : Nat, 17 + n + v ≤ k ∧ k ≤ s.size ∧ i = .int .i64 (k : Int) ∧ blankB s (17 + n + v) = blankB s k) (fun i => s.size - (intOf i).toNat)
  case atStart => exact ⟨17 + n + v, by omega, by omega, by congr 1; omega, rfl⟩
  case round =>
    obtain ⟨k, hk1, hk2, rfl, hbl⟩ := hrel
    by_cases hlt : k < s.size
    · rw [blank_step hlt] at hbl
      by_cases h0 : (s[k]'hlt).toNat = 0
      · have e0 : ((s[k]'hlt) == 0) = true := by rw [beq_iff_eq]; exact UInt8.toNat_inj.1 h0
        rw [e0, Bool.true_and] at hbl
        have BL := Lib.hid hbl
        clear hbl e0
        go_wp2_with fail
        go_round
        case rel => exact ⟨k + 1, by omega, by omega, by go_num, BL.out⟩
        case measure => simp [intOf]; omega
      · have e0 : ((s[k]'hlt) == 0) = false := by
          cases he : ((s[k]'hlt) == 0) with
          | false => rfl
          | true => exact absurd (by rw [beq_iff_eq] at he; rw [he]; rfl) h0
        rw [e0, Bool.false_and] at hbl
        have HN := Lib.hid (NO.out (by rw [R3.out, hbl, Bool.and_false]; decide))
        clear hbl e0 NO R1 R3 hsl1 hsl2
        go_wp2_with (refine wpList_store_row rfl 68 _ _ rfl w.heap.size (rwC Rw.zero) rfl rfl 68 (rwC Rw.zero) HB.out info_row rfl (row_one _) ?_)
        exact bodyPost_ret (v := .tuple #[rwV Rw.zero, .int .i64 7]) (results_two Tryd.results61 _ _ w.heap.size (rwC Rw.zero) 7 rfl rfl (setRow_heap _ _ _ _ _ _ HB.out) Tryd.underlying68 info_row) rfl (HN.out _ (below_setRow HL.out (Nat.le_refl _) _))
    · obtain rfl : k = s.size := by omega
      rw [blank_end (Nat.le_refl _)] at hbl
      rw [hbl, Bool.and_true] at R3
      clear hbl hlt hk1 hk2
      go_wp2_with fail
      generalize w.alloc _ = W1 at *
      have ws1 := WS1.out
      have ws2 := WS2.out
      go_region_held3 (fun _ => True) (trivial) (fail)
      clear ws1 ws2 hsl1 hsl2 wpg wsl
      generalize hW : World.drew _ = W2 at *
      have CC : (#[.string (s.extract 16 (16 + n)), .bool ((mk : Int) == 1), .int .u64 (tx : Int), .int .u32 (pg : Int), .int .u16 (sl : Int), .string (s.extract (17 + n) (17 + n + v)), .int .i64 ((s.size : Int) - (16 + (n : Int) + 1 + (v : Int)))] : Array Value) = rwC (rdR s) := by rw [R1.out, PD.out, mark_eq]; rfl
      have t3 : W2.heap[w.heap.size]? = some (.cells (rwC Rw.zero) 68 (0, 0)) ∧ W2.heap[w.heap.size + 1]? = some (.cells (rwC (rdR s)) 68 (0, 0)) ∧ Below w.heap.size w W2 := by rw [← hW, ← CC]; exact two_start w _ _
      have HB3 := Lib.hid t3.1
      have BX := Lib.hid (show Bx w W2 (w.heap.size + 1) (rdR s) from ⟨t3.2.1, t3.2.2⟩)
      have KM := Lib.hid (fun W => rmay_any (rdR s) W (rd_wf hs))
      have YES := Lib.hid (fun (h : okR s = true) w' (b : Below w.heap.size w w') => (show DecP s w (.returned (.tuple #[rwV (rdR s), .int .i64 0])) w' by obtain ⟨e1, e2⟩ := is_ok h; exact ⟨by rw [e1, e2], b⟩))
      clear t3 CC hW R1 HB HL PD WS1 WS2
      generalize rdR s = r at *
      generalize mayR r = m at *
      obtain ⟨a0, a1, a2, a3, a4, a5, a6⟩ := BX.out.all
      unfold rwV rwC at *
      go_wp2_with fail
      refine (KM.out _).mono ?_
      rintro e w4 ⟨rfl, b4⟩
      have HB4 := Lib.hid ((b4.block _ (Array.getElem?_eq_some_iff.1 HB3.out).1).trans HB3.out)
      have BX4 := Lib.hid (BX.out.later b4)
      clear b4 HB3 BX KM a0 a1 a2 a3 a4 a5 a6
      cases m with
      | false =>
        have HN := Lib.hid (NO.out (by rw [R3.out]; decide))
        clear NO YES R3
        have HL := Lib.hid BX4.out.below
        clear BX4
        go_wp2_with (refine wpList_store_row rfl 68 _ _ rfl w.heap.size (rwC Rw.zero) rfl rfl 68 (rwC Rw.zero) HB4.out info_row rfl (row_one _) ?_)
        exact bodyPost_ret (v := .tuple #[rwV Rw.zero, .int .i64 7]) (results_two Tryd.results61 _ _ w.heap.size (rwC Rw.zero) 7 rfl rfl (setRow_heap _ _ _ _ _ _ HB4.out) Tryd.underlying68 info_row) rfl (HN.out _ (below_setRow HL.out (Nat.le_refl _) _))
      | true =>
        have HN := Lib.hid (YES.out R3.out)
        clear NO YES R3
        have HL := Lib.hid BX4.out.below
        obtain ⟨a0, a1, a2, a3, a4, a5, a6⟩ := BX4.out.all
        clear BX4
        go_wp2_with (refine wpList_store_row rfl 68 _ _ rfl w.heap.size (rwC r) rfl rfl 68 (rwC Rw.zero) HB4.out info_row rfl (row_one _) ?_)
        exact bodyPost_ret (v := .tuple #[rwV r, .int .i64 0]) (results_two Tryd.results61 _ _ w.heap.size (rwC r) 0 rfl rfl (setRow_heap _ _ _ _ _ _ HB4.out) Tryd.underlying68 info_row) rfl (HN.out _ (below_setRow HL.out (Nat.le_refl _) _))

theorem rdecode_any (s : ByteArray) (w : World) (hs : s.size ≤ 140737488351232) :
    Calls Tryd.prog 61 #[.string s] w fun e w' => e = .returned (.tuple #[rwV (decR s), .int .i64 (decE s)]) ∧ Below w.heap.size w w' := by
  by_cases h : s.size < 16
  · exact rdecode_less s w h
  · exact rdecode_more s w hs (by omega)

end Go.Proofs.YtbdbnpcbbebelaaDoor.Row

namespace Go.Proofs.YtbdbnpcbbebelaaDoor.Row
open Go.RowKit
attribute [local go_sem ↓] Go.wp_at_zero Go.wp_at_succ

structure En where
  key : ByteArray
  child : Nat
def En.zero : En := ⟨⟨#[]⟩, 0⟩
structure En.wf (e : En) : Prop where
  key : e.key.size ≤ 140737488351232
  child : e.child < 4294967296
def enC (e : En) : Array Value := #[.string e.key, .int .u32 (e.child : Int)]
def enV (e : En) : Value := .agg (enC e)
def mayE (e : En) : Bool := decide (e.key.size ≤ 48) && (decide (1 ≤ e.child) && decide (e.child ≤ 1024))
def entS (e : En) : ByteArray := if mayE e then nb 4 e.child ++ e.key else ⟨#[]⟩
def entE (e : En) : Int := if mayE e then 0 else 2
def okE (s : ByteArray) : Bool := decide (4 ≤ s.size) && mayE ⟨s.extract 4 s.size, numAt s 0 4⟩
def decN (s : ByteArray) : En := if okE s then ⟨s.extract 4 s.size, numAt s 0 4⟩ else En.zero
def decF (s : ByteArray) : Int := if okE s then 0 else 7
theorem mayE_parts {e : En} (h : mayE e = true) : e.key.size ≤ 48 ∧ 1 ≤ e.child ∧ e.child ≤ 1024 := by
  simpa [mayE] using h

/-- an entry's box, and what was made since -/
structure Ex (W0 w : World) (g : Nat) (e : En) : Prop where
  box : w.heap[g]? = some (.cells (enC e) 73 (0, 0))
  below : Below W0.heap.size W0 w
theorem Ex.later {W0 w w' : World} {g : Nat} {e : En} (h : Ex W0 w g e) (t : Below w.heap.size w w') : Ex W0 w' g e :=
  ⟨(t.block g (Array.getElem?_eq_some_iff.1 h.box).1).trans h.box, h.below.trans (t.mono h.below.size)⟩
theorem Ex.make {W0 w : World} (e : En) (b : Below W0.heap.size W0 w) : Ex W0 (w.alloc (.cells (enC e) 73)) w.heap.size e := ⟨heap_alloc_new w _, b.alloc b.size _⟩
theorem Ex.start (w : World) (e : En) : Ex w (w.alloc (.cells (enC e) 73)) w.heap.size e := Ex.make e (Below.refl _ _)
theorem Ex.all {W0 w : World} {g : Nat} {e : En} (h : Ex W0 w g e) : w.cell? ⟨g, 0, none⟩ = some (.string e.key) ∧ w.cell? ⟨g, 1, none⟩ = some (.int .u32 (e.child : Int)) := by
  refine ⟨?_, ?_⟩ <;> (rw [cell_of_row _ _ _ _ _ _ h.box]; rfl)

set_option maxRecDepth 100000 in
set_option maxHeartbeats 1000000 in
theorem maye_any (e : En) (w : World) (he : e.wf) :
    Calls Tryd.prog 65 #[enV e] w fun r w' => r = .returned (.bool (mayE e)) ∧ Below w.heap.size w w' := by
  have B := Lib.hid (below_new w (.cells (enC e) 73))
  have h : mayE e = true ↔ e.key.size ≤ 48 ∧ 1 ≤ e.child ∧ e.child ≤ 1024 := by simp [mayE]
  obtain ⟨h1, h2⟩ := he
  generalize mayE e = x at *
  have H := Lib.hid h
  clear h
  unfold enV enC at *
  go_enter Tryd.func65, Tryd.ntmps65
  go_wp2_with fail
  all_goals
    go_ret
    exact ⟨ret_bool (by rw [Bool.eq_iff_iff, H.out]; simp only [decide_eq_true_eq, Bool.false_eq_true, false_iff]; omega), B.out⟩

set_option maxRecDepth 100000 in
set_option maxHeartbeats 1000000 in
theorem rent_no (e : En) (w : World) (he : e.wf) (hm : mayE e = false) :
    Calls Tryd.prog 59 #[enV e] w fun r w' => r = .returned (.tuple #[.string ⟨#[]⟩, .int .i64 2]) ∧ Below w.heap.size w w' := by
  have B := Lib.hid (fun o => below_new w o)
  have h : ¬ (e.key.size ≤ 48 ∧ 1 ≤ e.child ∧ e.child ≤ 1024) := by
    have : mayE e = true ↔ e.key.size ≤ 48 ∧ 1 ≤ e.child ∧ e.child ≤ 1024 := by simp [mayE]
    rw [← this, hm]
    decide
  obtain ⟨h1, h2⟩ := he
  clear hm
  unfold enV enC
  by_cases c1 : 48 < e.key.size
  · clear h
    go_enter Tryd.func59, Tryd.ntmps59
    go_wp2_with fail
    go_ret2
    exact ⟨rfl, B.out _⟩
  by_cases c2 : e.child = 0
  · have c3 : (e.child : Int) = 0 := by omega
    rw [c3]
    clear h c2 c3 h2
    go_enter Tryd.func59, Tryd.ntmps59
    go_wp2_with fail
    go_ret2
    exact ⟨rfl, B.out _⟩
  have c4 : 1024 < e.child := by omega
  clear h
  go_enter Tryd.func59, Tryd.ntmps59
  go_wp2_with fail
  go_ret2
  exact ⟨rfl, B.out _⟩

set_option maxRecDepth 100000 in
set_option maxHeartbeats 1000000 in
theorem rent_yes (e : En) (w : World) (_he : e.wf) (hm : mayE e = true) :
    Calls Tryd.prog 59 #[enV e] w fun r w' => r = .returned (.tuple #[.string (nb 4 e.child ++ e.key), .int .i64 0]) ∧ Below w.heap.size w w' := by
  have T0 := Lib.hid ((Ex.start w e).later ((Below.refl _ _).drew))
  obtain ⟨p1, p2, p3⟩ := mayE_parts hm
  have p4 : ((e.child : Int) == 0) = false := by simp; omega
  have K := Lib.hid (fun W => (show Calls Tryd.prog 57 #[.int .u64 (e.child : Int), .int .i64 4] W fun r w' => r = .returned (.string (nb 4 e.child)) ∧ Below W.heap.size W w' from rnumber_any e.child 4 W (by decide) (by decide) (by omega)))
  have z := nb_size 4 e.child
  have q : IntKind.u64.wrap (e.child : Int) = e.child := by rw [IntKind.wrap_u64]; omega
  have s1 : (9223372036854775807 < (nb 4 e.child).size + e.key.size) = False := by simp only [eq_iff_iff, iff_false]; omega
  clear _he z hm
  generalize nb 4 e.child = X at *
  unfold enV enC at *
  go_enter Tryd.func59, Tryd.ntmps59
  go_wp2_with fail
  generalize w.alloc _ = W1 at *
  generalize w.heap.size = g at *
  go_region_held3 (fun w' => w'.cell? ⟨g, 0, none⟩ = some (.string e.key) ∧ w'.cell? ⟨g, 1, none⟩ = some (.int .u32 (e.child : Int))) (first | exact T0.out.all | exact T3.all)
    (first | (go_at_call 57; (with_reducible refine (K.out _).mono ?_); rintro r w3 ⟨rfl, b2⟩; have T3 := T0.out.later b2; clear b2))
  have TT := Lib.hid T3.below
  clear T0 T3 K
  go_wp2_with fail
  go_ret2
  exact ⟨rfl, TT.out⟩

theorem rent_any (e : En) (w : World) (he : e.wf) :
    Calls Tryd.prog 59 #[enV e] w fun r w' => r = .returned (.tuple #[.string (entS e), .int .i64 (entE e)]) ∧ Below w.heap.size w w' := by
  cases hm : mayE e with
  | true =>
    have e1 : entE e = 0 := by unfold entE; rw [if_pos hm]
    have e2 : entS e = nb 4 e.child ++ e.key := by unfold entS; rw [if_pos hm]
    rw [e1, e2]
    exact rent_yes e w he hm
  | false =>
    have e1 : entE e = 2 := by unfold entE; rw [if_neg (by rw [hm]; decide)]
    have e2 : entS e = ⟨#[]⟩ := by unfold entS; rw [if_neg (by rw [hm]; decide)]
    rw [e1, e2]
    exact rent_no e w he hm

end Go.Proofs.YtbdbnpcbbebelaaDoor.Row

namespace Go.Proofs.YtbdbnpcbbebelaaDoor.Row
open Go.RowKit
attribute [local go_sem ↓] Go.wp_at_zero Go.wp_at_succ

theorem info_ent : (Tryd.prog.info? 73).map (·.size) = some 2 := by kernel_rfl
theorem ent_one (e : En) : (enC e).all (·.oneCell') = true := Array.all_eq_true_iff_forall_mem.2 (by
  intro v hv
  simp [enC] at hv
  rcases hv with rfl | rfl <;> rfl)
theorem okE_no {s : ByteArray} (h : ¬ okE s = true) : decN s = En.zero ∧ decF s = 7 := by
  unfold decN decF
  rw [if_neg h, if_neg h]
  exact ⟨rfl, rfl⟩
theorem okE_yes {s : ByteArray} (h : okE s = true) : decN s = ⟨s.extract 4 s.size, numAt s 0 4⟩ ∧ decF s = 0 := by
  unfold decN decF
  rw [if_pos h, if_pos h]
  exact ⟨rfl, rfl⟩
/-- what a call that reads an entry answers -/
def DecQ (s : ByteArray) (w : World) (e : Ending) (w' : World) : Prop := e = .returned (.tuple #[enV (decN s), .int .i64 (decF s)]) ∧ Below w.heap.size w w'
theorem DecQ.no {s : ByteArray} {w w' : World} (h : ¬ okE s = true) (b : Below w.heap.size w w') : DecQ s w (.returned (.tuple #[enV En.zero, .int .i64 7])) w' := by
  obtain ⟨e1, e2⟩ := okE_no h
  exact ⟨by rw [e1, e2], b⟩
theorem DecQ.yes {s : ByteArray} {w w' : World} (h : okE s = true) (b : Below w.heap.size w w') : DecQ s w (.returned (.tuple #[enV ⟨s.extract 4 s.size, numAt s 0 4⟩, .int .i64 0])) w' := by
  obtain ⟨e1, e2⟩ := okE_yes h
  exact ⟨by rw [e1, e2], b⟩
theorem ent_wf {s : ByteArray} (hs : s.size ≤ 140737488351232) : (En.mk (s.extract 4 s.size) (numAt s 0 4)).wf := ⟨by show (s.extract 4 s.size).size ≤ _; rw [ByteArray.size_extract]; omega, numAt_lt s 0 4⟩

theorem two_ents (w : World) (c1 c2 : Array Value) : ((w.alloc (.cells c1 73)).alloc (.cells c2 73)).heap[w.heap.size]? = some (.cells c1 73 (0, 0)) ∧ ((w.alloc (.cells c1 73)).alloc (.cells c2 73)).heap[w.heap.size + 1]? = some (.cells c2 73 (0, 0)) ∧ Below w.heap.size w ((w.alloc (.cells c1 73)).alloc (.cells c2 73)) := by
  obtain ⟨w1, h1⟩ : ∃ x, x = w.alloc (.cells c1 73) := ⟨_, rfl⟩
  rw [← h1]
  have z1 : w1.heap.size = w.heap.size + 1 := by rw [h1]; simp
  have b1 : Below w.heap.size w w1 := by rw [h1]; exact below_new _ _
  have n1 : w1.heap[w.heap.size]? = some (.cells c1 73 (0, 0)) := by rw [h1]; exact heap_alloc_new _ _
  have b2 := below_new w1 (.cells c2 73)
  refine ⟨(b2.block _ (by omega)).trans n1, ?_, b1.trans (b2.mono b1.size)⟩
  rw [← z1]
  exact heap_alloc_new _ _

set_option maxRecDepth 100000 in
set_option maxHeartbeats 2000000 in
theorem dece_any (s : ByteArray) (w : World) (hs : s.size ≤ 140737488351232) :
    Calls Tryd.prog 41 #[.string s] w (DecQ s w) := by
  have NO := Lib.hid (fun (hn : ¬ okE s = true) w' b => @DecQ.no s w w' hn b)
  by_cases h : 4 ≤ s.size
  · have G := Lib.hid (fun W => (show Calls Tryd.prog 64 #[.string s, .int .i64 0, .int .i64 4] W fun e w' => e = .returned (.tuple #[.int .u64 (numAt s 0 4 : Int), .bool true]) ∧ W = w' from get_yes s 0 4 W (by omega) (by decide) (by decide) (by omega)))
    have okeq : okE s = mayE ⟨s.extract 4 s.size, numAt s 0 4⟩ := by unfold okE; rw [decide_eq_true h, Bool.true_and]
    have KM := Lib.hid (fun W => maye_any _ W (ent_wf hs))
    have YES := Lib.hid (fun (hn : okE s = true) w' b => @DecQ.yes s w w' hn b)
    have hsl := fun W => cut_high s 4 h W
    have KC := Lib.hid (fun W => clone_any (s.extract 4 s.size) W (by rw [ByteArray.size_extract]; omega))
    have lt := numAt_lt s 0 4
    generalize numAt s 0 4 = c at *
    have wc : IntKind.u32.wrap (c : Int) = (c : Int) := by rw [IntKind.wrap_u32]; omega
    generalize s.extract 4 s.size = k at *
    have wc2 : (c : Int) % 4294967296 = (c : Int) := by omega
    rw [← okeq] at KM
    clear okeq lt
    have hsl' : ∀ W : World, (Instr.sliceAt 9 (.string s) (some (.int .i64 4)) none none).run Tryd.prog W = .ok (.string k) W := hsl
    clear hsl
    generalize okE s = m at *
    go_enter Tryd.func41, Tryd.ntmps41
    go_wp2_with fail
    refine (G.out _).mono ?_
    rintro e w1 ⟨rfl, rfl⟩
    clear G
    go_wp2_with fail
    have t3 := two_ents w (enC En.zero) (enC ⟨k, c⟩)
    change Calls _ _ #[enV ⟨k, c⟩] ((w.alloc (.cells (enC En.zero) 73)).alloc (.cells (enC ⟨k, c⟩) 73)) _
    generalize (w.alloc (.cells (enC En.zero) 73)).alloc (.cells (enC ⟨k, c⟩) 73) = W2 at *
    have HB3 := Lib.hid t3.1
    have BX := Lib.hid (show Ex w W2 (w.heap.size + 1) ⟨k, c⟩ from ⟨t3.2.1, t3.2.2⟩)
    clear t3 hsl' wc wc2
    refine (KM.out _).mono ?_
    rintro e w4 ⟨rfl, b4⟩
    have HB4 := Lib.hid ((b4.block _ (Array.getElem?_eq_some_iff.1 HB3.out).1).trans HB3.out)
    have BX4 := Lib.hid (BX.out.later b4)
    clear b4 HB3 BX KM
    cases m with
    | false =>
      have HN := Lib.hid (NO.out (by decide))
      clear NO YES KC
      have HL := Lib.hid BX4.out.below
      clear BX4
      go_wp2_with (refine wpList_store_row rfl 73 _ _ rfl w.heap.size (enC En.zero) rfl rfl 73 (enC En.zero) HB4.out info_ent rfl (ent_one _) ?_)
      exact bodyPost_ret (v := .tuple #[enV En.zero, .int .i64 7]) (results_two Tryd.results41 _ _ w.heap.size (enC En.zero) 7 rfl rfl (setRow_heap _ _ _ _ _ _ HB4.out) Tryd.underlying73 info_ent) rfl (HN.out _ (below_setRow HL.out (Nat.le_refl _) _))
    | true =>
      have HN := Lib.hid (YES.out rfl)
      clear NO YES
      obtain ⟨a0, a1⟩ := BX4.out.all
      go_wp2_with fail
      refine (KC.out _).mono ?_
      rintro e w5 ⟨rfl, b5⟩
      have HB5 := Lib.hid ((b5.block _ (Array.getElem?_eq_some_iff.1 HB4.out).1).trans HB4.out)
      have BX5 := Lib.hid (BX4.out.later b5)
      clear b5 HB4 BX4 KC a0 a1
      obtain ⟨a0, a1⟩ := BX5.out.all
      have fz := frozen_of_row _ _ 0 _ _ BX5.out.box
      have BX6 : Hid (Ex w (w5.setCell ⟨w.heap.size + 1, 0, none⟩ (.string k)) (w.heap.size + 1) ⟨k, c⟩) := Lib.hid ⟨by rw [heap_setCell_same w5 (w.heap.size + 1) 0 _ _ _ BX5.out.box]; rfl, BX5.out.below.setCell (Nat.le_add_right _ 1) _⟩
      have HB6 : Hid ((w5.setCell ⟨w.heap.size + 1, 0, none⟩ (.string k)).heap[w.heap.size]? = some (.cells (enC En.zero) 73 (0, 0))) := Lib.hid (by rw [heap_setCell_other _ _ _ _ (by show w.heap.size ≠ w.heap.size + 1; omega)]; exact HB5.out)
      clear HB5 BX5
      go_wp2_with (refine wpList_store_row rfl 73 _ _ rfl w.heap.size (enC ⟨k, c⟩) rfl rfl 73 (enC En.zero) HB6.out info_ent rfl (ent_one _) ?_)
      exact bodyPost_ret (v := .tuple #[enV ⟨k, c⟩, .int .i64 0]) (results_two Tryd.results41 _ _ w.heap.size (enC ⟨k, c⟩) 0 rfl rfl (setRow_heap _ _ _ _ _ _ HB6.out) Tryd.underlying73 info_ent) rfl (HN.out _ (below_setRow BX6.out.below (Nat.le_refl _) _))
  · have G := Lib.hid (fun W => (show Calls Tryd.prog 64 #[.string s, .int .i64 0, .int .i64 4] W fun e w' => e = .returned (.tuple #[.int .u64 0, .bool false]) ∧ W = w' from get_no s 0 4 W (by omega) (by omega) (by
      have : hasB s.size 0 4 = false := by unfold hasB; rw [decide_eq_false_iff_not]; omega
      rw [this, Bool.and_false])))
    have HN := Lib.hid (NO.out (by unfold okE; rw [decide_eq_false h, Bool.false_and]; decide))
    have HB := Lib.hid (heap_alloc_new w (.cells (enC En.zero) 73))
    have HL := Lib.hid (below_new w (.cells (enC En.zero) 73))
    clear NO h hs
    go_enter Tryd.func41, Tryd.ntmps41
    go_wp2_with fail
    refine (G.out _).mono ?_
    rintro e w1 ⟨rfl, rfl⟩
    clear G
    go_wp2_with (refine wpList_store_row rfl 73 _ _ rfl w.heap.size (enC En.zero) rfl rfl 73 (enC En.zero) HB.out info_ent rfl (ent_one _) ?_)
    exact bodyPost_ret (v := .tuple #[enV En.zero, .int .i64 7]) (results_two Tryd.results41 _ _ w.heap.size (enC En.zero) 7 rfl rfl (setRow_heap _ _ _ _ _ _ HB.out) Tryd.underlying73 info_ent) rfl (HN.out _ (below_setRow HL.out (Nat.le_refl _) _))

set_option maxRecDepth 100000 in
set_option maxHeartbeats 2000000 in
theorem rdece_bad (s : ByteArray) (w : World) (hs : s.size ≤ 140737488351232) (n : Nat) (b : Bool) (G : Hid (∀ W, Calls Tryd.prog 67 #[.string s, .int .i64 0, .int .i64 4] W fun e w' => e = .returned (.tuple #[.int .u64 (n : Int), .bool b]) ∧ W = w'))
    (hb : b = false ∨ n = 0 ∨ 1024 < n ∨ 52 < s.size) (hn : ¬ okE s = true) : Calls Tryd.prog 42 #[.string s] w (DecQ s w) := by
  have HN := Lib.hid (fun w' b => @DecQ.no s w w' hn b)
  have HB := Lib.hid (heap_alloc_new w (.cells (enC En.zero) 73))
  have HL := Lib.hid (below_new w (.cells (enC En.zero) 73))
  clear hn
  cases b with
  | false =>
    clear hb
    go_enter Tryd.func42, Tryd.ntmps42
    go_wp2_with fail
    refine (G.out _).mono ?_
    rintro e w1 ⟨rfl, rfl⟩
    clear G
    go_wp2_with (refine wpList_store_row rfl 73 _ _ rfl w.heap.size (enC En.zero) rfl rfl 73 (enC En.zero) HB.out info_ent rfl (ent_one _) ?_)
    exact bodyPost_ret (v := .tuple #[enV En.zero, .int .i64 7]) (results_two Tryd.results42 _ _ w.heap.size (enC En.zero) 7 rfl rfl (setRow_heap _ _ _ _ _ _ HB.out) Tryd.underlying73 info_ent) rfl (HN.out _ (below_setRow HL.out (Nat.le_refl _) _))
  | true =>
    by_cases c1 : n = 0
    · subst c1
      clear hb
      go_enter Tryd.func42, Tryd.ntmps42
      go_wp2_with fail
      refine (G.out _).mono ?_
      rintro e w1 ⟨rfl, rfl⟩
      clear G
      go_wp2_with (refine wpList_store_row rfl 73 _ _ rfl w.heap.size (enC En.zero) rfl rfl 73 (enC En.zero) HB.out info_ent rfl (ent_one _) ?_)
      exact bodyPost_ret (v := .tuple #[enV En.zero, .int .i64 7]) (results_two Tryd.results42 _ _ w.heap.size (enC En.zero) 7 rfl rfl (setRow_heap _ _ _ _ _ _ HB.out) Tryd.underlying73 info_ent) rfl (HN.out _ (below_setRow HL.out (Nat.le_refl _) _))
    have c2 : ((n : Int) == 0) = false := by simp; omega
    by_cases c3 : 1024 < n
    · clear hb
      go_enter Tryd.func42, Tryd.ntmps42
      go_wp2_with fail
      refine (G.out _).mono ?_
      rintro e w1 ⟨rfl, rfl⟩
      clear G
      go_wp2_with (refine wpList_store_row rfl 73 _ _ rfl w.heap.size (enC En.zero) rfl rfl 73 (enC En.zero) HB.out info_ent rfl (ent_one _) ?_)
      exact bodyPost_ret (v := .tuple #[enV En.zero, .int .i64 7]) (results_two Tryd.results42 _ _ w.heap.size (enC En.zero) 7 rfl rfl (setRow_heap _ _ _ _ _ _ HB.out) Tryd.underlying73 info_ent) rfl (HN.out _ (below_setRow HL.out (Nat.le_refl _) _))
    have c4 : 52 < s.size := by
      rcases hb with h | h | h | h
      · cases h
      · exact absurd h c1
      · exact absurd h c3
      · exact h
    clear hb
    go_enter Tryd.func42, Tryd.ntmps42
    go_wp2_with fail
    refine (G.out _).mono ?_
    rintro e w1 ⟨rfl, rfl⟩
    clear G
    go_wp2_with (refine wpList_store_row rfl 73 _ _ rfl w.heap.size (enC En.zero) rfl rfl 73 (enC En.zero) HB.out info_ent rfl (ent_one _) ?_)
    exact bodyPost_ret (v := .tuple #[enV En.zero, .int .i64 7]) (results_two Tryd.results42 _ _ w.heap.size (enC En.zero) 7 rfl rfl (setRow_heap _ _ _ _ _ _ HB.out) Tryd.underlying73 info_ent) rfl (HN.out _ (below_setRow HL.out (Nat.le_refl _) _))

set_option maxRecDepth 100000 in
set_option maxHeartbeats 2000000 in
theorem rdece_good (s : ByteArray) (w : World) (h4 : 4 ≤ s.size) (h52 : s.size ≤ 52) (h1 : 1 ≤ numAt s 0 4) (h2 : numAt s 0 4 ≤ 1024) (hy : okE s = true) : Calls Tryd.prog 42 #[.string s] w (DecQ s w) := by
  have G := Lib.hid (fun W => (show Calls Tryd.prog 67 #[.string s, .int .i64 0, .int .i64 4] W fun e w' => e = .returned (.tuple #[.int .u64 (numAt s 0 4 : Int), .bool true]) ∧ W = w' from get_true (a := 0) (n := 4) W (by omega) (by decide) (by decide) (by omega)))
  have HN := Lib.hid (fun w' b => @DecQ.yes s w w' hy b)
  have HB := Lib.hid (heap_alloc_new w (.cells (enC En.zero) 73))
  have HL := Lib.hid (below_new w (.cells (enC En.zero) 73))
  have hsl := fun W => cut_high s 4 h4 W
  generalize numAt s 0 4 = c at *
  have c2 : ((c : Int) == 0) = false := by simp; omega
  have wc : IntKind.u32.wrap (c : Int) = (c : Int) := by rw [IntKind.wrap_u32]; omega
  have hsl' : ∀ W : World, (Instr.sliceAt 9 (.string s) (some (.int .i64 4)) none none).run Tryd.prog W = .ok (.string (s.extract 4 s.size)) W := hsl
  clear hsl hy
  generalize s.extract 4 s.size = k at *
  go_enter Tryd.func42, Tryd.ntmps42
  go_wp2_with fail
  refine (G.out _).mono ?_
  rintro e w1 ⟨rfl, rfl⟩
  clear G
  go_wp2_with (refine wpList_store_row rfl 73 _ _ rfl w.heap.size (enC ⟨k, c⟩) rfl rfl 73 (enC En.zero) HB.out info_ent rfl (ent_one _) ?_)
  exact bodyPost_ret (v := .tuple #[enV ⟨k, c⟩, .int .i64 0]) (results_two Tryd.results42 _ _ w.heap.size (enC ⟨k, c⟩) 0 rfl rfl (setRow_heap _ _ _ _ _ _ HB.out) Tryd.underlying73 info_ent) rfl (HN.out _ (below_setRow HL.out (Nat.le_refl _) _))

theorem rdece_any (s : ByteArray) (w : World) (hs : s.size ≤ 140737488351232) : Calls Tryd.prog 42 #[.string s] w (DecQ s w) := by
  by_cases h4 : 4 ≤ s.size
  · have G := fun W => (show Calls Tryd.prog 67 #[.string s, .int .i64 0, .int .i64 4] W fun e w' => e = .returned (.tuple #[.int .u64 (numAt s 0 4 : Int), .bool true]) ∧ W = w' from get_true (a := 0) (n := 4) W hs (by decide) (by decide) (by omega))
    have e : okE s = true ↔ s.size ≤ 52 ∧ 1 ≤ numAt s 0 4 ∧ numAt s 0 4 ≤ 1024 := by
      unfold okE mayE
      simp only [Bool.and_eq_true, decide_eq_true_eq, ByteArray.size_extract]
      omega
    by_cases hy : okE s = true
    · obtain ⟨k1, k2, k3⟩ := e.1 hy
      exact rdece_good s w h4 k1 k2 k3 hy
    · exact rdece_bad s w hs _ true (Lib.hid G) (.inr (by rw [e] at hy; omega)) hy
  · exact rdece_bad s w hs 0 false (Lib.hid fun W => get_false (a := 0) (n := 4) W hs (by decide) (by decide) (by omega)) (.inl rfl) (by unfold okE; rw [decide_eq_false h4, Bool.false_and]; decide)

end Go.Proofs.YtbdbnpcbbebelaaDoor.Row
