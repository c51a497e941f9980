/- Walks: bytes are read as a row. -/
import Derived.Test.YtobnenjhmkbdoaaDoorOW7
import Derived.Laws.Tables
namespace Go.Proofs.YtobnenjhmkbdoaaDoor.Row
open Go.RowKit
attribute [local go_sem ↓] Go.wp_at_zero Go.wp_at_succ

theorem results_two {fn : Func} {p k : Tmp} {T : TypeId} {f : Array Field} (h : fn.results = #[.cell p T, .tmp k]) (tmps : Array Value) (w : World) (g : Nat) (cs : Array Value) (c : Int) (hp : tmps.getD p undef = .pointer (some ⟨g, 0, none⟩)) (hk : tmps.getD k undef = .int .i64 c) (hg : w.heap[g]? = some (.cells cs T (0, 0)))
    (hu : Tryd.prog.underlying T = some (.struct f)) (hi : (Tryd.prog.info? T).map (·.size) = some cs.size) : (results fn tmps).run Tryd.prog w = .ok (.tuple #[.agg cs, .int .i64 c]) w := by
  have hp' : tmps[p]?.getD undef = .pointer (some ⟨g, 0, none⟩) := by simpa using hp
  have hk' : tmps[k]?.getD undef = .int .i64 c := by simpa using hk
  simp [results, h, hp', hk', asAddr, run_loadVar_row w g T T cs (0, 0) _ hg hu rfl hi]
theorem info_row : (Tryd.prog.info? 28).map (·.size) = some 7 := by kernel_rfl
theorem row_one (r : Rw) : (rwC r).all (·.oneCell') = true := Array.all_eq_true_iff_forall_mem.2 (by
  intro v hv
  simp [rwC] at hv
  rcases hv with rfl | rfl | rfl | rfl | rfl | rfl | rfl <;> rfl)

theorem rd_wf {s : ByteArray} (hs : s.size ≤ 140737488351232) : (rdR s).wf := by
  have h := q_le s
  have k : ∀ t n, (tkS s t n).size ≤ 140737488351232 := fun t n => by
    unfold tkS
    split
    · rw [ByteArray.size_extract]; omega
    · exact Nat.zero_le _
  refine ⟨tkN_lt s _ 8, tkN_lt s _ 4, tkN_lt s _ 2, ?_, k _ _, k _ _⟩
  show -9223372036854775808 ≤ (s.size : Int) - q8 s ∧ (s.size : Int) - q8 s ≤ 9223372036854775807
  omega

theorem ok_eq (s : ByteArray) : okR s = ((whB s && decide (tkN s 0 1 ≤ 1)) && (mayR (rdR s) && blankB s (q8 s))) := by
  unfold okR
  rw [Bool.and_assoc]

/-- a row that is being decoded: its result's cells, the place -/
structure Dc (w w' : World) (s : ByteArray) (t : Nat) (r : Rw) : Prop where
  res : w'.heap[w.heap.size]? = some (.cells (rwC Rw.zero) 28 (0, 0))
  fd : Fd w' (w.heap.size + 1) s t r
  below : Below w.heap.size w w'
theorem Dc.later {w w' w2 : World} {s : ByteArray} {t : Nat} {r : Rw} (h : Dc w w' s t r) (b : Below w'.heap.size w' w2) : Dc w w2 s t r :=
  ⟨(b.block _ (Array.getElem?_eq_some_iff.1 h.res).1).trans h.res, h.fd.later b, h.below.trans (b.mono h.below.size)⟩
theorem Dc.touched {w w' w2 : World} {s : ByteArray} {t u : Nat} {r q : Rw} (h : Dc w w' s t r) (F : Fd w2 (w.heap.size + 1) s u q) (b : Touch (fun x => x = w.heap.size + 1) w' w2) : Dc w w2 s u q :=
  ⟨(b.block _ (Array.getElem?_eq_some_iff.1 h.res).1 (by omega)).trans h.res, F, h.below.trans (b.below h.below.size (fun x hx => by omega))⟩
theorem Dc.start (w : World) (s : ByteArray) : Dc w ((w.alloc (.cells (rwC Rw.zero) 28)).alloc (.cells (fdC s 0 Rw.zero) 62)) s 0 Rw.zero := by
  obtain ⟨w1, h1⟩ : ∃ x, x = w.alloc (.cells (rwC Rw.zero) 28) := ⟨_, rfl⟩
  rw [← h1]
  have z1 : w1.heap.size = w.heap.size + 1 := by rw [h1]; simp
  have b1 : Below w.heap.size w w1 := by rw [h1]; exact below_new _ _
  have n1 : w1.heap[w.heap.size]? = some (.cells (rwC Rw.zero) 28 (0, 0)) := by rw [h1]; exact heap_alloc_new _ _
  have b2 := below_new w1 (.cells (fdC s 0 Rw.zero) 62)
  refine ⟨(b2.block _ (by omega)).trans n1, ?_, b1.trans (b2.mono b1.size)⟩
  unfold Fd
  rw [← z1]
  exact heap_alloc_new _ _
/-- the cells of the row that was read -/
theorem Dc.cells {w w' : World} {s : ByteArray} {t : Nat} {r : Rw} (h : Dc w w' s t r) : w'.cell? ⟨w.heap.size + 1, 2, none⟩ = some (.string r.key) ∧ w'.cell? ⟨w.heap.size + 1, 3, none⟩ = some (.bool r.mark) ∧ w'.cell? ⟨w.heap.size + 1, 4, none⟩ = some (.int .u64 (r.tx : Int)) ∧ w'.cell? ⟨w.heap.size + 1, 5, none⟩ = some (.int .u32 (r.page : Int)) ∧ w'.cell? ⟨w.heap.size + 1, 6, none⟩ = some (.int .u16 (r.slot : Int)) ∧ w'.cell? ⟨w.heap.size + 1, 7, none⟩ = some (.string r.value) ∧ w'.cell? ⟨w.heap.size + 1, 8, none⟩ = some (.int .i64 r.pad) := by
  refine ⟨?_, ?_, ?_, ?_, ?_, ?_, ?_⟩ <;> (rw [cell_of_row _ _ _ _ _ _ h.fd]; rfl)

set_option maxRecDepth 100000 in
set_option maxHeartbeats 4000000 in
theorem decode_any (s : ByteArray) (w : World) (hs : s.size ≤ 140737488351232) :
    Calls Tryd.prog 15 #[.string s] w fun e w' => e = .returned (.tuple #[rwV (decR s), .int .i64 (decE s)]) ∧ Below w.heap.size w w' := by
  have D0 := Lib.hid (Dc.start w s)
  have KR := Lib.hid (read_any D0.out.fd hs)
  have KM := Lib.hid (fun W => may_any (rdR s) W (rd_wf hs))
  have KB := Lib.hid (fun (W : World) (h : Dc w W s (q8 s) (rdR s)) => blank_any h.fd (q_le s).2.2.2.2.2.2.2)
  have e1 : okR s = true → decR s = rdR s ∧ decE s = 0 := fun h => by unfold decR decE; rw [if_pos h, if_pos h]; exact ⟨rfl, rfl⟩
  have e2 : okR s = false → decR s = Rw.zero ∧ decE s = 7 := fun h => by unfold decR decE; rw [if_neg (by rw [h]; decide), if_neg (by rw [h]; decide)]; exact ⟨rfl, rfl⟩
  rw [ok_eq] at e1 e2
  have E1 := Lib.hid e1
  have E2 := Lib.hid e2
  clear hs e1 e2
  generalize (whB s && decide (tkN s 0 1 ≤ 1)) = a at *
  generalize mayR (rdR s) = m at *
  generalize blankB s (q8 s) = b at *
  generalize q8 s = q at *
  generalize rdR s = r at *
  generalize decR s = rr at *
  generalize decE s = ee at *
  unfold rwV rwC fdC at *
  go_enter Tryd.func15, Tryd.ntmps15
  go_wp2_with fail
  refine KR.out.mono ?_
  rintro e w1 ⟨rfl, F1, t1⟩
  have D1 := Lib.hid (D0.out.touched F1 t1)
  clear F1 t1 D0 KR
  cases a with
  | false =>
    obtain ⟨rfl, rfl⟩ := E2.out rfl
    clear E1 E2 KM KB
    have HB := Lib.hid D1.out.res
    have HL := Lib.hid D1.out.below
    clear D1
    go_wp2_with (refine wpList_store_row rfl 28 _ _ rfl w.heap.size (rwC Rw.zero) rfl rfl 28 (rwC Rw.zero) HB.out info_row rfl (row_one _) ?_)
    exact bodyPost_ret (v := .tuple #[rwV Rw.zero, .int .i64 7]) (results_two Tryd.results15 _ _ w.heap.size (rwC Rw.zero) 7 rfl rfl (setRow_heap _ _ _ _ _ _ HB.out) Tryd.underlying28 info_row) rfl ⟨rfl, below_setRow HL.out (Nat.le_refl _) _⟩
  | true =>
    obtain ⟨a0, a1, a2, a3, a4, a5, a6⟩ := D1.out.cells
    go_wp2_with fail
    refine (KM.out _).mono ?_
    rintro e w2 ⟨rfl, b2⟩
    have D2 := Lib.hid (D1.out.later b2)
    clear b2 D1 a0 a1 a2 a3 a4 a5 a6 KM
    cases m with
    | false =>
      obtain ⟨rfl, rfl⟩ := E2.out rfl
      clear E1 E2 KB
      have HB := Lib.hid D2.out.res
      have HL := Lib.hid D2.out.below
      clear D2
      go_wp2_with (refine wpList_store_row rfl 28 _ _ rfl w.heap.size (rwC Rw.zero) rfl rfl 28 (rwC Rw.zero) HB.out info_row rfl (row_one _) ?_)
      exact bodyPost_ret (v := .tuple #[rwV Rw.zero, .int .i64 7]) (results_two Tryd.results15 _ _ w.heap.size (rwC Rw.zero) 7 rfl rfl (setRow_heap _ _ _ _ _ _ HB.out) Tryd.underlying28 info_row) rfl ⟨rfl, below_setRow HL.out (Nat.le_refl _) _⟩
    | true =>
      go_wp2_with fail
      refine (KB.out _ D2.out).mono ?_
      rintro e w3 ⟨rfl, b3⟩
      have D3 := Lib.hid (D2.out.later b3)
      clear b3 D2 KB
      cases b with
      | false =>
        obtain ⟨rfl, rfl⟩ := E2.out rfl
        clear E1 E2
        have HB := Lib.hid D3.out.res
        have HL := Lib.hid D3.out.below
        clear D3
        go_wp2_with (refine wpList_store_row rfl 28 _ _ rfl w.heap.size (rwC Rw.zero) rfl rfl 28 (rwC Rw.zero) HB.out info_row rfl (row_one _) ?_)
        exact bodyPost_ret (v := .tuple #[rwV Rw.zero, .int .i64 7]) (results_two Tryd.results15 _ _ w.heap.size (rwC Rw.zero) 7 rfl rfl (setRow_heap _ _ _ _ _ _ HB.out) Tryd.underlying28 info_row) rfl ⟨rfl, below_setRow HL.out (Nat.le_refl _) _⟩
      | true =>
        obtain ⟨rfl, rfl⟩ := E1.out rfl
        clear E1 E2
        obtain ⟨a0, a1, a2, a3, a4, a5, a6⟩ := D3.out.cells
        have HB := Lib.hid D3.out.res
        have HL := Lib.hid D3.out.below
        clear D3
        go_wp2_with (refine wpList_store_row rfl 28 _ _ rfl w.heap.size (rwC rr) rfl rfl 28 (rwC Rw.zero) HB.out info_row rfl (row_one _) ?_)
        exact bodyPost_ret (v := .tuple #[rwV rr, .int .i64 0]) (results_two Tryd.results15 _ _ w.heap.size (rwC rr) 0 rfl rfl (setRow_heap _ _ _ _ _ _ HB.out) Tryd.underlying28 info_row) rfl ⟨rfl, below_setRow HL.out (Nat.le_refl _) _⟩

end Go.Proofs.YtobnenjhmkbdoaaDoor.Row
