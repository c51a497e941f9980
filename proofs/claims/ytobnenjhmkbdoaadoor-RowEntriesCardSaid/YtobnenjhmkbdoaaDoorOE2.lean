/- Walks: bytes are read as an entry. -/
import Derived.Test.YtobnenjhmkbdoaaDoorOE1
namespace Go.Proofs.YtobnenjhmkbdoaaDoor.Row
open Go.RowKit
attribute [local go_sem ↓] Go.wp_at_zero Go.wp_at_succ

theorem info_ent : (Tryd.prog.info? 42).map (·.size) = some 2 := by kernel_rfl
theorem ent_one (e : En) : (enC e).all (·.oneCell') = true := Array.all_eq_true_iff_forall_mem.2 (by
  intro v hv
  simp [enC] at hv
  rcases hv with rfl | rfl <;> rfl)
theorem okE_no {s : ByteArray} (h : ¬ okE s = true) : decN s = En.zero ∧ decF s = 7 := by
  unfold decN decF
  rw [if_neg h, if_neg h]
  exact ⟨rfl, rfl⟩
theorem okE_yes {s : ByteArray} (h : okE s = true) : decN s = ⟨s.extract 4 s.size, numAt s 0 4⟩ ∧ decF s = 0 := by
  unfold decN decF
  rw [if_pos h, if_pos h]
  exact ⟨rfl, rfl⟩
/-- what a call that reads an entry answers -/
def DecQ (s : ByteArray) (w : World) (e : Ending) (w' : World) : Prop := e = .returned (.tuple #[enV (decN s), .int .i64 (decF s)]) ∧ Below w.heap.size w w'
theorem DecQ.no {s : ByteArray} {w w' : World} (h : ¬ okE s = true) (b : Below w.heap.size w w') : DecQ s w (.returned (.tuple #[enV En.zero, .int .i64 7])) w' := by
  obtain ⟨e1, e2⟩ := okE_no h
  exact ⟨by rw [e1, e2], b⟩
theorem DecQ.yes {s : ByteArray} {w w' : World} (h : okE s = true) (b : Below w.heap.size w w') : DecQ s w (.returned (.tuple #[enV ⟨s.extract 4 s.size, numAt s 0 4⟩, .int .i64 0])) w' := by
  obtain ⟨e1, e2⟩ := okE_yes h
  exact ⟨by rw [e1, e2], b⟩
theorem ent_wf {s : ByteArray} (hs : s.size ≤ 140737488351232) : (En.mk (s.extract 4 s.size) (numAt s 0 4)).wf := ⟨by show (s.extract 4 s.size).size ≤ _; rw [ByteArray.size_extract]; omega, numAt_lt s 0 4⟩

theorem two_ents (w : World) (c1 c2 : Array Value) : ((w.alloc (.cells c1 42)).alloc (.cells c2 42)).heap[w.heap.size]? = some (.cells c1 42 (0, 0)) ∧ ((w.alloc (.cells c1 42)).alloc (.cells c2 42)).heap[w.heap.size + 1]? = some (.cells c2 42 (0, 0)) ∧ Below w.heap.size w ((w.alloc (.cells c1 42)).alloc (.cells c2 42)) := by
  obtain ⟨w1, h1⟩ : ∃ x, x = w.alloc (.cells c1 42) := ⟨_, rfl⟩
  rw [← h1]
  have z1 : w1.heap.size = w.heap.size + 1 := by rw [h1]; simp
  have b1 : Below w.heap.size w w1 := by rw [h1]; exact below_new _ _
  have n1 : w1.heap[w.heap.size]? = some (.cells c1 42 (0, 0)) := by rw [h1]; exact heap_alloc_new _ _
  have b2 := below_new w1 (.cells c2 42)
  refine ⟨(b2.block _ (by omega)).trans n1, ?_, b1.trans (b2.mono b1.size)⟩
  rw [← z1]
  exact heap_alloc_new _ _

set_option maxRecDepth 100000 in
set_option maxHeartbeats 2000000 in
theorem dece_any (s : ByteArray) (w : World) (hs : s.size ≤ 140737488351232) :
    Calls Tryd.prog 17 #[.string s] w (DecQ s w) := by
  have NO := Lib.hid (fun (hn : ¬ okE s = true) w' b => @DecQ.no s w w' hn b)
  by_cases h : 4 ≤ s.size
  · have G := Lib.hid (fun W => (show Calls Tryd.prog 32 #[.string s, .int .i64 0, .int .i64 4] W fun e w' => e = .returned (.tuple #[.int .u64 (numAt s 0 4 : Int), .bool true]) ∧ W = w' from get_yes s 0 4 W (by omega) (by decide) (by decide) (by omega)))
    have okeq : okE s = mayE ⟨s.extract 4 s.size, numAt s 0 4⟩ := by unfold okE; rw [decide_eq_true h, Bool.true_and]
    have KM := Lib.hid (fun W => maye_any _ W (ent_wf hs))
    have YES := Lib.hid (fun (hn : okE s = true) w' b => @DecQ.yes s w w' hn b)
    have hsl := fun W => cut_high s 4 h W
    have KC := Lib.hid (fun W => clone_any (s.extract 4 s.size) W (by rw [ByteArray.size_extract]; omega))
    have lt := numAt_lt s 0 4
    generalize numAt s 0 4 = c at *
    have wc : IntKind.u32.wrap (c : Int) = (c : Int) := by rw [IntKind.wrap_u32]; omega
    generalize s.extract 4 s.size = k at *
    have wc2 : (c : Int) % 4294967296 = (c : Int) := by omega
    rw [← okeq] at KM
    clear okeq lt
    have hsl' : ∀ W : World, (Instr.sliceAt 9 (.string s) (some (.int .i64 4)) none none).run Tryd.prog W = .ok (.string k) W := hsl
    clear hsl
    generalize okE s = m at *
    go_enter Tryd.func17, Tryd.ntmps17
    go_wp2_with fail
    refine (G.out _).mono ?_
    rintro e w1 ⟨rfl, rfl⟩
    clear G
    go_wp2_with fail
    have t3 := two_ents w (enC En.zero) (enC ⟨k, c⟩)
    change Calls _ _ #[enV ⟨k, c⟩] ((w.alloc (.cells (enC En.zero) 42)).alloc (.cells (enC ⟨k, c⟩) 42)) _
    generalize (w.alloc (.cells (enC En.zero) 42)).alloc (.cells (enC ⟨k, c⟩) 42) = W2 at *
    have HB3 := Lib.hid t3.1
    have BX := Lib.hid (show Ex w W2 (w.heap.size + 1) ⟨k, c⟩ from ⟨t3.2.1, t3.2.2⟩)
    clear t3 hsl' wc wc2
    refine (KM.out _).mono ?_
    rintro e w4 ⟨rfl, b4⟩
    have HB4 := Lib.hid ((b4.block _ (Array.getElem?_eq_some_iff.1 HB3.out).1).trans HB3.out)
    have BX4 := Lib.hid (BX.out.later b4)
    clear b4 HB3 BX KM
    cases m with
    | false =>
      have HN := Lib.hid (NO.out (by decide))
      clear NO YES KC
      have HL := Lib.hid BX4.out.below
      clear BX4
      go_wp2_with (refine wpList_store_row rfl 42 _ _ rfl w.heap.size (enC En.zero) rfl rfl 42 (enC En.zero) HB4.out info_ent rfl (ent_one _) ?_)
      exact bodyPost_ret (v := .tuple #[enV En.zero, .int .i64 7]) (results_two Tryd.results17 _ _ w.heap.size (enC En.zero) 7 rfl rfl (setRow_heap _ _ _ _ _ _ HB4.out) Tryd.underlying42 info_ent) rfl (HN.out _ (below_setRow HL.out (Nat.le_refl _) _))
    | true =>
      have HN := Lib.hid (YES.out rfl)
      clear NO YES
      obtain ⟨a0, a1⟩ := BX4.out.all
      go_wp2_with fail
      refine (KC.out _).mono ?_
      rintro e w5 ⟨rfl, b5⟩
      have HB5 := Lib.hid ((b5.block _ (Array.getElem?_eq_some_iff.1 HB4.out).1).trans HB4.out)
      have BX5 := Lib.hid (BX4.out.later b5)
      clear b5 HB4 BX4 KC a0 a1
      obtain ⟨a0, a1⟩ := BX5.out.all
      have fz := frozen_of_row _ _ 0 _ _ BX5.out.box
      have BX6 : Hid (Ex w (w5.setCell ⟨w.heap.size + 1, 0, none⟩ (.string k)) (w.heap.size + 1) ⟨k, c⟩) := Lib.hid ⟨by rw [heap_setCell_same w5 (w.heap.size + 1) 0 _ _ _ BX5.out.box]; rfl, BX5.out.below.setCell (Nat.le_add_right _ 1) _⟩
      have HB6 : Hid ((w5.setCell ⟨w.heap.size + 1, 0, none⟩ (.string k)).heap[w.heap.size]? = some (.cells (enC En.zero) 42 (0, 0))) := Lib.hid (by rw [heap_setCell_other _ _ _ _ (by show w.heap.size ≠ w.heap.size + 1; omega)]; exact HB5.out)
      clear HB5 BX5
      go_wp2_with (refine wpList_store_row rfl 42 _ _ rfl w.heap.size (enC ⟨k, c⟩) rfl rfl 42 (enC En.zero) HB6.out info_ent rfl (ent_one _) ?_)
      exact bodyPost_ret (v := .tuple #[enV ⟨k, c⟩, .int .i64 0]) (results_two Tryd.results17 _ _ w.heap.size (enC ⟨k, c⟩) 0 rfl rfl (setRow_heap _ _ _ _ _ _ HB6.out) Tryd.underlying42 info_ent) rfl (HN.out _ (below_setRow BX6.out.below (Nat.le_refl _) _))
  · have G := Lib.hid (fun W => (show Calls Tryd.prog 32 #[.string s, .int .i64 0, .int .i64 4] W fun e w' => e = .returned (.tuple #[.int .u64 0, .bool false]) ∧ W = w' from get_no s 0 4 W (by omega) (by omega) (by
      have : hasB s.size 0 4 = false := by unfold hasB; rw [decide_eq_false_iff_not]; omega
      rw [this, Bool.and_false])))
    have HN := Lib.hid (NO.out (by unfold okE; rw [decide_eq_false h, Bool.false_and]; decide))
    have HB := Lib.hid (heap_alloc_new w (.cells (enC En.zero) 42))
    have HL := Lib.hid (below_new w (.cells (enC En.zero) 42))
    clear NO h hs
    go_enter Tryd.func17, Tryd.ntmps17
    go_wp2_with fail
    refine (G.out _).mono ?_
    rintro e w1 ⟨rfl, rfl⟩
    clear G
    go_wp2_with (refine wpList_store_row rfl 42 _ _ rfl w.heap.size (enC En.zero) rfl rfl 42 (enC En.zero) HB.out info_ent rfl (ent_one _) ?_)
    exact bodyPost_ret (v := .tuple #[enV En.zero, .int .i64 7]) (results_two Tryd.results17 _ _ w.heap.size (enC En.zero) 7 rfl rfl (setRow_heap _ _ _ _ _ _ HB.out) Tryd.underlying42 info_ent) rfl (HN.out _ (below_setRow HL.out (Nat.le_refl _) _))

set_option maxRecDepth 100000 in
set_option maxHeartbeats 2000000 in
theorem rdece_bad (s : ByteArray) (w : World) (hs : s.size ≤ 140737488351232) (n : Nat) (b : Bool) (G : Hid (∀ W, Calls Tryd.prog 31 #[.string s, .int .i64 0, .int .i64 4] W fun e w' => e = .returned (.tuple #[.int .u64 (n : Int), .bool b]) ∧ W = w'))
    (hb : b = false ∨ n = 0 ∨ 1024 < n ∨ 52 < s.size) (hn : ¬ okE s = true) : Calls Tryd.prog 18 #[.string s] w (DecQ s w) := by
  have HN := Lib.hid (fun w' b => @DecQ.no s w w' hn b)
  have HB := Lib.hid (heap_alloc_new w (.cells (enC En.zero) 42))
  have HL := Lib.hid (below_new w (.cells (enC En.zero) 42))
  clear hn
  cases b with
  | false =>
    clear hb
    go_enter Tryd.func18, Tryd.ntmps18
    go_wp2_with fail
    refine (G.out _).mono ?_
    rintro e w1 ⟨rfl, rfl⟩
    clear G
    go_wp2_with (refine wpList_store_row rfl 42 _ _ rfl w.heap.size (enC En.zero) rfl rfl 42 (enC En.zero) HB.out info_ent rfl (ent_one _) ?_)
    exact bodyPost_ret (v := .tuple #[enV En.zero, .int .i64 7]) (results_two Tryd.results18 _ _ w.heap.size (enC En.zero) 7 rfl rfl (setRow_heap _ _ _ _ _ _ HB.out) Tryd.underlying42 info_ent) rfl (HN.out _ (below_setRow HL.out (Nat.le_refl _) _))
  | true =>
    by_cases c1 : n = 0
    · subst c1
      clear hb
      go_enter Tryd.func18, Tryd.ntmps18
      go_wp2_with fail
      refine (G.out _).mono ?_
      rintro e w1 ⟨rfl, rfl⟩
      clear G
      go_wp2_with (refine wpList_store_row rfl 42 _ _ rfl w.heap.size (enC En.zero) rfl rfl 42 (enC En.zero) HB.out info_ent rfl (ent_one _) ?_)
      exact bodyPost_ret (v := .tuple #[enV En.zero, .int .i64 7]) (results_two Tryd.results18 _ _ w.heap.size (enC En.zero) 7 rfl rfl (setRow_heap _ _ _ _ _ _ HB.out) Tryd.underlying42 info_ent) rfl (HN.out _ (below_setRow HL.out (Nat.le_refl _) _))
    have c2 : ((n : Int) == 0) = false := by simp; omega
    by_cases c3 : 1024 < n
    · clear hb
      go_enter Tryd.func18, Tryd.ntmps18
      go_wp2_with fail
      refine (G.out _).mono ?_
      rintro e w1 ⟨rfl, rfl⟩
      clear G
      go_wp2_with (refine wpList_store_row rfl 42 _ _ rfl w.heap.size (enC En.zero) rfl rfl 42 (enC En.zero) HB.out info_ent rfl (ent_one _) ?_)
      exact bodyPost_ret (v := .tuple #[enV En.zero, .int .i64 7]) (results_two Tryd.results18 _ _ w.heap.size (enC En.zero) 7 rfl rfl (setRow_heap _ _ _ _ _ _ HB.out) Tryd.underlying42 info_ent) rfl (HN.out _ (below_setRow HL.out (Nat.le_refl _) _))
    have c4 : 52 < s.size := by
      rcases hb with h | h | h | h
      · cases h
      · exact absurd h c1
      · exact absurd h c3
      · exact h
    clear hb
    go_enter Tryd.func18, Tryd.ntmps18
    go_wp2_with fail
    refine (G.out _).mono ?_
    rintro e w1 ⟨rfl, rfl⟩
    clear G
    go_wp2_with (refine wpList_store_row rfl 42 _ _ rfl w.heap.size (enC En.zero) rfl rfl 42 (enC En.zero) HB.out info_ent rfl (ent_one _) ?_)
    exact bodyPost_ret (v := .tuple #[enV En.zero, .int .i64 7]) (results_two Tryd.results18 _ _ w.heap.size (enC En.zero) 7 rfl rfl (setRow_heap _ _ _ _ _ _ HB.out) Tryd.underlying42 info_ent) rfl (HN.out _ (below_setRow HL.out (Nat.le_refl _) _))

set_option maxRecDepth 100000 in
set_option maxHeartbeats 2000000 in
theorem rdece_good (s : ByteArray) (w : World) (h4 : 4 ≤ s.size) (h52 : s.size ≤ 52) (h1 : 1 ≤ numAt s 0 4) (h2 : numAt s 0 4 ≤ 1024) (hy : okE s = true) : Calls Tryd.prog 18 #[.string s] w (DecQ s w) := by
  have G := Lib.hid (fun W => (show Calls Tryd.prog 31 #[.string s, .int .i64 0, .int .i64 4] W fun e w' => e = .returned (.tuple #[.int .u64 (numAt s 0 4 : Int), .bool true]) ∧ W = w' from get_true (a := 0) (n := 4) W (by omega) (by decide) (by decide) (by omega)))
  have HN := Lib.hid (fun w' b => @DecQ.yes s w w' hy b)
  have HB := Lib.hid (heap_alloc_new w (.cells (enC En.zero) 42))
  have HL := Lib.hid (below_new w (.cells (enC En.zero) 42))
  have hsl := fun W => cut_high s 4 h4 W
  generalize numAt s 0 4 = c at *
  have c2 : ((c : Int) == 0) = false := by simp; omega
  have wc : IntKind.u32.wrap (c : Int) = (c : Int) := by rw [IntKind.wrap_u32]; omega
  have hsl' : ∀ W : World, (Instr.sliceAt 9 (.string s) (some (.int .i64 4)) none none).run Tryd.prog W = .ok (.string (s.extract 4 s.size)) W := hsl
  clear hsl hy
  generalize s.extract 4 s.size = k at *
  go_enter Tryd.func18, Tryd.ntmps18
  go_wp2_with fail
  refine (G.out _).mono ?_
  rintro e w1 ⟨rfl, rfl⟩
  clear G
  go_wp2_with (refine wpList_store_row rfl 42 _ _ rfl w.heap.size (enC ⟨k, c⟩) rfl rfl 42 (enC En.zero) HB.out info_ent rfl (ent_one _) ?_)
  exact bodyPost_ret (v := .tuple #[enV ⟨k, c⟩, .int .i64 0]) (results_two Tryd.results18 _ _ w.heap.size (enC ⟨k, c⟩) 0 rfl rfl (setRow_heap _ _ _ _ _ _ HB.out) Tryd.underlying42 info_ent) rfl (HN.out _ (below_setRow HL.out (Nat.le_refl _) _))

theorem rdece_any (s : ByteArray) (w : World) (hs : s.size ≤ 140737488351232) : Calls Tryd.prog 18 #[.string s] w (DecQ s w) := by
  by_cases h4 : 4 ≤ s.size
  · have G := fun W => (show Calls Tryd.prog 31 #[.string s, .int .i64 0, .int .i64 4] W fun e w' => e = .returned (.tuple #[.int .u64 (numAt s 0 4 : Int), .bool true]) ∧ W = w' from get_true (a := 0) (n := 4) W hs (by decide) (by decide) (by omega))
    have e : okE s = true ↔ s.size ≤ 52 ∧ 1 ≤ numAt s 0 4 ∧ numAt s 0 4 ≤ 1024 := by
      unfold okE mayE
      simp only [Bool.and_eq_true, decide_eq_true_eq, ByteArray.size_extract]
      omega
    by_cases hy : okE s = true
    · obtain ⟨k1, k2, k3⟩ := e.1 hy
      exact rdece_good s w h4 k1 k2 k3 hy
    · exact rdece_bad s w hs _ true (Lib.hid G) (.inr (by rw [e] at hy; omega)) hy
  · exact rdece_bad s w hs 0 false (Lib.hid fun W => get_false (a := 0) (n := 4) W hs (by decide) (by decide) (by omega)) (.inl rfl) (by unfold okE; rw [decide_eq_false h4, Bool.false_and]; decide)

end Go.Proofs.YtobnenjhmkbdoaaDoor.Row
