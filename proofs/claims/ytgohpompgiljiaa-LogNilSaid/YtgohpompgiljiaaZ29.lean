/-
  Walks: Write.
-/
import Derived.StillTailTactics
import Derived.Test.YtgohpompgiljiaaZ28
namespace Go.Proofs.Ytgohpompgiljiaa.Disk
open Go.RowKit
attribute [local go_sem ↓] Go.wp_at_zero Go.wp_at_succ

set_option maxRecDepth 100000 in
theorem write_nil (w : World) (k : Int) (s : ByteArray) : Calls Try.prog 55 #[.pointer none, .int .i64 k, .string s] w fun e w' => e = .returned (.int .i64 1) ∧ w = w' := by
  have m := goes_nil w
  go_enter Try.func55, Try.ntmps55
  go_wp2_with (go_at_call 48; refine m.mono ?_; rintro e w' ⟨rfl, rfl⟩)
  go_ret
  exact ⟨rfl, rfl⟩
set_option maxRecDepth 100000 in
theorem write_down {w : World} {p : Nat} {d : D} {F : Nat → Prop} (h : Rep w p d F) (hf : d.fuse = 0) (k : Int) (s : ByteArray) : Calls Try.prog 55 #[.pointer (some ⟨p, 0, none⟩), .int .i64 k, .string s] w fun e w' => e = .returned (.int .i64 40) ∧ w = w' := by
  have m := goes_down h hf
  go_enter Try.func55, Try.ntmps55
  go_wp2_with (go_at_call 48; refine m.mono ?_; rintro e w' ⟨rfl, rfl⟩)
  go_ret
  exact ⟨rfl, rfl⟩
set_option maxRecDepth 100000 in
theorem write_arg {w : World} {p : Nat} {d : D} {F : Nat → Prop} (h : Rep w p d F) (hf : d.fuse ≠ 0) (k : Int) (s : ByteArray) (hk : hasB d.sure.length k = false ∨ s.size ≠ 128) : Calls Try.prog 55 #[.pointer (some ⟨p, 0, none⟩), .int .i64 k, .string s] w fun e w' => e = .returned (.int .i64 2) ∧ w = w' := by
  have m := goes_on h hf
  have m2 := has_any h k
  cases hb : hasB d.sure.length k with
  | false =>
    rw [hb] at m2
    clear h hf hk hb
    go_enter Try.func55, Try.ntmps55
    go_wp2_with (first | (go_at_call 48; refine m.mono ?_; rintro e w' ⟨rfl, rfl⟩) | (go_at_call 49; refine m2.mono ?_; rintro e w' ⟨rfl, rfl⟩))
    go_ret
    exact ⟨rfl, rfl⟩
  | true =>
    rw [hb] at m2
    have e1 : ((s.size : Int) != 128) = true := by
      rcases hk with hk | hk
      · rw [hb] at hk; cases hk
      · simp; omega
    clear h hf hk hb
    go_enter Try.func55, Try.ntmps55
    go_wp2_with (first | (go_at_call 48; refine m.mono ?_; rintro e w' ⟨rfl, rfl⟩) | (go_at_call 49; refine m2.mono ?_; rintro e w' ⟨rfl, rfl⟩))
    go_ret
    exact ⟨rfl, rfl⟩

set_option maxRecDepth 100000 in
theorem step_build {ops : Array Oper} {o : Oper} {a : Act} {w : World} {K : Act → World → Prop} {Q : Exit → Act → World → Prop} {E : Prop} (hgd : o.guard = none) (x : Operand) (ho : o.op = .buildSlice 81 1 #[(0, x)])
    (cs : List Value) (hx : a.eval x = .agg cs.toArray) (hl : cs.length = 129) (h : K (a.put o.dst (.slice (some ⟨w.heap.size, 0, none⟩) 1 1)) (w.alloc (.cells cs.toArray 94))) :
    if Region.wanted o (yielded ops a.tmps) = true then Oper.wp Try.prog o a w K Q else E := by
  have hw : Region.wanted o (yielded ops a.tmps) = true := by simp [Region.wanted, hgd]
  rw [if_pos hw]
  have e : (#[(0, x)] : Array (Nat × Operand)).map (fun (i, x) => (i, a.eval x)) = #[(0, .agg cs.toArray)] := by simp [hx]
  unfold Oper.wp execOp
  simp only [ho, Sem.run_bind]
  have := build_one w cs hl
  simp only [e, this, Result.andThen_ok]
  exact h
set_option maxRecDepth 100000 in
theorem step_load_mid {ops : Array Oper} {o : Oper} {a : Act} {w : World} {K : Act → World → Prop} {Q : Exit → Act → World → Prop} {E : Prop} (hgd : o.guard = none) (ty : TypeId) (x : Operand) (ho : o.op = .load ty x)
    (b off : Nat) (hx : a.eval x = .pointer (some ⟨b, off, none⟩)) (cs : List Value) (d : TypeDesc) (hc : w.rangeAt b off cs)
    (hu : Try.prog.underlying ty = some d) (hd : d.isRow = true) (hi : (Try.prog.info? ty).map (·.size) = some cs.length) (h : K (a.put o.dst (.agg cs.toArray)) w) :
    if Region.wanted o (yielded ops a.tmps) = true then Oper.wp Try.prog o a w K Q else E := by
  have hw : Region.wanted o (yielded ops a.tmps) = true := by simp [Region.wanted, hgd]
  rw [if_pos hw]
  exact wp_load_mid ty x ho b off hx cs d hc hu hd hi h

set_option maxRecDepth 100000 in
set_option maxHeartbeats 4000000 in
theorem write_any {w : World} {p : Nat} {d : D} {F : Nat → Prop} (h : Rep w p d F) (hf : d.fuse ≠ 0) {k : Nat} (hk : k < d.sure.length) (s : ByteArray) (hs : s.size = 128) (hl : d.loose.length ≤ 1000000000) :
    Calls Try.prog 55 #[.pointer (some ⟨p, 0, none⟩), .int .i64 k, .string s] w fun e w' => e = .returned (.int .i64 0) ∧ (Rep w' p (d.write k s.data.toList) (grew F w w') ∧ Touch F w w') := by
  have m := goes_on h hf
  have m2 := has_any h k
  have e0 : hasB d.sure.length k = true := decide_eq_true (by omega)
  rw [e0] at m2
  have e1 : ((s.size : Int) != 128) = false := by simp; omega
  have kmost := h.ok.most
  have hbd := built_write k
  have zv : ∀ W, (zeroValue 94).run Try.prog W = .ok (.agg (blankW 0).toArray) W := fun W => by kernel_rfl
  have sl := fun W o => slice_all W w.heap.size o
  have h129 := blankW_len k
  have h129' := blankW_len 0
  have hone := all_oneCell_toArray (blankW_one k)
  have h1 : (w.alloc (.cells (blankW 0).toArray 94 (0, 0))).there w.heap.size 0 (blankW k).toArray.size := by
    intro j hj
    rw [List.size_toArray, h129] at hj
    rw [Nat.zero_add, World.cell?_alloc_new, World.frozen?_alloc_new]
    refine ⟨?_, rfl⟩
    simp [h129', hj]
  have hi : (Try.prog.info? 94).map (·.size) = some (blankW k).toArray.size := by rw [sizeW, List.size_toArray, h129]
  have a1 := alloc_setCells w (blankW 0).toArray 94 0 (blankW k) (by simp [h129, h129'])
  have a1' : (w.alloc (.cells (blankW 0).toArray 94)).setCells w.heap.size 0 (blankW k).toArray.toList = w.alloc (.cells (blankW k).toArray 94) := by
    rw [List.toList_toArray, a1, List.toList_toArray, List.drop_of_length_le (by rw [h129', h129]; omega), List.take_zero, List.nil_append, List.append_nil]
  have hlen : (Lib.byteCells s.data.toList).length = 128 := by rw [byteCells_len]; exact hs
  have a2 := alloc_setCells w (blankW k).toArray 94 1 (Lib.byteCells s.data.toList) (by simp [h129, hlen])
  have a2' : (w.alloc (.cells (blankW k).toArray 94)).setCells w.heap.size 1 (Lib.byteCells s.data.toList) = w.alloc (.cells (cellsW (k, s.data.toList)).toArray 94) := by
    rw [a2]
    congr 3
    rw [List.toList_toArray, hlen, List.drop_of_length_le (by rw [h129]; omega), List.append_nil]
    rfl
  have h2 : (w.alloc (.cells (blankW k).toArray 94 (0, 0))).there w.heap.size 1 128 := by
    intro j hj
    rw [World.cell?_alloc_new, World.frozen?_alloc_new]
    refine ⟨?_, rfl⟩
    simp [h129]; omega
  clear a1 a2 h129 h129' hlen
  generalize blankW 0 = z at *
  generalize blankW k = zk at *
  obtain ⟨W, hW⟩ : ∃ W, W = w.alloc (.cells (cellsW (k, s.data.toList)).toArray 94) := ⟨_, rfl⟩
  rw [← hW] at a2'
  have bW : Below w.heap.size w W := by rw [hW]; exact (Below.refl _ _).alloc (Nat.le_refl _) _
  have hwW : W.heap[w.heap.size]? = some (.cells (cellsW (k, s.data.toList)).toArray 94 (0, 0)) := by rw [hW]; exact heap_alloc_new _ _
  have hr := h.later bW
  obtain ⟨gs, sc, lv, mv, L, f1, f2, f3, f4⟩ := hr.lay
  have c2 := L.cell2
  have A1 := Lib.hid a1'
  have A2 := Lib.hid a2'
  have HR := Lib.hid hr
  have HW := Lib.hid hwW
  have BW := Lib.hid bW
  have hmv : mv = .map none ∨ ∃ b, mv = .map (some b) := by
    rcases L.newest with ⟨h1, _⟩ | ⟨b, _, h1, _⟩
    · exact .inl h1
    · exact .inr ⟨b, h1⟩
  have hpW := hr.below p f1
  have hpw := h.below p f1
  have bb := Lib.hid (show ∀ b, F b → b < w.heap.size from h.below)
  have hok := Lib.hid h.ok
  have hwlt : w.heap.size < W.heap.size := (Array.getElem?_eq_some_iff.1 hwW).1
  rcases hmv with rfl | ⟨b, rfl⟩
  have q1 := fun w => run_eql_map_nil (P := Try.prog) w 82 _ _ none Try.underlying82
  have hmm := @run_makeMap Try.prog
  have k1 : (W.alloc (.map #[] 0)).cell? ⟨p, 2, none⟩ = some (.map none) := by rw [World.cell?_alloc_lt _ _ _ hpW]; exact c2
  have k2 : (W.alloc (.map #[] 0)).frozen? ⟨p, 2, none⟩ = false := by rw [World.frozen?_of_block (Below.heap_alloc W _ p hpW)]; exact L.free 2
  have LV0 := rep_map L
  have EV := Lib.hid (alloc_then_set W (.map #[] 0) ⟨p, 2, none⟩ (.map (some W.heap.size)) hpW)
  have hw0 : ((W.alloc (.map #[] 0)).setCell ⟨p, 2, none⟩ (.map (some W.heap.size))).heap[w.heap.size]? = some (.cells (cellsW (k, s.data.toList)).toArray 94 (0, 0)) := by
    rw [heap_setCell_other _ _ _ _ (by show w.heap.size ≠ p; omega), Below.heap_alloc W _ _ hwlt]; exact hwW
  have T0 : Touch F w ((W.alloc (.map #[] 0)).setCell ⟨p, 2, none⟩ (.map (some W.heap.size))) := ((Touch.ofNew bW).alloc _).setCell (x := ⟨p, 2, none⟩) f1 _
  have B0 : F W.heap.size ∨ w.heap.size ≤ W.heap.size := .inr (by omega)
  have LL := Lib.hid LV0
  have HW2 := Lib.hid hw0
  have TT := Lib.hid T0
  have BB := Lib.hid B0
  clear a1' a2' hW hr hwW bW L e0 hf LV0 hw0 T0 B0 f4 HR HW BW h
  go_enter Try.func55, Try.ntmps55
  go_wp2_with (first | (go_at_call 48; refine m.mono ?_; rintro e w' ⟨rfl, rfl⟩) | (go_at_call 49; refine m2.mono ?_; rintro e w' ⟨rfl, rfl⟩) | ((with_reducible refine wpList_buildTo rfl 94 #[(0, .tmp 23)] rfl (some 24) rfl zk.toArray ?hbuilt ?_); (case hbuilt => (rw [Array.toList_map]; exact hbd))) | (with_reducible refine wpList_store_mid rfl 94 (.tmp 8) (.tmp 24) rfl w.heap.size 0 zk.toArray rfl rfl h1 hi hone ?_; rw [A1.out]) | (with_reducible refine wpList_copy_str rfl (.tmp 26) (.tmp 27) rfl w.heap.size 1 s rfl rfl hs h2 ?_; rw [A2.out]))
  clear k1 k2 c2 hmm q1 hpW hwlt A1 A2 h1 h2 hbd zv sl m m2 hi hone e1
  rw [EV.out]
  generalize (W.alloc (.map #[] 0)).setCell ⟨p, 2, none⟩ (.map (some W.heap.size)) = V at *
  generalize W.heap.size = b at *
  rotate_left
  have q1 := fun w => run_eql_map_nil (P := Try.prog) w 82 _ _ (some b) Try.underlying82
  have T0 : Touch F w W := Touch.ofNew bW
  have B0 : F b ∨ w.heap.size ≤ b := .inl (f4 b rfl)
  have LL := Lib.hid L
  have HW2 := Lib.hid hwW
  have TT := Lib.hid T0
  have BB := Lib.hid B0
  clear a1' a2' hW hr hwW bW L e0 hf T0 B0 f4 HR HW BW h
  go_enter Try.func55, Try.ntmps55
  go_wp2_with (first | (go_at_call 48; refine m.mono ?_; rintro e w' ⟨rfl, rfl⟩) | (go_at_call 49; refine m2.mono ?_; rintro e w' ⟨rfl, rfl⟩) | ((with_reducible refine wpList_buildTo rfl 94 #[(0, .tmp 23)] rfl (some 24) rfl zk.toArray ?hbuilt ?_); (case hbuilt => (rw [Array.toList_map]; exact hbd))) | (with_reducible refine wpList_store_mid rfl 94 (.tmp 8) (.tmp 24) rfl w.heap.size 0 zk.toArray rfl rfl h1 hi hone ?_; rw [A1.out]) | (with_reducible refine wpList_copy_str rfl (.tmp 26) (.tmp 27) rfl w.heap.size 1 s rfl rfl hs h2 ?_; rw [A2.out]))
  clear c2 q1 hpW hwlt A1 A2 h1 h2 hbd zv sl m m2 hi hone e1
  obtain ⟨V, hV⟩ : ∃ V, V = W := ⟨_, rfl⟩
  subst hV
  all_goals
    have c1 := LL.out.cell1
    have c2 := LL.out.cell2
    obtain ⟨la, cap, hlv⟩ := LL.out.loose_form
    obtain ⟨D, hown, hD⟩ : ∃ D : DataW Unit, V.ownsMap Try.prog 3 (plainElem Try.prog 3) b d.loose.length D ∧ ∀ k : Nat, Maps.has D (.int .i64 k) = (newest d.loose k).isSome ∧ ∀ i, newest d.loose k = some i → D.atKey (.int .i64 k) (.lit (.int .i64 0)) = .lit (.int .i64 i) := by
      rcases LL.out.newest with ⟨h1, _⟩ | ⟨b', D, h1, h2, h3⟩
      · cases h1
      · simp at h1; subst h1; exact ⟨D, h2, h3⟩
    have HD := Lib.hid hD
    have HO := Lib.hid hown
    clear hD hown
    subst hlv
    go_still_tail 10, (by kernel_rfl)
    change wpList _ _ _ _ _ V.drew
    refine wpList_mapUpdate_own V.drew rfl _ _ _ 82 rfl 3 3 (Maps.int_keyed Try.underlying3) Try.underlying82 (plainElem Try.prog 3) b _ _ rfl HO.out.drew (by unfold maxLen; omega) _ _ _ rfl rfl (Maps.keyOf_int_mk Try.underlying3 (wf_nat (by omega))) _ _ (plainElem_int Try.underlying3 (wf_nat (by omega))) ?_
    intro W3 hown3 hg3
    go_wp2_with fail
    have hpV : p < V.heap.size := Nat.lt_of_lt_of_le hpw TT.out.size
    have c13 : W3.cell? ⟨p, 1, none⟩ = some (.slice la d.loose.length cap) := hg3.cell c1 (by simp; exact fun e => (LL.out.ne2 rfl).1 e.symm)
    have lt1 : p < W3.heap.size := World.block_lt_of_cell? _ _ c13
    have hb1 : w.heap.size ≠ b := by
      rintro rfl
      obtain ⟨es, clock, hb, _⟩ := HO.out
      have := hb.symm.trans HW2.out
      simp at this
    have hw3 : W3.heap[w.heap.size]? = some (.cells (cellsW (k, s.data.toList)).toArray 94 (0, 0)) := by
      have := HW2.out
      rw [hg3.block w.heap.size (Array.getElem?_eq_some_iff.1 this).1 (by simp; exact hb1)]
      exact this
    have hfr : W3.frozen? ⟨p, 1, none⟩ = false := by
      rw [World.frozen?_of_block (w := V.drew) (hg3.block p hpV (by simp; exact fun e => (LL.out.ne2 rfl).1 e.symm))]
      exact LL.out.free 1
    have hcl : (cellsW (k, s.data.toList)).length = 129 := cellsW_len (by show s.data.toList.length = 128; exact hs)
    have hr3 : W3.drew.rangeAt w.heap.size 0 (cellsW (k, s.data.toList)) := by
      intro j v hv
      rw [World.cell?_drew, cell_of_row _ _ _ _ _ _ hw3, Nat.zero_add]
      simpa using hv
    have hu := Try.underlying94
    have hi2 : (Try.prog.info? 94).map (·.size) = some (cellsW (k, s.data.toList)).length := by rw [sizeW, hcl]
    have hg3' : V.grownBy W3 (some b) := ⟨hg3.os, hg3.tape, hg3.output, hg3.size, hg3.block⟩
    have ho3 : W3.drew.ownsRow 0 94 129 (.slice la d.loose.length cap) d.loose.length (flatW d.loose) := ownsRow_far (w := W3) (LL.out.loose.kept (w := V) (row := some b) hg3' (by
      cases la with
      | none => exact .inl rfl
      | some x => exact .inr (by simpa using (LL.out.ne2 rfl).2.2))) (fun _ _ => rfl)
    have HO3 := Lib.hid hown3
    have HG3 := Lib.hid hg3'
    have HR3 := Lib.hid ho3
    obtain ⟨cs, hcs⟩ : ∃ cs, cs = cellsW (k, s.data.toList) := ⟨_, rfl⟩
    rw [← hcs] at hi2 hr3 hcl
    have hone2 : ∀ v ∈ cs, v.oneCell' = true := by rw [hcs]; exact cellsW_one _
    obtain ⟨i0, hi0, hz0, hz1, hz2⟩ := info_parts infoW
    have HCS := Lib.hid hcs
    have Hone := Lib.hid hone2
    have I0 := Lib.hid (show Try.prog.info? 94 = some i0 ∧ _ ∧ i0.size = 129 ∧ i0.bytes = 136 from ⟨hi0, hz0, hz1, hz2⟩)
    have HCL := Lib.hid hcl
    have c13' : W3.drew.cell? ⟨p, 1, none⟩ = some (.slice la d.loose.length cap) := c13
    have c14 : (W3.drew.alloc (.cells cs.toArray 94)).cell? ⟨p, 1, none⟩ = some (.slice la d.loose.length cap) := by
      rw [World.cell?_alloc_lt _ _ _ (by exact lt1)]; exact c13
    clear hown3 hg3 hg3' hw3 c1 c2 ho3 hcs hone2 hz0 hi0 hz1 hz2 hcl
    refine wp_region_any (by kernel_rfl) ?_
    change wpAny _ _ _ _ _ _ _ (World.drew _)
    refine wpAny_take (i := 0) (v := .pointer (some ⟨p, 0, none⟩)) rfl (by kernel_rfl) (by kernel_rfl) (by kernel_rfl) (fun _ _ _ h => h) (Or.inl ⟨by rfl, by intro w; go_simp⟩) ?_
    refine wpAny_take (i := 1) (v := .pointer (some ⟨p, 0, none⟩)) rfl (by kernel_rfl) (by kernel_rfl) (by kernel_rfl) (fun _ _ _ h => h) (Or.inl ⟨by rfl, by intro w; go_simp⟩) ?_
    refine wpAny_take (i := 2) (v := .pointer (some ⟨p, 0, none⟩)) rfl (by kernel_rfl) (by kernel_rfl) (by kernel_rfl) (fun _ _ _ h => h) (Or.inl ⟨by rfl, by intro w; go_simp⟩) ?_
    refine wpAny_take (i := 3) (v := .pointer (some ⟨p, 1, none⟩)) rfl (by kernel_rfl) (by kernel_rfl) (by kernel_rfl) (fun _ _ _ h => h) (Or.inl ⟨by rfl, by intro w; go_simp⟩) ?_
    refine wpAny_ready (rs := [4, 5]) (by kernel_rfl) (by simp) (AllReady.cons rfl (fun K hK => ?_) (AllReady.cons rfl (fun K hK => ?_) AllReady.nil))
    go_simp
    refine hK _ _ ?_
    clear hK K
    refine wpAny_ready (rs := [5]) (by kernel_rfl) (by simp) (AllReady.cons rfl (fun K hK => ?_) AllReady.nil)
    refine step_load_mid (by rfl) 94 _ (by rfl) w.heap.size 0 (by rfl) cs _ hr3 hu rfl hi2 ?_
    refine hK _ _ ?_
    clear hK K
    refine wpAny_ready (rs := [6]) (by kernel_rfl) (by simp) (AllReady.cons rfl (fun K hK => ?_) AllReady.nil)
    refine step_build (by rfl) _ (by rfl) cs (by rfl) HCL.out ?_
    refine hK _ _ ?_
    clear hK K
    rotate_left
    refine step_load_mid (by rfl) 94 _ (by rfl) w.heap.size 0 (by rfl) cs _ hr3 hu rfl hi2 ?_
    refine hK _ _ ?_
    clear hK K
    refine wpAny_ready (rs := [4, 6]) (by kernel_rfl) (by simp) (AllReady.cons rfl (fun K hK => ?_) (AllReady.cons rfl (fun K hK => ?_) AllReady.nil))
    go_simp
    refine hK _ _ ?_
    clear hK K
    refine wpAny_ready (rs := [6]) (by kernel_rfl) (by simp) (AllReady.cons rfl (fun K hK => ?_) AllReady.nil)
    refine step_build (by rfl) _ (by rfl) cs (by rfl) HCL.out ?_
    refine hK _ _ ?_
    clear hK K
    rotate_left
    refine step_build (by rfl) _ (by rfl) cs (by rfl) HCL.out ?_
    refine hK _ _ ?_
    clear hK K
    refine wpAny_ready (rs := [4]) (by kernel_rfl) (by simp) (AllReady.cons rfl (fun K hK => ?_) AllReady.nil)
    go_simp
    refine hK _ _ ?_
    clear hK K
    all_goals
      clear hr3 hu hi2 c13 c13'
      refine wpAny_ready (rs := [7]) (by kernel_rfl) (by simp) (AllReady.cons rfl (fun K hK => ?_) AllReady.nil)
      refine step_append_lies _ (by rfl) _ _ _ (by rfl) 0 94 i0 _ 129 136 Try.underlying81 I0.out.1 I0.out.2.1 I0.out.2.2.1 I0.out.2.2.2 (by simp [Value.cells]) (by omega) (.slice la d.loose.length cap) d.loose.length (flatW d.loose) (by rfl) (HR3.out.alloc _) ⟨W3.drew.heap.size, 0, none⟩ 1 1 cs (by rfl) (by rw [HCL.out]) (World.news_of_block (cs := cs.toArray) (t := 94) (fr := (0, 0)) (heap_alloc_new _ _)) Hone.out (by omega) (by unfold maxLen; omega) (by omega) (by omega) _ rfl ?_
      intro g cap' w1 hown1 hgrow hat hlt
      refine hK _ _ ?_
      clear hK K
      have npl : some p ≠ (Value.slice la d.loose.length cap).ownBlock := fun e => (LL.out.ne1 e.symm).1 rfl
      have kx : w1.cell? ⟨p, 1, none⟩ = some (.slice la d.loose.length cap) := hgrow.cell c14 npl
      have ky : w1.frozen? ⟨p, 1, none⟩ = false := by
        rw [hgrow.frozen_far ⟨p, 1, none⟩ (by show p < (W3.drew.alloc _).heap.size; simp; omega) npl, World.frozen?_of_block (Below.heap_alloc W3.drew _ p (by exact lt1))]
        exact hfr
      have PE := Lib.hid (push_end (x := (k, s.data.toList)) LL.out hok.out hk hs HO3.out (HO.out.isMap) HD.out HG3.out _ hgrow (by rw [← HCS.out]; exact hown1) hat hlt TT.out bb.out f1 f2 f3 BB.out)
      clear hown1 hgrow hat hlt c14 npl hfr lt1
      refine wpAny_ready (rs := [8]) (by kernel_rfl) (by simp) (AllReady.cons rfl (fun K hK => ?_) AllReady.nil)
      go_simp
      refine hK _ _ ?_
      clear hK K
      refine wpAny_ready (rs := [9]) (by kernel_rfl) (by simp) (AllReady.cons rfl (fun K hK => ?_) AllReady.nil)
      go_simp
      refine hK _ _ ?_
      clear hK K
      refine wpAny_ready (rs := [10]) (by kernel_rfl) (by simp) (AllReady.cons rfl (fun K hK => ?_) AllReady.nil)
      go_simp
      refine hK _ _ ?_
      clear hK K
      refine wpAny_done (by kernel_rfl) ?_ _
      have BN := Lib.hid (burn_any PE.out.1)
      clear kx ky
      go_wp2_with fail
      refine BN.out.mono ?_
      rintro e w3 ⟨rfl, h3, t3⟩
      have HE := Lib.hid (Rep.burnt_end h3 PE.out.2 t3)
      clear h3 t3 BN PE
      go_wp2_with fail
      go_ret
      exact ⟨rfl, HE.out⟩

end Go.Proofs.Ytgohpompgiljiaa.Disk
