/-
  Walks: what ops do, by kinds: the map.
  Walks: slices, one behind the other: slices.Grow, slices.Concat.
  Walks: rows of a page go, others come.
-/
import Derived.Maps.OwnSet
import Derived.Lib.AppendZerosOnto
import Derived.Test.YtfcibccipkokoaaZ11
import Derived.Test.YtfcibccipkokoaaZ3
namespace Go.Proofs.Ytfcibccipkokoaa.Op
open Go.RowKit
attribute [local go_sem ↓] Go.wp_at_zero Go.wp_at_succ

theorem run_ins {w : World} {b cl : Nat} {es : Array MapEntry} (h : w.heap[b]? = some (.map es cl)) (k : Int) (val : Value) (hk : (Lit.int .u8 k).wf = true) (hf : Instr.findNow (.int .u8) (.int .u8 k) es.toList 0 = some none) :
    (Instr.mapUpdate 130 (.map (some b)) (.int .u8 k) val).run Try.prog w = .ok () (ChangeMaps.setBlock w b (.map (es.push ⟨.int .u8 k, val, cl⟩) (cl + 1))) := by
  have hu := run_underlying Try.underlying130 (w := w)
  have hu5 := run_underlying Try.underlying5 (w := w)
  have hc := fun c => (Maps.int_keyed Try.underlying5).check w c (Go.Maps.keyOf_int_mk Try.underlying5 hk)
  simp [Instr.mapUpdate, hu, MapKept.run_getObj_map h, hc, Instr.findKey, hu5, hf, MapKept.run_setObj_map _ h, Result.andThen, ChangeMaps.setBlock]
theorem run_look {w : World} {b cl : Nat} {es : Array MapEntry} (h : w.heap[b]? = some (.map es cl)) (k : Int) (j : Nat) (val : Value) (hk : (Lit.int .u8 k).wf = true) (hf : Instr.findNow (.int .u8) (.int .u8 k) es.toList 0 = some (some (j, val))) :
    (Instr.lookup 130 (.map (some b)) (.int .u8 k) false).run Try.prog w = .ok val w := by
  have hu := run_underlying Try.underlying130 (w := w)
  have hu5 := run_underlying Try.underlying5 (w := w)
  have hc := fun c => (Maps.int_keyed Try.underlying5).check w c (Go.Maps.keyOf_int_mk Try.underlying5 hk)
  simp [Instr.lookup, hu, MapKept.run_getObj_map h, hc, Instr.findKey, hu5, hf, Result.andThen]
def fv (f : Nat) : Value := .func (.func f) #[] #[]
/-- the function of each kind -/
def deedF (k : Nat) : Nat :=
  if k = 1 then 104 else if k = 2 then 105 else if k = 3 then 106 else if k = 4 then 107 else if k = 5 then 108 else if k = 6 then 109 else if k = 7 then 110 else 111
def deedE : Array MapEntry := #[⟨.int .u8 1, fv 104, 0⟩, ⟨.int .u8 2, fv 105, 1⟩, ⟨.int .u8 3, fv 106, 2⟩, ⟨.int .u8 4, fv 107, 3⟩, ⟨.int .u8 5, fv 108, 4⟩, ⟨.int .u8 6, fv 109, 5⟩, ⟨.int .u8 7, fv 110, 6⟩, ⟨.int .u8 8, fv 111, 7⟩]
structure Dds (w : World) (b : Nat) : Prop where
  map : w.heap[b]? = some (.map deedE 8)
theorem Dds.look {w : World} {b k : Nat} (h : Dds w b) (h1 : 1 ≤ k) (h8 : k ≤ 8) : (Instr.lookup 130 (.map (some b)) (.int .u8 (k : Int)) false).run Try.prog w = .ok (fv (deedF k)) w := by
  rcases (show k = 1 ∨ k = 2 ∨ k = 3 ∨ k = 4 ∨ k = 5 ∨ k = 6 ∨ k = 7 ∨ k = 8 by omega) with rfl | rfl | rfl | rfl | rfl | rfl | rfl | rfl
  · exact run_look h.map _ 0 _ (by decide) (by rfl)
  · exact run_look h.map _ 1 _ (by decide) (by rfl)
  · exact run_look h.map _ 2 _ (by decide) (by rfl)
  · exact run_look h.map _ 3 _ (by decide) (by rfl)
  · exact run_look h.map _ 4 _ (by decide) (by rfl)
  · exact run_look h.map _ 5 _ (by decide) (by rfl)
  · exact run_look h.map _ 6 _ (by decide) (by rfl)
  · exact run_look h.map _ 7 _ (by decide) (by rfl)
theorem below_setBlock {W0 w : World} {b : Nat} {o : Obj} (h : Below W0.heap.size W0 w) (hb : W0.heap.size ≤ b) : Below W0.heap.size W0 (ChangeMaps.setBlock w b o) :=
  ⟨h.os, h.tape, h.output, by simpa [ChangeMaps.setBlock] using h.size, fun x hx => by
    have : (ChangeMaps.setBlock w b o).heap[x]? = w.heap[x]? := by
      simp only [ChangeMaps.setBlock]
      rw [Array.getElem?_setIfInBounds_ne (by omega)]
    rw [this]
    exact h.block x hx⟩

theorem ins_step {w0 w : World} {b cl : Nat} {es : Array MapEntry} (h : w.heap[b]? = some (.map es cl)) (B : Below w0.heap.size w0 w) (hb : w0.heap.size ≤ b) (k : Int) (val : Value) (hk : (Lit.int .u8 k).wf = true) (hf : Instr.findNow (.int .u8) (.int .u8 k) es.toList 0 = some none) :
    ∃ W, (Instr.mapUpdate 130 (.map (some b)) (.int .u8 k) val).run Try.prog w = .ok () W ∧ W.heap[b]? = some (.map (es.push ⟨.int .u8 k, val, cl⟩) (cl + 1)) ∧ Below w0.heap.size w0 W :=
  ⟨_, run_ins h k val hk hf, ChangeMaps.heap_setBlock_same h _, below_setBlock B hb⟩
set_option maxRecDepth 100000 in
set_option maxHeartbeats 1000000 in
theorem deeds_any (w : World) : Calls Try.prog 76 #[] w fun e w' => ∃ b, e = .returned (.map (some b)) ∧ Dds w' b ∧ Below w.heap.size w w' := by
  have hmm := @run_makeMap Try.prog
  have n0 : (w.alloc (.map #[] 0)).heap[w.heap.size]? = some (.map #[] 0) := heap_alloc_new w _
  have b0 := below_new w (.map #[] 0)
  obtain ⟨W1, i1, n1, b1⟩ := ins_step n0 b0 (Nat.le_refl _) 1 (fv 104) (by decide) rfl
  obtain ⟨W2, i2, n2, b2⟩ := ins_step n1 b1 (Nat.le_refl _) 2 (fv 105) (by decide) rfl
  obtain ⟨W3, i3, n3, b3⟩ := ins_step n2 b2 (Nat.le_refl _) 3 (fv 106) (by decide) rfl
  obtain ⟨W4, i4, n4, b4⟩ := ins_step n3 b3 (Nat.le_refl _) 4 (fv 107) (by decide) rfl
  obtain ⟨W5, i5, n5, b5⟩ := ins_step n4 b4 (Nat.le_refl _) 5 (fv 108) (by decide) rfl
  obtain ⟨W6, i6, n6, b6⟩ := ins_step n5 b5 (Nat.le_refl _) 6 (fv 109) (by decide) rfl
  obtain ⟨W7, i7, n7, b7⟩ := ins_step n6 b6 (Nat.le_refl _) 7 (fv 110) (by decide) rfl
  obtain ⟨W8, i8, n8, b8⟩ := ins_step n7 b7 (Nat.le_refl _) 8 (fv 111) (by decide) rfl
  have N8 := Lib.hid (show Dds W8 w.heap.size from ⟨n8⟩)
  have B8 := Lib.hid b8
  clear n0 n1 n2 n3 n4 n5 n6 n7 n8 b0 b1 b2 b3 b4 b5 b6 b7 b8
  unfold fv at *
  go_enter Try.func76, Try.ntmps76
  go_wp2_with fail
  go_ret
  exact ⟨_, rfl, N8.out, B8.out⟩

end Go.Proofs.Ytfcibccipkokoaa.Op

namespace Go.Proofs.Ytfcibccipkokoaa.Page
open Go.RowKit Slot
attribute [local go_sem ↓] Go.wp_at_zero Go.wp_at_succ

theorem below_new' (w : World) (o : Obj) : Below w.heap.size w (w.alloc o) := (Below.refl _ _).alloc (Nat.le_refl _) o

set_option maxRecDepth 100000 in
set_option maxHeartbeats 2000000 in
theorem grow_any (n : Nat) (w : World) (hn : n ≤ 1000000) :
    Calls Try.prog 141 #[.slice none 0 0, .int .i64 (n : Int)] w fun e w' => ∃ v, e = .returned v ∧ Tx w w' v [] ∧ Below w.heap.size w w' := by
  by_cases h0 : n = 0
  · subst h0
    have T := Lib.hid (Tx.nil w (Nat.le_refl w.heap.size))
    go_enter Try.func141, Try.ntmps141
    go_wp2_with fail
    go_ret
    exact ⟨_, rfl, T.out, Below.refl _ _⟩
  · obtain ⟨i0, hi, hz0, hz1, hz2⟩ := info_parts Word.infoS
    have hold : (Builtin.firstCells i0.size 0 (.slice none 0 0)).run Try.prog w.drew = .ok ([] : List Value).toArray w.drew := run_firstCells_none w.drew i0.size 0 0 0
    have hrz : ∀ ty, (Builtin.append_ #[34, 3] ty #[.slice none 0 0, .int .i64 (n : Int)]).run Try.prog w = _ := fun ty =>
      Lib.run_append_grow_zeros w 34 3 ty 9 i0 (.string ⟨#[]⟩) .i64 .i64 Try.underlying34 Try.underlying3 hi hz0 none 0 0 [] hold n (by omega) (by omega) (by omega) (by omega)
        (by rw [hz2]; omega) (growslice_fits (by omega) (by rw [hz2]; omega))
    rw [Nat.zero_add] at hrz
    have hge := grownCap_ge w n 0 9
    have hle := grownCap_le_maxLen w n 0 9 (by unfold maxLen; omega)
    obtain ⟨G, hG⟩ : ∃ G, G = grownCap w n 0 9 := ⟨_, rfl⟩
    rw [← hG] at hrz hge hle
    obtain ⟨cur, hcur⟩ : ∃ cur : Array Value, cur = ([] : List Value).toArray ++ Builtin.zeroCells (Value.string ⟨#[]⟩).cells n ++ Builtin.zeroCells (Value.string ⟨#[]⟩).cells (G - n) := ⟨_, rfl⟩
    have hsz : cur.size = G * 1 := by
      rw [hcur]
      simp only [Array.size_append, size_zeroCells, List.size_toArray, List.length_nil, Value.cells, List.size_toArray, List.length_cons]
      omega
    rw [← hcur] at hrz
    have T := Lib.hid (show Tx w (w.drew.alloc (.cells cur 9)) (.slice (some ⟨w.heap.size, 0, none⟩) 0 G) [] from
      ⟨⟨rfl, .inr ⟨w.heap.size, G, cur, rfl, Nat.le_refl _, heap_alloc_new w.drew _, Nat.zero_le _, hle, hsz, rfl⟩⟩, by rw [show (w.drew.alloc (.cells cur 9)).heap.size = w.heap.size + 1 from by simp]; omega⟩)
    have B := Lib.hid (show Below w.heap.size w (w.drew.alloc (.cells cur 9)) from ((Below.refl _ _).drew).alloc (Nat.le_refl _) _)
    have hG63 : G ≤ 9223372036854775807 := by unfold maxLen at hle; omega
    have HRZ := Lib.hid hrz
    clear hold hcur hsz hG hi hz0 hz1 hz2 hrz hle
    go_enter Try.func141, Try.ntmps141
    go_wp2_with (at_builtin; refine Lib.wpList_append_run _ rfl _ _ _ _ rfl _ _ rfl rfl _ _ (HRZ.out _) ?_)
    go_ret
    exact ⟨_, rfl, T.out, B.out⟩

/-! ### slices in a slice -/
abbrev PList := List (Value × List ByteArray)
def joinL (vs : PList) (k : Nat) : List ByteArray := (vs.take k).flatMap (·.2)
def partV (vs : PList) (k : Nat) : Value := (vs.getD k (undef, [])).1
def partL (vs : PList) (k : Nat) : List ByteArray := (vs.getD k (undef, [])).2
theorem join_succ {vs : PList} {k : Nat} (h : k < vs.length) : joinL vs (k + 1) = joinL vs k ++ partL vs k := by
  unfold joinL partL
  rw [List.take_succ_eq_append_getElem h, List.flatMap_append, List.getD_eq_getElem?_getD, List.getElem?_eq_getElem h]
  simp
theorem join_le (vs : PList) (k : Nat) : (joinL vs k).length ≤ (joinL vs vs.length).length := by
  unfold joinL
  rw [List.take_length]
  conv => rhs; rw [← List.take_append_drop k vs]
  rw [List.flatMap_append, List.length_append]
  omega
/-- slices that lie in a block, one by one -/
structure Parts (w : World) (g : Nat) (vs : PList) : Prop where
  box : w.heap[g]? = some (.cells (vs.map (·.1)).toArray 34 (0, 0))
  rows : ∀ k, k < vs.length → Rows w (partV vs k) (partL vs k) ∧ NilOk (partV vs k)
theorem Parts.later {w w' : World} {g : Nat} {vs : PList} (h : Parts w g vs) (t : Below w.heap.size w w') : Parts w' g vs :=
  ⟨(t.block g (Array.getElem?_eq_some_iff.1 h.box).1).trans h.box, fun k hk => ⟨(h.rows k hk).1.later t, (h.rows k hk).2⟩⟩
theorem Parts.cell {w : World} {g : Nat} {vs : PList} (h : Parts w g vs) {k : Nat} (hk : k < vs.length) : w.cell? ⟨g, k, none⟩ = some (partV vs k) := by
  rw [cell_of_row _ _ _ _ _ _ h.box]
  unfold partV
  rw [List.getD_eq_getElem?_getD]
  simp [hk]

set_option maxRecDepth 100000 in
set_option maxHeartbeats 4000000 in
theorem concat_any {w : World} {g n : Nat} {vs : PList} (h : Parts w g vs) (hn : vs.length = n) (hn2 : n ≤ 1000) (hl : (joinL vs n).length ≤ 1000000) :
    Calls Try.prog 139 #[.slice (some ⟨g, 0, none⟩) n n] w fun e w' => ∃ v, e = .returned v ∧ Tx w w' v (joinL vs n) ∧ Below w.heap.size w w' := by
  have H := Lib.hid h
  have N := Lib.hid hn
  have LE := Lib.hid (fun k => (show (joinL vs k).length ≤ 1000000 by have := join_le vs k; rw [hn] at this; omega))
  have J0 := Lib.hid (show joinL vs 0 = [] from rfl)
  clear h hn hl
  go_enter Try.func139, Try.ntmps139
  go_wp2_with fail
  go_loop [3, 11] (fun x i => ∃ k m : Nat, k ≤ n ∧ m = (joinL vs k).length ∧ m ≤ 1000000 ∧ x = .int .i64 (m : Int) ∧ i = .int .i64 (k : Int)) (fun _ i => n - (intOf i).toNat)
  case atStart => exact ⟨0, 0, by omega, rfl, by omega, by go_num, by go_num⟩
  case round =>
    obtain ⟨k, m, hk, hm, hm2, rfl, rfl⟩ := hrel
    have HM := Lib.hid hm
    clear hm
    by_cases hlt : k < n
    · have hlt2 : k < vs.length := by rw [N.out]; exact hlt
      have hc := H.out.cell hlt2
      obtain ⟨ad, c, hv, _⟩ := (H.out.rows k hlt2).1
      rw [hv] at hc
      obtain ⟨z, hz⟩ : ∃ z, z = (partL vs k).length := ⟨_, rfl⟩
      rw [← hz] at hc
      have NX := Lib.hid (show m + z = (joinL vs (k + 1)).length by rw [join_succ hlt2, List.length_append, HM.out, hz])
      have hb : m + z ≤ 1000000 := by rw [NX.out]; exact LE.out _
      clear hv hz hlt2
      go_wp2_with fail
      go_round
      case rel => exact ⟨k + 1, m + z, by omega, NX.out, hb, by go_num, by go_num⟩
      case measure => simp [intOf]; omega
    · obtain rfl : k = n := by omega
      go_wp2_with fail
      refine (grow_any m _ hm2).mono ?_
      rintro e w1 ⟨v1, rfl, t1, b1⟩
      have T1 := Lib.hid t1
      have B1 := Lib.hid b1
      clear t1 b1
      go_wp2_with fail
      go_loopw [6, 27] (fun v i wr => ∃ j : Nat, j ≤ k ∧ i = .int .i64 (j : Int) ∧ Tx w wr v (joinL vs j) ∧ Below w.heap.size w wr) (fun _ i _ => k - (intOf i).toNat)
      case atStart => exact ⟨0, by omega, by go_num, by rw [J0.out]; exact T1.out, B1.out⟩
      case round =>
        obtain ⟨j, hj, rfl, ht, hb⟩ := hrel
        have HT := Lib.hid ht
        have HB := Lib.hid hb
        clear ht hb T1 B1
        by_cases hlt3 : j < k
        · have hlt4 : j < vs.length := by rw [N.out]; exact hlt3
          have hc := (H.out.later HB.out).cell hlt4
          obtain ⟨hr, hnil⟩ := (H.out.later HB.out).rows j hlt4
          have NX := Lib.hid (show joinL vs (j + 1) = joinL vs j ++ partL vs j from join_succ hlt4)
          have hlen : (joinL vs j).length + (partL vs j).length ≤ 1000000 := by
            have := LE.out (j + 1)
            rw [NX.out, List.length_append] at this
            exact this
          have HLEN := Lib.hid hlen
          obtain ⟨ad, c, hv, hr2⟩ := id hr
          rw [hv] at hc hr hnil
          have R := Lib.hid hr
          have NI := Lib.hid hnil
          obtain ⟨ad2, cap2, rfl⟩ := HT.out.shape
          obtain ⟨z, hz⟩ : ∃ z, z = (partL vs j).length := ⟨_, rfl⟩
          obtain ⟨y, hy⟩ : ∃ y, y = (joinL vs j).length := ⟨_, rfl⟩
          rw [← hz] at R NI hc
          rw [← hy] at HT ⊢
          clear hr hnil hlen hv hr2 hlt4 hz hy
          go_wp2_with (first | (refine wpList_app_in (W0 := w) (l := joinL vs j) (news := partL vs j) rfl _ _ rfl HT.out R.out NI.out HLEN.out rfl rfl ?_; intro v3 w3 t3 g3; have HT3 := Lib.hid t3; have HB3 := Lib.hid (below_grown HB.out (fun x hx => (HT.out.own.lt x hx).1) g3); clear t3 g3))
          go_roundw
          case rel => exact ⟨j + 1, by omega, by go_num, by rw [NX.out]; exact HT3.out, HB3.out⟩
          case measure => simp [intOf]; omega
        · obtain rfl : j = k := by omega
          go_wp2_with fail
          go_ret
          exact ⟨_, rfl, HT.out, HB.out⟩

end Go.Proofs.Ytfcibccipkokoaa.Page

namespace Go.Proofs.Ytfcibccipkokoaa.Op
open Go.RowKit
open Go.Proofs.Ytfcibccipkokoaa.Page (Pg pgV pgC used nth Parts)
attribute [local go_sem ↓] Go.wp_at_zero Go.wp_at_succ

/-- a page in its box, while an op is done to it -/
structure Gx (w : World) (g : Nat) (p : Pg) (v : Value) : Prop where
  box : w.heap[g]? = some (.cells (pgC p v) 64 (0, 0))
  rows : Page.Rows w v p.rows
  cap : Page.CapOk v
section
variable {w w' : World} {g : Nat} {p : Pg} {v : Value}
theorem Gx.later (h : Gx w g p v) (t : Below w.heap.size w w') : Gx w' g p v := ⟨(t.block g (Array.getElem?_eq_some_iff.1 h.box).1).trans h.box, h.rows.later t, h.cap⟩
theorem Gx.drew (h : Gx w g p v) : Gx w.drew g p v := h.later (Below.refl _ _).drew
theorem Gx.six (h : Gx w g p v) : w.cell? ⟨g, 0, none⟩ = some (.int .u8 (p.kind : Int)) ∧ w.cell? ⟨g, 1, none⟩ = some (.int .u8 (p.level : Int)) ∧ w.cell? ⟨g, 2, none⟩ = some (.int .u32 (p.id : Int)) ∧ w.cell? ⟨g, 3, none⟩ = some (.int .u64 (p.lsn : Int)) ∧ w.cell? ⟨g, 4, none⟩ = some (.int .u32 (p.next : Int)) ∧ w.cell? ⟨g, 5, none⟩ = some v := by
  refine ⟨?_, ?_, ?_, ?_, ?_, ?_⟩ <;> (rw [cell_of_row _ _ _ _ _ _ h.box]; rfl)
theorem Gx.free (h : Gx w g p v) (j : Nat) : w.frozen? ⟨g, j, none⟩ = false := frozen_of_row _ _ _ _ _ h.box
/-- rows lie elsewhere than a page -/
theorem rows_beside {l : List ByteArray} (h : Page.Rows w v l) {_cs : Array Value} {p : Pg} {u : Value} (hs : ∀ s, u ≠ .string s) (hb : w.heap[g]? = some (.cells (pgC p u) 64 (0, 0))) (j : Nat) (z : Value) : Page.Rows (w.setCell ⟨g, j, none⟩ z) v l := by
  obtain ⟨ad, c, rfl, h1⟩ := h
  refine ⟨ad, c, rfl, h1.imp id ?_⟩
  rintro ⟨b, o, rfl, hlt, hc⟩
  refine ⟨b, o, rfl, by simpa using hlt, fun k hk => ?_⟩
  have hne : b ≠ g := by
    rintro rfl
    have := hc k hk
    rw [cell_of_row _ _ _ _ _ _ hb] at this
    rcases (show o + k = 0 ∨ o + k = 1 ∨ o + k = 2 ∨ o + k = 3 ∨ o + k = 4 ∨ o + k = 5 ∨ 6 ≤ o + k by omega) with e | e | e | e | e | e | e
    · rw [e] at this; simp [pgC] at this
    · rw [e] at this; simp [pgC] at this
    · rw [e] at this; simp [pgC] at this
    · rw [e] at this; simp [pgC] at this
    · rw [e] at this; simp [pgC] at this
    · rw [e] at this; simp [pgC] at this; exact hs _ this
    · rw [Array.getElem?_eq_none (by show 6 ≤ o + k; exact e)] at this; cases this
  rw [World.cell?_setCell_other _ _ _ _ (by simp only [ne_eq, Addr.mk.injEq]; omega)]
  exact hc k hk
end
/-- rows of its own are the page's -/
theorem Gx.put {w : World} {g : Nat} {p : Pg} {v : Value} {W0 : World} {v' : Value} {l : List ByteArray} (h : Gx w g p v) (hv : ∀ s, v ≠ .string s) (t : Slot.Tx W0 w v' l) : Gx (w.setCell ⟨g, 5, none⟩ v') g { p with rows := l } v' ∧ Str (w.setCell ⟨g, 5, none⟩ v') v' := by
  refine ⟨⟨by rw [heap_setCell_same _ _ _ _ _ _ h.box]; rfl, rows_beside (_cs := #[]) (Page.rows_tx t) hv h.box 5 v', Page.cap_tx t⟩, ⟨fun b hb => ?_, Page.cap_tx t⟩⟩
  rcases t.form with ⟨rfl, _⟩ | ⟨g', cap, cur, rfl, _, h3, _⟩
  · simp [Value.ownBlock] at hb
  · simp only [Value.ownBlock, Option.some.injEq] at hb
    subst hb
    have hne : g' ≠ g := by
      rintro rfl
      rw [h.box] at h3
      simp at h3
    exact ⟨cur, (0, 0), by rw [heap_setCell_other _ _ _ _ hne]; exact h3⟩
theorem touch_set {w W : World} {g : Nat} (t : Below w.heap.size w W) (j : Nat) (z : Value) : Touch (fun x => x = g) w (W.setCell ⟨g, j, none⟩ z) :=
  (Touch.ofNew (F := fun x => x = g) t).setCell (x := ⟨g, j, none⟩) rfl z
theorem join3 (x y z : Value) (a b c : List ByteArray) : Page.joinL [(x, a), (y, b), (z, c)] 3 = a ++ (b ++ c) := by simp [Page.joinL]

set_option maxRecDepth 100000 in
set_option maxHeartbeats 1000000 in
theorem swap_no {w : World} {g : Nat} {p : Pg} {v rv : Value} {f t : Nat} (X : Gx w g p v) (_hn : p.rows.length ≤ 100000) (_hf : f ≤ 1000000) (_ht : t ≤ 1000000) (h : t < f ∨ p.rows.length < t) :
    Calls Try.prog 133 #[.pointer (some ⟨g, 0, none⟩), .int .i64 (f : Int), .int .i64 (t : Int), rv] w fun e w' => e = .returned (.int .i64 3) ∧ Touch (fun x => x = g) w w' := by
  obtain ⟨ad, c, rfl, _⟩ := id X.rows
  have c5 := X.six.2.2.2.2.2
  have TR := Lib.hid (Touch.refl (fun x => x = g) w)
  generalize p.rows.length = n at *
  clear X
  by_cases h1 : t < f
  · go_enter Try.func133, Try.ntmps133
    go_wp2_with fail
    go_ret
    exact ⟨rfl, TR.out⟩
  · have h2 : n < t := by omega
    clear h
    go_enter Try.func133, Try.ntmps133
    go_wp2_with fail
    go_ret
    exact ⟨rfl, TR.out⟩

set_option maxRecDepth 100000 in
set_option maxHeartbeats 1000000 in
theorem swap_yes {w : World} {g : Nat} {p : Pg} {v rv : Value} {rl : List ByteArray} {f t : Nat} (X : Gx w g p v) (hr : Page.Rows w rv rl) (hrn : Page.NilOk rv) (hn : p.rows.length ≤ 100000) (hrl : rl.length ≤ 100000) (h1 : f ≤ t) (h2 : t ≤ p.rows.length) :
    Calls Try.prog 133 #[.pointer (some ⟨g, 0, none⟩), .int .i64 (f : Int), .int .i64 (t : Int), rv] w fun e w' => e = .returned (.int .i64 0) ∧ (∃ v', Gx w' g { p with rows := p.rows.take f ++ (rl ++ p.rows.drop t) } v' ∧ Str w' v') ∧ Touch (fun x => x = g) w w' := by
  obtain ⟨x1, r1, q1, k1⟩ := Page.rows_head X.rows X.cap (show f ≤ p.rows.length by omega)
  obtain ⟨x2, r2, q2, k2⟩ := Page.rows_tail X.rows X.cap h2
  have HV : Hid (∀ s, v ≠ .string s) := Lib.hid (by obtain ⟨ad, c, e, _⟩ := X.rows; rw [e]; intro s hs; cases hs)
  obtain ⟨ad, c, hv, _⟩ := id X.rows
  obtain ⟨n, hnn⟩ : ∃ n, n = p.rows.length := ⟨_, rfl⟩
  rw [← hnn] at hv hn h2
  subst hv
  obtain ⟨rad, rc, hrv, _⟩ := id hr
  obtain ⟨rn, hrn'⟩ : ∃ rn, rn = rl.length := ⟨_, rfl⟩
  rw [← hrn'] at hrv hrl
  subst hrv
  obtain ⟨a1, e1, hx1, _⟩ := id q1
  obtain ⟨n1, hn1⟩ : ∃ n1, n1 = (p.rows.take f).length := ⟨_, rfl⟩
  rw [← hn1] at hx1
  subst hx1
  obtain ⟨a2, e2, hx2, _⟩ := id q2
  obtain ⟨n2, hn2⟩ : ∃ n2, n2 = (p.rows.drop t).length := ⟨_, rfl⟩
  rw [← hn2] at hx2
  subst hx2
  have JL := Lib.hid (show (Page.joinL [((.slice a1 n1 e1 : Value), p.rows.take f), (.slice rad rn rc, rl), (.slice a2 n2 e2, p.rows.drop t)] 3).length ≤ 1000000 by
    rw [join3, List.length_append, List.length_append, List.length_take, List.length_drop]; omega)
  have PA := Lib.hid (fun (W : World) (B : Below w.heap.size w W) => (show Parts (W.alloc (.cells #[.slice a1 n1 e1, .slice rad rn rc, .slice a2 n2 e2] 34)) W.heap.size [((.slice a1 n1 e1 : Value), p.rows.take f), (.slice rad rn rc, rl), (.slice a2 n2 e2, p.rows.drop t)] from
    ⟨heap_alloc_new W _, fun k hk => by
      have t := B.trans ((below_new W (.cells #[.slice a1 n1 e1, .slice rad rn rc, .slice a2 n2 e2] 34)).mono B.size)
      match k, hk with
      | 0, _ => exact ⟨q1.later t, k1.nilOk⟩
      | 1, _ => exact ⟨hr.later t, hrn⟩
      | 2, _ => exact ⟨q2.later t, k2.nilOk⟩⟩))
  have KC := Lib.hid (fun (W : World) (B : Below w.heap.size w W) => Page.concat_any (n := 3) (PA.out W B) rfl (by omega) JL.out)
  have XX := Lib.hid X
  have CC := Lib.hid (fun (W : World) (Y : Gx W g p (.slice ad n c)) => Y.six.2.2.2.2.2)
  have c5 := CC.out w X
  have i1 : (f : Int) ≤ (t : Int) := by omega
  have i2 : (t : Int) ≤ (n : Int) := by omega
  clear hr hrn hnn hrn' hn1 hn2 q1 q2 k1 k2 X PA
  go_enter Try.func133, Try.ntmps133
  go_upto_region 3 with fail
  have B0 : Hid (Below w.heap.size w w.drew) := Lib.hid (Below.refl _ _).drew
  refine wp_region_noPanic ?_
  refine wp_region_held_drew (S := fun _ => True) (by kernel_rfl) trivial (fun hHeld => ?_)
  refine wpAnyH_take (i := 0) (v := ?_) rfl (by kernel_rfl) (by kernel_rfl) (by kernel_rfl) (fun _ _ _ h => h) (Or.inl ⟨by rfl, ?_⟩) hHeld ?_
  rotate_left
  · (intro W hSw; (try dsimp only at hSw); go_simp; (try with_reducible rfl))
  simp only [List.getElem_toArray, List.getElem_cons_zero, Act.put, List.setIfInBounds_toArray, List.set_cons_zero, List.set_cons_succ]
  refine wpAnyH_take (i := 1) (v := ?_) rfl (by kernel_rfl) (by kernel_rfl) (by kernel_rfl) (fun _ _ _ h => h) (Or.inl ⟨by rfl, ?_⟩) hHeld ?_
  rotate_left
  · (intro W hSw; (try dsimp only at hSw); go_simp; (try with_reducible rfl))
  simp only [List.getElem_toArray, List.getElem_cons_succ, List.getElem_cons_zero, Act.put, List.setIfInBounds_toArray, List.set_cons_zero, List.set_cons_succ]
  refine wpAnyH_take (i := 2) (v := ?_) rfl (by kernel_rfl) (by kernel_rfl) (by kernel_rfl) (fun _ _ _ h => h) (Or.inl ⟨by rfl, ?_⟩) hHeld ?_
  rotate_left
  · (intro W hSw; (try dsimp only at hSw); go_simp; (try with_reducible rfl))
  simp only [List.getElem_toArray, List.getElem_cons_succ, List.getElem_cons_zero, Act.put, List.setIfInBounds_toArray, List.set_cons_zero, List.set_cons_succ]
  refine wpAnyH_take (i := 3) (v := ?_) rfl (by kernel_rfl) (by kernel_rfl) (by kernel_rfl) (fun _ _ _ h => h) (Or.inl ⟨by rfl, ?_⟩) hHeld ?_
  rotate_left
  · (intro W hSw; (try dsimp only at hSw); go_simp; (try with_reducible rfl))
  simp only [List.getElem_toArray, List.getElem_cons_succ, List.getElem_cons_zero, Act.put, List.setIfInBounds_toArray, List.set_cons_zero, List.set_cons_succ]
  refine wpAnyH_take (i := 5) (v := ?_) rfl (by kernel_rfl) (by kernel_rfl) (by kernel_rfl) (fun _ _ _ h => h) (Or.inl ⟨by rfl, ?_⟩) hHeld ?_
  rotate_left
  · (intro W hSw; (try dsimp only at hSw); go_simp; (try with_reducible rfl))
  simp only [List.getElem_toArray, List.getElem_cons_succ, List.getElem_cons_zero, Act.put, List.setIfInBounds_toArray, List.set_cons_zero, List.set_cons_succ]
  refine wpAnyH_take (i := 7) (v := ?_) rfl (by kernel_rfl) (by kernel_rfl) (by kernel_rfl) (fun _ _ _ h => h) (Or.inl ⟨by rfl, ?_⟩) hHeld ?_
  rotate_left
  · (intro W hSw; (try dsimp only at hSw); go_simp; (try with_reducible rfl))
  simp only [List.getElem_toArray, List.getElem_cons_succ, List.getElem_cons_zero, Act.put, List.setIfInBounds_toArray, List.set_cons_zero, List.set_cons_succ]
  refine wpAnyH_take (i := 8) (v := ?_) rfl (by kernel_rfl) (by kernel_rfl) (by kernel_rfl) (fun _ _ _ h => h) (Or.inl ⟨by rfl, ?_⟩) hHeld ?_
  rotate_left
  · (intro W hSw; (try dsimp only at hSw); go_simp; (try with_reducible rfl))
  simp only [List.getElem_toArray, List.getElem_cons_succ, List.getElem_cons_zero, Act.put, List.setIfInBounds_toArray, List.set_cons_zero, List.set_cons_succ]
  refine wpAnyH_take (i := 9) (v := ?_) rfl (by kernel_rfl) (by kernel_rfl) (by kernel_rfl) (fun _ _ _ h => h) (Or.inl ⟨by rfl, ?_⟩) hHeld ?_
  rotate_left
  · (intro W hSw; (try dsimp only at hSw); go_simp; (try with_reducible rfl))
  simp only [List.getElem_toArray, List.getElem_cons_succ, List.getElem_cons_zero, Act.put, List.setIfInBounds_toArray, List.set_cons_zero, List.set_cons_succ]
  refine wpAnyH_take (i := 10) (v := ?_) rfl (by kernel_rfl) (by kernel_rfl) (by kernel_rfl) (fun _ _ _ h => h) (Or.inl ⟨by rfl, ?_⟩) hHeld ?_
  rotate_left
  · (intro W hSw; (try dsimp only at hSw); go_simp; (try with_reducible rfl))
  simp only [List.getElem_toArray, List.getElem_cons_succ, List.getElem_cons_zero, Act.put, List.setIfInBounds_toArray, List.set_cons_zero, List.set_cons_succ]
  refine wpAnyH_take (i := 12) (v := ?_) rfl (by kernel_rfl) (by kernel_rfl) (by kernel_rfl) (fun _ _ _ h => h) (Or.inl ⟨by rfl, ?_⟩) hHeld ?_
  rotate_left
  · (intro W hSw; (try dsimp only at hSw); go_simp; (try with_reducible rfl))
  simp only [List.getElem_toArray, List.getElem_cons_succ, List.getElem_cons_zero, Act.put, List.setIfInBounds_toArray, List.set_cons_zero, List.set_cons_succ]
  refine wpAnyH_ready (rs := [4, 11]) (by kernel_rfl) (by simp) (AllReadyH.cons rfl (fun K hK => ?_) (AllReadyH.cons rfl (fun K hK => ?_) AllReadyH.nil))
  · skip
    rw [if_pos (by rfl)]
    unfold Oper.wp execOp
    go_simp
    refine hK.out _ _ trivial (fun hHeld => ?_)
    clear hK K
    try simp only [List.getElem_toArray, List.getElem_cons_succ, List.getElem_cons_zero, Act.put, List.setIfInBounds_toArray, List.set_cons_zero, List.set_cons_succ]
    refine wpAnyH_take (i := 6) (v := ?_) rfl (by kernel_rfl) (by kernel_rfl) (by kernel_rfl) (fun _ _ _ h => h) (Or.inl ⟨by rfl, ?_⟩) hHeld ?_
    rotate_left
    · (intro W hSw; (try dsimp only at hSw); go_simp; (try with_reducible rfl))
    simp only [List.getElem_toArray, List.getElem_cons_succ, List.getElem_cons_zero, Act.put, List.setIfInBounds_toArray, List.set_cons_zero, List.set_cons_succ]
    refine wpAnyH_ready (rs := [11]) (by kernel_rfl) (by simp) (AllReadyH.cons rfl (fun K hK => ?_) AllReadyH.nil)
    rw [if_pos (by rfl)]
    unfold Oper.wp execOp
    go_simp
    refine hK.out _ _ trivial (fun hHeld => ?_)
    clear hK K
    try simp only [List.getElem_toArray, List.getElem_cons_succ, List.getElem_cons_zero, Act.put, List.setIfInBounds_toArray, List.set_cons_zero, List.set_cons_succ]
    refine wpAnyH_take (i := 13) (v := ?_) rfl (by kernel_rfl) (by kernel_rfl) (by kernel_rfl) (fun _ _ _ h => h) (Or.inl ⟨by rfl, ?_⟩) hHeld ?_
    rotate_left
    · (intro W hSw; (try dsimp only at hSw); go_simp; (try with_reducible rfl))
    simp only [List.getElem_toArray, List.getElem_cons_succ, List.getElem_cons_zero, Act.put, List.setIfInBounds_toArray, List.set_cons_zero, List.set_cons_succ]
    refine wpAnyH_ready (rs := [14]) (by kernel_rfl) (by simp) (AllReadyH.cons rfl (fun K hK => ?_) AllReadyH.nil)
    rw [if_pos (by rfl)]
    unfold Oper.wp execOp
    go_simp
    refine hK.out _ _ trivial (fun hHeld => ?_)
    clear hK K
    try simp only [List.getElem_toArray, List.getElem_cons_succ, List.getElem_cons_zero, Act.put, List.setIfInBounds_toArray, List.set_cons_zero, List.set_cons_succ]
    refine wpAnyH_ready (rs := [15]) (by kernel_rfl) (by simp) (AllReadyH.cons rfl (fun K hK => ?_) AllReadyH.nil)
    refine step_fn (by rfl) (.func 139) [.tmp 35] _ rfl 139 [] (by simp [Act.eval]) _ Try.func139 (by kernel_rfl) (by kernel_rfl) (KC.out _ B0.out) (by simp [Act.eval]) ?_
    rintro e w4 ⟨v4, rfl, t4, b4⟩
    refine ⟨_, rfl, ?_⟩
    have BN := below_new w.drew (.cells #[.slice a1 n1 e1, .slice rad rn rc, .slice a2 n2 e2] 34)
    have B4 := Lib.hid (B0.out.trans ((BN.trans (b4.mono BN.size)).mono B0.out.size))
    have X4 := Lib.hid (XX.out.later B4.out)
    have PU := Lib.hid (X4.out.put HV.out t4)
    have TO := Lib.hid (touch_set (g := g) B4.out 5 v4)
    obtain ⟨a4, e4, hv4⟩ := t4.shape
    obtain ⟨n4, hn4⟩ : ∃ n4, n4 = (Page.joinL [((.slice a1 n1 e1 : Value), p.rows.take f), (.slice rad rn rc, rl), (.slice a2 n2 e2, p.rows.drop t)] 3).length := ⟨_, rfl⟩
    rw [← hn4] at hv4
    subst hv4
    have c4 := CC.out w4 X4.out
    have z4 := X4.out.free 5
    refine hK.out _ _ trivial (fun hHeld => ?_)
    clear hK K b4 BN hn4 t4 c5
    simp only [List.getElem_toArray, List.getElem_cons_succ, List.getElem_cons_zero, Act.put, List.setIfInBounds_toArray, List.set_cons_zero, List.set_cons_succ]
    refine wpAnyH_take (i := 16) (v := ?_) rfl (by kernel_rfl) (by kernel_rfl) (by kernel_rfl) (fun _ _ _ h => h) (Or.inl ⟨by rfl, ?_⟩) hHeld ?_
    rotate_left
    · (intro W hSw; (try dsimp only at hSw); go_simp; (try with_reducible rfl))
    simp only [List.getElem_toArray, List.getElem_cons_succ, List.getElem_cons_zero, Act.put, List.setIfInBounds_toArray, List.set_cons_zero, List.set_cons_succ]
    refine wpAnyH_take (i := 17) (v := ?_) rfl (by kernel_rfl) (by kernel_rfl) (by kernel_rfl) (fun _ _ _ h => h) (Or.inl ⟨by rfl, ?_⟩) hHeld ?_
    rotate_left
    · (intro W hSw; (try dsimp only at hSw); go_simp; (try with_reducible rfl))
    simp only [List.getElem_toArray, List.getElem_cons_succ, List.getElem_cons_zero, Act.put, List.setIfInBounds_toArray, List.set_cons_zero, List.set_cons_succ]
    refine wpAnyH_ready (rs := [18]) (by kernel_rfl) (by simp) (AllReadyH.cons rfl (fun K hK => ?_) AllReadyH.nil)
    rw [if_pos (by rfl)]
    unfold Oper.wp execOp
    go_simp
    refine hK.out _ _ trivial (fun hHeld => ?_)
    clear hK K
    try simp only [List.getElem_toArray, List.getElem_cons_succ, List.getElem_cons_zero, Act.put, List.setIfInBounds_toArray, List.set_cons_zero, List.set_cons_succ]
    refine wpAnyH_done (by kernel_rfl) ?_ _
    refine NoPanic.normal ?_
    clear hHeld c4 z4
    go_wp2_with fail
    go_ret
    have P := PU.out
    rw [join3] at P
    exact ⟨rfl, ⟨_, P⟩, TO.out⟩
  · skip
    rw [if_pos (by rfl)]
    unfold Oper.wp execOp
    go_simp
    refine hK.out _ _ trivial (fun hHeld => ?_)
    clear hK K
    try simp only [List.getElem_toArray, List.getElem_cons_succ, List.getElem_cons_zero, Act.put, List.setIfInBounds_toArray, List.set_cons_zero, List.set_cons_succ]
    refine wpAnyH_take (i := 13) (v := ?_) rfl (by kernel_rfl) (by kernel_rfl) (by kernel_rfl) (fun _ _ _ h => h) (Or.inl ⟨by rfl, ?_⟩) hHeld ?_
    rotate_left
    · (intro W hSw; (try dsimp only at hSw); go_simp; (try with_reducible rfl))
    simp only [List.getElem_toArray, List.getElem_cons_succ, List.getElem_cons_zero, Act.put, List.setIfInBounds_toArray, List.set_cons_zero, List.set_cons_succ]
    refine wpAnyH_ready (rs := [4]) (by kernel_rfl) (by simp) (AllReadyH.cons rfl (fun K hK => ?_) AllReadyH.nil)
    rw [if_pos (by rfl)]
    unfold Oper.wp execOp
    go_simp
    refine hK.out _ _ trivial (fun hHeld => ?_)
    clear hK K
    try simp only [List.getElem_toArray, List.getElem_cons_succ, List.getElem_cons_zero, Act.put, List.setIfInBounds_toArray, List.set_cons_zero, List.set_cons_succ]
    refine wpAnyH_take (i := 6) (v := ?_) rfl (by kernel_rfl) (by kernel_rfl) (by kernel_rfl) (fun _ _ _ h => h) (Or.inl ⟨by rfl, ?_⟩) hHeld ?_
    rotate_left
    · (intro W hSw; (try dsimp only at hSw); go_simp; (try with_reducible rfl))
    simp only [List.getElem_toArray, List.getElem_cons_succ, List.getElem_cons_zero, Act.put, List.setIfInBounds_toArray, List.set_cons_zero, List.set_cons_succ]
    refine wpAnyH_ready (rs := [14]) (by kernel_rfl) (by simp) (AllReadyH.cons rfl (fun K hK => ?_) AllReadyH.nil)
    rw [if_pos (by rfl)]
    unfold Oper.wp execOp
    go_simp
    refine hK.out _ _ trivial (fun hHeld => ?_)
    clear hK K
    try simp only [List.getElem_toArray, List.getElem_cons_succ, List.getElem_cons_zero, Act.put, List.setIfInBounds_toArray, List.set_cons_zero, List.set_cons_succ]
    refine wpAnyH_ready (rs := [15]) (by kernel_rfl) (by simp) (AllReadyH.cons rfl (fun K hK => ?_) AllReadyH.nil)
    refine step_fn (by rfl) (.func 139) [.tmp 35] _ rfl 139 [] (by simp [Act.eval]) _ Try.func139 (by kernel_rfl) (by kernel_rfl) (KC.out _ B0.out) (by simp [Act.eval]) ?_
    rintro e w4 ⟨v4, rfl, t4, b4⟩
    refine ⟨_, rfl, ?_⟩
    have BN := below_new w.drew (.cells #[.slice a1 n1 e1, .slice rad rn rc, .slice a2 n2 e2] 34)
    have B4 := Lib.hid (B0.out.trans ((BN.trans (b4.mono BN.size)).mono B0.out.size))
    have X4 := Lib.hid (XX.out.later B4.out)
    have PU := Lib.hid (X4.out.put HV.out t4)
    have TO := Lib.hid (touch_set (g := g) B4.out 5 v4)
    obtain ⟨a4, e4, hv4⟩ := t4.shape
    obtain ⟨n4, hn4⟩ : ∃ n4, n4 = (Page.joinL [((.slice a1 n1 e1 : Value), p.rows.take f), (.slice rad rn rc, rl), (.slice a2 n2 e2, p.rows.drop t)] 3).length := ⟨_, rfl⟩
    rw [← hn4] at hv4
    subst hv4
    have c4 := CC.out w4 X4.out
    have z4 := X4.out.free 5
    refine hK.out _ _ trivial (fun hHeld => ?_)
    clear hK K b4 BN hn4 t4 c5
    simp only [List.getElem_toArray, List.getElem_cons_succ, List.getElem_cons_zero, Act.put, List.setIfInBounds_toArray, List.set_cons_zero, List.set_cons_succ]
    refine wpAnyH_take (i := 16) (v := ?_) rfl (by kernel_rfl) (by kernel_rfl) (by kernel_rfl) (fun _ _ _ h => h) (Or.inl ⟨by rfl, ?_⟩) hHeld ?_
    rotate_left
    · (intro W hSw; (try dsimp only at hSw); go_simp; (try with_reducible rfl))
    simp only [List.getElem_toArray, List.getElem_cons_succ, List.getElem_cons_zero, Act.put, List.setIfInBounds_toArray, List.set_cons_zero, List.set_cons_succ]
    refine wpAnyH_take (i := 17) (v := ?_) rfl (by kernel_rfl) (by kernel_rfl) (by kernel_rfl) (fun _ _ _ h => h) (Or.inl ⟨by rfl, ?_⟩) hHeld ?_
    rotate_left
    · (intro W hSw; (try dsimp only at hSw); go_simp; (try with_reducible rfl))
    simp only [List.getElem_toArray, List.getElem_cons_succ, List.getElem_cons_zero, Act.put, List.setIfInBounds_toArray, List.set_cons_zero, List.set_cons_succ]
    refine wpAnyH_ready (rs := [18]) (by kernel_rfl) (by simp) (AllReadyH.cons rfl (fun K hK => ?_) AllReadyH.nil)
    rw [if_pos (by rfl)]
    unfold Oper.wp execOp
    go_simp
    refine hK.out _ _ trivial (fun hHeld => ?_)
    clear hK K
    try simp only [List.getElem_toArray, List.getElem_cons_succ, List.getElem_cons_zero, Act.put, List.setIfInBounds_toArray, List.set_cons_zero, List.set_cons_succ]
    refine wpAnyH_done (by kernel_rfl) ?_ _
    refine NoPanic.normal ?_
    clear hHeld c4 z4
    go_wp2_with fail
    go_ret
    have P := PU.out
    rw [join3] at P
    exact ⟨rfl, ⟨_, P⟩, TO.out⟩

end Go.Proofs.Ytfcibccipkokoaa.Op
