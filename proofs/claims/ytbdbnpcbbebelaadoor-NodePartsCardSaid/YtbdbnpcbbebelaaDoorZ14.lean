/-
  Walks: slices, one behind the other: slices.Grow, slices.Concat.
  Walks: rows of one's own; whether rows have room.
  Walks: a page with a text at a place, in the code.
-/
import Derived.Lib.AppendZerosOnto
import Derived.Test.YtbdbnpcbbebelaaDoorZ3
import Derived.Test.YtbdbnpcbbebelaaDoorZ13
namespace Go.Proofs.YtbdbnpcbbebelaaDoor.Page
open Go.RowKit Slot
attribute [local go_sem ↓] Go.wp_at_zero Go.wp_at_succ

theorem below_new' (w : World) (o : Obj) : Below w.heap.size w (w.alloc o) := (Below.refl _ _).alloc (Nat.le_refl _) o

set_option maxRecDepth 100000 in
set_option maxHeartbeats 2000000 in
theorem grow_any (n : Nat) (w : World) (hn : n ≤ 1000000) :
    Calls Tryd.prog 69 #[.slice none 0 0, .int .i64 (n : Int)] w fun e w' => ∃ v, e = .returned v ∧ Tx w w' v [] ∧ Below w.heap.size w w' := by
  by_cases h0 : n = 0
  · subst h0
    have T := Lib.hid (Tx.nil w (Nat.le_refl w.heap.size))
    go_enter Tryd.func69, Tryd.ntmps69
    go_wp2_with fail
    go_ret
    exact ⟨_, rfl, T.out, Below.refl _ _⟩
  · obtain ⟨i0, hi, hz0, hz1, hz2⟩ := info_parts Word.infoS
    have hold : (Builtin.firstCells i0.size 0 (.slice none 0 0)).run Tryd.prog w.drew = .ok ([] : List Value).toArray w.drew := run_firstCells_none w.drew i0.size 0 0 0
    have hrz : ∀ ty, (Builtin.append_ #[24, 3] ty #[.slice none 0 0, .int .i64 (n : Int)]).run Tryd.prog w = _ := fun ty =>
      Lib.run_append_grow_zeros w 24 3 ty 9 i0 (.string ⟨#[]⟩) .i64 .i64 Tryd.underlying24 Tryd.underlying3 hi hz0 none 0 0 [] hold n (by omega) (by omega) (by omega) (by omega)
        (by rw [hz2]; omega) (growslice_fits (by omega) (by rw [hz2]; omega))
    rw [Nat.zero_add] at hrz
    have hge := grownCap_ge w n 0 9
    have hle := grownCap_le_maxLen w n 0 9 (by unfold maxLen; omega)
    obtain ⟨G, hG⟩ : ∃ G, G = grownCap w n 0 9 := ⟨_, rfl⟩
    rw [← hG] at hrz hge hle
    obtain ⟨cur, hcur⟩ : ∃ cur : Array Value, cur = ([] : List Value).toArray ++ Builtin.zeroCells (Value.string ⟨#[]⟩).cells n ++ Builtin.zeroCells (Value.string ⟨#[]⟩).cells (G - n) := ⟨_, rfl⟩
    have hsz : cur.size = G * 1 := by
      rw [hcur]
      simp only [Array.size_append, size_zeroCells, List.size_toArray, List.length_nil, Value.cells, List.size_toArray, List.length_cons]
      omega
    rw [← hcur] at hrz
    have T := Lib.hid (show Tx w (w.drew.alloc (.cells cur 9)) (.slice (some ⟨w.heap.size, 0, none⟩) 0 G) [] from
      ⟨⟨rfl, .inr ⟨w.heap.size, G, cur, rfl, Nat.le_refl _, heap_alloc_new w.drew _, Nat.zero_le _, hle, hsz, rfl⟩⟩, by rw [show (w.drew.alloc (.cells cur 9)).heap.size = w.heap.size + 1 from by simp]; omega⟩)
    have B := Lib.hid (show Below w.heap.size w (w.drew.alloc (.cells cur 9)) from ((Below.refl _ _).drew).alloc (Nat.le_refl _) _)
    have hG63 : G ≤ 9223372036854775807 := by unfold maxLen at hle; omega
    have HRZ := Lib.hid hrz
    clear hold hcur hsz hG hi hz0 hz1 hz2 hrz hle
    go_enter Tryd.func69, Tryd.ntmps69
    go_wp2_with (at_builtin; refine Lib.wpList_append_run _ rfl _ _ _ _ rfl _ _ rfl rfl _ _ (HRZ.out _) ?_)
    go_ret
    exact ⟨_, rfl, T.out, B.out⟩

/-! ### slices in a slice -/
abbrev PList := List (Value × List ByteArray)
def joinL (vs : PList) (k : Nat) : List ByteArray := (vs.take k).flatMap (·.2)
def partV (vs : PList) (k : Nat) : Value := (vs.getD k (undef, [])).1
def partL (vs : PList) (k : Nat) : List ByteArray := (vs.getD k (undef, [])).2
theorem join_succ {vs : PList} {k : Nat} (h : k < vs.length) : joinL vs (k + 1) = joinL vs k ++ partL vs k := by
  unfold joinL partL
  rw [List.take_succ_eq_append_getElem h, List.flatMap_append, List.getD_eq_getElem?_getD, List.getElem?_eq_getElem h]
  simp
theorem join_le (vs : PList) (k : Nat) : (joinL vs k).length ≤ (joinL vs vs.length).length := by
  unfold joinL
  rw [List.take_length]
  conv => rhs; rw [← List.take_append_drop k vs]
  rw [List.flatMap_append, List.length_append]
  omega
/-- slices that lie in a block, one by one -/
structure Parts (w : World) (g : Nat) (vs : PList) : Prop where
  box : w.heap[g]? = some (.cells (vs.map (·.1)).toArray 24 (0, 0))
  rows : ∀ k, k < vs.length → Rows w (partV vs k) (partL vs k) ∧ NilOk (partV vs k)
theorem Parts.later {w w' : World} {g : Nat} {vs : PList} (h : Parts w g vs) (t : Below w.heap.size w w') : Parts w' g vs :=
  ⟨(t.block g (Array.getElem?_eq_some_iff.1 h.box).1).trans h.box, fun k hk => ⟨(h.rows k hk).1.later t, (h.rows k hk).2⟩⟩
theorem Parts.cell {w : World} {g : Nat} {vs : PList} (h : Parts w g vs) {k : Nat} (hk : k < vs.length) : w.cell? ⟨g, k, none⟩ = some (partV vs k) := by
  rw [cell_of_row _ _ _ _ _ _ h.box]
  unfold partV
  rw [List.getD_eq_getElem?_getD]
  simp [hk]

set_option maxRecDepth 100000 in
set_option maxHeartbeats 4000000 in
theorem concat_any {w : World} {g n : Nat} {vs : PList} (h : Parts w g vs) (hn : vs.length = n) (hn2 : n ≤ 1000) (hl : (joinL vs n).length ≤ 1000000) :
    Calls Tryd.prog 49 #[.slice (some ⟨g, 0, none⟩) n n] w fun e w' => ∃ v, e = .returned v ∧ Tx w w' v (joinL vs n) ∧ Below w.heap.size w w' := by
  have H := Lib.hid h
  have N := Lib.hid hn
  have LE := Lib.hid (fun k => (show (joinL vs k).length ≤ 1000000 by have := join_le vs k; rw [hn] at this; omega))
  have J0 := Lib.hid (show joinL vs 0 = [] from rfl)
  clear h hn hl
  go_enter Tryd.func49, Tryd.ntmps49
  go_wp2_with fail
  go_loop [3, 11] (fun x i => ∃ k m : Nat, k ≤ n ∧ m = (joinL vs k).length ∧ m ≤ 1000000 ∧ x = .int .i64 (m : Int) ∧ i = .int .i64 (k : Int)) (fun _ i => n - (intOf i).toNat)
  case atStart => exact ⟨0, 0, by omega, rfl, by omega, by go_num, by go_num⟩
  case round =>
    obtain ⟨k, m, hk, hm, hm2, rfl, rfl⟩ := hrel
    have HM := Lib.hid hm
    clear hm
    by_cases hlt : k < n
    · have hlt2 : k < vs.length := by rw [N.out]; exact hlt
      have hc := H.out.cell hlt2
      obtain ⟨ad, c, hv, _⟩ := (H.out.rows k hlt2).1
      rw [hv] at hc
      obtain ⟨z, hz⟩ : ∃ z, z = (partL vs k).length := ⟨_, rfl⟩
      rw [← hz] at hc
      have NX := Lib.hid (show m + z = (joinL vs (k + 1)).length by rw [join_succ hlt2, List.length_append, HM.out, hz])
      have hb : m + z ≤ 1000000 := by rw [NX.out]; exact LE.out _
      clear hv hz hlt2
      go_wp2_with fail
      go_round
      case rel => exact ⟨k + 1, m + z, by omega, NX.out, hb, by go_num, by go_num⟩
      case measure => simp [intOf]; omega
    · obtain rfl : k = n := by omega
      go_wp2_with fail
      refine (grow_any m _ hm2).mono ?_
      rintro e w1 ⟨v1, rfl, t1, b1⟩
      have T1 := Lib.hid t1
      have B1 := Lib.hid b1
      clear t1 b1
      go_wp2_with fail
      go_loopw [6, 27] (fun v i wr => ∃ j : Nat, j ≤ k ∧ i = .int .i64 (j : Int) ∧ Tx w wr v (joinL vs j) ∧ Below w.heap.size w wr) (fun _ i _ => k - (intOf i).toNat)
      case atStart => exact ⟨0, by omega, by go_num, by rw [J0.out]; exact T1.out, B1.out⟩
      case round =>
        obtain ⟨j, hj, rfl, ht, hb⟩ := hrel
        have HT := Lib.hid ht
        have HB := Lib.hid hb
        clear ht hb T1 B1
        by_cases hlt3 : j < k
        · have hlt4 : j < vs.length := by rw [N.out]; exact hlt3
          have hc := (H.out.later HB.out).cell hlt4
          obtain ⟨hr, hnil⟩ := (H.out.later HB.out).rows j hlt4
          have NX := Lib.hid (show joinL vs (j + 1) = joinL vs j ++ partL vs j from join_succ hlt4)
          have hlen : (joinL vs j).length + (partL vs j).length ≤ 1000000 := by
            have := LE.out (j + 1)
            rw [NX.out, List.length_append] at this
            exact this
          have HLEN := Lib.hid hlen
          obtain ⟨ad, c, hv, hr2⟩ := id hr
          rw [hv] at hc hr hnil
          have R := Lib.hid hr
          have NI := Lib.hid hnil
          obtain ⟨ad2, cap2, rfl⟩ := HT.out.shape
          obtain ⟨z, hz⟩ : ∃ z, z = (partL vs j).length := ⟨_, rfl⟩
          obtain ⟨y, hy⟩ : ∃ y, y = (joinL vs j).length := ⟨_, rfl⟩
          rw [← hz] at R NI hc
          rw [← hy] at HT ⊢
          clear hr hnil hlen hv hr2 hlt4 hz hy
          go_wp2_with (first | (refine wpList_app_in (W0 := w) (l := joinL vs j) (news := partL vs j) rfl _ _ rfl HT.out R.out NI.out HLEN.out rfl rfl ?_; intro v3 w3 t3 g3; have HT3 := Lib.hid t3; have HB3 := Lib.hid (below_grown HB.out (fun x hx => (HT.out.own.lt x hx).1) g3); clear t3 g3))
          go_roundw
          case rel => exact ⟨j + 1, by omega, by go_num, by rw [NX.out]; exact HT3.out, HB3.out⟩
          case measure => simp [intOf]; omega
        · obtain rfl : j = k := by omega
          go_wp2_with fail
          go_ret
          exact ⟨_, rfl, HT.out, HB.out⟩

end Go.Proofs.YtbdbnpcbbebelaaDoor.Page

namespace Go.Proofs.YtbdbnpcbbebelaaDoor.Node
open Go.RowKit
open Go.Proofs.YtbdbnpcbbebelaaDoor.Page (Pg nth used pgV pgC CapOk zeroP info_page results_page zero_one rows_head rows_tail)
attribute [local go_sem ↓] Go.wp_at_zero Go.wp_at_succ

set_option maxRecDepth 100000 in
set_option maxHeartbeats 2000000 in
theorem copied_any {w : World} {v : Value} {L : List ByteArray} (h : Page.Rows w v L) (hu : used L ≤ 1000000) :
    Calls Tryd.prog 51 #[v] w fun e w' => ∃ u, e = .returned u ∧ Slot.Tx w w' u L ∧ Below w.heap.size w w' := by
  obtain ⟨ad, c, rfl, _⟩ := id h
  have H := Lib.hid h
  obtain ⟨n, hn⟩ : ∃ n, n = L.length := ⟨_, rfl⟩
  have N := Lib.hid hn
  have hn2 : n ≤ 250000 := by have := Page.used_len L; omega
  have U := Lib.hid hu
  rw [← hn] at H ⊢
  clear h hu hn
  have T0 := Lib.hid (Slot.Tx.nil w (Nat.le_refl w.heap.size))
  go_enter Tryd.func51, Tryd.ntmps51
  go_wp2_with fail
  go_loopw [3, 8] (fun v i wr => ∃ k : Nat, k ≤ n ∧ i = .int .i64 (k : Int) ∧ Slot.Tx w wr v (L.take k) ∧ Below w.heap.size w wr) (fun _ i _ => n - (intOf i).toNat)
  case atStart => exact ⟨0, by omega, by go_num, by rw [List.take_zero]; exact T0.out, Below.refl _ _⟩
  case round =>
    obtain ⟨k, hk, rfl, ht, hb⟩ := hrel
    have HT := Lib.hid ht
    have HB := Lib.hid hb
    clear ht hb T0
    by_cases hlt : k < n
    · have hlt2 : k < L.length := by rw [← N.out]; exact hlt
      have hrw : Page.Rows wr (.slice ad L.length c) L := by rw [← N.out]; exact H.out.later HB.out
      obtain ⟨b, o, rfl, hb0, hc⟩ := hrw.at hlt2
      have hsz := Page.nth_size hlt2
      have NT := Lib.hid (Page.nth_take hlt2)
      generalize nth L k = S at *
      have KC := Lib.hid (fun W => Key.clone_any S W (by have := U.out; omega))
      have eLn : (L.take k).length = k := by rw [List.length_take]; omega
      have EL := Lib.hid eLn
      generalize L.take k = A at *
      obtain ⟨ad2, cap, rfl⟩ := HT.out.shape
      rw [eLn] at HT ⊢
      clear hrw hsz hlt2 hb0 eLn
      go_wp2_with fail
      refine (KC.out _).mono ?_
      rintro e w2 ⟨rfl, b2⟩
      have HT2 := Lib.hid (HT.out.later b2)
      have HB2 := Lib.hid (HB.out.trans (b2.mono HB.out.size))
      clear b2 HT HB KC hc
      obtain ⟨t1, t2, t3, t4⟩ := app_one (S := S) HT2.out HB2.out (by rw [EL.out]; omega)
      have T1 := Lib.hid t1
      have T2 := Lib.hid t2
      have T3 := Lib.hid t3
      have T4 := Lib.hid t4
      clear t1 t2 t3 t4 HT2 HB2
      go_wp2_with (first | (refine Slot.wpList_app (W0 := w) (news := [S]) rfl _ _ rfl T1.out T2.out T3.out rfl rfl ?_; intro v3 w3 t3 g3; have HT5 := Lib.hid t3; have HB5 := Lib.hid (Slot.below_grown T4.out (fun x hx => (T1.out.own.lt x hx).1) g3); clear t3 g3))
      go_roundw
      case rel => exact ⟨k + 1, by omega, by go_num, by rw [NT.out]; exact HT5.out, HB5.out⟩
      case measure => simp [intOf]; omega
    · obtain rfl : k = n := by omega
      have eL : L.take k = L := List.take_of_length_le (by rw [← N.out]; exact Nat.le_refl _)
      rw [eL] at HT
      clear eL
      go_wp2_with fail
      go_ret
      exact ⟨_, rfl, HT.out, HB.out⟩

set_option maxRecDepth 100000 in
set_option maxHeartbeats 1000000 in
theorem roomy_any {w : World} {v u : Value} {l : List ByteArray} (p : Pg) (h : Page.Rows w v p.rows) (hr : Page.Rows w u l) (hu : used l ≤ 1000000) :
    Calls Tryd.prog 46 #[pgV p v, u] w fun e w' => e = .returned (.bool (Page.mayP { p with rows := l })) ∧ Below w.heap.size w w' := by
  have B := Lib.hid (below_new w (.cells (pgC p u) 26))
  have K := Lib.hid (Page.may_any { p with rows := l } (hr.alloc (.cells (pgC p u) 26)) hu)
  obtain ⟨ad, c, rfl, _⟩ := id h
  obtain ⟨ad2, c2, rfl, _⟩ := id hr
  clear h hr hu
  generalize Page.mayP _ = m at *
  generalize p.rows.length = n at *
  generalize l.length = n2 at *
  unfold pgV pgC at *
  go_enter Tryd.func46, Tryd.ntmps46
  go_wp2_with fail
  refine K.out.mono ?_
  rintro e w1 ⟨rfl, b1⟩
  have B1 := Lib.hid (B.out.trans (b1.mono B.out.size))
  clear b1 K B
  go_wp2_with fail
  go_ret
  exact ⟨rfl, B1.out⟩

theorem results_page1 {fn : Func} {p : Tmp} (h : fn.results = #[.cell p 26]) (tmps : Array Value) (w : World) (g : Nat) (cs : Array Value) (hp : tmps.getD p undef = .pointer (some ⟨g, 0, none⟩)) (hg : w.heap[g]? = some (.cells cs 26 (0, 0)))
    (hi : (Tryd.prog.info? 26).map (·.size) = some cs.size) : (results fn tmps).run Tryd.prog w = .ok (.agg cs) w := by
  have hp' : tmps[p]?.getD undef = .pointer (some ⟨g, 0, none⟩) := by simpa using hp
  simp [results, h, hp', asAddr, run_loadVar_row w g 26 26 cs (0, 0) _ hg Tryd.underlying26 rfl hi]
theorem results_page3 {fn : Func} {p k j : Tmp} (h : fn.results = #[.cell p 26, .tmp k, .tmp j]) (tmps : Array Value) (w : World) (g : Nat) (cs : Array Value) (u : Value) (c : Int) (hp : tmps.getD p undef = .pointer (some ⟨g, 0, none⟩)) (hk : tmps.getD k undef = u) (hj : tmps.getD j undef = .int .i64 c) (hg : w.heap[g]? = some (.cells cs 26 (0, 0)))
    (hi : (Tryd.prog.info? 26).map (·.size) = some cs.size) : (results fn tmps).run Tryd.prog w = .ok (.tuple #[.agg cs, u, .int .i64 c]) w := by
  have hp' : tmps[p]?.getD undef = .pointer (some ⟨g, 0, none⟩) := by simpa using hp
  have hk' : tmps[k]?.getD undef = u := by simpa using hk
  have hj' : tmps[j]?.getD undef = .int .i64 c := by simpa using hj
  simp [results, h, hp', hk', hj', asAddr, run_loadVar_row w g 26 26 cs (0, 0) _ hg Tryd.underlying26 rfl hi]

/-- a page whose rows are the call's own -/
def OwnPost (p : Pg) (w : World) (e : Ending) (w' : World) : Prop := Below w.heap.size w w' ∧ ∃ u, e = .returned (pgV p u) ∧ Page.Rows w' u p.rows ∧ CapOk u

set_option maxRecDepth 100000 in
set_option maxHeartbeats 2000000 in
theorem own_any {w : World} {v : Value} (p : Pg) (h : Page.Rows w v p.rows) (hu : used p.rows ≤ 1000000) :
    Calls Tryd.prog 47 #[pgV p v] w (OwnPost p w) := by
  have T0 := Lib.hid (Pp.start h)
  have K1 := Lib.hid (fun (W : World) (t : Pp w W w.heap.size (w.heap.size + 1) p v) => copied_any t.pb.rows hu)
  obtain ⟨ad, c, rfl, _⟩ := id h
  clear h hu
  obtain ⟨n, hn⟩ : ∃ n, n = p.rows.length := ⟨_, rfl⟩
  have NN := Lib.hid hn
  rw [← hn] at T0 K1 ⊢
  clear hn
  obtain ⟨a0, a1, a2, a3, a4, a5⟩ := T0.out.pb.six
  unfold pgV pgC at *
  go_enter Tryd.func47, Tryd.ntmps47
  go_wp2_with fail
  refine (K1.out _ T0.out).mono ?_
  rintro e w1 ⟨u, rfl, t1, b1⟩
  have T1 := Lib.hid (T0.out.later b1)
  obtain ⟨g, hg⟩ : ∃ g, g = w.heap.size := ⟨_, rfl⟩
  have G := Lib.hid hg
  have X1 := Lib.hid (show Slot.Tx w w1 u p.rows from tx_elder t1 (T0.out.pb.below.size))
  obtain ⟨ad2, cap2, rfl⟩ := t1.shape
  rw [← NN.out] at X1 ⊢
  rw [← hg] at T1 ⊢
  clear b1 T0 a0 a1 a2 a3 a4 a5 K1 t1 hg
  obtain ⟨q8, t8⟩ := T1.out.set (by rw [G.out]; exact Nat.le_refl _) (by omega) X1.out
  have Q8 := Lib.hid (show Pp w _ g (g + 1) p _ from q8)
  have X8 := Lib.hid t8
  have a5 := T1.out.pb.six.2.2.2.2.2
  have fz := frozen_of_row _ _ 5 _ _ T1.out.pb.box
  clear T1 X1 q8 t8
  obtain ⟨b0, b1, b2, b3, b4, b5⟩ := Q8.out.pb.six
  have HB := Lib.hid Q8.out.res
  have HL := Lib.hid Q8.out.pb.below
  have GR := Lib.hid (show w.heap.size ≤ g + 1 by have := G.out; omega)
  have CT := Lib.hid (Page.cap_tx X8.out)
  have TXR := Lib.hid (tx_setRow X8.out HB.out (pgC p (.slice ad2 n cap2)))
  go_wp2_with (refine wpList_store_row rfl 26 _ _ rfl (g + 1) (pgC p (.slice ad2 n cap2)) rfl rfl 26 zeroP HB.out info_page rfl (pg_one _ _ _ _) ?_)
  exact bodyPost_ret (v := pgV p (.slice ad2 n cap2)) (results_page1 Tryd.results47 _ _ (g + 1) (pgC p (.slice ad2 n cap2)) rfl (setRow_heap _ _ _ _ _ _ HB.out) info_page) rfl ⟨below_setRow HL.out GR.out _, _, rfl, Page.rows_tx TXR.out, CT.out⟩

end Go.Proofs.YtbdbnpcbbebelaaDoor.Node

namespace Go.Proofs.YtbdbnpcbbebelaaDoor.Node
open Go.RowKit
open Go.Proofs.YtbdbnpcbbebelaaDoor.Page (Pg nth used pgV pgC CapOk zeroP info_page results_page zero_one rows_head rows_tail Parts joinL NilOk)
attribute [local go_sem ↓] Go.wp_at_zero Go.wp_at_succ

theorem rows_one {w : World} (t : ByteArray) : Page.Rows (w.alloc (.cells #[.string t] 9)) (.slice (some ⟨w.heap.size, 0, none⟩) 1 1) [t] :=
  ⟨_, 1, rfl, .inr ⟨w.heap.size, 0, rfl, by simp, fun j hj => by
    have : j = 0 := by simpa using hj
    subst this
    rw [cell_of_row _ _ _ _ _ _ (heap_alloc_new w _)]
    rfl⟩⟩
theorem nil_some (a : Addr) (n c : Nat) : NilOk (.slice (some a) n c) := fun _ _ h => by cases h
/-- two slices in a block -/
theorem parts_two {w : World} {x y : Value} {A B : List ByteArray} (hx : Page.Rows w x A) (hy : Page.Rows w y B) (nx : NilOk x) (ny : NilOk y) :
    Parts (w.alloc (.cells #[x, y] 24)) w.heap.size [(x, A), (y, B)] :=
  ⟨heap_alloc_new w _, fun k hk => by
    match k, hk with
    | 0, _ => exact ⟨hx.alloc _, nx⟩
    | 1, _ => exact ⟨hy.alloc _, ny⟩⟩
/-- two slices, a text between them -/
theorem parts_three {w : World} {x y : Value} {A B : List ByteArray} (t : ByteArray) (hx : Page.Rows w x A) (hy : Page.Rows w y B) (nx : NilOk x) (ny : NilOk y) :
    Parts ((w.alloc (.cells #[.string t] 9)).alloc (.cells #[x, .slice (some ⟨w.heap.size, 0, none⟩) 1 1, y] 24)) (w.heap.size + 1) [(x, A), (.slice (some ⟨w.heap.size, 0, none⟩) 1 1, [t]), (y, B)] := by
  have e : (w.alloc (.cells #[.string t] 9)).heap.size = w.heap.size + 1 := by simp
  refine ⟨by rw [← e]; exact heap_alloc_new _ _, fun k hk => ?_⟩
  match k, hk with
  | 0, _ => exact ⟨(hx.alloc _).alloc _, nx⟩
  | 1, _ => exact ⟨(rows_one t).alloc _, nil_some _ _ _⟩
  | 2, _ => exact ⟨(hy.alloc _).alloc _, ny⟩

/-- a page, keys, a number -/
def PkPost (q : Pg) (L : List ByteArray) (c : Int) (w : World) (e : Ending) (w' : World) : Prop :=
  Below w.heap.size w w' ∧ ∃ v u, e = .returned (.tuple #[pgV q v, u, .int .i64 c]) ∧ Page.Rows w' v q.rows ∧ CapOk v ∧ Slot.Tx w w' u L
theorem PkPost.none {w w' : World} (c : Int) (h : Below w.heap.size w w') : PkPost Pg.zero [] c w (.returned (.tuple #[pgV Pg.zero (.slice none 0 0), .slice none 0 0, .int .i64 c])) w' := ⟨h, _, _, rfl, Page.Rows.nil _ _ _, Page.cap_none, Slot.Tx.nil _ h.size⟩

set_option maxRecDepth 100000 in
set_option maxHeartbeats 4000000 in
theorem with_node {w : World} {v : Value} (p : Pg) (x : Int) (t : ByteArray) (is : Bool) (h : Page.Rows w v p.rows) (hkd : p.kind < 256) (hu : used p.rows ≤ 900000) (hk : nodeB p = false) :
    Calls Tryd.prog 45 #[pgV p v, .int .i64 x, .string t, .bool is] w (PkPost Pg.zero [] 7 w) := by
  have T0 := Lib.hid (Pp.start h)
  have K1 := Lib.hid (fun (W : World) (t : Pp w W w.heap.size (w.heap.size + 1) p v) => check_any p t.pb.rows hkd (by omega))
  obtain ⟨ad, c, rfl, _⟩ := id h
  clear h hu hkd
  obtain ⟨n, hn⟩ : ∃ n, n = p.rows.length := ⟨_, rfl⟩
  rw [← hn] at T0 K1 ⊢
  clear hn
  have eci : checkI p = 7 := by unfold checkI; rw [hk]; rfl
  rw [eci] at K1
  obtain ⟨a0, a1, a2, a3, a4, a5⟩ := T0.out.pb.six
  unfold pgV pgC at *
  clear hk eci
  go_enter Tryd.func45, Tryd.ntmps45
  go_wp2_with fail
  refine (K1.out _ T0.out).mono ?_
  rintro e w1 ⟨rfl, b1⟩
  have T1 := Lib.hid (T0.out.later b1)
  clear b1 T0 a0 a1 a2 a3 a4 a5 K1
  have HB := Lib.hid T1.out.res
  have HL := Lib.hid T1.out.pb.below
  have G := Lib.hid (show w.heap.size ≤ w.heap.size + 1 by omega)
  clear T1
  generalize w.heap.size + 1 = r at *
  go_wp2_with (refine wpList_store_row rfl 26 _ _ rfl r zeroP rfl rfl 26 zeroP HB.out info_page rfl zero_one ?_)
  exact bodyPost_ret (v := .tuple #[pgV Pg.zero (.slice none 0 0), .slice none 0 0, .int .i64 7]) (results_page3 Tryd.results45 _ _ r zeroP _ 7 rfl rfl rfl (setRow_heap _ _ _ _ _ _ HB.out) info_page) rfl (PkPost.none 7 (below_setRow HL.out G.out _))

set_option maxRecDepth 100000 in
set_option maxHeartbeats 4000000 in
theorem with_at {w : World} {v : Value} (p : Pg) (x : Int) (t : ByteArray) (is : Bool) (h : Page.Rows w v p.rows) (hkd : p.kind < 256) (hu : used p.rows ≤ 900000) (hk : nodeB p = true) (hx : atB p x is = false) :
    Calls Tryd.prog 45 #[pgV p v, .int .i64 x, .string t, .bool is] w (PkPost Pg.zero [] 2 w) := by
  have T0 := Lib.hid (Pp.start h)
  have K1 := Lib.hid (fun (W : World) (t : Pp w W w.heap.size (w.heap.size + 1) p v) => check_any p t.pb.rows hkd (by omega))
  have K2 := Lib.hid (fun (W : World) (t : Pp w W w.heap.size (w.heap.size + 1) p v) => isrow_any p x t.pb.rows (by have := Page.used_len p.rows; omega))
  obtain ⟨ad, c, rfl, _⟩ := id h
  clear h hu hkd
  have hx2 : ¬ (0 ≤ x ∧ x < (p.rows.length : Nat)) ∧ (is = true ∨ x ≠ ((p.rows.length : Nat) : Int)) := by
    unfold atB at hx
    cases is with
    | false =>
      simp at hx
      exact ⟨fun h => by have := hx h.1; omega, .inr (fun e => by have := hx (by omega); omega)⟩
    | true =>
      simp at hx
      exact ⟨fun h => by have := hx h.1 (by omega); omega, .inl rfl⟩
  obtain ⟨n, hn⟩ : ∃ n, n = p.rows.length := ⟨_, rfl⟩
  rw [← hn] at T0 K1 K2 hx2 ⊢
  clear hn hx
  rw [decide_eq_false hx2.1] at K2
  have hx3 := hx2.2
  have eci : checkI p = 0 := by unfold checkI; rw [hk]; rfl
  rw [eci] at K1
  obtain ⟨a0, a1, a2, a3, a4, a5⟩ := T0.out.pb.six
  unfold pgV pgC at *
  clear hk eci hx2
  go_enter Tryd.func45, Tryd.ntmps45
  go_wp2_with fail
  refine (K1.out _ T0.out).mono ?_
  rintro e w1 ⟨rfl, b1⟩
  have T1 := Lib.hid (T0.out.later b1)
  clear b1 T0 a0 a1 a2 a3 a4 a5 K1
  obtain ⟨a0, a1, a2, a3, a4, a5⟩ := T1.out.pb.six
  go_wp2_with fail
  refine (K2.out _ T1.out).mono ?_
  rintro e w2 ⟨rfl, b2⟩
  have T2 := Lib.hid (T1.out.later b2)
  clear b2 T1 a0 a1 a2 a3 a4 a5 K2
  obtain ⟨a0, a1, a2, a3, a4, a5⟩ := T2.out.pb.six
  have HB := Lib.hid T2.out.res
  have HL := Lib.hid T2.out.pb.below
  have G := Lib.hid (show w.heap.size ≤ w.heap.size + 1 by omega)
  clear T2
  generalize w.heap.size + 1 = r at *
  cases is with
  | true =>
    clear hx3
    go_wp2_with (refine wpList_store_row rfl 26 _ _ rfl r zeroP rfl rfl 26 zeroP HB.out info_page rfl zero_one ?_)
    exact bodyPost_ret (v := .tuple #[pgV Pg.zero (.slice none 0 0), .slice none 0 0, .int .i64 2]) (results_page3 Tryd.results45 _ _ r zeroP _ 2 rfl rfl rfl (setRow_heap _ _ _ _ _ _ HB.out) info_page) rfl (PkPost.none 2 (below_setRow HL.out G.out _))
  | false =>
    have e3 : (x != (n : Int)) = true := by
      rcases hx3 with e | e
      · cases e
      · simpa using e
    clear hx3
    go_wp2_with (refine wpList_store_row rfl 26 _ _ rfl r zeroP rfl rfl 26 zeroP HB.out info_page rfl zero_one ?_)
    exact bodyPost_ret (v := .tuple #[pgV Pg.zero (.slice none 0 0), .slice none 0 0, .int .i64 2]) (results_page3 Tryd.results45 _ _ r zeroP _ 2 rfl rfl rfl (setRow_heap _ _ _ _ _ _ HB.out) info_page) rfl (PkPost.none 2 (below_setRow HL.out G.out _))

end Go.Proofs.YtbdbnpcbbebelaaDoor.Node
