/-
  Walks: the law's pages of rows, of entries.
  Walks: the answers that the document fixes.
-/
import Derived.Test.YtbdbnpcbbebelaaDoorZ18
import Derived.Test.YtbdbnpcbbebelaaDoorZ23
import Derived.Test.YtbdbnpcbbebelaaDoorZ4
namespace Go.Proofs.YtbdbnpcbbebelaaDoor.Node
open Go.RowKit
open Go.Proofs.YtbdbnpcbbebelaaDoor.Page (Pg nth used pgV pgC CapOk zeroP info_page results_page zero_one)
open Go.Proofs.YtbdbnpcbbebelaaDoor.Row (Rw En rwC rwV enC enV encS encE entS entE)
attribute [local go_sem ↓] Go.wp_at_zero Go.wp_at_succ

/-! ### slices of rows, of entries -/
structure RwAt (w : World) (x o : Nat) (r : Rw) : Prop where
  c0 : w.cell? ⟨x, o, none⟩ = some (.string r.key)
  c1 : w.cell? ⟨x, o + 1, none⟩ = some (.bool r.mark)
  c2 : w.cell? ⟨x, o + 2, none⟩ = some (.int .u64 (r.tx : Int))
  c3 : w.cell? ⟨x, o + 3, none⟩ = some (.int .u32 (r.page : Int))
  c4 : w.cell? ⟨x, o + 4, none⟩ = some (.int .u16 (r.slot : Int))
  c5 : w.cell? ⟨x, o + 5, none⟩ = some (.string r.value)
  c6 : w.cell? ⟨x, o + 6, none⟩ = some (.int .i64 r.pad)
  wf : r.wf
structure EnAt (w : World) (x o : Nat) (r : En) : Prop where
  c0 : w.cell? ⟨x, o, none⟩ = some (.string r.key)
  c1 : w.cell? ⟨x, o + 1, none⟩ = some (.int .u32 (r.child : Int))
  wf : r.wf
def IsRws (w : World) (v : Value) (l : List Rw) : Prop :=
  ∃ a cap, v = .slice a l.length cap ∧ ∀ i r, l[i]? = some r → ∃ x o, a = some ⟨x, o, none⟩ ∧ RwAt w x (o + i * 7) r
def IsEns (w : World) (v : Value) (l : List En) : Prop :=
  ∃ a cap, v = .slice a l.length cap ∧ ∀ i r, l[i]? = some r → ∃ x o, a = some ⟨x, o, none⟩ ∧ EnAt w x (o + i * 2) r
theorem RwAt.far {w w' : World} {x o : Nat} {c : Rw} (h : RwAt w x o c) (t : w'.heap[x]? = w.heap[x]?) : RwAt w' x o c := by
  have e : ∀ j, w'.cell? ⟨x, j, none⟩ = w.cell? ⟨x, j, none⟩ := fun j => World.cell?_of_block t
  exact ⟨(e _).trans h.c0, (e _).trans h.c1, (e _).trans h.c2, (e _).trans h.c3, (e _).trans h.c4, (e _).trans h.c5, (e _).trans h.c6, h.wf⟩
theorem EnAt.far {w w' : World} {x o : Nat} {c : En} (h : EnAt w x o c) (t : w'.heap[x]? = w.heap[x]?) : EnAt w' x o c := by
  have e : ∀ j, w'.cell? ⟨x, j, none⟩ = w.cell? ⟨x, j, none⟩ := fun j => World.cell?_of_block t
  exact ⟨(e _).trans h.c0, (e _).trans h.c1, h.wf⟩
theorem IsRws.later {w w' : World} {v : Value} {l : List Rw} (h : IsRws w v l) (t : Below w.heap.size w w') : IsRws w' v l := by
  obtain ⟨a, cap, hv, hc⟩ := h
  refine ⟨a, cap, hv, fun i c hi => ?_⟩
  obtain ⟨x, o, ha, h1⟩ := hc i c hi
  exact ⟨x, o, ha, h1.far (t.block x (block_lt_of_cell h1.c0))⟩
theorem IsEns.later {w w' : World} {v : Value} {l : List En} (h : IsEns w v l) (t : Below w.heap.size w w') : IsEns w' v l := by
  obtain ⟨a, cap, hv, hc⟩ := h
  refine ⟨a, cap, hv, fun i c hi => ?_⟩
  obtain ⟨x, o, ha, h1⟩ := hc i c hi
  exact ⟨x, o, ha, h1.far (t.block x (block_lt_of_cell h1.c0))⟩
theorem IsRws.at {w : World} {v : Value} {l : List Rw} (h : IsRws w v l) {k : Nat} (hk : k < l.length) : ∃ x o cap, v = .slice (some ⟨x, o, none⟩) l.length cap ∧ RwAt w x (o + k * 7) l[k] := by
  obtain ⟨a, cap, hv, hc⟩ := h
  obtain ⟨x, o, ha, h1⟩ := hc k l[k] (List.getElem?_eq_getElem hk)
  exact ⟨x, o, cap, by rw [hv, ha], h1⟩
theorem IsEns.at {w : World} {v : Value} {l : List En} (h : IsEns w v l) {k : Nat} (hk : k < l.length) : ∃ x o cap, v = .slice (some ⟨x, o, none⟩) l.length cap ∧ EnAt w x (o + k * 2) l[k] := by
  obtain ⟨a, cap, hv, hc⟩ := h
  obtain ⟨x, o, ha, h1⟩ := hc k l[k] (List.getElem?_eq_getElem hk)
  exact ⟨x, o, cap, by rw [hv, ha], h1⟩

/-- a page of rows, of entries -/
def leafP (l : List Rw) : Pg := ⟨1, 0, 5, 0, 9, l.map encS⟩
def innerP (l : List En) : Pg := ⟨2, 1, 6, 0, 0, l.map entS⟩
/-- a page that is being built, and the result -/
structure Bd (W0 w : World) (b r : Nat) (p : Pg) (u : Value) : Prop where
  nbox : w.heap[b]? = some (.cells (pgC p u) 26 (0, 0))
  res : w.heap[r]? = some (.cells zeroP 26 (0, 0))
  below : Below W0.heap.size W0 w
  base : W0.heap.size ≤ b
  ne : r ≠ b
section
variable {W0 w w' : World} {b r : Nat} {p : Pg} {u z : Value} {l : List ByteArray}
theorem Bd.later (m : Bd W0 w b r p u) (t : Below w.heap.size w w') : Bd W0 w' b r p u :=
  ⟨old_blk t m.nbox, old_blk t m.res, m.below.trans (t.mono m.below.size), m.base, m.ne⟩
theorem Bd.grown (m : Bd W0 w b r p u) (ht : Slot.Tx W0 w z l) (t : w.grownBy w' z.ownBlock) : Bd W0 w' b r p u := by
  have bl : ∀ {i : Nat} {cs : Array Value}, w.heap[i]? = some (.cells cs 26 (0, 0)) → w'.heap[i]? = some (.cells cs 26 (0, 0)) := fun {i cs} e =>
    (t.block i (Array.getElem?_eq_some_iff.1 e).1 (fun e2 => tx_ne ht e i e2.symm rfl)).trans e
  exact ⟨bl m.nbox, bl m.res, Slot.below_grown m.below (fun k hk => (ht.own.lt k hk).1) t, m.base, m.ne⟩
theorem Bd.tx (m : Bd W0 w b r p u) (t : Slot.Tx W0 w z l) (k : Nat) (a : Value) : Slot.Tx W0 (w.setCell ⟨b, k, none⟩ a) z l :=
  t.far (by simp [World.setCell]) fun i hi => heap_setCell_other _ _ _ _ (tx_ne t m.nbox i hi)
theorem Bd.rows (m : Bd W0 w b r p u) (z : Value) (l : List ByteArray) : Bd W0 (w.setCell ⟨b, 5, none⟩ z) b r { p with rows := l } z :=
  ⟨heap_setCell_same w b 5 _ _ z m.nbox, (heap_setCell_other _ _ _ _ (show r ≠ b from m.ne)).trans m.res, m.below.setCell m.base _, m.base, m.ne⟩
end
theorem two_boxes (w : World) (p : Pg) (v : Value) : Bd w ((w.alloc (.cells zeroP 26)).alloc (.cells (pgC p v) 26)) (w.heap.size + 1) w.heap.size p v := by
  have e1 : (w.alloc (.cells zeroP 26)).heap.size = w.heap.size + 1 := by simp
  have b1 := below_new w (.cells zeroP 26)
  have b2 := below_new (w.alloc (.cells zeroP 26)) (.cells (pgC p v) 26)
  have h1 := heap_alloc_new w (.cells zeroP 26)
  have h2 := heap_alloc_new (w.alloc (.cells zeroP 26)) (.cells (pgC p v) 26)
  rw [e1] at h2
  exact ⟨h2, old_blk b2 h1, b1.trans (b2.mono b1.size), by omega, by omega⟩

set_option maxRecDepth 100000 in
set_option maxHeartbeats 4000000 in
theorem leaf_any {w : World} {v : Value} (l : List Rw) (h : IsRws w v l) (hl : l.length ≤ 100000) :
    Calls Tryd.prog 31 #[v] w (OwnPost (leafP l) w) := by
  have H := Lib.hid h
  obtain ⟨ad, c, rfl, _⟩ := h
  obtain ⟨n, hn⟩ : ∃ n, n = l.length := ⟨_, rfl⟩
  have N := Lib.hid hn
  rw [← hn] at H hl ⊢
  clear hn
  have T0 := Lib.hid (two_boxes w (leafP []) (.slice none 0 0))
  have X0 := Lib.hid (Slot.Tx.nil w T0.out.below.size)
  have OP := Lib.hid (show ∀ w, OwnPost (leafP l) w = fun e w' => Below w.heap.size w w' ∧ ∃ u, e = .returned (pgV (leafP l) u) ∧ Page.Rows w' u (leafP l).rows ∧ CapOk u from fun _ => rfl)
  have HW := Lib.hid (show ∀ k j, { leafP (l.take j) with rows := (l.take k).map encS } = leafP (l.take k) from fun _ _ => rfl)
  go_enter Tryd.func31, Tryd.ntmps31
  go_wp2_with fail
  obtain ⟨gb, hgb⟩ : ∃ g, g = w.heap.size + 1 := ⟨_, rfl⟩
  have GB := Lib.hid hgb
  rw [← hgb] at T0 ⊢
  obtain ⟨gr, hgr⟩ : ∃ g, g = w.heap.size := ⟨_, rfl⟩
  have GR := Lib.hid (show w.heap.size ≤ gr by omega)
  rw [← hgr] at T0 ⊢
  clear hgb hgr
  go_loopw [4] (fun i wr => ∃ (k : Nat) (u : Value), k ≤ n ∧ i = .int .i64 (k : Int) ∧ Bd w wr gb gr (leafP (l.take k)) u ∧ Slot.Tx w wr u ((l.take k).map encS)) (fun i _ => n - (intOf i).toNat)
  case atStart => exact ⟨0, _, by omega, by go_num, T0.out, X0.out⟩
  case round =>
    obtain ⟨k, u, hk, rfl, hp, ht⟩ := hrel
    have HP := Lib.hid hp
    have HT := Lib.hid ht
    clear hp ht T0 X0
    by_cases hlt : k < n
    · have hlt2 : k < l.length := by rw [← N.out]; exact hlt
      obtain ⟨x, o, cap', hv, hat⟩ := (H.out.later HP.out.below).at hlt2
      simp only [Value.slice.injEq] at hv
      obtain ⟨rfl, e9, rfl⟩ := hv
      clear e9
      have TK := Lib.hid (show (l.take (k + 1)).map encS = (l.take k).map encS ++ [encS l[k]] by rw [List.take_succ_eq_append_getElem hlt2, List.map_append]; rfl)
      have KE := Lib.hid (fun W => Row.rencode_any l[k] W hat.wf)
      obtain ⟨c0, c1, c2, c3, c4, c5, c6, _⟩ := hat
      generalize encS l[k] = S at *
      generalize encE l[k] = E at *
      generalize l[k] = r at *
      unfold rwV rwC at KE
      obtain ⟨adu, capu, hu⟩ := HT.out.shape
      subst hu
      have eL : ((l.take k).map encS).length = k := by rw [List.length_map, List.length_take]; omega
      rw [eL] at HT HP
      have EL := Lib.hid eL
      have EL2 := Lib.hid (show ((l.take k).map encS ++ [S]).length = k + 1 by rw [List.length_append, eL]; rfl)
      clear eL hlt2
      go_wp2_with fail
      refine (KE.out _).mono ?_
      rintro e w2 ⟨rfl, b2⟩
      have HP2 := Lib.hid (HP.out.later b2)
      have HT2 := Lib.hid (HT.out.later b2)
      clear b2 HP HT KE c0 c1 c2 c3 c4 c5 c6
      obtain ⟨t1, t2, t3, t4⟩ := app_one (S := S) HT2.out HP2.out.below (by rw [EL.out]; omega)
      have T1 := Lib.hid t1
      have T2 := Lib.hid t2
      have T3 := Lib.hid t3
      have HP3 := Lib.hid (HP2.out.later (below_new w2 (.cells #[.string S] 9)))
      have a5 := (six_of HP2.out.nbox).2.2.2.2.2
      have hgl : gb < w2.heap.size := (Array.getElem?_eq_some_iff.1 HP2.out.nbox).1
      clear t1 t2 t3 t4 HT2 HP2
      go_wp2_with (first | (refine Slot.wpList_app (W0 := w) (news := [S]) rfl _ _ rfl T1.out T2.out T3.out rfl rfl ?_; intro v5 w5 t5 g5; obtain ⟨ad5, cap5, rfl⟩ := t5.shape; rw [EL2.out] at t5 ⊢; have HP5 := Lib.hid (HP3.out.grown T1.out g5); have b5 := (six_of HP5.out.nbox).2.2.2.2.2; have fz := frozen_of_row _ _ 5 _ _ HP5.out.nbox; have T5 := Lib.hid t5; clear t5 g5 a5 hgl))
      have HP6 := Lib.hid (HP5.out.rows (.slice ad5 (k + 1) cap5) ((l.take k).map encS ++ [S]))
      have T6 := Lib.hid (HP5.out.tx T5.out 5 (.slice ad5 (k + 1) cap5))
      rw [← TK.out] at HP6 T6
      rw [HW.out] at HP6
      clear HP5 T5 b5 fz T1 T2 T3 HP3
      go_roundw
      case rel => exact ⟨k + 1, _, by omega, by go_num, HP6.out, T6.out⟩
      case measure => simp [intOf]; omega
    · obtain rfl : k = n := by omega
      have eT : l.take k = l := List.take_of_length_le (by rw [← N.out]; exact Nat.le_refl _)
      rw [eT] at HP HT
      obtain ⟨adu, capu, hu⟩ := HT.out.shape
      subst hu
      have HB := Lib.hid HP.out.res
      have HL := Lib.hid HP.out.below
      have CT := Lib.hid (Page.cap_tx HT.out)
      obtain ⟨m, hm⟩ : ∃ m, m = (l.map encS).length := ⟨_, rfl⟩
      rw [← hm] at HP HT CT
      have HX := Lib.hid (show Slot.Tx w wr (.slice adu m capu) (leafP l).rows from HT.out)
      clear hm eT HT H
      generalize leafP l = q at *
      have TXR := Lib.hid (tx_setRow HX.out HB.out (pgC q (.slice adu m capu)))
      obtain ⟨b0, b1, b2, b3, b4, b5⟩ := six_of HP.out.nbox
      clear HX
      go_wp2_with (refine wpList_store_row rfl 26 _ _ rfl gr (pgC q (.slice adu m capu)) rfl rfl 26 zeroP HB.out info_page rfl (pg_one _ _ _ _) ?_)
      exact bodyPost_ret (v := pgV q (.slice adu m capu)) (results_page1 Tryd.results31 _ _ gr (pgC q (.slice adu m capu)) rfl (setRow_heap _ _ _ _ _ _ HB.out) info_page) rfl ⟨below_setRow HL.out GR.out _, _, rfl, Page.rows_tx TXR.out, CT.out⟩

set_option maxRecDepth 100000 in
set_option maxHeartbeats 4000000 in
theorem inner_any {w : World} {v : Value} (l : List En) (h : IsEns w v l) (hl : l.length ≤ 100000) :
    Calls Tryd.prog 35 #[v] w (OwnPost (innerP l) w) := by
  have H := Lib.hid h
  obtain ⟨ad, c, rfl, _⟩ := h
  obtain ⟨n, hn⟩ : ∃ n, n = l.length := ⟨_, rfl⟩
  have N := Lib.hid hn
  rw [← hn] at H hl ⊢
  clear hn
  have T0 := Lib.hid (two_boxes w (innerP []) (.slice none 0 0))
  have X0 := Lib.hid (Slot.Tx.nil w T0.out.below.size)
  have OP := Lib.hid (show ∀ w, OwnPost (innerP l) w = fun e w' => Below w.heap.size w w' ∧ ∃ u, e = .returned (pgV (innerP l) u) ∧ Page.Rows w' u (innerP l).rows ∧ CapOk u from fun _ => rfl)
  have HW := Lib.hid (show ∀ k j, { innerP (l.take j) with rows := (l.take k).map entS } = innerP (l.take k) from fun _ _ => rfl)
  go_enter Tryd.func35, Tryd.ntmps35
  go_wp2_with fail
  obtain ⟨gb, hgb⟩ : ∃ g, g = w.heap.size + 1 := ⟨_, rfl⟩
  have GB := Lib.hid hgb
  rw [← hgb] at T0 ⊢
  obtain ⟨gr, hgr⟩ : ∃ g, g = w.heap.size := ⟨_, rfl⟩
  have GR := Lib.hid (show w.heap.size ≤ gr by omega)
  rw [← hgr] at T0 ⊢
  clear hgb hgr
  go_loopw [4] (fun i wr => ∃ (k : Nat) (u : Value), k ≤ n ∧ i = .int .i64 (k : Int) ∧ Bd w wr gb gr (innerP (l.take k)) u ∧ Slot.Tx w wr u ((l.take k).map entS)) (fun i _ => n - (intOf i).toNat)
  case atStart => exact ⟨0, _, by omega, by go_num, T0.out, X0.out⟩
  case round =>
    obtain ⟨k, u, hk, rfl, hp, ht⟩ := hrel
    have HP := Lib.hid hp
    have HT := Lib.hid ht
    clear hp ht T0 X0
    by_cases hlt : k < n
    · have hlt2 : k < l.length := by rw [← N.out]; exact hlt
      obtain ⟨x, o, cap', hv, hat⟩ := (H.out.later HP.out.below).at hlt2
      simp only [Value.slice.injEq] at hv
      obtain ⟨rfl, e9, rfl⟩ := hv
      clear e9
      have TK := Lib.hid (show (l.take (k + 1)).map entS = (l.take k).map entS ++ [entS l[k]] by rw [List.take_succ_eq_append_getElem hlt2, List.map_append]; rfl)
      have KE := Lib.hid (fun W => Row.rent_any l[k] W hat.wf)
      obtain ⟨c0, c1, _⟩ := hat
      generalize entS l[k] = S at *
      generalize entE l[k] = E at *
      generalize l[k] = r at *
      unfold enV enC at KE
      obtain ⟨adu, capu, hu⟩ := HT.out.shape
      subst hu
      have eL : ((l.take k).map entS).length = k := by rw [List.length_map, List.length_take]; omega
      rw [eL] at HT HP
      have EL := Lib.hid eL
      have EL2 := Lib.hid (show ((l.take k).map entS ++ [S]).length = k + 1 by rw [List.length_append, eL]; rfl)
      clear eL hlt2
      go_wp2_with fail
      refine (KE.out _).mono ?_
      rintro e w2 ⟨rfl, b2⟩
      have HP2 := Lib.hid (HP.out.later b2)
      have HT2 := Lib.hid (HT.out.later b2)
      clear b2 HP HT KE c0 c1
      obtain ⟨t1, t2, t3, t4⟩ := app_one (S := S) HT2.out HP2.out.below (by rw [EL.out]; omega)
      have T1 := Lib.hid t1
      have T2 := Lib.hid t2
      have T3 := Lib.hid t3
      have HP3 := Lib.hid (HP2.out.later (below_new w2 (.cells #[.string S] 9)))
      have a5 := (six_of HP2.out.nbox).2.2.2.2.2
      have hgl : gb < w2.heap.size := (Array.getElem?_eq_some_iff.1 HP2.out.nbox).1
      clear t1 t2 t3 t4 HT2 HP2
      go_wp2_with (first | (refine Slot.wpList_app (W0 := w) (news := [S]) rfl _ _ rfl T1.out T2.out T3.out rfl rfl ?_; intro v5 w5 t5 g5; obtain ⟨ad5, cap5, rfl⟩ := t5.shape; rw [EL2.out] at t5 ⊢; have HP5 := Lib.hid (HP3.out.grown T1.out g5); have b5 := (six_of HP5.out.nbox).2.2.2.2.2; have fz := frozen_of_row _ _ 5 _ _ HP5.out.nbox; have T5 := Lib.hid t5; clear t5 g5 a5 hgl))
      have HP6 := Lib.hid (HP5.out.rows (.slice ad5 (k + 1) cap5) ((l.take k).map entS ++ [S]))
      have T6 := Lib.hid (HP5.out.tx T5.out 5 (.slice ad5 (k + 1) cap5))
      rw [← TK.out] at HP6 T6
      rw [HW.out] at HP6
      clear HP5 T5 b5 fz T1 T2 T3 HP3
      go_roundw
      case rel => exact ⟨k + 1, _, by omega, by go_num, HP6.out, T6.out⟩
      case measure => simp [intOf]; omega
    · obtain rfl : k = n := by omega
      have eT : l.take k = l := List.take_of_length_le (by rw [← N.out]; exact Nat.le_refl _)
      rw [eT] at HP HT
      obtain ⟨adu, capu, hu⟩ := HT.out.shape
      subst hu
      have HB := Lib.hid HP.out.res
      have HL := Lib.hid HP.out.below
      have CT := Lib.hid (Page.cap_tx HT.out)
      obtain ⟨m, hm⟩ : ∃ m, m = (l.map entS).length := ⟨_, rfl⟩
      rw [← hm] at HP HT CT
      have HX := Lib.hid (show Slot.Tx w wr (.slice adu m capu) (innerP l).rows from HT.out)
      clear hm eT HT H
      generalize innerP l = q at *
      have TXR := Lib.hid (tx_setRow HX.out HB.out (pgC q (.slice adu m capu)))
      obtain ⟨b0, b1, b2, b3, b4, b5⟩ := six_of HP.out.nbox
      clear HX
      go_wp2_with (refine wpList_store_row rfl 26 _ _ rfl gr (pgC q (.slice adu m capu)) rfl rfl 26 zeroP HB.out info_page rfl (pg_one _ _ _ _) ?_)
      exact bodyPost_ret (v := pgV q (.slice adu m capu)) (results_page1 Tryd.results35 _ _ gr (pgC q (.slice adu m capu)) rfl (setRow_heap _ _ _ _ _ _ HB.out) info_page) rfl ⟨below_setRow HL.out GR.out _, _, rfl, Page.rows_tx TXR.out, CT.out⟩


end Go.Proofs.YtbdbnpcbbebelaaDoor.Node

namespace Go.Proofs.YtbdbnpcbbebelaaDoor.Node
open Go.RowKit
open Go.Proofs.YtbdbnpcbbebelaaDoor.Page (Pg nth used pgV pgC CapOk zeroP info_page results_page zero_one)
open Go.Proofs.YtbdbnpcbbebelaaDoor.Row (Rw En rwC rwV enC enV encS encE entS entE)
attribute [local go_sem ↓] Go.wp_at_zero Go.wp_at_succ

def alR (c : UInt8) : Rw := ⟨⟨#[c]⟩, false, 0, 0, 0, ⟨#[]⟩, 0⟩
def alE : En := ⟨⟨#[]⟩, 2⟩
def alF : En := ⟨⟨#[109]⟩, 3⟩
theorem alR_wf (c : UInt8) : (alR c).wf := ⟨by show 0 < 18446744073709551616; omega, by show 0 < 4294967296; omega, by show 0 < 65536; omega, by show (-9223372036854775808 : Int) ≤ 0 ∧ (0 : Int) ≤ 9223372036854775807; omega, by show 1 ≤ 140737488351232; omega, by show 0 ≤ 140737488351232; omega⟩
theorem alE_wf : alE.wf := ⟨by decide, by decide⟩
theorem alF_wf : alF.wf := ⟨by decide, by decide⟩
def alP : Pg := leafP [alR 97, alR 99]
def alQ : Pg := innerP [alE, alF]
def alS : ByteArray := encS (alR 98)
theorem al_facts : findI alP ⟨#[98]⟩ = 1 ∧ findB alP ⟨#[98]⟩ = false ∧ findI alP ⟨#[99]⟩ = 1 ∧ findB alP ⟨#[99]⟩ = true ∧ chC alQ ⟨#[107]⟩ = 2 ∧ chE alQ = 0 ∧ chC alQ ⟨#[109]⟩ = 3 := by decide +kernel
theorem al_facts2 : withE alP 1 alS false = 0 ∧ (withR alP 1 alS false).rows.length = 3 ∧ withE alP 0 alS false = 7 ∧ (splA alP 1 alS false).length = 1 ∧ (splB alP 1 alS false).length = 2 ∧ splS alP 1 alS false = ⟨#[98]⟩ ∧ splE alP 1 alS false = 0 := by decide +kernel
theorem al_facts3 : mrgE (leafP [alR 97]) (leafP [alR 99]) = 0 ∧ (mrgR (leafP [alR 97]) (leafP [alR 99])).rows.length = 2 ∧ decide (3 * (used alP.rows : Int) < 488) = true ∧ checkI alQ = 0 ∧ checkI ⟨2, 1, 1, 0, 0, []⟩ = 7 := by decide +kernel
theorem al_used : used alP.rows ≤ 1000 ∧ used alQ.rows ≤ 1000 ∧ alS.size ≤ 1000 ∧ used (leafP [alR 97]).rows ≤ 1000 ∧ used (leafP [alR 99]).rows ≤ 1000 := by decide +kernel

theorem rws_one (w : World) (a : Rw) (ha : a.wf) : IsRws (w.alloc (.cells #[.string a.key, .bool a.mark, .int .u64 (a.tx : Int), .int .u32 (a.page : Int), .int .u16 (a.slot : Int), .string a.value, .int .i64 a.pad] 68)) (.slice (some ⟨w.heap.size, 0, none⟩) 1 1) [a] := by
  refine ⟨_, _, rfl, fun i r hi => ⟨w.heap.size, 0, rfl, ?_⟩⟩
  have h := heap_alloc_new w (.cells #[.string a.key, .bool a.mark, .int .u64 (a.tx : Int), .int .u32 (a.page : Int), .int .u16 (a.slot : Int), .string a.value, .int .i64 a.pad] 68)
  match i, hi with
  | 0, hi =>
    cases hi
    refine ⟨?_, ?_, ?_, ?_, ?_, ?_, ?_, ha⟩ <;> (rw [cell_of_row _ _ _ _ _ _ h]; rfl)
theorem rws_two (w : World) (a b : Rw) (ha : a.wf) (hb : b.wf) : IsRws (w.alloc (.cells #[.string a.key, .bool a.mark, .int .u64 (a.tx : Int), .int .u32 (a.page : Int), .int .u16 (a.slot : Int), .string a.value, .int .i64 a.pad, .string b.key, .bool b.mark, .int .u64 (b.tx : Int), .int .u32 (b.page : Int), .int .u16 (b.slot : Int), .string b.value, .int .i64 b.pad] 68)) (.slice (some ⟨w.heap.size, 0, none⟩) 2 2) [a, b] := by
  refine ⟨_, _, rfl, fun i r hi => ⟨w.heap.size, 0, rfl, ?_⟩⟩
  have h := heap_alloc_new w (.cells #[.string a.key, .bool a.mark, .int .u64 (a.tx : Int), .int .u32 (a.page : Int), .int .u16 (a.slot : Int), .string a.value, .int .i64 a.pad, .string b.key, .bool b.mark, .int .u64 (b.tx : Int), .int .u32 (b.page : Int), .int .u16 (b.slot : Int), .string b.value, .int .i64 b.pad] 68)
  match i, hi with
  | 0, hi =>
    cases hi
    refine ⟨?_, ?_, ?_, ?_, ?_, ?_, ?_, ha⟩ <;> (rw [cell_of_row _ _ _ _ _ _ h]; rfl)
  | 1, hi =>
    cases hi
    refine ⟨?_, ?_, ?_, ?_, ?_, ?_, ?_, hb⟩ <;> (rw [cell_of_row _ _ _ _ _ _ h]; rfl)
theorem ens_two (w : World) (a b : En) (ha : a.wf) (hb : b.wf) : IsEns (w.alloc (.cells #[.string a.key, .int .u32 (a.child : Int), .string b.key, .int .u32 (b.child : Int)] 73)) (.slice (some ⟨w.heap.size, 0, none⟩) 2 2) [a, b] := by
  refine ⟨_, _, rfl, fun i r hi => ⟨w.heap.size, 0, rfl, ?_⟩⟩
  have h := heap_alloc_new w (.cells #[.string a.key, .int .u32 (a.child : Int), .string b.key, .int .u32 (b.child : Int)] 73)
  match i, hi with
  | 0, hi =>
    cases hi
    refine ⟨?_, ?_, ha⟩ <;> (rw [cell_of_row _ _ _ _ _ _ h]; rfl)
  | 1, hi =>
    cases hi
    refine ⟨?_, ?_, hb⟩ <;> (rw [cell_of_row _ _ _ _ _ _ h]; rfl)

/-- both pages -/
structure Al (W0 w : World) (g h : Nat) (p q : Pg) (u v : Value) : Prop where
  a : Pb W0 w g p u
  b : Pb W0 w h q v
theorem Al.later {W0 w w' : World} {g h : Nat} {p q : Pg} {u v : Value} (m : Al W0 w g h p q u v) (t : Below w.heap.size w w') : Al W0 w' g h p q u v := ⟨m.a.later t, m.b.later t⟩
theorem Pb.make {W0 w : World} {p : Pg} {u : Value} (b : Below W0.heap.size W0 w) (h : Page.Rows w u p.rows) : Pb W0 (w.alloc (.cells (pgC p u) 26)) w.heap.size p u :=
  ⟨heap_alloc_new w _, h.alloc _, b.trans ((below_new w _).mono b.size)⟩
/-- what a call that makes a page answers -/
theorem pg_post {q : Pg} {c : Int} {w : World} {f : FuncId} {xs : Array Value} {w0 : World} (h : Calls Tryd.prog f xs w0 (PgPost q c w)) :
    Calls Tryd.prog f xs w0 fun e w' => ∃ ad cap, e = .returned (.tuple #[pgV q (.slice ad q.rows.length cap), .int .i64 c]) ∧ Below w.heap.size w w' ∧ Page.Rows w' (.slice ad q.rows.length cap) q.rows ∧ CapOk (.slice ad q.rows.length cap) :=
  h.mono fun e w' ⟨b, v, he, hr, hc⟩ => by
    obtain ⟨ad, cap, hv, _⟩ := id hr
    subst hv
    exact ⟨ad, cap, he, b, hr, hc⟩
theorem own_post {q : Pg} {w : World} {f : FuncId} {xs : Array Value} {w0 : World} (h : Calls Tryd.prog f xs w0 (OwnPost q w)) :
    Calls Tryd.prog f xs w0 fun e w' => ∃ ad cap, e = .returned (pgV q (.slice ad q.rows.length cap)) ∧ Below w.heap.size w w' ∧ Page.Rows w' (.slice ad q.rows.length cap) q.rows ∧ CapOk (.slice ad q.rows.length cap) :=
  h.mono fun e w' ⟨b, v, he, hr, hc⟩ => by
    obtain ⟨ad, cap, hv, _⟩ := id hr
    subst hv
    exact ⟨ad, cap, he, b, hr, hc⟩
theorem spl_post {A B : List ByteArray} {s : ByteArray} {c : Int} {w : World} {f : FuncId} {xs : Array Value} {w0 : World} (h : Calls Tryd.prog f xs w0 (SplPost A B s c w)) :
    Calls Tryd.prog f xs w0 fun e w' => ∃ a1 c1 a2 c2, e = .returned (.tuple #[.slice a1 A.length c1, .slice a2 B.length c2, .string s, .int .i64 c]) ∧ Below w.heap.size w w' ∧ Page.Rows w' (.slice a1 A.length c1) A ∧ Page.Rows w' (.slice a2 B.length c2) B ∧ CapOk (.slice a1 A.length c1) ∧ CapOk (.slice a2 B.length c2) :=
  h.mono fun e w' ⟨b, v1, v2, he, hr1, hr2, hc1, hc2⟩ => by
    obtain ⟨a1, c1, hv, _⟩ := id hr1
    subst hv
    obtain ⟨a2, c2, hv, _⟩ := id hr2
    subst hv
    exact ⟨a1, c1, a2, c2, he, b, hr1, hr2, hc1, hc2⟩

end Go.Proofs.YtbdbnpcbbebelaaDoor.Node
