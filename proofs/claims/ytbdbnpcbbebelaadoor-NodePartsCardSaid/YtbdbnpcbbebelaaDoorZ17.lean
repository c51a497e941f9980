/-
  Memory: two pages, and the one that they become.
  Walks: two pages as one, in the document.
-/
import Derived.Test.YtbdbnpcbbebelaaDoorZ16
import Derived.Test.YtbdbnpcbbebelaaDoorZ12
namespace Go.Proofs.YtbdbnpcbbebelaaDoor.Node
open Go.RowKit
open Go.Proofs.YtbdbnpcbbebelaaDoor.Page (Pg nth used pgV pgC CapOk zeroP)

/-- the boxes of both, and of the result -/
structure Pm (W0 w : World) (g h r : Nat) (p q : Pg) (u v : Value) : Prop where
  gbox : w.heap[g]? = some (.cells (pgC p u) 26 (0, 0))
  hbox : w.heap[h]? = some (.cells (pgC q v) 26 (0, 0))
  res : w.heap[r]? = some (.cells zeroP 26 (0, 0))
  below : Below W0.heap.size W0 w
section
variable {W0 w w' : World} {g h r b : Nat} {p q x : Pg} {u v y z : Value} {l : List ByteArray}
theorem old_blk {i : Nat} {o : Obj} (t : Below w.heap.size w w') (e : w.heap[i]? = some o) : w'.heap[i]? = some o := (t.block i (Array.getElem?_eq_some_iff.1 e).1).trans e
theorem Pm.later (m : Pm W0 w g h r p q u v) (t : Below w.heap.size w w') : Pm W0 w' g h r p q u v :=
  ⟨old_blk t m.gbox, old_blk t m.hbox, old_blk t m.res, m.below.trans (t.mono m.below.size)⟩
theorem Pm.start (w : World) (p q : Pg) (u v : Value) : Pm w (((w.alloc (.cells (pgC p u) 26)).alloc (.cells (pgC q v) 26)).alloc (.cells zeroP 26)) w.heap.size (w.heap.size + 1) (w.heap.size + 1 + 1) p q u v := by
  have e1 : (w.alloc (.cells (pgC p u) 26)).heap.size = w.heap.size + 1 := by simp
  have e2 : ((w.alloc (.cells (pgC p u) 26)).alloc (.cells (pgC q v) 26)).heap.size = w.heap.size + 1 + 1 := by simp
  have b1 := below_new w (.cells (pgC p u) 26)
  have b2 := below_new (w.alloc (.cells (pgC p u) 26)) (.cells (pgC q v) 26)
  have b3 := below_new ((w.alloc (.cells (pgC p u) 26)).alloc (.cells (pgC q v) 26)) (.cells zeroP 26)
  have h1 := heap_alloc_new w (.cells (pgC p u) 26)
  have h2 := heap_alloc_new (w.alloc (.cells (pgC p u) 26)) (.cells (pgC q v) 26)
  have h3 := heap_alloc_new ((w.alloc (.cells (pgC p u) 26)).alloc (.cells (pgC q v) 26)) (.cells zeroP 26)
  rw [e1] at h2
  rw [e2] at h3
  exact ⟨old_blk b3 (old_blk b2 h1), old_blk b3 h2, h3, (b1.trans (b2.mono b1.size)).trans (b3.mono (b1.trans (b2.mono b1.size)).size)⟩
theorem six_of {i : Nat} {p : Pg} {v : Value} (e : w.heap[i]? = some (.cells (pgC p v) 26 (0, 0))) : w.cell? ⟨i, 0, none⟩ = some (.int .u8 (p.kind : Int)) ∧ w.cell? ⟨i, 1, none⟩ = some (.int .u8 (p.level : Int)) ∧ w.cell? ⟨i, 2, none⟩ = some (.int .u32 (p.id : Int)) ∧ w.cell? ⟨i, 3, none⟩ = some (.int .u64 (p.lsn : Int)) ∧ w.cell? ⟨i, 4, none⟩ = some (.int .u32 (p.next : Int)) ∧ w.cell? ⟨i, 5, none⟩ = some v := by
  refine ⟨?_, ?_, ?_, ?_, ?_, ?_⟩ <;> (rw [cell_of_row _ _ _ _ _ _ e]; rfl)

/-- .. and a third one, which is being built -/
structure Mb (W0 w : World) (g h r b : Nat) (p q x : Pg) (u v y : Value) : Prop where
  gbox : w.heap[g]? = some (.cells (pgC p u) 26 (0, 0))
  hbox : w.heap[h]? = some (.cells (pgC q v) 26 (0, 0))
  res : w.heap[r]? = some (.cells zeroP 26 (0, 0))
  nbox : w.heap[b]? = some (.cells (pgC x y) 26 (0, 0))
  below : Below W0.heap.size W0 w
  lt : g < b ∧ h < b ∧ r < b
  base : W0.heap.size ≤ b
theorem Mb.start (m : Pm W0 w g h r p q u v) : Mb W0 (w.alloc (.cells (pgC p u) 26)) g h r w.heap.size p q p u v u := by
  have b1 := below_new w (.cells (pgC p u) 26)
  exact ⟨old_blk b1 m.gbox, old_blk b1 m.hbox, old_blk b1 m.res, heap_alloc_new w _, m.below.trans (b1.mono m.below.size), ⟨(Array.getElem?_eq_some_iff.1 m.gbox).1, (Array.getElem?_eq_some_iff.1 m.hbox).1, (Array.getElem?_eq_some_iff.1 m.res).1⟩, m.below.size⟩
theorem Mb.later (m : Mb W0 w g h r b p q x u v y) (t : Below w.heap.size w w') : Mb W0 w' g h r b p q x u v y :=
  ⟨old_blk t m.gbox, old_blk t m.hbox, old_blk t m.res, old_blk t m.nbox, m.below.trans (t.mono m.below.size), m.lt, m.base⟩
theorem tx_ne (t : Slot.Tx W0 w z l) {i : Nat} {cs : Array Value} (e : w.heap[i]? = some (.cells cs 26 (0, 0))) : ∀ k, z.ownBlock = some k → k ≠ i := by
  rintro k hk rfl
  rcases t.form with ⟨rfl, rfl⟩ | ⟨g', cap, cur, rfl, _, h3, _⟩
  · simp [Value.ownBlock] at hk
  · simp [Value.ownBlock] at hk
    subst hk
    have := e.symm.trans h3
    simp at this
theorem Mb.grown (m : Mb W0 w g h r b p q x u v y) (ht : Slot.Tx W0 w z l) (t : w.grownBy w' z.ownBlock) : Mb W0 w' g h r b p q x u v y := by
  have bl : ∀ {i : Nat} {cs : Array Value}, w.heap[i]? = some (.cells cs 26 (0, 0)) → w'.heap[i]? = some (.cells cs 26 (0, 0)) := fun {i cs} e =>
    (t.block i (Array.getElem?_eq_some_iff.1 e).1 (fun e2 => tx_ne ht e i e2.symm rfl)).trans e
  exact ⟨bl m.gbox, bl m.hbox, bl m.res, bl m.nbox, Slot.below_grown m.below (fun k hk => (ht.own.lt k hk).1) t, m.lt, m.base⟩
theorem Mb.tx (m : Mb W0 w g h r b p q x u v y) (t : Slot.Tx W0 w z l) (k : Nat) (a : Value) : Slot.Tx W0 (w.setCell ⟨b, k, none⟩ a) z l :=
  t.far (by simp [World.setCell]) fun i hi => heap_setCell_other _ _ _ _ (tx_ne t m.nbox i hi)
theorem Mb.rows (m : Mb W0 w g h r b p q x u v y) (z : Value) (l : List ByteArray) : Mb W0 (w.setCell ⟨b, 5, none⟩ z) g h r b p q { x with rows := l } u v z := by
  obtain ⟨n1, n2, n3⟩ := m.lt
  exact ⟨(heap_setCell_other _ _ _ _ (show g ≠ b by omega)).trans m.gbox, (heap_setCell_other _ _ _ _ (show h ≠ b by omega)).trans m.hbox, (heap_setCell_other _ _ _ _ (show r ≠ b by omega)).trans m.res, heap_setCell_same w b 5 _ _ z m.nbox, m.below.setCell m.base _, m.lt, m.base⟩
theorem Mb.next (m : Mb W0 w g h r b p q x u v y) (k : Nat) : Mb W0 (w.setCell ⟨b, 4, none⟩ (.int .u32 (k : Int))) g h r b p q { x with next := k } u v y := by
  obtain ⟨n1, n2, n3⟩ := m.lt
  exact ⟨(heap_setCell_other _ _ _ _ (show g ≠ b by omega)).trans m.gbox, (heap_setCell_other _ _ _ _ (show h ≠ b by omega)).trans m.hbox, (heap_setCell_other _ _ _ _ (show r ≠ b by omega)).trans m.res, heap_setCell_same w b 4 _ _ _ m.nbox, m.below.setCell m.base _, m.lt, m.base⟩
end

/-! ### plain -/
theorem node_head {p : Pg} (h : nodeB p = true) : headB p = true := by
  have hk := (node_keys h).1
  unfold keysB at hk
  exact (Bool.and_eq_true_iff.1 hk).1
theorem node_up {p : Pg} (h : nodeB p = true) : upB p.kind p.rows p.rows.length = true := by
  have hk := (node_keys h).1
  unfold keysB at hk
  exact (Bool.and_eq_true_iff.1 hk).2
theorem kind_level {p q : Pg} (hp : nodeB p = true) (hq : nodeB q = true) (h : p.level = q.level) : p.kind = q.kind := by
  rcases head_two (node_head hp) with ⟨a, b⟩ | ⟨a, b, _⟩ <;> rcases head_two (node_head hq) with ⟨c, d⟩ | ⟨c, d, _⟩ <;> omega
theorem nth_app {l m : List ByteArray} (j : Nat) : nth (l ++ m) j = if j < l.length then nth l j else nth m (j - l.length) := by
  unfold Page.nth
  rw [List.getD_eq_getElem?_getD, List.getElem?_append]
  split
  · rw [← List.getD_eq_getElem?_getD]
  · rw [← List.getD_eq_getElem?_getD]
theorem mrg_keys {p q : Pg} (hp : nodeB p = true) (hq : nodeB q = true) (h : p.kind = q.kind) : keysB (mrgQ p q) = risB (keysL p.kind p.rows ++ keysL q.kind q.rows) (p.rows.length + q.rows.length) := by
  have hh : headB (mrgQ p q) = true := by
    have := head_two (node_head hp)
    unfold headB mrgQ
    simp only [List.length_append]
    rcases this with ⟨a, b⟩ | ⟨a, b, c⟩
    · rw [a, b]; rfl
    · rw [a, decide_eq_true b, decide_eq_true (show 1 ≤ p.rows.length + q.rows.length by omega)]; rfl
  have hk : ∀ j, j < p.rows.length + q.rows.length → kB p.kind (nth (p.rows ++ q.rows) j) = true := fun j hj => by
    rw [nth_app]
    split
    · rename_i e
      exact upB_kB (node_up hp) e
    · rw [h]
      exact upB_kB (node_up hq) (by omega)
  unfold keysB
  rw [hh, Bool.true_and]
  show upB p.kind (p.rows ++ q.rows) (p.rows ++ q.rows).length = _
  rw [List.length_append, upB_ris (by rw [List.length_append]; omega) hk]
  congr 1
  rw [← h]
  exact List.map_append

end Go.Proofs.YtbdbnpcbbebelaaDoor.Node

namespace Go.Proofs.YtbdbnpcbbebelaaDoor.Node
open Go.RowKit
open Go.Proofs.YtbdbnpcbbebelaaDoor.Page (Pg nth used pgV pgC CapOk zeroP info_page results_page zero_one)
attribute [local go_sem ↓] Go.wp_at_zero Go.wp_at_succ

theorem mrgR_bad {p q : Pg} (h : ¬ mrgE p q = 0) : mrgR p q = Pg.zero := if_neg h
theorem zero_ne {c : Int} (h : c = 0) : (c != 0) = false := by rw [h]; rfl

set_option maxRecDepth 100000 in
set_option maxHeartbeats 8000000 in
theorem rmerge_any {w : World} {u v : Value} (p q : Pg) (hp : Page.Rows w u p.rows) (hq : Page.Rows w v q.rows) (cp : CapOk u) (cq : CapOk v) (up : used p.rows ≤ 400000) (uq : used q.rows ≤ 400000) :
    Calls Tryd.prog 30 #[pgV p u, pgV q v] w (PgPost (mrgR p q) (mrgE p q) w) := by
  have T0 := Lib.hid (Pm.start w p q u v)
  have K1 := Lib.hid (fun (W : World) (t : Below w.heap.size w W) => rcheck_any p (hp.later t) (by omega))
  have K2 := Lib.hid (fun (W : World) (t : Below w.heap.size w W) => rcheck_any q (hq.later t) (by omega))
  have um : used (mrgQ p q).rows ≤ 1000000 := by show used (p.rows ++ q.rows) ≤ _; rw [Page.used_app]; omega
  have K3 := Lib.hid (fun (W : World) (z : Value) (t : Page.Rows W z (mrgQ p q).rows) => rkeys_any (mrgQ p q) t um)
  have K4 := Lib.hid (fun (W : World) (z : Value) (t : Page.Rows W z (mrgQ p q).rows) => Page.rmay_any (mrgQ p q) t um)
  have EE := Lib.hid (show mrgE p q = if nodeB p && nodeB q then (if p.kind = q.kind ∧ p.level = q.level then (if keysB (mrgQ p q) then (if Page.mayP (mrgQ p q) then 0 else 4) else 7) else 2) else 7 from rfl)
  have ER := Lib.hid (show mrgR p q = if mrgE p q = 0 then mrgQ p q else Pg.zero from rfl)
  have C1 := Lib.hid (show (checkI p != 0) = !nodeB p from check_zero p)
  have C2 := Lib.hid (show (checkI q != 0) = !nodeB q from check_zero q)
  have lp := Page.used_len p.rows
  have lq := Page.used_len q.rows
  have L1 := Lib.hid (show ([] : List ByteArray).length + p.rows.length ≤ 1000000 by simp; omega)
  have L2 := Lib.hid (show p.rows.length + q.rows.length ≤ 1000000 by omega)
  have RP := Lib.hid hp
  have RQ := Lib.hid hq
  have N1 := Lib.hid cp.nilOk
  have N2 := Lib.hid cq.nilOk
  have MQ := Lib.hid (show ({ ({ p with rows := p.rows ++ q.rows } : Pg) with next := q.next } : Pg) = mrgQ p q from rfl)
  generalize mrgE p q = me at *
  generalize mrgR p q = mr at *
  obtain ⟨ad, c, rfl, _⟩ := id hp
  obtain ⟨ad', c', rfl, _⟩ := id hq
  clear hp hq cp cq up uq lp lq um
  obtain ⟨n, hn⟩ : ∃ n, n = p.rows.length := ⟨_, rfl⟩
  obtain ⟨n', hn'⟩ : ∃ n, n = q.rows.length := ⟨_, rfl⟩
  rw [← hn] at T0 K1 RP N1 ⊢
  rw [← hn'] at T0 K2 RQ N2 ⊢
  clear hn hn'
  generalize checkI p = c1 at *
  generalize checkI q = c2 at *
  unfold pgV at K1 K2
  have TT := Lib.hid (T0.out)
  unfold pgC at T0
  unfold pgV
  go_enter Tryd.func30, Tryd.ntmps30
  go_upto_region 1 with fail
  obtain ⟨W0, hW0⟩ : ∃ W, W = ((w.alloc (.cells (pgC p (.slice ad n c)) 26)).alloc (.cells (pgC q (.slice ad' n' c')) 26)).alloc (.cells zeroP 26) := ⟨_, rfl⟩
  rw [← hW0] at TT
  unfold pgC zeroP at hW0
  rw [← hW0]
  clear T0 hW0
  obtain ⟨g, hg⟩ : ∃ g, g = w.heap.size := ⟨_, rfl⟩
  have G := Lib.hid hg
  obtain ⟨h, hh⟩ : ∃ h, h = g + 1 := ⟨_, rfl⟩
  obtain ⟨r, hr⟩ : ∃ r, r = h + 1 := ⟨_, rfl⟩
  have GR := Lib.hid (show w.heap.size ≤ r by omega)
  rw [← hg, ← hh, ← hr] at TT
  rw [← hg, ← hh, ← hr]
  clear hg hh hr
  go_cut [16] (fun s wx => s = .bool (!(nodeB p && nodeB q)) ∧ Pm w wx g h r p q (.slice ad n c) (.slice ad' n' c'))
  case first =>
    obtain ⟨a0, a1, a2, a3, a4, a5⟩ := six_of TT.out.gbox
    clear K3 K4
    go_wp2_with fail
    refine (K1.out _ TT.out.below).mono ?_
    rintro e w1 ⟨rfl, b1⟩
    have T1 := Lib.hid (TT.out.later b1)
    clear b1 TT K1 a0 a1 a2 a3 a4 a5
    cases hk : nodeB p with
    | false =>
      have e1 : (c1 != 0) = true := by rw [C1.out, hk]; rfl
      have HK := Lib.hid hk
      clear hk
      go_wp2_with fail
      go_meet
      exact ⟨by rw [HK.out]; rfl, T1.out⟩
    | true =>
      have e1 : (c1 != 0) = false := by rw [C1.out, hk]; rfl
      obtain ⟨d0, d1, d2, d3, d4, d5⟩ := six_of T1.out.hbox
      have HK := Lib.hid hk
      clear hk
      go_wp2_with fail
      refine (K2.out _ T1.out.below).mono ?_
      rintro e w2 ⟨rfl, b2⟩
      have T2 := Lib.hid (T1.out.later b2)
      clear b2 T1 K2 d0 d1 d2 d3 d4 d5
      have e2 := C2.out
      go_wp2_with fail
      go_meet
      exact ⟨by rw [HK.out, Bool.true_and], T2.out⟩
  case rest =>
    obtain ⟨rfl, t2⟩ := hcut
    have T2 := Lib.hid t2
    clear t2 TT K1 K2
    cases hn : (nodeB p && nodeB q) with
    | false =>
      have HB := Lib.hid T2.out.res
      have HL := Lib.hid T2.out.below
      have e7 : me = 7 := by rw [EE.out, hn]; rfl
      have ez : mr = Pg.zero := by rw [ER.out, e7]; rfl
      subst e7
      subst ez
      clear hn T2 K3 K4
      go_wp2_with (refine wpList_store_row rfl 26 _ _ rfl r zeroP rfl rfl 26 zeroP HB.out info_page rfl zero_one ?_)
      exact bodyPost_ret (v := .tuple #[pgV Pg.zero (.slice none 0 0), .int .i64 7]) (results_page Tryd.results30 _ _ r zeroP 7 rfl rfl (setRow_heap _ _ _ _ _ _ HB.out) info_page) rfl (PgPost.none 7 (below_setRow HL.out GR.out _))
    | true =>
      rw [hn, if_pos rfl] at EE
      obtain ⟨np, nq⟩ := Bool.and_eq_true_iff.1 hn
      clear hn C1 C2
      go_upto_region 3 with fail
      go_cut [29] (fun s wx => s = .bool (!decide (p.kind = q.kind ∧ p.level = q.level)) ∧ wx = wc)
      case first =>
        obtain ⟨a0, a1, a2, a3, a4, a5⟩ := six_of T2.out.gbox
        obtain ⟨d0, d1, d2, d3, d4, d5⟩ := six_of T2.out.hbox
        clear K3 K4
        by_cases h1 : p.kind = q.kind
        · have e1 : ((p.kind : Int) != (q.kind : Int)) = false := by simp [h1]
          by_cases h2 : p.level = q.level
          · have e2 : ((p.level : Int) != (q.level : Int)) = false := by simp [h2]
            have HH := Lib.hid (decide_eq_true (show p.kind = q.kind ∧ p.level = q.level from ⟨h1, h2⟩))
            clear h1 h2
            go_wp2_with fail
            go_meet
            exact ⟨by rw [HH.out]; rfl, rfl⟩
          · have e2 : ((p.level : Int) != (q.level : Int)) = true := by simp; omega
            have HH := Lib.hid (decide_eq_false (show ¬ (p.kind = q.kind ∧ p.level = q.level) from fun e => h2 e.2))
            clear h1 h2
            go_wp2_with fail
            go_meet
            exact ⟨by rw [HH.out]; rfl, rfl⟩
        · have e1 : ((p.kind : Int) != (q.kind : Int)) = true := by simp; omega
          have HH := Lib.hid (decide_eq_false (show ¬ (p.kind = q.kind ∧ p.level = q.level) from fun e => h1 e.1))
          clear h1
          go_wp2_with fail
          go_meet
          exact ⟨by rw [HH.out]; rfl, rfl⟩
      case rest =>
        obtain ⟨rfl, rfl⟩ := hcut
        by_cases hkl : p.kind = q.kind ∧ p.level = q.level
        · rw [decide_eq_true hkl]
          rw [if_pos hkl] at EE
          clear hkl
          obtain ⟨a0, a1, a2, a3, a4, a5⟩ := six_of T2.out.gbox
          go_upto_region 6 with fail
          clear a0 a1 a2 a3 a4 a5
          have TB := Lib.hid (Mb.start T2.out)
          obtain ⟨b, hb⟩ : ∃ b, b = wc.heap.size := ⟨_, rfl⟩
          rw [← hb] at TB
          rw [← hb]
          obtain ⟨W1, hW1⟩ : ∃ W, W = wc.alloc (.cells (pgC p (.slice ad n c)) 26) := ⟨_, rfl⟩
          rw [← hW1] at TB
          unfold pgC at hW1
          rw [← hW1]
          clear hW1 hb T2
          go_cut [38] (fun s wx => ∃ W, wx = World.setCell W ⟨b, 5, none⟩ s ∧ Mb w W g h r b p q p (.slice ad n c) (.slice ad' n' c') (.slice ad n c) ∧ Slot.Tx w W s (p.rows ++ q.rows))
          case first =>
            have T3 := Lib.hid (TB.out.later ((Below.refl _ _).drew.alloc (Nat.le_refl _) (.cells #[] 9)))
            have E0 := Lib.hid (Slot.Tx.made w (w := W1.drew) [] TB.out.below.size (by simp))
            have X1 := Lib.hid (RP.out.later (T3.out.below))
            have a5 := (six_of TB.out.gbox).2.2.2.2.2
            have d5 := (six_of TB.out.hbox).2.2.2.2.2
            have hgl : g < W1.heap.size := (Array.getElem?_eq_some_iff.1 TB.out.gbox).1
            have hhl : h < W1.heap.size := (Array.getElem?_eq_some_iff.1 TB.out.hbox).1
            clear K3 K4
            go_region_law (first | (refine Page.step_app_in (W0 := w) (l := []) (news := p.rows) rfl _ _ rfl E0.out X1.out N1.out L1.out rfl rfl ?_; intro v3 w3 t3 g3; replace t3 : Slot.Tx w w3 v3 p.rows := t3; obtain ⟨ad3, cap3, rfl⟩ := t3.shape; have T4 := Lib.hid (T3.out.grown E0.out g3); have d5x := (six_of T4.out.hbox).2.2.2.2.2) | (refine Page.step_app_in (W0 := w) (l := p.rows) (news := q.rows) rfl _ _ rfl t3 (RQ.out.later T4.out.below) N2.out L2.out rfl rfl ?_; intro v4 w4 t4 g4; obtain ⟨ad4, cap4, rfl⟩ := t4.shape; have T5 := Lib.hid (T4.out.grown t3 g4); have b5y := (six_of T5.out.nbox).2.2.2.2.2; have fzy := frozen_of_row _ _ 5 _ _ T5.out.nbox))
            all_goals
              have T6 := Lib.hid T5.out
              have t6 := Lib.hid t4
              rw [List.length_append] at t6
              go_wp2_with fail
              go_meet
              exact ⟨_, rfl, T6.out, t6.out⟩
          case rest =>
            obtain ⟨W2, rfl, m2, t2⟩ := hcut
            obtain ⟨adu, capu, rfl⟩ := t2.shape
            have M3 := Lib.hid (m2.rows (.slice adu (p.rows ++ q.rows).length capu) (p.rows ++ q.rows))
            have X3 := Lib.hid (m2.tx t2 5 (.slice adu (p.rows ++ q.rows).length capu))
            clear m2 t2 TB RP RQ N1 N2 L1 L2
            obtain ⟨m, hm⟩ : ∃ m, m = (p.rows ++ q.rows).length := ⟨_, rfl⟩
            rw [← hm] at M3 X3 ⊢
            have HM := Lib.hid hm
            clear hm
            generalize W2.setCell _ _ = W3 at *
            have d4 := (six_of M3.out.hbox).2.2.2.2.1
            have b4 := (six_of M3.out.nbox).2.2.2.2.1
            have fz := frozen_of_row _ _ 4 _ _ M3.out.nbox
            have M4 := Lib.hid (M3.out.next q.next)
            rw [MQ.out] at M4
            have X4 := Lib.hid (show Slot.Tx w _ _ (mrgQ p q).rows from M3.out.tx X3.out 4 (.int .u32 (q.next : Int)))
            have B0 := Lib.hid (show (mrgQ p q).rows.length = m from HM.out.symm)
            clear M3 X3 MQ HM
            go_upto_region 8 with fail
            generalize W3.setCell _ _ = W4 at *
            clear d4 b4 fz
            have K5 := Lib.hid (K3.out _ _ (Page.rows_tx X4.out))
            have CT := Lib.hid (Page.cap_tx X4.out)
            have EKB := Lib.hid (show KeysP (mrgQ p q) = fun w e w' => ∃ u, e = .returned (.tuple #[u, .bool (keysB (mrgQ p q))]) ∧ Slot.Tx w w' u (keysOf (mrgQ p q)) ∧ Below w.heap.size w w' from rfl)
            rw [EKB.out] at K5
            clear EKB K3
            generalize mrgQ p q = qx at *
            unfold pgV at K4 K5
            rw [B0.out] at *
            obtain ⟨b0, b1, b2, b3, b4, b5⟩ := six_of M4.out.nbox
            go_wp2_with fail
            refine K5.out.mono ?_
            rintro e w6 ⟨uk, rfl, _, b6⟩
            have M6 := Lib.hid (M4.out.later b6)
            have X6 := Lib.hid (X4.out.later b6)
            clear b6 K5 M4 X4 b0 b1 b2 b3 b4 b5
            obtain ⟨b0, b1, b2, b3, b4, b5⟩ := six_of M6.out.nbox
            cases hkb : keysB qx with
            | false =>
              rw [hkb] at EE
              have HB := Lib.hid M6.out.res
              have HL := Lib.hid M6.out.below
              have e7 : me = 7 := EE.out
              have ez : mr = Pg.zero := by rw [ER.out, e7]; rfl
              subst e7
              subst ez
              clear hkb M6 K4 X6 b0 b1 b2 b3 b4 b5
              go_wp2_with (refine wpList_store_row rfl 26 _ _ rfl r zeroP rfl rfl 26 zeroP HB.out info_page rfl zero_one ?_)
              exact bodyPost_ret (v := .tuple #[pgV Pg.zero (.slice none 0 0), .int .i64 7]) (results_page Tryd.results30 _ _ r zeroP 7 rfl rfl (setRow_heap _ _ _ _ _ _ HB.out) info_page) rfl (PgPost.none 7 (below_setRow HL.out GR.out _))
            | true =>
              rw [hkb, if_pos rfl] at EE
              have K6 := Lib.hid (K4.out _ _ (Page.rows_tx X6.out))
              clear hkb K4
              go_wp2_with fail
              refine K6.out.mono ?_
              rintro e w7 ⟨rfl, b7⟩
              have M7 := Lib.hid (M6.out.later b7)
              have X7 := Lib.hid (X6.out.later b7)
              clear b7 K6 M6 X6 b0 b1 b2 b3 b4 b5
              have HB := Lib.hid M7.out.res
              have HL := Lib.hid M7.out.below
              obtain ⟨b0, b1, b2, b3, b4, b5⟩ := six_of M7.out.nbox
              cases hmb : Page.mayP qx with
              | false =>
                rw [hmb] at EE
                have e7 : me = 4 := EE.out
                have ez : mr = Pg.zero := by rw [ER.out, e7]; rfl
                subst e7
                subst ez
                clear hmb M7 X7 b0 b1 b2 b3 b4 b5
                go_wp2_with (refine wpList_store_row rfl 26 _ _ rfl r zeroP rfl rfl 26 zeroP HB.out info_page rfl zero_one ?_)
                exact bodyPost_ret (v := .tuple #[pgV Pg.zero (.slice none 0 0), .int .i64 4]) (results_page Tryd.results30 _ _ r zeroP 4 rfl rfl (setRow_heap _ _ _ _ _ _ HB.out) info_page) rfl (PgPost.none 4 (below_setRow HL.out GR.out _))
              | true =>
                rw [hmb, if_pos rfl] at EE
                have e7 : me = 0 := EE.out
                have ez : mr = qx := by rw [ER.out, e7]; rfl
                subst e7
                subst ez
                have TXR := Lib.hid (tx_setRow X7.out HB.out (pgC mr (.slice adu m capu)))
                clear hmb M7 X7
                go_wp2_with (refine wpList_store_row rfl 26 _ _ rfl r (pgC mr (.slice adu m capu)) rfl rfl 26 zeroP HB.out info_page rfl (pg_one _ _ _ _) ?_)
                exact bodyPost_ret (v := .tuple #[pgV mr (.slice adu m capu), .int .i64 0]) (results_page Tryd.results30 _ _ r (pgC mr (.slice adu m capu)) 0 rfl rfl (setRow_heap _ _ _ _ _ _ HB.out) info_page) rfl ⟨below_setRow HL.out GR.out _, _, rfl, Page.rows_tx TXR.out, CT.out⟩
        · rw [decide_eq_false hkl]
          rw [if_neg hkl] at EE
          have HB := Lib.hid T2.out.res
          have HL := Lib.hid T2.out.below
          have e7 : me = 2 := EE.out
          have ez : mr = Pg.zero := by rw [ER.out, e7]; rfl
          subst e7
          subst ez
          clear hkl T2 K3 K4
          go_wp2_with (refine wpList_store_row rfl 26 _ _ rfl r zeroP rfl rfl 26 zeroP HB.out info_page rfl zero_one ?_)
          exact bodyPost_ret (v := .tuple #[pgV Pg.zero (.slice none 0 0), .int .i64 2]) (results_page Tryd.results30 _ _ r zeroP 2 rfl rfl (setRow_heap _ _ _ _ _ _ HB.out) info_page) rfl (PgPost.none 2 (below_setRow HL.out GR.out _))

end Go.Proofs.YtbdbnpcbbebelaaDoor.Node
