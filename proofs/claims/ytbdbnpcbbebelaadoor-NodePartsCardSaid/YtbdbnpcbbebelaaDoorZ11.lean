/-
  Walks: a text is put into a page, in the document.
  Walks: a page with a text, without one, in the document.
  Walks: a page without a text, in the document (where it can't be).
-/
import Derived.Test.YtbdbnpcbbebelaaDoorZ10
import Derived.Test.YtbdbnpcbbebelaaDoorZ3
namespace Go.Proofs.YtbdbnpcbbebelaaDoor.Node
open Go.RowKit
open Go.Proofs.YtbdbnpcbbebelaaDoor.Page (Pg nth used pgV pgC CapOk zeroP info_page results_page zero_one rows_head rows_tail)
open Go.Proofs.YtbdbnpcbbebelaaDoor.Key (cmpOf)
attribute [local go_sem ↓] Go.wp_at_zero Go.wp_at_succ

theorem Pp.grown {W0 w w' : World} {g r : Nat} {p : Pg} {v u : Value} {l : List ByteArray} (h : Pp W0 w g r p v) (ht : Slot.Tx W0 w u l) (t : w.grownBy w' u.ownBlock) (hr : p.rows ≠ [] → ∀ b o c, v = .slice (some ⟨b, o, none⟩) p.rows.length c → b < W0.heap.size) : Pp W0 w' g r p v := by
  have hcol : ∀ x, u.ownBlock = some x → x ≠ r := by
    rintro x hx rfl
    rcases ht.form with ⟨rfl, rfl⟩ | ⟨g', cap, cur, rfl, _, h3, _⟩
    · simp [Value.ownBlock] at hx
    · simp [Value.ownBlock] at hx
      subst hx
      have := h.res.symm.trans h3
      simp at this
  exact ⟨h.pb.grown ht t hr, (t.block r (Array.getElem?_eq_some_iff.1 h.res).1 (fun e => hcol r e.symm rfl)).trans h.res⟩
/-- other rows are laid into the box -/
theorem Pp.set {W0 w : World} {g r : Nat} {p : Pg} {v u : Value} {l : List ByteArray} (h : Pp W0 w g r p v) (hg : W0.heap.size ≤ g) (hgr : r ≠ g) (ht : Slot.Tx W0 w u l) : Pp W0 (w.setCell ⟨g, 5, none⟩ u) g r { p with rows := l } u ∧ Slot.Tx W0 (w.setCell ⟨g, 5, none⟩ u) u l := by
  have hcol : ∀ x, u.ownBlock = some x → x ≠ g := by
    rintro x hx rfl
    rcases ht.form with ⟨rfl, rfl⟩ | ⟨g', cap, cur, rfl, _, h3, _⟩
    · simp [Value.ownBlock] at hx
    · simp [Value.ownBlock] at hx
      subst hx
      have := h.pb.box.symm.trans h3
      simp at this
  have t2 : Slot.Tx W0 (w.setCell ⟨g, 5, none⟩ u) u l := ht.far (by simp [World.setCell]) fun x hx => heap_setCell_other _ _ _ _ (hcol x hx)
  refine ⟨⟨⟨?_, Page.rows_tx t2, h.pb.below.setCell hg _⟩, (heap_setCell_other _ _ _ _ hgr).trans h.res⟩, t2⟩
  have := heap_setCell_same w g 5 _ _ u h.pb.box
  exact this

theorem used_drop_le (l : List ByteArray) (k : Nat) : used (l.take k) + used (l.drop k) = used l := by
  rw [← Page.used_app, List.take_append_drop]
theorem put_used (l : List ByteArray) (k : Nat) (t : ByteArray) (is : Bool) : used (putL l k t is) ≤ used l + 4 + t.size := by
  unfold putL
  rw [Page.used_app, Page.used_app]
  have h1 := used_drop_le l k
  have h2 : used [t] = 4 + t.size := by rw [Page.used_cons, Page.used_nil]; rfl
  cases is with
  | false => simp only [Bool.false_eq_true, if_false]; omega
  | true =>
    have h3 := used_drop_le (l.drop k) 1
    rw [List.drop_drop] at h3
    simp only [if_true]
    omega
theorem old_of {w : World} {v : Value} {l : List ByteArray} (h : Page.Rows w v l) : l ≠ [] → ∀ b o c, v = .slice (some ⟨b, o, none⟩) l.length c → b < w.heap.size := by
  obtain ⟨ad, c, rfl, hr⟩ := h
  intro hnil b o c' e
  simp only [Value.slice.injEq] at e
  obtain ⟨rfl, e2, rfl⟩ := e
  rcases hr with hr | ⟨b', o', e3, hb', _⟩
  · exact absurd hr hnil
  · simp only [Option.some.injEq, Addr.mk.injEq] at e3
    rw [e3.1]; exact hb'

theorem pg_one (p : Pg) (a : Option Addr) (m c : Nat) : (pgC p (.slice a m c)).all (·.oneCell') = true := Array.all_eq_true_iff_forall_mem.2 (by
  intro v hv
  simp [pgC] at hv
  rcases hv with rfl | rfl | rfl | rfl | rfl | rfl <;> rfl)
theorem tx_setRow {W0 w : World} {r : Nat} {u : Value} {l : List ByteArray} (h : Slot.Tx W0 w u l) (res : w.heap[r]? = some (.cells zeroP 26 (0, 0))) (cs : Array Value) : Slot.Tx W0 (w.setRow r cs) u l := by
  have hcol : ∀ x, u.ownBlock = some x → x ≠ r := by
    rintro x hx rfl
    rcases h.form with ⟨rfl, rfl⟩ | ⟨g', cap, cur, rfl, _, h3, _⟩
    · simp [Value.ownBlock] at hx
    · simp [Value.ownBlock] at hx
      subst hx
      have := res.symm.trans h3
      simp at this
  refine h.far (by simp [World.setRow]) fun x hx => ?_
  simp only [World.setRow, Array.getElem?_modify]
  rw [if_neg (fun e => hcol x hx e.symm)]

set_option maxRecDepth 100000 in
set_option maxHeartbeats 4000000 in
theorem rput_good {w : World} {v : Value} (p : Pg) (k : Nat) (t : ByteArray) (is : Bool) (h : Page.Rows w v p.rows) (hc : CapOk v) (hu : used p.rows ≤ 900000) (ht : t.size ≤ 90000) (hk : nodeB p = true) (hx : k ≤ p.rows.length) (hi : is = true → k < p.rows.length) :
    Calls Tryd.prog 48 #[pgV p v, .int .i64 (k : Int), .string t, .bool is] w (PgPost (if keysB (putQ p k t is) then putQ p k t is else Pg.zero) (if keysB (putQ p k t is) then 0 else 7) w) := by
  obtain ⟨qq, hqq⟩ : ∃ q, q = if keysB (putQ p k t is) then putQ p k t is else Pg.zero := ⟨_, rfl⟩
  obtain ⟨qe, hqe⟩ : ∃ q : Int, q = if keysB (putQ p k t is) then 0 else 7 := ⟨_, rfl⟩
  rw [← hqq, ← hqe]
  have QQ := Lib.hid hqq
  have QE := Lib.hid hqe
  clear hqq hqe
  have T0 := Lib.hid (Pp.start h)
  have K1 := Lib.hid (fun (W : World) (t : Pp w W w.heap.size (w.heap.size + 1) p v) => rcheck_any p t.pb.rows (by omega))
  have pu := put_used p.rows k t is
  have K2 := Lib.hid (fun (W : World) (u : Value) (T : Pp w W w.heap.size (w.heap.size + 1) (putQ p k t is) u) => rkeys_any (putQ p k t is) T.pb.rows (show used (putL p.rows k t is) ≤ 1000000 by omega))
  obtain ⟨x1, s1, r1, c1⟩ := rows_head h hc hx
  obtain ⟨x2, s2, r2, c2⟩ := rows_tail h hc (k := if is then k + 1 else k) (by cases is with
    | false => exact hx
    | true => exact hi rfl)
  have OLD := Lib.hid (old_of h)
  have R1 := Lib.hid r1
  have R2 := Lib.hid r2
  have N1 := Lib.hid c1.nilOk
  have N2 := Lib.hid c2.nilOk
  have hn2 : p.rows.length ≤ 250000 := by have := Page.used_len p.rows; omega
  have L1 := Lib.hid (show ([] : List ByteArray).length + (p.rows.take k).length ≤ 1000000 by simp; omega)
  have L2 := Lib.hid (show ∀ j, ((p.rows.take k ++ [t]) : List ByteArray).length + (p.rows.drop j).length ≤ 1000000 from fun j => by simp; omega)
  have L3 := Lib.hid (show (p.rows.take k).length ≤ 900000 by simp; omega)
  obtain ⟨ad, c, rfl, _⟩ := id h
  clear h hc hu ht r1 r2 c1 c2 pu
  obtain ⟨n, hn⟩ : ∃ n, n = p.rows.length := ⟨_, rfl⟩
  have NN := Lib.hid hn
  rw [← hn] at T0 K1 OLD s1 s2 hx hi hn2 ⊢
  clear hn
  have ck : (checkI p != 0) = false := by rw [check_zero, hk]; rfl
  obtain ⟨a0, a1, a2, a3, a4, a5⟩ := T0.out.pb.six
  unfold pgV pgC at *
  clear hk
  generalize checkI p = ci at *
  go_enter Tryd.func48, Tryd.ntmps48
  go_wp2_with fail
  refine (K1.out _ T0.out).mono ?_
  rintro e w1 ⟨rfl, b1⟩
  have T1 := Lib.hid (T0.out.later b1)
  clear b1 T0 a0 a1 a2 a3 a4 a5 K1
  obtain ⟨a0, a1, a2, a3, a4, a5⟩ := T1.out.pb.six
  obtain ⟨g, hg⟩ : ∃ g, g = w.heap.size := ⟨_, rfl⟩
  have G := Lib.hid hg
  rw [← hg] at T1 K2 a0 a1 a2 a3 a4 a5 ⊢
  clear hg
  go_upto_region 3 with fail
  go_cut [35] (fun s wx => s = .bool false ∧ wx = w1)
  case first =>
    have e1 : decide ((k : Int) < 0) = false := decide_eq_false (by omega)
    have e2 : decide (n < k) = false := decide_eq_false (by omega)
    clear s1 s2 ck
    cases is with
    | false =>
      clear hi
      go_wp2_with fail
      go_meet
      exact ⟨by simp <;> omega, rfl⟩
    | true =>
      have hlt := hi rfl
      have e3 : ((k : Int) == (n : Int)) = false := by simp; omega
      clear hi
      go_wp2_with fail
      go_meet
      exact ⟨by simp <;> omega, rfl⟩
  case rest =>
    obtain ⟨rfl, rfl⟩ := hcut
    clear a0 a1 a2 a3 a4 a5 ck
    have OLD2 := Lib.hid (show p.rows ≠ [] → ∀ b o c', (.slice ad n c : Value) = .slice (some ⟨b, o, none⟩) p.rows.length c' → b < w.heap.size from fun hnil b o c' e => OLD.out hnil b o c' (e.trans (by rw [NN.out])))
    obtain ⟨A, hA⟩ : ∃ A, A = p.rows.take k := ⟨_, rfl⟩
    have PL := Lib.hid (show putL p.rows k t is = A ++ [t] ++ p.rows.drop (if is then k + 1 else k) by rw [hA]; rfl)
    have LA := Lib.hid (show A.length = k by rw [hA, List.length_take]; have := NN.out; omega)
    have LA2 := Lib.hid (show (A ++ [t]).length = k + 1 by rw [List.length_append, LA.out]; rfl)
    rw [← hA] at R1 L1 L2 L3
    clear hA OLD
    have T2 := Lib.hid (T1.out.later (below_new _ (.cells #[] 9)))
    have E0 := Lib.hid (Slot.Tx.made w (w := wc) [] T1.out.pb.below.size (by simp))
    have X1 := Lib.hid (R1.out.later (T2.out.pb.below))
    obtain ⟨a0, a1, a2, a3, a4, a5⟩ := T2.out.pb.six
    clear T1 R1
    go_upto_if 47 with (first | (refine Page.wpList_app_in (W0 := w) (l := []) (news := A) rfl _ _ rfl E0.out X1.out N1.out L1.out rfl rfl ?_; intro v3 w3 t3 g3; replace t3 : Slot.Tx w w3 v3 A := t3; obtain ⟨ad3, cap3, rfl⟩ := t3.shape; have T3 := Lib.hid (T2.out.grown E0.out g3 OLD2.out); rw [LA.out] at t3 ⊢; obtain ⟨p1, p2, p3, p4⟩ := app_one (S := t) t3 T3.out.pb.below L3.out; have P1 := Lib.hid p1; have P2 := Lib.hid p2; have P3 := Lib.hid p3; have T4 := Lib.hid (T3.out.later (below_new _ (.cells #[.string t] 9))); clear p1 p2 p3 p4 t3 g3 T3 a0 a1 a2 a3 a4 a5 T2 E0 X1) | (refine Slot.wpList_app (W0 := w) (news := [t]) rfl _ _ rfl P1.out P2.out P3.out rfl rfl ?_; intro v5 w5 t5 g5; obtain ⟨ad5, cap5, rfl⟩ := t5.shape; have T5 := Lib.hid (T4.out.grown P1.out g5 OLD2.out); rw [LA2.out] at t5 ⊢; have X5 := Lib.hid t5; clear t5 g5 P1 P2 P3 T4))
    have X2 := Lib.hid (R2.out.later (T5.out.pb.below))
    clear R2
    go_cut [10] (fun s wx => Slot.Tx w wx s (putL p.rows k t is) ∧ Pp w wx g (g + 1) p (.slice ad n c))
    case first =>
      obtain ⟨a0, a1, a2, a3, a4, a5⟩ := T5.out.pb.six
      cases is with
      | false =>
        simp only [Bool.false_eq_true, if_false] at s2 X2 ⊢
        clear hi
        go_wp2_with (first | (refine Page.wpList_app_in (W0 := w) (l := A ++ [t]) (news := p.rows.drop k) rfl _ _ rfl X5.out X2.out N2.out (L2.out _) rfl rfl ?_; intro v6 w6 t6 g6; have X6 := Lib.hid t6; have T6 := Lib.hid (T5.out.grown X5.out g6 OLD2.out); clear t6 g6 a0 a1 a2 a3 a4 a5))
        go_meet
        exact ⟨by rw [PL.out]; exact X6.out, T6.out⟩
      | true =>
        have hlt := hi rfl
        simp only [if_true] at s2 X2 ⊢
        have e1 : ((k + 1 : Nat) : Int) = (k : Int) + 1 := by omega
        rw [e1] at s2
        clear hi e1
        go_wp2_with (first | (refine Page.wpList_app_in (W0 := w) (l := A ++ [t]) (news := p.rows.drop (k + 1)) rfl _ _ rfl X5.out X2.out N2.out (L2.out _) rfl rfl ?_; intro v6 w6 t6 g6; have X6 := Lib.hid t6; have T6 := Lib.hid (T5.out.grown X5.out g6 OLD2.out); clear t6 g6 a0 a1 a2 a3 a4 a5))
        go_meet
        exact ⟨by rw [PL.out]; exact X6.out, T6.out⟩
    case rest =>
      obtain ⟨t7, q7⟩ := hcut
      obtain ⟨ad7, cap7, rfl⟩ := t7.shape
      have GW := Lib.hid (show w.heap.size ≤ g from by have := G.out; omega)
      obtain ⟨q8, t8⟩ := q7.set GW.out (by omega) t7
      have q8 : Pp w _ g (g + 1) (putQ p k t is) _ := q8
      have t8 : Slot.Tx w _ _ (putQ p k t is).rows := t8
      have K3 := Lib.hid (K2.out _ _ q8)
      have CT := Lib.hid (Page.cap_tx t8)
      have Q8 := Lib.hid q8
      have TX8 := Lib.hid t8
      have a5 := q7.pb.six.2.2.2.2.2
      have fz := frozen_of_row _ _ 5 _ _ q7.pb.box
      clear q7 t7 q8 t8 T5 X5 X2 K2 s2 OLD2
      obtain ⟨m, hm⟩ : ∃ m, m = (putL p.rows k t is).length := ⟨_, rfl⟩
      rw [← hm] at CT Q8 K3 TX8 ⊢
      clear hm PL
      generalize putQ p k t is = qx at *
      obtain ⟨b0, b1, b2, b3, b4, b5⟩ := Q8.out.pb.six
      go_wp2_with fail
      refine K3.out.mono ?_
      rintro e w9 ⟨u, rfl, _, b9⟩
      have Q9 := Lib.hid (Q8.out.later b9)
      have TX9 := Lib.hid (TX8.out.later b9)
      clear b9 Q8 K3 a5 fz b0 b1 b2 b3 b4 b5 TX8
      have HB := Lib.hid Q9.out.res
      have HL := Lib.hid Q9.out.pb.below
      have GR := Lib.hid (show w.heap.size ≤ g + 1 by have := GW.out; omega)
      obtain ⟨b0, b1, b2, b3, b4, b5⟩ := Q9.out.pb.six
      clear Q9
      cases hkq : keysB qx with
      | false =>
        rw [hkq] at QQ QE
        obtain rfl : qq = Pg.zero := QQ.out
        obtain rfl : qe = 7 := QE.out
        clear hkq b0 b1 b2 b3 b4 b5 TX9
        go_wp2_with (refine wpList_store_row rfl 26 _ _ rfl (g + 1) zeroP rfl rfl 26 zeroP HB.out info_page rfl zero_one ?_)
        exact bodyPost_ret (v := .tuple #[pgV Pg.zero (.slice none 0 0), .int .i64 7]) (results_page Tryd.results48 _ _ (g + 1) zeroP 7 rfl rfl (setRow_heap _ _ _ _ _ _ HB.out) info_page) rfl (PgPost.none 7 (below_setRow HL.out GR.out _))
      | true =>
        rw [hkq] at QQ QE
        obtain rfl : qq = qx := QQ.out
        obtain rfl : qe = 0 := QE.out
        clear hkq
        have TXR := Lib.hid (tx_setRow TX9.out HB.out (pgC qq (.slice ad7 m cap7)))
        go_wp2_with (refine wpList_store_row rfl 26 _ _ rfl (g + 1) (pgC qq (.slice ad7 m cap7)) rfl rfl 26 zeroP HB.out info_page rfl (pg_one _ _ _ _) ?_)
        exact bodyPost_ret (v := .tuple #[pgV qq (.slice ad7 m cap7), .int .i64 0]) (results_page Tryd.results48 _ _ (g + 1) (pgC qq (.slice ad7 m cap7)) 0 rfl rfl (setRow_heap _ _ _ _ _ _ HB.out) info_page) rfl ⟨below_setRow HL.out GR.out _, _, rfl, Page.rows_tx TXR.out, CT.out⟩

theorem at_true {p : Pg} {x : Int} {is : Bool} (h : atB p x is = true) : ∃ k : Nat, x = (k : Int) ∧ k ≤ p.rows.length ∧ (is = true → k < p.rows.length) := by
  unfold atB at h
  simp only [Bool.and_eq_true, decide_eq_true_eq, Bool.not_eq_true'] at h
  obtain ⟨⟨h1, h2⟩, h3⟩ := h
  refine ⟨x.toNat, by omega, by omega, ?_⟩
  rintro rfl
  simp at h3
  omega
theorem rput_any {w : World} {v : Value} (p : Pg) (x : Int) (t : ByteArray) (is : Bool) (h : Page.Rows w v p.rows) (hc : CapOk v) (hu : used p.rows ≤ 900000) (ht : t.size ≤ 90000) :
    Calls Tryd.prog 48 #[pgV p v, .int .i64 x, .string t, .bool is] w (PgPost (putR p x t is) (putE p x t is) w) := by
  cases hk : nodeB p with
  | false =>
    have e : putE p x t is = 7 := by unfold putE; rw [hk]; rfl
    rw [putR_bad (by omega), e]
    exact rput_node p x t is h hu hk
  | true =>
    cases hx : atB p x is with
    | false =>
      have e : putE p x t is = 2 := by unfold putE; rw [hk, hx]; rfl
      rw [putR_bad (by omega), e]
      exact rput_at p x t is h hu hk hx
    | true =>
      obtain ⟨k, rfl, h1, h2⟩ := at_true hx
      have e : putE p k t is = if keysB (putQ p k t is) then 0 else 7 := by unfold putE; rw [hk, hx, Int.toNat_natCast]; rfl
      have e2 : putR p k t is = if keysB (putQ p k t is) then putQ p k t is else Pg.zero := by
        unfold putR
        rw [e, Int.toNat_natCast]
        cases keysB (putQ p k t is) <;> rfl
      rw [e, e2]
      exact rput_good p k t is h hc hu ht hk h1 h2

end Go.Proofs.YtbdbnpcbbebelaaDoor.Node

namespace Go.Proofs.YtbdbnpcbbebelaaDoor.Node
open Go.RowKit
open Go.Proofs.YtbdbnpcbbebelaaDoor.Page (Pg nth used pgV pgC CapOk zeroP info_page results_page zero_one rows_head rows_tail)
attribute [local go_sem ↓] Go.wp_at_zero Go.wp_at_succ

theorem rows_setRow {w : World} {r : Nat} {v : Value} {l : List ByteArray} (h : Page.Rows w v l) (res : w.heap[r]? = some (.cells zeroP 26 (0, 0))) (cs : Array Value) : Page.Rows (w.setRow r cs) v l := by
  obtain ⟨ad, c, hv, h1⟩ := h
  refine ⟨ad, c, hv, ?_⟩
  by_cases hl : l = []
  · exact .inl hl
  rcases h1 with h1 | ⟨b, o, ha, hb, hc⟩
  · exact .inl h1
  have hlen : 0 < l.length := List.length_pos_iff.2 hl
  have hne : b ≠ r := by
    rintro rfl
    have h0 := hc 0 hlen
    rw [cell_of_row _ _ _ _ _ _ res] at h0
    have := Array.mem_of_getElem? h0
    simp [zeroP] at this
  refine .inr ⟨b, o, ha, by simpa [World.setRow] using hb, fun j hj => ?_⟩
  rw [World.cell?_of_block (setRow_other w r b cs hne)]
  exact hc j hj
/-- what with answers -/
def withE (p : Pg) (x : Int) (t : ByteArray) (is : Bool) : Int := if putE p x t is = 0 then (if Page.mayP (putR p x t is) then 0 else 4) else putE p x t is
def withR (p : Pg) (x : Int) (t : ByteArray) (is : Bool) : Pg := if withE p x t is = 0 then putR p x t is else Pg.zero
theorem put_used2 (p : Pg) (x : Int) (t : ByteArray) (is : Bool) (hu : used p.rows ≤ 900000) (ht : t.size ≤ 90000) : used (putR p x t is).rows ≤ 1000000 := by
  unfold putR
  split
  · have := put_used p.rows x.toNat t is
    show used (putL _ _ _ _) ≤ _
    omega
  · exact Nat.zero_le _

set_option maxRecDepth 100000 in
set_option maxHeartbeats 4000000 in
theorem rwith_any {w : World} {v : Value} (p : Pg) (x : Int) (t : ByteArray) (is : Bool) (h : Page.Rows w v p.rows) (hc : CapOk v) (hu : used p.rows ≤ 900000) (ht : t.size ≤ 90000) :
    Calls Tryd.prog 21 #[pgV p v, .int .i64 x, .string t, .bool is] w (PgPost (withR p x t is) (withE p x t is) w) := by
  have T0 := Lib.hid (Pp.start h)
  have K1 := Lib.hid (fun (W : World) (T : Pp w W w.heap.size (w.heap.size + 1) p v) => rput_any p x t is T.pb.rows hc hu ht)
  have PU := Lib.hid (put_used2 p x t is hu ht)
  have eE : withE p x t is = if putE p x t is = 0 then (if Page.mayP (putR p x t is) then 0 else 4) else putE p x t is := rfl
  have eR : withR p x t is = if withE p x t is = 0 then putR p x t is else Pg.zero := rfl
  have eZ : ¬ putE p x t is = 0 → putR p x t is = Pg.zero := putR_bad
  generalize withE p x t is = we at *
  generalize withR p x t is = wr at *
  generalize putE p x t is = pe at *
  generalize putR p x t is = pr at *
  obtain ⟨ad, c, rfl, _⟩ := id h
  clear h hc hu ht
  obtain ⟨n, hn⟩ : ∃ n, n = p.rows.length := ⟨_, rfl⟩
  rw [← hn] at T0 K1 ⊢
  clear hn
  have EE := Lib.hid eE
  have ER := Lib.hid eR
  have EZ := Lib.hid eZ
  clear eE eR eZ
  obtain ⟨a0, a1, a2, a3, a4, a5⟩ := T0.out.pb.six
  unfold pgV pgC at *
  go_enter Tryd.func21, Tryd.ntmps21
  go_wp2_with fail
  refine (K1.out _ T0.out).mono ?_
  rintro e w1 ⟨b1, v1, rfl, r1, c1⟩
  obtain ⟨ad1, cap1, rfl, _⟩ := id r1
  have T1 := Lib.hid (T0.out.later b1)
  have R1 := Lib.hid r1
  have C1 := Lib.hid c1
  clear b1 T0 a0 a1 a2 a3 a4 a5 K1 r1 c1
  obtain ⟨m, hm⟩ : ∃ m, m = pr.rows.length := ⟨_, rfl⟩
  rw [← hm] at R1 C1 ⊢
  clear hm
  obtain ⟨r, hr⟩ : ∃ r, r = w.heap.size + 1 := ⟨_, rfl⟩
  rw [← hr] at T1
  have GR := Lib.hid (show w.heap.size ≤ r by omega)
  unfold pgV
  go_upto_if 21 with fail
  have T2 := Lib.hid (show Pp w (w1.alloc (.cells (pgC pr (.slice ad1 m cap1)) 26)) w1.heap.size r pr (.slice ad1 m cap1) from
    ⟨⟨heap_alloc_new w1 _, R1.out.alloc _, (T1.out.later (below_new w1 (.cells (pgC pr (.slice ad1 m cap1)) 26))).pb.below⟩, (T1.out.later (below_new w1 (.cells (pgC pr (.slice ad1 m cap1)) 26))).res⟩)
  have K2 := Lib.hid (fun (W : World) (T : Pp w W w1.heap.size r pr (.slice ad1 m cap1)) => Page.rmay_any pr T.pb.rows PU.out)
  unfold pgV at K2
  clear T1 R1
  by_cases he : pe = 0
  · obtain rfl := he
    rw [if_pos rfl] at EE
    obtain ⟨a0, a1, a2, a3, a4, a5⟩ := T2.out.pb.six
    unfold pgC at T2
    rw [← hr]
    clear hr
    go_wp2_with fail
    refine (K2.out _ T2.out).mono ?_
    rintro e w3 ⟨rfl, b3⟩
    have T3 := Lib.hid (T2.out.later b3)
    clear b3 T2 a0 a1 a2 a3 a4 a5 K2
    obtain ⟨a0, a1, a2, a3, a4, a5⟩ := T3.out.pb.six
    have HB := Lib.hid T3.out.res
    have HL := Lib.hid T3.out.pb.below
    have RT := Lib.hid (rows_setRow T3.out.pb.rows T3.out.res (pgC pr (.slice ad1 m cap1)))
    clear T3
    cases hm : Page.mayP pr with
    | false =>
      rw [hm] at EE
      obtain rfl : we = 4 := EE.out
      obtain rfl : wr = Pg.zero := ER.out
      clear hm
      go_wp2_with (refine wpList_store_row rfl 26 _ _ rfl r zeroP rfl rfl 26 zeroP HB.out info_page rfl zero_one ?_)
      exact bodyPost_ret (v := .tuple #[pgV Pg.zero (.slice none 0 0), .int .i64 4]) (results_page Tryd.results21 _ _ r zeroP 4 rfl rfl (setRow_heap _ _ _ _ _ _ HB.out) info_page) rfl (PgPost.none 4 (below_setRow HL.out GR.out _))
    | true =>
      rw [hm] at EE
      obtain rfl : we = 0 := EE.out
      obtain rfl : wr = pr := ER.out
      clear hm
      go_wp2_with (refine wpList_store_row rfl 26 _ _ rfl r (pgC wr (.slice ad1 m cap1)) rfl rfl 26 zeroP HB.out info_page rfl (pg_one _ _ _ _) ?_)
      exact bodyPost_ret (v := .tuple #[pgV wr (.slice ad1 m cap1), .int .i64 0]) (results_page Tryd.results21 _ _ r (pgC wr (.slice ad1 m cap1)) 0 rfl rfl (setRow_heap _ _ _ _ _ _ HB.out) info_page) rfl ⟨below_setRow HL.out GR.out _, _, rfl, RT.out, C1.out⟩
  · have he2 : (pe != 0) = true := by simp; exact he
    have EZ2 := EZ.out he
    have EE2 : we = pe := by rw [EE.out, if_neg he]
    have ER2 : wr = Pg.zero := by rw [ER.out, EE2, if_neg he]
    obtain rfl := EE2
    obtain rfl := ER2
    have HB := Lib.hid T2.out.res
    have HL := Lib.hid T2.out.pb.below
    clear EZ2 he T2 K2
    rw [← hr]
    clear hr
    go_wp2_with (refine wpList_store_row rfl 26 _ _ rfl r zeroP rfl rfl 26 zeroP HB.out info_page rfl zero_one ?_)
    exact bodyPost_ret (v := .tuple #[pgV Pg.zero (.slice none 0 0), .int .i64 we]) (results_page Tryd.results21 _ _ r zeroP we rfl rfl (setRow_heap _ _ _ _ _ _ HB.out) info_page) rfl (PgPost.none we (below_setRow HL.out GR.out _))

end Go.Proofs.YtbdbnpcbbebelaaDoor.Node

namespace Go.Proofs.YtbdbnpcbbebelaaDoor.Node
open Go.RowKit
open Go.Proofs.YtbdbnpcbbebelaaDoor.Page (Pg nth used pgV pgC CapOk zeroP info_page results_page zero_one rows_head rows_tail)
attribute [local go_sem ↓] Go.wp_at_zero Go.wp_at_succ

/-- rows without one -/
def outL (l : List ByteArray) (k : Nat) : List ByteArray := l.take k ++ l.drop (k + 1)
def outQ (p : Pg) (k : Nat) : Pg := { p with rows := outL p.rows k }
def outE (p : Pg) (x : Int) : Int := if nodeB p then (if 0 ≤ x ∧ x < p.rows.length then (if p.kind = 2 ∧ p.rows.length = 1 then 7 else 0) else 3) else 7
def outR (p : Pg) (x : Int) : Pg := if outE p x = 0 then outQ p x.toNat else Pg.zero

set_option maxRecDepth 100000 in
set_option maxHeartbeats 4000000 in
theorem rout_node {w : World} {v : Value} (p : Pg) (x : Int) (h : Page.Rows w v p.rows) (hu : used p.rows ≤ 900000) (hk : nodeB p = false) :
    Calls Tryd.prog 23 #[pgV p v, .int .i64 x] w (PgPost Pg.zero 7 w) := by
  have T0 := Lib.hid (Pp.start h)
  have K1 := Lib.hid (fun (W : World) (T : Pp w W w.heap.size (w.heap.size + 1) p v) => rcheck_any p T.pb.rows (by omega))
  obtain ⟨ad, c, rfl, _⟩ := id h
  clear h hu
  have HX : p.rows.length = p.rows.length := rfl
  obtain ⟨n, hn⟩ : ∃ n, n = p.rows.length := ⟨_, rfl⟩
  rw [← hn] at T0 K1 HX ⊢
  clear hn
  have ck : (checkI p != 0) = true := by rw [check_zero, hk]; rfl
  obtain ⟨a0, a1, a2, a3, a4, a5⟩ := T0.out.pb.six
  unfold pgV pgC at *
  clear hk
  generalize checkI p = ci at *
  go_enter Tryd.func23, Tryd.ntmps23
  go_wp2_with fail
  refine (K1.out _ T0.out).mono ?_
  rintro e w1 ⟨rfl, b1⟩
  have T1 := Lib.hid (T0.out.later b1)
  clear b1 T0 a0 a1 a2 a3 a4 a5 K1
  obtain ⟨a0, a1, a2, a3, a4, a5⟩ := T1.out.pb.six
  obtain ⟨r, hr⟩ : ∃ r, r = w.heap.size + 1 := ⟨_, rfl⟩
  rw [← hr] at T1 ⊢
  have GR := Lib.hid (show w.heap.size ≤ r by omega)
  have HB := Lib.hid T1.out.res
  have HL := Lib.hid T1.out.pb.below
  clear T1 hr
  clear HX
  go_wp2_with (refine wpList_store_row rfl 26 _ _ rfl r zeroP rfl rfl 26 zeroP HB.out info_page rfl zero_one ?_)
  exact bodyPost_ret (v := .tuple #[pgV Pg.zero (.slice none 0 0), .int .i64 7]) (results_page Tryd.results23 _ _ r zeroP 7 rfl rfl (setRow_heap _ _ _ _ _ _ HB.out) info_page) rfl (PgPost.none 7 (below_setRow HL.out GR.out _))

set_option maxRecDepth 100000 in
set_option maxHeartbeats 4000000 in
theorem rout_at {w : World} {v : Value} (p : Pg) (x : Int) (h : Page.Rows w v p.rows) (hu : used p.rows ≤ 900000) (hk : nodeB p = true) (hx : ¬ (0 ≤ x ∧ x < p.rows.length)) :
    Calls Tryd.prog 23 #[pgV p v, .int .i64 x] w (PgPost Pg.zero 3 w) := by
  have T0 := Lib.hid (Pp.start h)
  have K1 := Lib.hid (fun (W : World) (T : Pp w W w.heap.size (w.heap.size + 1) p v) => rcheck_any p T.pb.rows (by omega))
  obtain ⟨ad, c, rfl, _⟩ := id h
  clear h hu
  have HX : x < 0 ∨ ((p.rows.length : Nat) : Int) ≤ x := by omega
  clear hx
  obtain ⟨n, hn⟩ : ∃ n, n = p.rows.length := ⟨_, rfl⟩
  rw [← hn] at T0 K1 HX ⊢
  clear hn
  have ck : (checkI p != 0) = false := by rw [check_zero, hk]; rfl
  obtain ⟨a0, a1, a2, a3, a4, a5⟩ := T0.out.pb.six
  unfold pgV pgC at *
  clear hk
  generalize checkI p = ci at *
  go_enter Tryd.func23, Tryd.ntmps23
  go_wp2_with fail
  refine (K1.out _ T0.out).mono ?_
  rintro e w1 ⟨rfl, b1⟩
  have T1 := Lib.hid (T0.out.later b1)
  clear b1 T0 a0 a1 a2 a3 a4 a5 K1
  obtain ⟨a0, a1, a2, a3, a4, a5⟩ := T1.out.pb.six
  obtain ⟨r, hr⟩ : ∃ r, r = w.heap.size + 1 := ⟨_, rfl⟩
  rw [← hr] at T1 ⊢
  have GR := Lib.hid (show w.heap.size ≤ r by omega)
  have HB := Lib.hid T1.out.res
  have HL := Lib.hid T1.out.pb.below
  clear T1 hr
  rcases HX with h1 | h1
  · go_wp2_with (refine wpList_store_row rfl 26 _ _ rfl r zeroP rfl rfl 26 zeroP HB.out info_page rfl zero_one ?_)
    exact bodyPost_ret (v := .tuple #[pgV Pg.zero (.slice none 0 0), .int .i64 3]) (results_page Tryd.results23 _ _ r zeroP 3 rfl rfl (setRow_heap _ _ _ _ _ _ HB.out) info_page) rfl (PgPost.none 3 (below_setRow HL.out GR.out _))
  · go_wp2_with (refine wpList_store_row rfl 26 _ _ rfl r zeroP rfl rfl 26 zeroP HB.out info_page rfl zero_one ?_)
    exact bodyPost_ret (v := .tuple #[pgV Pg.zero (.slice none 0 0), .int .i64 3]) (results_page Tryd.results23 _ _ r zeroP 3 rfl rfl (setRow_heap _ _ _ _ _ _ HB.out) info_page) rfl (PgPost.none 3 (below_setRow HL.out GR.out _))


end Go.Proofs.YtbdbnpcbbebelaaDoor.Node
