/-
  Walks: what is between two keys, two lists of texts, in the document.
  Walks: a text is put into a page, in the document (where it can't be).
-/
import Derived.Deep.DeepCutAuto
import Derived.Test.YtbdbnpcbbebelaaDoorZ9
import Derived.Test.YtbdbnpcbbebelaaDoorZ2
import Derived.Test.YtbdbnpcbbebelaaDoorZ4
import Derived.Test.YtbdbnpcbbebelaaDoorZ3
namespace Go.Proofs.YtbdbnpcbbebelaaDoor.Key
open Go.RowKit

theorem cmp_take_le : ∀ (a b : List UInt8) (n : Nat), n ≤ com a b → cmp (b.take n) a ≤ 0
  | [], b, n, h => by
    have : n = 0 := by simp [com] at h; exact h
    subst this
    rw [List.take_zero, cmp_nil]; omega
  | _ :: _, b, 0, _ => by rw [List.take_zero, cmp_nil_cons]; omega
  | _ :: _, [], n + 1, h => by simp [com] at h
  | a :: us, b :: bs, n + 1, h => by
    unfold com at h
    split at h
    · rename_i e
      subst e
      rw [List.take_succ_cons, cmp_cons_same]
      exact cmp_take_le us bs n (by omega)
    · omega
theorem cmp_take_gt : ∀ a b : List UInt8, cmp a b < 0 → 0 < cmp (b.take (com a b + 1)) a
  | [], [], h => by rw [cmp_nil] at h; omega
  | [], b :: bs, _ => by
    have e : com [] (b :: bs) = 0 := by simp [com]
    rw [e, List.take_succ_cons, List.take_zero, cmp_cons_nil]; omega
  | _ :: _, [], h => by rw [cmp_cons_nil] at h; omega
  | a :: us, b :: bs, h => by
    rcases byte_three a b with hl | rfl | hg
    · have e : com (a :: us) (b :: bs) = 0 := by
        unfold com
        rw [if_neg (by rintro rfl; omega)]
      rw [e, List.take_succ_cons, List.take_zero, cmp_cons_gt _ _ hl]; omega
    · have e : com (a :: us) (a :: bs) = com us bs + 1 := by
        show (if a = a then _ else _) = _
        rw [if_pos rfl]
      rw [cmp_cons_same] at h
      rw [e, List.take_succ_cons, cmp_cons_same]
      exact cmp_take_gt us bs h
    · rw [cmp_cons_gt _ _ hg] at h; omega
theorem data_cut (b : ByteArray) (n : Nat) : (b.extract 0 n).data.toList = b.data.toList.take n := by simp
theorem cut_le (a b : ByteArray) (n : Nat) (h : n ≤ comOf a b) : cmpOf (b.extract 0 n) a ≤ 0 := by
  unfold cmpOf
  rw [data_cut]
  exact cmp_take_le _ _ _ h
theorem cut_gt (a b : ByteArray) (h : cmpOf a b < 0) : 0 < cmpOf (b.extract 0 (comOf a b + 1)) a := by
  unfold cmpOf
  rw [data_cut]
  exact cmp_take_gt _ _ h

set_option maxRecDepth 100000 in
set_option maxHeartbeats 2000000 in
theorem rbetween_any (a b : ByteArray) (w : World) (ha : a.size ≤ 140737488351232) (hb : b.size ≤ 140737488351232) :
    Calls Tryd.prog 54 #[.string a, .string b] w fun e w' => e = .returned (.tuple #[.string (between a b), .bool (decide (cmpOf a b < 0))]) ∧ Below w.heap.size w w' := by
  have q1 := Lib.hid (fun w => rcompare_any a b w (by unfold maxLen; omega) (by unfold maxLen; omega))
  have q2 := Lib.hid (fun n w => rcompare_any (b.extract 0 n) a w (by unfold maxLen; rw [ByteArray.size_extract]; omega) (by unfold maxLen; omega))
  have l := comOf_lt a b
  have r := cmpOf_range a b
  have CL := Lib.hid (cut_le a b)
  have CG := Lib.hid (cut_gt a b)
  have LOW := Lib.hid (fun k (h : k ≤ b.size) => cut_low b k h)
  unfold between
  by_cases h : cmpOf a b < 0
  · have hl := l h
    have cg := Lib.hid (CG.out h)
    rw [if_pos h, decide_eq_true h]
    generalize cmpOf a b = x at *
    generalize comOf a b = n at *
    clear CG l
    go_enter Tryd.func54, Tryd.ntmps54
    go_wp2_with fail
    refine (q1.out _).mono ?_
    rintro e w1 ⟨rfl, b1⟩
    have B1 := Lib.hid b1
    clear b1 q1 r
    go_wp2_with fail
    go_loopw [6] (fun i wr => ∃ k : Nat, k ≤ n + 1 ∧ i = .int .i64 (k : Int) ∧ Below w.heap.size w wr) (fun i _ => n + 2 - (intOf i).toNat)
    case atStart => exact ⟨0, by omega, by go_num, B1.out⟩
    case round =>
      obtain ⟨k, hk, rfl, hbl⟩ := hrel
      have HB := Lib.hid hbl
      clear hbl
      have low := LOW.out k (by omega)
      have KC := Lib.hid (q2.out k)
      by_cases hlt : k ≤ n
      · have c0 := CL.out k hlt
        generalize cmpOf (b.extract 0 k) a = cm at *
        generalize b.extract 0 k = s at *
        go_wp2_with fail
        refine (KC.out _).mono ?_
        rintro e w3 ⟨rfl, b3⟩
        have NB := Lib.hid (HB.out.trans (b3.mono HB.out.size))
        clear b3 KC HB
        go_wp2_with fail
        go_roundw
        case rel => exact ⟨k + 1, by omega, by go_num, NB.out⟩
        case measure => simp [intOf]; omega
      · have hkn : k = n + 1 := by omega
        have c0 : 0 < cmpOf (b.extract 0 k) a := by rw [hkn]; exact cg.out
        obtain ⟨s, hs⟩ : ∃ s, s = b.extract 0 k := ⟨_, rfl⟩
        rw [← hs] at c0 low KC
        obtain ⟨cm, hcm⟩ : ∃ x, x = cmpOf s a := ⟨_, rfl⟩
        rw [← hcm] at c0 KC
        have SE := Lib.hid (show s = b.extract 0 (n + 1) by rw [hs, hkn])
        have hkb : k ≤ b.size := by omega
        clear hs hkn hcm q2 CL cg LOW
        go_wp2_with fail
        refine (KC.out _).mono ?_
        rintro e w3 ⟨rfl, b3⟩
        have NB := Lib.hid (HB.out.trans (b3.mono HB.out.size))
        clear b3 KC HB
        go_wp2_with fail
        go_ret2
        exact ⟨by rw [SE.out]; rfl, NB.out⟩
  · rw [if_neg h, decide_eq_false h]
    generalize cmpOf a b = x at *
    clear l CL CG q2 LOW
    go_enter Tryd.func54, Tryd.ntmps54
    go_wp2_with fail
    refine (q1.out _).mono ?_
    rintro e w1 ⟨rfl, b1⟩
    have B1 := Lib.hid b1
    clear b1
    go_wp2_with fail
    go_ret2
    exact ⟨rfl, B1.out⟩

end Go.Proofs.YtbdbnpcbbebelaaDoor.Key
namespace Go.Proofs.YtbdbnpcbbebelaaDoor.Node
open Go.RowKit
open Go.Proofs.YtbdbnpcbbebelaaDoor.Page (Pg nth ext_nth)
attribute [local go_sem ↓] Go.wp_at_zero Go.wp_at_succ

set_option maxRecDepth 100000 in
set_option maxHeartbeats 2000000 in
theorem rtexts_any {w : World} {v1 v2 : Value} (l1 l2 : List ByteArray) (h1 : Page.Rows w v1 l1) (h2 : Page.Rows w v2 l2) (n1 : l1.length ≤ 1000000) (n2 : l2.length ≤ 1000000) :
    Calls Tryd.prog 26 #[v1, v2] w fun e w' => e = .returned (.bool (decide (l1 = l2))) ∧ Below w.heap.size w w' := by
  obtain ⟨a1, c1, rfl, _⟩ := id h1
  obtain ⟨a2, c2, rfl, _⟩ := id h2
  have R1 := Lib.hid h1
  have R2 := Lib.hid h2
  clear h1 h2
  by_cases hl : l1.length = l2.length
  · obtain ⟨m, hm⟩ : ∃ m, m = l1.length := ⟨_, rfl⟩
    have e2 : l2.length = m := by omega
    rw [← hm] at R1 n1 ⊢
    rw [e2] at R2 ⊢
    have M := Lib.hid hm
    have M2 := Lib.hid e2
    have hm2 : ((m : Int) != (m : Int)) = false := by simp
    clear hl hm e2 n2
    go_enter Tryd.func26, Tryd.ntmps26
    go_wp2_with fail
    clear hm2
    go_loopw [5] (fun i wr => ∃ k : Nat, k ≤ m ∧ i = .int .i64 k ∧ Below w.heap.size w wr ∧ ∀ j, j < k → nth l1 j = nth l2 j) (fun i _ => m - (intOf i).toNat)
    case atStart => exact ⟨0, by omega, by go_num, Below.refl _ _, fun j hj => by omega⟩
    case round =>
      obtain ⟨k, hk, rfl, hb, heq⟩ := hrel
      have HB := Lib.hid hb
      have HE := Lib.hid heq
      clear hb heq
      by_cases hlt : k < m
      · have q1 := R1.out.later HB.out
        have q2 := R2.out.later HB.out
        rw [M.out] at q1
        rw [← M2.out] at q2
        obtain ⟨b1, o1, rfl, _, d1⟩ := q1.at (k := k) (by rw [← M.out]; exact hlt)
        obtain ⟨b2, o2, rfl, _, d2⟩ := q2.at (k := k) (by rw [M2.out]; exact hlt)
        clear q1 q2
        obtain ⟨s1, hs1⟩ : ∃ s, s = nth l1 k := ⟨_, rfl⟩
        obtain ⟨s2, hs2⟩ : ∃ s, s = nth l2 k := ⟨_, rfl⟩
        rw [← hs1] at d1
        rw [← hs2] at d2
        have S1 := Lib.hid hs1
        have S2 := Lib.hid hs2
        clear hs1 hs2
        by_cases hs : s1 = s2
        · have e1 : (s1.toList == s2.toList) = true := by rw [hs]; exact Page.beq_yes s2
          have NB := Lib.hid (HB.out.trans ((Below.refl wr.heap.size wr).drew.mono HB.out.size))
          have NE := Lib.hid (show ∀ j, j < k + 1 → nth l1 j = nth l2 j from fun j hj => by
            by_cases e : j = k
            · subst e; rw [← S1.out, ← S2.out, hs]
            · exact HE.out j (by omega))
          clear hs
          go_wp2_with fail
          go_region
          go_wp2_with fail
          go_roundw
          case rel => exact ⟨k + 1, by omega, by go_num, NB.out, NE.out⟩
          case measure => simp [intOf]; omega
        · have e1 : (s1.toList == s2.toList) = false := Page.beq_no hs
          have NB := Lib.hid (HB.out.trans ((Below.refl wr.heap.size wr).drew.mono HB.out.size))
          have NE := Lib.hid (show decide (l1 = l2) = false from decide_eq_false (by rintro rfl; exact hs (S1.out.trans S2.out.symm)))
          clear hs
          go_wp2_with fail
          go_region
          go_wp2_with fail
          go_ret
          exact ⟨by rw [NE.out]; rfl, NB.out⟩
      · obtain rfl : k = m := by omega
        have NE := Lib.hid (show decide (l1 = l2) = true from decide_eq_true (ext_nth (by rw [M2.out, ← M.out]) (by rw [← M.out]; exact HE.out)))
        go_wp2_with fail
        go_ret
        exact ⟨by rw [NE.out]; rfl, HB.out⟩
  · have NE := Lib.hid (show decide (l1 = l2) = false from decide_eq_false (by rintro rfl; exact hl rfl))
    have hm2 : ((l1.length : Int) != (l2.length : Int)) = true := by simp; omega
    clear hl
    generalize l1.length = m1 at *
    generalize l2.length = m2 at *
    go_enter Tryd.func26, Tryd.ntmps26
    go_wp2_with fail
    go_ret
    exact ⟨by rw [NE.out]; rfl, Below.refl _ _⟩

end Go.Proofs.YtbdbnpcbbebelaaDoor.Node

namespace Go.Proofs.YtbdbnpcbbebelaaDoor.Node
open Go.RowKit
open Go.Proofs.YtbdbnpcbbebelaaDoor.Page (Pg nth used pgV pgC CapOk zeroP info_page results_page zero_one)
open Go.Proofs.YtbdbnpcbbebelaaDoor.Key (cmpOf)
attribute [local go_sem ↓] Go.wp_at_zero Go.wp_at_succ

/-- rows with a text at a place -/
def putL (l : List ByteArray) (k : Nat) (t : ByteArray) (is : Bool) : List ByteArray := l.take k ++ [t] ++ l.drop (if is then k + 1 else k)
def putQ (p : Pg) (k : Nat) (t : ByteArray) (is : Bool) : Pg := { p with rows := putL p.rows k t is }
/-- whether it is a place -/
def atB (p : Pg) (x : Int) (is : Bool) : Bool := decide (0 ≤ x ∧ x ≤ p.rows.length) && !(is && decide (x = p.rows.length))
def putE (p : Pg) (x : Int) (t : ByteArray) (is : Bool) : Int := if nodeB p then (if atB p x is then (if keysB (putQ p x.toNat t is) then 0 else 7) else 2) else 7
def putR (p : Pg) (x : Int) (t : ByteArray) (is : Bool) : Pg := if putE p x t is = 0 then putQ p x.toNat t is else Pg.zero

/-- a page's box, and the one of the result -/
structure Pp (W0 w : World) (g r : Nat) (p : Pg) (v : Value) : Prop where
  pb : Pb W0 w g p v
  res : w.heap[r]? = some (.cells zeroP 26 (0, 0))
theorem Pp.later {W0 w w' : World} {g r : Nat} {p : Pg} {v : Value} (h : Pp W0 w g r p v) (t : Below w.heap.size w w') : Pp W0 w' g r p v :=
  ⟨h.pb.later t, (t.block r (Array.getElem?_eq_some_iff.1 h.res).1).trans h.res⟩
theorem Pp.start {w : World} {p : Pg} {v : Value} (h : Page.Rows w v p.rows) : Pp w ((w.alloc (.cells (pgC p v) 26)).alloc (.cells zeroP 26)) w.heap.size (w.heap.size + 1) p v := by
  have h1 := Pb.start (p := p) h
  have := heap_alloc_new (w.alloc (.cells (pgC p v) 26)) (.cells zeroP 26)
  rw [show (w.alloc (.cells (pgC p v) 26)).heap.size = w.heap.size + 1 by simp] at this
  exact ⟨h1.later (below_new _ _), this⟩
/-- a page and a number -/
def PgPost (q : Pg) (c : Int) (w : World) (e : Ending) (w' : World) : Prop :=
  Below w.heap.size w w' ∧ ∃ v, e = .returned (.tuple #[pgV q v, .int .i64 c]) ∧ Page.Rows w' v q.rows ∧ CapOk v
theorem PgPost.none {w w' : World} (c : Int) (h : Below w.heap.size w w') : PgPost Pg.zero c w (.returned (.tuple #[pgV Pg.zero (.slice none 0 0), .int .i64 c])) w' := ⟨h, _, rfl, Page.Rows.nil _ _ _, Page.cap_none⟩
theorem putR_bad {p : Pg} {x : Int} {t : ByteArray} {is : Bool} (h : ¬ putE p x t is = 0) : putR p x t is = Pg.zero := if_neg h

set_option maxRecDepth 100000 in
set_option maxHeartbeats 4000000 in
theorem rput_node {w : World} {v : Value} (p : Pg) (x : Int) (t : ByteArray) (is : Bool) (h : Page.Rows w v p.rows) (hu : used p.rows ≤ 900000) (hk : nodeB p = false) :
    Calls Tryd.prog 48 #[pgV p v, .int .i64 x, .string t, .bool is] w (PgPost Pg.zero 7 w) := by
  have T0 := Lib.hid (Pp.start h)
  have K1 := Lib.hid (fun (W : World) (t : Pp w W w.heap.size (w.heap.size + 1) p v) => rcheck_any p t.pb.rows (by omega))
  obtain ⟨ad, c, rfl, _⟩ := id h
  clear h hu
  obtain ⟨n, hn⟩ : ∃ n, n = p.rows.length := ⟨_, rfl⟩
  rw [← hn] at T0 K1 ⊢
  clear hn
  have ck : (checkI p != 0) = true := by rw [check_zero, hk]; rfl
  obtain ⟨a0, a1, a2, a3, a4, a5⟩ := T0.out.pb.six
  unfold pgV pgC at *
  clear hk
  generalize checkI p = ci at *
  go_enter Tryd.func48, Tryd.ntmps48
  go_wp2_with fail
  refine (K1.out _ T0.out).mono ?_
  rintro e w1 ⟨rfl, b1⟩
  have T1 := Lib.hid (T0.out.later b1)
  clear b1 T0 a0 a1 a2 a3 a4 a5 K1
  have HB := Lib.hid T1.out.res
  have HL := Lib.hid T1.out.pb.below
  have G := Lib.hid (show w.heap.size ≤ w.heap.size + 1 by omega)
  clear T1
  generalize w.heap.size + 1 = r at *
  go_wp2_with (refine wpList_store_row rfl 26 _ _ rfl r zeroP rfl rfl 26 zeroP HB.out info_page rfl zero_one ?_)
  exact bodyPost_ret (v := .tuple #[pgV Pg.zero (.slice none 0 0), .int .i64 7]) (results_page Tryd.results48 _ _ r zeroP 7 rfl rfl (setRow_heap _ _ _ _ _ _ HB.out) info_page) rfl (PgPost.none 7 (below_setRow HL.out G.out _))

set_option maxRecDepth 100000 in
set_option maxHeartbeats 4000000 in
theorem rput_at {w : World} {v : Value} (p : Pg) (x : Int) (t : ByteArray) (is : Bool) (h : Page.Rows w v p.rows) (hu : used p.rows ≤ 900000) (hk : nodeB p = true) (hx : atB p x is = false) :
    Calls Tryd.prog 48 #[pgV p v, .int .i64 x, .string t, .bool is] w (PgPost Pg.zero 2 w) := by
  have T0 := Lib.hid (Pp.start h)
  have K1 := Lib.hid (fun (W : World) (t : Pp w W w.heap.size (w.heap.size + 1) p v) => rcheck_any p t.pb.rows (by omega))
  obtain ⟨ad, c, rfl, _⟩ := id h
  clear h hu
  have hx3 : x < 0 ∨ ((p.rows.length : Nat) : Int) < x ∨ (is = true ∧ x = (p.rows.length : Nat)) := by
    unfold atB at hx
    cases is with
    | false =>
      simp at hx
      by_cases h0 : 0 ≤ x
      · exact .inr (.inl (hx h0))
      · exact .inl (by omega)
    | true =>
      simp at hx
      by_cases h0 : 0 ≤ x
      · by_cases h1 : x ≤ p.rows.length
        · exact .inr (.inr ⟨rfl, hx h0 h1⟩)
        · exact .inr (.inl (by omega))
      · exact .inl (by omega)
  obtain ⟨n, hn⟩ : ∃ n, n = p.rows.length := ⟨_, rfl⟩
  rw [← hn] at T0 K1 hx3 ⊢
  clear hn hx
  have ck : (checkI p != 0) = false := by rw [check_zero, hk]; rfl
  obtain ⟨a0, a1, a2, a3, a4, a5⟩ := T0.out.pb.six
  unfold pgV pgC at *
  clear hk
  generalize checkI p = ci at *
  go_enter Tryd.func48, Tryd.ntmps48
  go_wp2_with fail
  refine (K1.out _ T0.out).mono ?_
  rintro e w1 ⟨rfl, b1⟩
  have T1 := Lib.hid (T0.out.later b1)
  clear b1 T0 a0 a1 a2 a3 a4 a5 K1
  obtain ⟨a0, a1, a2, a3, a4, a5⟩ := T1.out.pb.six
  have HB := Lib.hid T1.out.res
  have HL := Lib.hid T1.out.pb.below
  have G := Lib.hid (show w.heap.size ≤ w.heap.size + 1 by omega)
  clear T1
  obtain ⟨r, hr⟩ : ∃ r, r = w.heap.size + 1 := ⟨_, rfl⟩
  rw [← hr] at HB G ⊢
  clear hr
  rcases hx3 with h1 | h1 | ⟨rfl, rfl⟩
  · go_wp2_with (refine wpList_store_row rfl 26 _ _ rfl r zeroP rfl rfl 26 zeroP HB.out info_page rfl zero_one ?_)
    exact bodyPost_ret (v := .tuple #[pgV Pg.zero (.slice none 0 0), .int .i64 2]) (results_page Tryd.results48 _ _ r zeroP 2 rfl rfl (setRow_heap _ _ _ _ _ _ HB.out) info_page) rfl (PgPost.none 2 (below_setRow HL.out G.out _))
  · go_wp2_with (refine wpList_store_row rfl 26 _ _ rfl r zeroP rfl rfl 26 zeroP HB.out info_page rfl zero_one ?_)
    exact bodyPost_ret (v := .tuple #[pgV Pg.zero (.slice none 0 0), .int .i64 2]) (results_page Tryd.results48 _ _ r zeroP 2 rfl rfl (setRow_heap _ _ _ _ _ _ HB.out) info_page) rfl (PgPost.none 2 (below_setRow HL.out G.out _))
  · go_wp2_with (refine wpList_store_row rfl 26 _ _ rfl r zeroP rfl rfl 26 zeroP HB.out info_page rfl zero_one ?_)
    exact bodyPost_ret (v := .tuple #[pgV Pg.zero (.slice none 0 0), .int .i64 2]) (results_page Tryd.results48 _ _ r zeroP 2 rfl rfl (setRow_heap _ _ _ _ _ _ HB.out) info_page) rfl (PgPost.none 2 (below_setRow HL.out G.out _))

end Go.Proofs.YtbdbnpcbbebelaaDoor.Node
