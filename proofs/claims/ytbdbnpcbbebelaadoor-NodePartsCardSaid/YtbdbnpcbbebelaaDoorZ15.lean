/-
  Walks: a page with a text at a place, in the code: where it can be.
  Walks: With, Fits, in the code.
-/
import Derived.Test.YtbdbnpcbbebelaaDoorZ14
namespace Go.Proofs.YtbdbnpcbbebelaaDoor.Node
open Go.RowKit
open Go.Proofs.YtbdbnpcbbebelaaDoor.Page (Pg nth used pgV pgC CapOk zeroP info_page results_page zero_one rows_head rows_tail Parts joinL NilOk)
attribute [local go_sem ↓] Go.wp_at_zero Go.wp_at_succ

set_option maxRecDepth 100000 in
set_option maxHeartbeats 4000000 in
theorem with_good {w : World} {v : Value} (p : Pg) (k : Nat) (t : ByteArray) (is : Bool) (h : Page.Rows w v p.rows) (hc : CapOk v) (hkd : p.kind < 256) (hu : used p.rows ≤ 900000) (ht : t.size ≤ 90000) (hk : nodeB p = true) (hx : k ≤ p.rows.length) (hi : is = true → k < p.rows.length) :
    Calls Tryd.prog 45 #[pgV p v, .int .i64 (k : Int), .string t, .bool is] w (PkPost (if keysB (putQ p k t is) then putQ p k t is else Pg.zero) (if keysB (putQ p k t is) then keysL p.kind (putL p.rows k t is) else []) (if keysB (putQ p k t is) then 0 else 7) w) := by
  obtain ⟨qq, hqq⟩ : ∃ q, q = if keysB (putQ p k t is) then putQ p k t is else Pg.zero := ⟨_, rfl⟩
  obtain ⟨ql, hql⟩ : ∃ q, q = if keysB (putQ p k t is) then keysL p.kind (putL p.rows k t is) else [] := ⟨_, rfl⟩
  obtain ⟨qe, hqe⟩ : ∃ q : Int, q = if keysB (putQ p k t is) then 0 else 7 := ⟨_, rfl⟩
  rw [← hqq, ← hqe, ← hql]
  have QQ := Lib.hid hqq
  have QL := Lib.hid (show ql = keysOf (putQ p k t is) from hql)
  have QE := Lib.hid hqe
  clear hqq hqe hql
  have T0 := Lib.hid (Pp.start h)
  have K1 := Lib.hid (fun (W : World) (t : Pp w W w.heap.size (w.heap.size + 1) p v) => check_any p t.pb.rows hkd (by omega))
  have K2 := Lib.hid (fun (W : World) (t : Pp w W w.heap.size (w.heap.size + 1) p v) => isrow_any p (k : Int) t.pb.rows (by have := Page.used_len p.rows; omega))
  have pu := put_used p.rows k t is
  have K3 := Lib.hid (fun (W : World) (u : Value) (T : Pp w W w.heap.size (w.heap.size + 1) (putQ p k t is) u) => keys_any (putQ p k t is) T.pb.rows hkd (show used (putL p.rows k t is) ≤ 1000000 by omega))
  obtain ⟨x1, s1, r1, c1⟩ := rows_head h hc hx
  obtain ⟨x2, s2, r2, c2⟩ := rows_tail h hc hx
  -- the rows behind
  have hxb : ∃ xb, (is = false → xb = x2) ∧ (is = true → ∀ W : World, (Instr.sliceAt 24 x2 (some (.int .i64 1)) none none).run Tryd.prog W = .ok xb W) ∧ Page.Rows w xb (p.rows.drop (if is then k + 1 else k)) ∧ CapOk xb := by
    cases is with
    | false => exact ⟨x2, fun _ => rfl, (fun e => by cases e), r2, c2⟩
    | true =>
      have hlt := hi rfl
      obtain ⟨x3, s3, r3, c3⟩ := rows_tail r2 c2 (k := 1) (by rw [List.length_drop]; omega)
      rw [List.drop_drop] at r3
      exact ⟨x3, (fun e => by cases e), (fun _ W => s3 W), r3, c3⟩
  obtain ⟨xb, f1, f2, rb, cb⟩ := hxb
  have OLD := Lib.hid (old_of h)
  have R1 := Lib.hid r1
  have RB := Lib.hid rb
  have N1 := Lib.hid c1.nilOk
  have NB := Lib.hid cb.nilOk
  have hn2 : p.rows.length ≤ 250000 := by have := Page.used_len p.rows; omega
  have F1 := Lib.hid f1
  have F2 := Lib.hid f2
  have LJ := Lib.hid (show (putL p.rows k t is).length ≤ 1000000 by have := Page.used_len (putL p.rows k t is); omega)
  have PL := Lib.hid (show putL p.rows k t is = p.rows.take k ++ [t] ++ p.rows.drop (if is then k + 1 else k) from rfl)
  obtain ⟨ad, c, rfl, _⟩ := id h
  obtain ⟨ad1, cc1, rfl, _⟩ := id r1
  obtain ⟨ad2, cc2, rfl, _⟩ := id r2
  obtain ⟨adb, ccb, rfl, _⟩ := id rb
  clear h hc hu ht r1 r2 c1 c2 pu hkd rb cb f1 f2
  obtain ⟨n, hn⟩ : ∃ n, n = p.rows.length := ⟨_, rfl⟩
  have NN := Lib.hid hn
  rw [← hn] at T0 K1 K2 OLD s1 s2 hx hi hn2 ⊢
  clear hn
  have dr : decide (0 ≤ (k : Int) ∧ (k : Int) < (n : Int)) = decide (k < n) := by
    rw [decide_eq_decide]; omega
  rw [dr] at K2
  have eci : checkI p = 0 := by unfold checkI; rw [hk]; rfl
  rw [eci] at K1
  obtain ⟨a0, a1, a2, a3, a4, a5⟩ := T0.out.pb.six
  unfold pgV pgC at *
  clear hk eci dr
  have S2 := Lib.hid s2
  clear s2
  generalize (p.rows.take k).length = m1 at *
  generalize (p.rows.drop k).length = m2 at *
  obtain ⟨mb, hmb⟩ : ∃ m, m = (p.rows.drop (if is then k + 1 else k)).length := ⟨_, rfl⟩
  rw [← hmb] at F1 F2 RB NB
  clear hmb
  obtain ⟨B, hB⟩ : ∃ B, B = p.rows.drop (if is then k + 1 else k) := ⟨_, rfl⟩
  rw [← hB] at RB PL
  clear hB
  obtain ⟨A, hA⟩ : ∃ A, A = p.rows.take k := ⟨_, rfl⟩
  rw [← hA] at R1 PL
  clear hA
  go_enter Tryd.func45, Tryd.ntmps45
  go_wp2_with fail
  refine (K1.out _ T0.out).mono ?_
  rintro e w1 ⟨rfl, b1⟩
  have T1 := Lib.hid (T0.out.later b1)
  clear b1 T0 a0 a1 a2 a3 a4 a5 K1
  obtain ⟨g, hg⟩ : ∃ g, g = w.heap.size := ⟨_, rfl⟩
  have G := Lib.hid hg
  rw [← hg] at T1 K2 K3 ⊢
  clear hg
  go_upto_region 4 with fail
  go_cut [33] (fun s wx => s = .bool false ∧ Pp w wx g (g + 1) p (.slice ad n c))
  case first =>
    obtain ⟨a0, a1, a2, a3, a4, a5⟩ := T1.out.pb.six
    clear F1 F2 K3
    go_wp2_with fail
    refine (K2.out _ T1.out).mono ?_
    rintro e w2 ⟨rfl, b2⟩
    have T2 := Lib.hid (T1.out.later b2)
    clear b2 T1 a0 a1 a2 a3 a4 a5 K2
    obtain ⟨a0, a1, a2, a3, a4, a5⟩ := T2.out.pb.six
    by_cases hkn : k < n
    · clear hi
      rw [decide_eq_true hkn]
      go_wp2_with fail
      go_meet
      exact ⟨rfl, T2.out⟩
    · cases is with
      | true => exact absurd (hi rfl) hkn
      | false =>
        clear hi
        rw [decide_eq_false hkn]
        have e3 : ((k : Int) != (n : Int)) = false := by simp; omega
        go_wp2_with fail
        go_meet
        exact ⟨rfl, T2.out⟩
  case rest =>
    obtain ⟨rfl, q2⟩ := hcut
    have T2 := Lib.hid q2
    clear q2 T1 K2
    obtain ⟨a0, a1, a2, a3, a4, a5⟩ := T2.out.pb.six
    have s2 := S2.out
    go_upto_if 39 with fail
    go_cut [12] (fun s wx => s = .slice adb mb ccb ∧ wx = wc)
    case first =>
      cases is with
      | false =>
        have e := F1.out rfl
        simp only [Value.slice.injEq] at e
        obtain ⟨rfl, rfl, rfl⟩ := e
        clear hi F1 F2
        go_wp2_with fail
        go_meet
        exact ⟨rfl, rfl⟩
      | true =>
        have f2 := F2.out rfl
        clear hi F1 F2
        go_wp2_with fail
        go_meet
        exact ⟨rfl, rfl⟩
    case rest =>
      obtain ⟨rfl, rfl⟩ := hcut
      have PT := Lib.hid (parts_three t (R1.out.later T2.out.pb.below) (RB.out.later T2.out.pb.below) N1.out NB.out)
      have JL := Lib.hid (show joinL [(.slice ad1 m1 cc1, A), (.slice (some ⟨wc.heap.size, 0, none⟩) 1 1, [t]), (.slice adb mb ccb, B)] 3 = putL p.rows k t is by rw [PL.out]; simp [joinL])
      have T3 := Lib.hid ((T2.out.later (below_new wc (.cells #[.string t] 9))).later (below_new _ (.cells #[.slice ad1 m1 cc1, .slice (some ⟨wc.heap.size, 0, none⟩) 1 1, .slice adb mb ccb] 24)))
      have CC := Lib.hid (Page.concat_any (n := 3) PT.out rfl (by omega) (by rw [JL.out]; exact LJ.out))
      rw [JL.out] at CC
      clear PT JL R1 RB N1 NB S2 F1 F2
      go_wp2_with fail
      refine CC.out.mono ?_
      rintro e w4 ⟨u, rfl, t4, b4⟩
      have T4 := Lib.hid (T3.out.later b4)
      have X4 := Lib.hid (tx_elder t4 T3.out.pb.below.size)
      clear T3 T2 t4 b4 CC a0 a1 a2 a3 a4 a5 s1 s2
      obtain ⟨adu, capu, rfl⟩ := X4.out.shape
      have GW := Lib.hid (show w.heap.size ≤ g from by have := G.out; omega)
      obtain ⟨q8, t8⟩ := T4.out.set GW.out (by omega) X4.out
      have q8 : Pp w _ g (g + 1) (putQ p k t is) _ := q8
      have t8 : Slot.Tx w _ _ (putQ p k t is).rows := t8
      have K4 := Lib.hid (K3.out _ _ q8)
      have CT := Lib.hid (Page.cap_tx t8)
      have Q8 := Lib.hid q8
      have TX8 := Lib.hid t8
      have a5 := T4.out.pb.six.2.2.2.2.2
      have fz := frozen_of_row _ _ 5 _ _ T4.out.pb.box
      clear T4 X4 q8 t8 K3 OLD
      obtain ⟨m, hm⟩ : ∃ m, m = (putL p.rows k t is).length := ⟨_, rfl⟩
      rw [← hm] at CT Q8 K4 TX8 ⊢
      clear hm PL LJ
      have EKB := Lib.hid (show KeysP (putQ p k t is) = fun w e w' => ∃ u, e = .returned (.tuple #[u, .bool (keysB (putQ p k t is))]) ∧ Slot.Tx w w' u (keysOf (putQ p k t is)) ∧ Below w.heap.size w w' from rfl)
      rw [EKB.out] at K4
      clear EKB
      rw [← QL.out] at K4
      generalize putQ p k t is = qx at *
      obtain ⟨b0, b1, b2, b3, b4, b5⟩ := Q8.out.pb.six
      go_wp2_with fail
      refine K4.out.mono ?_
      rintro e w9 ⟨uk, rfl, tk, b9⟩
      have Q9 := Lib.hid (Q8.out.later b9)
      have TX9 := Lib.hid (TX8.out.later b9)
      have TK := Lib.hid (tx_elder tk Q8.out.pb.below.size)
      clear b9 Q8 K4 a5 fz b0 b1 b2 b3 b4 b5 TX8 tk
      have HB := Lib.hid Q9.out.res
      have HL := Lib.hid Q9.out.pb.below
      have GR := Lib.hid (show w.heap.size ≤ g + 1 by have := GW.out; omega)
      obtain ⟨b0, b1, b2, b3, b4, b5⟩ := Q9.out.pb.six
      clear Q9
      cases hkq : keysB qx with
      | false =>
        rw [hkq] at QQ QE
        obtain rfl : qq = Pg.zero := QQ.out
        obtain rfl : qe = 7 := QE.out
        have eL : ql = [] := by rw [QL.out]; unfold keysOf; rw [hkq]; rfl
        subst eL
        clear hkq b0 b1 b2 b3 b4 b5 TX9 QL TK
        go_wp2_with (refine wpList_store_row rfl 26 _ _ rfl (g + 1) zeroP rfl rfl 26 zeroP HB.out info_page rfl zero_one ?_)
        exact bodyPost_ret (v := .tuple #[pgV Pg.zero (.slice none 0 0), .slice none 0 0, .int .i64 7]) (results_page3 Tryd.results45 _ _ (g + 1) zeroP _ 7 rfl rfl rfl (setRow_heap _ _ _ _ _ _ HB.out) info_page) rfl (PkPost.none 7 (below_setRow HL.out GR.out _))
      | true =>
        rw [hkq] at QQ QE
        obtain rfl : qq = qx := QQ.out
        obtain rfl : qe = 0 := QE.out
        clear hkq QL
        have TXR := Lib.hid (tx_setRow TX9.out HB.out (pgC qq (.slice adu m capu)))
        have TKR := Lib.hid (tx_setRow TK.out HB.out (pgC qq (.slice adu m capu)))
        go_wp2_with (refine wpList_store_row rfl 26 _ _ rfl (g + 1) (pgC qq (.slice adu m capu)) rfl rfl 26 zeroP HB.out info_page rfl (pg_one _ _ _ _) ?_)
        exact bodyPost_ret (v := .tuple #[pgV qq (.slice adu m capu), uk, .int .i64 0]) (results_page3 Tryd.results45 _ _ (g + 1) (pgC qq (.slice adu m capu)) _ 0 rfl rfl rfl (setRow_heap _ _ _ _ _ _ HB.out) info_page) rfl ⟨below_setRow HL.out GR.out _, _, _, rfl, Page.rows_tx TXR.out, CT.out, TKR.out⟩

def putK (p : Pg) (x : Int) (t : ByteArray) (is : Bool) : List ByteArray := if putE p x t is = 0 then keysL p.kind (putR p x t is).rows else []
theorem with_mid {w : World} {v : Value} (p : Pg) (x : Int) (t : ByteArray) (is : Bool) (h : Page.Rows w v p.rows) (hc : CapOk v) (hkd : p.kind < 256) (hu : used p.rows ≤ 900000) (ht : t.size ≤ 90000) :
    Calls Tryd.prog 45 #[pgV p v, .int .i64 x, .string t, .bool is] w (PkPost (putR p x t is) (putK p x t is) (putE p x t is) w) := by
  cases hk : nodeB p with
  | false =>
    have e : putE p x t is = 7 := by unfold putE; rw [hk]; rfl
    have e2 : putK p x t is = [] := by unfold putK; rw [e]; rfl
    rw [putR_bad (by omega), e2, e]
    exact with_node p x t is h hkd hu hk
  | true =>
    cases hx : atB p x is with
    | false =>
      have e : putE p x t is = 2 := by unfold putE; rw [hk, hx]; rfl
      have e2 : putK p x t is = [] := by unfold putK; rw [e]; rfl
      rw [putR_bad (by omega), e2, e]
      exact with_at p x t is h hkd hu hk hx
    | true =>
      obtain ⟨k, rfl, h1, h2⟩ := at_true hx
      have e : putE p k t is = if keysB (putQ p k t is) then 0 else 7 := by unfold putE; rw [hk, hx, Int.toNat_natCast]; rfl
      have e2 : putR p k t is = if keysB (putQ p k t is) then putQ p k t is else Pg.zero := by
        unfold putR
        rw [e, Int.toNat_natCast]
        cases keysB (putQ p k t is) <;> rfl
      have e3 : putK p k t is = if keysB (putQ p k t is) then keysL p.kind (putL p.rows k t is) else [] := by
        unfold putK
        rw [e, e2]
        cases keysB (putQ p k t is) <;> rfl
      rw [e2, e3, e]
      exact with_good p k t is h hc hkd hu ht hk h1 h2

end Go.Proofs.YtbdbnpcbbebelaaDoor.Node

namespace Go.Proofs.YtbdbnpcbbebelaaDoor.Node
open Go.RowKit
open Go.Proofs.YtbdbnpcbbebelaaDoor.Page (Pg nth used pgV pgC CapOk zeroP info_page results_page zero_one rows_head rows_tail Parts joinL NilOk)
attribute [local go_sem ↓] Go.wp_at_zero Go.wp_at_succ

set_option maxRecDepth 100000 in
set_option maxHeartbeats 4000000 in
theorem with_any {w : World} {v : Value} (p : Pg) (x : Int) (t : ByteArray) (is : Bool) (h : Page.Rows w v p.rows) (hc : CapOk v) (hkd : p.kind < 256) (hu : used p.rows ≤ 900000) (ht : t.size ≤ 90000) :
    Calls Tryd.prog 20 #[pgV p v, .int .i64 x, .string t, .bool is] w (PgPost (withR p x t is) (withE p x t is) w) := by
  have T0 := Lib.hid (Pp.start h)
  have K1 := Lib.hid (fun (W : World) (T : Pp w W w.heap.size (w.heap.size + 1) p v) => with_mid p x t is T.pb.rows hc hkd hu ht)
  have PU := Lib.hid (put_used2 p x t is hu ht)
  have eE : withE p x t is = if putE p x t is = 0 then (if Page.mayP (putR p x t is) then 0 else 4) else putE p x t is := rfl
  have eR : withR p x t is = if withE p x t is = 0 then putR p x t is else Pg.zero := rfl
  have eZ : ¬ putE p x t is = 0 → putR p x t is = Pg.zero := putR_bad
  generalize withE p x t is = we at *
  generalize withR p x t is = wr at *
  generalize putE p x t is = pe at *
  generalize putR p x t is = pr at *
  generalize putK p x t is = pk at *
  obtain ⟨ad, c, rfl, _⟩ := id h
  clear h hc hu ht hkd
  obtain ⟨n, hn⟩ : ∃ n, n = p.rows.length := ⟨_, rfl⟩
  rw [← hn] at T0 K1 ⊢
  clear hn
  have EE := Lib.hid eE
  have ER := Lib.hid eR
  have EZ := Lib.hid eZ
  clear eE eR eZ
  obtain ⟨a0, a1, a2, a3, a4, a5⟩ := T0.out.pb.six
  unfold pgV pgC at *
  go_enter Tryd.func20, Tryd.ntmps20
  go_wp2_with fail
  refine (K1.out _ T0.out).mono ?_
  rintro e w1 ⟨b1, v1, uk, rfl, r1, c1, _⟩
  obtain ⟨ad1, cap1, rfl, _⟩ := id r1
  have T1 := Lib.hid (T0.out.later b1)
  have R1 := Lib.hid r1
  have C1 := Lib.hid c1
  clear b1 T0 a0 a1 a2 a3 a4 a5 K1 r1 c1
  obtain ⟨m, hm⟩ : ∃ m, m = pr.rows.length := ⟨_, rfl⟩
  rw [← hm] at R1 C1 ⊢
  have MM := Lib.hid hm
  clear hm
  obtain ⟨r, hr⟩ : ∃ r, r = w.heap.size + 1 := ⟨_, rfl⟩
  rw [← hr] at T1
  have GR := Lib.hid (show w.heap.size ≤ r by omega)
  unfold pgV
  go_upto_if 22 with fail
  have T2 := Lib.hid (show Pp w (w1.alloc (.cells (pgC pr (.slice ad1 m cap1)) 26)) w1.heap.size r pr (.slice ad1 m cap1) from
    ⟨⟨heap_alloc_new w1 _, R1.out.alloc _, (T1.out.later (below_new w1 (.cells (pgC pr (.slice ad1 m cap1)) 26))).pb.below⟩, (T1.out.later (below_new w1 (.cells (pgC pr (.slice ad1 m cap1)) 26))).res⟩)
  have K2 := Lib.hid (fun (W : World) (T : Pp w W w1.heap.size r pr (.slice ad1 m cap1)) => roomy_any pr T.pb.rows T.pb.rows PU.out)
  have K3 := Lib.hid (fun (W : World) (T : Pp w W w1.heap.size r pr (.slice ad1 m cap1)) => own_any pr T.pb.rows PU.out)
  unfold pgV at K2 K3
  clear T1 R1
  by_cases he : pe = 0
  · obtain rfl := he
    rw [if_pos rfl] at EE
    obtain ⟨a0, a1, a2, a3, a4, a5⟩ := T2.out.pb.six
    unfold pgC at T2
    rw [← hr]
    clear hr
    go_wp2_with fail
    refine (K2.out _ T2.out).mono ?_
    rintro e w3 ⟨rfl, b3⟩
    have T3 := Lib.hid (T2.out.later b3)
    clear b3 T2 a0 a1 a2 a3 a4 a5 K2
    obtain ⟨a0, a1, a2, a3, a4, a5⟩ := T3.out.pb.six
    change Hid (we = if Page.mayP { pr with rows := pr.rows } = true then 0 else 4) at EE
    cases hm : Page.mayP { pr with rows := pr.rows } with
    | false =>
      have HB := Lib.hid T3.out.res
      have HL := Lib.hid T3.out.pb.below
      rw [hm] at EE
      obtain rfl : we = 4 := EE.out
      obtain rfl : wr = Pg.zero := ER.out
      clear hm T3 K3
      go_wp2_with (refine wpList_store_row rfl 26 _ _ rfl r zeroP rfl rfl 26 zeroP HB.out info_page rfl zero_one ?_)
      exact bodyPost_ret (v := .tuple #[pgV Pg.zero (.slice none 0 0), .int .i64 4]) (results_page Tryd.results20 _ _ r zeroP 4 rfl rfl (setRow_heap _ _ _ _ _ _ HB.out) info_page) rfl (PgPost.none 4 (below_setRow HL.out GR.out _))
    | true =>
      rw [hm] at EE
      obtain rfl : we = 0 := EE.out
      obtain rfl : wr = pr := ER.out
      clear hm
      go_wp2_with fail
      refine (K3.out _ T3.out).mono ?_
      rintro e w4 ⟨b4, u4, rfl, r4, c4⟩
      have T4 := Lib.hid (T3.out.later b4)
      obtain ⟨ad4, cap4, rfl, _⟩ := id r4
      have HB := Lib.hid T4.out.res
      have HL := Lib.hid T4.out.pb.below
      have RT := Lib.hid (rows_setRow r4 T4.out.res (pgC wr (.slice ad4 wr.rows.length cap4)))
      have C4 := Lib.hid c4
      clear b4 T3 T4 K3 a0 a1 a2 a3 a4 a5 r4 c4
      unfold pgV
      go_wp2_with (refine wpList_store_row rfl 26 _ _ rfl r (pgC wr (.slice ad4 wr.rows.length cap4)) rfl rfl 26 zeroP HB.out info_page rfl (pg_one _ _ _ _) ?_)
      exact bodyPost_ret (v := .tuple #[pgV wr (.slice ad4 wr.rows.length cap4), .int .i64 0]) (results_page Tryd.results20 _ _ r (pgC wr (.slice ad4 wr.rows.length cap4)) 0 rfl rfl (setRow_heap _ _ _ _ _ _ HB.out) info_page) rfl ⟨below_setRow HL.out GR.out _, _, rfl, RT.out, C4.out⟩
  · have he2 : (pe != 0) = true := by simp; exact he
    have EZ2 := EZ.out he
    have EE2 : we = pe := by rw [EE.out, if_neg he]
    have ER2 : wr = Pg.zero := by rw [ER.out, EE2, if_neg he]
    obtain rfl := EE2
    obtain rfl := ER2
    have HB := Lib.hid T2.out.res
    have HL := Lib.hid T2.out.pb.below
    clear EZ2 he T2 K2 K3
    rw [← hr]
    clear hr
    go_wp2_with (refine wpList_store_row rfl 26 _ _ rfl r zeroP rfl rfl 26 zeroP HB.out info_page rfl zero_one ?_)
    exact bodyPost_ret (v := .tuple #[pgV Pg.zero (.slice none 0 0), .int .i64 we]) (results_page Tryd.results20 _ _ r zeroP we rfl rfl (setRow_heap _ _ _ _ _ _ HB.out) info_page) rfl (PgPost.none we (below_setRow HL.out GR.out _))

set_option maxRecDepth 100000 in
set_option maxHeartbeats 2000000 in
theorem fits_any {w : World} {v : Value} (p : Pg) (x : Int) (t : ByteArray) (is : Bool) (h : Page.Rows w v p.rows) (hc : CapOk v) (hkd : p.kind < 256) (hu : used p.rows ≤ 900000) (ht : t.size ≤ 90000) :
    Calls Tryd.prog 25 #[pgV p v, .int .i64 x, .string t, .bool is] w fun e w' => e = .returned (.bool (withE p x t is == 0)) ∧ Below w.heap.size w w' := by
  have T0 := Lib.hid (Pb.start h)
  have K1 := Lib.hid (fun (W : World) (T : Pb w W w.heap.size p v) => with_any p x t is T.rows hc hkd hu ht)
  generalize withE p x t is = we at *
  generalize withR p x t is = wr at *
  obtain ⟨ad, c, rfl, _⟩ := id h
  clear h hc hu ht hkd
  obtain ⟨n, hn⟩ : ∃ n, n = p.rows.length := ⟨_, rfl⟩
  rw [← hn] at T0 K1 ⊢
  clear hn
  obtain ⟨a0, a1, a2, a3, a4, a5⟩ := T0.out.six
  unfold pgV pgC at *
  go_enter Tryd.func25, Tryd.ntmps25
  go_wp2_with fail
  refine (K1.out _ T0.out).mono ?_
  rintro e w1 ⟨b1, v1, rfl, r1, c1⟩
  obtain ⟨ad1, cap1, rfl, _⟩ := id r1
  have B1 := Lib.hid (T0.out.later b1).below
  have B2 := Lib.hid (B1.out.trans ((below_new w1 (.cells (pgC wr (.slice ad1 wr.rows.length cap1)) 26)).mono B1.out.size))
  clear b1 T0 a0 a1 a2 a3 a4 a5 K1 r1 c1
  generalize wr.rows.length = m at *
  unfold pgV
  unfold pgC at B2
  go_wp2_with fail
  go_ret
  exact ⟨rfl, B2.out⟩

end Go.Proofs.YtbdbnpcbbebelaaDoor.Node
