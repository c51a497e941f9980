/-
  Walks: an op, done to a page by the document.
-/
import Derived.Test.YticnbicnefnhbaaZ29
namespace Go.Proofs.Yticnbicnefnhbaa.Op
open Go.RowKit
open Go.Proofs.Yticnbicnefnhbaa.Page (Pg pgV pgC used nth mayP zeroP info_page results_page)
attribute [local go_sem ↓] Go.wp_at_zero Go.wp_at_succ

set_option maxRecDepth 100000 in
set_option maxHeartbeats 8000000 in
theorem rapply_any {w : World} {p : Pg} {v : Value} {o : O} {u : Value} {lsn : Nat} (hp : Page.Rows w v p.rows) (hc : Page.CapOk v) (hu : used p.rows ≤ 1000000) (ho : In w o u) (_hl : lsn < 18446744073709551616) :
    Calls Try.prog 22 #[pgV p v, oV o u, .int .u64 (lsn : Int)] w (PgOut w v (appP p o lsn) (appE p o lsn)) := by
  obtain ⟨ad, c, hv, _⟩ := id hp
  obtain ⟨n, hn⟩ : ∃ n, n = p.rows.length := ⟨_, rfl⟩
  have HN := Lib.hid hn
  rw [← hn] at hv
  subst hv
  obtain ⟨ua, uc, hu2⟩ := ho.rows.shape
  obtain ⟨un, hun⟩ : ∃ un, un = o.rows.length := ⟨_, rfl⟩
  rw [← hun] at hu2
  subst hu2
  clear hn hun
  have D0 := Lib.hid (Dn.start (o := o) (u := .slice ua un uc) hp hc)
  have HO := Lib.hid ho
  have HU := Lib.hid hu
  have HP := Lib.hid hp
  have HC := Lib.hid hc
  obtain ⟨PO, hPO⟩ : ∃ PO, PO = PgOut w (.slice ad n c) (appP p o lsn) (appE p o lsn) := ⟨_, rfl⟩
  have ER := Lib.hid (fun (e : Nat) (W : World) (he : appE p o lsn = e) (h0 : e ≠ 0) (b : Below w.heap.size w W) => (show PO (.returned (.tuple #[.agg zeroP, .int .i64 (e : Int)])) W by rw [hPO, show Value.agg zeroP = pgV Pg.zero (.slice none 0 0) from rfl]; exact PgOut.err he h0 b))
  have OK := Lib.hid (fun (v' : Value) (W : World) (he : appE p o lsn = 0) (hr : Page.Rows W v' (done p o lsn).rows) (hs : Str W v') (b : Below w.heap.size w W) => (show PO (.returned (.tuple #[pgV (done p o lsn) v', .int .i64 0])) W by
    rw [hPO]
    have : appP p o lsn = done p o lsn := by unfold appP; rw [if_pos he]
    rw [this, he]
    exact ⟨v', rfl, hr, .inl hs, b⟩))
  rw [← hPO]
  have W2 := Lib.hid (show (¬ May o ∨ (o.kind ≠ 1 ∧ (mayP p = false ∨ p.id ≠ o.page))) → appE p o lsn = 2 from fun h => by
    have : wrong p o = 2 := by unfold wrong; rw [if_pos h]
    unfold appE
    rw [this, if_pos (by decide)])
  have KM := Lib.hid (fun (W : World) (t : Below w.heap.size w W) => rmay_any (ho.later t))
  have KP := Lib.hid (fun (W : World) (q : Pg) (vq : Value) (hr : Page.Rows W vq q.rows) (hq : used q.rows ≤ 1000000) => Page.rmay_any q hr hq)
  clear hp hc hu ho hPO
  unfold pgV pgC at *
  unfold oV oC at *
  go_enter Try.func22, Try.ntmps22
  go_upto_region 1 with fail
  unfold zeroP at D0
  generalize ((w.alloc _).alloc _).alloc _ = W0 at *
  generalize w.heap.size + 1 + 1 = r at *
  generalize w.heap.size + 1 = h at *
  obtain ⟨g, hg⟩ : ∃ g, g = w.heap.size := ⟨_, rfl⟩
  rw [← hg] at D0 ⊢
  clear hg
  obtain ⟨x0, x1, x2, x3, x4, x5⟩ := D0.out.gx.six
  obtain ⟨y0, y1, y2, y3, y4, y5, y6, y7, y8⟩ := D0.out.onine
  have K1 := Lib.hid (KM.out W0 D0.out.below)
  clear KM
  by_cases hm : May o
  rotate_left
  · have EW := Lib.hid (W2.out (.inl hm))
    rw [decide_eq_false hm] at K1
    clear hm W2 KP OK
    go_wp2_with fail
    refine K1.out.mono ?_
    rintro e W1 ⟨rfl, b1⟩
    have D1 := Lib.hid (D0.out.later b1)
    clear b1 x0 x1 x2 x3 x4 x5 y0 y1 y2 y3 y4 y5 y6 y7 y8 K1 D0
    obtain ⟨x0, x1, x2, x3, x4, x5⟩ := D1.out.gx.six
    obtain ⟨y0, y1, y2, y3, y4, y5, y6, y7, y8⟩ := D1.out.onine
    go_upto_region 2 with fail
    go_wp2_with (refine wpList_store_row rfl 45 (.tmp 6) (.tmp 32) rfl r zeroP rfl rfl 45 zeroP D1.out.rb info_page rfl Page.zero_one ?_)
    exact bodyPost_ret (v := .tuple #[.agg zeroP, .int .i64 2]) (results_page Try.results22 _ _ r zeroP 2 rfl rfl (setRow_heap _ _ _ _ _ _ D1.out.rb) info_page) rfl (ER.out 2 _ EW.out (by decide) (D1.out.fin _))
  have HM := Lib.hid hm
  rw [decide_eq_true hm] at K1
  by_cases hg : o.kind = 1 ∨ (mayP p = true ∧ p.id = o.page)
  rotate_left
  · have hk1 : o.kind ≠ 1 := fun e => hg (.inl e)
    have hg2 : mayP p = false ∨ p.id ≠ o.page := by
      by_cases a : mayP p = true
      · exact .inr fun b => hg (.inr ⟨a, b⟩)
      · exact .inl (by simpa using a)
    have EW := Lib.hid (W2.out (.inr ⟨hk1, hg2⟩))
    have kne : ((o.kind : Int) != 1) = true := by rw [bne_iff_ne]; omega
    clear hm W2 OK hg HM
    go_wp2_with fail
    refine K1.out.mono ?_
    rintro e W1 ⟨rfl, b1⟩
    have D1 := Lib.hid (D0.out.later b1)
    clear b1 x0 x1 x2 x3 x4 x5 y0 y1 y2 y3 y4 y5 y6 y7 y8 K1 D0
    obtain ⟨x0, x1, x2, x3, x4, x5⟩ := D1.out.gx.six
    obtain ⟨y0, y1, y2, y3, y4, y5, y6, y7, y8⟩ := D1.out.onine
    have K2 := Lib.hid (KP.out W1 p _ D1.out.gx.rows HU.out)
    go_wp2_with fail
    refine K2.out.mono ?_
    rintro e W2 ⟨rfl, b2⟩
    have D2 := Lib.hid (D1.out.later b2)
    clear b2 x0 x1 x2 x3 x4 x5 y0 y1 y2 y3 y4 y5 y6 y7 y8 K2 D1
    obtain ⟨x0, x1, x2, x3, x4, x5⟩ := D2.out.gx.six
    obtain ⟨y0, y1, y2, y3, y4, y5, y6, y7, y8⟩ := D2.out.onine
    have fin : (!(mayP p)) = true ∨ ((mayP p) = true ∧ ((p.id : Int) != (o.page : Int)) = true) := by
      cases e : mayP p
      · exact .inl rfl
      · exact .inr ⟨rfl, by rw [bne_iff_ne]; have := hg2.resolve_left (by rw [e]; decide); omega⟩
    clear hk1 hg2 kne KP
    rcases fin with a | ⟨a, b⟩
    · have a2 : mayP p = false := by simpa using a
      rw [a2]
      clear a a2
      go_upto_region 2 with fail
      go_wp2_with (refine wpList_store_row rfl 45 (.tmp 6) (.tmp 32) rfl r zeroP rfl rfl 45 zeroP D2.out.rb info_page rfl Page.zero_one ?_)
      exact bodyPost_ret (v := .tuple #[.agg zeroP, .int .i64 2]) (results_page Try.results22 _ _ r zeroP 2 rfl rfl (setRow_heap _ _ _ _ _ _ D2.out.rb) info_page) rfl (ER.out 2 _ EW.out (by decide) (D2.out.fin _))
    · rw [a]
      clear a
      go_upto_region 2 with fail
      go_wp2_with (refine wpList_store_row rfl 45 (.tmp 6) (.tmp 32) rfl r zeroP rfl rfl 45 zeroP D2.out.rb info_page rfl Page.zero_one ?_)
      exact bodyPost_ret (v := .tuple #[.agg zeroP, .int .i64 2]) (results_page Try.results22 _ _ r zeroP 2 rfl rfl (setRow_heap _ _ _ _ _ _ D2.out.rb) info_page) rfl (ER.out 2 _ EW.out (by decide) (D2.out.fin _))
  -- it is done
  have HG := Lib.hid hg
  clear W2 hm
  go_cut [31] (fun s wx => s = .bool false ∧ Dn w wx g h r p (.slice ad n c) o (.slice ua un uc))
  case first =>
    rcases (show o.kind = 1 ∨ (o.kind ≠ 1 ∧ mayP p = true ∧ p.id = o.page) by
      by_cases hk : o.kind = 1
      · exact .inl hk
      · exact .inr ⟨hk, hg.resolve_left hk⟩) with hk | ⟨hk, hmp, hid⟩
    · have kne : ((o.kind : Int) != 1) = false := by rw [hk]; rfl
      clear hk hg
      go_wp2_with fail
      refine K1.out.mono ?_
      rintro e W3 ⟨rfl, b3⟩
      have D3 := Lib.hid (D0.out.later b3)
      clear b3 x0 x1 x2 x3 x4 x5 y0 y1 y2 y3 y4 y5 y6 y7 y8 K1 D0
      obtain ⟨x0, x1, x2, x3, x4, x5⟩ := D3.out.gx.six
      obtain ⟨y0, y1, y2, y3, y4, y5, y6, y7, y8⟩ := D3.out.onine
      go_wp2_with fail
      go_meet
      exact ⟨rfl, D3.out⟩
    · have kne : ((o.kind : Int) != 1) = true := by rw [bne_iff_ne]; omega
      have ine : ((p.id : Int) != (o.page : Int)) = false := by rw [hid]; simp
      clear hk hg hid
      go_wp2_with fail
      refine K1.out.mono ?_
      rintro e W1 ⟨rfl, b1⟩
      have D1 := Lib.hid (D0.out.later b1)
      clear b1 x0 x1 x2 x3 x4 x5 y0 y1 y2 y3 y4 y5 y6 y7 y8 K1 D0
      obtain ⟨x0, x1, x2, x3, x4, x5⟩ := D1.out.gx.six
      obtain ⟨y0, y1, y2, y3, y4, y5, y6, y7, y8⟩ := D1.out.onine
      have K2 := Lib.hid (KP.out W1 p _ D1.out.gx.rows HU.out)
      rw [hmp] at K2
      clear hmp
      go_wp2_with fail
      refine K2.out.mono ?_
      rintro e W3 ⟨rfl, b3⟩
      have D3 := Lib.hid (D1.out.later b3)
      clear b3 x0 x1 x2 x3 x4 x5 y0 y1 y2 y3 y4 y5 y6 y7 y8 K2 D1
      obtain ⟨x0, x1, x2, x3, x4, x5⟩ := D3.out.gx.six
      obtain ⟨y0, y1, y2, y3, y4, y5, y6, y7, y8⟩ := D3.out.onine
      go_wp2_with fail
      go_meet
      exact ⟨rfl, D3.out⟩
  case rest =>
    obtain ⟨rfl, d3⟩ := hcut
    have D3 := Lib.hid d3
    clear d3 x0 x1 x2 x3 x4 x5 y0 y1 y2 y3 y4 y5 y6 y7 y8 K1 D0 hg
    obtain ⟨k, hk⟩ : ∃ k : Nat, o.at' = (k : Int) := ⟨o.at'.toNat, (Int.toNat_of_nonneg HM.out.a0).symm⟩
    have hk2 : k ≤ 488 := by have := HM.out.a1; omega
    have hn2 : n ≤ 250000 := by rw [HN.out]; have := Page.used_len p.rows; have := HU.out; omega
    have HK := Lib.hid hk
    obtain ⟨x0, x1, x2, x3, x4, x5⟩ := D3.out.gx.six
    obtain ⟨y0, y1, y2, y3, y4, y5, y6, y7, y8⟩ := D3.out.onine
    rw [hk] at y2
    clear hk
    go_upto_region 4 with fail
    go_cut [65] (fun s wx => s = .bool (decide (o.kind ≠ 1 ∧ (n < k ∨ (k = n ∧ (o.kind = 3 ∨ o.kind = 4 ∨ o.kind = 8))))) ∧ wx = wc)
    case first =>
      clear HM HG KP OK ER HO HU HP HC HN HK D3
      by_cases k1 : o.kind = 1
      · have kne : ((o.kind : Int) != 1) = false := by rw [k1]; rfl
        have E : decide (o.kind ≠ 1 ∧ (n < k ∨ (k = n ∧ (o.kind = 3 ∨ o.kind = 4 ∨ o.kind = 8)))) = false := decide_eq_false (by omega)
        have HE := Lib.hid E
        clear E hk2 hn2 k1
        go_wp2_with fail
        go_meet
        exact ⟨by rw [HE.out], rfl⟩
      have kne : ((o.kind : Int) != 1) = true := by rw [bne_iff_ne]; omega
      by_cases h1 : n < k
      · have E : decide (o.kind ≠ 1 ∧ (n < k ∨ (k = n ∧ (o.kind = 3 ∨ o.kind = 4 ∨ o.kind = 8)))) = true := decide_eq_true (by omega)
        have e2 : decide (n < k) = true := decide_eq_true h1
        have HE := Lib.hid E
        clear E hk2 hn2 k1
        go_wp2_with fail
        go_meet
        exact ⟨by rw [HE.out], rfl⟩
      have e2 : decide (n < k) = false := decide_eq_false h1
      by_cases h2 : k = n
      rotate_left
      · have E : decide (o.kind ≠ 1 ∧ (n < k ∨ (k = n ∧ (o.kind = 3 ∨ o.kind = 4 ∨ o.kind = 8)))) = false := decide_eq_false (by omega)
        have e3 : ((k : Int) == (n : Int)) = false := by rw [beq_eq_false_iff_ne]; omega
        have HE := Lib.hid E
        clear E hk2 hn2 k1 h1 h2
        go_wp2_with fail
        go_meet
        exact ⟨by rw [HE.out], rfl⟩
      have e3 : ((k : Int) == (n : Int)) = true := by rw [beq_iff_eq]; omega
      have E : ∀ b, (o.kind = 3 ∨ o.kind = 4 ∨ o.kind = 8 ↔ b = true) → decide (o.kind ≠ 1 ∧ (n < k ∨ (k = n ∧ (o.kind = 3 ∨ o.kind = 4 ∨ o.kind = 8)))) = b := by
        intro b hb
        cases b
        · exact decide_eq_false (by rintro ⟨_, a | ⟨_, a⟩⟩; exact h1 a; cases hb.1 a)
        · exact decide_eq_true ⟨k1, .inr ⟨h2, hb.2 rfl⟩⟩
      rcases (show o.kind = 3 ∨ o.kind = 4 ∨ o.kind = 8 ∨ (o.kind ≠ 3 ∧ o.kind ≠ 4 ∧ o.kind ≠ 8) by omega) with a | a | a | ⟨a, a4, a8⟩
      · have HE := Lib.hid (E true (by simp [a]))
        have e3 : ((o.kind : Int) == 3) = true := by rw [beq_iff_eq]; omega
        clear E hk2 hn2 k1 h1 h2 a
        go_wp2_with fail
        go_meet
        exact ⟨by rw [HE.out], rfl⟩
      · have HE := Lib.hid (E true (by simp [a]))
        have e3 : ((o.kind : Int) == 3) = false := by rw [beq_eq_false_iff_ne]; omega
        have e4 : ((o.kind : Int) == 4) = true := by rw [beq_iff_eq]; omega
        clear E hk2 hn2 k1 h1 h2 a
        go_wp2_with fail
        go_meet
        exact ⟨by rw [HE.out], rfl⟩
      · have HE := Lib.hid (E true (by simp [a]))
        have e3 : ((o.kind : Int) == 3) = false := by rw [beq_eq_false_iff_ne]; omega
        have e4 : ((o.kind : Int) == 4) = false := by rw [beq_eq_false_iff_ne]; omega
        have e8 : ((o.kind : Int) == 8) = true := by rw [beq_iff_eq]; omega
        clear E hk2 hn2 k1 h1 h2 a
        go_wp2_with fail
        go_meet
        exact ⟨by rw [HE.out], rfl⟩
      · have HE := Lib.hid (E false (by simp [a, a4, a8]))
        have e3 : ((o.kind : Int) == 3) = false := by rw [beq_eq_false_iff_ne]; omega
        have e4 : ((o.kind : Int) == 4) = false := by rw [beq_eq_false_iff_ne]; omega
        have e8 : ((o.kind : Int) == 8) = false := by rw [beq_eq_false_iff_ne]; omega
        clear E hk2 hn2 k1 h1 h2 a a4 a8
        go_wp2_with fail
        go_meet
        exact ⟨by rw [HE.out], rfl⟩
    case rest =>
      obtain ⟨rfl, rfl⟩ := hcut
      have WP := Lib.hid (wrong_place (k := k) HM.out HG.out HK.out HN.out)
      by_cases hn3 : o.kind ≠ 1 ∧ (n < k ∨ (k = n ∧ (o.kind = 3 ∨ o.kind = 4 ∨ o.kind = 8)))
      · have EW := Lib.hid (show appE p o lsn = 3 from by
          have : wrong p o = 3 := by rw [WP.out, if_pos hn3]
          unfold appE
          rw [this, if_pos (by decide)])
        rw [decide_eq_true hn3]
        clear hn3 x0 x1 x2 x3 x4 x5 y0 y1 y2 y3 y4 y5 y6 y7 y8 hk2 hn2 WP KP OK
        go_upto_region 5 with fail
        go_wp2_with (refine wpList_store_row rfl 45 (.tmp 6) (.tmp 66) rfl r zeroP rfl rfl 45 zeroP D3.out.rb info_page rfl Page.zero_one ?_)
        exact bodyPost_ret (v := .tuple #[.agg zeroP, .int .i64 3]) (results_page Try.results22 _ _ r zeroP 3 rfl rfl (setRow_heap _ _ _ _ _ _ D3.out.rb) info_page) rfl (ER.out 3 _ EW.out (by decide) (D3.out.fin _))
      rw [decide_eq_false hn3]
      have W0 := Lib.hid (show wrong p o = if o.kind = 8 ∧ (nth p.rows k).size < o.off.toNat + o.text.size then 2 else 0 by rw [WP.out, if_neg hn3])
      have HN3 := Lib.hid hn3
      have US := Lib.hid (done_used (lsn := lsn) HM.out HG.out)
      -- the rows, copied
      have E0 := Lib.hid (Slot.Tx.made w (w := wc) [] D3.out.below.size (by simp))
      have D4 := Lib.hid (D3.out.later (below_new wc (.cells #[] 9)))
      have R4 := Lib.hid (HP.out.later D4.out.below)
      have N4 := Lib.hid HC.out.nilOk
      have L4 := Lib.hid (show ([] : List ByteArray).length + p.rows.length ≤ 1000000 by rw [← HN.out, List.length_nil]; omega)
      clear hn3 WP x0 x1 x2 x3 x4 x5 y0 y1 y2 y3 y4 y5 y6 y7 y8 D3
      go_upto_region 6 with fail
      obtain ⟨x0, x1, x2, x3, x4, x5⟩ := D4.out.gx.six
      go_upto_region 7 with (refine Page.wpList_app_in (W0 := w) (l := []) (news := p.rows) rfl _ _ rfl E0.out R4.out N4.out L4.out rfl rfl ?_; intro v7 w7 t7 g7)
      replace t7 : Slot.Tx w w7 v7 p.rows := t7
      obtain ⟨a7, c7, rfl⟩ := t7.shape
      have D7 := Lib.hid (D4.out.grown HP.out E0.out g7)
      rw [← HN.out] at t7 ⊢
      have T7 := Lib.hid t7
      clear t7 g7 E0 D4 R4 L4 x0 x1 x2 x3 x4 x5
      obtain ⟨x0, x1, x2, x3, x4, x5⟩ := D7.out.gx.six
      obtain ⟨y0, y1, y2, y3, y4, y5, y6, y7, y8⟩ := D7.out.onine
      rw [HK.out] at y2
      have k1 := HM.out.k1
      have k8 := HM.out.k8
      rcases (show o.kind = 1 ∨ o.kind = 2 ∨ o.kind = 3 ∨ o.kind = 4 ∨ o.kind = 5 ∨ o.kind = 6 ∨ o.kind = 7 ∨ o.kind = 8 by omega) with kd | kd | kd | kd | kd | kd | kd | kd
      all_goals rw [kd] at y0
      all_goals clear k1 k8
      · skip
        have EQ := Lib.hid (show ∀ q10 : Pg, q10 = { (⟨o.pkind, o.level, o.page, 0, o.next, []⟩ : Pg) with rows := [] } → ({ q10 with lsn := lsn } : Pg) = done p o lsn by rintro _ rfl; rw [done_is HK.out, kd]; all_goals rfl)
        have WR := Lib.hid (show wrong p o = 0 by rw [W0.out, if_neg (fun hx => by have := hx.1; omega)])
        go_upto_region 10 with (refine wpList_store_row rfl 45 (.tmp 3) (.tmp 83) rfl g (pgC ⟨o.pkind, o.level, o.page, 0, o.next, []⟩ (.slice none 0 0)) rfl rfl 45 _ D7.out.gx.box info_page rfl (pgC_one' _ _ _ _) ?_)
        have D9 := Lib.hid (D7.out.turn (touch_row (Below.refl _ _) _) (format_gx D7.out.gx ⟨o.pkind, o.level, o.page, 0, o.next, []⟩ rfl))
        have R9 := Lib.hid (Page.Rows.nil (w7.setRow g (pgC ⟨o.pkind, o.level, o.page, 0, o.next, []⟩ (.slice none 0 0))) none 0)
        have S9 := Lib.hid (str_none (w7.setRow g (pgC ⟨o.pkind, o.level, o.page, 0, o.next, []⟩ (.slice none 0 0))))
        go_upto_region 28 with fail
        clear x0 x1 x2 x3 x4 x5 y0 y1 y2 y3 y4 y5 y6 y7 y8 kd
        clear D7 T7
        generalize World.setRow _ _ _ = w9 at *
        clear W0 HN3 HO HM HG HK hk2 hn2
        have z5 := D9.out.gx.free 5
        have X5 := D9.out.put R9.out S9.out
        have D10 := Lib.hid X5.1
        have S10 := Lib.hid X5.2
        obtain ⟨b0, b1, b2, b3, b4, b5⟩ := D9.out.gx.six
        obtain ⟨q10, hq⟩ : ∃ q10 : Pg, q10 = { (⟨o.pkind, o.level, o.page, 0, o.next, []⟩ : Pg) with rows := [] } := ⟨_, rfl⟩
        rw [← hq] at D10
        have EQ := Lib.hid (EQ.out q10 hq)
        clear X5 b0 b1 b2 b3 b4 R9 S9 hq
        go_upto_region 29 with fail
        generalize World.setCell _ _ _ = w10 at *
        clear z5 b5 D9
        have z3 := D10.out.gx.free 3
        obtain ⟨b0, b1, b2, b3, b4, b5⟩ := D10.out.gx.six
        have D11 := Lib.hid (D10.out.lsn (pg_slice D10.out.gx.rows) lsn)
        have S11 := Lib.hid (str_set S10.out D10.out.gx.box 3 (.int .u64 (lsn : Int)))
        rw [EQ.out] at D11
        have KQ := Lib.hid (KP.out _ (done p o lsn) _ D11.out.gx.rows (by have := US.out; omega))
        unfold pgV at KQ
        clear b0 b1 b2 b4 b5 EQ S10
        go_upto_region 30 with fail
        generalize World.setCell w10 _ _ = w11 at *
        clear b3 z3 D10
        have EW := Lib.hid (show appE p o lsn = if mayP (done p o lsn) then 0 else 4 by unfold appE; rw [if_neg (by have := WR.out; omega)])
        obtain ⟨b0, b1, b2, b3, b4, b5⟩ := D11.out.gx.six
        cases hmq : mayP (done p o lsn)
        · rw [hmq] at KQ EW
          clear hmq
          go_wp2_with fail
          refine KQ.out.mono ?_
          rintro e w12 ⟨rfl, b12⟩
          have D12 := Lib.hid (D11.out.later b12)
          clear b12 b0 b1 b2 b3 b4 b5 KQ D11
          go_upto_region 31 with fail
          go_wp2_with (refine wpList_store_row rfl 45 (.tmp 6) (.tmp 174) rfl r zeroP rfl rfl 45 zeroP D12.out.rb info_page rfl Page.zero_one ?_)
          exact bodyPost_ret (v := .tuple #[.agg zeroP, .int .i64 4]) (results_page Try.results22 _ _ r zeroP 4 rfl rfl (setRow_heap _ _ _ _ _ _ D12.out.rb) info_page) rfl (ER.out 4 _ EW.out (by decide) (D12.out.fin _))
        · rw [hmq] at KQ EW
          clear hmq
          go_wp2_with fail
          refine KQ.out.mono ?_
          rintro e w12 ⟨rfl, b12⟩
          have D12 := Lib.hid (D11.out.later b12)
          have S12 := Lib.hid (S11.out.later b12)
          clear b12 b0 b1 b2 b3 b4 b5 KQ D11
          obtain ⟨b0, b1, b2, b3, b4, b5⟩ := D12.out.gx.six
          go_upto_region 32 with fail
          go_wp2_with (refine wpList_store_row rfl 45 (.tmp 6) (.tmp 175) rfl r (pgC (done p o lsn) (.slice none 0 0)) rfl rfl 45 zeroP D12.out.rb info_page rfl (pgC_one' _ _ _ _) ?_)
          exact bodyPost_ret (v := .tuple #[.agg (pgC (done p o lsn) (.slice none 0 0)), .int .i64 0]) (results_page Try.results22 _ _ r (pgC (done p o lsn) (.slice none 0 0)) 0 rfl rfl (setRow_heap _ _ _ _ _ _ D12.out.rb) info_page) rfl (OK.out _ _ EW.out (rows_setRow D12.out.gx.rows D12.out.rb _) (str_setRow S12.out D12.out.rb _) (D12.out.fin _))
      · skip
        have WR := Lib.hid (show wrong p o = 0 by rw [W0.out, if_neg (fun hx => by have := hx.1; omega)])
        have hkn : k ≤ n := by have := HN3.out; omega
        obtain ⟨sx1, s1, r1, c1⟩ := Page.rows_head HP.out HC.out (show k ≤ p.rows.length by rw [← HN.out]; omega)
        obtain ⟨sx2, s2, r2, c2⟩ := Page.rows_tail HP.out HC.out (show k ≤ p.rows.length by rw [← HN.out]; omega)
        have hlen : p.rows.length = n := HN.out.symm
        obtain ⟨A, hA⟩ : ∃ A, A = p.rows.take k := ⟨_, rfl⟩
        obtain ⟨B, hB⟩ : ∃ B, B = p.rows.drop (k) := ⟨_, rfl⟩
        have hlA : A.length ≤ 250000 := by rw [hA, List.length_take]; omega
        have hlB : B.length ≤ 250000 := by rw [hB, List.length_drop]; omega
        have HA := Lib.hid hA
        have HB := Lib.hid hB
        rw [← hA] at r1
        rw [← hB] at r2
        have R1 := Lib.hid r1
        have R2 := Lib.hid r2
        have N1 := Lib.hid c1.nilOk
        have N2 := Lib.hid c2.nilOk
        have L1 := Lib.hid (show ([] : List ByteArray).length + A.length ≤ 1000000 by rw [List.length_nil]; omega)
        have L2 := Lib.hid (show A.length + [o.text].length ≤ 1000000 by simp; omega)
        have L3 := Lib.hid (show (A ++ [o.text]).length + B.length ≤ 1000000 by simp; omega)
        have EQ := Lib.hid (show ∀ q10 : Pg, q10 = { (p : Pg) with rows := A ++ [o.text] ++ B } → ({ q10 with lsn := lsn } : Pg) = done p o lsn by rintro _ rfl; rw [done_is HK.out, kd, HA.out, HB.out, List.append_assoc]; all_goals rfl)
        clear r1 r2 c1 c2 hA hB hlA hlB hlen
        go_upto_region 12 with fail
        clear x0 x1 x2 x3 x4 x5 y0 y1 y2 y3 y4 y5 y6 y7 y8 kd T7
        have D8 := Lib.hid (D7.out.later (Below.refl _ _).drew)
        have SC := Lib.hid (fun W (D : Dn w W g h r p (.slice ad n c) o (.slice ua un uc)) => (show (fun W => W.cell? ⟨g, 5, none⟩ = some (.slice ad n c) ∧ W.cell? ⟨h, 2, none⟩ = some (.int .i64 (k : Int)) ∧ W.cell? ⟨h, 4, none⟩ = some (.string o.text)) W from ⟨D.gx.six.2.2.2.2.2, by rw [D.onine.2.2.1, HK.out], D.onine.2.2.2.2.1⟩))
        generalize hw8 : w7.drew = w8 at *
        refine wp_region_noPanic ?_
        refine wp_region_held_drew (S := (fun W => W.cell? ⟨g, 5, none⟩ = some (.slice ad n c) ∧ W.cell? ⟨h, 2, none⟩ = some (.int .i64 (k : Int)) ∧ W.cell? ⟨h, 4, none⟩ = some (.string o.text))) (by kernel_rfl) (by rw [hw8]; exact SC.out _ D8.out) (fun hHeld => ?_)
        rw [hw8] at hHeld ⊢
        clear hw8 D7
        refine wpAnyH_take (i := 1) (v := ?_) rfl (by kernel_rfl) (by kernel_rfl) (by kernel_rfl) (fun _ _ _ h => h) (Or.inl ⟨by rfl, ?_⟩) hHeld ?_
        rotate_left
        · (intro W hSw; (try dsimp only at hSw); go_simp; (try with_reducible rfl))
        simp only [List.getElem_toArray, List.getElem_cons_succ, List.getElem_cons_zero, Act.put, List.setIfInBounds_toArray, List.set_cons_zero, List.set_cons_succ]
        refine wpAnyH_take (i := 2) (v := ?_) rfl (by kernel_rfl) (by kernel_rfl) (by kernel_rfl) (fun _ _ _ h => h) (Or.inl ⟨by rfl, ?_⟩) hHeld ?_
        rotate_left
        · (intro W hSw; (try dsimp only at hSw); go_simp; (try with_reducible rfl))
        simp only [List.getElem_toArray, List.getElem_cons_succ, List.getElem_cons_zero, Act.put, List.setIfInBounds_toArray, List.set_cons_zero, List.set_cons_succ]
        refine wpAnyH_take (i := 3) (v := ?_) rfl (by kernel_rfl) (by kernel_rfl) (by kernel_rfl) (fun _ _ _ h => h) (Or.inl ⟨by rfl, ?_⟩) hHeld ?_
        rotate_left
        · (intro W hSw; (try dsimp only at hSw); go_simp; (try with_reducible rfl))
        simp only [List.getElem_toArray, List.getElem_cons_succ, List.getElem_cons_zero, Act.put, List.setIfInBounds_toArray, List.set_cons_zero, List.set_cons_succ]
        refine wpAnyH_take (i := 4) (v := ?_) rfl (by kernel_rfl) (by kernel_rfl) (by kernel_rfl) (fun _ _ _ h => h) (Or.inl ⟨by rfl, ?_⟩) hHeld ?_
        rotate_left
        · (intro W hSw; (try dsimp only at hSw); go_simp; (try with_reducible rfl))
        simp only [List.getElem_toArray, List.getElem_cons_succ, List.getElem_cons_zero, Act.put, List.setIfInBounds_toArray, List.set_cons_zero, List.set_cons_succ]
        refine wpAnyH_take (i := 5) (v := ?_) rfl (by kernel_rfl) (by kernel_rfl) (by kernel_rfl) (fun _ _ _ h => h) (Or.inl ⟨by rfl, ?_⟩) hHeld ?_
        rotate_left
        · (intro W hSw; (try dsimp only at hSw); go_simp; (try with_reducible rfl))
        simp only [List.getElem_toArray, List.getElem_cons_succ, List.getElem_cons_zero, Act.put, List.setIfInBounds_toArray, List.set_cons_zero, List.set_cons_succ]
        refine wpAnyH_take (i := 7) (v := ?_) rfl (by kernel_rfl) (by kernel_rfl) (by kernel_rfl) (fun _ _ _ h => h) (Or.inl ⟨by rfl, ?_⟩) hHeld ?_
        rotate_left
        · (intro W hSw; (try dsimp only at hSw); go_simp; (try with_reducible rfl))
        simp only [List.getElem_toArray, List.getElem_cons_succ, List.getElem_cons_zero, Act.put, List.setIfInBounds_toArray, List.set_cons_zero, List.set_cons_succ]
        refine wpAnyH_take (i := 8) (v := ?_) rfl (by kernel_rfl) (by kernel_rfl) (by kernel_rfl) (fun _ _ _ h => h) (Or.inl ⟨by rfl, ?_⟩) hHeld ?_
        rotate_left
        · (intro W hSw; (try dsimp only at hSw); go_simp; (try with_reducible rfl))
        simp only [List.getElem_toArray, List.getElem_cons_succ, List.getElem_cons_zero, Act.put, List.setIfInBounds_toArray, List.set_cons_zero, List.set_cons_succ]
        refine wpAnyH_take (i := 11) (v := ?_) rfl (by kernel_rfl) (by kernel_rfl) (by kernel_rfl) (fun _ _ _ h => h) (Or.inl ⟨by rfl, ?_⟩) hHeld ?_
        rotate_left
        · (intro W hSw; (try dsimp only at hSw); go_simp; (try with_reducible rfl))
        simp only [List.getElem_toArray, List.getElem_cons_succ, List.getElem_cons_zero, Act.put, List.setIfInBounds_toArray, List.set_cons_zero, List.set_cons_succ]
        refine wpAnyH_take (i := 12) (v := ?_) rfl (by kernel_rfl) (by kernel_rfl) (by kernel_rfl) (fun _ _ _ h => h) (Or.inl ⟨by rfl, ?_⟩) hHeld ?_
        rotate_left
        · (intro W hSw; (try dsimp only at hSw); go_simp; (try with_reducible rfl))
        simp only [List.getElem_toArray, List.getElem_cons_succ, List.getElem_cons_zero, Act.put, List.setIfInBounds_toArray, List.set_cons_zero, List.set_cons_succ]
        refine wpAnyH_take (i := 13) (v := ?_) rfl (by kernel_rfl) (by kernel_rfl) (by kernel_rfl) (fun _ _ _ h => h) (Or.inl ⟨by rfl, ?_⟩) hHeld ?_
        rotate_left
        · (intro W hSw; (try dsimp only at hSw); go_simp; (try with_reducible rfl))
        simp only [List.getElem_toArray, List.getElem_cons_succ, List.getElem_cons_zero, Act.put, List.setIfInBounds_toArray, List.set_cons_zero, List.set_cons_succ]
        refine wpAnyH_take (i := 14) (v := ?_) rfl (by kernel_rfl) (by kernel_rfl) (by kernel_rfl) (fun _ _ _ h => h) (Or.inl ⟨by rfl, ?_⟩) hHeld ?_
        rotate_left
        · (intro W hSw; (try dsimp only at hSw); go_simp; (try with_reducible rfl))
        simp only [List.getElem_toArray, List.getElem_cons_succ, List.getElem_cons_zero, Act.put, List.setIfInBounds_toArray, List.set_cons_zero, List.set_cons_succ]
        refine wpAnyH_take (i := 15) (v := ?_) rfl (by kernel_rfl) (by kernel_rfl) (by kernel_rfl) (fun _ _ _ h => h) (Or.inl ⟨by rfl, ?_⟩) hHeld ?_
        rotate_left
        · (intro W hSw; (try dsimp only at hSw); go_simp; (try with_reducible rfl))
        simp only [List.getElem_toArray, List.getElem_cons_succ, List.getElem_cons_zero, Act.put, List.setIfInBounds_toArray, List.set_cons_zero, List.set_cons_succ]
        refine wpAnyH_ready (rs := [0, 9]) (by kernel_rfl) (by simp) (AllReadyH.cons rfl (fun K hK => ?_) (AllReadyH.cons rfl (fun K hK => ?_) AllReadyH.nil))
        · skip
          have DA1 := Lib.hid (D8.out.later (below_new w8 (.cells #[] 9)))
          have EA := Lib.hid (show Slot.Tx w (World.alloc w8 (.cells #[] 9)) (.slice (some ⟨w8.heap.size, 0, none⟩) 0 0) [] from Slot.Tx.made w (w := w8) [] D8.out.below.size (by simp))
          rw [if_pos (by rfl)]
          unfold Oper.wp execOp
          go_simp
          refine hK.out _ _ (SC.out _ DA1.out) (fun hHeld => ?_)
          clear hK K
          try simp only [List.getElem_toArray, List.getElem_cons_succ, List.getElem_cons_zero, Act.put, List.setIfInBounds_toArray, List.set_cons_zero, List.set_cons_succ]
          generalize World.alloc w8 _ = wA1 at *
          obtain ⟨ab, hab⟩ : ∃ x, x = w8.heap.size := ⟨_, rfl⟩
          rw [← hab] at EA ⊢
          clear hab
          refine wpAnyH_ready (rs := [6, 9]) (by kernel_rfl) (by simp) (AllReadyH.cons rfl (fun K hK => ?_) (AllReadyH.cons rfl (fun K hK => ?_) AllReadyH.nil))
          · skip
            refine Page.step_app_in (W0 := w) (l := []) (news := A) rfl _ _ rfl EA.out (R1.out.later DA1.out.below) N1.out L1.out rfl rfl ?_
            intro vP wP2 tP gP
            replace tP : Slot.Tx w wP2 vP A := tP
            obtain ⟨aP, cP, rfl⟩ := tP.shape
            have DP2 := Lib.hid (DA1.out.grown HP.out EA.out gP)
            have TP := Lib.hid tP
            refine hK.out _ _ (SC.out _ DP2.out) (fun hHeld => ?_)
            clear hK K
            try simp only [List.getElem_toArray, List.getElem_cons_succ, List.getElem_cons_zero, Act.put, List.setIfInBounds_toArray, List.set_cons_zero, List.set_cons_succ]
            clear tP gP EA
            refine wpAnyH_ready (rs := [9]) (by kernel_rfl) (by simp) (AllReadyH.cons rfl (fun K hK => ?_) AllReadyH.nil)
            have DS3 := Lib.hid (DP2.out.later (below_new wP2 (.cells #[.string o.text] 9)))
            have ES := Lib.hid (heap_alloc_new wP2 (.cells #[.string o.text] 9))
            have TP := Lib.hid (TP.out.later (below_new wP2 (.cells #[.string o.text] 9)))
            rw [if_pos (by rfl)]
            unfold Oper.wp execOp
            go_simp
            refine hK.out _ _ (SC.out _ DS3.out) (fun hHeld => ?_)
            clear hK K
            try simp only [List.getElem_toArray, List.getElem_cons_succ, List.getElem_cons_zero, Act.put, List.setIfInBounds_toArray, List.set_cons_zero, List.set_cons_succ]
            generalize World.alloc wP2 _ = wS3 at *
            obtain ⟨sb, hsb⟩ : ∃ x, x = wP2.heap.size := ⟨_, rfl⟩
            rw [← hsb] at ES ⊢
            clear hsb
            refine wpAnyH_ready (rs := [10]) (by kernel_rfl) (by simp) (AllReadyH.cons rfl (fun K hK => ?_) AllReadyH.nil)
            refine Page.step_app_in (W0 := w) (l := A) (news := [o.text]) rfl _ _ rfl TP.out (one_rows ES.out) (nilok_some _ _ _) L2.out rfl rfl ?_
            intro vQ wQ4 tQ gQ
            obtain ⟨aQ, cQ, hvQ⟩ := tQ.shape
            obtain ⟨nQ, hnQ⟩ : ∃ x, x = (A ++ [o.text]).length := ⟨_, rfl⟩
            rw [← hnQ] at hvQ
            subst hvQ
            clear hnQ
            have DQ4 := Lib.hid (DS3.out.grown HP.out TP.out gQ)
            have TQ := Lib.hid tQ
            refine hK.out _ _ (SC.out _ DQ4.out) (fun hHeld => ?_)
            clear hK K
            try simp only [List.getElem_toArray, List.getElem_cons_succ, List.getElem_cons_zero, Act.put, List.setIfInBounds_toArray, List.set_cons_zero, List.set_cons_succ]
            clear tQ gQ TP ES
            refine wpAnyH_ready (rs := [16]) (by kernel_rfl) (by simp) (AllReadyH.cons rfl (fun K hK => ?_) AllReadyH.nil)
            refine Page.step_app_in (W0 := w) (l := A ++ [o.text]) (news := B) rfl _ _ rfl TQ.out (R2.out.later DQ4.out.below) N2.out L3.out rfl rfl ?_
            intro vR wR5 tR gR
            obtain ⟨aR, cR, hvR⟩ := tR.shape
            obtain ⟨nR, hnR⟩ : ∃ x, x = (A ++ [o.text] ++ B).length := ⟨_, rfl⟩
            rw [← hnR] at hvR
            subst hvR
            clear hnR
            have DR5 := Lib.hid (DQ4.out.grown HP.out TQ.out gR)
            have TR := Lib.hid tR
            refine hK.out _ _ (SC.out _ DR5.out) (fun hHeld => ?_)
            clear hK K
            try simp only [List.getElem_toArray, List.getElem_cons_succ, List.getElem_cons_zero, Act.put, List.setIfInBounds_toArray, List.set_cons_zero, List.set_cons_succ]
            clear tR gR TQ
            refine wpAnyH_take (i := 17) (v := ?_) rfl (by kernel_rfl) (by kernel_rfl) (by kernel_rfl) (fun _ _ _ h => h) (Or.inl ⟨by rfl, ?_⟩) hHeld ?_
            rotate_left
            · (intro W hSw; (try dsimp only at hSw); go_simp; (try with_reducible rfl))
            simp only [List.getElem_toArray, List.getElem_cons_succ, List.getElem_cons_zero, Act.put, List.setIfInBounds_toArray, List.set_cons_zero, List.set_cons_succ]
            refine wpAnyH_done (by kernel_rfl) ?_ _
            refine NoPanic.normal ?_
            clear hHeld
            go_upto_region 28 with fail
            clear R1 R2 N1 N2 L1 s1 s2 hkn SC
            have D9 := Lib.hid DR5.out
            have R9 := Lib.hid (Page.rows_tx TR.out)
            have S9 := Lib.hid (tx_str TR.out)
            clear TR DR5
            clear W0 HN3 HO HM HG HK hk2 hn2
            have z5 := D9.out.gx.free 5
            have X5 := D9.out.put R9.out S9.out
            have D10 := Lib.hid X5.1
            have S10 := Lib.hid X5.2
            obtain ⟨b0, b1, b2, b3, b4, b5⟩ := D9.out.gx.six
            obtain ⟨q10, hq⟩ : ∃ q10 : Pg, q10 = { (p : Pg) with rows := A ++ [o.text] ++ B } := ⟨_, rfl⟩
            rw [← hq] at D10
            have EQ := Lib.hid (EQ.out q10 hq)
            clear X5 b0 b1 b2 b3 b4 R9 S9 hq
            go_upto_region 29 with fail
            generalize World.setCell _ _ _ = w10 at *
            clear z5 b5 D9
            have z3 := D10.out.gx.free 3
            obtain ⟨b0, b1, b2, b3, b4, b5⟩ := D10.out.gx.six
            have D11 := Lib.hid (D10.out.lsn (pg_slice D10.out.gx.rows) lsn)
            have S11 := Lib.hid (str_set S10.out D10.out.gx.box 3 (.int .u64 (lsn : Int)))
            rw [EQ.out] at D11
            have KQ := Lib.hid (KP.out _ (done p o lsn) _ D11.out.gx.rows (by have := US.out; omega))
            unfold pgV at KQ
            clear b0 b1 b2 b4 b5 EQ S10
            go_upto_region 30 with fail
            generalize World.setCell w10 _ _ = w11 at *
            clear b3 z3 D10
            have EW := Lib.hid (show appE p o lsn = if mayP (done p o lsn) then 0 else 4 by unfold appE; rw [if_neg (by have := WR.out; omega)])
            obtain ⟨b0, b1, b2, b3, b4, b5⟩ := D11.out.gx.six
            cases hmq : mayP (done p o lsn)
            · rw [hmq] at KQ EW
              clear hmq
              go_wp2_with fail
              refine KQ.out.mono ?_
              rintro e w12 ⟨rfl, b12⟩
              have D12 := Lib.hid (D11.out.later b12)
              clear b12 b0 b1 b2 b3 b4 b5 KQ D11
              go_upto_region 31 with fail
              go_wp2_with (refine wpList_store_row rfl 45 (.tmp 6) (.tmp 174) rfl r zeroP rfl rfl 45 zeroP D12.out.rb info_page rfl Page.zero_one ?_)
              exact bodyPost_ret (v := .tuple #[.agg zeroP, .int .i64 4]) (results_page Try.results22 _ _ r zeroP 4 rfl rfl (setRow_heap _ _ _ _ _ _ D12.out.rb) info_page) rfl (ER.out 4 _ EW.out (by decide) (D12.out.fin _))
            · rw [hmq] at KQ EW
              clear hmq
              go_wp2_with fail
              refine KQ.out.mono ?_
              rintro e w12 ⟨rfl, b12⟩
              have D12 := Lib.hid (D11.out.later b12)
              have S12 := Lib.hid (S11.out.later b12)
              clear b12 b0 b1 b2 b3 b4 b5 KQ D11
              obtain ⟨b0, b1, b2, b3, b4, b5⟩ := D12.out.gx.six
              go_upto_region 32 with fail
              go_wp2_with (refine wpList_store_row rfl 45 (.tmp 6) (.tmp 175) rfl r (pgC (done p o lsn) (.slice aR nR cR)) rfl rfl 45 zeroP D12.out.rb info_page rfl (pgC_one' _ _ _ _) ?_)
              exact bodyPost_ret (v := .tuple #[.agg (pgC (done p o lsn) (.slice aR nR cR)), .int .i64 0]) (results_page Try.results22 _ _ r (pgC (done p o lsn) (.slice aR nR cR)) 0 rfl rfl (setRow_heap _ _ _ _ _ _ D12.out.rb) info_page) rfl (OK.out _ _ EW.out (rows_setRow D12.out.gx.rows D12.out.rb _) (str_setRow S12.out D12.out.rb _) (D12.out.fin _))
          · skip
            have DS2 := Lib.hid (DA1.out.later (below_new wA1 (.cells #[.string o.text] 9)))
            have ES := Lib.hid (heap_alloc_new wA1 (.cells #[.string o.text] 9))
            have NE := Lib.hid (show wA1.heap.size ≠ ab from fun e => by have h2 : ab < wA1.heap.size := EA.out.lt _ rfl; omega)
            have EA := Lib.hid (EA.out.later (below_new wA1 (.cells #[.string o.text] 9)))
            rw [if_pos (by rfl)]
            unfold Oper.wp execOp
            go_simp
            refine hK.out _ _ (SC.out _ DS2.out) (fun hHeld => ?_)
            clear hK K
            try simp only [List.getElem_toArray, List.getElem_cons_succ, List.getElem_cons_zero, Act.put, List.setIfInBounds_toArray, List.set_cons_zero, List.set_cons_succ]
            generalize World.alloc wA1 _ = wS2 at *
            obtain ⟨sb, hsb⟩ : ∃ x, x = wA1.heap.size := ⟨_, rfl⟩
            rw [← hsb] at ES NE ⊢
            clear hsb
            refine wpAnyH_ready (rs := [6]) (by kernel_rfl) (by simp) (AllReadyH.cons rfl (fun K hK => ?_) AllReadyH.nil)
            refine Page.step_app_in (W0 := w) (l := []) (news := A) rfl _ _ rfl EA.out (R1.out.later DS2.out.below) N1.out L1.out rfl rfl ?_
            intro vP wP3 tP gP
            replace tP : Slot.Tx w wP3 vP A := tP
            obtain ⟨aP, cP, rfl⟩ := tP.shape
            have DP3 := Lib.hid (DS2.out.grown HP.out EA.out gP)
            have TP := Lib.hid tP
            have ES := Lib.hid ((gP.block sb (Array.getElem?_eq_some_iff.1 ES.out).1 (fun e => NE.out (by simpa [Value.ownBlock] using e))).trans ES.out)
            refine hK.out _ _ (SC.out _ DP3.out) (fun hHeld => ?_)
            clear hK K
            try simp only [List.getElem_toArray, List.getElem_cons_succ, List.getElem_cons_zero, Act.put, List.setIfInBounds_toArray, List.set_cons_zero, List.set_cons_succ]
            clear tP gP EA
            refine wpAnyH_ready (rs := [10]) (by kernel_rfl) (by simp) (AllReadyH.cons rfl (fun K hK => ?_) AllReadyH.nil)
            refine Page.step_app_in (W0 := w) (l := A) (news := [o.text]) rfl _ _ rfl TP.out (one_rows ES.out) (nilok_some _ _ _) L2.out rfl rfl ?_
            intro vQ wQ4 tQ gQ
            obtain ⟨aQ, cQ, hvQ⟩ := tQ.shape
            obtain ⟨nQ, hnQ⟩ : ∃ x, x = (A ++ [o.text]).length := ⟨_, rfl⟩
            rw [← hnQ] at hvQ
            subst hvQ
            clear hnQ
            have DQ4 := Lib.hid (DP3.out.grown HP.out TP.out gQ)
            have TQ := Lib.hid tQ
            refine hK.out _ _ (SC.out _ DQ4.out) (fun hHeld => ?_)
            clear hK K
            try simp only [List.getElem_toArray, List.getElem_cons_succ, List.getElem_cons_zero, Act.put, List.setIfInBounds_toArray, List.set_cons_zero, List.set_cons_succ]
            clear tQ gQ TP ES
            refine wpAnyH_ready (rs := [16]) (by kernel_rfl) (by simp) (AllReadyH.cons rfl (fun K hK => ?_) AllReadyH.nil)
            refine Page.step_app_in (W0 := w) (l := A ++ [o.text]) (news := B) rfl _ _ rfl TQ.out (R2.out.later DQ4.out.below) N2.out L3.out rfl rfl ?_
            intro vR wR5 tR gR
            obtain ⟨aR, cR, hvR⟩ := tR.shape
            obtain ⟨nR, hnR⟩ : ∃ x, x = (A ++ [o.text] ++ B).length := ⟨_, rfl⟩
            rw [← hnR] at hvR
            subst hvR
            clear hnR
            have DR5 := Lib.hid (DQ4.out.grown HP.out TQ.out gR)
            have TR := Lib.hid tR
            refine hK.out _ _ (SC.out _ DR5.out) (fun hHeld => ?_)
            clear hK K
            try simp only [List.getElem_toArray, List.getElem_cons_succ, List.getElem_cons_zero, Act.put, List.setIfInBounds_toArray, List.set_cons_zero, List.set_cons_succ]
            clear tR gR TQ
            refine wpAnyH_take (i := 17) (v := ?_) rfl (by kernel_rfl) (by kernel_rfl) (by kernel_rfl) (fun _ _ _ h => h) (Or.inl ⟨by rfl, ?_⟩) hHeld ?_
            rotate_left
            · (intro W hSw; (try dsimp only at hSw); go_simp; (try with_reducible rfl))
            simp only [List.getElem_toArray, List.getElem_cons_succ, List.getElem_cons_zero, Act.put, List.setIfInBounds_toArray, List.set_cons_zero, List.set_cons_succ]
            refine wpAnyH_done (by kernel_rfl) ?_ _
            refine NoPanic.normal ?_
            clear hHeld
            go_upto_region 28 with fail
            clear R1 R2 N1 N2 L1 s1 s2 hkn SC
            have D9 := Lib.hid DR5.out
            have R9 := Lib.hid (Page.rows_tx TR.out)
            have S9 := Lib.hid (tx_str TR.out)
            clear TR DR5
            clear W0 HN3 HO HM HG HK hk2 hn2
            have z5 := D9.out.gx.free 5
            have X5 := D9.out.put R9.out S9.out
            have D10 := Lib.hid X5.1
            have S10 := Lib.hid X5.2
            obtain ⟨b0, b1, b2, b3, b4, b5⟩ := D9.out.gx.six
            obtain ⟨q10, hq⟩ : ∃ q10 : Pg, q10 = { (p : Pg) with rows := A ++ [o.text] ++ B } := ⟨_, rfl⟩
            rw [← hq] at D10
            have EQ := Lib.hid (EQ.out q10 hq)
            clear X5 b0 b1 b2 b3 b4 R9 S9 hq
            go_upto_region 29 with fail
            generalize World.setCell _ _ _ = w10 at *
            clear z5 b5 D9
            have z3 := D10.out.gx.free 3
            obtain ⟨b0, b1, b2, b3, b4, b5⟩ := D10.out.gx.six
            have D11 := Lib.hid (D10.out.lsn (pg_slice D10.out.gx.rows) lsn)
            have S11 := Lib.hid (str_set S10.out D10.out.gx.box 3 (.int .u64 (lsn : Int)))
            rw [EQ.out] at D11
            have KQ := Lib.hid (KP.out _ (done p o lsn) _ D11.out.gx.rows (by have := US.out; omega))
            unfold pgV at KQ
            clear b0 b1 b2 b4 b5 EQ S10
            go_upto_region 30 with fail
            generalize World.setCell w10 _ _ = w11 at *
            clear b3 z3 D10
            have EW := Lib.hid (show appE p o lsn = if mayP (done p o lsn) then 0 else 4 by unfold appE; rw [if_neg (by have := WR.out; omega)])
            obtain ⟨b0, b1, b2, b3, b4, b5⟩ := D11.out.gx.six
            cases hmq : mayP (done p o lsn)
            · rw [hmq] at KQ EW
              clear hmq
              go_wp2_with fail
              refine KQ.out.mono ?_
              rintro e w12 ⟨rfl, b12⟩
              have D12 := Lib.hid (D11.out.later b12)
              clear b12 b0 b1 b2 b3 b4 b5 KQ D11
              go_upto_region 31 with fail
              go_wp2_with (refine wpList_store_row rfl 45 (.tmp 6) (.tmp 174) rfl r zeroP rfl rfl 45 zeroP D12.out.rb info_page rfl Page.zero_one ?_)
              exact bodyPost_ret (v := .tuple #[.agg zeroP, .int .i64 4]) (results_page Try.results22 _ _ r zeroP 4 rfl rfl (setRow_heap _ _ _ _ _ _ D12.out.rb) info_page) rfl (ER.out 4 _ EW.out (by decide) (D12.out.fin _))
            · rw [hmq] at KQ EW
              clear hmq
              go_wp2_with fail
              refine KQ.out.mono ?_
              rintro e w12 ⟨rfl, b12⟩
              have D12 := Lib.hid (D11.out.later b12)
              have S12 := Lib.hid (S11.out.later b12)
              clear b12 b0 b1 b2 b3 b4 b5 KQ D11
              obtain ⟨b0, b1, b2, b3, b4, b5⟩ := D12.out.gx.six
              go_upto_region 32 with fail
              go_wp2_with (refine wpList_store_row rfl 45 (.tmp 6) (.tmp 175) rfl r (pgC (done p o lsn) (.slice aR nR cR)) rfl rfl 45 zeroP D12.out.rb info_page rfl (pgC_one' _ _ _ _) ?_)
              exact bodyPost_ret (v := .tuple #[.agg (pgC (done p o lsn) (.slice aR nR cR)), .int .i64 0]) (results_page Try.results22 _ _ r (pgC (done p o lsn) (.slice aR nR cR)) 0 rfl rfl (setRow_heap _ _ _ _ _ _ D12.out.rb) info_page) rfl (OK.out _ _ EW.out (rows_setRow D12.out.gx.rows D12.out.rb _) (str_setRow S12.out D12.out.rb _) (D12.out.fin _))
        · skip
          have DS1 := Lib.hid (D8.out.later (below_new w8 (.cells #[.string o.text] 9)))
          have ES := Lib.hid (heap_alloc_new w8 (.cells #[.string o.text] 9))
          rw [if_pos (by rfl)]
          unfold Oper.wp execOp
          go_simp
          refine hK.out _ _ (SC.out _ DS1.out) (fun hHeld => ?_)
          clear hK K
          try simp only [List.getElem_toArray, List.getElem_cons_succ, List.getElem_cons_zero, Act.put, List.setIfInBounds_toArray, List.set_cons_zero, List.set_cons_succ]
          generalize World.alloc w8 _ = wS1 at *
          obtain ⟨sb, hsb⟩ : ∃ x, x = w8.heap.size := ⟨_, rfl⟩
          rw [← hsb] at ES ⊢
          clear hsb
          refine wpAnyH_ready (rs := [0]) (by kernel_rfl) (by simp) (AllReadyH.cons rfl (fun K hK => ?_) AllReadyH.nil)
          have DA2 := Lib.hid (DS1.out.later (below_new wS1 (.cells #[] 9)))
          have EA := Lib.hid (show Slot.Tx w (World.alloc wS1 (.cells #[] 9)) (.slice (some ⟨wS1.heap.size, 0, none⟩) 0 0) [] from Slot.Tx.made w (w := wS1) [] DS1.out.below.size (by simp))
          have NE := Lib.hid (show sb ≠ wS1.heap.size from fun e => by have := (Array.getElem?_eq_some_iff.1 ES.out).1; omega)
          have ES := Lib.hid (((below_new wS1 (.cells #[] 9)).block _ (Array.getElem?_eq_some_iff.1 ES.out).1).trans ES.out)
          rw [if_pos (by rfl)]
          unfold Oper.wp execOp
          go_simp
          refine hK.out _ _ (SC.out _ DA2.out) (fun hHeld => ?_)
          clear hK K
          try simp only [List.getElem_toArray, List.getElem_cons_succ, List.getElem_cons_zero, Act.put, List.setIfInBounds_toArray, List.set_cons_zero, List.set_cons_succ]
          generalize World.alloc wS1 _ = wA2 at *
          obtain ⟨ab, hab⟩ : ∃ x, x = wS1.heap.size := ⟨_, rfl⟩
          rw [← hab] at EA NE ⊢
          clear hab
          refine wpAnyH_ready (rs := [6]) (by kernel_rfl) (by simp) (AllReadyH.cons rfl (fun K hK => ?_) AllReadyH.nil)
          refine Page.step_app_in (W0 := w) (l := []) (news := A) rfl _ _ rfl EA.out (R1.out.later DA2.out.below) N1.out L1.out rfl rfl ?_
          intro vP wP3 tP gP
          replace tP : Slot.Tx w wP3 vP A := tP
          obtain ⟨aP, cP, rfl⟩ := tP.shape
          have DP3 := Lib.hid (DA2.out.grown HP.out EA.out gP)
          have TP := Lib.hid tP
          have ES := Lib.hid ((gP.block sb (Array.getElem?_eq_some_iff.1 ES.out).1 (fun e => NE.out (by simpa [Value.ownBlock] using e))).trans ES.out)
          refine hK.out _ _ (SC.out _ DP3.out) (fun hHeld => ?_)
          clear hK K
          try simp only [List.getElem_toArray, List.getElem_cons_succ, List.getElem_cons_zero, Act.put, List.setIfInBounds_toArray, List.set_cons_zero, List.set_cons_succ]
          clear tP gP EA
          refine wpAnyH_ready (rs := [10]) (by kernel_rfl) (by simp) (AllReadyH.cons rfl (fun K hK => ?_) AllReadyH.nil)
          refine Page.step_app_in (W0 := w) (l := A) (news := [o.text]) rfl _ _ rfl TP.out (one_rows ES.out) (nilok_some _ _ _) L2.out rfl rfl ?_
          intro vQ wQ4 tQ gQ
          obtain ⟨aQ, cQ, hvQ⟩ := tQ.shape
          obtain ⟨nQ, hnQ⟩ : ∃ x, x = (A ++ [o.text]).length := ⟨_, rfl⟩
          rw [← hnQ] at hvQ
          subst hvQ
          clear hnQ
          have DQ4 := Lib.hid (DP3.out.grown HP.out TP.out gQ)
          have TQ := Lib.hid tQ
          refine hK.out _ _ (SC.out _ DQ4.out) (fun hHeld => ?_)
          clear hK K
          try simp only [List.getElem_toArray, List.getElem_cons_succ, List.getElem_cons_zero, Act.put, List.setIfInBounds_toArray, List.set_cons_zero, List.set_cons_succ]
          clear tQ gQ TP ES
          refine wpAnyH_ready (rs := [16]) (by kernel_rfl) (by simp) (AllReadyH.cons rfl (fun K hK => ?_) AllReadyH.nil)
          refine Page.step_app_in (W0 := w) (l := A ++ [o.text]) (news := B) rfl _ _ rfl TQ.out (R2.out.later DQ4.out.below) N2.out L3.out rfl rfl ?_
          intro vR wR5 tR gR
          obtain ⟨aR, cR, hvR⟩ := tR.shape
          obtain ⟨nR, hnR⟩ : ∃ x, x = (A ++ [o.text] ++ B).length := ⟨_, rfl⟩
          rw [← hnR] at hvR
          subst hvR
          clear hnR
          have DR5 := Lib.hid (DQ4.out.grown HP.out TQ.out gR)
          have TR := Lib.hid tR
          refine hK.out _ _ (SC.out _ DR5.out) (fun hHeld => ?_)
          clear hK K
          try simp only [List.getElem_toArray, List.getElem_cons_succ, List.getElem_cons_zero, Act.put, List.setIfInBounds_toArray, List.set_cons_zero, List.set_cons_succ]
          clear tR gR TQ
          refine wpAnyH_take (i := 17) (v := ?_) rfl (by kernel_rfl) (by kernel_rfl) (by kernel_rfl) (fun _ _ _ h => h) (Or.inl ⟨by rfl, ?_⟩) hHeld ?_
          rotate_left
          · (intro W hSw; (try dsimp only at hSw); go_simp; (try with_reducible rfl))
          simp only [List.getElem_toArray, List.getElem_cons_succ, List.getElem_cons_zero, Act.put, List.setIfInBounds_toArray, List.set_cons_zero, List.set_cons_succ]
          refine wpAnyH_done (by kernel_rfl) ?_ _
          refine NoPanic.normal ?_
          clear hHeld
          go_upto_region 28 with fail
          clear R1 R2 N1 N2 L1 s1 s2 hkn SC
          have D9 := Lib.hid DR5.out
          have R9 := Lib.hid (Page.rows_tx TR.out)
          have S9 := Lib.hid (tx_str TR.out)
          clear TR DR5
          clear W0 HN3 HO HM HG HK hk2 hn2
          have z5 := D9.out.gx.free 5
          have X5 := D9.out.put R9.out S9.out
          have D10 := Lib.hid X5.1
          have S10 := Lib.hid X5.2
          obtain ⟨b0, b1, b2, b3, b4, b5⟩ := D9.out.gx.six
          obtain ⟨q10, hq⟩ : ∃ q10 : Pg, q10 = { (p : Pg) with rows := A ++ [o.text] ++ B } := ⟨_, rfl⟩
          rw [← hq] at D10
          have EQ := Lib.hid (EQ.out q10 hq)
          clear X5 b0 b1 b2 b3 b4 R9 S9 hq
          go_upto_region 29 with fail
          generalize World.setCell _ _ _ = w10 at *
          clear z5 b5 D9
          have z3 := D10.out.gx.free 3
          obtain ⟨b0, b1, b2, b3, b4, b5⟩ := D10.out.gx.six
          have D11 := Lib.hid (D10.out.lsn (pg_slice D10.out.gx.rows) lsn)
          have S11 := Lib.hid (str_set S10.out D10.out.gx.box 3 (.int .u64 (lsn : Int)))
          rw [EQ.out] at D11
          have KQ := Lib.hid (KP.out _ (done p o lsn) _ D11.out.gx.rows (by have := US.out; omega))
          unfold pgV at KQ
          clear b0 b1 b2 b4 b5 EQ S10
          go_upto_region 30 with fail
          generalize World.setCell w10 _ _ = w11 at *
          clear b3 z3 D10
          have EW := Lib.hid (show appE p o lsn = if mayP (done p o lsn) then 0 else 4 by unfold appE; rw [if_neg (by have := WR.out; omega)])
          obtain ⟨b0, b1, b2, b3, b4, b5⟩ := D11.out.gx.six
          cases hmq : mayP (done p o lsn)
          · rw [hmq] at KQ EW
            clear hmq
            go_wp2_with fail
            refine KQ.out.mono ?_
            rintro e w12 ⟨rfl, b12⟩
            have D12 := Lib.hid (D11.out.later b12)
            clear b12 b0 b1 b2 b3 b4 b5 KQ D11
            go_upto_region 31 with fail
            go_wp2_with (refine wpList_store_row rfl 45 (.tmp 6) (.tmp 174) rfl r zeroP rfl rfl 45 zeroP D12.out.rb info_page rfl Page.zero_one ?_)
            exact bodyPost_ret (v := .tuple #[.agg zeroP, .int .i64 4]) (results_page Try.results22 _ _ r zeroP 4 rfl rfl (setRow_heap _ _ _ _ _ _ D12.out.rb) info_page) rfl (ER.out 4 _ EW.out (by decide) (D12.out.fin _))
          · rw [hmq] at KQ EW
            clear hmq
            go_wp2_with fail
            refine KQ.out.mono ?_
            rintro e w12 ⟨rfl, b12⟩
            have D12 := Lib.hid (D11.out.later b12)
            have S12 := Lib.hid (S11.out.later b12)
            clear b12 b0 b1 b2 b3 b4 b5 KQ D11
            obtain ⟨b0, b1, b2, b3, b4, b5⟩ := D12.out.gx.six
            go_upto_region 32 with fail
            go_wp2_with (refine wpList_store_row rfl 45 (.tmp 6) (.tmp 175) rfl r (pgC (done p o lsn) (.slice aR nR cR)) rfl rfl 45 zeroP D12.out.rb info_page rfl (pgC_one' _ _ _ _) ?_)
            exact bodyPost_ret (v := .tuple #[.agg (pgC (done p o lsn) (.slice aR nR cR)), .int .i64 0]) (results_page Try.results22 _ _ r (pgC (done p o lsn) (.slice aR nR cR)) 0 rfl rfl (setRow_heap _ _ _ _ _ _ D12.out.rb) info_page) rfl (OK.out _ _ EW.out (rows_setRow D12.out.gx.rows D12.out.rb _) (str_setRow S12.out D12.out.rb _) (D12.out.fin _))
      · skip
        have EQ := Lib.hid (show ∀ q10 : Pg, q10 = { (p : Pg) with rows := p.rows.set k o.text } → ({ q10 with lsn := lsn } : Pg) = done p o lsn by rintro _ rfl; rw [done_is HK.out, kd]; all_goals rfl)
        have WR := Lib.hid (show wrong p o = 0 by rw [W0.out, if_neg (fun hx => by have := hx.1; omega)])
        have hkn : k < n := by have := HN3.out; omega
        obtain ⟨b9, hb9, e1, e2, t9, g9⟩ := (show Slot.Tx w w7 (.slice a7 p.rows.length c7) p.rows by rw [← HN.out]; exact T7.out).store (by rw [← HN.out]; exact hkn) o.text
        subst hb9
        have D9 := Lib.hid (D7.out.grown HP.out T7.out g9)
        rw [← HN.out] at t9
        have T9 := Lib.hid t9
        clear t9 g9
        go_upto_region 28 with fail
        have R9 := Lib.hid (Page.rows_tx T9.out)
        have S9 := Lib.hid (tx_str T9.out)
        clear x0 x1 x2 x3 x4 x5 y0 y1 y2 y3 y4 y5 y6 y7 y8 kd
        clear D7 T7 T9 e1 e2 hkn
        generalize World.setCell _ _ _ = w9 at *
        clear W0 HN3 HO HM HG HK hk2 hn2
        have z5 := D9.out.gx.free 5
        have X5 := D9.out.put R9.out S9.out
        have D10 := Lib.hid X5.1
        have S10 := Lib.hid X5.2
        obtain ⟨b0, b1, b2, b3, b4, b5⟩ := D9.out.gx.six
        obtain ⟨q10, hq⟩ : ∃ q10 : Pg, q10 = { (p : Pg) with rows := p.rows.set k o.text } := ⟨_, rfl⟩
        rw [← hq] at D10
        have EQ := Lib.hid (EQ.out q10 hq)
        clear X5 b0 b1 b2 b3 b4 R9 S9 hq
        go_upto_region 29 with fail
        generalize World.setCell _ _ _ = w10 at *
        clear z5 b5 D9
        have z3 := D10.out.gx.free 3
        obtain ⟨b0, b1, b2, b3, b4, b5⟩ := D10.out.gx.six
        have D11 := Lib.hid (D10.out.lsn (pg_slice D10.out.gx.rows) lsn)
        have S11 := Lib.hid (str_set S10.out D10.out.gx.box 3 (.int .u64 (lsn : Int)))
        rw [EQ.out] at D11
        have KQ := Lib.hid (KP.out _ (done p o lsn) _ D11.out.gx.rows (by have := US.out; omega))
        unfold pgV at KQ
        clear b0 b1 b2 b4 b5 EQ S10
        go_upto_region 30 with fail
        generalize World.setCell w10 _ _ = w11 at *
        clear b3 z3 D10
        have EW := Lib.hid (show appE p o lsn = if mayP (done p o lsn) then 0 else 4 by unfold appE; rw [if_neg (by have := WR.out; omega)])
        obtain ⟨b0, b1, b2, b3, b4, b5⟩ := D11.out.gx.six
        cases hmq : mayP (done p o lsn)
        · rw [hmq] at KQ EW
          clear hmq
          go_wp2_with fail
          refine KQ.out.mono ?_
          rintro e w12 ⟨rfl, b12⟩
          have D12 := Lib.hid (D11.out.later b12)
          clear b12 b0 b1 b2 b3 b4 b5 KQ D11
          go_upto_region 31 with fail
          go_wp2_with (refine wpList_store_row rfl 45 (.tmp 6) (.tmp 174) rfl r zeroP rfl rfl 45 zeroP D12.out.rb info_page rfl Page.zero_one ?_)
          exact bodyPost_ret (v := .tuple #[.agg zeroP, .int .i64 4]) (results_page Try.results22 _ _ r zeroP 4 rfl rfl (setRow_heap _ _ _ _ _ _ D12.out.rb) info_page) rfl (ER.out 4 _ EW.out (by decide) (D12.out.fin _))
        · rw [hmq] at KQ EW
          clear hmq
          go_wp2_with fail
          refine KQ.out.mono ?_
          rintro e w12 ⟨rfl, b12⟩
          have D12 := Lib.hid (D11.out.later b12)
          have S12 := Lib.hid (S11.out.later b12)
          clear b12 b0 b1 b2 b3 b4 b5 KQ D11
          obtain ⟨b0, b1, b2, b3, b4, b5⟩ := D12.out.gx.six
          go_upto_region 32 with fail
          go_wp2_with (refine wpList_store_row rfl 45 (.tmp 6) (.tmp 175) rfl r (pgC (done p o lsn) (.slice (some ⟨b9, 0, none⟩) n c7)) rfl rfl 45 zeroP D12.out.rb info_page rfl (pgC_one' _ _ _ _) ?_)
          exact bodyPost_ret (v := .tuple #[.agg (pgC (done p o lsn) (.slice (some ⟨b9, 0, none⟩) n c7)), .int .i64 0]) (results_page Try.results22 _ _ r (pgC (done p o lsn) (.slice (some ⟨b9, 0, none⟩) n c7)) 0 rfl rfl (setRow_heap _ _ _ _ _ _ D12.out.rb) info_page) rfl (OK.out _ _ EW.out (rows_setRow D12.out.gx.rows D12.out.rb _) (str_setRow S12.out D12.out.rb _) (D12.out.fin _))
      · skip
        have WR := Lib.hid (show wrong p o = 0 by rw [W0.out, if_neg (fun hx => by have := hx.1; omega)])
        have hkn : k < n := by have := HN3.out; omega
        obtain ⟨sx1, s1, r1, c1⟩ := Page.rows_head HP.out HC.out (show k ≤ p.rows.length by rw [← HN.out]; omega)
        obtain ⟨sx2, s2, r2, c2⟩ := Page.rows_tail HP.out HC.out (show k + 1 ≤ p.rows.length by rw [← HN.out]; omega)
        have hlen : p.rows.length = n := HN.out.symm
        obtain ⟨A, hA⟩ : ∃ A, A = p.rows.take k := ⟨_, rfl⟩
        obtain ⟨B, hB⟩ : ∃ B, B = p.rows.drop (k + 1) := ⟨_, rfl⟩
        have hlA : A.length ≤ 250000 := by rw [hA, List.length_take]; omega
        have hlB : B.length ≤ 250000 := by rw [hB, List.length_drop]; omega
        have HA := Lib.hid hA
        have HB := Lib.hid hB
        rw [← hA] at r1
        rw [← hB] at r2
        have R1 := Lib.hid r1
        have R2 := Lib.hid r2
        have N1 := Lib.hid c1.nilOk
        have N2 := Lib.hid c2.nilOk
        have L1 := Lib.hid (show ([] : List ByteArray).length + A.length ≤ 1000000 by rw [List.length_nil]; omega)
        have L2 := Lib.hid (show A.length + B.length ≤ 1000000 by omega)
        have EQ := Lib.hid (show ∀ q10 : Pg, q10 = { (p : Pg) with rows := A ++ B } → ({ q10 with lsn := lsn } : Pg) = done p o lsn by rintro _ rfl; rw [done_is HK.out, kd, HA.out, HB.out]; all_goals rfl)
        clear r1 r2 c1 c2 hA hB hlA hlB hlen
        have e1 : ((k + 1 : Nat) : Int) = (k : Int) + 1 := by omega
        rw [e1] at s2
        have wq : IntKind.i64.wrap ((k : Int) + 1) = (k : Int) + 1 := by rw [IntKind.wrap_i64]; omega
        go_upto_region 16 with fail
        clear x0 x1 x2 x3 x4 x5 y0 y1 y2 y3 y4 y5 y6 y7 y8 kd e1 T7
        have D8 := Lib.hid (D7.out.later (Below.refl _ _).drew)
        have SC := Lib.hid (fun W (D : Dn w W g h r p (.slice ad n c) o (.slice ua un uc)) => (show (fun W => W.cell? ⟨g, 5, none⟩ = some (.slice ad n c) ∧ W.cell? ⟨h, 2, none⟩ = some (.int .i64 (k : Int)) ∧ W.cell? ⟨h, 4, none⟩ = some (.string o.text)) W from ⟨D.gx.six.2.2.2.2.2, by rw [D.onine.2.2.1, HK.out], D.onine.2.2.2.2.1⟩))
        generalize hw8 : w7.drew = w8 at *
        refine wp_region_noPanic ?_
        refine wp_region_held_drew (S := (fun W => W.cell? ⟨g, 5, none⟩ = some (.slice ad n c) ∧ W.cell? ⟨h, 2, none⟩ = some (.int .i64 (k : Int)) ∧ W.cell? ⟨h, 4, none⟩ = some (.string o.text))) (by kernel_rfl) (by rw [hw8]; exact SC.out _ D8.out) (fun hHeld => ?_)
        rw [hw8] at hHeld ⊢
        clear hw8 D7
        refine wpAnyH_take (i := 1) (v := ?_) rfl (by kernel_rfl) (by kernel_rfl) (by kernel_rfl) (fun _ _ _ h => h) (Or.inl ⟨by rfl, ?_⟩) hHeld ?_
        rotate_left
        · (intro W hSw; (try dsimp only at hSw); go_simp; (try with_reducible rfl))
        simp only [List.getElem_toArray, List.getElem_cons_succ, List.getElem_cons_zero, Act.put, List.setIfInBounds_toArray, List.set_cons_zero, List.set_cons_succ]
        refine wpAnyH_take (i := 2) (v := ?_) rfl (by kernel_rfl) (by kernel_rfl) (by kernel_rfl) (fun _ _ _ h => h) (Or.inl ⟨by rfl, ?_⟩) hHeld ?_
        rotate_left
        · (intro W hSw; (try dsimp only at hSw); go_simp; (try with_reducible rfl))
        simp only [List.getElem_toArray, List.getElem_cons_succ, List.getElem_cons_zero, Act.put, List.setIfInBounds_toArray, List.set_cons_zero, List.set_cons_succ]
        refine wpAnyH_take (i := 3) (v := ?_) rfl (by kernel_rfl) (by kernel_rfl) (by kernel_rfl) (fun _ _ _ h => h) (Or.inl ⟨by rfl, ?_⟩) hHeld ?_
        rotate_left
        · (intro W hSw; (try dsimp only at hSw); go_simp; (try with_reducible rfl))
        simp only [List.getElem_toArray, List.getElem_cons_succ, List.getElem_cons_zero, Act.put, List.setIfInBounds_toArray, List.set_cons_zero, List.set_cons_succ]
        refine wpAnyH_take (i := 4) (v := ?_) rfl (by kernel_rfl) (by kernel_rfl) (by kernel_rfl) (fun _ _ _ h => h) (Or.inl ⟨by rfl, ?_⟩) hHeld ?_
        rotate_left
        · (intro W hSw; (try dsimp only at hSw); go_simp; (try with_reducible rfl))
        simp only [List.getElem_toArray, List.getElem_cons_succ, List.getElem_cons_zero, Act.put, List.setIfInBounds_toArray, List.set_cons_zero, List.set_cons_succ]
        refine wpAnyH_take (i := 5) (v := ?_) rfl (by kernel_rfl) (by kernel_rfl) (by kernel_rfl) (fun _ _ _ h => h) (Or.inl ⟨by rfl, ?_⟩) hHeld ?_
        rotate_left
        · (intro W hSw; (try dsimp only at hSw); go_simp; (try with_reducible rfl))
        simp only [List.getElem_toArray, List.getElem_cons_succ, List.getElem_cons_zero, Act.put, List.setIfInBounds_toArray, List.set_cons_zero, List.set_cons_succ]
        refine wpAnyH_take (i := 7) (v := ?_) rfl (by kernel_rfl) (by kernel_rfl) (by kernel_rfl) (fun _ _ _ h => h) (Or.inl ⟨by rfl, ?_⟩) hHeld ?_
        rotate_left
        · (intro W hSw; (try dsimp only at hSw); go_simp; (try with_reducible rfl))
        simp only [List.getElem_toArray, List.getElem_cons_succ, List.getElem_cons_zero, Act.put, List.setIfInBounds_toArray, List.set_cons_zero, List.set_cons_succ]
        refine wpAnyH_take (i := 8) (v := ?_) rfl (by kernel_rfl) (by kernel_rfl) (by kernel_rfl) (fun _ _ _ h => h) (Or.inl ⟨by rfl, ?_⟩) hHeld ?_
        rotate_left
        · (intro W hSw; (try dsimp only at hSw); go_simp; (try with_reducible rfl))
        simp only [List.getElem_toArray, List.getElem_cons_succ, List.getElem_cons_zero, Act.put, List.setIfInBounds_toArray, List.set_cons_zero, List.set_cons_succ]
        refine wpAnyH_take (i := 9) (v := ?_) rfl (by kernel_rfl) (by kernel_rfl) (by kernel_rfl) (fun _ _ _ h => h) (Or.inl ⟨by rfl, ?_⟩) hHeld ?_
        rotate_left
        · (intro W hSw; (try dsimp only at hSw); go_simp; (try with_reducible rfl))
        simp only [List.getElem_toArray, List.getElem_cons_succ, List.getElem_cons_zero, Act.put, List.setIfInBounds_toArray, List.set_cons_zero, List.set_cons_succ]
        refine wpAnyH_take (i := 10) (v := ?_) rfl (by kernel_rfl) (by kernel_rfl) (by kernel_rfl) (fun _ _ _ h => h) (Or.inl ⟨by rfl, ?_⟩) hHeld ?_
        rotate_left
        · (intro W hSw; (try dsimp only at hSw); go_simp; (try with_reducible rfl))
        simp only [List.getElem_toArray, List.getElem_cons_succ, List.getElem_cons_zero, Act.put, List.setIfInBounds_toArray, List.set_cons_zero, List.set_cons_succ]
        refine wpAnyH_take (i := 11) (v := ?_) rfl (by kernel_rfl) (by kernel_rfl) (by kernel_rfl) (fun _ _ _ h => h) (Or.inl ⟨by rfl, ?_⟩) hHeld ?_
        rotate_left
        · (intro W hSw; (try dsimp only at hSw); go_simp; (try with_reducible rfl))
        simp only [List.getElem_toArray, List.getElem_cons_succ, List.getElem_cons_zero, Act.put, List.setIfInBounds_toArray, List.set_cons_zero, List.set_cons_succ]
        refine wpAnyH_take (i := 12) (v := ?_) rfl (by kernel_rfl) (by kernel_rfl) (by kernel_rfl) (fun _ _ _ h => h) (Or.inl ⟨by rfl, ?_⟩) hHeld ?_
        rotate_left
        · (intro W hSw; (try dsimp only at hSw); go_simp; (try with_reducible rfl))
        simp only [List.getElem_toArray, List.getElem_cons_succ, List.getElem_cons_zero, Act.put, List.setIfInBounds_toArray, List.set_cons_zero, List.set_cons_succ]
        refine wpAnyH_ready (rs := [0]) (by kernel_rfl) (by simp) (AllReadyH.cons rfl (fun K hK => ?_) AllReadyH.nil)
        have DA1 := Lib.hid (D8.out.later (below_new w8 (.cells #[] 9)))
        have EA := Lib.hid (show Slot.Tx w (World.alloc w8 (.cells #[] 9)) (.slice (some ⟨w8.heap.size, 0, none⟩) 0 0) [] from Slot.Tx.made w (w := w8) [] D8.out.below.size (by simp))
        rw [if_pos (by rfl)]
        unfold Oper.wp execOp
        go_simp
        refine hK.out _ _ (SC.out _ DA1.out) (fun hHeld => ?_)
        clear hK K
        try simp only [List.getElem_toArray, List.getElem_cons_succ, List.getElem_cons_zero, Act.put, List.setIfInBounds_toArray, List.set_cons_zero, List.set_cons_succ]
        generalize World.alloc w8 _ = wA1 at *
        obtain ⟨ab, hab⟩ : ∃ x, x = w8.heap.size := ⟨_, rfl⟩
        rw [← hab] at EA ⊢
        clear hab
        refine wpAnyH_ready (rs := [6]) (by kernel_rfl) (by simp) (AllReadyH.cons rfl (fun K hK => ?_) AllReadyH.nil)
        refine Page.step_app_in (W0 := w) (l := []) (news := A) rfl _ _ rfl EA.out (R1.out.later DA1.out.below) N1.out L1.out rfl rfl ?_
        intro vP wP2 tP gP
        replace tP : Slot.Tx w wP2 vP A := tP
        obtain ⟨aP, cP, rfl⟩ := tP.shape
        have DP2 := Lib.hid (DA1.out.grown HP.out EA.out gP)
        have TP := Lib.hid tP
        refine hK.out _ _ (SC.out _ DP2.out) (fun hHeld => ?_)
        clear hK K
        try simp only [List.getElem_toArray, List.getElem_cons_succ, List.getElem_cons_zero, Act.put, List.setIfInBounds_toArray, List.set_cons_zero, List.set_cons_succ]
        clear tP gP EA
        refine wpAnyH_ready (rs := [13]) (by kernel_rfl) (by simp) (AllReadyH.cons rfl (fun K hK => ?_) AllReadyH.nil)
        refine Page.step_app_in (W0 := w) (l := A) (news := B) rfl _ _ rfl TP.out (R2.out.later DP2.out.below) N2.out L2.out rfl rfl ?_
        intro vR wR3 tR gR
        obtain ⟨aR, cR, hvR⟩ := tR.shape
        obtain ⟨nR, hnR⟩ : ∃ x, x = (A ++ B).length := ⟨_, rfl⟩
        rw [← hnR] at hvR
        subst hvR
        clear hnR
        have DR3 := Lib.hid (DP2.out.grown HP.out TP.out gR)
        have TR := Lib.hid tR
        refine hK.out _ _ (SC.out _ DR3.out) (fun hHeld => ?_)
        clear hK K
        try simp only [List.getElem_toArray, List.getElem_cons_succ, List.getElem_cons_zero, Act.put, List.setIfInBounds_toArray, List.set_cons_zero, List.set_cons_succ]
        clear tR gR TP
        refine wpAnyH_take (i := 14) (v := ?_) rfl (by kernel_rfl) (by kernel_rfl) (by kernel_rfl) (fun _ _ _ h => h) (Or.inl ⟨by rfl, ?_⟩) hHeld ?_
        rotate_left
        · (intro W hSw; (try dsimp only at hSw); go_simp; (try with_reducible rfl))
        simp only [List.getElem_toArray, List.getElem_cons_succ, List.getElem_cons_zero, Act.put, List.setIfInBounds_toArray, List.set_cons_zero, List.set_cons_succ]
        refine wpAnyH_done (by kernel_rfl) ?_ _
        refine NoPanic.normal ?_
        clear hHeld
        go_upto_region 28 with fail
        clear R1 R2 N1 N2 L1 s1 s2 hkn SC
        have D9 := Lib.hid DR3.out
        have R9 := Lib.hid (Page.rows_tx TR.out)
        have S9 := Lib.hid (tx_str TR.out)
        clear TR DR3
        clear W0 HN3 HO HM HG HK hk2 hn2
        have z5 := D9.out.gx.free 5
        have X5 := D9.out.put R9.out S9.out
        have D10 := Lib.hid X5.1
        have S10 := Lib.hid X5.2
        obtain ⟨b0, b1, b2, b3, b4, b5⟩ := D9.out.gx.six
        obtain ⟨q10, hq⟩ : ∃ q10 : Pg, q10 = { (p : Pg) with rows := A ++ B } := ⟨_, rfl⟩
        rw [← hq] at D10
        have EQ := Lib.hid (EQ.out q10 hq)
        clear X5 b0 b1 b2 b3 b4 R9 S9 hq
        go_upto_region 29 with fail
        generalize World.setCell _ _ _ = w10 at *
        clear z5 b5 D9
        have z3 := D10.out.gx.free 3
        obtain ⟨b0, b1, b2, b3, b4, b5⟩ := D10.out.gx.six
        have D11 := Lib.hid (D10.out.lsn (pg_slice D10.out.gx.rows) lsn)
        have S11 := Lib.hid (str_set S10.out D10.out.gx.box 3 (.int .u64 (lsn : Int)))
        rw [EQ.out] at D11
        have KQ := Lib.hid (KP.out _ (done p o lsn) _ D11.out.gx.rows (by have := US.out; omega))
        unfold pgV at KQ
        clear b0 b1 b2 b4 b5 EQ S10
        go_upto_region 30 with fail
        generalize World.setCell w10 _ _ = w11 at *
        clear b3 z3 D10
        have EW := Lib.hid (show appE p o lsn = if mayP (done p o lsn) then 0 else 4 by unfold appE; rw [if_neg (by have := WR.out; omega)])
        obtain ⟨b0, b1, b2, b3, b4, b5⟩ := D11.out.gx.six
        cases hmq : mayP (done p o lsn)
        · rw [hmq] at KQ EW
          clear hmq
          go_wp2_with fail
          refine KQ.out.mono ?_
          rintro e w12 ⟨rfl, b12⟩
          have D12 := Lib.hid (D11.out.later b12)
          clear b12 b0 b1 b2 b3 b4 b5 KQ D11
          go_upto_region 31 with fail
          go_wp2_with (refine wpList_store_row rfl 45 (.tmp 6) (.tmp 174) rfl r zeroP rfl rfl 45 zeroP D12.out.rb info_page rfl Page.zero_one ?_)
          exact bodyPost_ret (v := .tuple #[.agg zeroP, .int .i64 4]) (results_page Try.results22 _ _ r zeroP 4 rfl rfl (setRow_heap _ _ _ _ _ _ D12.out.rb) info_page) rfl (ER.out 4 _ EW.out (by decide) (D12.out.fin _))
        · rw [hmq] at KQ EW
          clear hmq
          go_wp2_with fail
          refine KQ.out.mono ?_
          rintro e w12 ⟨rfl, b12⟩
          have D12 := Lib.hid (D11.out.later b12)
          have S12 := Lib.hid (S11.out.later b12)
          clear b12 b0 b1 b2 b3 b4 b5 KQ D11
          obtain ⟨b0, b1, b2, b3, b4, b5⟩ := D12.out.gx.six
          go_upto_region 32 with fail
          go_wp2_with (refine wpList_store_row rfl 45 (.tmp 6) (.tmp 175) rfl r (pgC (done p o lsn) (.slice aR nR cR)) rfl rfl 45 zeroP D12.out.rb info_page rfl (pgC_one' _ _ _ _) ?_)
          exact bodyPost_ret (v := .tuple #[.agg (pgC (done p o lsn) (.slice aR nR cR)), .int .i64 0]) (results_page Try.results22 _ _ r (pgC (done p o lsn) (.slice aR nR cR)) 0 rfl rfl (setRow_heap _ _ _ _ _ _ D12.out.rb) info_page) rfl (OK.out _ _ EW.out (rows_setRow D12.out.gx.rows D12.out.rb _) (str_setRow S12.out D12.out.rb _) (D12.out.fin _))
      · skip
        have EQ := Lib.hid (show ∀ q10 : Pg, q10 = { (p : Pg) with rows := p.rows.take k } → ({ q10 with lsn := lsn } : Pg) = done p o lsn by rintro _ rfl; rw [done_is HK.out, kd]; all_goals rfl)
        have WR := Lib.hid (show wrong p o = 0 by rw [W0.out, if_neg (fun hx => by have := hx.1; omega)])
        have hkn : k ≤ n := by have := HN3.out; omega
        obtain ⟨y, sl, r9, s9⟩ := tx_head T7.out (k := k) (by rw [← HN.out]; exact hkn)
        obtain ⟨ay, cy, hy, _⟩ := id r9
        obtain ⟨ny, hny⟩ : ∃ ny, ny = (p.rows.take k).length := ⟨_, rfl⟩
        rw [← hny] at hy
        subst hy
        clear hny
        have R9 := Lib.hid r9
        have S9 := Lib.hid s9
        have D9 := D7
        clear r9 s9
        go_upto_region 28 with fail
        clear x0 x1 x2 x3 x4 x5 y0 y1 y2 y3 y4 y5 y6 y7 y8 kd
        clear D7 T7 sl hkn
        clear W0 HN3 HO HM HG HK hk2 hn2
        have z5 := D9.out.gx.free 5
        have X5 := D9.out.put R9.out S9.out
        have D10 := Lib.hid X5.1
        have S10 := Lib.hid X5.2
        obtain ⟨b0, b1, b2, b3, b4, b5⟩ := D9.out.gx.six
        obtain ⟨q10, hq⟩ : ∃ q10 : Pg, q10 = { (p : Pg) with rows := p.rows.take k } := ⟨_, rfl⟩
        rw [← hq] at D10
        have EQ := Lib.hid (EQ.out q10 hq)
        clear X5 b0 b1 b2 b3 b4 R9 S9 hq
        go_upto_region 29 with fail
        generalize World.setCell _ _ _ = w10 at *
        clear z5 b5 D9
        have z3 := D10.out.gx.free 3
        obtain ⟨b0, b1, b2, b3, b4, b5⟩ := D10.out.gx.six
        have D11 := Lib.hid (D10.out.lsn (pg_slice D10.out.gx.rows) lsn)
        have S11 := Lib.hid (str_set S10.out D10.out.gx.box 3 (.int .u64 (lsn : Int)))
        rw [EQ.out] at D11
        have KQ := Lib.hid (KP.out _ (done p o lsn) _ D11.out.gx.rows (by have := US.out; omega))
        unfold pgV at KQ
        clear b0 b1 b2 b4 b5 EQ S10
        go_upto_region 30 with fail
        generalize World.setCell w10 _ _ = w11 at *
        clear b3 z3 D10
        have EW := Lib.hid (show appE p o lsn = if mayP (done p o lsn) then 0 else 4 by unfold appE; rw [if_neg (by have := WR.out; omega)])
        obtain ⟨b0, b1, b2, b3, b4, b5⟩ := D11.out.gx.six
        cases hmq : mayP (done p o lsn)
        · rw [hmq] at KQ EW
          clear hmq
          go_wp2_with fail
          refine KQ.out.mono ?_
          rintro e w12 ⟨rfl, b12⟩
          have D12 := Lib.hid (D11.out.later b12)
          clear b12 b0 b1 b2 b3 b4 b5 KQ D11
          go_upto_region 31 with fail
          go_wp2_with (refine wpList_store_row rfl 45 (.tmp 6) (.tmp 174) rfl r zeroP rfl rfl 45 zeroP D12.out.rb info_page rfl Page.zero_one ?_)
          exact bodyPost_ret (v := .tuple #[.agg zeroP, .int .i64 4]) (results_page Try.results22 _ _ r zeroP 4 rfl rfl (setRow_heap _ _ _ _ _ _ D12.out.rb) info_page) rfl (ER.out 4 _ EW.out (by decide) (D12.out.fin _))
        · rw [hmq] at KQ EW
          clear hmq
          go_wp2_with fail
          refine KQ.out.mono ?_
          rintro e w12 ⟨rfl, b12⟩
          have D12 := Lib.hid (D11.out.later b12)
          have S12 := Lib.hid (S11.out.later b12)
          clear b12 b0 b1 b2 b3 b4 b5 KQ D11
          obtain ⟨b0, b1, b2, b3, b4, b5⟩ := D12.out.gx.six
          go_upto_region 32 with fail
          go_wp2_with (refine wpList_store_row rfl 45 (.tmp 6) (.tmp 175) rfl r (pgC (done p o lsn) (.slice ay ny cy)) rfl rfl 45 zeroP D12.out.rb info_page rfl (pgC_one' _ _ _ _) ?_)
          exact bodyPost_ret (v := .tuple #[.agg (pgC (done p o lsn) (.slice ay ny cy)), .int .i64 0]) (results_page Try.results22 _ _ r (pgC (done p o lsn) (.slice ay ny cy)) 0 rfl rfl (setRow_heap _ _ _ _ _ _ D12.out.rb) info_page) rfl (OK.out _ _ EW.out (rows_setRow D12.out.gx.rows D12.out.rb _) (str_setRow S12.out D12.out.rb _) (D12.out.fin _))
      · skip
        have EQ := Lib.hid (show ∀ q10 : Pg, q10 = { (p : Pg) with rows := p.rows ++ o.rows } → ({ q10 with lsn := lsn } : Pg) = done p o lsn by rintro _ rfl; rw [done_is HK.out, kd]; all_goals rfl)
        have WR := Lib.hid (show wrong p o = 0 by rw [W0.out, if_neg (fun hx => by have := hx.1; omega)])
        have RU := Lib.hid (is_rows2 ((HO.out.later D7.out.below).rows))
        have NU := Lib.hid (nilok_is (HO.out.later D7.out.below).rows)
        have LU := Lib.hid (show p.rows.length + o.rows.length ≤ 1000000 by rw [← HN.out]; have := HM.out.rl; omega)
        go_upto_region 28 with (refine Page.wpList_app_in (W0 := w) (l := p.rows) (news := o.rows) rfl _ _ rfl T7.out RU.out NU.out LU.out rfl rfl ?_; intro v9 w9 t9 g9)
        have D9 := Lib.hid (D7.out.grown HP.out T7.out g9)
        obtain ⟨a9, c9, hv9⟩ := t9.shape
        obtain ⟨n9, hn9⟩ : ∃ n9, n9 = (p.rows ++ o.rows).length := ⟨_, rfl⟩
        rw [← hn9] at hv9
        subst hv9
        clear hn9
        have R9 := Lib.hid (Page.rows_tx t9)
        have S9 := Lib.hid (tx_str t9)
        clear x0 x1 x2 x3 x4 x5 y0 y1 y2 y3 y4 y5 y6 y7 y8 kd
        clear D7 T7 t9 g9 RU NU LU
        clear W0 HN3 HO HM HG HK hk2 hn2
        have z5 := D9.out.gx.free 5
        have X5 := D9.out.put R9.out S9.out
        have D10 := Lib.hid X5.1
        have S10 := Lib.hid X5.2
        obtain ⟨b0, b1, b2, b3, b4, b5⟩ := D9.out.gx.six
        obtain ⟨q10, hq⟩ : ∃ q10 : Pg, q10 = { (p : Pg) with rows := p.rows ++ o.rows } := ⟨_, rfl⟩
        rw [← hq] at D10
        have EQ := Lib.hid (EQ.out q10 hq)
        clear X5 b0 b1 b2 b3 b4 R9 S9 hq
        go_upto_region 29 with fail
        generalize World.setCell _ _ _ = w10 at *
        clear z5 b5 D9
        have z3 := D10.out.gx.free 3
        obtain ⟨b0, b1, b2, b3, b4, b5⟩ := D10.out.gx.six
        have D11 := Lib.hid (D10.out.lsn (pg_slice D10.out.gx.rows) lsn)
        have S11 := Lib.hid (str_set S10.out D10.out.gx.box 3 (.int .u64 (lsn : Int)))
        rw [EQ.out] at D11
        have KQ := Lib.hid (KP.out _ (done p o lsn) _ D11.out.gx.rows (by have := US.out; omega))
        unfold pgV at KQ
        clear b0 b1 b2 b4 b5 EQ S10
        go_upto_region 30 with fail
        generalize World.setCell w10 _ _ = w11 at *
        clear b3 z3 D10
        have EW := Lib.hid (show appE p o lsn = if mayP (done p o lsn) then 0 else 4 by unfold appE; rw [if_neg (by have := WR.out; omega)])
        obtain ⟨b0, b1, b2, b3, b4, b5⟩ := D11.out.gx.six
        cases hmq : mayP (done p o lsn)
        · rw [hmq] at KQ EW
          clear hmq
          go_wp2_with fail
          refine KQ.out.mono ?_
          rintro e w12 ⟨rfl, b12⟩
          have D12 := Lib.hid (D11.out.later b12)
          clear b12 b0 b1 b2 b3 b4 b5 KQ D11
          go_upto_region 31 with fail
          go_wp2_with (refine wpList_store_row rfl 45 (.tmp 6) (.tmp 174) rfl r zeroP rfl rfl 45 zeroP D12.out.rb info_page rfl Page.zero_one ?_)
          exact bodyPost_ret (v := .tuple #[.agg zeroP, .int .i64 4]) (results_page Try.results22 _ _ r zeroP 4 rfl rfl (setRow_heap _ _ _ _ _ _ D12.out.rb) info_page) rfl (ER.out 4 _ EW.out (by decide) (D12.out.fin _))
        · rw [hmq] at KQ EW
          clear hmq
          go_wp2_with fail
          refine KQ.out.mono ?_
          rintro e w12 ⟨rfl, b12⟩
          have D12 := Lib.hid (D11.out.later b12)
          have S12 := Lib.hid (S11.out.later b12)
          clear b12 b0 b1 b2 b3 b4 b5 KQ D11
          obtain ⟨b0, b1, b2, b3, b4, b5⟩ := D12.out.gx.six
          go_upto_region 32 with fail
          go_wp2_with (refine wpList_store_row rfl 45 (.tmp 6) (.tmp 175) rfl r (pgC (done p o lsn) (.slice a9 n9 c9)) rfl rfl 45 zeroP D12.out.rb info_page rfl (pgC_one' _ _ _ _) ?_)
          exact bodyPost_ret (v := .tuple #[.agg (pgC (done p o lsn) (.slice a9 n9 c9)), .int .i64 0]) (results_page Try.results22 _ _ r (pgC (done p o lsn) (.slice a9 n9 c9)) 0 rfl rfl (setRow_heap _ _ _ _ _ _ D12.out.rb) info_page) rfl (OK.out _ _ EW.out (rows_setRow D12.out.gx.rows D12.out.rb _) (str_setRow S12.out D12.out.rb _) (D12.out.fin _))
      · skip
        have EQ := Lib.hid (show ∀ q10 : Pg, q10 = { ({ p with next := o.next } : Pg) with rows := p.rows } → ({ q10 with lsn := lsn } : Pg) = done p o lsn by rintro _ rfl; rw [done_is HK.out, kd]; all_goals rfl)
        have WR := Lib.hid (show wrong p o = 0 by rw [W0.out, if_neg (fun hx => by have := hx.1; omega)])
        have z4 := D7.out.gx.free 4
        have D9 := Lib.hid (D7.out.turn (touch_set (Below.refl _ _) 4 _) (D7.out.gx.next (pg_slice D7.out.gx.rows) o.next))
        have t9 := tx_box T7.out D7.out.gx.box 4 (.int .u32 (o.next : Int))
        have R9 := Lib.hid (Page.rows_tx t9)
        have S9 := Lib.hid (tx_str t9)
        clear t9
        go_upto_region 28 with fail
        clear x0 x1 x2 x3 x4 x5 y0 y1 y2 y3 y4 y5 y6 y7 y8 kd
        clear D7 T7 z4
        generalize World.setCell _ _ _ = w9 at *
        clear W0 HN3 HO HM HG HK hk2 hn2
        have z5 := D9.out.gx.free 5
        have X5 := D9.out.put R9.out S9.out
        have D10 := Lib.hid X5.1
        have S10 := Lib.hid X5.2
        obtain ⟨b0, b1, b2, b3, b4, b5⟩ := D9.out.gx.six
        obtain ⟨q10, hq⟩ : ∃ q10 : Pg, q10 = { ({ p with next := o.next } : Pg) with rows := p.rows } := ⟨_, rfl⟩
        rw [← hq] at D10
        have EQ := Lib.hid (EQ.out q10 hq)
        clear X5 b0 b1 b2 b3 b4 R9 S9 hq
        go_upto_region 29 with fail
        generalize World.setCell _ _ _ = w10 at *
        clear z5 b5 D9
        have z3 := D10.out.gx.free 3
        obtain ⟨b0, b1, b2, b3, b4, b5⟩ := D10.out.gx.six
        have D11 := Lib.hid (D10.out.lsn (pg_slice D10.out.gx.rows) lsn)
        have S11 := Lib.hid (str_set S10.out D10.out.gx.box 3 (.int .u64 (lsn : Int)))
        rw [EQ.out] at D11
        have KQ := Lib.hid (KP.out _ (done p o lsn) _ D11.out.gx.rows (by have := US.out; omega))
        unfold pgV at KQ
        clear b0 b1 b2 b4 b5 EQ S10
        go_upto_region 30 with fail
        generalize World.setCell w10 _ _ = w11 at *
        clear b3 z3 D10
        have EW := Lib.hid (show appE p o lsn = if mayP (done p o lsn) then 0 else 4 by unfold appE; rw [if_neg (by have := WR.out; omega)])
        obtain ⟨b0, b1, b2, b3, b4, b5⟩ := D11.out.gx.six
        cases hmq : mayP (done p o lsn)
        · rw [hmq] at KQ EW
          clear hmq
          go_wp2_with fail
          refine KQ.out.mono ?_
          rintro e w12 ⟨rfl, b12⟩
          have D12 := Lib.hid (D11.out.later b12)
          clear b12 b0 b1 b2 b3 b4 b5 KQ D11
          go_upto_region 31 with fail
          go_wp2_with (refine wpList_store_row rfl 45 (.tmp 6) (.tmp 174) rfl r zeroP rfl rfl 45 zeroP D12.out.rb info_page rfl Page.zero_one ?_)
          exact bodyPost_ret (v := .tuple #[.agg zeroP, .int .i64 4]) (results_page Try.results22 _ _ r zeroP 4 rfl rfl (setRow_heap _ _ _ _ _ _ D12.out.rb) info_page) rfl (ER.out 4 _ EW.out (by decide) (D12.out.fin _))
        · rw [hmq] at KQ EW
          clear hmq
          go_wp2_with fail
          refine KQ.out.mono ?_
          rintro e w12 ⟨rfl, b12⟩
          have D12 := Lib.hid (D11.out.later b12)
          have S12 := Lib.hid (S11.out.later b12)
          clear b12 b0 b1 b2 b3 b4 b5 KQ D11
          obtain ⟨b0, b1, b2, b3, b4, b5⟩ := D12.out.gx.six
          go_upto_region 32 with fail
          go_wp2_with (refine wpList_store_row rfl 45 (.tmp 6) (.tmp 175) rfl r (pgC (done p o lsn) (.slice a7 n c7)) rfl rfl 45 zeroP D12.out.rb info_page rfl (pgC_one' _ _ _ _) ?_)
          exact bodyPost_ret (v := .tuple #[.agg (pgC (done p o lsn) (.slice a7 n c7)), .int .i64 0]) (results_page Try.results22 _ _ r (pgC (done p o lsn) (.slice a7 n c7)) 0 rfl rfl (setRow_heap _ _ _ _ _ _ D12.out.rb) info_page) rfl (OK.out _ _ EW.out (rows_setRow D12.out.gx.rows D12.out.rb _) (str_setRow S12.out D12.out.rb _) (D12.out.fin _))
      · skip
        have hkn : k < n := by have := HN3.out; omega
        have hsz : (nth p.rows k).size ≤ 1000000 := by have := Page.nth_size (show k < p.rows.length by rw [← HN.out]; exact hkn); have := HU.out; omega
        have hlen : p.rows.length = n := HN.out.symm
        obtain ⟨b9, hb9, e1, e2, t9, g9⟩ := (show Slot.Tx w w7 (.slice a7 p.rows.length c7) p.rows by rw [hlen]; exact T7.out).store (by rw [hlen]; exact hkn) o.text
        subst hb9
        clear e2 t9 g9
        have i1 : (0 : Int) ≤ (k : Int) := by omega
        have i2 : (k : Int) < (n : Int) := by omega
        have o0 := HM.out.o0
        have o1 := HM.out.o1
        obtain ⟨s, hs⟩ : ∃ s, s = nth p.rows k := ⟨_, rfl⟩
        have e1 : w7.cell? ⟨b9, k, none⟩ = some (.string s) := by rw [hs]; exact e1
        have HS := Lib.hid hs
        rw [← hs] at hsz W0
        clear hs
        have KT := Lib.hid (fun W => rpatched_any s o.off o.text W (by omega) (by have := HM.out.tt; omega) (by omega))
        obtain ⟨ps, hps⟩ : ∃ x, x = (if 0 ≤ o.off ∧ o.off + o.text.size ≤ s.size then patch s o.off.toNat o.text else ⟨#[]⟩) := ⟨_, rfl⟩
        obtain ⟨pb, hpb⟩ : ∃ x, x = decide (0 ≤ o.off ∧ o.off + o.text.size ≤ s.size) := ⟨_, rfl⟩
        rw [← hps, ← hpb] at KT
        have HPS := Lib.hid hps
        have HPB := Lib.hid hpb
        have KD := Lib.hid kd
        have O0 := Lib.hid o0
        clear hps hpb hsz hlen kd o0 o1
        go_upto_region 24 with fail
        clear x0 x1 x2 x3 x4 x5 y0 y1 y2 y3 y4 y5 y6 y7 y8
        have D8 := Lib.hid (D7.out.later (Below.refl _ _).drew)
        have T8 := Lib.hid (T7.out.later (Below.refl _ _).drew)
        have E1 := Lib.hid (show w7.drew.cell? ⟨b9, k, none⟩ = some (.string s) from e1)
        generalize hw8 : w7.drew = w8 at *
        refine wp_region_noPanic ?_
        refine wp_region_held_drew (S := (fun W => W.cell? ⟨h, 2, none⟩ = some (.int .i64 (k : Int)) ∧ W.cell? ⟨h, 3, none⟩ = some (.int .i64 o.off) ∧ W.cell? ⟨h, 4, none⟩ = some (.string o.text) ∧ W.cell? ⟨b9, k, none⟩ = some (.string s))) (by kernel_rfl) (by rw [hw8]; exact ⟨by rw [D8.out.onine.2.2.1, HK.out], D8.out.onine.2.2.2.1, D8.out.onine.2.2.2.2.1, E1.out⟩) (fun hHeld => ?_)
        rw [hw8] at hHeld ⊢
        clear hw8 D7 T7 e1
        refine wpAnyH_take (i := 0) (v := ?_) rfl (by kernel_rfl) (by kernel_rfl) (by kernel_rfl) (fun _ _ _ h => h) (Or.inl ⟨by rfl, ?_⟩) hHeld ?_
        rotate_left
        · (intro W hSw; (try dsimp only at hSw); go_simp; (try with_reducible rfl))
        simp only [List.getElem_toArray, List.getElem_cons_zero, Act.put, List.setIfInBounds_toArray, List.set_cons_zero, List.set_cons_succ]
        refine wpAnyH_take (i := 1) (v := ?_) rfl (by kernel_rfl) (by kernel_rfl) (by kernel_rfl) (fun _ _ _ h => h) (Or.inl ⟨by rfl, ?_⟩) hHeld ?_
        rotate_left
        · (intro W hSw; (try dsimp only at hSw); go_simp; (try with_reducible rfl))
        simp only [List.getElem_toArray, List.getElem_cons_succ, List.getElem_cons_zero, Act.put, List.setIfInBounds_toArray, List.set_cons_zero, List.set_cons_succ]
        refine wpAnyH_take (i := 2) (v := ?_) rfl (by kernel_rfl) (by kernel_rfl) (by kernel_rfl) (fun _ _ _ h => h) (Or.inl ⟨by rfl, ?_⟩) hHeld ?_
        rotate_left
        · (intro W hSw; (try dsimp only at hSw); go_simp; (try with_reducible rfl))
        simp only [List.getElem_toArray, List.getElem_cons_succ, List.getElem_cons_zero, Act.put, List.setIfInBounds_toArray, List.set_cons_zero, List.set_cons_succ]
        refine wpAnyH_take (i := 3) (v := ?_) rfl (by kernel_rfl) (by kernel_rfl) (by kernel_rfl) (fun _ _ _ h => h) (Or.inl ⟨by rfl, ?_⟩) hHeld ?_
        rotate_left
        · (intro W hSw; (try dsimp only at hSw); go_simp; (try with_reducible rfl))
        simp only [List.getElem_toArray, List.getElem_cons_succ, List.getElem_cons_zero, Act.put, List.setIfInBounds_toArray, List.set_cons_zero, List.set_cons_succ]
        refine wpAnyH_take (i := 4) (v := ?_) rfl (by kernel_rfl) (by kernel_rfl) (by kernel_rfl) (fun _ _ _ h => h) (Or.inl ⟨by rfl, ?_⟩) hHeld ?_
        rotate_left
        · (intro W hSw; (try dsimp only at hSw); go_simp; (try with_reducible rfl))
        simp only [List.getElem_toArray, List.getElem_cons_succ, List.getElem_cons_zero, Act.put, List.setIfInBounds_toArray, List.set_cons_zero, List.set_cons_succ]
        refine wpAnyH_take (i := 5) (v := ?_) rfl (by kernel_rfl) (by kernel_rfl) (by kernel_rfl) (fun _ _ _ h => h) (Or.inl ⟨by rfl, ?_⟩) hHeld ?_
        rotate_left
        · (intro W hSw; (try dsimp only at hSw); go_simp; (try with_reducible rfl))
        simp only [List.getElem_toArray, List.getElem_cons_succ, List.getElem_cons_zero, Act.put, List.setIfInBounds_toArray, List.set_cons_zero, List.set_cons_succ]
        refine wpAnyH_take (i := 6) (v := ?_) rfl (by kernel_rfl) (by kernel_rfl) (by kernel_rfl) (fun _ _ _ h => h) (Or.inl ⟨by rfl, ?_⟩) hHeld ?_
        rotate_left
        · (intro W hSw; (try dsimp only at hSw); go_simp; (try with_reducible rfl))
        simp only [List.getElem_toArray, List.getElem_cons_succ, List.getElem_cons_zero, Act.put, List.setIfInBounds_toArray, List.set_cons_zero, List.set_cons_succ]
        refine wpAnyH_take (i := 7) (v := ?_) rfl (by kernel_rfl) (by kernel_rfl) (by kernel_rfl) (fun _ _ _ h => h) (Or.inl ⟨by rfl, ?_⟩) hHeld ?_
        rotate_left
        · (intro W hSw; (try dsimp only at hSw); go_simp; (try with_reducible rfl))
        simp only [List.getElem_toArray, List.getElem_cons_succ, List.getElem_cons_zero, Act.put, List.setIfInBounds_toArray, List.set_cons_zero, List.set_cons_succ]
        refine wpAnyH_take (i := 8) (v := ?_) rfl (by kernel_rfl) (by kernel_rfl) (by kernel_rfl) (fun _ _ _ h => h) (Or.inl ⟨by rfl, ?_⟩) hHeld ?_
        rotate_left
        · (intro W hSw; (try dsimp only at hSw); go_simp; (try with_reducible rfl))
        simp only [List.getElem_toArray, List.getElem_cons_succ, List.getElem_cons_zero, Act.put, List.setIfInBounds_toArray, List.set_cons_zero, List.set_cons_succ]
        refine wpAnyH_ready (rs := [9]) (by kernel_rfl) (by simp) (AllReadyH.cons rfl (fun K hK => ?_) AllReadyH.nil)
        refine step_fn (by rfl) (.func 44) [.tmp 151, .tmp 153, .tmp 155] _ rfl 44 [] (by simp [Act.eval]) _ Try.func44 (by kernel_rfl) (by kernel_rfl) (KT.out _) (by rfl) ?_
        rintro e w10 ⟨rfl, b10⟩
        refine ⟨_, rfl, ?_⟩
        have D9 := Lib.hid (D8.out.later b10)
        have T9 := Lib.hid (T8.out.later b10)
        refine hK.out _ _ ⟨by rw [D9.out.onine.2.2.1, HK.out], D9.out.onine.2.2.2.1, D9.out.onine.2.2.2.2.1, (World.cell?_of_block (a := ⟨b9, k, none⟩) (b10.block b9 (T8.out.lt b9 rfl))).trans E1.out⟩ (fun hHeld => ?_)
        clear hK K b10 KT E1 T8 D8
        simp only [List.getElem_toArray, List.getElem_cons_succ, List.getElem_cons_zero, Act.put, List.setIfInBounds_toArray, List.set_cons_zero, List.set_cons_succ]
        refine wpAnyH_take (i := 10) (v := ?_) rfl (by kernel_rfl) (by kernel_rfl) (by kernel_rfl) (fun _ _ _ h => h) (Or.inl ⟨by rfl, ?_⟩) hHeld ?_
        rotate_left
        · (intro W hSw; (try dsimp only at hSw); go_simp; (try with_reducible rfl))
        simp only [List.getElem_toArray, List.getElem_cons_succ, List.getElem_cons_zero, Act.put, List.setIfInBounds_toArray, List.set_cons_zero, List.set_cons_succ]
        refine wpAnyH_take (i := 11) (v := ?_) rfl (by kernel_rfl) (by kernel_rfl) (by kernel_rfl) (fun _ _ _ h => h) (Or.inl ⟨by rfl, ?_⟩) hHeld ?_
        rotate_left
        · (intro W hSw; (try dsimp only at hSw); go_simp; (try with_reducible rfl))
        simp only [List.getElem_toArray, List.getElem_cons_succ, List.getElem_cons_zero, Act.put, List.setIfInBounds_toArray, List.set_cons_zero, List.set_cons_succ]
        refine wpAnyH_take (i := 12) (v := ?_) rfl (by kernel_rfl) (by kernel_rfl) (by kernel_rfl) (fun _ _ _ h => h) (Or.inl ⟨by rfl, ?_⟩) hHeld ?_
        rotate_left
        · (intro W hSw; (try dsimp only at hSw); go_simp; (try with_reducible rfl))
        simp only [List.getElem_toArray, List.getElem_cons_succ, List.getElem_cons_zero, Act.put, List.setIfInBounds_toArray, List.set_cons_zero, List.set_cons_succ]
        refine wpAnyH_take (i := 13) (v := ?_) rfl (by kernel_rfl) (by kernel_rfl) (by kernel_rfl) (fun _ _ _ h => h) (Or.inl ⟨by rfl, ?_⟩) hHeld ?_
        rotate_left
        · (intro W hSw; (try dsimp only at hSw); go_simp; (try with_reducible rfl))
        simp only [List.getElem_toArray, List.getElem_cons_succ, List.getElem_cons_zero, Act.put, List.setIfInBounds_toArray, List.set_cons_zero, List.set_cons_succ]
        refine wpAnyH_take (i := 14) (v := ?_) rfl (by kernel_rfl) (by kernel_rfl) (by kernel_rfl) (fun _ _ _ h => h) (Or.inl ⟨by rfl, ?_⟩) hHeld ?_
        rotate_left
        · (intro W hSw; (try dsimp only at hSw); go_simp; (try with_reducible rfl))
        simp only [List.getElem_toArray, List.getElem_cons_succ, List.getElem_cons_zero, Act.put, List.setIfInBounds_toArray, List.set_cons_zero, List.set_cons_succ]
        refine wpAnyH_done (by kernel_rfl) ?_ _
        refine NoPanic.normal ?_
        clear hHeld
        cases pb
        · have EW := Lib.hid (show appE p o lsn = 2 from by
            have hno := of_decide_eq_false HPB.out.symm
            have : wrong p o = 2 := by
              rw [W0.out, if_pos ⟨KD.out, by have := O0.out; omega⟩]
            unfold appE
            rw [this, if_pos (by decide)])
          clear W0 HPB HPS i1 i2 T9
          go_upto_region 26 with fail
          go_wp2_with (refine wpList_store_row rfl 45 (.tmp 6) (.tmp 161) rfl r zeroP rfl rfl 45 zeroP D9.out.rb info_page rfl Page.zero_one ?_)
          exact bodyPost_ret (v := .tuple #[.agg zeroP, .int .i64 2]) (results_page Try.results22 _ _ r zeroP 2 rfl rfl (setRow_heap _ _ _ _ _ _ D9.out.rb) info_page) rfl (ER.out 2 _ EW.out (by decide) (D9.out.fin _))
        · have hyes := of_decide_eq_true HPB.out.symm
          have WR := Lib.hid (show wrong p o = 0 by rw [W0.out, if_neg (fun hx => by have := hx.2; have := O0.out; omega)])
          have EP := Lib.hid (show ps = patch s o.off.toNat o.text by rw [HPS.out, if_pos hyes])
          have EQ := Lib.hid (show ∀ q10 : Pg, q10 = { (p : Pg) with rows := p.rows.set k ps } → ({ q10 with lsn := lsn } : Pg) = done p o lsn by rintro _ rfl; rw [done_is HK.out, KD.out, EP.out, HS.out]; all_goals rfl)
          obtain ⟨b10, hb10, e1, e2, t9, g9⟩ := (show Slot.Tx w w10 (.slice (some ⟨b9, 0, none⟩) p.rows.length c7) p.rows by rw [← HN.out]; exact T9.out).store (by rw [← HN.out]; exact hkn) ps
          simp only [Option.some.injEq, Addr.mk.injEq, and_true] at hb10
          subst hb10
          have D10 := Lib.hid (D9.out.grown HP.out T9.out g9)
          rw [← HN.out] at t9
          have T10 := Lib.hid t9
          clear t9 g9 hyes EP HPS HPB KD O0
          obtain ⟨y0, y1, y2, y3, y4, y5, y6, y7, y8⟩ := D9.out.onine
          rw [HK.out] at y2
          go_upto_region 28 with fail
          have D9 := D10
          have R9 := Lib.hid (Page.rows_tx T10.out)
          have S9 := Lib.hid (tx_str T10.out)
          clear T9 T10 e1 e2 hkn i1 i2 y0 y1 y2 y3 y4 y5 y6 y7 y8 D10
          generalize World.setCell _ _ _ = w9 at *
          clear W0 HN3 HO HM HG HK hk2 hn2
          have z5 := D9.out.gx.free 5
          have X5 := D9.out.put R9.out S9.out
          have D10 := Lib.hid X5.1
          have S10 := Lib.hid X5.2
          obtain ⟨b0, b1, b2, b3, b4, b5⟩ := D9.out.gx.six
          obtain ⟨q10, hq⟩ : ∃ q10 : Pg, q10 = { (p : Pg) with rows := p.rows.set k ps } := ⟨_, rfl⟩
          rw [← hq] at D10
          have EQ := Lib.hid (EQ.out q10 hq)
          clear X5 b0 b1 b2 b3 b4 R9 S9 hq
          go_upto_region 29 with fail
          generalize World.setCell _ _ _ = w10 at *
          clear z5 b5 D9
          have z3 := D10.out.gx.free 3
          obtain ⟨b0, b1, b2, b3, b4, b5⟩ := D10.out.gx.six
          have D11 := Lib.hid (D10.out.lsn (pg_slice D10.out.gx.rows) lsn)
          have S11 := Lib.hid (str_set S10.out D10.out.gx.box 3 (.int .u64 (lsn : Int)))
          rw [EQ.out] at D11
          have KQ := Lib.hid (KP.out _ (done p o lsn) _ D11.out.gx.rows (by have := US.out; omega))
          unfold pgV at KQ
          clear b0 b1 b2 b4 b5 EQ S10
          go_upto_region 30 with fail
          generalize World.setCell w10 _ _ = w11 at *
          clear b3 z3 D10
          have EW := Lib.hid (show appE p o lsn = if mayP (done p o lsn) then 0 else 4 by unfold appE; rw [if_neg (by have := WR.out; omega)])
          obtain ⟨b0, b1, b2, b3, b4, b5⟩ := D11.out.gx.six
          cases hmq : mayP (done p o lsn)
          · rw [hmq] at KQ EW
            clear hmq
            go_wp2_with fail
            refine KQ.out.mono ?_
            rintro e w12 ⟨rfl, b12⟩
            have D12 := Lib.hid (D11.out.later b12)
            clear b12 b0 b1 b2 b3 b4 b5 KQ D11
            go_upto_region 31 with fail
            go_wp2_with (refine wpList_store_row rfl 45 (.tmp 6) (.tmp 174) rfl r zeroP rfl rfl 45 zeroP D12.out.rb info_page rfl Page.zero_one ?_)
            exact bodyPost_ret (v := .tuple #[.agg zeroP, .int .i64 4]) (results_page Try.results22 _ _ r zeroP 4 rfl rfl (setRow_heap _ _ _ _ _ _ D12.out.rb) info_page) rfl (ER.out 4 _ EW.out (by decide) (D12.out.fin _))
          · rw [hmq] at KQ EW
            clear hmq
            go_wp2_with fail
            refine KQ.out.mono ?_
            rintro e w12 ⟨rfl, b12⟩
            have D12 := Lib.hid (D11.out.later b12)
            have S12 := Lib.hid (S11.out.later b12)
            clear b12 b0 b1 b2 b3 b4 b5 KQ D11
            obtain ⟨b0, b1, b2, b3, b4, b5⟩ := D12.out.gx.six
            go_upto_region 32 with fail
            go_wp2_with (refine wpList_store_row rfl 45 (.tmp 6) (.tmp 175) rfl r (pgC (done p o lsn) (.slice (some ⟨b9, 0, none⟩) n c7)) rfl rfl 45 zeroP D12.out.rb info_page rfl (pgC_one' _ _ _ _) ?_)
            exact bodyPost_ret (v := .tuple #[.agg (pgC (done p o lsn) (.slice (some ⟨b9, 0, none⟩) n c7)), .int .i64 0]) (results_page Try.results22 _ _ r (pgC (done p o lsn) (.slice (some ⟨b9, 0, none⟩) n c7)) 0 rfl rfl (setRow_heap _ _ _ _ _ _ D12.out.rb) info_page) rfl (OK.out _ _ EW.out (rows_setRow D12.out.gx.rows D12.out.rb _) (str_setRow S12.out D12.out.rb _) (D12.out.fin _))

end Go.Proofs.Yticnbicnefnhbaa.Op
