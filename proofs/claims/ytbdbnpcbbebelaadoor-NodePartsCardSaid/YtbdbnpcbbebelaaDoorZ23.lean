/-
  Walks: what rows are split into, in the document.
-/
import Derived.Test.YtbdbnpcbbebelaaDoorZ18
namespace Go.Proofs.YtbdbnpcbbebelaaDoor.Node
open Go.RowKit
open Go.Proofs.YtbdbnpcbbebelaaDoor.Page (Pg nth used pgV pgC CapOk zeroP info_page results_page zero_one rows_head rows_tail Parts joinL NilOk)
open Go.Proofs.YtbdbnpcbbebelaaDoor.Key (between cmpOf)
attribute [local go_sem ↓] Go.wp_at_zero Go.wp_at_succ

theorem bst_keep2 {l : List ByteArray} {j : Nat} (h : fitB l (j + 1) = false ∨ (bst l j ≠ 0 ∧ ¬ dif l (j + 1) < dif l (bst l j))) : bst l (j + 1) = bst l j :=
  (bst_keep (h.imp id fun ⟨a, b⟩ => ⟨a, by unfold lst; rw [if_neg a]; exact b⟩)).1
theorem bst_set2 {l : List ByteArray} {j : Nat} (h : fitB l (j + 1) = true) (h2 : bst l j = 0 ∨ dif l (j + 1) < dif l (bst l j)) : bst l (j + 1) = j + 1 := by
  by_cases h0 : bst l j = 0
  · exact (bst_set h (.inl h0)).1
  · exact (bst_set h (.inr (by unfold lst; rw [if_neg h0]; exact h2.resolve_left h0))).1

set_option maxRecDepth 100000 in
set_option maxHeartbeats 8000000 in
theorem rsplit_any {w : World} {v : Value} (p : Pg) (x : Int) (t : ByteArray) (is : Bool) (h : Page.Rows w v p.rows) (hc : CapOk v) (hu : used p.rows ≤ 900000) (ht : t.size ≤ 90000) :
    Calls Tryd.prog 28 #[pgV p v, .int .i64 x, .string t, .bool is] w (SplPost (splA p x t is) (splB p x t is) (splS p x t is) (splE p x t is) w) := by
  have T0 := Lib.hid (Pb.start h)
  have K1 := Lib.hid (fun (W : World) (T : Pb w W w.heap.size p v) => rput_any p x t is T.rows hc hu ht)
  have PU := put_used2 p x t is hu ht
  have PF := Lib.hid (fun h0 => put_facts (p := p) (x := x) (t := t) (is := is) hu ht h0)
  have PKB := Lib.hid (fun h0 : putE p x t is = 0 => (show keysOf (putR p x t is) = putK p x t is by
    obtain ⟨_, _, hq, hr⟩ := put_node h0
    unfold putK
    rw [if_pos h0, hr]
    unfold keysOf
    rw [hq]
    rfl))
  have SB := Lib.hid (fun h0 => spl_bad (p := p) (x := x) (t := t) (is := is) h0)
  have eE : splE p x t is = if putE p x t is = 0 then (if cutN (putR p x t is).rows = 0 then 2 else 0) else putE p x t is := rfl
  have GOOD := Lib.hid (fun h0 : splE p x t is = 0 => (show splA p x t is = (putR p x t is).rows.take (cutN (putR p x t is).rows) ∧ splB p x t is = (putR p x t is).rows.drop (cutN (putR p x t is).rows) ∧ splS p x t is = (if p.kind = 1 then between (nth (keysL p.kind (putR p x t is).rows) (cutN (putR p x t is).rows - 1)) (nth (keysL p.kind (putR p x t is).rows) (cutN (putR p x t is).rows)) else nth (keysL p.kind (putR p x t is).rows) (cutN (putR p x t is).rows)) from ⟨if_pos h0, if_pos h0, if_pos h0⟩))
  have EE := Lib.hid eE
  clear eE
  generalize splE p x t is = se at *
  generalize splA p x t is = sA at *
  generalize splB p x t is = sB at *
  generalize splS p x t is = sS at *
  generalize putE p x t is = pe at *
  generalize putR p x t is = pr at *
  generalize putK p x t is = pk at *
  have U := Lib.hid PU
  obtain ⟨ad, c, rfl, _⟩ := id h
  clear h hc hu ht PU
  obtain ⟨n, hn⟩ : ∃ n, n = p.rows.length := ⟨_, rfl⟩
  rw [← hn] at T0 K1 ⊢
  clear hn
  obtain ⟨a0, a1, a2, a3, a4, a5⟩ := T0.out.six
  unfold pgV pgC at *
  have PKP := Lib.hid (show PgPost pr pe = fun w e w' => Below w.heap.size w w' ∧ ∃ v, e = .returned (.tuple #[pgV pr v, .int .i64 pe]) ∧ Page.Rows w' v pr.rows ∧ CapOk v from rfl)
  rw [PKP.out] at K1
  clear PKP
  go_enter Tryd.func28, Tryd.ntmps28
  go_wp2_with fail
  refine (K1.out _ T0.out).mono ?_
  rintro e w1 ⟨b1, v1, rfl, r1, c1⟩
  have B1 := Lib.hid (T0.out.later b1).below
  obtain ⟨ad1, cap1, hv1, _⟩ := id r1
  subst hv1
  have R1 := Lib.hid r1
  have C1 := Lib.hid c1
  clear b1 T0 a0 a1 a2 a3 a4 a5 K1 r1 c1
  obtain ⟨m, hm⟩ : ∃ m, m = pr.rows.length := ⟨_, rfl⟩
  rw [← hm] at R1 C1 ⊢
  have MM := Lib.hid hm
  clear hm
  unfold pgV
  go_upto_if 32 with fail
  have P2 := Lib.hid (show Pb w (w1.alloc (.cells (pgC pr (.slice ad1 m cap1)) 26)) w1.heap.size pr (.slice ad1 m cap1) from
    ⟨heap_alloc_new w1 _, R1.out.alloc _, B1.out.trans ((below_new w1 _).mono B1.out.size)⟩)
  have R2 := Lib.hid (R1.out.later (below_new w1 (.cells (pgC pr (.slice ad1 m cap1)) 26)))
  unfold pgC at P2 R2
  generalize w1.alloc _ = W2 at *
  obtain ⟨g, hg⟩ : ∃ g, g = w1.heap.size := ⟨_, rfl⟩
  rw [← hg] at P2 ⊢
  clear hg R1 B1
  by_cases he : pe = 0
  · obtain rfl := he
    obtain ⟨f1, f2, f3, f4, f5, f6⟩ := PF.out rfl
    rw [if_pos rfl] at EE
    have hkeys := PKB.out rfl
    have K2 := Lib.hid (fun (W : World) (P : Pb w W g pr (.slice ad1 m cap1)) => rkeys_any pr P.rows U.out)
    have HKP := Lib.hid (show ∀ w, KeysP pr w = fun e w' => ∃ u, e = .returned (.tuple #[u, .bool (keysB pr)]) ∧ Slot.Tx w w' u (keysOf pr) ∧ Below w.heap.size w w' from fun _ => rfl)
    have SL := Lib.hid (fun (k : Nat) (hk : k ≤ m) => (show ∃ x1 x2, (∀ W : World, (Instr.sliceAt 24 (.slice ad1 m cap1) none (some (.int .i64 (k : Int))) none).run Tryd.prog W = .ok x1 W) ∧ (∀ W : World, (Instr.sliceAt 24 (.slice ad1 m cap1) (some (.int .i64 (k : Int))) none none).run Tryd.prog W = .ok x2 W) ∧ Page.Rows W2 x1 (pr.rows.take k) ∧ Page.Rows W2 x2 (pr.rows.drop k) ∧ CapOk x1 ∧ CapOk x2 by
      have rr := R2.out
      have cc := C1.out
      rw [MM.out] at hk
      obtain ⟨x1, s1, r1, z1⟩ := rows_head rr cc hk
      obtain ⟨x2, s2, r2, z2⟩ := rows_tail rr cc hk
      exact ⟨x1, x2, s1, s2, r1, r2, z1, z2⟩))
    have WG := Lib.hid (fun (W : World) (t : Below W2.heap.size W2 W) (z : Value) (r : List ByteArray) (hr : Page.Rows W2 z r) (hu : used r ≤ 1000000) => (show Calls Tryd.prog 19 #[z] W fun e w' => e = .returned (.int .i64 (used r : Int)) ∧ w' = W from (rweight_any (hr.later t) hu).mono fun _ _ h => ⟨h.1, h.2.symm⟩))
    have F2 := Lib.hid f2
    have F3 := Lib.hid f3
    have F4 := Lib.hid f4
    have F5 := Lib.hid f5
    have F6 := Lib.hid f6
    have HK := Lib.hid hkeys
    have hcl := cut_lt (l := pr.rows)
    have NL := Lib.hid (show pr.rows.length ≤ 250000 by have := Page.used_len pr.rows; have := U.out; omega)
    have hm2 : m ≤ 250000 := by rw [MM.out]; exact NL.out
    have CL := Lib.hid hcl
    have CN := Lib.hid (show cutN pr.rows = bst pr.rows (m - 1) by unfold cutN; rw [MM.out])
    have UT := Lib.hid (fun k => used_drop_le pr.rows k)
    clear f1 f2 f3 f4 f5 f6 PF hcl hkeys PKB
    have B0 := Lib.hid (Below.refl W2.heap.size W2)
    simp only [show ((0 : Int) != 0) = false from rfl]
    go_wp2_with fail
    go_loopw [14, 15] (fun x y wr => ∃ j : Nat, (j + 1 ≤ m ∨ j = 0) ∧ x = .int .i64 (bst pr.rows j : Int) ∧ y = .int .i64 ((j : Int) + 1) ∧ Pb w wr g pr (.slice ad1 m cap1) ∧ Below W2.heap.size W2 wr) (fun _ y _ => m - (intOf y).toNat)
    case atStart => exact ⟨0, by omega, rfl, by go_num, P2.out, B0.out⟩
    case round =>
      obtain ⟨j, hj, rfl, rfl, hpb, hbe⟩ := hrel
      have HP := Lib.hid hpb
      have HB := Lib.hid hbe
      clear hpb hbe P2 B0
      have bl := bst_le pr.rows j
      have hdl : dif pr.rows (bst pr.rows j) ≤ 1000000 := by
        unfold dif
        have := U.out
        have := UT.out (bst pr.rows j)
        split <;> omega
      by_cases hlt : j + 1 < m
      · obtain ⟨x1, x2, s1, s2, r1, r2, _, _⟩ := SL.out (j + 1) (by omega)
        have KEEP := Lib.hid (fun (h : fitB pr.rows (j + 1) = false ∨ (bst pr.rows j ≠ 0 ∧ ¬ dif pr.rows (j + 1) < dif pr.rows (bst pr.rows j))) => bst_keep2 h)
        have SET := Lib.hid (fun (h : fitB pr.rows (j + 1) = true) (h2 : bst pr.rows j = 0 ∨ dif pr.rows (j + 1) < dif pr.rows (bst pr.rows j)) => bst_set2 h h2)
        have u1 := UT.out (j + 1)
        have FT := Lib.hid (show fitB pr.rows (j + 1) = (decide (used (pr.rows.take (j + 1)) ≤ 484) && decide (used (pr.rows.drop (j + 1)) ≤ 484)) from rfl)
        have KA := Lib.hid (fun (W : World) (b : Below W2.heap.size W2 W) => WG.out W b x1 _ r1 (by have := U.out; omega))
        have KB := Lib.hid (fun (W : World) (b : Below W2.heap.size W2 W) => WG.out W b x2 _ r2 (by have := U.out; omega))
        have hua : used (pr.rows.take (j + 1)) ≤ 1000000 := by have := U.out; omega
        have hub : used (pr.rows.drop (j + 1)) ≤ 1000000 := by have := U.out; omega
        have KP1 := Lib.hid (fun W => (show Calls Tryd.prog 53 #[.int .i64 (used (pr.rows.take (j + 1)) : Int), .int .i64 (used (pr.rows.drop (j + 1)) : Int)] W fun e w' => e = .returned (.int .i64 (dif pr.rows (j + 1) : Int)) ∧ w' = W from (rapart_any _ _ W hua hub).mono fun _ _ h => ⟨h.1, h.2.symm⟩))
        obtain ⟨y1, y2, s3, s4, r3, r4, _, _⟩ := SL.out (bst pr.rows j) (by omega)
        have u2 := UT.out (bst pr.rows j)
        have KC := Lib.hid (fun (W : World) (b : Below W2.heap.size W2 W) => WG.out W b y1 _ r3 (by have := U.out; omega))
        have KD := Lib.hid (fun (W : World) (b : Below W2.heap.size W2 W) => WG.out W b y2 _ r4 (by have := U.out; omega))
        have KP2 := Lib.hid (fun W => (show Calls Tryd.prog 53 #[.int .i64 (used (pr.rows.take (bst pr.rows j)) : Int), .int .i64 (used (pr.rows.drop (bst pr.rows j)) : Int)] W fun e w' => e = .returned (.int .i64 (dif pr.rows (bst pr.rows j) : Int)) ∧ w' = W from (rapart_any _ _ W (by have := U.out; omega) (by have := U.out; omega)).mono fun _ _ h => ⟨h.1, h.2.symm⟩))
        have hbn : bst pr.rows j ≤ 250000 := by omega
        have hdj : dif pr.rows (j + 1) ≤ 1000000 := by
          unfold dif
          have := U.out
          split <;> omega
        generalize dif pr.rows (j + 1) = dj at *
        generalize dif pr.rows (bst pr.rows j) = db at *
        generalize used (pr.rows.take (j + 1)) = ua at *
        generalize used (pr.rows.drop (j + 1)) = ub at *
        generalize used (pr.rows.take (bst pr.rows j)) = uc at *
        generalize used (pr.rows.drop (bst pr.rows j)) = ud at *
        obtain ⟨ad3, cc3, hx1, _⟩ := r1
        obtain ⟨ad4, cc4, hx2, _⟩ := r2
        obtain ⟨ad5, cc5, hx3, _⟩ := r3
        obtain ⟨ad6, cc6, hx4, _⟩ := r4
        subst hx1
        subst hx2
        subst hx3
        subst hx4
        generalize (pr.rows.take (j + 1)).length = m3 at *
        generalize (pr.rows.drop (j + 1)).length = m4 at *
        generalize (pr.rows.take (bst pr.rows j)).length = m5 at *
        generalize (pr.rows.drop (bst pr.rows j)).length = m6 at *
        have e1 : ((j + 1 : Nat) : Int) = (j : Int) + 1 := by omega
        rw [e1] at s1 s2
        generalize bst pr.rows j = bj at *
        have S3 := Lib.hid s3
        have S4 := Lib.hid s4
        obtain ⟨a0, a1, a2, a3, a4, a5⟩ := HP.out.six
        clear u1 u2 e1 WG SL s3 s4 K2 bl
        go_wp2_with fail
        go_quiet ((go_at_call 19; first | (with_reducible exact Calls.quiet_of_same (KA.out _ (Key.below_drewN' HB.out _))) | (with_reducible exact Calls.quiet_of_same (KB.out _ (Key.below_drewN' HB.out _)))))
        have HP3 := Lib.hid (HP.out.later (Key.below_drewN' (Below.refl wr.heap.size wr) nq))
        have HB3 := Lib.hid (Key.below_drewN' HB.out nq)
        generalize wr.drewN nq = W3 at *
        clear HP HB KA KB a0 a1 a2 a3 a4 a5 s1 s2
        by_cases h1 : ua ≤ 484
        · rw [decide_eq_true h1] at FT
          by_cases h2 : ub ≤ 484
          · rw [decide_eq_true h2] at FT
            have FIT := Lib.hid (show fitB pr.rows (j + 1) = true by rw [FT.out]; rfl)
            obtain ⟨a0, a1, a2, a3, a4, a5⟩ := HP3.out.six
            by_cases hb0 : bj = 0
            · have KK1 := Lib.hid (SET.out FIT.out (.inl hb0))
              subst hb0
              clear KEEP SET FT KC KD KP1 KP2
              go_wp2_with fail
              go_quiet (fail)
              have HP4 := Lib.hid (HP3.out.later (Key.below_drewN' (Below.refl W3.heap.size W3) nq))
              have HB4 := Lib.hid (Key.below_drewN' HB3.out nq)
              go_wp2_with fail
              go_roundw
              case rel => exact ⟨j + 1, by omega, by rw [KK1.out]; go_num, by go_num, HP4.out, HB4.out⟩
              case measure => simp [intOf]; omega
            · have hb2 : ((bj : Int) == 0) = false := by simp; omega
              have s3 := S3.out
              have s4 := S4.out
              by_cases hd2 : dj < db
              · have KK1 := Lib.hid (SET.out FIT.out (.inr hd2))
                clear KEEP SET FT
                go_wp2_with fail
                go_quiet ((first | (go_at_call 19; first | (with_reducible exact Calls.quiet_of_same (KC.out _ (Key.below_drewN' HB3.out _))) | (with_reducible exact Calls.quiet_of_same (KD.out _ (Key.below_drewN' HB3.out _)))) | (go_at_call 53; first | (with_reducible exact Calls.quiet_of_same (KP1.out _)) | (with_reducible exact Calls.quiet_of_same (KP2.out _)))))
                have HP4 := Lib.hid (HP3.out.later (Key.below_drewN' (Below.refl W3.heap.size W3) nq))
                have HB4 := Lib.hid (Key.below_drewN' HB3.out nq)
                clear s3 s4
                go_wp2_with fail
                go_roundw
                case rel => exact ⟨j + 1, by omega, by rw [KK1.out]; go_num, by go_num, HP4.out, HB4.out⟩
                case measure => simp [intOf]; omega
              · have KK1 := Lib.hid (KEEP.out (.inr ⟨hb0, hd2⟩))
                clear KEEP SET FT
                go_wp2_with fail
                go_quiet ((first | (go_at_call 19; first | (with_reducible exact Calls.quiet_of_same (KC.out _ (Key.below_drewN' HB3.out _))) | (with_reducible exact Calls.quiet_of_same (KD.out _ (Key.below_drewN' HB3.out _)))) | (go_at_call 53; first | (with_reducible exact Calls.quiet_of_same (KP1.out _)) | (with_reducible exact Calls.quiet_of_same (KP2.out _)))))
                have HP4 := Lib.hid (HP3.out.later (Key.below_drewN' (Below.refl W3.heap.size W3) nq))
                have HB4 := Lib.hid (Key.below_drewN' HB3.out nq)
                clear s3 s4
                go_wp2_with fail
                go_roundw
                case rel => exact ⟨j + 1, by omega, by rw [KK1.out], by go_num, HP4.out, HB4.out⟩
                case measure => simp [intOf]; omega
          · have KK1 := Lib.hid (KEEP.out (.inl (by rw [FT.out, decide_eq_false h2]; rfl)))
            clear KEEP SET FT KC KD KP1 KP2
            go_wp2_with fail
            go_roundw
            case rel => exact ⟨j + 1, by omega, by rw [KK1.out], by go_num, HP3.out, HB3.out⟩
            case measure => simp [intOf]; omega
        · have KK1 := Lib.hid (KEEP.out (.inl (by rw [FT.out, decide_eq_false h1]; rfl)))
          clear KEEP SET FT KC KD KP1 KP2
          go_wp2_with fail
          go_roundw
          case rel => exact ⟨j + 1, by omega, by rw [KK1.out], by go_num, HP3.out, HB3.out⟩
          case measure => simp [intOf]; omega
      · have e : j = m - 1 := by omega
        have EC := Lib.hid (show bst pr.rows j = cutN pr.rows by rw [CN.out, e])
        rw [EC.out]
        clear e CN WG hdl bl hj
        have hcn := CL.out
        rw [← MM.out] at hcn
        obtain ⟨x1, x2, s1, s2, r1, r2, z1, z2⟩ := SL.out (cutN pr.rows) (by by_cases e : cutN pr.rows = 0; omega; have := hcn e; omega)
        have HCN := Lib.hid hcn
        clear SL hcn EC CL
        obtain ⟨a0, a1, a2, a3, a4, a5⟩ := HP.out.six
        by_cases hc0 : cutN pr.rows = 0
        · rw [if_pos hc0] at EE
          have e2 : se = 2 := EE.out
          obtain ⟨q1, q2, q3⟩ := SB.out (by rw [e2]; decide)
          subst e2
          subst q1
          subst q2
          subst q3
          have hcz : ((cutN pr.rows : Int) == 0) = true := by simp; omega
          generalize cutN pr.rows = cn at *
          clear GOOD SB hc0 s1 s2
          go_wp2_with fail
          exact bodyPost_ret (v := .tuple #[.slice none 0 0, .slice none 0 0, .string ⟨#[]⟩, .int .i64 2]) (by simp [results, Tryd.results28, go_sem]) rfl (SplPost.none 2 HP.out.below)
        · rw [if_neg hc0] at EE
          have e2 : se = 0 := EE.out
          obtain ⟨q1, q2, q3⟩ := GOOD.out e2
          obtain ⟨hcl1, hcl2⟩ := HCN.out hc0
          subst e2
          have hcz : ((cutN pr.rows : Int) == 0) = false := by simp; omega
          have KN := Lib.hid (K2.out _ HP.out)
          rw [HKP.out] at KN
          rw [HK.out] at KN
          have Z1 := Lib.hid z1
          have Z2 := Lib.hid z2
          have Y1 := Lib.hid r1
          have Y2 := Lib.hid r2
          obtain ⟨adx, cx, hx, _⟩ := id r1
          obtain ⟨ady, cy, hy, _⟩ := id r2
          subst hx
          subst hy
          generalize (List.take (cutN pr.rows) pr.rows).length = l1 at *
          generalize (List.drop (cutN pr.rows) pr.rows).length = l2 at *
          rw [← q1] at Y1
          rw [← q2] at Y2
          generalize cutN pr.rows = cn at *
          have S1 := Lib.hid s1
          have S2 := Lib.hid s2
          have Q3 := Lib.hid q3
          clear GOOD SB hc0 s1 s2 K2 HKP r1 r2 z1 z2 HCN q1 q2 q3
          unfold pgV at KN
          go_wp2_with fail
          refine KN.out.mono ?_
          rintro e w5 ⟨uk, rfl, tk, b5⟩
          have P5 := Lib.hid (HP.out.later b5)
          have B5 := Lib.hid (HB.out.trans (b5.mono HB.out.size))
          obtain ⟨adk, capk, hk5⟩ := tk.shape
          subst hk5
          have lk : pk.length = m := by rw [F5.out, ← MM.out]
          obtain ⟨j, rfl⟩ : ∃ j, cn = j + 1 := ⟨cn - 1, by omega⟩
          obtain ⟨gk, rfl, d1⟩ := tk.at (k := j) (by rw [lk]; omega)
          obtain ⟨gk', e, d2⟩ := tk.at (k := j + 1) (by rw [lk]; omega)
          cases e
          have zz1 := F6.out j (by rw [lk]; omega)
          have zz2 := F6.out (j + 1) (by rw [lk]; omega)
          change w5.cell? ⟨gk, j, none⟩ = some (.string (nth pk j)) at d1
          change w5.cell? ⟨gk, j + 1, none⟩ = some (.string (nth pk (j + 1))) at d2
          have hgl : gk < w5.heap.size := tk.lt gk rfl
          rw [lk]
          rw [← F4.out, show j + 1 - 1 = j from rfl] at Q3
          clear KN tk b5 HP HB a0 a1 a2 a3 a4 a5 lk F5 F6
          generalize nth pk j = sa at *
          generalize nth pk (j + 1) = sb at *
          have e1 : ((j + 1 : Nat) : Int) = (j : Int) + 1 := by omega
          rw [e1] at S1 S2 hcz ⊢
          clear e1
          obtain ⟨a0, a1, a2, a3, a4, a5⟩ := P5.out.six
          rcases F2.out with hk | hk
          · have e2 : ((pr.kind : Int) == 1) = true := by simp; omega
            have KB := Lib.hid (fun W => Key.rbetween_any sa sb W (by omega) (by omega))
            have Q4 := Lib.hid (show sS = between sa sb by rw [Q3.out, ← F3.out, if_pos hk])
            have PD := Lib.hid (P5.out.later ((Below.refl _ _).drew))
            have BD := Lib.hid (show Below W2.heap.size W2 w5.drew from B5.out.drew)
            have D1 := Lib.hid (show w5.drew.cell? ⟨gk, j, none⟩ = some (.string sa) from d1)
            have D2 := Lib.hid (show w5.drew.cell? ⟨gk, j + 1, none⟩ = some (.string sb) from d2)
            have GL := Lib.hid hgl
            have q1 : IntKind.i64.wrap (j : Int) = (j : Int) := IntWalk.i64_in _ (by omega)
            have q2 : (0 : Int) ≤ (j : Int) + 1 := by omega
            have q3 : ((j : Int) + 1).toNat = j + 1 := by omega
            have q4 : (j : Int) < (m : Int) := by omega
            have q5 : (j : Int) + 1 < (m : Int) := by omega
            clear hk
            go_upto_region 17 with fail
            clear a0 a1 a2 a3 a4 a5 d1 d2 hgl e2
            go_region_held3 (fun w' => w'.cell? ⟨gk, j, none⟩ = some (.string sa) ∧ w'.cell? ⟨gk, j + 1, none⟩ = some (.string sb)) (first | exact ⟨D1.out, D2.out⟩ | exact ⟨d1x, d2x⟩)
              (first | (go_at_call 54; refine (KB.out _).mono ?_; rintro e w6 ⟨rfl, b6⟩; have d1x := (World.cell?_of_block (b6.block gk GL.out)).trans D1.out; have d2x := (World.cell?_of_block (b6.block gk GL.out)).trans D2.out))
            have P6 := Lib.hid (PD.out.later b6)
            have B6 := Lib.hid (BD.out.trans (b6.mono BD.out.size))
            clear q1 q2 q3 q4 q5 d1x d2x b6
            obtain ⟨a0, a1, a2, a3, a4, a5⟩ := P6.out.six
            have s1 := S1.out
            have s2 := S2.out
            go_wp2_with fail
            go_quiet (fail)
            have BB := Lib.hid (Key.below_drewN' B6.out nq)
            have P7 := Lib.hid (P6.out.later (Key.below_drewN' (Below.refl _ _) nq))
            clear s1 s2
            go_wp2_with fail
            exact bodyPost_ret (v := .tuple #[.slice adx l1 cx, .slice ady l2 cy, .string sS, .int .i64 0]) (by rw [Q4.out]; simp [results, Tryd.results28, go_sem]) rfl ⟨P7.out.below, _, _, rfl, Y1.out.later BB.out, Y2.out.later BB.out, Z1.out, Z2.out⟩
          · have e2 : ((pr.kind : Int) == 1) = false := by simp; omega
            have Q4 := Lib.hid (show sS = sb by rw [Q3.out, ← F3.out, if_neg (by omega)])
            have P6 := Lib.hid P5.out
            have B6 := Lib.hid B5.out
            clear hk a0 a1 a2 a3 a4 a5
            obtain ⟨a0, a1, a2, a3, a4, a5⟩ := P6.out.six
            have s1 := S1.out
            have s2 := S2.out
            go_wp2_with fail
            go_quiet (fail)
            have BB := Lib.hid (Key.below_drewN' B6.out nq)
            have P7 := Lib.hid (P6.out.later (Key.below_drewN' (Below.refl _ _) nq))
            clear s1 s2
            go_wp2_with fail
            exact bodyPost_ret (v := .tuple #[.slice adx l1 cx, .slice ady l2 cy, .string sS, .int .i64 0]) (by rw [Q4.out]; simp [results, Tryd.results28, go_sem]) rfl ⟨P7.out.below, _, _, rfl, Y1.out.later BB.out, Y2.out.later BB.out, Z1.out, Z2.out⟩
  · have he2 : (pe != 0) = true := by simp; exact he
    have EE2 : se = pe := by rw [EE.out, if_neg he]
    obtain ⟨q1, q2, q3⟩ := SB.out (by rw [EE2]; exact he)
    subst EE2
    subst q1
    subst q2
    subst q3
    clear GOOD SB PF he PKB
    go_wp2_with fail
    exact bodyPost_ret (v := .tuple #[.slice none 0 0, .slice none 0 0, .string ⟨#[]⟩, .int .i64 se]) (by simp [results, Tryd.results28, go_sem]) rfl (SplPost.none se P2.out.below)

end Go.Proofs.YtbdbnpcbbebelaaDoor.Node
