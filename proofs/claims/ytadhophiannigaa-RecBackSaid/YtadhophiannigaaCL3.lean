/- Walks: what was written is read as itself. -/
import Derived.Test.YtadhophiannigaaCL0
import Derived.Test.YtadhophiannigaaCY2
import Derived.Test.YtadhophiannigaaCM5
namespace Go.Proofs.Ytadhophiannigaa.Rec
open Go.RowKit
attribute [local go_sem ↓] Go.wp_at_zero Go.wp_at_succ

set_option maxRecDepth 100000 in
set_option maxHeartbeats 4000000 in
theorem back_walk {w : World} {a b : Rc} {d t d' t' : Value} {s : ByteArray} (ha : InR w a d t) (hb : InR w b d' t') (hs : s.size ≤ 140737488351232) :
    Calls Try.prog 5 #[recV a d t, recV b d' t', .string s] w fun e w' => e = .returned (.bool true) ∧ Below w.heap.size w w' := by
  have T0 := Lib.hid (R2.start w a b d t d' t')
  have KH1 := Lib.hid (fun W (B : Below w.heap.size w W) => heavy_any (ha.later B))
  have KH2 := Lib.hid (fun W (B : Below w.heap.size w W) => heavy_any (hb.later B))
  have KC1 := Lib.hid (fun (h : heavyC a = false) W (B : Below w.heap.size w W) => (show Calls Try.prog 10 #[recV a d t] W fun e w' => ∃ d t, e = .returned (recV a d t) ∧ InR w' a d t ∧ Below W.heap.size W w' from copied_any (ha.later B) (by have := heavy_no h; omega) (by have := heavy_no h; omega)))
  have KC2 := Lib.hid (fun (h : heavyC b = false) W (B : Below w.heap.size w W) => (show Calls Try.prog 10 #[recV b d' t'] W fun e w' => ∃ d t, e = .returned (recV b d t) ∧ InR w' b d t ∧ Below W.heap.size W w' from copied_any (hb.later B) (by have := heavy_no h; omega) (by have := heavy_no h; omega)))
  have KE1 := Lib.hid (fun W d t (h : InR W a d t) => encode_any h)
  have KE2 := Lib.hid (fun W d t (h : InR W b d t) => encode_any h)
  have EA := Lib.hid (show encE a = if mayC a then 0 else 2 from rfl)
  have EB := Lib.hid (show encE b = if mayC b then 0 else 2 from rfl)
  have LA := Lib.hid (enc_le a)
  have KD := Lib.hid (fun (h : mayC a = true) W => (show Calls Try.prog 17 #[.string (encS a)] W fun e w' => ∃ d u, e = .returned (.tuple #[recV a d u, .int .i64 0]) ∧ InR w' a d u ∧ Below W.heap.size W w' from (decode_any (encS a) W (by have := enc_le a; omega)).mono fun e w' h2 => by
    obtain ⟨d, u, h1, h2, h3⟩ := h2
    obtain ⟨g1, g2⟩ := dec_enc ha.wf h
    obtain ⟨e1, e2⟩ := is_ok (s := encS a) (by unfold okC; rw [g1, g2, h]; rfl)
    rw [e1, g2] at h1 h2
    rw [e2] at h1
    exact ⟨d, u, h1, h2, h3⟩))
  have KS1 := Lib.hid (fun W d1 t1 (B : Below w.heap.size w W) (k : InR W a d1 t1) => (show Calls Try.prog 15 #[recV a d1 t1, recV a d t] W fun e w' => e = .returned (.bool true) ∧ Below W.heap.size W w' from by have := rsame_any k (ha.later B); rw [same_self] at this; exact this))
  have KS2 := Lib.hid (fun W (B : Below w.heap.size w W) => rsame_any (ha.later B) (hb.later B))
  have INJ := Lib.hid (fun (h1 : mayC a = true) (h2 : mayC b = true) (h : encS a = encS b) => enc_inj ha.wf hb.wf h1 h2 h)
  have SI := Lib.hid (same_iff a b)
  have INJS := Lib.hid (fun (h : a = b) => (show encS a = encS b by rw [h]))
  have KDS := Lib.hid (fun W => (show Calls Try.prog 17 #[.string s] W fun e w' => ∃ d u, e = .returned (.tuple #[recV (decC s) d u, .int .i64 (decE s)]) ∧ InR w' (decC s) d u ∧ Below W.heap.size W w' from decode_any s W hs))
  have BB := Lib.hid T0.out.a.below
  clear ha hb
  obtain ⟨a0, a1, a2, a3, a4, a5, a6, a7, a8, a9, a10, a11⟩ := T0.out.a.all
  obtain ⟨b0, b1, b2, b3, b4, b5, b6, b7, b8, b9, b10, b11⟩ := T0.out.b.all
  generalize encS a = S at *
  generalize encE a = E at *
  generalize encS b = U at *
  generalize encE b = F at *
  generalize sameC a b = SC at *
  unfold recV recC at *
  go_enter Try.func5, Try.ntmps5
  go_wp2_with fail
  refine (KH1.out _ BB.out).mono ?_
  rintro e w1 ⟨rfl, c1⟩
  have T1 := Lib.hid (T0.out.later c1)
  clear c1 T0 BB KH1 a0 a1 a2 a3 a4 a5 a6 a7 a8 a9 a10 a11 b0 b1 b2 b3 b4 b5 b6 b7 b8 b9 b10 b11
  generalize w.heap.size + 1 = q at *
  obtain ⟨a0, a1, a2, a3, a4, a5, a6, a7, a8, a9, a10, a11⟩ := T1.out.a.all
  obtain ⟨b0, b1, b2, b3, b4, b5, b6, b7, b8, b9, b10, b11⟩ := T1.out.b.all
  cases hA : heavyC a with
  | true =>
    clear KH2 KC1 KC2 KE1 KE2 KD KS1 KS2 INJ INJS SI KDS EA EB LA
    go_wp2_with fail
    refine (works_any _).mono ?_
    rintro e w2 ⟨rfl, c2⟩
    have B2 := Lib.hid (T1.out.later c2).a.below
    clear c2 T1 a0 a1 a2 a3 a4 a5 a6 a7 a8 a9 a10 a11 b0 b1 b2 b3 b4 b5 b6 b7 b8 b9 b10 b11
    go_wp2_with fail
    go_ret
    exact ⟨rfl, B2.out⟩
  | false =>
  go_wp2_with fail
  refine (KH2.out _ T1.out.a.below).mono ?_
  rintro e w2 ⟨rfl, c2⟩
  have T2 := Lib.hid (T1.out.later c2)
  clear c2 T1 KH2 a0 a1 a2 a3 a4 a5 a6 a7 a8 a9 a10 a11 b0 b1 b2 b3 b4 b5 b6 b7 b8 b9 b10 b11
  cases hB : heavyC b with
  | true =>
    clear KC1 KC2 KE1 KE2 KD KS1 KS2 INJ INJS SI KDS EA EB LA
    go_wp2_with fail
    refine (works_any _).mono ?_
    rintro e w3 ⟨rfl, c2⟩
    have B2 := Lib.hid (T2.out.later c2).a.below
    clear c2 T2
    go_wp2_with fail
    go_ret
    exact ⟨rfl, B2.out⟩
  | false =>
  have KC1 := Lib.hid (KC1.out hA)
  have KC2 := Lib.hid (KC2.out hB)
  clear hA hB
  by_cases hl : 8192 < s.size
  · clear KC1 KC2 KE1 KE2 KD KS1 KS2 INJ INJS SI KDS EA EB LA
    go_wp2_with fail
    refine (works_any _).mono ?_
    rintro e w3 ⟨rfl, c2⟩
    have B2 := Lib.hid (T2.out.later c2).a.below
    clear c2 T2
    go_wp2_with fail
    go_ret
    exact ⟨rfl, B2.out⟩
  obtain ⟨a0, a1, a2, a3, a4, a5, a6, a7, a8, a9, a10, a11⟩ := T2.out.a.all
  go_wp2_with fail
  refine (KC1.out _ T2.out.a.below).mono ?_
  rintro e w3 ⟨d1, t1, rfl, i1, c3⟩
  have T3 := T2.out.later c3
  go_wp2_with fail
  refine (KE1.out _ _ _ i1).mono ?_
  rintro e w4 ⟨rfl, c4⟩
  have T4 := Lib.hid (T3.later c4)
  clear c3 c4 i1 T3 T2 KE1 KC1 a0 a1 a2 a3 a4 a5 a6 a7 a8 a9 a10 a11
  obtain ⟨b0, b1, b2, b3, b4, b5, b6, b7, b8, b9, b10, b11⟩ := T4.out.b.all
  go_wp2_with fail
  refine (KC2.out _ T4.out.a.below).mono ?_
  rintro e w5 ⟨d2, t2, rfl, i2, c5⟩
  have T5 := T4.out.later c5
  go_wp2_with fail
  refine (KE2.out _ _ _ i2).mono ?_
  rintro e w6 ⟨rfl, c6⟩
  have T6 := Lib.hid (T5.later c6)
  clear c5 c6 i2 T5 T4 KE2 KC2 b0 b1 b2 b3 b4 b5 b6 b7 b8 b9 b10 b11
  go_upto_if 42 with fail
  go_cut [42] (fun c wx => c = .bool (E == 0) ∧ R2 w wx w.heap.size q a b d t d' t')
  case first =>
    clear KDS
    by_cases ma : mayC a = true
    · have eE : E = 0 := by have := EA.out; rw [if_pos ma] at this; exact this
      subst eE
      have KD := Lib.hid (KD.out ma)
      have INJ := Lib.hid (INJ.out ma)
      clear EA ma
      go_wp2_with fail
      refine (KD.out _).mono ?_
      rintro e w7 ⟨d3, u3, rfl, i3, c7⟩
      obtain ⟨ad, cc, rfl⟩ := i3.di.form
      obtain ⟨ad2, cc2, rfl⟩ := i3.ac.form
      have T7 := T6.out.later c7
      have T8 := Lib.hid (T7.later (below_new w7 (.cells (recC a (.slice ad a.dirty.length cc) (.slice ad2 a.txns.length cc2)) 32)))
      have I8 := Lib.hid (i3.later (below_new w7 (.cells (recC a (.slice ad a.dirty.length cc) (.slice ad2 a.txns.length cc2)) 32)))
      have H8 := Lib.hid (heap_alloc_new w7 (.cells (recC a (.slice ad a.dirty.length cc) (.slice ad2 a.txns.length cc2)) 32))
      clear T7 c7 i3 T6 KD
      go_upto_region 7 with fail
      unfold recC at T8 I8 H8
      generalize w7.heap.size = h at *
      generalize w7.alloc _ = W8 at *
      obtain ⟨a0, a1, a2, a3, a4, a5, a6, a7, a8, a9, a10, a11⟩ := T8.out.a.all
      obtain ⟨c0, c1, c2, c3, c4, c5, c6, c7, c8, c9, c10, c11⟩ := rec_cells (show W8.heap[h]? = some (.cells (recC a (.slice ad a.dirty.length cc) (.slice ad2 a.txns.length cc2)) 32 (0, 0)) from H8.out)
      have hla := LA.out
      by_cases mb : mayC b = true
      · have eF : F = 0 := by have := EB.out; rw [if_pos mb] at this; exact this
        subst eF
        have fS : (S.toList == U.toList) = SC := by
          cases hsc : SC with
          | true => 
            have hab : a = b := SI.out.1 hsc
            rw [INJS.out hab]; simp
          | false =>
            have hne : S ≠ U := fun e => by
              have := SI.out.2 (INJ.out mb e)
              rw [hsc] at this
              cases this
            exact beq_no hne
        clear INJ SI EB mb
        go_wp2_with fail
        refine (KS1.out _ _ _ T8.out.a.below I8.out).mono ?_
        rintro e w9 ⟨rfl, c9⟩
        have T9 := Lib.hid (T8.out.later c9)
        clear c9 T8 I8 H8 KS1 a0 a1 a2 a3 a4 a5 a6 a7 a8 a9 a10 a11 c0 c1 c2 c3 c4 c5 c6 c7 c8 c10 c11
        obtain ⟨a0, a1, a2, a3, a4, a5, a6, a7, a8, a9, a10, a11⟩ := T9.out.a.all
        obtain ⟨b0, b1, b2, b3, b4, b5, b6, b7, b8, b9, b10, b11⟩ := T9.out.b.all
        go_wp2_with fail
        refine (KS2.out _ T9.out.a.below).mono ?_
        rintro e w10 ⟨rfl, c10⟩
        have T10 := Lib.hid (T9.out.later c10)
        clear c10 T9 KS2 a0 a1 a2 a3 a4 a5 a6 a7 a8 a9 a10 a11 b0 b1 b2 b3 b4 b5 b6 b7 b8 b9 b10 b11
        go_wp2_with fail
        go_meet
        exact ⟨rfl, T10.out⟩
      · have eF : F = 2 := by have := EB.out; rw [if_neg mb] at this; exact this
        subst eF
        clear INJ SI EB mb
        go_wp2_with fail
        refine (KS1.out _ _ _ T8.out.a.below I8.out).mono ?_
        rintro e w9 ⟨rfl, c9⟩
        have T9 := Lib.hid (T8.out.later c9)
        clear c9 T8 I8 H8 KS1 KS2 a0 a1 a2 a3 a4 a5 a6 a7 a8 a9 a10 a11 c0 c1 c2 c3 c4 c5 c6 c7 c8 c10 c11
        go_wp2_with fail
        go_meet
        exact ⟨rfl, T9.out⟩
    · have eE : E = 2 := by have := EA.out; rw [if_neg ma] at this; exact this
      subst eE
      clear EA ma KD INJ SI KS1 KS2 EB LA
      go_wp2_with fail
      go_meet
      exact ⟨rfl, T6.out⟩
  case rest =>
    obtain ⟨rfl, T7⟩ := hcut
    have T8 := Lib.hid T7
    clear T6 T7 KD KS1 KS2 INJ INJS SI EA EB LA
    by_cases hok : okC s = true
    · obtain ⟨o1, o2⟩ := is_ok hok
      have KE := Lib.hid (fun W d u (i : InR W (rdC s) d u) => (show Calls Try.prog 9 #[recV (rdC s) d u] W fun e w' => e = .returned (.tuple #[.string s, .int .i64 0]) ∧ Below W.heap.size W w' from by
        have := encode_any i
        have hm : mayC (rdC s) = true := by unfold okC at hok; exact (Bool.and_eq_true_iff.1 hok).2
        rw [enc_dec hok, show encE (rdC s) = 0 from if_pos hm] at this
        exact this))
      rw [o1, o2] at KDS
      clear hok o1 o2
      generalize rdC s = r at *
      unfold recV recC at KE
      go_wp2_with fail
      refine (KDS.out _).mono ?_
      rintro e w7 ⟨d3, u3, rfl, i3, c7⟩
      obtain ⟨ad, cc, rfl⟩ := i3.di.form
      obtain ⟨ad2, cc2, rfl⟩ := i3.ac.form
      have T9 := T8.out.later c7
      have T10 := Lib.hid (T9.later (below_new w7 (.cells (recC r (.slice ad r.dirty.length cc) (.slice ad2 r.txns.length cc2)) 32)))
      have I8 := Lib.hid (i3.later (below_new w7 (.cells (recC r (.slice ad r.dirty.length cc) (.slice ad2 r.txns.length cc2)) 32)))
      clear T9 c7 i3 T8 KDS
      unfold recC at T10 I8
      go_wp2_with fail
      refine (KE.out _ _ _ I8.out).mono ?_
      rintro e w9 ⟨rfl, c9⟩
      have T11 := Lib.hid (T10.out.later c9)
      clear c9 T10 I8 KE
      go_wp2_with fail
      refine (works_any _).mono ?_
      rintro e w10 ⟨rfl, c10⟩
      have B2 := Lib.hid (T11.out.later c10).a.below
      clear c10 T11
      go_wp2_with fail
      go_ret
      exact ⟨rfl, B2.out⟩
    · obtain ⟨o1, o2⟩ := not_ok hok
      rw [o1, o2] at KDS
      clear hok o1 o2
      have KZ := Lib.hid (fun W d u (i : InR W Rc.zero d u) => (show Calls Try.prog 15 #[recV Rc.zero d u, recV Rc.zero (.slice none 0 0) (.slice none 0 0)] W fun e w' => e = .returned (.bool true) ∧ Below W.heap.size W w' from by have := rsame_any i (InR.zero W); rw [same_self] at this; exact this))
      unfold recV recC at KZ
      go_wp2_with fail
      refine (KDS.out _).mono ?_
      rintro e w7 ⟨d3, u3, rfl, i3, c7⟩
      obtain ⟨ad, cc, rfl⟩ := i3.di.form
      obtain ⟨ad2, cc2, rfl⟩ := i3.ac.form
      have T9 := T8.out.later c7
      have T10 := Lib.hid (T9.later (below_new w7 (.cells (recC Rc.zero (.slice ad Rc.zero.dirty.length cc) (.slice ad2 Rc.zero.txns.length cc2)) 32)))
      have I8 := Lib.hid (i3.later (below_new w7 (.cells (recC Rc.zero (.slice ad Rc.zero.dirty.length cc) (.slice ad2 Rc.zero.txns.length cc2)) 32)))
      clear T9 c7 i3 T8 KDS
      unfold recC Rc.zero at T10 I8
      unfold Rc.zero at KZ
      simp only at T10 I8 KZ
      go_wp2_with fail
      refine (KZ.out _ _ _ I8.out).mono ?_
      rintro e w9 ⟨rfl, c9⟩
      have T11 := Lib.hid (T10.out.later c9)
      clear c9 T10 I8 KZ
      go_wp2_with fail
      refine (works_any _).mono ?_
      rintro e w10 ⟨rfl, c10⟩
      have B2 := Lib.hid (T11.out.later c10).a.below
      clear c10 T11
      go_wp2_with fail
      go_ret
      exact ⟨rfl, B2.out⟩

end Go.Proofs.Ytadhophiannigaa.Rec
