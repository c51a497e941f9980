/-
  Walks: rows that are cut off one page and filled into another; what was put goes, what was set is set back.
-/
import Derived.Deep.CutBlock
import Derived.Test.YticnbicnefnhbaaZ19
import Derived.Test.YticnbicnefnhbaaZ27
import Derived.Test.YticnbicnefnhbaaZ16
import Derived.Test.YticnbicnefnhbaaZ20
import Derived.Test.YticnbicnefnhbaaZ4
import Derived.Test.YticnbicnefnhbaaZ3
import Derived.Test.YticnbicnefnhbaaZ18
namespace Go.Proofs.Yticnbicnefnhbaa.Op
open Go.RowKit
open Go.Proofs.Yticnbicnefnhbaa.Seq (strS Is Own Shp one_src wpList_app)
open Go.Proofs.Yticnbicnefnhbaa.Page (Pg pgV used pgC mayP roomI)
open Go.Proofs.Yticnbicnefnhbaa.By
attribute [local go_sem ↓] Go.wp_at_zero Go.wp_at_succ

/-- a page's box, field by field -/
structure Raw (w : World) (g : Nat) (a b c d e : Int) (v : Value) : Prop where
  box : w.heap[g]? = some (.cells #[.int .u8 a, .int .u8 b, .int .u32 c, .int .u64 d, .int .u32 e, v] 45 (0, 0))
theorem Raw.later {w w' : World} {g : Nat} {a b c d e : Int} {v : Value} (h : Raw w g a b c d e v) (t : Below w.heap.size w w') : Raw w' g a b c d e v := ⟨(t.block g (Array.getElem?_eq_some_iff.1 h.box).1).trans h.box⟩
theorem Raw.six {w : World} {g : Nat} {a b c d e : Int} {v : Value} (h : Raw w g a b c d e v) : w.cell? ⟨g, 0, none⟩ = some (.int .u8 a) ∧ w.cell? ⟨g, 1, none⟩ = some (.int .u8 b) ∧ w.cell? ⟨g, 2, none⟩ = some (.int .u32 c) ∧ w.cell? ⟨g, 3, none⟩ = some (.int .u64 d) ∧ w.cell? ⟨g, 4, none⟩ = some (.int .u32 e) ∧ w.cell? ⟨g, 5, none⟩ = some v := by
  refine ⟨?_, ?_, ?_, ?_, ?_, ?_⟩ <;> (rw [cell_of_row _ _ _ _ _ _ h.box]; rfl)
theorem Raw.new (w : World) (a b c d e : Int) (v : Value) : Raw (w.alloc (.cells #[.int .u8 a, .int .u8 b, .int .u32 c, .int .u64 d, .int .u32 e, v] 45)) w.heap.size a b c d e v := ⟨heap_alloc_new w _⟩
theorem is_src {w : World} {v : Value} {l : List ByteArray} (h : Is strS w v l) : Seq.Src strS w v l := by
  obtain ⟨a, cap, rfl, h1, h2, hc⟩ := h
  cases a with
  | none =>
    have h3 := h2 rfl
    have h4 : l = [] := List.eq_nil_of_length_eq_zero (by omega)
    subst h4 h3
    exact .inl ⟨rfl, rfl⟩
  | some a =>
    refine .inr ⟨a, cap, rfl, fun j u hu => ?_⟩
    rcases hc with rfl | ⟨x, o, e, _, hj⟩
    · simp [Seq.all] at hu
    · simp only [Option.some.injEq] at e
      subst e
      have := hj j u hu
      rwa [Addr.add_mid]
/-- rows of a page are a slice of texts -/
theorem is_rows {w : World} {v : Value} {l : List ByteArray} (h : Page.Rows w v l) (hc : Page.CapOk v) : Is strS w v l := by
  obtain ⟨ad, c, rfl, h1⟩ := h
  obtain ⟨g1, g2⟩ := hc _ _ _ rfl
  refine ⟨ad, c, rfl, g1, g2, h1.imp id ?_⟩
  rintro ⟨b, o, rfl, hb, hj⟩
  refine ⟨b, o, rfl, hb, fun j u hu => ?_⟩
  have hlt : j < l.length := by
    have := (List.getElem?_eq_some_iff.1 hu).1
    rw [Seq.all_len] at this
    simpa [show strS.k = 1 from rfl] using this
  have := Seq.all_at strS l j l[j] (List.getElem?_eq_getElem hlt) 0 (by decide)
  rw [show j * strS.k + 0 = j from by rw [show strS.k = 1 from rfl]; omega, hu] at this
  rw [hj j hlt]
  unfold Page.nth
  rw [List.getD_eq_getElem?_getD, List.getElem?_eq_getElem hlt]
  exact this.symm
theorem rows_is {w : World} {v : Value} {l : List ByteArray} (h : Is strS w v l) : Page.Rows w v l := by
  obtain ⟨ad, c, rfl, _, _, h1⟩ := h
  refine ⟨ad, c, rfl, h1.imp id ?_⟩
  rintro ⟨b, o, rfl, hb, hj⟩
  refine ⟨b, o, rfl, hb, fun j hlt => hj j _ ?_⟩
  have := Seq.all_at strS l j l[j] (List.getElem?_eq_getElem hlt) 0 (by decide)
  rw [show j * strS.k + 0 = j from by rw [show strS.k = 1 from rfl]; omega] at this
  rw [this]
  unfold Page.nth
  rw [List.getD_eq_getElem?_getD, List.getElem?_eq_getElem hlt]
  rfl

set_option maxRecDepth 100000 in
set_option maxHeartbeats 4000000 in
theorem moves_walk {w : World} {p : Pg} {u : Value} {fr : Int} {t : ByteArray} (hp : Page.InPg w p u) (hf : 0 ≤ fr ∧ fr ≤ 255) :
    Calls Try.prog 7 #[pgV p u, .int .u8 fr, .string t] w fun e w' => e = .returned (.bool true) ∧ Below w.heap.size w w' := by
  have X0 := Lib.hid (PBx.new w p u)
  have KH := Lib.hid (fun W (B : Below w.heap.size w W) => Page.heavy_any p (hp.rows.later B) hp.len hp.each)
  have KR := Lib.hid (fun (hu : used p.rows ≤ 1000000) W (B : Below w.heap.size w W) => Page.rroom_any p (hp.rows.later B) hu)
  have KM := Lib.hid (fun (hu : used p.rows ≤ 1000000) W (B : Below w.heap.size w W) => Page.rmay_any p (hp.rows.later B) hu)
  obtain ⟨ad, c, rfl, _⟩ := id hp.rows
  have HP := Lib.hid hp
  have B0 := Lib.hid (below_new w (.cells (pgC p (.slice ad p.rows.length c)) 45))
  unfold pgV at *
  unfold pgC at *
  clear hp
  go_enter Try.func7, Try.ntmps7
  go_upto_region 1 with fail
  generalize hW : World.alloc w _ = w1 at *
  obtain ⟨x0, x1, x2, x3, x4, x5⟩ := X0.out.six
  clear hW
  go_cut [50] (fun r wx => (r = .bool true ∨ r = .bool false ∧ mayP p = true ∧ p.id ≠ 9 ∧ used p.rows ≤ 16384 ∧ t.size ≤ 1024) ∧ Below w.heap.size w wx ∧ PBx wx w.heap.size p (.slice ad p.rows.length c))
  case first =>
    as_aux_lemma =>
      by_cases h1 : Page.heavyB p.rows = true
      · rw [h1] at KH
        clear h1 KR KM
        go_wp2_with (first | (go_at_call 20; (with_reducible refine (KH.out _ B0.out).mono ?_); rintro e w2 ⟨rfl, b2⟩; have B2 := Lib.hid (B0.out.trans (b2.mono B0.out.size)); have X2 := Lib.hid (X0.out.later b2); clear b2 x0 x1 x2 x3 x4 x5; obtain ⟨x0, x1, x2, x3, x4, x5⟩ := X2.out.six))
        go_meet
        exact ⟨.inl rfl, B2.out, X2.out⟩
      have h2 : Page.heavyB p.rows = false := by simpa using h1
      have hu := (Page.light h2).1
      rw [h2] at KH
      clear h1 h2
      by_cases h3 : 1024 < t.size
      · have h4 : (1024 : Int) < (t.size : Int) := by omega
        clear KR KM
        go_wp2_with (first | (go_at_call 20; (with_reducible refine (KH.out _ B0.out).mono ?_); rintro e w2 ⟨rfl, b2⟩; have B2 := Lib.hid (B0.out.trans (b2.mono B0.out.size)); have X2 := Lib.hid (X0.out.later b2); clear b2 x0 x1 x2 x3 x4 x5; obtain ⟨x0, x1, x2, x3, x4, x5⟩ := X2.out.six))
        go_meet
        exact ⟨.inl rfl, B2.out, X2.out⟩
      have h4 : ¬ (1024 : Int) < (t.size : Int) := by omega
      have KR := Lib.hid (KR.out (by omega))
      have KM := Lib.hid (KM.out (by omega))
      obtain ⟨rm, hrm⟩ : ∃ rm, rm = roomI p.rows := ⟨_, rfl⟩
      have hrb : -1 ≤ rm ∧ rm ≤ 480 := by rw [hrm]; unfold roomI; split <;> omega
      rw [← hrm] at KR
      have G := Lib.hid (show used p.rows ≤ 16384 ∧ t.size ≤ 1024 from ⟨hu, by omega⟩)
      clear hrm hu h3
      by_cases h5 : rm < 0
      · by_cases h6 : p.rows.length = 0
        · have h7 : ((p.rows.length : Int) == 0) = true := by rw [h6]; rfl
          clear h6
          go_wp2_with (first | (go_at_call 20; (with_reducible refine (KH.out _ B0.out).mono ?_); rintro e w2 ⟨rfl, b2⟩; have B2 := Lib.hid (B0.out.trans (b2.mono B0.out.size)); have X2 := Lib.hid (X0.out.later b2); clear b2 x0 x1 x2 x3 x4 x5; obtain ⟨x0, x1, x2, x3, x4, x5⟩ := X2.out.six) | (go_at_call 28; (with_reducible refine (KR.out _ B2.out).mono ?_); rintro e w3 ⟨rfl, b3⟩; have B3 := Lib.hid (B2.out.trans (b3.mono B2.out.size)); have X3 := Lib.hid (X2.out.later b3); clear b3 x0 x1 x2 x3 x4 x5; obtain ⟨x0, x1, x2, x3, x4, x5⟩ := X3.out.six))
          go_meet
          exact ⟨.inl rfl, B3.out, X3.out⟩
        have h7 : ((p.rows.length : Int) == 0) = false := by rw [beq_eq_false_iff_ne]; omega
        by_cases h8 : mayP p = true
        · rw [h8] at KM
          by_cases h9 : p.id = 9
          · have h10 : ((p.id : Int) == 9) = true := by rw [h9]; rfl
            clear h9
            go_wp2_with (first | (go_at_call 20; (with_reducible refine (KH.out _ B0.out).mono ?_); rintro e w2 ⟨rfl, b2⟩; have B2 := Lib.hid (B0.out.trans (b2.mono B0.out.size)); have X2 := Lib.hid (X0.out.later b2); clear b2 x0 x1 x2 x3 x4 x5; obtain ⟨x0, x1, x2, x3, x4, x5⟩ := X2.out.six) | (go_at_call 28; (with_reducible refine (KR.out _ B2.out).mono ?_); rintro e w3 ⟨rfl, b3⟩; have B3 := Lib.hid (B2.out.trans (b3.mono B2.out.size)); have X3 := Lib.hid (X2.out.later b3); clear b3 x0 x1 x2 x3 x4 x5; obtain ⟨x0, x1, x2, x3, x4, x5⟩ := X3.out.six) | (go_at_call 29; (with_reducible refine (KM.out _ B3.out).mono ?_); rintro e w4 ⟨rfl, b4⟩; have B4 := Lib.hid (B3.out.trans (b4.mono B3.out.size)); have X4 := Lib.hid (X3.out.later b4); clear b4 x0 x1 x2 x3 x4 x5; obtain ⟨x0, x1, x2, x3, x4, x5⟩ := X4.out.six))
            go_meet
            exact ⟨.inl rfl, B4.out, X4.out⟩
          · have h10 : ((p.id : Int) == 9) = false := by rw [beq_eq_false_iff_ne]; omega
            go_wp2_with (first | (go_at_call 20; (with_reducible refine (KH.out _ B0.out).mono ?_); rintro e w2 ⟨rfl, b2⟩; have B2 := Lib.hid (B0.out.trans (b2.mono B0.out.size)); have X2 := Lib.hid (X0.out.later b2); clear b2 x0 x1 x2 x3 x4 x5; obtain ⟨x0, x1, x2, x3, x4, x5⟩ := X2.out.six) | (go_at_call 28; (with_reducible refine (KR.out _ B2.out).mono ?_); rintro e w3 ⟨rfl, b3⟩; have B3 := Lib.hid (B2.out.trans (b3.mono B2.out.size)); have X3 := Lib.hid (X2.out.later b3); clear b3 x0 x1 x2 x3 x4 x5; obtain ⟨x0, x1, x2, x3, x4, x5⟩ := X3.out.six) | (go_at_call 29; (with_reducible refine (KM.out _ B3.out).mono ?_); rintro e w4 ⟨rfl, b4⟩; have B4 := Lib.hid (B3.out.trans (b4.mono B3.out.size)); have X4 := Lib.hid (X3.out.later b4); clear b4 x0 x1 x2 x3 x4 x5; obtain ⟨x0, x1, x2, x3, x4, x5⟩ := X4.out.six))
            go_meet
            exact ⟨.inr ⟨by rw [decide_eq_false (show ¬ (1024 : Int) < (t.size : Int) by omega)], h8, h9, G.out⟩, B4.out, X4.out⟩
        · have h9 : mayP p = false := by simpa using h8
          rw [h9] at KM
          clear h8 h9
          go_wp2_with (first | (go_at_call 20; (with_reducible refine (KH.out _ B0.out).mono ?_); rintro e w2 ⟨rfl, b2⟩; have B2 := Lib.hid (B0.out.trans (b2.mono B0.out.size)); have X2 := Lib.hid (X0.out.later b2); clear b2 x0 x1 x2 x3 x4 x5; obtain ⟨x0, x1, x2, x3, x4, x5⟩ := X2.out.six) | (go_at_call 28; (with_reducible refine (KR.out _ B2.out).mono ?_); rintro e w3 ⟨rfl, b3⟩; have B3 := Lib.hid (B2.out.trans (b3.mono B2.out.size)); have X3 := Lib.hid (X2.out.later b3); clear b3 x0 x1 x2 x3 x4 x5; obtain ⟨x0, x1, x2, x3, x4, x5⟩ := X3.out.six) | (go_at_call 29; (with_reducible refine (KM.out _ B3.out).mono ?_); rintro e w4 ⟨rfl, b4⟩; have B4 := Lib.hid (B3.out.trans (b4.mono B3.out.size)); have X4 := Lib.hid (X3.out.later b4); clear b4 x0 x1 x2 x3 x4 x5; obtain ⟨x0, x1, x2, x3, x4, x5⟩ := X4.out.six))
          go_meet
          exact ⟨.inl rfl, B4.out, X4.out⟩
      · clear hrb
        by_cases h8 : mayP p = true
        · rw [h8] at KM
          by_cases h9 : p.id = 9
          · have h10 : ((p.id : Int) == 9) = true := by rw [h9]; rfl
            clear h9
            go_wp2_with (first | (go_at_call 20; (with_reducible refine (KH.out _ B0.out).mono ?_); rintro e w2 ⟨rfl, b2⟩; have B2 := Lib.hid (B0.out.trans (b2.mono B0.out.size)); have X2 := Lib.hid (X0.out.later b2); clear b2 x0 x1 x2 x3 x4 x5; obtain ⟨x0, x1, x2, x3, x4, x5⟩ := X2.out.six) | (go_at_call 28; (with_reducible refine (KR.out _ B2.out).mono ?_); rintro e w3 ⟨rfl, b3⟩; have B3 := Lib.hid (B2.out.trans (b3.mono B2.out.size)); have X3 := Lib.hid (X2.out.later b3); clear b3 x0 x1 x2 x3 x4 x5; obtain ⟨x0, x1, x2, x3, x4, x5⟩ := X3.out.six) | (go_at_call 29; (with_reducible refine (KM.out _ B3.out).mono ?_); rintro e w4 ⟨rfl, b4⟩; have B4 := Lib.hid (B3.out.trans (b4.mono B3.out.size)); have X4 := Lib.hid (X3.out.later b4); clear b4 x0 x1 x2 x3 x4 x5; obtain ⟨x0, x1, x2, x3, x4, x5⟩ := X4.out.six))
            go_meet
            exact ⟨.inl rfl, B4.out, X4.out⟩
          · have h10 : ((p.id : Int) == 9) = false := by rw [beq_eq_false_iff_ne]; omega
            go_wp2_with (first | (go_at_call 20; (with_reducible refine (KH.out _ B0.out).mono ?_); rintro e w2 ⟨rfl, b2⟩; have B2 := Lib.hid (B0.out.trans (b2.mono B0.out.size)); have X2 := Lib.hid (X0.out.later b2); clear b2 x0 x1 x2 x3 x4 x5; obtain ⟨x0, x1, x2, x3, x4, x5⟩ := X2.out.six) | (go_at_call 28; (with_reducible refine (KR.out _ B2.out).mono ?_); rintro e w3 ⟨rfl, b3⟩; have B3 := Lib.hid (B2.out.trans (b3.mono B2.out.size)); have X3 := Lib.hid (X2.out.later b3); clear b3 x0 x1 x2 x3 x4 x5; obtain ⟨x0, x1, x2, x3, x4, x5⟩ := X3.out.six) | (go_at_call 29; (with_reducible refine (KM.out _ B3.out).mono ?_); rintro e w4 ⟨rfl, b4⟩; have B4 := Lib.hid (B3.out.trans (b4.mono B3.out.size)); have X4 := Lib.hid (X3.out.later b4); clear b4 x0 x1 x2 x3 x4 x5; obtain ⟨x0, x1, x2, x3, x4, x5⟩ := X4.out.six))
            go_meet
            exact ⟨.inr ⟨by rw [decide_eq_false (show ¬ (1024 : Int) < (t.size : Int) by omega)], h8, h9, G.out⟩, B4.out, X4.out⟩
        · have h9 : mayP p = false := by simpa using h8
          rw [h9] at KM
          clear h8 h9
          go_wp2_with (first | (go_at_call 20; (with_reducible refine (KH.out _ B0.out).mono ?_); rintro e w2 ⟨rfl, b2⟩; have B2 := Lib.hid (B0.out.trans (b2.mono B0.out.size)); have X2 := Lib.hid (X0.out.later b2); clear b2 x0 x1 x2 x3 x4 x5; obtain ⟨x0, x1, x2, x3, x4, x5⟩ := X2.out.six) | (go_at_call 28; (with_reducible refine (KR.out _ B2.out).mono ?_); rintro e w3 ⟨rfl, b3⟩; have B3 := Lib.hid (B2.out.trans (b3.mono B2.out.size)); have X3 := Lib.hid (X2.out.later b3); clear b3 x0 x1 x2 x3 x4 x5; obtain ⟨x0, x1, x2, x3, x4, x5⟩ := X3.out.six) | (go_at_call 29; (with_reducible refine (KM.out _ B3.out).mono ?_); rintro e w4 ⟨rfl, b4⟩; have B4 := Lib.hid (B3.out.trans (b4.mono B3.out.size)); have X4 := Lib.hid (X3.out.later b4); clear b4 x0 x1 x2 x3 x4 x5; obtain ⟨x0, x1, x2, x3, x4, x5⟩ := X4.out.six))
          go_meet
          exact ⟨.inl rfl, B4.out, X4.out⟩
  case rest =>
    obtain ⟨hc, hB, hX⟩ := hcut
    have B2 := Lib.hid hB
    have X2 := Lib.hid hX
    clear hB hX KH KR KM x0 x1 x2 x3 x4 x5 X0 B0
    rcases hc with rfl | ⟨rfl, hm, h9, hu, ht⟩
    · go_wp2_with (go_at_call 10; (with_reducible refine (alive_any _).mono ?_); rintro e w5 ⟨rfl, d5⟩)
      go_ret
      exact ⟨rfl, B2.out.trans (d5.mono B2.out.size)⟩
    obtain ⟨f, rfl⟩ : ∃ f : Nat, fr = (f : Int) := ⟨fr.toNat, by omega⟩
    obtain ⟨x0, x1, x2, x3, x4, x5⟩ := X2.out.six
    have hl := rows_len hm
    go_upto_region 4 with fail
    have hj : ((f : Int) % ((p.rows.length : Int) + 1)) = ((f % (p.rows.length + 1) : Nat) : Int) := by push_cast; rfl
    have hk : f % (p.rows.length + 1) ≤ p.rows.length := by have := Nat.mod_lt f (show 0 < p.rows.length + 1 by omega); omega
    rw [hj]
    clear hj hf
    generalize f % (p.rows.length + 1) = k at *
    obtain ⟨sl, hsl, hsi⟩ := Is.tail (is_rows (HP.out.rows.later B2.out) HP.out.cap) hk
    have hll : (p.rows.drop k).length = p.rows.length - k := List.length_drop
    have SI := Lib.hid hsi
    have OW := Lib.hid (fun (W : World) (h : w.heap.size ≤ W.heap.size) => (show Own strS w (W.alloc (.cells #[] 9)) (.slice (some ⟨W.heap.size, 0, none⟩) 0 0) [] from Own.made strS w (w := W) [] h (by simp)))
    have SZ := Lib.hid B2.out.size
    clear hsi
    have hgs := (Array.getElem?_eq_some_iff.1 X2.out.box).1
    obtain ⟨R, hR⟩ : ∃ R, R = p.rows.drop k := ⟨_, rfl⟩
    rw [← hR] at SI hll
    have HR := Lib.hid hR
    have hst : ∀ W : World, (Instr.sliceAt 24 (.slice ad p.rows.length c) (some (.int .i64 (k : Int))) none none).run Try.prog W = .ok sl W := hsl
    clear hR hsl
    have X3 := Lib.hid (X2.out.later (below_new wc (.cells #[] 9)))
    have O3 := Lib.hid (OW.out wc SZ.out)
    have S3 := Lib.hid (is_src (SI.out.later (below_new wc (.cells #[] 9))))
    have LN := Lib.hid (show ([] : List ByteArray).length + R.length ≤ 1000000 by rw [hll, List.length_nil]; omega)
    clear x0 x1 x2 x3 x4 x5 hgs OW SZ
    obtain ⟨x0, x1, x2, x3, x4, x5⟩ := X3.out.six
    go_upto_region 5 with (refine wpList_app (S := strS) (W0 := w) (l := []) (m := R) rfl _ _ rfl O3.out S3.out LN.out rfl rfl ?_; intro v4 w4 o4 g4)
    have B4 := Lib.hid (Seq.below_own (B2.out.trans ((below_new wc (.cells #[] 9)).mono B2.out.size)) O3.out g4)
    have hgs := (Array.getElem?_eq_some_iff.1 X2.out.box).1
    have X4 : Hid (PBx w4 w.heap.size p (.slice ad p.rows.length c)) := Lib.hid ⟨(g4.block _ (Array.getElem?_eq_some_iff.1 X3.out.box).1 (fun e => by
      simp only [Value.ownBlock, Option.some.injEq] at e
      omega)).trans X3.out.box⟩
    rw [List.nil_append] at o4
    obtain ⟨a4, c4, rfl⟩ := o4.shape
    have OR := Lib.hid o4
    have RP := Lib.hid ((Rin.came HP.out.rows HP.out.cap).later B4.out)
    have PW := Lib.hid HP.out.wf
    have HM := Lib.hid hm
    have HK := Lib.hid hk
    have KA1 := Lib.hid (ap_cut (W := w4) RP.out.r RP.out.cap PW.out HM.out HK.out)
    obtain ⟨hz, -⟩ : True ∧ True := ⟨trivial, trivial⟩
    have HLL := Lib.hid hll
    clear x0 x1 x2 x3 x4 x5 o4 g4 O3 S3 X3 X2 B2 SI LN hst hgs hll
    obtain ⟨x0, x1, x2, x3, x4, x5⟩ := X4.out.six
    go_upto_region 6 with (go_at_call 21; (with_reducible refine KA1.out.mono ?_); rintro e w5 ⟨va, rfl, ra, oa, b5⟩; obtain ⟨a5, c5, rfl, _⟩ := id ra; unfold pgV; simp only [])
    have hlk : (p.rows.take k).length = k := by rw [List.length_take]; have := HK.out; omega
    have n5 := fun (W : World) => below_new W (.cells #[.int .u8 (p.kind : Int), .int .u8 (p.level : Int), .int .u32 (p.id : Int), .int .u64 3, .int .u32 (p.next : Int), .slice a5 k c5] 45)
    have B6 := Lib.hid ((B4.out.trans (b5.mono B4.out.size)).trans ((n5 w5).mono (B4.out.trans (b5.mono B4.out.size)).size))
    have X6 := Lib.hid ((X4.out.later b5).later (n5 w5))
    have XA := Lib.hid (Raw.new w5 (p.kind : Int) (p.level : Int) (p.id : Int) 3 (p.next : Int) (.slice a5 k c5))
    have RA := Lib.hid (show Rin w _ (.slice a5 k c5) (p.rows.take k) from by
      have := (RP.out.got b5 ra oa (fun h h1 => rows_nil_of RP.out.r (h ▸ ra) h1)).later (n5 w5)
      simp only [hlk] at this
      exact this)
    have OR6 := Lib.hid ((OR.out.later b5).later (n5 w5))
    have RP6 := Lib.hid ((RP.out.later b5).later (n5 w5))
    generalize hga : w5.heap.size = ga at *
    generalize World.alloc w5 _ = w6 at *
    clear b5 ra oa n5 hga B4 X4 OR RP KA1 x0 x1 x2 x3 x4 x5
    have KA2 := Lib.hid (show Calls Try.prog 23 #[.agg #[.int .u8 0, .int .u8 0, .int .u32 9, .int .u64 0, .int .u32 0, .slice none 0 0], .int .u64 3, .slice (some ⟨w6.heap.size, 0, none⟩) 2 2] (w6.alloc (.cells #[.int .u8 1, .int .u32 9, .int .i64 0, .int .i64 0, .string ⟨#[]⟩, .slice none 0 0, .int .u8 (p.kind : Int), .int .u8 0, .int .u32 0, .int .u8 6, .int .u32 9, .int .i64 0, .int .i64 0, .string ⟨#[]⟩, .slice a4 R.length c4, .int .u8 0, .int .u8 0, .int .u32 0] 26)) (PgOut _ (.slice none 0 0) ⟨p.kind, 0, 9, 3, 0, R⟩ 0) from by
      have := ap_else (k := k) (u := .slice a4 R.length c4) PW.out HM.out rfl (by rw [← HR.out]; exact OR6.out.is.later (below_new w6 _)) (heap_alloc_new w6 (.cells #[.int .u8 1, .int .u32 9, .int .i64 0, .int .i64 0, .string ⟨#[]⟩, .slice none 0 0, .int .u8 (p.kind : Int), .int .u8 0, .int .u32 0, .int .u8 6, .int .u32 9, .int .i64 0, .int .i64 0, .string ⟨#[]⟩, .slice a4 R.length c4, .int .u8 0, .int .u8 0, .int .u32 0] 26))
      rw [← HR.out] at this
      exact this)
    obtain ⟨x0, x1, x2, x3, x4, x5⟩ := X6.out.six
    have hgs := (Array.getElem?_eq_some_iff.1 X6.out.box).1
    go_upto_region 7 with (go_at_call 23; (with_reducible refine KA2.out.mono ?_); rintro e w7 ⟨vb, rfl, rb, ob, b7⟩; obtain ⟨a7, c7, rfl, _⟩ := id rb; unfold pgV; simp only [])
    have n8 := fun (W : World) => below_new W (.cells #[.int .u8 (p.kind : Int), .int .u8 0, .int .u32 9, .int .u64 3, .int .u32 0, .slice a7 R.length c7] 45)
    have t8 := fun (o : Obj) (b : Below (w6.alloc o).heap.size (w6.alloc o) w7) => ((below_new w6 o).trans (b.mono (below_new w6 o).size)).trans ((n8 w7).mono ((below_new w6 o).trans (b.mono (below_new w6 o).size)).size)
    have T8 := t8 _ b7
    have XB := Lib.hid (Raw.new w7 (p.kind : Int) 0 9 3 0 (.slice a7 R.length c7))
    have rn : ∀ W : World, Rin w W (.slice none 0 0) [] := fun W => ⟨⟨none, 0, rfl, .inl rfl⟩, fun h => absurd rfl h, Page.cap_none⟩
    have RB := Lib.hid (((rn _).got b7 rb ob (fun h h1 => rows_nil_of (rn w7).r (h ▸ rb) h1)).later (n8 w7))
    have B8 := Lib.hid (B6.out.trans (T8.mono B6.out.size))
    have X8 := Lib.hid (X6.out.later T8)
    have XA8 := Lib.hid (XA.out.later T8)
    have RA8 := Lib.hid (RA.out.later T8)
    have OR8 := Lib.hid (OR6.out.later T8)
    have RP8 := Lib.hid (RP6.out.later T8)
    generalize hgb : w7.heap.size = gb at *
    generalize World.alloc w7 _ = w8 at *
    clear b7 rb ob n8 t8 T8 hgb rn B6 X6 XA RA OR6 RP6 KA2 x0 x1 x2 x3 x4 x5 hgs
    have KA3 := Lib.hid (show Calls Try.prog 21 #[.agg #[.int .u8 (p.kind : Int), .int .u8 (p.level : Int), .int .u32 (p.id : Int), .int .u64 3, .int .u32 (p.next : Int), .slice a5 k c5], .agg #[.int .u8 6, .int .u32 (p.id : Int), .int .i64 0, .int .i64 0, .string ⟨#[]⟩, .slice a4 R.length c4, .int .u8 0, .int .u8 0, .int .u32 0], .int .u64 (p.lsn : Int)] w8 (PgOut w8 (.slice a5 k c5) p 0) from
      ap_fill (x := 3) RA8.out.r RA8.out.cap PW.out HM.out HK.out (by decide) (by rw [← HR.out]; exact OR8.out.is))
    obtain ⟨x0, x1, x2, x3, x4, x5⟩ := X8.out.six
    obtain ⟨y0, y1, y2, y3, y4, y5⟩ := XA8.out.six
    go_upto_region 8 with (go_at_call 21; (with_reducible refine KA3.out.mono ?_); rintro e w9 ⟨vc, rfl, rc, oc, b9⟩; obtain ⟨a9, c9, rfl, _⟩ := id rc; unfold pgV; simp only [])
    have n10 := fun (W : World) => below_new W (.cells (pgC p (.slice a9 p.rows.length c9)) 45)
    have T10 := b9.trans ((n10 w9).mono b9.size)
    have XC := Lib.hid (PBx.new w9 p (.slice a9 p.rows.length c9))
    have RC := Lib.hid ((RA8.out.got b9 rc oc (fun h h1 => rows_nil_of RA8.out.r (h ▸ rc) h1)).later (n10 w9))
    have B10 := Lib.hid (B8.out.trans (T10.mono B8.out.size))
    have X10 := Lib.hid (X8.out.later T10)
    have XA10 := Lib.hid (XA8.out.later T10)
    have RA10 := Lib.hid (RA8.out.later T10)
    have OR10 := Lib.hid (OR8.out.later T10)
    have RP10 := Lib.hid (RP8.out.later T10)
    have XB10 := Lib.hid (XB.out.later T10)
    have RB10 := Lib.hid (RB.out.later T10)
    clear T10 n10 b9 rc oc
    unfold pgC at XC RC B10 X10 XA10 RA10 OR10 RP10 XB10 RB10
    generalize hgc : w9.heap.size = gc at *
    generalize World.alloc w9 _ = w10 at *
    clear hgc B8 X8 XA8 RA8 OR8 RP8 XB RB KA3 x0 x1 x2 x3 x4 x5 y0 y1 y2 y3 y4 y5
    obtain ⟨sh, hsh, hsi⟩ := Is.head (is_rows HP.out.rows HP.out.cap) HK.out
    have hst : ∀ W : World, (Instr.sliceAt 24 (.slice ad p.rows.length c) none (some (.int .i64 (k : Int))) none).run Try.prog W = .ok sh W := hsh
    have SH := Lib.hid hsi
    clear hsh hsi
    have US := Lib.hid (show (p.rows.take k).length ≤ 1000000 ∧ R.length ≤ 1000000 ∧ p.rows.length ≤ 1000000 from by
      have h1 := rows_len HM.out
      have h2 := HLL.out
      rw [hlk]
      omega)
    have KT1 := Lib.hid (fun W (B : Below w10.heap.size w10 W) => (show Calls Try.prog 26 #[.slice a5 k c5, sh] W fun e w' => e = .returned (.bool true) ∧ Below W.heap.size W w' from by
      have := rtexts_any (p.rows.take k) (p.rows.take k) (RA10.out.later B).r (rows_is ((SH.out.later B10.out).later B)) US.out.1 US.out.1
      rw [decide_eq_true rfl] at this
      exact this))
    have KT2 := Lib.hid (fun W (B : Below w10.heap.size w10 W) => (show Calls Try.prog 26 #[.slice a7 R.length c7, .slice a4 R.length c4] W fun e w' => e = .returned (.bool true) ∧ Below W.heap.size W w' from by
      have := rtexts_any R R (RB10.out.later B).r (rows_is (OR10.out.is.later B)) US.out.2.1 US.out.2.1
      rw [decide_eq_true rfl] at this
      exact this))
    have KS0 := Lib.hid (fun W (v : Value) (h : Page.Rows W v p.rows) (h2 : Page.Rows W (.slice ad p.rows.length c) p.rows) => (show Calls Try.prog 25 #[pgV p v, pgV p (.slice ad p.rows.length c)] W fun e w' => e = .returned (.bool true) ∧ Below W.heap.size W w' from by
      have := Page.rsame_any p p h h2 US.out.2.2
      rw [show Page.sameB p p = true from (Page.same_iff p p).2 rfl] at this
      exact this))
    unfold pgV at KS0
    have KS1 := Lib.hid (fun W (B : Below w10.heap.size w10 W) => KS0.out W _ (RC.out.later B).r (RP10.out.later B).r)
    have SC := Lib.hid (fun W (B : Below w10.heap.size w10 W) => (show W.cell? ⟨w.heap.size, 0, none⟩ = some (.int .u8 (p.kind : Int)) ∧ W.cell? ⟨w.heap.size, 1, none⟩ = some (.int .u8 (p.level : Int)) ∧ W.cell? ⟨w.heap.size, 2, none⟩ = some (.int .u32 (p.id : Int)) ∧ W.cell? ⟨w.heap.size, 3, none⟩ = some (.int .u64 (p.lsn : Int)) ∧ W.cell? ⟨w.heap.size, 4, none⟩ = some (.int .u32 (p.next : Int)) ∧ W.cell? ⟨w.heap.size, 5, none⟩ = some (.slice ad p.rows.length c) ∧ W.cell? ⟨gc, 0, none⟩ = some (.int .u8 (p.kind : Int)) ∧ W.cell? ⟨gc, 1, none⟩ = some (.int .u8 (p.level : Int)) ∧ W.cell? ⟨gc, 2, none⟩ = some (.int .u32 (p.id : Int)) ∧ W.cell? ⟨gc, 3, none⟩ = some (.int .u64 (p.lsn : Int)) ∧ W.cell? ⟨gc, 4, none⟩ = some (.int .u32 (p.next : Int)) ∧ W.cell? ⟨gc, 5, none⟩ = some (.slice a9 p.rows.length c9) ∧ W.cell? ⟨ga, 5, none⟩ = some (.slice a5 k c5) ∧ W.cell? ⟨gb, 5, none⟩ = some (.slice a7 R.length c7) from by
      obtain ⟨h0, h1, h2, h3, h4, h5⟩ := (X10.out.later B).six
      obtain ⟨k0, k1, k2, k3, k4, k5⟩ := (XC.out.later B).six
      exact ⟨h0, h1, h2, h3, h4, h5, k0, k1, k2, k3, k4, k5, (XA10.out.later B).six.2.2.2.2.2, (XB10.out.later B).six.2.2.2.2.2⟩))
    clear hlk
    go_cut [128] (fun r wx => r = .bool false ∧ Below w10.heap.size w10 wx)
    case first =>
      as_aux_lemma =>
        refine wp_region_noPanic ?_
        refine wp_region_held_drew (S := fun w' => w'.cell? ⟨w.heap.size, 0, none⟩ = some (.int .u8 (p.kind : Int)) ∧ w'.cell? ⟨w.heap.size, 1, none⟩ = some (.int .u8 (p.level : Int)) ∧ w'.cell? ⟨w.heap.size, 2, none⟩ = some (.int .u32 (p.id : Int)) ∧ w'.cell? ⟨w.heap.size, 3, none⟩ = some (.int .u64 (p.lsn : Int)) ∧ w'.cell? ⟨w.heap.size, 4, none⟩ = some (.int .u32 (p.next : Int)) ∧ w'.cell? ⟨w.heap.size, 5, none⟩ = some (.slice ad p.rows.length c) ∧ w'.cell? ⟨gc, 0, none⟩ = some (.int .u8 (p.kind : Int)) ∧ w'.cell? ⟨gc, 1, none⟩ = some (.int .u8 (p.level : Int)) ∧ w'.cell? ⟨gc, 2, none⟩ = some (.int .u32 (p.id : Int)) ∧ w'.cell? ⟨gc, 3, none⟩ = some (.int .u64 (p.lsn : Int)) ∧ w'.cell? ⟨gc, 4, none⟩ = some (.int .u32 (p.next : Int)) ∧ w'.cell? ⟨gc, 5, none⟩ = some (.slice a9 p.rows.length c9) ∧ w'.cell? ⟨ga, 5, none⟩ = some (.slice a5 k c5) ∧ w'.cell? ⟨gb, 5, none⟩ = some (.slice a7 R.length c7)) (by kernel_rfl) (SC.out _ (Below.refl _ _).drew) (fun hHeld => ?_)
        refine wpAnyH_take (i := 0) (v := ?_) rfl (by kernel_rfl) (by kernel_rfl) (by kernel_rfl) (fun _ _ _ h => h) (Or.inl ⟨by rfl, ?_⟩) hHeld ?_
        rotate_left
        · (intro w hSw; (try dsimp only at hSw); go_simp; (try with_reducible rfl))
        simp only [List.getElem_toArray, List.getElem_cons_zero, Act.put, List.setIfInBounds_toArray, List.set_cons_zero, List.set_cons_succ]
        refine wpAnyH_take (i := 1) (v := ?_) rfl (by kernel_rfl) (by kernel_rfl) (by kernel_rfl) (fun _ _ _ h => h) (Or.inl ⟨by rfl, ?_⟩) hHeld ?_
        rotate_left
        · (intro w hSw; (try dsimp only at hSw); go_simp; (try with_reducible rfl))
        simp only [List.getElem_toArray, List.getElem_cons_succ, List.getElem_cons_zero, Act.put, List.setIfInBounds_toArray, List.set_cons_zero, List.set_cons_succ]
        refine wpAnyH_take (i := 2) (v := ?_) rfl (by kernel_rfl) (by kernel_rfl) (by kernel_rfl) (fun _ _ _ h => h) (Or.inl ⟨by rfl, ?_⟩) hHeld ?_
        rotate_left
        · (intro w hSw; (try dsimp only at hSw); go_simp; (try with_reducible rfl))
        simp only [List.getElem_toArray, List.getElem_cons_succ, List.getElem_cons_zero, Act.put, List.setIfInBounds_toArray, List.set_cons_zero, List.set_cons_succ]
        refine wpAnyH_take (i := 3) (v := ?_) rfl (by kernel_rfl) (by kernel_rfl) (by kernel_rfl) (fun _ _ _ h => h) (Or.inl ⟨by rfl, ?_⟩) hHeld ?_
        rotate_left
        · (intro w hSw; (try dsimp only at hSw); go_simp; (try with_reducible rfl))
        simp only [List.getElem_toArray, List.getElem_cons_succ, List.getElem_cons_zero, Act.put, List.setIfInBounds_toArray, List.set_cons_zero, List.set_cons_succ]
        refine wpAnyH_take (i := 4) (v := ?_) rfl (by kernel_rfl) (by kernel_rfl) (by kernel_rfl) (fun _ _ _ h => h) (Or.inl ⟨by rfl, ?_⟩) hHeld ?_
        rotate_left
        · (intro w hSw; (try dsimp only at hSw); go_simp; (try with_reducible rfl))
        simp only [List.getElem_toArray, List.getElem_cons_succ, List.getElem_cons_zero, Act.put, List.setIfInBounds_toArray, List.set_cons_zero, List.set_cons_succ]
        refine wpAnyH_take (i := 5) (v := ?_) rfl (by kernel_rfl) (by kernel_rfl) (by kernel_rfl) (fun _ _ _ h => h) (Or.inl ⟨by rfl, ?_⟩) hHeld ?_
        rotate_left
        · (intro w hSw; (try dsimp only at hSw); go_simp; (try with_reducible rfl))
        simp only [List.getElem_toArray, List.getElem_cons_succ, List.getElem_cons_zero, Act.put, List.setIfInBounds_toArray, List.set_cons_zero, List.set_cons_succ]
        refine wpAnyH_take (i := 6) (v := ?_) rfl (by kernel_rfl) (by kernel_rfl) (by kernel_rfl) (fun _ _ _ h => h) (Or.inl ⟨by rfl, ?_⟩) hHeld ?_
        rotate_left
        · (intro w hSw; (try dsimp only at hSw); go_simp; (try with_reducible rfl))
        simp only [List.getElem_toArray, List.getElem_cons_succ, List.getElem_cons_zero, Act.put, List.setIfInBounds_toArray, List.set_cons_zero, List.set_cons_succ]
        refine wpAnyH_take (i := 7) (v := ?_) rfl (by kernel_rfl) (by kernel_rfl) (by kernel_rfl) (fun _ _ _ h => h) (Or.inl ⟨by rfl, ?_⟩) hHeld ?_
        rotate_left
        · (intro w hSw; (try dsimp only at hSw); go_simp; (try with_reducible rfl))
        simp only [List.getElem_toArray, List.getElem_cons_succ, List.getElem_cons_zero, Act.put, List.setIfInBounds_toArray, List.set_cons_zero, List.set_cons_succ]
        refine wpAnyH_take (i := 8) (v := ?_) rfl (by kernel_rfl) (by kernel_rfl) (by kernel_rfl) (fun _ _ _ h => h) (Or.inl ⟨by rfl, ?_⟩) hHeld ?_
        rotate_left
        · (intro w hSw; (try dsimp only at hSw); go_simp; (try with_reducible rfl))
        simp only [List.getElem_toArray, List.getElem_cons_succ, List.getElem_cons_zero, Act.put, List.setIfInBounds_toArray, List.set_cons_zero, List.set_cons_succ]
        refine wpAnyH_take (i := 9) (v := ?_) rfl (by kernel_rfl) (by kernel_rfl) (by kernel_rfl) (fun _ _ _ h => h) (Or.inl ⟨by rfl, ?_⟩) hHeld ?_
        rotate_left
        · (intro w hSw; (try dsimp only at hSw); go_simp; (try with_reducible rfl))
        simp only [List.getElem_toArray, List.getElem_cons_succ, List.getElem_cons_zero, Act.put, List.setIfInBounds_toArray, List.set_cons_zero, List.set_cons_succ]
        refine wpAnyH_take (i := 10) (v := ?_) rfl (by kernel_rfl) (by kernel_rfl) (by kernel_rfl) (fun _ _ _ h => h) (Or.inl ⟨by rfl, ?_⟩) hHeld ?_
        rotate_left
        · (intro w hSw; (try dsimp only at hSw); go_simp; (try with_reducible rfl))
        simp only [List.getElem_toArray, List.getElem_cons_succ, List.getElem_cons_zero, Act.put, List.setIfInBounds_toArray, List.set_cons_zero, List.set_cons_succ]
        refine wpAnyH_take (i := 11) (v := ?_) rfl (by kernel_rfl) (by kernel_rfl) (by kernel_rfl) (fun _ _ _ h => h) (Or.inl ⟨by rfl, ?_⟩) hHeld ?_
        rotate_left
        · (intro w hSw; (try dsimp only at hSw); go_simp; (try with_reducible rfl))
        simp only [List.getElem_toArray, List.getElem_cons_succ, List.getElem_cons_zero, Act.put, List.setIfInBounds_toArray, List.set_cons_zero, List.set_cons_succ]
        refine wpAnyH_take (i := 12) (v := ?_) rfl (by kernel_rfl) (by kernel_rfl) (by kernel_rfl) (fun _ _ _ h => h) (Or.inl ⟨by rfl, ?_⟩) hHeld ?_
        rotate_left
        · (intro w hSw; (try dsimp only at hSw); go_simp; (try with_reducible rfl))
        simp only [List.getElem_toArray, List.getElem_cons_succ, List.getElem_cons_zero, Act.put, List.setIfInBounds_toArray, List.set_cons_zero, List.set_cons_succ]
        refine wpAnyH_take (i := 13) (v := ?_) rfl (by kernel_rfl) (by kernel_rfl) (by kernel_rfl) (fun _ _ _ h => h) (Or.inl ⟨by rfl, ?_⟩) hHeld ?_
        rotate_left
        · (intro w hSw; (try dsimp only at hSw); go_simp; (try with_reducible rfl))
        simp only [List.getElem_toArray, List.getElem_cons_succ, List.getElem_cons_zero, Act.put, List.setIfInBounds_toArray, List.set_cons_zero, List.set_cons_succ]
        refine wpAnyH_take (i := 14) (v := ?_) rfl (by kernel_rfl) (by kernel_rfl) (by kernel_rfl) (fun _ _ _ h => h) (Or.inl ⟨by rfl, ?_⟩) hHeld ?_
        rotate_left
        · (intro w hSw; (try dsimp only at hSw); go_simp; (try with_reducible rfl))
        simp only [List.getElem_toArray, List.getElem_cons_succ, List.getElem_cons_zero, Act.put, List.setIfInBounds_toArray, List.set_cons_zero, List.set_cons_succ]
        refine wpAnyH_take (i := 15) (v := ?_) rfl (by kernel_rfl) (by kernel_rfl) (by kernel_rfl) (fun _ _ _ h => h) (Or.inl ⟨by rfl, ?_⟩) hHeld ?_
        rotate_left
        · (intro w hSw; (try dsimp only at hSw); go_simp; (try with_reducible rfl))
        simp only [List.getElem_toArray, List.getElem_cons_succ, List.getElem_cons_zero, Act.put, List.setIfInBounds_toArray, List.set_cons_zero, List.set_cons_succ]
        refine wpAnyH_take (i := 16) (v := ?_) rfl (by kernel_rfl) (by kernel_rfl) (by kernel_rfl) (fun _ _ _ h => h) (Or.inl ⟨by rfl, ?_⟩) hHeld ?_
        rotate_left
        · (intro w hSw; (try dsimp only at hSw); go_simp; (try with_reducible rfl))
        simp only [List.getElem_toArray, List.getElem_cons_succ, List.getElem_cons_zero, Act.put, List.setIfInBounds_toArray, List.set_cons_zero, List.set_cons_succ]
        refine wpAnyH_ready (rs := [17]) (by kernel_rfl) (by simp) (AllReadyH.cons rfl (fun K hK => ?_) AllReadyH.nil)
        refine step_fnW (by rfl) (.func 26) [.tmp 108, .tmp 112] _ rfl 26 [] (by simp [Act.eval]) _ Try.func26 (by kernel_rfl) (by kernel_rfl) (KT1.out _ (Below.refl _ _).drew) (by rfl) ?_
        rintro e w11 ⟨rfl, b11⟩
        refine ⟨_, rfl, ?_⟩
        have T11 := (show Below w10.heap.size w10 w11 from ((Below.refl _ _).drew).trans b11)
        refine hK.out _ _ (SC.out _ T11) (fun hHeld => ?_)
        clear hK K
        simp only [List.getElem_toArray, List.getElem_cons_succ, List.getElem_cons_zero, Act.put, List.setIfInBounds_toArray, List.set_cons_zero, List.set_cons_succ]
        refine wpAnyH_take (i := 18) (v := ?_) rfl (by kernel_rfl) (by kernel_rfl) (by kernel_rfl) (fun _ _ _ h => h) (Or.inl ⟨by rfl, ?_⟩) hHeld ?_
        rotate_left
        · (intro w hSw; (try dsimp only at hSw); go_simp; (try with_reducible rfl))
        simp only [List.getElem_toArray, List.getElem_cons_succ, List.getElem_cons_zero, Act.put, List.setIfInBounds_toArray, List.set_cons_zero, List.set_cons_succ]
        refine wpAnyH_take (i := 19) (v := ?_) rfl (by kernel_rfl) (by kernel_rfl) (by kernel_rfl) (fun _ _ _ h => h) (Or.inl ⟨by rfl, ?_⟩) hHeld ?_
        rotate_left
        · (intro w hSw; (try dsimp only at hSw); go_simp; (try with_reducible rfl))
        simp only [List.getElem_toArray, List.getElem_cons_succ, List.getElem_cons_zero, Act.put, List.setIfInBounds_toArray, List.set_cons_zero, List.set_cons_succ]
        refine wpAnyH_take (i := 20) (v := ?_) rfl (by kernel_rfl) (by kernel_rfl) (by kernel_rfl) (fun _ _ _ h => h) (Or.inl ⟨by rfl, ?_⟩) hHeld ?_
        rotate_left
        · (intro w hSw; (try dsimp only at hSw); go_simp; (try with_reducible rfl))
        simp only [List.getElem_toArray, List.getElem_cons_succ, List.getElem_cons_zero, Act.put, List.setIfInBounds_toArray, List.set_cons_zero, List.set_cons_succ]
        refine wpAnyH_take (i := 21) (v := ?_) rfl (by kernel_rfl) (by kernel_rfl) (by kernel_rfl) (fun _ _ _ h => h) (Or.inl ⟨by rfl, ?_⟩) hHeld ?_
        rotate_left
        · (intro w hSw; (try dsimp only at hSw); go_simp; (try with_reducible rfl))
        simp only [List.getElem_toArray, List.getElem_cons_succ, List.getElem_cons_zero, Act.put, List.setIfInBounds_toArray, List.set_cons_zero, List.set_cons_succ]
        refine wpAnyH_take (i := 22) (v := ?_) rfl (by kernel_rfl) (by kernel_rfl) (by kernel_rfl) (fun _ _ _ h => h) (Or.inl ⟨by rfl, ?_⟩) hHeld ?_
        rotate_left
        · (intro w hSw; (try dsimp only at hSw); go_simp; (try with_reducible rfl))
        simp only [List.getElem_toArray, List.getElem_cons_succ, List.getElem_cons_zero, Act.put, List.setIfInBounds_toArray, List.set_cons_zero, List.set_cons_succ]
        refine wpAnyH_take (i := 23) (v := ?_) rfl (by kernel_rfl) (by kernel_rfl) (by kernel_rfl) (fun _ _ _ h => h) (Or.inl ⟨by rfl, ?_⟩) hHeld ?_
        rotate_left
        · (intro w hSw; (try dsimp only at hSw); go_simp; (try with_reducible rfl))
        simp only [List.getElem_toArray, List.getElem_cons_succ, List.getElem_cons_zero, Act.put, List.setIfInBounds_toArray, List.set_cons_zero, List.set_cons_succ]
        refine wpAnyH_ready (rs := [24]) (by kernel_rfl) (by simp) (AllReadyH.cons rfl (fun K hK => ?_) AllReadyH.nil)
        refine step_fnW (by rfl) (.func 26) [.tmp 118, .tmp 119] _ rfl 26 [] (by simp [Act.eval]) _ Try.func26 (by kernel_rfl) (by kernel_rfl) (KT2.out _ T11) (by rfl) ?_
        rintro e w12 ⟨rfl, b12⟩
        refine ⟨_, rfl, ?_⟩
        have T12 := T11.trans (b12.mono T11.size)
        refine hK.out _ _ (SC.out _ T12) (fun hHeld => ?_)
        clear hK K
        simp only [List.getElem_toArray, List.getElem_cons_succ, List.getElem_cons_zero, Act.put, List.setIfInBounds_toArray, List.set_cons_zero, List.set_cons_succ]
        refine wpAnyH_take (i := 25) (v := ?_) rfl (by kernel_rfl) (by kernel_rfl) (by kernel_rfl) (fun _ _ _ h => h) (Or.inl ⟨by rfl, ?_⟩) hHeld ?_
        rotate_left
        · (intro w hSw; (try dsimp only at hSw); go_simp; (try with_reducible rfl))
        simp only [List.getElem_toArray, List.getElem_cons_succ, List.getElem_cons_zero, Act.put, List.setIfInBounds_toArray, List.set_cons_zero, List.set_cons_succ]
        refine wpAnyH_take (i := 26) (v := ?_) rfl (by kernel_rfl) (by kernel_rfl) (by kernel_rfl) (fun _ _ _ h => h) (Or.inl ⟨by rfl, ?_⟩) hHeld ?_
        rotate_left
        · (intro w hSw; (try dsimp only at hSw); go_simp; (try with_reducible rfl))
        simp only [List.getElem_toArray, List.getElem_cons_succ, List.getElem_cons_zero, Act.put, List.setIfInBounds_toArray, List.set_cons_zero, List.set_cons_succ]
        refine wpAnyH_take (i := 27) (v := ?_) rfl (by kernel_rfl) (by kernel_rfl) (by kernel_rfl) (fun _ _ _ h => h) (Or.inl ⟨by rfl, ?_⟩) hHeld ?_
        rotate_left
        · (intro w hSw; (try dsimp only at hSw); go_simp; (try with_reducible rfl))
        simp only [List.getElem_toArray, List.getElem_cons_succ, List.getElem_cons_zero, Act.put, List.setIfInBounds_toArray, List.set_cons_zero, List.set_cons_succ]
        refine wpAnyH_take (i := 28) (v := ?_) rfl (by kernel_rfl) (by kernel_rfl) (by kernel_rfl) (fun _ _ _ h => h) (Or.inl ⟨by rfl, ?_⟩) hHeld ?_
        rotate_left
        · (intro w hSw; (try dsimp only at hSw); go_simp; (try with_reducible rfl))
        simp only [List.getElem_toArray, List.getElem_cons_succ, List.getElem_cons_zero, Act.put, List.setIfInBounds_toArray, List.set_cons_zero, List.set_cons_succ]
        refine wpAnyH_take (i := 29) (v := ?_) rfl (by kernel_rfl) (by kernel_rfl) (by kernel_rfl) (fun _ _ _ h => h) (Or.inl ⟨by rfl, ?_⟩) hHeld ?_
        rotate_left
        · (intro w hSw; (try dsimp only at hSw); go_simp; (try with_reducible rfl))
        simp only [List.getElem_toArray, List.getElem_cons_succ, List.getElem_cons_zero, Act.put, List.setIfInBounds_toArray, List.set_cons_zero, List.set_cons_succ]
        refine wpAnyH_ready (rs := [30]) (by kernel_rfl) (by simp) (AllReadyH.cons rfl (fun K hK => ?_) AllReadyH.nil)
        refine step_fnW (by rfl) (.func 25) [.tmp 124, .tmp 125] _ rfl 25 [] (by simp [Act.eval]) _ Try.func25 (by kernel_rfl) (by kernel_rfl) (KS1.out _ T12) (by rfl) ?_
        rintro e w13 ⟨rfl, b13⟩
        refine ⟨_, rfl, ?_⟩
        have T13 := T12.trans (b13.mono T12.size)
        refine hK.out _ _ (SC.out _ T13) (fun hHeld => ?_)
        clear hK K
        simp only [List.getElem_toArray, List.getElem_cons_succ, List.getElem_cons_zero, Act.put, List.setIfInBounds_toArray, List.set_cons_zero, List.set_cons_succ]
        refine wpAnyH_take (i := 31) (v := ?_) rfl (by kernel_rfl) (by kernel_rfl) (by kernel_rfl) (fun _ _ _ h => h) (Or.inl ⟨by rfl, ?_⟩) hHeld ?_
        rotate_left
        · (intro w hSw; (try dsimp only at hSw); go_simp; (try with_reducible rfl))
        simp only [List.getElem_toArray, List.getElem_cons_succ, List.getElem_cons_zero, Act.put, List.setIfInBounds_toArray, List.set_cons_zero, List.set_cons_succ]
        refine wpAnyH_take (i := 32) (v := ?_) rfl (by kernel_rfl) (by kernel_rfl) (by kernel_rfl) (fun _ _ _ h => h) (Or.inl ⟨by rfl, ?_⟩) hHeld ?_
        rotate_left
        · (intro w hSw; (try dsimp only at hSw); go_simp; (try with_reducible rfl))
        simp only [List.getElem_toArray, List.getElem_cons_succ, List.getElem_cons_zero, Act.put, List.setIfInBounds_toArray, List.set_cons_zero, List.set_cons_succ]
        refine wpAnyH_done (by kernel_rfl) ?_ _
        refine NoPanic.normal ?_
        go_wp2_with fail
        go_meet
        exact ⟨rfl, T13⟩
    case rest =>
    obtain ⟨rfl, hB⟩ := hcut
    have B11 := Lib.hid (B10.out.trans (hB.mono B10.out.size))
    have X11 := Lib.hid (X10.out.later hB)
    have RP11 := Lib.hid (RP10.out.later hB)
    clear hB KT1 KT2 KS1 SC SH hst XC RC B10 X10 XA10 RA10 OR10 RP10 XB10 RB10
    go_upto_region 10 with fail
    obtain ⟨q, hq⟩ : ∃ q, q = appP p (putO p.id k t) 4 := ⟨_, rfl⟩
    obtain ⟨e, he⟩ : ∃ e, e = appE p (putO p.id k t) 4 := ⟨_, rfl⟩
    have KA4 := Lib.hid (ap_put (W := wc) (t := t) RP11.out.r RP11.out.cap PW.out HM.out HK.out (by omega))
    rw [← hq, ← he] at KA4
    have HQ := Lib.hid hq
    have HE := Lib.hid he
    clear hq he
    obtain ⟨x0, x1, x2, x3, x4, x5⟩ := X11.out.six
    go_upto_region 11 with (go_at_call 21; (with_reducible refine KA4.out.mono ?_); rintro e w12 ⟨vd, rfl, rd, od, b12⟩; obtain ⟨a12, c12, rfl, _⟩ := id rd; unfold pgV; simp only [])
    have n13 := fun (W : World) => below_new W (.cells #[.int .u8 (q.kind : Int), .int .u8 (q.level : Int), .int .u32 (q.id : Int), .int .u64 (q.lsn : Int), .int .u32 (q.next : Int), .slice a12 q.rows.length c12] 45)
    have T13 := b12.trans ((n13 w12).mono b12.size)
    have XD := Lib.hid (Raw.new w12 (q.kind : Int) (q.level : Int) (q.id : Int) (q.lsn : Int) (q.next : Int) (.slice a12 q.rows.length c12))
    have RD := Lib.hid ((RP11.out.got b12 rd od (fun h h1 => rows_nil_of RP11.out.r (h ▸ rd) h1)).later (n13 w12))
    have B13 := Lib.hid (B11.out.trans (T13.mono B11.out.size))
    have X13 := Lib.hid (X11.out.later T13)
    have RP13 := Lib.hid (RP11.out.later T13)
    clear T13 n13 b12 rd od KA4 B11 X11 RP11 x0 x1 x2 x3 x4 x5
    generalize hgd : w12.heap.size = gd at *
    generalize World.alloc w12 _ = w13 at *
    clear hgd
    go_upto_if 140 with fail
    go_cut [17] (fun _ wx => Below w.heap.size w wx ∧ PBx wx w.heap.size p (.slice ad p.rows.length c) ∧ Rin w wx (.slice ad p.rows.length c) p.rows)
    case first =>
      by_cases he : e = 0
      · have KA5 := Lib.hid (ap_drop HQ.out (by rw [← HE.out]; exact he) RD.out.r RD.out.cap PW.out HM.out HK.out)
        have f1 : ((e : Int) == 0) = true := by rw [he]; rfl
        clear he
        obtain ⟨x0, x1, x2, x3, x4, x5⟩ := X13.out.six
        obtain ⟨y0, y1, y2, y3, y4, y5⟩ := XD.out.six
        go_upto_region 13 with (first | (go_at_call 21; (with_reducible refine KA5.out.mono ?_); rintro e w14 ⟨ve, rfl, re, oe, b14⟩; obtain ⟨a14, c14, rfl, _⟩ := id re; unfold pgV; simp only []))
        have n15 := fun (W : World) => below_new W (.cells (pgC p (.slice a14 p.rows.length c14)) 45)
        have T15 := b14.trans ((n15 w14).mono b14.size)
        have XE := Lib.hid (PBx.new w14 p (.slice a14 p.rows.length c14))
        have RE := Lib.hid ((RD.out.got b14 re oe (fun h h1 => rows_nil_of RD.out.r (h ▸ re) h1)).later (n15 w14))
        have B15 := Lib.hid (B13.out.trans (T15.mono B13.out.size))
        have X15 := Lib.hid (X13.out.later T15)
        have RP15 := Lib.hid (RP13.out.later T15)
        clear T15 n15 b14 re oe KA5 B13 X13 RP13 XD RD x0 x1 x2 x3 x4 x5 y0 y1 y2 y3 y4 y5
        unfold pgC at XE RE B15 X15 RP15
        generalize hge : w14.heap.size = ge at *
        generalize World.alloc w14 _ = w15 at *
        clear hge
        have KS2 := Lib.hid (KS0.out w15 _ RE.out.r RP15.out.r)
        obtain ⟨x0, x1, x2, x3, x4, x5⟩ := X15.out.six
        obtain ⟨y0, y1, y2, y3, y4, y5⟩ := XE.out.six
        go_wp2_with (go_at_call 25; (with_reducible refine KS2.out.mono ?_); rintro e w16 ⟨rfl, b16⟩)
        go_meet
        exact ⟨B15.out.trans (b16.mono B15.out.size), X15.out.later b16, RP15.out.later b16⟩
      · have f1 : ((e : Int) == 0) = false := by rw [beq_eq_false_iff_ne]; omega
        clear he
        go_wp2_with fail
        go_meet
        exact ⟨B13.out, X13.out, RP13.out⟩
    case rest =>
    obtain ⟨hB, hX, hR⟩ := hcut
    have B17 := Lib.hid hB
    have X17 := Lib.hid hX
    have RP17 := Lib.hid hR
    clear hB hX hR HQ HE B13 X13 RP13 XD RD
    obtain ⟨x0, x1, x2, x3, x4, x5⟩ := X17.out.six
    by_cases hkl : k = p.rows.length
    · have f1 : ((k : Int) == (p.rows.length : Int)) = true := by rw [hkl]; simp
      clear hkl
      go_wp2_with (go_at_call 10; (with_reducible refine (alive_any _).mono ?_); rintro e w18 ⟨rfl, d18⟩)
      go_ret
      exact ⟨rfl, B17.out.trans (d18.mono B17.out.size)⟩
    have hkl : k < p.rows.length := by have := HK.out; omega
    have f1 : ((k : Int) == (p.rows.length : Int)) = false := by rw [beq_eq_false_iff_ne]; omega
    obtain ⟨q, hq⟩ : ∃ q, q = appP p (setO p.id k t) 4 := ⟨_, rfl⟩
    obtain ⟨e, he⟩ : ∃ e, e = appE p (setO p.id k t) 4 := ⟨_, rfl⟩
    have KA6 := Lib.hid (fun (W : World) (r : Page.Rows W (.slice ad p.rows.length c) p.rows) => ap_set (W := W) (t := t) r HP.out.cap PW.out HM.out HK.out (by omega))
    rw [← hq, ← he] at KA6
    have HQ := Lib.hid hq
    have HE := Lib.hid he
    clear hq he
    go_upto_region 18 with (go_at_call 21; (with_reducible refine (KA6.out _ RP17.out.r).mono ?_); rintro e w18 ⟨vd, rfl, rd, od, b18⟩; obtain ⟨a18, c18, rfl, _⟩ := id rd; unfold pgV; simp only [])
    have n19 := fun (W : World) => below_new W (.cells #[.int .u8 (q.kind : Int), .int .u8 (q.level : Int), .int .u32 (q.id : Int), .int .u64 (q.lsn : Int), .int .u32 (q.next : Int), .slice a18 q.rows.length c18] 45)
    have T19 := b18.trans ((n19 w18).mono b18.size)
    have XS := Lib.hid (Raw.new w18 (q.kind : Int) (q.level : Int) (q.id : Int) (q.lsn : Int) (q.next : Int) (.slice a18 q.rows.length c18))
    have RU := Lib.hid ((RP17.out.got b18 rd od (fun h h1 => rows_nil_of RP17.out.r (h ▸ rd) h1)).later (n19 w18))
    have B19 := Lib.hid (B17.out.trans (T19.mono B17.out.size))
    have X19 := Lib.hid (X17.out.later T19)
    have RP19 := Lib.hid (RP17.out.later T19)
    clear T19 n19 b18 rd od KA6 B17 X17 RP17 x0 x1 x2 x3 x4 x5
    generalize hgs : w18.heap.size = gs at *
    generalize World.alloc w18 _ = w19 at *
    clear hgs
    by_cases he : e = 0
    case neg =>
      have f2 : ((e : Int) != 0) = true := by rw [bne_iff_ne]; omega
      clear he
      go_wp2_with (go_at_call 10; (with_reducible refine (alive_any _).mono ?_); rintro e w18 ⟨rfl, d18⟩)
      go_ret
      exact ⟨rfl, B19.out.trans (d18.mono B19.out.size)⟩
    have f2 : ((e : Int) != 0) = false := by rw [he]; rfl
    obtain ⟨ad', c', ee, hh⟩ := HP.out.rows
    simp only [Value.slice.injEq] at ee
    obtain ⟨rfl, _, rfl⟩ := ee
    rcases hh with hh | ⟨br, xr, rfl, hbr, hcell⟩
    · rw [hh] at hkl; simp at hkl
    have TX := Lib.hid (fun W (B : Below w.heap.size w W) => (World.cell?_of_block (B.block br hbr)).trans (hcell k hkl))
    have KR := Lib.hid (fun W (B : Below w19.heap.size w19 W) => ap_back HQ.out (by rw [← HE.out]; exact he) (RU.out.later B).r RU.out.cap PW.out HM.out hkl)
    have NZ := Lib.hid (fun W v' (r : Page.Rows W v' p.rows) (h : v' = .slice a18 q.rows.length c18) => rows_nil_of RU.out.r (show Page.Rows W (.slice a18 q.rows.length c18) p.rows from h ▸ r))
    have SC := Lib.hid (fun W (b : Below w19.heap.size w19 W) => (show W.cell? ⟨w.heap.size, 0, none⟩ = some (.int .u8 (p.kind : Int)) ∧ W.cell? ⟨w.heap.size, 1, none⟩ = some (.int .u8 (p.level : Int)) ∧ W.cell? ⟨w.heap.size, 2, none⟩ = some (.int .u32 (p.id : Int)) ∧ W.cell? ⟨w.heap.size, 3, none⟩ = some (.int .u64 (p.lsn : Int)) ∧ W.cell? ⟨w.heap.size, 4, none⟩ = some (.int .u32 (p.next : Int)) ∧ W.cell? ⟨w.heap.size, 5, none⟩ = some (.slice (some ⟨br, xr, none⟩) p.rows.length c) ∧ W.cell? ⟨gs, 0, none⟩ = some (.int .u8 (q.kind : Int)) ∧ W.cell? ⟨gs, 1, none⟩ = some (.int .u8 (q.level : Int)) ∧ W.cell? ⟨gs, 2, none⟩ = some (.int .u32 (q.id : Int)) ∧ W.cell? ⟨gs, 3, none⟩ = some (.int .u64 (q.lsn : Int)) ∧ W.cell? ⟨gs, 4, none⟩ = some (.int .u32 (q.next : Int)) ∧ W.cell? ⟨gs, 5, none⟩ = some (.slice a18 q.rows.length c18) ∧ W.cell? ⟨br, xr + k, none⟩ = some (.string (Page.nth p.rows k)) from by
      obtain ⟨h0, h1, h2, h3, h4, h5⟩ := (X19.out.later b).six
      obtain ⟨k0, k1, k2, k3, k4, k5⟩ := (XS.out.later b).six
      exact ⟨h0, h1, h2, h3, h4, h5, k0, k1, k2, k3, k4, k5, TX.out _ (B19.out.trans (b.mono B19.out.size))⟩))
    have WV := Lib.hid B19.out.size
    have wk : IntKind.i64.wrap (k : Int) = (k : Int) := by rw [IntKind.wrap_i64]; have := rows_len HM.out; omega
    have kl : (k : Int) < (p.rows.length : Int) := by omega
    clear he HQ HE hbr hcell
    go_upto_region 20 with fail
    go_cut [21, 22] (fun x y wx => ∃ g v, x = .pointer (some ⟨g, 0, none⟩) ∧ y = .int .i64 0 ∧ Got w w19 wx g p v)
    case first =>
      refine wp_region_noPanic ?_
      refine wp_region_held_drew (S := (fun w' => w'.cell? ⟨w.heap.size, 0, none⟩ = some (.int .u8 (p.kind : Int)) ∧ w'.cell? ⟨w.heap.size, 1, none⟩ = some (.int .u8 (p.level : Int)) ∧ w'.cell? ⟨w.heap.size, 2, none⟩ = some (.int .u32 (p.id : Int)) ∧ w'.cell? ⟨w.heap.size, 3, none⟩ = some (.int .u64 (p.lsn : Int)) ∧ w'.cell? ⟨w.heap.size, 4, none⟩ = some (.int .u32 (p.next : Int)) ∧ w'.cell? ⟨w.heap.size, 5, none⟩ = some (.slice (some ⟨br, xr, none⟩) p.rows.length c) ∧ w'.cell? ⟨gs, 0, none⟩ = some (.int .u8 (q.kind : Int)) ∧ w'.cell? ⟨gs, 1, none⟩ = some (.int .u8 (q.level : Int)) ∧ w'.cell? ⟨gs, 2, none⟩ = some (.int .u32 (q.id : Int)) ∧ w'.cell? ⟨gs, 3, none⟩ = some (.int .u64 (q.lsn : Int)) ∧ w'.cell? ⟨gs, 4, none⟩ = some (.int .u32 (q.next : Int)) ∧ w'.cell? ⟨gs, 5, none⟩ = some (.slice a18 q.rows.length c18) ∧ w'.cell? ⟨br, xr + k, none⟩ = some (.string (Page.nth p.rows k)))) (by kernel_rfl) (SC.out _ (Below.refl _ _).drew) (fun hHeld => ?_)
      refine wpAnyH_take (i := 0) (v := ?_) rfl (by kernel_rfl) (by kernel_rfl) (by kernel_rfl) (fun _ _ _ h => h) (Or.inl ⟨by rfl, ?_⟩) hHeld ?_
      rotate_left
      · (intro w hSw; (try dsimp only at hSw); go_simp; (try with_reducible rfl))
      simp only [List.getElem_toArray, List.getElem_cons_zero, Act.put, List.setIfInBounds_toArray, List.set_cons_zero, List.set_cons_succ]
      refine wpAnyH_take (i := 1) (v := ?_) rfl (by kernel_rfl) (by kernel_rfl) (by kernel_rfl) (fun _ _ _ h => h) (Or.inl ⟨by rfl, ?_⟩) hHeld ?_
      rotate_left
      · (intro w hSw; (try dsimp only at hSw); go_simp; (try with_reducible rfl))
      simp only [List.getElem_toArray, List.getElem_cons_succ, List.getElem_cons_zero, Act.put, List.setIfInBounds_toArray, List.set_cons_zero, List.set_cons_succ]
      refine wpAnyH_take (i := 2) (v := ?_) rfl (by kernel_rfl) (by kernel_rfl) (by kernel_rfl) (fun _ _ _ h => h) (Or.inl ⟨by rfl, ?_⟩) hHeld ?_
      rotate_left
      · (intro w hSw; (try dsimp only at hSw); go_simp; (try with_reducible rfl))
      simp only [List.getElem_toArray, List.getElem_cons_succ, List.getElem_cons_zero, Act.put, List.setIfInBounds_toArray, List.set_cons_zero, List.set_cons_succ]
      refine wpAnyH_take (i := 3) (v := ?_) rfl (by kernel_rfl) (by kernel_rfl) (by kernel_rfl) (fun _ _ _ h => h) (Or.inl ⟨by rfl, ?_⟩) hHeld ?_
      rotate_left
      · (intro w hSw; (try dsimp only at hSw); go_simp; (try with_reducible rfl))
      simp only [List.getElem_toArray, List.getElem_cons_succ, List.getElem_cons_zero, Act.put, List.setIfInBounds_toArray, List.set_cons_zero, List.set_cons_succ]
      refine wpAnyH_take (i := 4) (v := ?_) rfl (by kernel_rfl) (by kernel_rfl) (by kernel_rfl) (fun _ _ _ h => h) (Or.inl ⟨by rfl, ?_⟩) hHeld ?_
      rotate_left
      · (intro w hSw; (try dsimp only at hSw); go_simp; (try with_reducible rfl))
      simp only [List.getElem_toArray, List.getElem_cons_succ, List.getElem_cons_zero, Act.put, List.setIfInBounds_toArray, List.set_cons_zero, List.set_cons_succ]
      refine wpAnyH_take (i := 5) (v := ?_) rfl (by kernel_rfl) (by kernel_rfl) (by kernel_rfl) (fun _ _ _ h => h) (Or.inl ⟨by rfl, ?_⟩) hHeld ?_
      rotate_left
      · (intro w hSw; (try dsimp only at hSw); go_simp; (try with_reducible rfl))
      simp only [List.getElem_toArray, List.getElem_cons_succ, List.getElem_cons_zero, Act.put, List.setIfInBounds_toArray, List.set_cons_zero, List.set_cons_succ]
      refine wpAnyH_take (i := 6) (v := ?_) rfl (by kernel_rfl) (by kernel_rfl) (by kernel_rfl) (fun _ _ _ h => h) (Or.inl ⟨by rfl, ?_⟩) hHeld ?_
      rotate_left
      · (intro w hSw; (try dsimp only at hSw); go_simp; (try with_reducible rfl))
      simp only [List.getElem_toArray, List.getElem_cons_succ, List.getElem_cons_zero, Act.put, List.setIfInBounds_toArray, List.set_cons_zero, List.set_cons_succ]
      refine wpAnyH_take (i := 7) (v := ?_) rfl (by kernel_rfl) (by kernel_rfl) (by kernel_rfl) (fun _ _ _ h => h) (Or.inl ⟨by rfl, ?_⟩) hHeld ?_
      rotate_left
      · (intro w hSw; (try dsimp only at hSw); go_simp; (try with_reducible rfl))
      simp only [List.getElem_toArray, List.getElem_cons_succ, List.getElem_cons_zero, Act.put, List.setIfInBounds_toArray, List.set_cons_zero, List.set_cons_succ]
      refine wpAnyH_take (i := 8) (v := ?_) rfl (by kernel_rfl) (by kernel_rfl) (by kernel_rfl) (fun _ _ _ h => h) (Or.inl ⟨by rfl, ?_⟩) hHeld ?_
      rotate_left
      · (intro w hSw; (try dsimp only at hSw); go_simp; (try with_reducible rfl))
      simp only [List.getElem_toArray, List.getElem_cons_succ, List.getElem_cons_zero, Act.put, List.setIfInBounds_toArray, List.set_cons_zero, List.set_cons_succ]
      refine wpAnyH_take (i := 9) (v := ?_) rfl (by kernel_rfl) (by kernel_rfl) (by kernel_rfl) (fun _ _ _ h => h) (Or.inl ⟨by rfl, ?_⟩) hHeld ?_
      rotate_left
      · (intro w hSw; (try dsimp only at hSw); go_simp; (try with_reducible rfl))
      simp only [List.getElem_toArray, List.getElem_cons_succ, List.getElem_cons_zero, Act.put, List.setIfInBounds_toArray, List.set_cons_zero, List.set_cons_succ]
      refine wpAnyH_take (i := 10) (v := ?_) rfl (by kernel_rfl) (by kernel_rfl) (by kernel_rfl) (fun _ _ _ h => h) (Or.inl ⟨by rfl, ?_⟩) hHeld ?_
      rotate_left
      · (intro w hSw; (try dsimp only at hSw); go_simp; (try with_reducible rfl))
      simp only [List.getElem_toArray, List.getElem_cons_succ, List.getElem_cons_zero, Act.put, List.setIfInBounds_toArray, List.set_cons_zero, List.set_cons_succ]
      refine wpAnyH_take (i := 11) (v := ?_) rfl (by kernel_rfl) (by kernel_rfl) (by kernel_rfl) (fun _ _ _ h => h) (Or.inl ⟨by rfl, ?_⟩) hHeld ?_
      rotate_left
      · (intro w hSw; (try dsimp only at hSw); go_simp; (try with_reducible rfl))
      simp only [List.getElem_toArray, List.getElem_cons_succ, List.getElem_cons_zero, Act.put, List.setIfInBounds_toArray, List.set_cons_zero, List.set_cons_succ]
      have B0 : Below w19.heap.size w19 w19.drew := (Below.refl _ _).drew
      refine wpAnyH_ready (rs := [12, 16]) (by kernel_rfl) (by simp) (AllReadyH.cons rfl (fun K hK => ?_) (AllReadyH.cons rfl (fun K hK => ?_) AllReadyH.nil))
      · clear hHeld
        refine step_fnW (by rfl) (.func 21) [.tmp 180, .tmp 189, .tmp 191] _ rfl 21 [] (by simp [Act.eval]) _ Try.func21 (by kernel_rfl) (by kernel_rfl) (KR.out _ B0) (by simp [Act.eval]) ?_
        rintro e w4 ⟨v4, rfl, r4, o4, b4⟩
        refine ⟨_, rfl, ?_⟩
        have T4 := B0.trans (b4.mono B0.size)
        obtain ⟨aq, cq, rfl, _⟩ := id r4
        have RQ := Lib.hid ((RU.out.later B0).got b4 r4 o4 (fun h h1 => NZ.out _ _ r4 h h1))
        refine hK.out _ _ (SC.out _ T4) (fun hHeld => ?_)
        clear hK K o4 r4
        simp only [List.getElem_toArray, List.getElem_cons_succ, List.getElem_cons_zero, Act.put, List.setIfInBounds_toArray, List.set_cons_zero, List.set_cons_succ]
        refine wpAnyH_take (i := 13) (v := ?_) rfl (by kernel_rfl) (by kernel_rfl) (by kernel_rfl) (fun _ _ _ h => h) (Or.inl ⟨by rfl, ?_⟩) hHeld ?_
        rotate_left
        · (intro w hSw; (try dsimp only at hSw); go_simp; (try with_reducible rfl))
        simp only [List.getElem_toArray, List.getElem_cons_succ, List.getElem_cons_zero, Act.put, List.setIfInBounds_toArray, List.set_cons_zero, List.set_cons_succ]
        refine wpAnyH_take (i := 14) (v := ?_) rfl (by kernel_rfl) (by kernel_rfl) (by kernel_rfl) (fun _ _ _ h => h) (Or.inl ⟨by rfl, ?_⟩) hHeld ?_
        rotate_left
        · (intro w hSw; (try dsimp only at hSw); go_simp; (try with_reducible rfl))
        simp only [List.getElem_toArray, List.getElem_cons_succ, List.getElem_cons_zero, Act.put, List.setIfInBounds_toArray, List.set_cons_zero, List.set_cons_succ]
        refine wpAnyH_take (i := 15) (v := ?_) rfl (by kernel_rfl) (by kernel_rfl) (by kernel_rfl) (fun _ _ _ h => h) (Or.inl ⟨by rfl, ?_⟩) hHeld ?_
        rotate_left
        · (intro w hSw; (try dsimp only at hSw); go_simp; (try with_reducible rfl))
        simp only [List.getElem_toArray, List.getElem_cons_succ, List.getElem_cons_zero, Act.put, List.setIfInBounds_toArray, List.set_cons_zero, List.set_cons_succ]
        refine wpAnyH_ready (rs := [16]) (by kernel_rfl) (by simp) (AllReadyH.cons rfl (fun K hK => ?_) AllReadyH.nil)
        have T5 := T4.trans ((below_new w4 (.cells Page.zeroP 45)).mono T4.size)
        refine step_al (some 21) (by rfl) (by rfl) (by rfl) ?_
        clear hHeld
        refine hK.out _ _ (SC.out _ T5) (fun hHeld => ?_)
        clear hK K hHeld
        simp only [Act.put, List.setIfInBounds_toArray, List.set_cons_zero, List.set_cons_succ]
        refine wpAnyH_ready (rs := [17]) (by kernel_rfl) (by simp) (AllReadyH.cons rfl (fun K hK => ?_) AllReadyH.nil)
        have GG := Lib.hid (Got.put (heap_alloc_new w4 _) WV.out T4.size T5 (RQ.out.later (below_new w4 _)))
        refine step_st (X := p) none (by rfl) (by rfl) _ _ (by rfl) (by rfl) (by rfl) (heap_alloc_new w4 _) rfl ?_
        refine hK.out _ _ (SC.out _ GG.out.below) (fun hHeld => ?_)
        clear hK K
        simp only [Act.put]
        refine wpAnyH_take (i := 18) (v := ?_) rfl (by kernel_rfl) (by kernel_rfl) (by kernel_rfl) (fun _ _ _ h => h) (Or.inl ⟨by rfl, ?_⟩) hHeld ?_
        rotate_left
        · (intro w hSw; (try dsimp only at hSw); go_simp; (try with_reducible rfl))
        simp only [List.getElem_toArray, List.getElem_cons_succ, List.getElem_cons_zero, Act.put, List.setIfInBounds_toArray, List.set_cons_zero, List.set_cons_succ]
        refine wpAnyH_done (by kernel_rfl) ?_ _
        refine NoPanic.normal ?_
        go_wp2_with fail
        go_meet
        exact ⟨_, _, rfl, rfl, GG.out⟩
      · clear hHeld
        have T5 := B0.trans ((below_new w19.drew (.cells Page.zeroP 45)).mono B0.size)
        refine step_al (some 21) (by rfl) (by rfl) (by rfl) ?_
        have HX := heap_alloc_new w19.drew (.cells Page.zeroP 45)
        refine hK.out _ _ (SC.out _ T5) (fun hHeld => ?_)
        clear hK K hHeld
        simp only [Act.put, List.setIfInBounds_toArray, List.set_cons_zero, List.set_cons_succ]
        generalize World.alloc w19.drew _ = w5 at *
        refine wpAnyH_ready (rs := [12]) (by kernel_rfl) (by simp) (AllReadyH.cons rfl (fun K hK => ?_) AllReadyH.nil)
        refine step_fnW (by rfl) (.func 21) [.tmp 180, .tmp 189, .tmp 191] _ rfl 21 [] (by simp [Act.eval]) _ Try.func21 (by kernel_rfl) (by kernel_rfl) (KR.out _ T5) (by simp [Act.eval]) ?_
        rintro e w6 ⟨v6, rfl, r6, o6, b6⟩
        refine ⟨_, rfl, ?_⟩
        have T6 := T5.trans (b6.mono T5.size)
        obtain ⟨aq, cq, rfl, _⟩ := id r6
        have RQ := Lib.hid ((RU.out.later T5).got b6 r6 o6 (fun h h1 => NZ.out _ _ r6 h h1))
        refine hK.out _ _ (SC.out _ T6) (fun hHeld => ?_)
        clear hK K o6 r6
        simp only [List.getElem_toArray, List.getElem_cons_succ, List.getElem_cons_zero, Act.put, List.setIfInBounds_toArray, List.set_cons_zero, List.set_cons_succ]
        refine wpAnyH_take (i := 13) (v := ?_) rfl (by kernel_rfl) (by kernel_rfl) (by kernel_rfl) (fun _ _ _ h => h) (Or.inl ⟨by rfl, ?_⟩) hHeld ?_
        rotate_left
        · (intro w hSw; (try dsimp only at hSw); go_simp; (try with_reducible rfl))
        simp only [List.getElem_toArray, List.getElem_cons_succ, List.getElem_cons_zero, Act.put, List.setIfInBounds_toArray, List.set_cons_zero, List.set_cons_succ]
        refine wpAnyH_take (i := 14) (v := ?_) rfl (by kernel_rfl) (by kernel_rfl) (by kernel_rfl) (fun _ _ _ h => h) (Or.inl ⟨by rfl, ?_⟩) hHeld ?_
        rotate_left
        · (intro w hSw; (try dsimp only at hSw); go_simp; (try with_reducible rfl))
        simp only [List.getElem_toArray, List.getElem_cons_succ, List.getElem_cons_zero, Act.put, List.setIfInBounds_toArray, List.set_cons_zero, List.set_cons_succ]
        refine wpAnyH_take (i := 15) (v := ?_) rfl (by kernel_rfl) (by kernel_rfl) (by kernel_rfl) (fun _ _ _ h => h) (Or.inl ⟨by rfl, ?_⟩) hHeld ?_
        rotate_left
        · (intro w hSw; (try dsimp only at hSw); go_simp; (try with_reducible rfl))
        simp only [List.getElem_toArray, List.getElem_cons_succ, List.getElem_cons_zero, Act.put, List.setIfInBounds_toArray, List.set_cons_zero, List.set_cons_succ]
        clear hHeld
        have HX6 := (b6.block w19.drew.heap.size (Array.getElem?_eq_some_iff.1 HX).1).trans HX
        refine wpAnyH_ready (rs := [17]) (by kernel_rfl) (by simp) (AllReadyH.cons rfl (fun K hK => ?_) AllReadyH.nil)
        have GG := Lib.hid (Got.put HX6 WV.out (Nat.le_refl _) T6 RQ.out)
        refine step_st (X := p) none (by rfl) (by rfl) _ _ (by rfl) (by rfl) (by rfl) HX6 rfl ?_
        refine hK.out _ _ (SC.out _ GG.out.below) (fun hHeld => ?_)
        clear hK K
        simp only [Act.put]
        refine wpAnyH_take (i := 18) (v := ?_) rfl (by kernel_rfl) (by kernel_rfl) (by kernel_rfl) (fun _ _ _ h => h) (Or.inl ⟨by rfl, ?_⟩) hHeld ?_
        rotate_left
        · (intro w hSw; (try dsimp only at hSw); go_simp; (try with_reducible rfl))
        simp only [List.getElem_toArray, List.getElem_cons_succ, List.getElem_cons_zero, Act.put, List.setIfInBounds_toArray, List.set_cons_zero, List.set_cons_succ]
        refine wpAnyH_done (by kernel_rfl) ?_ _
        refine NoPanic.normal ?_
        go_wp2_with fail
        go_meet
        exact ⟨_, _, rfl, rfl, GG.out⟩
    case rest =>
    obtain ⟨g21, v21, rfl, rfl, G⟩ := hcut
    obtain ⟨aq, cq, rfl, _⟩ := id G.rows.r
    have XG : PBx _ g21 p (.slice aq p.rows.length cq) := ⟨G.box⟩
    have X21 := X19.out.later G.below
    have RP21 := RP19.out.later G.below
    have KS3 := Lib.hid (KS0.out _ _ G.rows.r RP21.r)
    have B21 := Lib.hid (B19.out.trans (G.below.mono B19.out.size))
    obtain ⟨x0, x1, x2, x3, x4, x5⟩ := X21.six
    obtain ⟨y0, y1, y2, y3, y4, y5⟩ := XG.six
    clear G XG X21 RP21 KR NZ SC RU WV XS X19 RP19 B19 TX KS0
    go_wp2_with (first | (go_at_call 25; (with_reducible refine KS3.out.mono ?_); rintro e w24 ⟨rfl, b24⟩) | (go_at_call 10; (with_reducible refine (alive_any _).mono ?_); rintro e w25 ⟨rfl, d25⟩))
    go_ret
    exact ⟨rfl, (B21.out.trans (b24.mono B21.out.size)).trans (d25.mono (B21.out.trans (b24.mono B21.out.size)).size)⟩

end Go.Proofs.Yticnbicnefnhbaa.Op
