/- Walks: the document's example. -/
import Derived.Test.YtadhophiannigaaCW13
import Derived.Test.YtadhophiannigaaCM4
import Derived.Deep.DeepCutAuto
namespace Go.Proofs.Ytadhophiannigaa.Rec
open Go.RowKit
attribute [local go_sem ↓] Go.wp_at_zero Go.wp_at_succ

def alC : Rc := ⟨1, 1, 0, 0, 0, 0, 0, ⟨#[]⟩, [], [], 0, 0⟩
def alZ : Rc := ⟨1, 0, 0, 0, 0, 0, 0, ⟨#[]⟩, [], [], 0, 0⟩
def alU : Rc := ⟨2, 0, 0, 1, 0, 0, 0, ⟨#[]⟩, [], [], 0, 0⟩
def alV : Rc := ⟨2, 0, 0, 0, 0, 0, 0, ⟨#[]⟩, [], [], 0, 0⟩
def alS : ByteArray := ⟨#[1, 0, 0, 0, 0, 0, 0, 0, 1, 0, 0, 0, 0, 0, 0, 0, 0]⟩
def alX : ByteArray := ⟨#[1, 0, 0, 0, 0, 0, 0, 0, 1, 0, 0, 0, 0, 0, 0, 0, 0, 120]⟩
theorem al_join : alS ++ ⟨#[120]⟩ = alX := by decide +kernel
theorem al_facts : mayC alC = true ∧ mayC alZ = false ∧ encS alC = alS ∧ okC alX = false ∧ undoneC alU = true ∧ undoneC alV = false := by decide +kernel
theorem al_in (w : World) : InR w alC (.slice none 0 0) (.slice none 0 0) :=
  ⟨{ (InR.zero w).wf with kind := (by decide : 1 < 256), tx := (by decide : 1 < 18446744073709551616) }, IsDi.nil w, IsAc.nil w⟩
theorem alz_in (w : World) : InR w alZ (.slice none 0 0) (.slice none 0 0) :=
  ⟨{ (InR.zero w).wf with kind := (by decide : 1 < 256) }, IsDi.nil w, IsAc.nil w⟩


theorem g0 : whB (encS alC) = true ∧ rdC (encS alC) = alC := dec_enc (al_in default).wf al_facts.1
theorem ka (W : World) : Calls Try.prog 9 #[recV alC (.slice none 0 0) (.slice none 0 0)] W fun e w' => e = .returned (.tuple #[.string alS, .int .i64 0]) ∧ Below W.heap.size W w' := by
  have := encode_any (al_in W)
  rw [al_facts.2.2.1, show encE alC = 0 from if_pos al_facts.1] at this
  exact this
theorem kz (W : World) : ∃ z, Calls Try.prog 9 #[recV alZ (.slice none 0 0) (.slice none 0 0)] W fun e w' => e = .returned (.tuple #[.string z, .int .i64 2]) ∧ Below W.heap.size W w' := by
  have := encode_any (alz_in W)
  rw [show encE alZ = 2 from if_neg (by rw [al_facts.2.1]; decide)] at this
  exact ⟨_, this⟩
theorem kd' (W : World) (g1 : whB (encS alC) = true) (g2 : rdC (encS alC) = alC) : Calls Try.prog 17 #[.string alS] W fun e w' => ∃ d u, e = .returned (.tuple #[recV alC d u, .int .i64 0]) ∧ InR w' alC d u ∧ Below W.heap.size W w' := (decode_any alS W (by decide +kernel)).mono fun e w' h => by
  obtain ⟨d, u, h1, h2, h3⟩ := h
  rw [al_facts.2.2.1] at g1 g2
  obtain ⟨e1, e2⟩ := is_ok (s := alS) (by unfold okC; rw [g1, g2, al_facts.1]; rfl)
  rw [e1, g2] at h1 h2
  rw [e2] at h1
  exact ⟨d, u, h1, h2, h3⟩
theorem kx (W : World) : Calls Try.prog 17 #[.string alX] W fun e w' => ∃ d u, e = .returned (.tuple #[recV Rc.zero d u, .int .i64 7]) ∧ InR w' Rc.zero d u ∧ Below W.heap.size W w' := (decode_any alX W (by decide +kernel)).mono fun e w' h => by
  obtain ⟨d, u, h1, h2, h3⟩ := h
  obtain ⟨e1, e2⟩ := not_ok (s := alX) (by rw [al_facts.2.2.2.1]; decide)
  rw [e1] at h1 h2
  rw [e2] at h1
  exact ⟨d, u, h1, h2, h3⟩
theorem ku (W : World) : Calls Try.prog 16 #[recV alU (.slice none 0 0) (.slice none 0 0)] W fun e w' => e = .returned (.bool true) ∧ Below W.heap.size W w' := by have := undone_any alU (.slice none 0 0) (.slice none 0 0) W; rw [al_facts.2.2.2.2.1] at this; exact this
theorem kv (W : World) : Calls Try.prog 16 #[recV alV (.slice none 0 0) (.slice none 0 0)] W fun e w' => e = .returned (.bool false) ∧ Below W.heap.size W w' := by have := undone_any alV (.slice none 0 0) (.slice none 0 0) W; rw [al_facts.2.2.2.2.2] at this; exact this
set_option maxRecDepth 100000 in
set_option maxHeartbeats 4000000 in
theorem works_any (w : World) : Calls Try.prog 8 #[] w fun e w' => e = .returned (.bool true) ∧ Below w.heap.size w w' := by
  have KA := Lib.hid ka
  have KZ := Lib.hid kz
  have KD := Lib.hid (fun W => kd' W g0.1 g0.2)
  have KX := Lib.hid kx
  have KU := Lib.hid ku
  have KV := Lib.hid kv
  have hj := al_join
  unfold recV recC alC alZ alU alV alS alX Rc.zero at *
  simp only at *
  go_enter Try.func8, Try.ntmps8
  go_wp2_with fail
  refine (KA.out _).mono ?_
  rintro e w1 ⟨rfl, b1⟩
  have B1 := Lib.hid b1
  clear b1 KA
  go_wp2_with fail
  refine (KD.out _).mono ?_
  rintro e w2 ⟨d, u, rfl, i2, b2⟩
  obtain ⟨ad, c, e1⟩ := i2.di.form
  obtain ⟨ad2, c2, e2⟩ := i2.ac.form
  simp only at e1 e2
  subst e1 e2
  have T2 := Lib.hid (Bx.make (W0 := w) alC (.slice ad ([] : List Di).length c) (.slice ad2 ([] : List Ac).length c2) (B1.out.trans (b2.mono B1.out.size)))
  unfold recC alC at T2
  simp only at T2
  clear b2 B1 i2 KD
  go_wp2_with fail
  generalize w2.heap.size = g at *
  generalize w2.alloc _ = W2 at *
  obtain ⟨z, KZ2⟩ := KZ.out W2
  refine KZ2.mono ?_
  rintro e w3 ⟨rfl, b3⟩
  have T3 := Lib.hid (T2.out.later b3)
  clear b3 T2 KZ KZ2
  go_wp2_with fail
  refine (KX.out _).mono ?_
  rintro e w4 ⟨d, u, rfl, i4, b4⟩
  obtain ⟨ad3, c3, e1⟩ := i4.di.form
  obtain ⟨ad4, c4, e2⟩ := i4.ac.form
  simp only at e1 e2
  subst e1 e2
  have T4 := T3.out.later b4
  have T5 := Lib.hid (T4.later (below_new w4 (.cells (recC Rc.zero (.slice ad3 ([] : List Di).length c3) (.slice ad4 ([] : List Ac).length c4)) 32)))
  unfold recC Rc.zero at T5
  simp only at T5
  clear b4 T4 T3 i4 KX
  go_upto_region 5 with fail
  generalize w4.alloc _ = W4 at *
  obtain ⟨a0, a1, a2, a3, a4, a5, a6, a7, a8, a9, a10, a11⟩ := T5.out.all
  simp only at a0 a1
  go_wp2_with fail
  refine (KU.out _).mono ?_
  rintro e w5 ⟨rfl, b5⟩
  have T6 := Lib.hid (T5.out.later b5)
  clear b5 T5 KU a0 a1 a2 a3 a4 a5 a6 a7 a8 a9 a10 a11
  go_wp2_with fail
  refine (KV.out _).mono ?_
  rintro e w6 ⟨rfl, b6⟩
  have T7 := Lib.hid (T6.out.later b6).below
  clear b6 T6 KV
  go_wp2_with fail
  go_ret
  exact ⟨rfl, T7.out⟩

end Go.Proofs.Ytadhophiannigaa.Rec
