/- Walks: the answers that the document fixes. -/
import Derived.Test.YtobnenjhmkbdoaaDoorOM2
import Derived.Test.YtobnenjhmkbdoaaDoorOE2
namespace Go.Proofs.YtobnenjhmkbdoaaDoor.Row
open Go.RowKit
attribute [local go_sem ↓] Go.wp_at_zero Go.wp_at_succ

theorem dec_ent {e : En} (hw : e.wf) (hm : mayE e = true) : okE (entS e) = true ∧ decN (entS e) = e := by
  obtain ⟨p1, p2, p3⟩ := mayE_parts hm
  have es : entS e = nb 4 e.child ++ e.key := by unfold entS; rw [if_pos hm]
  have z := nb_size 4 e.child
  have zs : (nb 4 e.child ++ e.key).size = 4 + e.key.size := by rw [ByteArray.size_append, z]
  have n0 : numAt (nb 4 e.child ++ e.key) 0 4 = e.child := by
    have := num_mid ⟨#[]⟩ (nb 4 e.child) e.key 0 4 e.child rfl rfl hw.child
    rw [show (⟨#[]⟩ : ByteArray) ++ nb 4 e.child = nb 4 e.child by simp [ByteArray.ext_iff]] at this
    exact this
  have c0 : (nb 4 e.child ++ e.key).extract 4 (4 + e.key.size) = e.key := by
    have := cut_mid (nb 4 e.child) e.key ⟨#[]⟩ 4 (4 + e.key.size) z rfl
    rw [show nb 4 e.child ++ e.key ++ (⟨#[]⟩ : ByteArray) = nb 4 e.child ++ e.key by simp [ByteArray.ext_iff]] at this
    exact this
  have hx : (⟨(nb 4 e.child ++ e.key).extract 4 (nb 4 e.child ++ e.key).size, numAt (nb 4 e.child ++ e.key) 0 4⟩ : En) = e := by rw [zs, n0, c0]
  have hok : okE (entS e) = true := by
    rw [es]
    unfold okE
    rw [hx, hm, zs, decide_eq_true (by omega)]
    rfl
  refine ⟨hok, ?_⟩
  rw [(okE_yes hok).1, es, hx]
theorem ent_inj {a b : En} (ha : a.wf) (hb : b.wf) (ma : mayE a = true) (mb : mayE b = true) (h : entS a = entS b) : a = b := by
  have h1 := (dec_ent ha ma).2
  have h2 := (dec_ent hb mb).2
  rw [← h1, h, h2]

def alR : Rw := ⟨⟨#[97]⟩, false, 0, 0, 0, ⟨#[120, 121]⟩, 1⟩
def alE : En := ⟨⟨#[107]⟩, 258⟩
theorem al_facts : mayR alR = true ∧ mayR Rw.zero = false ∧ mayE alE = true ∧ (encS alR).size = 21 ∧ (encS alR).extract 14 21 = ⟨#[0, 1, 97, 2, 120, 121, 0]⟩ ∧ entS alE = ⟨#[0, 0, 1, 2, 107]⟩ ∧ sizeR alR = 21 ∧ okE ⟨#[0, 0, 0, 0]⟩ = false := by decide +kernel
theorem al_wf : alR.wf := ⟨by decide, by decide, by decide, by decide, by decide, by decide⟩
theorem zero_wf : Rw.zero.wf := ⟨by decide, by decide, by decide, by decide, by decide, by decide⟩
theorem ale_wf : alE.wf := ⟨by decide, by decide⟩

theorem Bx.al {W0 w : World} {g : Nat} (h : Bx W0 w g alR) : w.cell? ⟨g, 0, none⟩ = some (.string ⟨#[97]⟩) ∧ w.cell? ⟨g, 1, none⟩ = some (.bool false) ∧ w.cell? ⟨g, 2, none⟩ = some (.int .u64 0) ∧ w.cell? ⟨g, 3, none⟩ = some (.int .u32 0) ∧ w.cell? ⟨g, 4, none⟩ = some (.int .u16 0) ∧ w.cell? ⟨g, 5, none⟩ = some (.string ⟨#[120, 121]⟩) ∧ w.cell? ⟨g, 6, none⟩ = some (.int .i64 1) := h.all
theorem Ex.al {W0 w : World} {g : Nat} (h : Ex W0 w g alE) : w.cell? ⟨g, 0, none⟩ = some (.string ⟨#[107]⟩) ∧ w.cell? ⟨g, 1, none⟩ = some (.int .u32 258) := h.all

set_option maxRecDepth 100000 in
set_option maxHeartbeats 4000000 in
theorem alive_any (w : World) : Calls Tryd.prog 9 #[] w fun e w' => e = .returned (.bool true) ∧ Below w.heap.size w w' := by
  obtain ⟨m1, m2, m3, m4, m5, m6, m7, m8⟩ := al_facts
  have hE : ∀ W, Calls Tryd.prog 10 #[.agg #[.string ⟨#[97]⟩, .bool false, .int .u64 0, .int .u32 0, .int .u16 0, .string ⟨#[120, 121]⟩, .int .i64 1]] W fun e w' => e = .returned (.tuple #[.string (encS alR), .int .i64 0]) ∧ Below W.heap.size W w' := fun W => by
    have := encode_any alR W al_wf
    rw [show encE alR = 0 by unfold encE; rw [if_pos m1]] at this
    exact this
  have hD : ∀ W, Calls Tryd.prog 15 #[.string (encS alR)] W fun e w' => e = .returned (.tuple #[.agg #[.string ⟨#[97]⟩, .bool false, .int .u64 0, .int .u32 0, .int .u16 0, .string ⟨#[120, 121]⟩, .int .i64 1], .int .i64 0]) ∧ Below W.heap.size W w' := fun W => by
    have := decode_any (encS alR) W (by omega)
    obtain ⟨k1, k2⟩ := dec_enc al_wf m1
    obtain ⟨k3, k4⟩ := is_ok k1
    rw [k3, k4, k2] at this
    exact this
  have hZ : ∀ W, ∃ z, Calls Tryd.prog 10 #[.agg #[.string ⟨#[]⟩, .bool false, .int .u64 0, .int .u32 0, .int .u16 0, .string ⟨#[]⟩, .int .i64 0]] W fun e w' => e = .returned (.tuple #[.string z, .int .i64 2]) ∧ Below W.heap.size W w' := fun W => by
    have := encode_any Rw.zero W zero_wf
    rw [show encE Rw.zero = 2 by unfold encE; rw [if_neg (by rw [m2]; decide)]] at this
    exact ⟨_, this⟩
  have hN : ∀ W, Calls Tryd.prog 19 #[.agg #[.string ⟨#[107]⟩, .int .u32 258]] W fun e w' => e = .returned (.tuple #[.string ⟨#[0, 0, 1, 2, 107]⟩, .int .i64 0]) ∧ Below W.heap.size W w' := fun W => by
    have := ent_any alE W ale_wf
    rw [show entE alE = 0 by unfold entE; rw [if_pos m3], m6] at this
    exact this
  have hM : ∀ W, Calls Tryd.prog 17 #[.string ⟨#[0, 0, 1, 2, 107]⟩] W fun e w' => e = .returned (.tuple #[.agg #[.string ⟨#[107]⟩, .int .u32 258], .int .i64 0]) ∧ Below W.heap.size W w' := fun W => by
    have := dece_any ⟨#[0, 0, 1, 2, 107]⟩ W (by decide)
    obtain ⟨k1, k2⟩ := dec_ent ale_wf m3
    rw [m6] at k1 k2
    unfold DecQ at this
    rw [k2, (okE_yes k1).2] at this
    exact this
  have hO : ∀ W, Calls Tryd.prog 17 #[.string ⟨#[0, 0, 0, 0]⟩] W fun e w' => e = .returned (.tuple #[.agg #[.string ⟨#[]⟩, .int .u32 0], .int .i64 7]) ∧ Below W.heap.size W w' := fun W => by
    have := dece_any ⟨#[0, 0, 0, 0]⟩ W (by decide)
    obtain ⟨k1, k2⟩ := okE_no (s := ⟨#[0, 0, 0, 0]⟩) (by rw [m8]; decide)
    unfold DecQ at this
    rw [k1, k2] at this
    exact this
  have hS : ∀ W, Calls Tryd.prog 14 #[.agg #[.string ⟨#[97]⟩, .bool false, .int .u64 0, .int .u32 0, .int .u16 0, .string ⟨#[120, 121]⟩, .int .i64 1]] W fun e w' => e = .returned (.int .i64 21) ∧ Below W.heap.size W w' := fun W => by
    have := size_any alR W al_wf
    rw [m7] at this
    exact this
  have hsl : ∀ W : World, (Instr.sliceAt 9 (.string (encS alR)) (some (.int .i64 14)) none none).run Tryd.prog W = .ok (.string ⟨#[0, 1, 97, 2, 120, 121, 0]⟩) W := fun W => by
    have := cut_high (encS alR) 14 (by omega) W
    rw [m4, m5] at this
    exact this
  have s21 : ((encS alR).size : Int) = 21 := by rw [m4]; rfl
  have HE := Lib.hid hE
  have HD := Lib.hid hD
  have HZ := Lib.hid hZ
  have HN := Lib.hid hN
  have HM := Lib.hid hM
  have HO := Lib.hid hO
  have HS := Lib.hid hS
  clear m1 m2 m3 m4 m5 m6 m7 m8 hE hD hZ hN hM hO hS
  generalize encS alR = S at *
  have T0 := Lib.hid (Bx.start w alR)
  go_enter Tryd.func9, Tryd.ntmps9
  go_wp2_with fail
  refine (HE.out _).mono ?_
  rintro e w1 ⟨rfl, b1⟩
  have T1 := Lib.hid (T0.out.later b1)
  clear T0 b1 HE
  generalize w.heap.size = g at *
  go_wp2_with fail
  refine (HD.out _).mono ?_
  rintro e w2 ⟨rfl, b2⟩
  have T2 := Lib.hid (T1.out.later b2)
  clear T1 b2 HD
  go_wp2_with fail
  have A2 := Lib.hid (Bx.make alR T2.out.below)
  have T3 := Lib.hid (T2.out.later (below_new w2 (.cells (rwC alR) 28)))
  change Calls _ _ _ (w2.alloc (.cells (rwC alR) 28)) _
  generalize w2.alloc (.cells (rwC alR) 28) = W3 at *
  generalize w2.heap.size = g2 at *
  clear T2
  obtain ⟨z, hz⟩ := HZ.out W3
  refine hz.mono ?_
  rintro e w4 ⟨rfl, b4⟩
  have T4 := Lib.hid (T3.out.later b4)
  have A4 := Lib.hid (A2.out.later b4)
  clear T3 A2 b4 HZ
  go_wp2_with fail
  refine (HN.out _).mono ?_
  rintro e w5 ⟨rfl, b5⟩
  have T5 := Lib.hid (T4.out.later b5)
  have A5 := Lib.hid (A4.out.later b5)
  clear T4 A4 b5 HN
  go_wp2_with fail
  refine (HM.out _).mono ?_
  rintro e w6 ⟨rfl, b6⟩
  have T6 := Lib.hid (T5.out.later b6)
  have A6 := Lib.hid (A5.out.later b6)
  clear T5 A5 b6 HM
  go_wp2_with fail
  have X6 := Lib.hid (Ex.make alE T6.out.below)
  have bn := below_new w6 (.cells (enC alE) 42)
  have T7 := Lib.hid (T6.out.later bn)
  have A7 := Lib.hid (A6.out.later bn)
  change Calls _ _ _ (w6.alloc (.cells (enC alE) 42)) _
  generalize w6.alloc (.cells (enC alE) 42) = W7 at *
  generalize w6.heap.size = g3 at *
  clear bn T6 A6
  refine (HO.out _).mono ?_
  rintro e w8 ⟨rfl, b8⟩
  have T8 := Lib.hid (T7.out.later b8)
  have A8 := Lib.hid (A7.out.later b8)
  have X8 := Lib.hid (X6.out.later b8)
  clear T7 A7 X6 b8 HO
  have bn := below_new w8 (.cells #[.string ⟨#[]⟩, .int .u32 0] 42)
  have T9 := Lib.hid (T8.out.later bn)
  have A9 := Lib.hid (A8.out.later bn)
  have X9 := Lib.hid (X8.out.later bn)
  obtain ⟨a0, a1, a2, a3, a4, a5, a6⟩ := T9.out.al
  obtain ⟨c0, c1, c2, c3, c4, c5, c6⟩ := A9.out.al
  obtain ⟨d0, d1⟩ := X9.out.al
  clear bn T8 A8 X8
  have HSZ := Lib.hid (fun W => HS.out W)
  unfold enC at *
  go_wp2_with fail
  refine (HS.out _).mono ?_
  rintro e w10 ⟨rfl, b10⟩
  have E10 := Lib.hid (T9.out.later b10).below
  have X10 := Lib.hid (X9.out.later b10)
  clear T9 A9 X9 b10 a0 a1 a2 a3 a4 a5 a6 c0 c1 c2 c3 c4 c5 c6 d0 d1 HS
  obtain ⟨d0, d1⟩ := X10.out.al
  go_wp2_with fail
  go_ret
  exact ⟨rfl, E10.out⟩

end Go.Proofs.YtobnenjhmkbdoaaDoor.Row
