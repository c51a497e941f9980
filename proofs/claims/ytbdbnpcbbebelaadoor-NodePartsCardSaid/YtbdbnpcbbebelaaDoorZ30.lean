/-
  Walks: the answers that the document fixes.
-/
import Derived.Test.YtbdbnpcbbebelaaDoorZ29
import Derived.Test.YtbdbnpcbbebelaaDoorZ7
namespace Go.Proofs.YtbdbnpcbbebelaaDoor.Row
open Go.RowKit
attribute [local go_sem ↓] Go.wp_at_zero Go.wp_at_succ

theorem dec_ent {e : En} (hw : e.wf) (hm : mayE e = true) : okE (entS e) = true ∧ decN (entS e) = e := by
  obtain ⟨p1, p2, p3⟩ := mayE_parts hm
  have es : entS e = nb 4 e.child ++ e.key := by unfold entS; rw [if_pos hm]
  have z := nb_size 4 e.child
  have zs : (nb 4 e.child ++ e.key).size = 4 + e.key.size := by rw [ByteArray.size_append, z]
  have n0 : numAt (nb 4 e.child ++ e.key) 0 4 = e.child := by
    have := num_mid ⟨#[]⟩ (nb 4 e.child) e.key 0 4 e.child rfl rfl hw.child
    rw [show (⟨#[]⟩ : ByteArray) ++ nb 4 e.child = nb 4 e.child by simp [ByteArray.ext_iff]] at this
    exact this
  have c0 : (nb 4 e.child ++ e.key).extract 4 (4 + e.key.size) = e.key := by
    have := cut_mid (nb 4 e.child) e.key ⟨#[]⟩ 4 (4 + e.key.size) z rfl
    rw [show nb 4 e.child ++ e.key ++ (⟨#[]⟩ : ByteArray) = nb 4 e.child ++ e.key by simp [ByteArray.ext_iff]] at this
    exact this
  have hx : (⟨(nb 4 e.child ++ e.key).extract 4 (nb 4 e.child ++ e.key).size, numAt (nb 4 e.child ++ e.key) 0 4⟩ : En) = e := by rw [zs, n0, c0]
  have hok : okE (entS e) = true := by
    rw [es]
    unfold okE
    rw [hx, hm, zs, decide_eq_true (by omega)]
    rfl
  refine ⟨hok, ?_⟩
  rw [(okE_yes hok).1, es, hx]
theorem ent_inj {a b : En} (ha : a.wf) (hb : b.wf) (ma : mayE a = true) (mb : mayE b = true) (h : entS a = entS b) : a = b := by
  have h1 := (dec_ent ha ma).2
  have h2 := (dec_ent hb mb).2
  rw [← h1, h, h2]

def alR : Rw := ⟨⟨#[97]⟩, false, 0, 0, 0, ⟨#[120, 121]⟩, 1⟩
def alE : En := ⟨⟨#[107]⟩, 258⟩
theorem al_facts : mayR alR = true ∧ mayR Rw.zero = false ∧ mayE alE = true ∧ (encS alR).size = 21 ∧ (encS alR).extract 14 21 = ⟨#[0, 1, 97, 2, 120, 121, 0]⟩ ∧ entS alE = ⟨#[0, 0, 1, 2, 107]⟩ ∧ sizeR alR = 21 ∧ okE ⟨#[0, 0, 0, 0]⟩ = false := by decide +kernel
theorem al_wf : alR.wf := ⟨by decide, by decide, by decide, by decide, by decide, by decide⟩
theorem zero_wf : Rw.zero.wf := ⟨by decide, by decide, by decide, by decide, by decide, by decide⟩
theorem ale_wf : alE.wf := ⟨by decide, by decide⟩

theorem Bx.al {W0 w : World} {g : Nat} (h : Bx W0 w g alR) : w.cell? ⟨g, 0, none⟩ = some (.string ⟨#[97]⟩) ∧ w.cell? ⟨g, 1, none⟩ = some (.bool false) ∧ w.cell? ⟨g, 2, none⟩ = some (.int .u64 0) ∧ w.cell? ⟨g, 3, none⟩ = some (.int .u32 0) ∧ w.cell? ⟨g, 4, none⟩ = some (.int .u16 0) ∧ w.cell? ⟨g, 5, none⟩ = some (.string ⟨#[120, 121]⟩) ∧ w.cell? ⟨g, 6, none⟩ = some (.int .i64 1) := h.all
theorem Ex.al {W0 w : World} {g : Nat} (h : Ex W0 w g alE) : w.cell? ⟨g, 0, none⟩ = some (.string ⟨#[107]⟩) ∧ w.cell? ⟨g, 1, none⟩ = some (.int .u32 258) := h.all

end Go.Proofs.YtbdbnpcbbebelaaDoor.Row
