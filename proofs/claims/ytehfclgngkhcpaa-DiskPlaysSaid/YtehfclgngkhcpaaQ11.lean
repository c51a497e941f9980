/- The walk of DiskPlays. -/
import Derived.Test.YtehfclgngkhcpaaQ10
import Derived.Deep.DeepCutAuto
import Derived.Deep.CutBlock
namespace Go.Proofs.Ytehfclgngkhcpaa.Disk
open Go.RowKit
attribute [local go_sem ↓] Go.wp_at_zero Go.wp_at_succ

/-- what New, or Load, and the document's, have made -/
def Made (w1 : World) (dv ev xv : Value) (wx : World) : Prop :=
  (dv = .pointer none ∧ ev = .int .i64 2 ∧ xv = .pointer none ∧ Below w1.heap.size w1 wx) ∨
  (∃ p q D, dv = .pointer (some ⟨p, 0, none⟩) ∧ ev = .int .i64 0 ∧ xv = .pointer (some ⟨q, 0, none⟩) ∧ Play w1 wx p q D D (fun _ => False) ∧ D.loose = [])
theorem Made.both {w0 w1 w2 w3 : World} {p q : Nat} {D : D} (hb : Below w0.heap.size w0 w1) (h1 : Rep w2 p D (Fresh w1 w2) ∧ Below w1.heap.size w1 w2) (h2 : QRep w3 q D (Fresh w2 w3) ∧ Below w2.heap.size w2 w3) : Play w0 w3 p q D D (fun _ => False) := by
  have s1 := h1.2.size
  have s2 := h2.2.size
  have s0 := hb.size
  have o0 : Own w0 w1 (fun _ => False) [] := ⟨hb, fun _ h => h.elim, fun _ _ => False, by simp, fun _ _ h => h.elim, fun _ _ _ _ h => h.elim, fun _ _ h => h.elim, fun _ _ h => h.elim⟩
  have o1 := (o0.add h1).1
  refine ⟨Fresh w2 w3, o1.laterE h2.2 (fun x hx => ?_), h2.1, fun _ _ h => h⟩
  rcases hx with hx | hx
  · exact .inr hx
  · exact hx.elim

set_option maxRecDepth 100000 in
theorem new_tot (n : Int) (w : World) (h : ¬ (64 < n ∧ n ≤ 16384)) : Calls Try.prog 11 #[.int .i64 n] w fun e w' => (∃ dv ev, e = .returned (.tuple #[dv, ev]) ∧ Below w.heap.size w w' ∧ ((dv = .pointer none ∧ ev = .int .i64 2 ∧ (n < 1 ∨ 16384 < n)) ∨ ∃ p, dv = .pointer (some ⟨p, 0, none⟩) ∧ ev = .int .i64 0 ∧ 1 ≤ n ∧ n ≤ 16384 ∧ Rep w' p (D.new n.toNat) (Fresh w w'))) := by
  by_cases h1 : n < 1 ∨ 16384 < n
  · refine (new_arg n w h1).mono ?_
    rintro e w' ⟨rfl, rfl⟩
    exact ⟨_, _, rfl, Below.refl _ _, .inl ⟨rfl, rfl, h1⟩⟩
  · obtain ⟨m, rfl⟩ : ∃ m : Nat, n = (m : Int) := ⟨n.toNat, by omega⟩
    refine (new_any m w (by omega) (by omega)).mono ?_
    rintro e w' ⟨rfl, h2, h3⟩
    exact ⟨_, _, rfl, h3, .inr ⟨_, rfl, rfl, by omega, by omega, by simpa using h2⟩⟩
set_option maxRecDepth 100000 in
theorem qnew_tot (n : Int) (w : World) : Calls Try.prog 12 #[.int .i64 n] w fun e w' => (∃ xv, e = .returned xv ∧ Below w.heap.size w w' ∧ ((xv = .pointer none ∧ (n < 1 ∨ 16384 < n)) ∨ ∃ q, xv = .pointer (some ⟨q, 0, none⟩) ∧ 1 ≤ n ∧ n ≤ 16384 ∧ QRep w' q (D.new n.toNat) (Fresh w w'))) := by
  by_cases h1 : n < 1 ∨ 16384 < n
  · refine (qnew_arg n w h1).mono ?_
    rintro e w' ⟨rfl, rfl⟩
    exact ⟨_, rfl, Below.refl _ _, .inl ⟨rfl, h1⟩⟩
  · obtain ⟨m, rfl⟩ : ∃ m : Nat, n = (m : Int) := ⟨n.toNat, by omega⟩
    refine (qnew_any m w (by omega) (by omega)).mono ?_
    rintro e w' ⟨rfl, h2, h3⟩
    exact ⟨_, rfl, h3, .inr ⟨_, rfl, by omega, by omega, by simpa using h2⟩⟩
set_option maxRecDepth 100000 in
theorem load_tot (img : ByteArray) (w : World) (hi : img.size ≤ 2048) : Calls Try.prog 13 #[.string img] w fun e w' => (∃ dv ev, e = .returned (.tuple #[dv, ev]) ∧ Below w.heap.size w w' ∧ ((dv = .pointer none ∧ ev = .int .i64 2 ∧ ¬ (img.size % 128 = 0 ∧ 1 ≤ img.size / 128)) ∨ ∃ p, dv = .pointer (some ⟨p, 0, none⟩) ∧ ev = .int .i64 0 ∧ (img.size % 128 = 0 ∧ 1 ≤ img.size / 128) ∧ Rep w' p ⟨parts img.data.toList (img.size / 128), [], -1⟩ (Fresh w w'))) := by
  by_cases h1 : img.size % 128 = 0 ∧ 1 ≤ img.size / 128
  · refine (load_any img w (img.size / 128) (by omega) h1.2 (by omega)).mono ?_
    rintro e w' ⟨p, rfl, h2, h3⟩
    exact ⟨_, _, rfl, h3, .inr ⟨p, rfl, rfl, h1, h2⟩⟩
  · refine (load_arg img w (by omega) (by omega)).mono ?_
    rintro e w' ⟨rfl, rfl⟩
    exact ⟨_, _, rfl, Below.refl _ _, .inl ⟨rfl, rfl, h1⟩⟩
set_option maxRecDepth 100000 in
theorem qload_tot (img : ByteArray) (w : World) (hi : img.size ≤ 2048) : Calls Try.prog 14 #[.string img] w fun e w' => (∃ xv, e = .returned xv ∧ Below w.heap.size w w' ∧ ((xv = .pointer none ∧ ¬ (img.size % 128 = 0 ∧ 1 ≤ img.size / 128)) ∨ ∃ q, xv = .pointer (some ⟨q, 0, none⟩) ∧ (img.size % 128 = 0 ∧ 1 ≤ img.size / 128) ∧ QRep w' q ⟨parts img.data.toList (img.size / 128), [], -1⟩ (Fresh w w'))) := by
  by_cases h1 : img.size % 128 = 0 ∧ 1 ≤ img.size / 128
  · refine (qload_any img w (img.size / 128) (by omega) h1.2 (by omega)).mono ?_
    rintro e w' ⟨p, rfl, h2, h3⟩
    exact ⟨_, rfl, h3, .inr ⟨p, rfl, h1, h2⟩⟩
  · refine (qload_arg img w (by omega) (by omega)).mono ?_
    rintro e w' ⟨rfl, rfl⟩
    exact ⟨_, rfl, Below.refl _ _, .inl ⟨rfl, h1⟩⟩

end Go.Proofs.Ytehfclgngkhcpaa.Disk
